/- spec.SplitLines and impl.SplitLines: the parts between newlines; the last one only if it is not empty. -/
import Derived.Test.YtbngllbbgjhckaaPieces
import Derived.Test.YtbngllbbgjhckaaMark
namespace Go.Proofs.Ytbngllbbgjhckaa
open Go.RowKit

def linesOf (s : ByteArray) : List ByteArray := if (pst s 10 s.size).2 < s.size then (pst s 10 s.size).1 ++ [s.extract (pst s 10 s.size).2 s.size] else (pst s 10 s.size).1
theorem linesOf_len (s : ByteArray) : (linesOf s).length ≤ s.size + 1 := by
  have h := pst_le s 10 s.size
  unfold linesOf
  split
  · rw [List.length_append, List.length_singleton]; omega
  · omega

set_option maxHeartbeats 800000 in
theorem spec_lines (s : ByteArray) (w : World) (hs : s.size ≤ 1048576) :
    Calls Try.prog 11 #[.string s] w fun e w' => ∃ v, e = .returned v ∧ w'.ownsRow w.heap.size 9 1 v (linesOf s).length (strs (linesOf s)) ∧ Below w.heap.size w w' := by
  obtain ⟨i0, hi, hz0, hz1, hz2⟩ := info_parts infoStr
  have J0 := Lib.hid hi
  have J1 := Lib.hid hz0
  have J2 := Lib.hid hz1
  have J3 := Lib.hid hz2
  clear hi hz0 hz1 hz2
  go_enter Try.func11, Try.ntmps11
  go_wp2
  go_loopw [3, 4, 5] (fun v f i wr => ∃ (k a : Nat) (ps : List ByteArray), k ≤ s.size ∧ a ≤ k ∧ ps.length ≤ k ∧ i = .int .i64 k ∧ f = .int .i64 a ∧ Hid (pst s 10 k = (ps, a)) ∧ Hid (wr.ownsRow w.heap.size 9 1 v ps.length (strs ps)) ∧ Hid (Below w.heap.size w wr)) (fun _ _ i _ => s.size - (intOf i).toNat)
  case atStart => exact ⟨0, 0, [], by omega, by omega, by simp, rfl, rfl, rfl, World.ownsRow_made w #[] 0 (Nat.le_refl _) (by unfold maxLen; omega) rfl, (Below.refl _ _).alloc (Nat.le_refl _) _⟩
  case round =>
    obtain ⟨k, a, ps, hk1, hk2, hk3, rfl, rfl, HP, HO, HB⟩ := hrel
    by_cases hlt : k < s.size
    · by_cases hc : s[k].toNat = 10
      · have h2 := pst_hit hlt hc
        rw [HP.out] at h2
        have H2 := Lib.hid h2
        have HZ := Lib.hid HB.out.size
        have hq : ((s[k].toNat : Int) == 10) = true := by simp [hc]
        clear h2 hc
        go_wp2_with (at_builtin; go_must (refine wpList_append_own _ rfl _ _ 22 rfl w.heap.size 9 i0 (.string ⟨#[]⟩) 1 16 Try.underlying22 J0.out J1.out J2.out J3.out rfl (by decide) _ _ _ rfl (HO.out.alloc _) ⟨wr.heap.size, 0, none⟩ 1 1 [.string (s.extract a k)] rfl rfl (cell_one_new _ _ _) ?c2 ?c3 ?c4 ?c5 ?_))
        case c2 => first | rfl | (intro u hu; simp at hu; subst hu; rfl)
        case c3 => unfold maxLen; omega
        case c4 => omega
        case c5 => have := HZ.out; simp; omega
        intro v' w4 hown4 hgrow4 _
        have HO4 := Lib.hid hown4
        have HB4 := Lib.hid ((HB.out.alloc HB.out.size _).grown hgrow4 (by have := HZ.out; simp; omega) (fun g hg => (HO.out.lt g hg).1))
        clear hown4 hgrow4
        go_wp2
        go_roundw
        case rel => exact ⟨k + 1, k + 1, ps ++ [s.extract a k], by omega, by omega, by rw [List.length_append, List.length_singleton]; omega, by go_num, by go_num, H2.out, by have h := HO4.out; rw [strs_app] at h; show World.ownsRow _ _ _ _ _ _ _; rw [List.length_append, List.length_singleton]; exact h, HB4.out⟩
        case measure => simp [intOf]; omega
      · have h2 := pst_miss hlt hc
        rw [HP.out] at h2
        have H2 := Lib.hid h2
        have hq : ((s[k].toNat : Int) == 10) = false := by simp; omega
        clear h2 hc
        go_wp2
        go_roundw
        case rel => exact ⟨k + 1, a, ps, by omega, by omega, by omega, by go_num, rfl, H2.out, HO.out, HB.out⟩
        case measure => simp [intOf]; omega
    · obtain rfl : k = s.size := by omega
      have HZ := Lib.hid HB.out.size
      by_cases ha : a < s.size
      · have e : linesOf s = ps ++ [s.extract a s.size] := by unfold linesOf; rw [HP.out]; simp [ha]
        have E := Lib.hid e
        clear e
        go_wp2_with (at_builtin; go_must (refine wpList_append_own _ rfl _ _ 22 rfl w.heap.size 9 i0 (.string ⟨#[]⟩) 1 16 Try.underlying22 J0.out J1.out J2.out J3.out rfl (by decide) _ _ _ rfl (HO.out.alloc _) ⟨wr.heap.size, 0, none⟩ 1 1 [.string (s.extract a s.size)] rfl rfl (cell_one_new _ _ _) ?d2 ?d3 ?d4 ?d5 ?_))
        case d2 => first | rfl | (intro u hu; simp at hu; subst hu; rfl)
        case d3 => unfold maxLen; omega
        case d4 => omega
        case d5 => have := HZ.out; simp; omega
        intro v' w4 hown4 hgrow4 _
        have HO4 := Lib.hid hown4
        have HB4 := Lib.hid ((HB.out.alloc HB.out.size _).grown hgrow4 (by have := HZ.out; simp; omega) (fun g hg => (HO.out.lt g hg).1))
        clear hown4 hgrow4
        go_wp2
        go_ret
        refine ⟨_, rfl, ?_, HB4.out⟩
        have h := HO4.out
        rw [strs_app] at h
        rw [E.out, List.length_append, List.length_singleton]
        exact h
      · have e : linesOf s = ps := by unfold linesOf; rw [HP.out]; simp [ha]
        have E := Lib.hid e
        clear e
        go_wp2
        go_ret
        exact ⟨_, rfl, by rw [E.out]; exact HO.out, HB.out⟩

set_option maxHeartbeats 400000 in
theorem impl_lines (s : ByteArray) (w : World) (hs : s.size ≤ 1048576) :
    Calls Try.prog 12 #[.string s] w fun e w' => ∃ v, e = .returned v ∧ w'.ownsRow w.heap.size 9 1 v (linesOf s).length (strs (linesOf s)) ∧ Below w.heap.size w w' := by
  go_enter Try.func12, Try.ntmps12
  go_wp2_with fail
  refine (pieces_any s 10 w hs (by omega)).mono ?_
  rintro e w1 ⟨v, rfl, hown, hb⟩
  obtain ⟨ps, a, hp⟩ : ∃ ps a, pst s 10 s.size = (ps, a) := ⟨_, _, rfl⟩
  have hple := pst_le s 10 s.size
  rw [hp] at hple
  obtain ⟨hp1, hp2⟩ := hple
  have e : parts s 10 = ps ++ [s.extract a s.size] := by unfold parts; rw [hp]
  rw [e, List.length_append, List.length_singleton] at hown
  have HB := Lib.hid hb
  have HP := Lib.hid hp
  have HO0 := Lib.hid hown
  obtain ⟨g, cap, hv⟩ : ∃ g cap, v = .slice (some ⟨g, 0, none⟩) (ps.length + 1) cap := by
    rcases hown.2 with ⟨-, h⟩ | ⟨g, cap, cur, rfl, -⟩
    · omega
    · exact ⟨g, cap, rfl⟩
  have hcap : ps.length + 1 ≤ cap := by
    rcases hown.2 with ⟨-, h⟩ | ⟨g', cap', cur, hv', -, -, hn, -⟩
    · omega
    · rw [hv] at hv'; cases hv'; exact hn
  subst hv
  have c1 : w1.cell? ⟨g, ps.length, none⟩ = some (.string (s.extract a s.size)) := by
    rw [hown.cellAt ps.length (by omega)]
    simp [strs]
  obtain ⟨x, hx⟩ : ∃ x, x = s.extract a s.size := ⟨_, rfl⟩
  rw [← hx] at c1
  have X := Lib.hid hx
  have hps : ps.length ≤ s.size := hp2
  have hpsb : ps.length ≤ 1048576 := by omega
  clear hown hb hp e hx hp2
  by_cases ha : a < s.size
  · have e : linesOf s = ps ++ [s.extract a s.size] := by unfold linesOf; rw [HP.out]; simp [ha]
    have E := Lib.hid e
    have hx0 : x.toList.isEmpty = false := by
      rw [X.out, ByteArray.toList_eq, Lib.extract_data]
      rw [Bool.eq_false_iff]
      intro h
      have := congrArg List.length (List.isEmpty_iff.1 h)
      simp at this
      omega
    clear e
    go_wp2
    go_ret
    refine ⟨_, rfl, ?_, HB.out⟩
    rw [E.out, List.length_append, List.length_singleton]
    exact HO0.out
  · have e : linesOf s = ps := by unfold linesOf; rw [HP.out]; simp [ha]
    have E := Lib.hid e
    have hx0 : x.toList.isEmpty = true := by
      rw [X.out, ByteArray.toList_eq, Lib.extract_data]
      rw [List.isEmpty_iff]
      apply List.eq_nil_of_length_eq_zero
      simp
      omega
    clear e
    go_wp2
    go_ret
    refine ⟨_, rfl, ?_, HB.out⟩
    rw [E.out]
    have h := HO0.out
    rw [← strs_app] at h
    exact ownsRow_pop (by rw [strs_len]; omega) h
end Go.Proofs.Ytbngllbbgjhckaa
