
/- spec.Words and impl.Words: the parts between spaces that are not empty. -/
import Derived.Test.YtceidekfcnmeaaaGreatDoorPieces
namespace Go.Proofs.YtceidekfcnmeaaaGreatDoor
set_option maxRecDepth 20000
open Go.RowKit

def full (p : ByteArray) : Bool := decide (0 < p.size)
def wordsOf (s : ByteArray) : List ByteArray := (parts s 32).filter full
theorem wordsOf_len (s : ByteArray) : (wordsOf s).length ≤ s.size + 1 := by
  have h := pst_le s 32 s.size
  have h2 := List.length_filter_le full (parts s 32)
  have e : (parts s 32).length = (pst s 32 s.size).1.length + 1 := by unfold parts; rw [List.length_append, List.length_singleton]
  unfold wordsOf
  omega
theorem full_ext {s : ByteArray} {a k : Nat} (hk : k ≤ s.size) : full (s.extract a k) = decide (a < k) := by
  unfold full
  rw [ByteArray.size_extract, Nat.min_eq_left hk]
  by_cases h : a < k
  · rw [decide_eq_true h, decide_eq_true (by omega)]
  · rw [decide_eq_false h, decide_eq_false (by omega)]
/-- Behind k bytes of the reference's loop: the words so far, and where the present one begins (-1: there is none). -/
structure WSt (s : ByteArray) (k : Nat) (ps : List ByteArray) (f : Int) : Prop where
  ps : ps = (pst s 32 k).1.filter full
  f : f = if (pst s 32 k).2 < k then ((pst s 32 k).2 : Int) else -1
theorem WSt.zero (s : ByteArray) : WSt s 0 [] (-1) := ⟨rfl, rfl⟩
theorem WSt.range {s : ByteArray} {k : Nat} {ps : List ByteArray} {f : Int} (h : WSt s k ps f) : -1 ≤ f ∧ f < k + 1 ∧ (0 ≤ f → f < k) ∧ ps.length ≤ k := by
  have h1 := pst_le s 32 k
  have h2 := List.length_filter_le full (pst s 32 k).1
  have h3 := h.f
  rw [h.ps]
  split at h3 <;> omega
theorem WSt.gapWord {s : ByteArray} {k a : Nat} {ps : List ByteArray} (h : WSt s k ps (a : Int)) (hk : k < s.size) (hc : s[k].toNat = 32) : WSt s (k + 1) (ps ++ [s.extract a k]) (-1) := by
  have hf := h.f
  have ha : (pst s 32 k).2 = a ∧ a < k := by split at hf <;> omega
  refine ⟨?_, ?_⟩
  · rw [pst_hit hk hc, h.ps, List.filter_append, ha.1]
    simp [full_ext (Nat.le_of_lt hk), ha.2]
  · rw [pst_hit hk hc]; simp
theorem WSt.gapNone {s : ByteArray} {k : Nat} {ps : List ByteArray} (h : WSt s k ps (-1)) (hk : k < s.size) (hc : s[k].toNat = 32) : WSt s (k + 1) ps (-1) := by
  have hf := h.f
  have ha : ¬ (pst s 32 k).2 < k := by split at hf <;> omega
  refine ⟨?_, ?_⟩
  · rw [pst_hit hk hc, h.ps, List.filter_append]
    simp [full_ext (Nat.le_of_lt hk), ha]
  · rw [pst_hit hk hc]; simp
theorem WSt.wordOn {s : ByteArray} {k a : Nat} {ps : List ByteArray} (h : WSt s k ps (a : Int)) (hk : k < s.size) (hc : s[k].toNat ≠ 32) : WSt s (k + 1) ps (a : Int) := by
  have hf := h.f
  have ha : (pst s 32 k).2 = a ∧ a < k := by split at hf <;> omega
  refine ⟨?_, ?_⟩
  · rw [pst_miss hk hc, h.ps]
  · rw [pst_miss hk hc, ha.1, if_pos (by omega)]
theorem WSt.wordBegins {s : ByteArray} {k : Nat} {ps : List ByteArray} (h : WSt s k ps (-1)) (hk : k < s.size) (hc : s[k].toNat ≠ 32) : WSt s (k + 1) ps (k : Int) := by
  have hf := h.f
  have hle := (pst_le s 32 k).1
  have ha : (pst s 32 k).2 = k := by split at hf <;> omega
  refine ⟨?_, ?_⟩
  · rw [pst_miss hk hc, h.ps]
  · rw [pst_miss hk hc, ha, if_pos (by omega)]
theorem WSt.endWord {s : ByteArray} {a : Nat} {ps : List ByteArray} (h : WSt s s.size ps (a : Int)) : wordsOf s = ps ++ [s.extract a s.size] := by
  have hf := h.f
  have ha : (pst s 32 s.size).2 = a ∧ a < s.size := by split at hf <;> omega
  unfold wordsOf parts
  rw [List.filter_append, ← h.ps, ha.1]
  simp [full_ext (Nat.le_refl _), ha.2]
theorem WSt.endNone {s : ByteArray} {ps : List ByteArray} (h : WSt s s.size ps (-1)) : wordsOf s = ps := by
  have hf := h.f
  have ha : ¬ (pst s 32 s.size).2 < s.size := by split at hf <;> omega
  unfold wordsOf parts
  rw [List.filter_append, ← h.ps]
  simp [full_ext (Nat.le_refl _), ha]

theorem filter_step {ps : List ByteArray} {k : Nat} {x : ByteArray} (h : ps[k]? = some x) : (ps.take (k + 1)).filter full = if full x then (ps.take k).filter full ++ [x] else (ps.take k).filter full := by
  rw [List.take_add_one, h, List.filter_append]
  cases hf : full x <;> simp [hf]

set_option maxHeartbeats 800000 in
theorem impl_words (s : ByteArray) (w : World) (hs : s.size ≤ 1048576) :
    Calls Tryz.prog 29 #[.string s] w fun e w' => ∃ v, e = .returned v ∧ w'.ownsRow w.heap.size 9 1 v (wordsOf s).length (strs (wordsOf s)) ∧ Below w.heap.size w w' := by
  obtain ⟨i0, hi, hz0, hz1, hz2⟩ := info_parts infoStr
  have J0 := Lib.hid hi
  have J1 := Lib.hid hz0
  have J2 := Lib.hid hz1
  have J3 := Lib.hid hz2
  clear hi hz0 hz1 hz2
  go_enter Tryz.func29, Tryz.ntmps29
  go_wp2_with fail
  refine (pieces_any s 32 w hs (by omega)).mono ?_
  rintro e w1 ⟨v, rfl, hown, hb⟩
  have hplen : (parts s 32).length ≤ s.size + 1 := by
    have h := pst_le s 32 s.size
    unfold parts
    rw [List.length_append, List.length_singleton]; omega
  obtain ⟨n, hn⟩ : ∃ n, n = (parts s 32).length := ⟨_, rfl⟩
  rw [← hn] at hown hplen
  have HN := Lib.hid hn
  obtain ⟨g, cap, hv⟩ : ∃ g cap, v = .slice (some ⟨g, 0, none⟩) n cap := by
    rcases hown.2 with ⟨-, h⟩ | ⟨g, cap, cur, rfl, -⟩
    · have h2 : 0 < n := by rw [hn]; unfold parts; rw [List.length_append, List.length_singleton]; omega
      omega
    · exact ⟨g, cap, rfl⟩
  subst hv
  have HO := Lib.hid hown
  have HB := Lib.hid hb
  have HG := Lib.hid ((hown.lt g rfl).2)
  have HZ1 := Lib.hid hb.size
  clear hown hb hn
  go_wp2
  go_loopw [3, 9] (fun v i wr => ∃ (k : Nat) (ps : List ByteArray), k ≤ n ∧ i = .int .i64 k ∧ ps.length ≤ k ∧ Hid (((parts s 32).take k).filter full = ps) ∧ Hid (wr.ownsRow w1.heap.size 9 1 v ps.length (strs ps)) ∧ Hid (Below w1.heap.size w1 wr)) (fun _ i _ => n - (intOf i).toNat)
  case atStart => exact ⟨0, [], by omega, rfl, by simp, rfl, World.ownsRow_nil _ _ _ _, Below.refl _ _⟩
  case round =>
    obtain ⟨k, ps, hk1, rfl, hps, HF, HOW, HBW⟩ := hrel
    by_cases hlt : k < n
    · have hkl : k < (parts s 32).length := by rw [← HN.out]; exact hlt
      obtain ⟨x, X⟩ : ∃ x, (parts s 32)[k]? = some x := ⟨_, List.getElem?_eq_getElem hkl⟩
      have c1 : wr.cell? ⟨g, k, none⟩ = some (.string x) := by
        rw [HBW.out.cell (p := ⟨g, k, none⟩) HG.out, HO.out.cellAt k (by omega)]
        simp [strs, X]
      have hf := filter_step X
      rw [HF.out] at hf
      have HFS := Lib.hid hf
      have HZ := Lib.hid HBW.out.size
      clear hkl hf X
      by_cases hx : 0 < x.size
      · have hx0 : x.toList.isEmpty = false := by
          rw [ByteArray.toList_eq, Bool.eq_false_iff]
          intro h
          have e := List.isEmpty_iff.1 h
          have h2 : x.data.toList.length = x.size := by simp
          rw [e, List.length_nil] at h2
          omega
        have hfx : Hid (full x = true) := decide_eq_true hx
        clear hx
        go_wp2_with (at_builtin; go_must (refine wpList_append_own _ rfl _ _ 60 rfl w1.heap.size 9 i0 (.string ⟨#[]⟩) 1 16 Tryz.underlying60 J0.out J1.out J2.out J3.out rfl (by decide) _ _ _ rfl (HOW.out.alloc _) ⟨wr.heap.size, 0, none⟩ 1 1 [.string x] rfl rfl (cell_one_new _ _ _) ?c2 ?c3 ?c4 ?c5 ?_))
        case c2 => first | rfl | (intro u hu; simp at hu; subst hu; rfl)
        case c3 => unfold maxLen; omega
        case c4 => omega
        case c5 => have := HZ.out; simp; omega
        intro v' w4 hown4 hgrow4 _
        have HO4 := Lib.hid hown4
        have HB4 := Lib.hid ((HBW.out.alloc HBW.out.size _).grown hgrow4 (by have := HZ.out; simp; omega) (fun g hg => (HOW.out.lt g hg).1))
        clear hown4 hgrow4
        go_wp2
        go_roundw
        case rel => exact ⟨k + 1, ps ++ [x], by omega, by go_num, by rw [List.length_append, List.length_singleton]; omega, by show _ = _; rw [HFS.out, hfx.out]; rfl, by have h := HO4.out; rw [strs_app] at h; show World.ownsRow _ _ _ _ _ _ _; rw [List.length_append, List.length_singleton]; exact h, HB4.out⟩
        case measure => simp [intOf]; omega
      · have hx0 : x.toList.isEmpty = true := by
          rw [ByteArray.toList_eq, List.isEmpty_iff]
          apply List.eq_nil_of_length_eq_zero
          have h2 : x.data.toList.length = x.size := by simp
          omega
        have hfx : Hid (full x = false) := decide_eq_false hx
        clear hx
        go_wp2
        go_roundw
        case rel => exact ⟨k + 1, ps, by omega, by go_num, by omega, by show _ = _; rw [HFS.out, hfx.out]; rfl, HOW.out, HBW.out⟩
        case measure => simp [intOf]; omega
    · obtain rfl : k = n := by omega
      have e : wordsOf s = ps := by
        have h := HF.out
        rw [List.take_of_length_le (by rw [← HN.out]; omega)] at h
        exact h
      have E := Lib.hid e
      clear e
      go_wp2
      go_ret
      exact ⟨_, rfl, by rw [E.out]; exact HOW.out.mono HZ1.out, HB.out.trans (HBW.out.mono HB.out.size)⟩
end Go.Proofs.YtceidekfcnmeaaaGreatDoor
