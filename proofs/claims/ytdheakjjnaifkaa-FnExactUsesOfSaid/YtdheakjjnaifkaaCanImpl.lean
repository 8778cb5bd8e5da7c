
/- impl.canBeOpen: whether labels are the axes of a tensor in a network. -/
import Derived.Test.YtdheakjjnaifkaaCommonImpl
import Derived.Test.YtdheakjjnaifkaaFind
import Derived.Test.YtdheakjjnaifkaaSizeImpl
namespace Go.Proofs.Ytdheakjjnaifkaa
set_option maxRecDepth 20000
open Go.RowKit

theorem dim_found {ts : List TenE} (h : AxT ts) (x : Int) : (cK (labT ts) ((labT ts).map (dimT ts)) x).getD 0 = dimT ts x := by
  unfold cK
  by_cases hx : x ∈ labT ts
  · rw [if_pos hx]
    have h1 := List.idxOf_lt_length_iff.2 hx
    simp [List.getElem?_eq_getElem h1]
  · rw [if_neg hx, not_inTs (fun h1 => hx ((mem_labT h).2 h1))]
    rfl
set_option maxHeartbeats 6400000 in
theorem can_full {B n co : Nat} {po : Option Addr} {kv vv : Value} {ts : List TenE} {O : List Int} {w : World} (ho : Rd B w (.slice po n co) (ints O)) (hk : Rd B w kv (ints (labT ts))) (hv : Rd B w vv (ints ((labT ts).map (dimT ts)))) (hB : B ≤ w.heap.size) (hn : O.length = n) (hnn : n ≤ 1048576) (hax : AxT ts) (hI : allI O) :
    Calls Try.prog 74 #[.slice po n co, .agg #[kv, vv]] w fun e w' => e = .returned (.bool (decide (0 ≤ sizeI O (O.map (dimT ts))))) ∧ Below w.heap.size w w' := by
  obtain ⟨z, hz⟩ : ∃ z, z = sizeI O (O.map (dimT ts)) := ⟨_, rfl⟩
  rw [← hz]
  have HZZ := Lib.hid hz
  obtain ⟨ak, ck, rfl, -⟩ := ints_form hk
  obtain ⟨av, cv, rfl, -⟩ := ints_form hv
  obtain ⟨m, hm⟩ : ∃ m, m = (labT ts).length := ⟨_, rfl⟩
  rw [List.length_map] at hv ⊢
  rw [← hm] at hk hv ⊢
  obtain ⟨w1, hw1⟩ : ∃ W, W = w.alloc (.cells #[.slice ak m ck, .slice av m cv] 68) := ⟨_, rfl⟩
  have hb1 : Below w.heap.size w w1 := by rw [hw1]; exact (Below.refl _ _).alloc (Nat.le_refl _) _
  have hc : w1.cell? ⟨w.heap.size, 0, none⟩ = some (.slice ak m ck) ∧ w1.cell? ⟨w.heap.size, 1, none⟩ = some (.slice av m cv) := by rw [hw1]; simp
  have R0 : Hid (Rs w1 (w1.alloc (.cells #[.slice po n co, nilV, nilV] 55)) [(w1.heap.size, .slice po n co, .slice none 0 0, nilV)] [(.slice none 0 0, (O.map (dimT ts)).take 0)]) := Lib.hid (((Rs.start w1).box _ _ _ _).nil)
  obtain ⟨g5, hg5⟩ : ∃ x, x = w.heap.size + 1 := ⟨_, rfl⟩
  rw [show w1.heap.size = g5 by rw [hg5, hw1]; simp] at R0
  have HG5 := Lib.hid hg5
  have HO := Lib.hid ((ho.below hb1 hB).mono (Nat.le_trans hB hb1.size))
  have HK := Lib.hid ((hk.below hb1 hB).mono (Nat.le_trans hB hb1.size))
  have HV := Lib.hid ((hv.below hb1 hB).mono (Nat.le_trans hB hb1.size))
  have HN := Lib.hid hn
  have HI := Lib.hid hI
  have HAX := Lib.hid hax
  have HM := Lib.hid hm.symm
  have HC := Lib.hid hc
  have HB1 := Lib.hid hb1
  have HW1 := Lib.hid hw1
  obtain ⟨i0, hi0, hz0, hz1, hz2⟩ := info_parts infoInt
  have J0 := Lib.hid hi0
  have J1 := Lib.hid hz0
  have J2 := Lib.hid hz1
  have J3 := Lib.hid hz2
  clear ho hk hv hB hn hax hI hm hw1 hb1 hc hg5 hz hi0 hz0 hz1 hz2
  go_enter Try.func74, Try.ntmps74
  go_upto_region 3 with fail
  rw [← HW1.out]
  rw [← HG5.out]
  clear HW1
  obtain ⟨W2, hW2⟩ : ∃ W, W = w1.alloc (.cells #[.slice po n co, nilV, nilV] 55) := ⟨_, rfl⟩
  have HW2 := Lib.hid hW2
  rw [← hW2] at R0
  clear hW2
  rw [← HW2.out]
  clear HW2
  go_loopw [14] (fun i wr => ∃ (j : Nat) (ga : Option Addr) (ca : Nat), j ≤ n ∧ i = .int .i64 j ∧ Hid (Rs w1 wr [(g5, .slice po n co, .slice ga j ca, nilV)] [(.slice ga j ca, (O.map (dimT ts)).take j)])) (fun i _ => n - (intOf i).toNat)
  case atStart => exact ⟨0, none, 0, by omega, rfl, R0⟩
  case round =>
    clear R0
    obtain ⟨j, ga, ca, hj, rfl, HR⟩ := hrel
    by_cases hlt : j < n
    · obtain ⟨x, hx⟩ : ∃ x, O[j]? = some x := ⟨_, List.getElem?_eq_getElem (by rw [HN.out]; exact hlt)⟩
      obtain ⟨b1, off, rfl, hb, e1⟩ := (HO.out.below HR.out.bel (Nat.le_refl _)).cellAt hx
      have c0 := cell_kept2 HR.out.bel HC.out.1
      have c1 := cell_kept2 HR.out.bel HC.out.2
      have LD : Hid (((O.map (dimT ts)).take j).length = j) := Lib.hid (by rw [List.length_take, List.length_map, HN.out]; omega)
      have ED : Hid ((O.map (dimT ts)).take (j + 1) = (O.map (dimT ts)).take j ++ [dimT ts x]) := Lib.hid (by rw [List.take_add_one, List.getElem?_map, hx]; rfl)
      have HF := Lib.hid (find_int x ((HK.out.below HR.out.bel (Nat.le_refl _)).mono HR.out.bel.size) ((HV.out.below HR.out.bel (Nat.le_refl _)).mono HR.out.bel.size) (Nat.le_refl _) (by rw [List.length_map]) (by rw [HM.out]; have := labT_len ts; have := HM.out; omega))
      rw [dim_found HAX.out] at HF
      obtain ⟨dx, hdx⟩ : ∃ d, d = dimT ts x := ⟨_, rfl⟩
      obtain ⟨fb, hfb⟩ : ∃ f, f = (cK (labT ts) ((labT ts).map (dimT ts)) x).isSome := ⟨_, rfl⟩
      rw [← hdx] at HF ED
      rw [← hfb] at HF
      clear hx hdx hfb hb
      go_wp2_with fail
      refine HF.out.mono ?_
      rintro e w3 ⟨rfl, hb3⟩
      have R3 := Lib.hid (HR.out.step hb3)
      obtain ⟨⟨f0, f1, f2⟩, q0, q1, q2⟩ := R3.out.at (r := g5) (a := .slice (some ⟨b1, off, none⟩) n co) (b := .slice ga j ca) (c := nilV) (by simp)
      clear hb3 HF HR c0 c1 e1
      have A5 := Lib.hid (R3.out.alloc (.cells #[.int .i64 dx] 3))
      have O5 := Lib.hid (A5.out.row (v := .slice ga j ca) (List.mem_cons_self) LD.out)
      go_wp2_with (at_builtin; go_must (refine wpList_append_lies _ rfl _ _ 25 rfl w1.heap.size 3 i0 (.int .i64 0) 1 8 Try.underlying25 J0.out J1.out J2.out J3.out rfl (by decide) _ j (ints ((O.map (dimT ts)).take j)) rfl O5.out ⟨w3.heap.size, 0, none⟩ 1 1 [.int .i64 dx] rfl rfl (cell_one_new _ _ _) ?c2 (by decide) ?c3 ?c4 ?c5 _ rfl ?_))
      case c2 => first | rfl | (intro u hu; simp at hu; subst hu; rfl)
      case c3 => unfold maxLen; omega
      case c4 => omega
      case c5 => exact A5.out.bel.size
      intro g1 cap1 w5 hown hgrow hl1 _
      have hR5 := A5.out.app1 LD.out hown hgrow (by rw [World.size_alloc]; exact hl1)
      rw [← ED.out] at hR5
      obtain ⟨⟨f0, f1, f2⟩, q0, q1, q2⟩ := hR5.at (r := g5) (a := .slice (some ⟨b1, off, none⟩) n co) (b := .slice ga j ca) (c := nilV) (by simp)
      have R6 := Lib.hid (hR5.setB 1 (.slice (some ⟨g1, 0, none⟩) (j + 1) cap1))
      clear hown hgrow hl1 hR5 A5 O5 R3
      go_wp2
      go_roundw
      case rel => exact ⟨j + 1, some ⟨g1, 0, none⟩, cap1, by omega, by go_num, R6⟩
      case measure => simp [intOf]; omega
    · obtain rfl : j = n := by omega
      have e2 : (O.map (dimT ts)).take j = O.map (dimT ts) := List.take_of_length_le (by rw [List.length_map, HN.out]; exact Nat.le_refl _)
      rw [e2] at HR
      obtain ⟨⟨f0, f1, f2⟩, -⟩ := HR.out.at (r := g5) (a := .slice po j co) (b := .slice ga j ca) (c := nilV) (by simp)
      have HSZ := Lib.hid (size_impl (lv := .slice po j co) (dv := .slice ga j ca) (xv := nilV) (L := O) (D := O.map (dimT ts)) (X := []) (w := wr) ⟨(HO.out.below HR.out.bel (Nat.le_refl _)).mono HR.out.bel.size, HR.out.rd (by simp), .inl ⟨rfl, none, 0, rfl⟩⟩ (Nat.le_refl _) ⟨by have := HN.out; omega, by have := HN.out; simp; omega, by simp⟩ HI.out)
      rw [← HZZ.out] at HSZ
      clear e2 hlt
      go_wp2_with fail
      refine HSZ.out.mono ?_
      rintro e w3 ⟨rfl, hb3⟩
      have HB9 := Lib.hid (HB1.out.trans ((HR.out.bel.trans (hb3.mono HR.out.bel.size)).mono HB1.out.size))
      clear hb3 HSZ HR f0 f1 f2
      go_wp2
      go_ret
      exact ⟨rfl, HB9.out⟩
end Go.Proofs.Ytdheakjjnaifkaa
