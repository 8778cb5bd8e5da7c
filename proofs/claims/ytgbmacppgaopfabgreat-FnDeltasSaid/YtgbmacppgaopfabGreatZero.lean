
/- zero and one of a valid ring, both. -/
import Derived.Test.YtgbmacppgaopfabGreatElem
import Derived.Test.YtgbmacppgaopfabGreatLawKit
import Derived.Deep.Onto
import Derived.Deep.DeepMust
import Derived.Maps.AppendAt
import Derived.Test.YtgbmacppgaopfabGreatRs
import Derived.Deep.RegionLaw
import Derived.Deep.AppendLies
namespace Go.Proofs.YtgbmacppgaopfabGreat
set_option maxRecDepth 20000
open Go.RowKit

theorem zeros_make (n : Nat) : (madeCells (Value.int .i64 0).cells (n * 1)).toList = List.replicate n (.int .i64 0) := by
  rw [Nat.mul_one]
  exact toList_madeCells_one _ _
def zerosL (n : Nat) : List Int := List.replicate n 0
theorem ints_zeros (n : Nat) : ints (zerosL n) = List.replicate n (.int .i64 0) := by simp [ints, zerosL]
theorem ints_set (xs : List Int) (i : Nat) (x : Int) : ints (xs.set i x) = (ints xs).set i (.int .i64 x) := by simp [ints, List.map_set]
theorem made_facts {w w1 w2 : World} {b k p n : _} {m B : Nat} (HV1 : Hid (Inv w w1 b k p n)) (hown : w2.ownsRow B 3 1 (.slice (some ⟨w1.heap.size, 0, none⟩) m m) m (madeCells (Value.int .i64 0).cells (m * 1)).toList) (hgrow : w1.grownBy w2 none) (hm : 1 ≤ m) :
    Hid (Inv w w2 b k p n) ∧ Hid (w2.ownsRow B 3 1 (.slice (some ⟨w1.heap.size, 0, none⟩) m m) m (ints (zerosL m))) ∧ w1.heap.size ≤ w2.heap.size ∧ w2.frozen? ⟨w1.heap.size, 0, none⟩ = false ∧ w2.cell? ⟨w1.heap.size, 0, none⟩ = some (.int .i64 0) ∧
      w2.cell? ⟨b, 0, none⟩ = some (.int .i64 k) ∧ w2.cell? ⟨b, 1, none⟩ = some (.int .i64 p) ∧ w2.cell? ⟨b, 2, none⟩ = some (.int .i64 n) := by
  rw [zeros_make, ← ints_zeros] at hown
  have h2 := HV1.out.step ((Below.refl _ _).grown hgrow (Nat.le_refl _) (fun j hj => by cases hj))
  exact ⟨h2, hown, hgrow.size, hown.frozenAt 0, by rw [hown.cellAt 0 (by omega), ints_zeros, List.getElem?_replicate, if_pos (by omega)], h2.cells⟩
theorem Inv.call_own {P : Program} {f : FuncId} {args : Array Value} {w0 w : World} {b B g m : Nat} {k p n x : Int} {zs : List Int} {R : Ending → Prop} (h : Hid (Inv w0 w b k p n)) (ho : Hid (w.ownsRow B 3 1 (.slice (some ⟨g, 0, none⟩) m m) m (ints zs))) (hf : w.frozen? ⟨g, 0, none⟩ = false) (hc0 : w.cell? ⟨g, 0, none⟩ = some (.int .i64 x)) (hc : Calls P f args w fun e w' => R e ∧ Below w.heap.size w w') :
    Calls P f args w fun e w' => R e ∧ Hid (Inv w0 w' b k p n) ∧ Hid (w'.ownsRow B 3 1 (.slice (some ⟨g, 0, none⟩) m m) m (ints zs)) ∧ w'.frozen? ⟨g, 0, none⟩ = false ∧ w'.cell? ⟨g, 0, none⟩ = some (.int .i64 x) ∧ w'.cell? ⟨b, 0, none⟩ = some (.int .i64 k) ∧ w'.cell? ⟨b, 1, none⟩ = some (.int .i64 p) ∧ w'.cell? ⟨b, 2, none⟩ = some (.int .i64 n) ∧ w.heap.size ≤ w'.heap.size :=
  hc.mono fun _ _ ⟨he, hb⟩ => by
    have hg := (ho.out.lt g rfl).2
    have hk : ∀ v, w.ownsRow B 3 1 v m (ints zs) → _ := fun v h => h.kept (row := none) ⟨hb.os, hb.tape, hb.output, hb.size, fun j hj _ => hb.block j hj⟩ (by
      cases hv : v.ownBlock with
      | none => exact .inl rfl
      | some g => exact .inr (by simp))
    exact ⟨he, h.out.step hb, hk _ ho.out, (hb.frozen (p := ⟨g, 0, none⟩) hg).trans hf, (hb.cell (p := ⟨g, 0, none⟩) hg).trans hc0, (h.out.step hb).cells.1, (h.out.step hb).cells.2.1, (h.out.step hb).cells.2.2, hb.size⟩
theorem width_nat {k p n : Int} (h : ringB k p n = true) : ∃ m : Nat, widthI k n = m ∧ 1 ≤ m ∧ m ≤ 6 := by
  have := ring_width h
  exact ⟨(widthI k n).toNat, by omega, by omega, by omega⟩
theorem zeroL_eq {k p n : Int} {m : Nat} (h : widthI k n = m) : zeroL k p n = if k = 4 then (zerosL m).set 0 p else zerosL m := by
  unfold zeroL zerosL
  rw [h, Int.toNat_natCast]
  by_cases h4 : k = 4
  · rw [if_pos h4]
    apply List.ext_getElem (by simp)
    intro i h1 h2
    simp only [List.getElem_map, List.getElem_range, List.getElem_set, List.getElem_replicate]
    by_cases h0 : i = 0
    · simp [h0, h4]
    · rw [if_neg (by omega), if_neg (by omega)]
  · rw [if_neg h4]
    apply List.ext_getElem (by simp)
    intro i h1 h2
    simp only [List.getElem_map, List.getElem_range, List.getElem_replicate]
    rw [if_neg (by omega)]
theorem oneL_eq {k p n : Int} {m : Nat} (h : widthI k n = m) : oneL k p n = (zerosL m).set 0 (if k = 5 ∨ k = 6 then topI k p n else if k = 4 then 0 else 1) := by
  unfold oneL zerosL
  rw [h, Int.toNat_natCast]
  apply List.ext_getElem (by simp)
  intro i h1 h2
  simp only [List.getElem_map, List.getElem_range, List.getElem_set, List.getElem_replicate]
  by_cases h0 : i = 0
  · rw [if_pos h0, if_pos h0.symm]
  · rw [if_neg h0, if_neg (fun e => h0 e.symm)]

set_option maxHeartbeats 800000 in
theorem zero4_spec (p n : Int) (w : World) (hr : ringB 4 p n = true)  :
    Calls Tryz.prog 125 #[ringV 4 p n] w fun e w' => ∃ r m, e = .returned r ∧ widthI 4 n = (m : Nat) ∧ w'.ownsRow w.heap.size 3 1 r m (ints ((zerosL m).set 0 p)) ∧ Below w.heap.size w w' := by
  obtain ⟨m, hm, hm1, hm2⟩ := width_nat hr
  obtain ⟨B, hB⟩ : ∃ B, B = w.heap.size := ⟨_, rfl⟩
  have HB := Lib.hid hB
  have HM := Lib.hid hm
  have HR := Lib.hid hr
  clear hm hr hB
  obtain ⟨i0, hi, hz0, hz1, hz2⟩ := info_parts infoInt
  go_enter Tryz.func125, Tryz.ntmps125
  go_wp2_with fail
  refine (Inv.call (Lib.hid (Inv.box w _ p n _)) (width_spec _ p n _)).mono ?_
  rw [HM.out]
  rintro e w1 ⟨rfl, HV1, c0, c1, c2⟩
  have hBs : B ≤ w1.heap.size := by rw [HB.out]; exact HV1.out.1.size
  go_wp2_with (at_make; refine wpList_make_full _ rfl _ _ 26 rfl B 3 i0 (.int .i64 0) 1 Tryz.underlying26 hi hz0 hz1 .i64 .i64 _ _ m rfl rfl rfl rfl (by rw [hz2]; omega) (by unfold maxLen; omega) (by exact hBs) ?_; intro w2 hown hgrow; obtain ⟨HV2, OW, hsz, f0, g1, d0, d1, d2⟩ := made_facts HV1 hown hgrow hm1; clear hown hgrow c0 c1 c2)
  go_wp2
  go_ret
  refine ⟨_, m, rfl, HM.out, ?_, HV2.out.1.setCell (by have := HV1.out.1.size; simpa using this) _⟩
  have ST := (OW.out.stored 0 (.int .i64 p)).1
  rw [← ints_set] at ST
  rw [← HB.out]; exact ST

set_option maxHeartbeats 800000 in
theorem zeroN_spec (k p n : Int) (w : World) (hr : ringB k p n = true) (h4 : (k == 4) = false) :
    Calls Tryz.prog 125 #[ringV k p n] w fun e w' => ∃ r m, e = .returned r ∧ widthI k n = (m : Nat) ∧ w'.ownsRow w.heap.size 3 1 r m (ints (zerosL m)) ∧ Below w.heap.size w w' := by
  obtain ⟨m, hm, hm1, hm2⟩ := width_nat hr
  obtain ⟨B, hB⟩ : ∃ B, B = w.heap.size := ⟨_, rfl⟩
  have HB := Lib.hid hB
  have HM := Lib.hid hm
  have HR := Lib.hid hr
  clear hm hr hB
  obtain ⟨i0, hi, hz0, hz1, hz2⟩ := info_parts infoInt
  go_enter Tryz.func125, Tryz.ntmps125
  go_wp2_with fail
  refine (Inv.call (Lib.hid (Inv.box w _ p n _)) (width_spec _ p n _)).mono ?_
  rw [HM.out]
  rintro e w1 ⟨rfl, HV1, c0, c1, c2⟩
  have hBs : B ≤ w1.heap.size := by rw [HB.out]; exact HV1.out.1.size
  go_wp2_with (at_make; refine wpList_make_full _ rfl _ _ 26 rfl B 3 i0 (.int .i64 0) 1 Tryz.underlying26 hi hz0 hz1 .i64 .i64 _ _ m rfl rfl rfl rfl (by rw [hz2]; omega) (by unfold maxLen; omega) (by exact hBs) ?_; intro w2 hown hgrow; obtain ⟨HV2, OW, hsz, f0, g1, d0, d1, d2⟩ := made_facts HV1 hown hgrow hm1; clear hown hgrow c0 c1 c2)
  go_wp2
  go_ret
  exact ⟨_, m, rfl, HM.out, by rw [← HB.out]; exact OW.out, HV2.out.1⟩

/-- The zero (spec). -/
theorem zero_spec (k p n : Int) (w : World) (hr : ringB k p n = true) : Calls Tryz.prog 125 #[ringV k p n] w (NewRow w (zeroL k p n)) := by
  by_cases h4 : k = 4
  · subst h4; exact (zero4_spec p n w hr).mono fun e w' ⟨r, m, he, hm, ho, hb⟩ => ⟨r, he, Own.of (n := m) (by rw [zeroL_eq hm]; exact ho) (by rw [zeroL_eq hm]; simp [zerosL]), hb⟩
  · exact (zeroN_spec k p n w hr (by simpa using h4)).mono fun e w' ⟨r, m, he, hm, ho, hb⟩ => ⟨r, he, Own.of (n := m) (by rw [zeroL_eq hm, if_neg h4]; exact ho) (by rw [zeroL_eq hm, if_neg h4]; simp [zerosL]), hb⟩

set_option maxHeartbeats 800000 in
theorem one4_spec (p n : Int) (w : World) (hr : ringB 4 p n = true)  :
    Calls Tryz.prog 127 #[ringV 4 p n] w fun e w' => ∃ r m, e = .returned r ∧ widthI 4 n = (m : Nat) ∧ w'.ownsRow w.heap.size 3 1 r m (ints ((zerosL m).set 0 0)) ∧ Below w.heap.size w w' := by
  obtain ⟨m, hm, hm1, hm2⟩ := width_nat hr
  obtain ⟨B, hB⟩ : ∃ B, B = w.heap.size := ⟨_, rfl⟩
  have HB := Lib.hid hB
  have HM := Lib.hid hm
  have HR := Lib.hid hr
  clear hm hr hB
  obtain ⟨i0, hi, hz0, hz1, hz2⟩ := info_parts infoInt
  go_enter Tryz.func127, Tryz.ntmps127
  go_wp2_with fail
  refine (Inv.call (Lib.hid (Inv.box w _ p n _)) (width_spec _ p n _)).mono ?_
  rw [HM.out]
  rintro e w1 ⟨rfl, HV1, c0, c1, c2⟩
  have hBs : B ≤ w1.heap.size := by rw [HB.out]; exact HV1.out.1.size
  go_wp2_with (at_make; refine wpList_make_full _ rfl _ _ 26 rfl B 3 i0 (.int .i64 0) 1 Tryz.underlying26 hi hz0 hz1 .i64 .i64 _ _ m rfl rfl rfl rfl (by rw [hz2]; omega) (by unfold maxLen; omega) (by exact hBs) ?_; intro w2 hown hgrow; obtain ⟨HV2, OW, hsz, f0, g1, d0, d1, d2⟩ := made_facts HV1 hown hgrow hm1; clear hown hgrow c0 c1 c2)
  go_wp2
  go_ret
  refine ⟨_, m, rfl, HM.out, ?_, HV2.out.1.setCell (by have := HV1.out.1.size; simpa using this) _⟩
  have ST := (OW.out.stored 0 (.int .i64 0)).1
  rw [← ints_set] at ST
  rw [← HB.out]; exact ST

set_option maxHeartbeats 800000 in
theorem one5_spec (p n : Int) (w : World) (hr : ringB 5 p n = true)  :
    Calls Tryz.prog 127 #[ringV 5 p n] w fun e w' => ∃ r m, e = .returned r ∧ widthI 5 n = (m : Nat) ∧ w'.ownsRow w.heap.size 3 1 r m (ints ((zerosL m).set 0 (topI 5 p n))) ∧ Below w.heap.size w w' := by
  obtain ⟨m, hm, hm1, hm2⟩ := width_nat hr
  obtain ⟨B, hB⟩ : ∃ B, B = w.heap.size := ⟨_, rfl⟩
  have HB := Lib.hid hB
  have HM := Lib.hid hm
  have HR := Lib.hid hr
  clear hm hr hB
  obtain ⟨i0, hi, hz0, hz1, hz2⟩ := info_parts infoInt
  go_enter Tryz.func127, Tryz.ntmps127
  go_wp2_with fail
  refine (Inv.call (Lib.hid (Inv.box w _ p n _)) (width_spec _ p n _)).mono ?_
  rw [HM.out]
  rintro e w1 ⟨rfl, HV1, c0, c1, c2⟩
  have hBs : B ≤ w1.heap.size := by rw [HB.out]; exact HV1.out.1.size
  go_wp2_with (at_make; refine wpList_make_full _ rfl _ _ 26 rfl B 3 i0 (.int .i64 0) 1 Tryz.underlying26 hi hz0 hz1 .i64 .i64 _ _ m rfl rfl rfl rfl (by rw [hz2]; omega) (by unfold maxLen; omega) (by exact hBs) ?_; intro w2 hown hgrow; obtain ⟨HV2, OW, hsz, f0, g1, d0, d1, d2⟩ := made_facts HV1 hown hgrow hm1; clear hown hgrow c0 c1 c2)
  obtain ⟨t, ht⟩ : ∃ t, t = topI 5 p n := ⟨_, rfl⟩
  have HT := Lib.hid ht
  clear ht
  go_wp2_with fail
  refine (Inv.call_own HV2 OW f0 g1 (top_spec 5 p n _ HR.out)).mono ?_
  rw [← HT.out]
  clear d0 d1 d2 f0 g1
  rintro e w3 ⟨rfl, HV3, OW3, f0, g1, d0, d1, d2, hz3⟩
  go_wp2
  go_ret
  refine ⟨_, m, rfl, HM.out, ?_, HV3.out.1.setCell (by have := HV1.out.1.size; simpa using this) _⟩
  have ST := (OW3.out.stored 0 (.int .i64 t)).1
  rw [← ints_set] at ST
  rw [← HB.out, ← HT.out]; exact ST

set_option maxHeartbeats 800000 in
theorem one6_spec (p n : Int) (w : World) (hr : ringB 6 p n = true)  :
    Calls Tryz.prog 127 #[ringV 6 p n] w fun e w' => ∃ r m, e = .returned r ∧ widthI 6 n = (m : Nat) ∧ w'.ownsRow w.heap.size 3 1 r m (ints ((zerosL m).set 0 (topI 6 p n))) ∧ Below w.heap.size w w' := by
  obtain ⟨m, hm, hm1, hm2⟩ := width_nat hr
  obtain ⟨B, hB⟩ : ∃ B, B = w.heap.size := ⟨_, rfl⟩
  have HB := Lib.hid hB
  have HM := Lib.hid hm
  have HR := Lib.hid hr
  clear hm hr hB
  obtain ⟨i0, hi, hz0, hz1, hz2⟩ := info_parts infoInt
  go_enter Tryz.func127, Tryz.ntmps127
  go_wp2_with fail
  refine (Inv.call (Lib.hid (Inv.box w _ p n _)) (width_spec _ p n _)).mono ?_
  rw [HM.out]
  rintro e w1 ⟨rfl, HV1, c0, c1, c2⟩
  have hBs : B ≤ w1.heap.size := by rw [HB.out]; exact HV1.out.1.size
  go_wp2_with (at_make; refine wpList_make_full _ rfl _ _ 26 rfl B 3 i0 (.int .i64 0) 1 Tryz.underlying26 hi hz0 hz1 .i64 .i64 _ _ m rfl rfl rfl rfl (by rw [hz2]; omega) (by unfold maxLen; omega) (by exact hBs) ?_; intro w2 hown hgrow; obtain ⟨HV2, OW, hsz, f0, g1, d0, d1, d2⟩ := made_facts HV1 hown hgrow hm1; clear hown hgrow c0 c1 c2)
  obtain ⟨t, ht⟩ : ∃ t, t = topI 6 p n := ⟨_, rfl⟩
  have HT := Lib.hid ht
  clear ht
  go_wp2_with fail
  refine (Inv.call_own HV2 OW f0 g1 (top_spec 6 p n _ HR.out)).mono ?_
  rw [← HT.out]
  clear d0 d1 d2 f0 g1
  rintro e w3 ⟨rfl, HV3, OW3, f0, g1, d0, d1, d2, hz3⟩
  go_wp2
  go_ret
  refine ⟨_, m, rfl, HM.out, ?_, HV3.out.1.setCell (by have := HV1.out.1.size; simpa using this) _⟩
  have ST := (OW3.out.stored 0 (.int .i64 t)).1
  rw [← ints_set] at ST
  rw [← HB.out, ← HT.out]; exact ST

set_option maxHeartbeats 800000 in
theorem oneN_spec (k p n : Int) (w : World) (hr : ringB k p n = true) (h4 : (k == 4) = false) (h5 : (k == 5) = false) (h6 : (k == 6) = false) :
    Calls Tryz.prog 127 #[ringV k p n] w fun e w' => ∃ r m, e = .returned r ∧ widthI k n = (m : Nat) ∧ w'.ownsRow w.heap.size 3 1 r m (ints ((zerosL m).set 0 1)) ∧ Below w.heap.size w w' := by
  obtain ⟨m, hm, hm1, hm2⟩ := width_nat hr
  obtain ⟨B, hB⟩ : ∃ B, B = w.heap.size := ⟨_, rfl⟩
  have HB := Lib.hid hB
  have HM := Lib.hid hm
  have HR := Lib.hid hr
  clear hm hr hB
  obtain ⟨i0, hi, hz0, hz1, hz2⟩ := info_parts infoInt
  go_enter Tryz.func127, Tryz.ntmps127
  go_wp2_with fail
  refine (Inv.call (Lib.hid (Inv.box w _ p n _)) (width_spec _ p n _)).mono ?_
  rw [HM.out]
  rintro e w1 ⟨rfl, HV1, c0, c1, c2⟩
  have hBs : B ≤ w1.heap.size := by rw [HB.out]; exact HV1.out.1.size
  go_wp2_with (at_make; refine wpList_make_full _ rfl _ _ 26 rfl B 3 i0 (.int .i64 0) 1 Tryz.underlying26 hi hz0 hz1 .i64 .i64 _ _ m rfl rfl rfl rfl (by rw [hz2]; omega) (by unfold maxLen; omega) (by exact hBs) ?_; intro w2 hown hgrow; obtain ⟨HV2, OW, hsz, f0, g1, d0, d1, d2⟩ := made_facts HV1 hown hgrow hm1; clear hown hgrow c0 c1 c2)
  go_wp2
  go_ret
  refine ⟨_, m, rfl, HM.out, ?_, HV2.out.1.setCell (by have := HV1.out.1.size; simpa using this) _⟩
  have ST := (OW.out.stored 0 (.int .i64 1)).1
  rw [← ints_set] at ST
  rw [← HB.out]; exact ST

/-- The one (spec). -/
theorem one_spec (k p n : Int) (w : World) (hr : ringB k p n = true) : Calls Tryz.prog 127 #[ringV k p n] w (NewRow w (oneL k p n)) := by
  have fin : ∀ x, (if k = 5 ∨ k = 6 then topI k p n else if k = 4 then 0 else 1) = x → (Calls Tryz.prog 127 #[ringV k p n] w fun e w' => ∃ r m, e = .returned r ∧ widthI k n = (m : Nat) ∧ w'.ownsRow w.heap.size 3 1 r m (ints ((zerosL m).set 0 x)) ∧ Below w.heap.size w w') → Calls Tryz.prog 127 #[ringV k p n] w (NewRow w (oneL k p n)) := fun x hx h => h.mono fun e w' ⟨r, m, he, hm, ho, hb⟩ => ⟨r, he, Own.of (n := m) (by rw [oneL_eq hm, hx]; exact ho) (by rw [oneL_eq hm]; simp [zerosL]), hb⟩
  by_cases h4 : k = 4
  · subst h4; exact fin 0 (by simp) (one4_spec p n w hr)
  · by_cases h5 : k = 5
    · subst h5; exact fin _ (by simp) (one5_spec p n w hr)
    · by_cases h6 : k = 6
      · subst h6; exact fin _ (by simp) (one6_spec p n w hr)
      · exact fin 1 (by simp [h4, h5, h6]) (oneN_spec k p n w hr (by simpa using h4) (by simpa using h5) (by simpa using h6))

set_option maxHeartbeats 800000 in
theorem zero4_impl (p n : Int) (w : World) (hr : ringB 4 p n = true)  :
    Calls Tryz.prog 43 #[ringV 4 p n] w fun e w' => ∃ r m, e = .returned r ∧ widthI 4 n = (m : Nat) ∧ w'.ownsRow w.heap.size 3 1 r m (ints ((zerosL m).set 0 p)) ∧ Below w.heap.size w w' := by
  obtain ⟨m, hm, hm1, hm2⟩ := width_nat hr
  obtain ⟨B, hB⟩ : ∃ B, B = w.heap.size := ⟨_, rfl⟩
  have HB := Lib.hid hB
  have HM := Lib.hid hm
  have HR := Lib.hid hr
  clear hm hr hB
  obtain ⟨i0, hi, hz0, hz1, hz2⟩ := info_parts infoInt
  go_enter Tryz.func43, Tryz.ntmps43
  go_wp2_with fail
  refine (Inv.call (Lib.hid (Inv.box w _ p n _)) (width_impl _ p n _)).mono ?_
  rw [HM.out]
  rintro e w1 ⟨rfl, HV1, c0, c1, c2⟩
  have hBs : B ≤ w1.heap.size := by rw [HB.out]; exact HV1.out.1.size
  go_wp2_with (at_make; refine wpList_make_full _ rfl _ _ 26 rfl B 3 i0 (.int .i64 0) 1 Tryz.underlying26 hi hz0 hz1 .i64 .i64 _ _ m rfl rfl rfl rfl (by rw [hz2]; omega) (by unfold maxLen; omega) (by exact hBs) ?_; intro w2 hown hgrow; obtain ⟨HV2, OW, hsz, f0, g1, d0, d1, d2⟩ := made_facts HV1 hown hgrow hm1; clear hown hgrow c0 c1 c2)
  go_wp2
  go_ret
  refine ⟨_, m, rfl, HM.out, ?_, HV2.out.1.setCell (by have := HV1.out.1.size; simpa using this) _⟩
  have ST := (OW.out.stored 0 (.int .i64 p)).1
  rw [← ints_set] at ST
  rw [← HB.out]; exact ST

set_option maxHeartbeats 800000 in
theorem zeroN_impl (k p n : Int) (w : World) (hr : ringB k p n = true) (h4 : (k == 4) = false) :
    Calls Tryz.prog 43 #[ringV k p n] w fun e w' => ∃ r m, e = .returned r ∧ widthI k n = (m : Nat) ∧ w'.ownsRow w.heap.size 3 1 r m (ints (zerosL m)) ∧ Below w.heap.size w w' := by
  obtain ⟨m, hm, hm1, hm2⟩ := width_nat hr
  obtain ⟨B, hB⟩ : ∃ B, B = w.heap.size := ⟨_, rfl⟩
  have HB := Lib.hid hB
  have HM := Lib.hid hm
  have HR := Lib.hid hr
  clear hm hr hB
  obtain ⟨i0, hi, hz0, hz1, hz2⟩ := info_parts infoInt
  go_enter Tryz.func43, Tryz.ntmps43
  go_wp2_with fail
  refine (Inv.call (Lib.hid (Inv.box w _ p n _)) (width_impl _ p n _)).mono ?_
  rw [HM.out]
  rintro e w1 ⟨rfl, HV1, c0, c1, c2⟩
  have hBs : B ≤ w1.heap.size := by rw [HB.out]; exact HV1.out.1.size
  go_wp2_with (at_make; refine wpList_make_full _ rfl _ _ 26 rfl B 3 i0 (.int .i64 0) 1 Tryz.underlying26 hi hz0 hz1 .i64 .i64 _ _ m rfl rfl rfl rfl (by rw [hz2]; omega) (by unfold maxLen; omega) (by exact hBs) ?_; intro w2 hown hgrow; obtain ⟨HV2, OW, hsz, f0, g1, d0, d1, d2⟩ := made_facts HV1 hown hgrow hm1; clear hown hgrow c0 c1 c2)
  go_wp2
  go_ret
  exact ⟨_, m, rfl, HM.out, by rw [← HB.out]; exact OW.out, HV2.out.1⟩

/-- The zero (impl). -/
theorem zero_impl (k p n : Int) (w : World) (hr : ringB k p n = true) : Calls Tryz.prog 43 #[ringV k p n] w (NewRow w (zeroL k p n)) := by
  by_cases h4 : k = 4
  · subst h4; exact (zero4_impl p n w hr).mono fun e w' ⟨r, m, he, hm, ho, hb⟩ => ⟨r, he, Own.of (n := m) (by rw [zeroL_eq hm]; exact ho) (by rw [zeroL_eq hm]; simp [zerosL]), hb⟩
  · exact (zeroN_impl k p n w hr (by simpa using h4)).mono fun e w' ⟨r, m, he, hm, ho, hb⟩ => ⟨r, he, Own.of (n := m) (by rw [zeroL_eq hm, if_neg h4]; exact ho) (by rw [zeroL_eq hm, if_neg h4]; simp [zerosL]), hb⟩

set_option maxHeartbeats 800000 in
theorem one4_impl (p n : Int) (w : World) (hr : ringB 4 p n = true)  :
    Calls Tryz.prog 59 #[ringV 4 p n] w fun e w' => ∃ r m, e = .returned r ∧ widthI 4 n = (m : Nat) ∧ w'.ownsRow w.heap.size 3 1 r m (ints ((zerosL m).set 0 0)) ∧ Below w.heap.size w w' := by
  obtain ⟨m, hm, hm1, hm2⟩ := width_nat hr
  obtain ⟨B, hB⟩ : ∃ B, B = w.heap.size := ⟨_, rfl⟩
  have HB := Lib.hid hB
  have HM := Lib.hid hm
  have HR := Lib.hid hr
  clear hm hr hB
  obtain ⟨i0, hi, hz0, hz1, hz2⟩ := info_parts infoInt
  go_enter Tryz.func59, Tryz.ntmps59
  go_wp2_with fail
  refine (Inv.call (Lib.hid (Inv.box w _ p n _)) (width_impl _ p n _)).mono ?_
  rw [HM.out]
  rintro e w1 ⟨rfl, HV1, c0, c1, c2⟩
  have hBs : B ≤ w1.heap.size := by rw [HB.out]; exact HV1.out.1.size
  go_wp2_with (at_make; refine wpList_make_full _ rfl _ _ 26 rfl B 3 i0 (.int .i64 0) 1 Tryz.underlying26 hi hz0 hz1 .i64 .i64 _ _ m rfl rfl rfl rfl (by rw [hz2]; omega) (by unfold maxLen; omega) (by exact hBs) ?_; intro w2 hown hgrow; obtain ⟨HV2, OW, hsz, f0, g1, d0, d1, d2⟩ := made_facts HV1 hown hgrow hm1; clear hown hgrow c0 c1 c2)
  go_wp2
  go_ret
  refine ⟨_, m, rfl, HM.out, ?_, HV2.out.1.setCell (by have := HV1.out.1.size; simpa using this) _⟩
  have ST := (OW.out.stored 0 (.int .i64 0)).1
  rw [← ints_set] at ST
  rw [← HB.out]; exact ST

set_option maxHeartbeats 800000 in
theorem one5_impl (p n : Int) (w : World) (hr : ringB 5 p n = true)  :
    Calls Tryz.prog 59 #[ringV 5 p n] w fun e w' => ∃ r m, e = .returned r ∧ widthI 5 n = (m : Nat) ∧ w'.ownsRow w.heap.size 3 1 r m (ints ((zerosL m).set 0 (topI 5 p n))) ∧ Below w.heap.size w w' := by
  obtain ⟨m, hm, hm1, hm2⟩ := width_nat hr
  obtain ⟨B, hB⟩ : ∃ B, B = w.heap.size := ⟨_, rfl⟩
  have HB := Lib.hid hB
  have HM := Lib.hid hm
  have HR := Lib.hid hr
  clear hm hr hB
  obtain ⟨i0, hi, hz0, hz1, hz2⟩ := info_parts infoInt
  go_enter Tryz.func59, Tryz.ntmps59
  go_wp2_with fail
  refine (Inv.call (Lib.hid (Inv.box w _ p n _)) (width_impl _ p n _)).mono ?_
  rw [HM.out]
  rintro e w1 ⟨rfl, HV1, c0, c1, c2⟩
  have hBs : B ≤ w1.heap.size := by rw [HB.out]; exact HV1.out.1.size
  go_wp2_with (at_make; refine wpList_make_full _ rfl _ _ 26 rfl B 3 i0 (.int .i64 0) 1 Tryz.underlying26 hi hz0 hz1 .i64 .i64 _ _ m rfl rfl rfl rfl (by rw [hz2]; omega) (by unfold maxLen; omega) (by exact hBs) ?_; intro w2 hown hgrow; obtain ⟨HV2, OW, hsz, f0, g1, d0, d1, d2⟩ := made_facts HV1 hown hgrow hm1; clear hown hgrow c0 c1 c2)
  obtain ⟨t, ht⟩ : ∃ t, t = topI 5 p n := ⟨_, rfl⟩
  have HT := Lib.hid ht
  clear ht
  go_wp2_with fail
  refine (Inv.call_own HV2 OW f0 g1 (top_impl 5 p n _ HR.out)).mono ?_
  rw [← HT.out]
  clear d0 d1 d2 f0 g1
  rintro e w3 ⟨rfl, HV3, OW3, f0, g1, d0, d1, d2, hz3⟩
  go_wp2
  go_ret
  refine ⟨_, m, rfl, HM.out, ?_, HV3.out.1.setCell (by have := HV1.out.1.size; simpa using this) _⟩
  have ST := (OW3.out.stored 0 (.int .i64 t)).1
  rw [← ints_set] at ST
  rw [← HB.out, ← HT.out]; exact ST

set_option maxHeartbeats 800000 in
theorem one6_impl (p n : Int) (w : World) (hr : ringB 6 p n = true)  :
    Calls Tryz.prog 59 #[ringV 6 p n] w fun e w' => ∃ r m, e = .returned r ∧ widthI 6 n = (m : Nat) ∧ w'.ownsRow w.heap.size 3 1 r m (ints ((zerosL m).set 0 (topI 6 p n))) ∧ Below w.heap.size w w' := by
  obtain ⟨m, hm, hm1, hm2⟩ := width_nat hr
  obtain ⟨B, hB⟩ : ∃ B, B = w.heap.size := ⟨_, rfl⟩
  have HB := Lib.hid hB
  have HM := Lib.hid hm
  have HR := Lib.hid hr
  clear hm hr hB
  obtain ⟨i0, hi, hz0, hz1, hz2⟩ := info_parts infoInt
  go_enter Tryz.func59, Tryz.ntmps59
  go_wp2_with fail
  refine (Inv.call (Lib.hid (Inv.box w _ p n _)) (width_impl _ p n _)).mono ?_
  rw [HM.out]
  rintro e w1 ⟨rfl, HV1, c0, c1, c2⟩
  have hBs : B ≤ w1.heap.size := by rw [HB.out]; exact HV1.out.1.size
  go_wp2_with (at_make; refine wpList_make_full _ rfl _ _ 26 rfl B 3 i0 (.int .i64 0) 1 Tryz.underlying26 hi hz0 hz1 .i64 .i64 _ _ m rfl rfl rfl rfl (by rw [hz2]; omega) (by unfold maxLen; omega) (by exact hBs) ?_; intro w2 hown hgrow; obtain ⟨HV2, OW, hsz, f0, g1, d0, d1, d2⟩ := made_facts HV1 hown hgrow hm1; clear hown hgrow c0 c1 c2)
  obtain ⟨t, ht⟩ : ∃ t, t = topI 6 p n := ⟨_, rfl⟩
  have HT := Lib.hid ht
  clear ht
  go_wp2_with fail
  refine (Inv.call_own HV2 OW f0 g1 (top_impl 6 p n _ HR.out)).mono ?_
  rw [← HT.out]
  clear d0 d1 d2 f0 g1
  rintro e w3 ⟨rfl, HV3, OW3, f0, g1, d0, d1, d2, hz3⟩
  go_wp2
  go_ret
  refine ⟨_, m, rfl, HM.out, ?_, HV3.out.1.setCell (by have := HV1.out.1.size; simpa using this) _⟩
  have ST := (OW3.out.stored 0 (.int .i64 t)).1
  rw [← ints_set] at ST
  rw [← HB.out, ← HT.out]; exact ST

set_option maxHeartbeats 800000 in
theorem oneN_impl (k p n : Int) (w : World) (hr : ringB k p n = true) (h4 : (k == 4) = false) (h5 : (k == 5) = false) (h6 : (k == 6) = false) :
    Calls Tryz.prog 59 #[ringV k p n] w fun e w' => ∃ r m, e = .returned r ∧ widthI k n = (m : Nat) ∧ w'.ownsRow w.heap.size 3 1 r m (ints ((zerosL m).set 0 1)) ∧ Below w.heap.size w w' := by
  obtain ⟨m, hm, hm1, hm2⟩ := width_nat hr
  obtain ⟨B, hB⟩ : ∃ B, B = w.heap.size := ⟨_, rfl⟩
  have HB := Lib.hid hB
  have HM := Lib.hid hm
  have HR := Lib.hid hr
  clear hm hr hB
  obtain ⟨i0, hi, hz0, hz1, hz2⟩ := info_parts infoInt
  go_enter Tryz.func59, Tryz.ntmps59
  go_wp2_with fail
  refine (Inv.call (Lib.hid (Inv.box w _ p n _)) (width_impl _ p n _)).mono ?_
  rw [HM.out]
  rintro e w1 ⟨rfl, HV1, c0, c1, c2⟩
  have hBs : B ≤ w1.heap.size := by rw [HB.out]; exact HV1.out.1.size
  go_wp2_with (at_make; refine wpList_make_full _ rfl _ _ 26 rfl B 3 i0 (.int .i64 0) 1 Tryz.underlying26 hi hz0 hz1 .i64 .i64 _ _ m rfl rfl rfl rfl (by rw [hz2]; omega) (by unfold maxLen; omega) (by exact hBs) ?_; intro w2 hown hgrow; obtain ⟨HV2, OW, hsz, f0, g1, d0, d1, d2⟩ := made_facts HV1 hown hgrow hm1; clear hown hgrow c0 c1 c2)
  go_wp2
  go_ret
  refine ⟨_, m, rfl, HM.out, ?_, HV2.out.1.setCell (by have := HV1.out.1.size; simpa using this) _⟩
  have ST := (OW.out.stored 0 (.int .i64 1)).1
  rw [← ints_set] at ST
  rw [← HB.out]; exact ST

/-- The one (impl). -/
theorem one_impl (k p n : Int) (w : World) (hr : ringB k p n = true) : Calls Tryz.prog 59 #[ringV k p n] w (NewRow w (oneL k p n)) := by
  have fin : ∀ x, (if k = 5 ∨ k = 6 then topI k p n else if k = 4 then 0 else 1) = x → (Calls Tryz.prog 59 #[ringV k p n] w fun e w' => ∃ r m, e = .returned r ∧ widthI k n = (m : Nat) ∧ w'.ownsRow w.heap.size 3 1 r m (ints ((zerosL m).set 0 x)) ∧ Below w.heap.size w w') → Calls Tryz.prog 59 #[ringV k p n] w (NewRow w (oneL k p n)) := fun x hx h => h.mono fun e w' ⟨r, m, he, hm, ho, hb⟩ => ⟨r, he, Own.of (n := m) (by rw [oneL_eq hm, hx]; exact ho) (by rw [oneL_eq hm]; simp [zerosL]), hb⟩
  by_cases h4 : k = 4
  · subst h4; exact fin 0 (by simp) (one4_impl p n w hr)
  · by_cases h5 : k = 5
    · subst h5; exact fin _ (by simp) (one5_impl p n w hr)
    · by_cases h6 : k = 6
      · subst h6; exact fin _ (by simp) (one6_impl p n w hr)
      · exact fin 1 (by simp [h4, h5, h6]) (oneN_impl k p n w hr (by simpa using h4) (by simpa using h5) (by simpa using h6))

end Go.Proofs.YtgbmacppgaopfabGreat
namespace Go.Proofs.YtgbmacppgaopfabGreat
set_option maxRecDepth 20000
open Go.RowKit

noncomputable def oneOfL (k p n : Int) : List Int := if ringB k p n = true then oneL k p n else []
theorem NewRow.after {w0 w : World} {xs : List Int} {e : Ending} {w' : World} (hb : Below w0.heap.size w0 w) (h : NewRow w xs e w') : NewRow w0 xs e w' := by
  obtain ⟨r, he, ho, h1⟩ := h
  exact ⟨r, he, ⟨ho.1.mono hb.size, ho.2⟩, hb.trans (h1.mono hb.size)⟩

set_option maxHeartbeats 400000 in
theorem one_of_impl (k p n : Int) (w : World) : Calls Tryz.prog 20 #[ringV k p n] w (NewRow w (oneOfL k p n)) := by
  cases hr : ringB k p n with
  | false =>
    have e : oneOfL k p n = [] := by simp [oneOfL, hr]
    rw [e]
    have HR := Lib.hid hr
    clear hr e
    go_enter Tryz.func20, Tryz.ntmps20
    go_wp2_with fail
    refine (Inv.call (Lib.hid (Inv.box w k p n _)) (ring_ok_impl k p n _)).mono ?_
    rw [HR.out]
    rintro e w1 ⟨rfl, HV1, c0, c1, c2⟩
    go_wp2
    go_ret
    exact ⟨_, rfl, ⟨World.ownsRow_nil _ _ _ _, (fun g hg => by cases hg), Nat.le_refl _⟩, HV1.out.1⟩
  | true =>
    obtain ⟨r, hres⟩ : ∃ r, r = oneOfL k p n := ⟨_, rfl⟩
    have HE := Lib.hid (show r = oneL k p n by rw [hres]; simp [oneOfL, hr])
    rw [← hres]
    have HR := Lib.hid hr
    clear hr hres
    go_enter Tryz.func20, Tryz.ntmps20
    go_wp2_with fail
    refine (Inv.call (Lib.hid (Inv.box w k p n _)) (ring_ok_impl k p n _)).mono ?_
    rw [HR.out]
    rintro e w1 ⟨rfl, HV1, c0, c1, c2⟩
    go_wp2_with fail
    refine (one_impl k p n _ HR.out).mono ?_
    rw [← HE.out]
    intro e w2 h2
    obtain ⟨v, rfl, ho, hb⟩ := NewRow.after HV1.out.1 h2
    clear h2
    have HO := Lib.hid ho
    have HB := Lib.hid hb
    clear ho hb
    go_wp2
    go_ret
    exact ⟨v, rfl, HO.out, HB.out⟩

end Go.Proofs.YtgbmacppgaopfabGreat
namespace Go.Proofs.YtgbmacppgaopfabGreat
set_option maxRecDepth 20000
open Go.RowKit

set_option maxHeartbeats 800000 in
theorem clone_row (b off cap m : Nat) (xs : List Int) (w : World) (hm : xs.length = m) (hn : m ≤ 1099511627776) (hb : b < w.heap.size) (hc : ∀ i (h : i < xs.length), w.cell? ⟨b, off + i, none⟩ = some (.int .i64 xs[i])) :
    Calls Tryz.prog 81 #[.slice (some ⟨b, off, none⟩) m cap] w (NewRow w xs) := by
  obtain ⟨i0, hi, hz0, hz1, hz2⟩ := info_parts infoInt
  have J0 := Lib.hid hi
  have J1 := Lib.hid hz0
  have J2 := Lib.hid hz1
  have J3 := Lib.hid hz2
  have HM := Lib.hid hm
  have HC : Hid (∀ j u, (ints xs)[j]? = some u → (w.alloc (.cells #[] 3)).cell? ((⟨b, off, none⟩ : Addr).add j) = some u) := Lib.hid fun j u hj => by
    rw [← news_at hc j u hj, Addr.add_lit]
    exact ((Below.refl w.heap.size w).alloc (Nat.le_refl _) _).cell (p := ⟨b, off + j, none⟩) hb
  have HL := Lib.hid (World.ownsRow_lit (base := w.heap.size) (e := 3) (size := 1) w #[] 0 (Nat.le_refl _) (by unfold maxLen; omega) rfl)
  clear hi hz0 hz1 hz2 hm hc
  have hnil := fun wx : World => Lib.run_eql_slice_nil (P := Tryz.prog) wx 26 3 (some ⟨b, off, none⟩) m cap 0 0 Tryz.underlying26
  go_enter Tryz.func81, Tryz.ntmps81
  go_wp2_with (at_builtin; go_must (refine wpList_append_own _ rfl _ _ 26 rfl w.heap.size 3 i0 (.int .i64 0) 1 8 Tryz.underlying26 J0.out J1.out J2.out J3.out rfl (by decide) _ _ _ rfl HL.out ⟨b, off, none⟩ m cap (ints xs) rfl ?c1 HC.out (one_cells xs) ?c2 ?c3 (by simp) ?_))
  case c1 => rw [ints_len, HM.out]
  case c2 => unfold maxLen; omega
  case c3 => omega
  intro v' w2 hown hg _
  have RES : Hid (NewRow w xs (.returned v') w2) := Lib.hid ⟨v', rfl, Own.of (n := 0 + m) (by simpa using hown) (by rw [HM.out]; omega), by
    have := ((Below.refl w.heap.size w).alloc (Nat.le_refl _) (.cells #[] 3)).grown hg (by simp) (fun j hj => by cases hj; exact Nat.le_refl _)
    exact this⟩
  clear hown hg
  go_wp2
  go_ret
  exact RES.out
end Go.Proofs.YtgbmacppgaopfabGreat
namespace Go.Proofs.YtgbmacppgaopfabGreat
set_option maxRecDepth 20000
open Go.RowKit

set_option maxHeartbeats 800000 in
theorem clone_some (ad : Addr) (cap m : Nat) (xs : List Int) (w : World) (hm : xs.length = m) (hn : m ≤ 1099511627776) (hc : ∀ j u, (ints xs)[j]? = some u → (w.alloc (.cells #[] 3)).cell? (ad.add j) = some u) :
    Calls Tryz.prog 81 #[.slice (some ad) m cap] w (NewRow w xs) := by
  obtain ⟨i0, hi, hz0, hz1, hz2⟩ := info_parts infoInt
  have J0 := Lib.hid hi
  have J1 := Lib.hid hz0
  have J2 := Lib.hid hz1
  have J3 := Lib.hid hz2
  have HM := Lib.hid hm
  have HC := Lib.hid hc
  have HL := Lib.hid (World.ownsRow_lit (base := w.heap.size) (e := 3) (size := 1) w #[] 0 (Nat.le_refl _) (by unfold maxLen; omega) rfl)
  clear hi hz0 hz1 hz2 hm hc
  have hnil := fun wx : World => Lib.run_eql_slice_nil (P := Tryz.prog) wx 26 3 (some ad) m cap 0 0 Tryz.underlying26
  go_enter Tryz.func81, Tryz.ntmps81
  go_wp2_with (at_builtin; go_must (refine wpList_append_own _ rfl _ _ 26 rfl w.heap.size 3 i0 (.int .i64 0) 1 8 Tryz.underlying26 J0.out J1.out J2.out J3.out rfl (by decide) _ _ _ rfl HL.out ad m cap (ints xs) rfl ?c1 HC.out (one_cells xs) ?c2 ?c3 (by simp) ?_))
  case c1 => rw [ints_len, HM.out]
  case c2 => unfold maxLen; omega
  case c3 => omega
  intro v' w2 hown hg _
  have RES : Hid (NewRow w xs (.returned v') w2) := Lib.hid ⟨v', rfl, Own.of (n := 0 + m) (by simpa using hown) (by rw [HM.out]; omega), by
    have := ((Below.refl w.heap.size w).alloc (Nat.le_refl _) (.cells #[] 3)).grown hg (by simp) (fun j hj => by cases hj; exact Nat.le_refl _)
    exact this⟩
  clear hown hg
  go_wp2
  go_ret
  exact RES.out
set_option maxHeartbeats 400000 in
theorem clone_nil (cap m : Nat) (w : World) :
    Calls Tryz.prog 81 #[.slice none m cap] w (NewRow w []) := by
  have hnil := fun wx : World => Lib.run_eql_slice_nil (P := Tryz.prog) wx 26 3 none m cap 0 0 Tryz.underlying26
  go_enter Tryz.func81, Tryz.ntmps81
  go_wp2
  go_ret
  exact ⟨_, rfl, ⟨World.ownsRow_nil _ _ _ _, (fun g hg => by cases hg), Nat.le_refl _⟩, Below.refl _ _⟩
theorem clone_any {B : Nat} {v : Value} {xs : List Int} {w : World} (h : Rd B w v (ints xs)) (hB : B ≤ w.heap.size) (hn : xs.length ≤ 1099511627776) :
    Calls Tryz.prog 81 #[v] w (NewRow w xs) := by
  rcases h.ints_cases with ⟨rfl, a, cap, rfl⟩ | ⟨b, off, cap, rfl, hb, -, hc⟩
  · cases a with
    | none => exact clone_nil cap 0 w
    | some ad => exact clone_some ad cap 0 [] w rfl (by omega) (fun j u hj => by simp [ints] at hj)
  · exact clone_row b off cap xs.length xs w rfl hn (Nat.lt_of_lt_of_le hb hB) hc
end Go.Proofs.YtgbmacppgaopfabGreat
namespace Go.Proofs.YtgbmacppgaopfabGreat
set_option maxRecDepth 20000
open Go.RowKit

/-- z, j times. -/
def repL (z : List Int) (j : Nat) : List Int := (List.replicate j z).flatten
theorem repL_succ (z : List Int) (j : Nat) : repL z (j + 1) = repL z j ++ z := by
  unfold repL
  rw [List.replicate_succ', List.flatten_append]; simp
theorem repL_len (z : List Int) (j : Nat) : (repL z j).length = j * z.length := by
  unfold repL; simp
/-- l05Zero under way. -/
structure ZT (w wr : World) (ob lo : Nat) (k p q : Int) (l' d' xv : Value) (L D Z : List Int) : Prop where
  rg : Bx w wr w.heap.size (.int .i64 k) (.int .i64 p) (.int .i64 q)
  an : Bx w wr (w.heap.size + 1) nilV nilV nilV
  bx : Bx w wr ob l' d' xv
  ol : Own wr lo ob l' L
  od : Own wr lo ob d' D
  ox : Own wr (ob + 1) wr.heap.size xv Z
  ap : ∀ g, l'.ownBlock = some g → d'.ownBlock ≠ some g
  hl : w.heap.size + 1 < lo
theorem Own.wide {w : World} {lo hi lo' hi' : Nat} {v : Value} {xs : List Int} (h : Own w lo hi v xs) (h1 : lo' ≤ lo) (h2 : hi ≤ hi') (h3 : hi' ≤ w.heap.size) : Own w lo' hi' v xs :=
  ⟨⟨h.1.1, h.1.2.imp id (fun ⟨g, cap, cur, e, hb, q⟩ => ⟨g, cap, cur, e, Nat.le_trans h1 hb, q⟩)⟩, fun g hg => Nat.lt_of_lt_of_le (h.2.1 g hg) h2, h3⟩
theorem ZT.step {w wr w' : World} {ob lo : Nat} {k p q : Int} {l' d' xv : Value} {L D Z : List Int} (h : ZT w wr ob lo k p q l' d' xv L D Z) (hb : Below wr.heap.size wr w') : ZT w w' ob lo k p q l' d' xv L D Z :=
  ⟨h.rg.step hb, h.an.step hb, h.bx.step hb, h.ol.below hb (Nat.le_refl _), h.od.below hb (Nat.le_refl _), (h.ox.below hb (Nat.le_refl _)).wide (Nat.le_refl _) hb.size (Nat.le_refl _), h.ap, h.hl⟩
/-- The data has grown: behind the append. -/
theorem ZT.app {w wr w' : World} {ob lo m : Nat} {k p q : Int} {l' d' xv v' : Value} {L D Z Z' : List Int} (h : ZT w wr ob lo k p q l' d' xv L D Z) (hlo : lo ≤ ob) (hg : wr.grownBy w' xv.ownBlock) (ho : w'.ownsRow (ob + 1) 3 1 v' m (ints Z')) (hm : Z'.length = m) :
    Bx w w' w.heap.size (.int .i64 k) (.int .i64 p) (.int .i64 q) ∧ Bx w w' (w.heap.size + 1) nilV nilV nilV ∧ Bx w w' ob l' d' xv ∧ ZT w (w'.setCell ⟨ob, 2, none⟩ v') ob lo k p q l' d' v' L D Z' := by
  have far : ∀ g, xv.ownBlock = some g → ob < g := fun g hg => h.ox.lo g hg
  have hl := h.hl
  have b1 := h.rg.grown hg (fun g e => ⟨by have := far g e; omega, by have := far g e; omega⟩)
  have b2 := h.an.grown hg (fun g e => ⟨by have := far g e; omega, by have := far g e; omega⟩)
  have b3 := h.bx.grown hg (fun g e => ⟨by have := far g e; omega, by have := far g e; omega⟩)
  refine ⟨b1, b2, b3, b1.far (by omega) (by omega) _ _, b2.far (by omega) (by omega) _ _, ?_, ?_, ?_, ?_, h.ap, h.hl⟩
  · have := b3.set v' 2
    simpa using this
  · have h1 := h.ol.kept hg (fun g e => .inr (Nat.le_of_lt (far g e)))
    refine h1.kept (row := some ob) (grownBy_setCell ⟨rfl, rfl, rfl, Nat.le_refl _, fun _ _ _ => rfl⟩ rfl _) (fun g e => by cases e; exact .inr (Nat.le_refl _))
  · have h1 := h.od.kept hg (fun g e => .inr (Nat.le_of_lt (far g e)))
    refine h1.kept (row := some ob) (grownBy_setCell ⟨rfl, rfl, rfl, Nat.le_refl _, fun _ _ _ => rfl⟩ rfl _) (fun g e => by cases e; exact .inr (Nat.le_refl _))
  · have h1 : Own w' (ob + 1) w'.heap.size v' Z' := Own.of ho hm
    have := Own.set h1 (b := ob) (i := 2) (by omega) v'
    simpa using this
theorem ZT.row {w wr : World} {ob lo n : Nat} {k p q : Int} {l' d' xv : Value} {L D Z : List Int} (h : ZT w wr ob lo k p q l' d' xv L D Z) (hn : Z.length = n) : wr.ownsRow (ob + 1) 3 1 xv n (ints Z) := hn ▸ h.ox.1

set_option maxHeartbeats 1600000 in
theorem zero_ten_spec {B : Nat} {lv dv : Value} {k p q : Int} {L D : List Int} {w : World} (N : Nat) (hl : Rd B w lv (ints L)) (hd : Rd B w dv (ints D)) (hB : B ≤ w.heap.size) (h1 : L.length ≤ 1099511627776) (h2 : D.length ≤ 1099511627776) (hr : ringB k p q = true) (hD : ∀ d ∈ D, 1 ≤ d ∧ d ≤ 8) (hN : capI D = (N : Int)) (hN2 : N ≤ 4097) :
    Calls Tryz.prog 106 #[ringV k p q, lv, dv] w (NewTen w L D (repL (zeroL k p q) N)) := by
  have HL0 := Lib.hid hl
  have HD0 := Lib.hid hd
  have HB := Lib.hid hB
  have T0 := Lib.hid (Bx.two w (.int .i64 k) (.int .i64 p) (.int .i64 q) nilV nilV nilV 24 28)
  have HI1 := Lib.hid (fun (w1 : World) (hb : Below w.heap.size w w1) => ints_new (HL0.out.below hb HB.out) (Nat.le_trans HB.out hb.size) h1)
  have HI2 := Lib.hid (fun (w1 : World) (hb : Below w.heap.size w w1) => ints_new (HD0.out.below hb HB.out) (Nat.le_trans HB.out hb.size) h2)
  have HPR := Lib.hid (fun (w1 : World) (hb : Below w.heap.size w w1) => product_spec (HD0.out.below hb HB.out) (show D.length ≤ 281474976710656 by omega) hD)
  have HZ := Lib.hid (fun (w1 : World) => zero_spec k p q w1 hr)
  obtain ⟨wd, hwd, hwd1, hwd2⟩ := width_nat hr
  have HZL : Hid ((zeroL k p q).length = wd) := Lib.hid (by unfold zeroL; simp [hwd])
  rw [hN] at HPR
  obtain ⟨al, cl, rfl, -⟩ := ints_form hl
  obtain ⟨ad, cd, rfl, -⟩ := ints_form hd
  obtain ⟨i0, hi, hz0, hz1, hz2⟩ := info_parts infoInt
  have J0 := Lib.hid hi
  have J1 := Lib.hid hz0
  have J2 := Lib.hid hz1
  have J3 := Lib.hid hz2
  clear hl hd hB h1 h2 hr hD hN hwd hi hz0 hz1 hz2
  go_enter Tryz.func106, Tryz.ntmps106
  go_wp2_with fail
  refine (HI1.out _ T0.out.1.bel).mono ?_
  rintro e w1 ⟨u1, rfl, ho1, hb⟩
  have T1 := Lib.hid (And.intro (T0.out.1.step hb) (T0.out.2.step hb))
  have O11 := Lib.hid ho1
  obtain ⟨a1, c1, rfl, -⟩ := ints_form ho1.rd
  have hz0 : w.heap.size + 1 < w1.heap.size := T1.out.2.lt
  have E0 := Lib.hid (show w.heap.size + 1 + 1 ≤ w1.heap.size by omega)
  have hs1 : ((w.alloc (.cells #[.int .i64 k, .int .i64 p, .int .i64 q] 24)).alloc (.cells #[nilV, nilV, nilV] 28)).heap.size = w.heap.size + 1 + 1 := by simp
  rw [hs1] at O11
  clear hb ho1 T0 hz0 hs1
  go_wp2_with fail
  refine (HI2.out _ T1.out.1.bel).mono ?_
  rintro e w2 ⟨u2, rfl, ho2, hb⟩
  have T2 := Lib.hid (And.intro (T1.out.1.step hb) (T1.out.2.step hb))
  have O12 := Lib.hid (O11.out.below hb (Nat.le_refl _))
  have O22 := Lib.hid ho2
  obtain ⟨a2, c2, rfl, -⟩ := ints_form ho2.rd
  have E2 := Lib.hid hb.size
  clear hb ho2 T1 O11
  have BX := Lib.hid (Bx.new T2.out.1.bel (.slice a1 L.length c1) (.slice a2 D.length c2) nilV 28)
  have hal := (Below.refl w2.heap.size w2).alloc (Nat.le_refl _) (.cells #[.slice a1 L.length c1, .slice a2 D.length c2, nilV] 28)
  have Z3 : Hid (ZT w (w2.alloc (.cells #[.slice a1 L.length c1, .slice a2 D.length c2, nilV] 28)) w2.heap.size (w.heap.size + 1 + 1) k p q (.slice a1 L.length c1) (.slice a2 D.length c2) nilV L D []) := Lib.hid (by
    have e0 := E0.out
    have e2 := E2.out
    exact ⟨T2.out.1.step hal, T2.out.2.step hal, BX.out, (O12.out.below hal (Nat.le_refl _)).wide (Nat.le_refl _) e2 (by simp), (O22.out.below hal (Nat.le_refl _)).wide e0 (Nat.le_refl _) (by simp), (by have := Own.nil (w2.alloc (.cells #[.slice a1 L.length c1, .slice a2 D.length c2, nilV] 28)) (w2.heap.size + 1); exact this), (fun g hg hg' => by
      have h1 := O12.out.2.1 g hg
      have h2 := O22.out.lo g hg'
      omega), by omega⟩)
  have HOB := Lib.hid (Nat.le_trans E0.out E2.out)
  clear BX hal T2 O12 O22 E0 E2
  go_wp2_with fail
  refine (HPR.out _ Z3.out.rg.bel).mono ?_
  rintro e w3 ⟨rfl, rfl⟩
  go_wp2
  go_loopw [8] (fun s wr => ∃ (m n cx : Nat) (ax : Option Addr), m ≤ N ∧ s = .int .i64 m ∧ n ≤ 24582 ∧ Hid (n = (N - m) * wd) ∧ Hid (ZT w wr w2.heap.size (w.heap.size + 1 + 1) k p q (.slice a1 L.length c1) (.slice a2 D.length c2) (.slice ax n cx) L D (repL (zeroL k p q) (N - m)))) (fun s _ => (intOf s).toNat)
  case atStart => exact ⟨N, 0, 0, none, Nat.le_refl _, rfl, by omega, by show 0 = _; simp, by rw [Nat.sub_self]; exact Z3⟩
  case round =>
    clear Z3
    obtain ⟨m, n, cx, ax, hm, rfl, hn, HNE, HZT⟩ := hrel
    cases m with
    | zero =>
      obtain ⟨-, -, -, -, -, -, -⟩ := HZT.out.rg
      have an := HZT.out.an
      obtain ⟨-, t0, t1, t2, fr, -, -⟩ := an
      have f0 := fr 0
      have f1 := fr 1
      have f2 := fr 2
      clear fr
      obtain ⟨-, b0, b1, b2, -, blt, -⟩ := HZT.out.bx
      go_wp2
      refine bodyPost_ret (v := tenV (.slice a1 L.length c1) (.slice a2 D.length c2) (.slice ax n cx)) (by simp [results, Tryz.results106, go_sem, t0, t1, t2]) rfl ?_
      have hob := HOB.out
      have h := HZT.out
      refine ⟨_, _, _, rfl, ?_, ((h.an.bel.setCell (by simp) _).setCell (by simp) _).setCell (by simp) _⟩
      have ho := h.ox
      rw [Nat.sub_zero] at ho
      refine OwnG.wide (lo := w.heap.size + 1 + 1) (hi := wr.heap.size) (OwnG.of3 (ApartG.three (x := L) (y := D) (z := L) h.ap (fun g hg hg' => ?_) (fun g hg hg' => ?_)) (Own.set (Own.set (Own.set (h.ol.wide (Nat.le_refl _) (by omega) (Nat.le_refl _)) (by omega) _) (by omega) _) (by omega) _) (Own.set (Own.set (Own.set (h.od.wide (Nat.le_refl _) (by omega) (Nat.le_refl _)) (by omega) _) (by omega) _) (by omega) _) (Own.set (Own.set (Own.set (ho.wide (by omega) (Nat.le_refl _) (Nat.le_refl _)) (by omega) _) (by omega) _) (by omega) _)) (by omega) (by simp) (by simp)
      · have h1 := h.ol.2.1 g hg; have h2 := h.ox.lo g hg'; omega
      · have h1 := h.od.2.1 g hg; have h2 := h.ox.lo g hg'; omega
    | succ m =>
      obtain ⟨-, r0, r1, r2, -⟩ := HZT.out.rg
      obtain ⟨-, -, -, b2, -⟩ := HZT.out.bx
      have hcast : ((m + 1 : Nat) : Int) = (m : Int) + 1 := by omega
      rw [hcast]
      have q1 : decide ((0 : Int) < (m : Int) + 1) = true := by simp
      go_wp2
      have HZD := Lib.hid (HZT.out.step ((Below.refl wr.heap.size wr).drew))
      have HLN : Hid ((repL (zeroL k p q) (N - (m + 1))).length = n) := Lib.hid (by rw [repL_len, HZL.out, HNE.out])
      have HSU : Hid (repL (zeroL k p q) (N - m) = repL (zeroL k p q) (N - (m + 1)) ++ zeroL k p q) := Lib.hid (by rw [← repL_succ]; congr 1; omega)
      have NB : Hid (n + wd = (N - m) * wd ∧ n + wd ≤ 24582) := Lib.hid (by
        have h : n + wd = (N - m) * wd := by
          rw [HNE.out, show N - m = N - (m + 1) + 1 by omega, Nat.add_mul, Nat.one_mul]
        refine ⟨h, ?_⟩
        rw [h]
        exact Nat.le_trans (Nat.mul_le_mul (show N - m ≤ 4097 by omega) hwd2) (by omega))
      have hsub : IntKind.i64.wrap ((m : Int) + 1 - 1) = (m : Int) := by rw [Int.add_sub_cancel]; exact IntWalk.i64_in _ (by omega)
      have b2d : wr.drew.cell? ⟨w2.heap.size, 2, none⟩ = some (.slice ax n cx) := b2
      go_region_law (first
        | (refine step_append_lies _ rfl (.tmp 21) (.tmp 23) 26 rfl (w2.heap.size + 1) 3 i0 (.int .i64 0) 1 8 Tryz.underlying26 J0.out J1.out J2.out J3.out rfl Nat.one_pos (.slice ax n cx) n (ints (repL (zeroL k p q) (N - (m + 1)))) rfl OX4.out ⟨gz, 0, none⟩ wd cz (ints (zeroL k p q)) rfl ?_ HNW.out (one_cells _) ?_ ?_ ?_ BS4.out _ rfl ?_
           · rw [ints_len, HZL.out, Nat.mul_one]
           · omega
           · unfold maxLen; omega
           · omega
           intro g cap w5 hown hgrow _ _
           have hown2 : w5.ownsRow (w2.heap.size + 1) 3 1 (.slice (some ⟨g, 0, none⟩) (n + wd) cap) (n + wd) (ints (repL (zeroL k p q) (N - m))) := by rw [HSU.out]; unfold ints at hown ⊢; rw [List.map_append]; exact hown
           obtain ⟨-, -, ⟨-, -, -, b2, fr, -, -⟩, hzt⟩ := HZ4.out.app HOB.out hgrow hown2 (by rw [HSU.out, List.length_append, HLN.out, HZL.out])
           have HZ5 := Lib.hid hzt
           have f2 := fr 2
           clear hown hgrow hown2 hzt fr)
        | (go_simp
           go_at_call 125
           refine (HZ.out _).mono ?_
           rintro e w4 ⟨z, rfl, ho, hb⟩
           obtain ⟨gz, cz, rfl, hnews⟩ := own_form ho HZL.out hwd1
           have HNW := Lib.hid hnews
           have HZ4 := Lib.hid (HZD.out.step hb)
           have OX4 := Lib.hid (HZ4.out.row HLN.out)
           have BS4 : Hid (w2.heap.size + 1 ≤ w4.heap.size) := Lib.hid (Nat.succ_le_of_lt HZ4.out.bx.lt)
           have b24 := HZ4.out.bx.c2
           clear hnews ho hb))
      all_goals
        go_wp2
        go_roundw
        case rel => exact ⟨m, n + wd, cap, some ⟨g, 0, none⟩, by omega, rfl, NB.out.2, NB.out.1, HZ5⟩
        case measure => simp [intOf]
end Go.Proofs.YtgbmacppgaopfabGreat
