
/- zero and one of a valid ring, both. -/
import Derived.Test.YtdheakjjnaifkaaElem
import Derived.Test.YtdheakjjnaifkaaLawKit
import Derived.Deep.Onto
import Derived.Deep.DeepMust
import Derived.Maps.AppendAt
import Derived.Test.YtdheakjjnaifkaaRs
import Derived.Deep.RegionLaw
import Derived.Deep.AppendLies
namespace Go.Proofs.Ytdheakjjnaifkaa
set_option maxRecDepth 20000
open Go.RowKit

theorem zeros_make (n : Nat) : (madeCells (Value.int .i64 0).cells (n * 1)).toList = List.replicate n (.int .i64 0) := by
  rw [Nat.mul_one]
  exact toList_madeCells_one _ _
def zerosL (n : Nat) : List Int := List.replicate n 0
theorem ints_zeros (n : Nat) : ints (zerosL n) = List.replicate n (.int .i64 0) := by simp [ints, zerosL]
theorem ints_set (xs : List Int) (i : Nat) (x : Int) : ints (xs.set i x) = (ints xs).set i (.int .i64 x) := by simp [ints, List.map_set]
theorem made_facts {w w1 w2 : World} {b k p n : _} {m B : Nat} (HV1 : Hid (Inv w w1 b k p n)) (hown : w2.ownsRow B 3 1 (.slice (some ⟨w1.heap.size, 0, none⟩) m m) m (madeCells (Value.int .i64 0).cells (m * 1)).toList) (hgrow : w1.grownBy w2 none) (hm : 1 ≤ m) :
    Hid (Inv w w2 b k p n) ∧ Hid (w2.ownsRow B 3 1 (.slice (some ⟨w1.heap.size, 0, none⟩) m m) m (ints (zerosL m))) ∧ w1.heap.size ≤ w2.heap.size ∧ w2.frozen? ⟨w1.heap.size, 0, none⟩ = false ∧ w2.cell? ⟨w1.heap.size, 0, none⟩ = some (.int .i64 0) ∧
      w2.cell? ⟨b, 0, none⟩ = some (.int .i64 k) ∧ w2.cell? ⟨b, 1, none⟩ = some (.int .i64 p) ∧ w2.cell? ⟨b, 2, none⟩ = some (.int .i64 n) := by
  rw [zeros_make, ← ints_zeros] at hown
  have h2 := HV1.out.step ((Below.refl _ _).grown hgrow (Nat.le_refl _) (fun j hj => by cases hj))
  exact ⟨h2, hown, hgrow.size, hown.frozenAt 0, by rw [hown.cellAt 0 (by omega), ints_zeros, List.getElem?_replicate, if_pos (by omega)], h2.cells⟩
theorem Inv.call_own {P : Program} {f : FuncId} {args : Array Value} {w0 w : World} {b B g m : Nat} {k p n x : Int} {zs : List Int} {R : Ending → Prop} (h : Hid (Inv w0 w b k p n)) (ho : Hid (w.ownsRow B 3 1 (.slice (some ⟨g, 0, none⟩) m m) m (ints zs))) (hf : w.frozen? ⟨g, 0, none⟩ = false) (hc0 : w.cell? ⟨g, 0, none⟩ = some (.int .i64 x)) (hc : Calls P f args w fun e w' => R e ∧ Below w.heap.size w w') :
    Calls P f args w fun e w' => R e ∧ Hid (Inv w0 w' b k p n) ∧ Hid (w'.ownsRow B 3 1 (.slice (some ⟨g, 0, none⟩) m m) m (ints zs)) ∧ w'.frozen? ⟨g, 0, none⟩ = false ∧ w'.cell? ⟨g, 0, none⟩ = some (.int .i64 x) ∧ w'.cell? ⟨b, 0, none⟩ = some (.int .i64 k) ∧ w'.cell? ⟨b, 1, none⟩ = some (.int .i64 p) ∧ w'.cell? ⟨b, 2, none⟩ = some (.int .i64 n) ∧ w.heap.size ≤ w'.heap.size :=
  hc.mono fun _ _ ⟨he, hb⟩ => by
    have hg := (ho.out.lt g rfl).2
    have hk : ∀ v, w.ownsRow B 3 1 v m (ints zs) → _ := fun v h => h.kept (row := none) ⟨hb.os, hb.tape, hb.output, hb.size, fun j hj _ => hb.block j hj⟩ (by
      cases hv : v.ownBlock with
      | none => exact .inl rfl
      | some g => exact .inr (by simp))
    exact ⟨he, h.out.step hb, hk _ ho.out, (hb.frozen (p := ⟨g, 0, none⟩) hg).trans hf, (hb.cell (p := ⟨g, 0, none⟩) hg).trans hc0, (h.out.step hb).cells.1, (h.out.step hb).cells.2.1, (h.out.step hb).cells.2.2, hb.size⟩
theorem width_nat {k p n : Int} (h : ringB k p n = true) : ∃ m : Nat, widthI k n = m ∧ 1 ≤ m ∧ m ≤ 6 := by
  have := ring_width h
  exact ⟨(widthI k n).toNat, by omega, by omega, by omega⟩
theorem zeroL_eq {k p n : Int} {m : Nat} (h : widthI k n = m) : zeroL k p n = if k = 4 then (zerosL m).set 0 p else zerosL m := by
  unfold zeroL zerosL
  rw [h, Int.toNat_natCast]
  by_cases h4 : k = 4
  · rw [if_pos h4]
    apply List.ext_getElem (by simp)
    intro i h1 h2
    simp only [List.getElem_map, List.getElem_range, List.getElem_set, List.getElem_replicate]
    by_cases h0 : i = 0
    · simp [h0, h4]
    · rw [if_neg (by omega), if_neg (by omega)]
  · rw [if_neg h4]
    apply List.ext_getElem (by simp)
    intro i h1 h2
    simp only [List.getElem_map, List.getElem_range, List.getElem_replicate]
    rw [if_neg (by omega)]
theorem oneL_eq {k p n : Int} {m : Nat} (h : widthI k n = m) : oneL k p n = (zerosL m).set 0 (if k = 5 ∨ k = 6 then topI k p n else if k = 4 then 0 else 1) := by
  unfold oneL zerosL
  rw [h, Int.toNat_natCast]
  apply List.ext_getElem (by simp)
  intro i h1 h2
  simp only [List.getElem_map, List.getElem_range, List.getElem_set, List.getElem_replicate]
  by_cases h0 : i = 0
  · rw [if_pos h0, if_pos h0.symm]
  · rw [if_neg h0, if_neg (fun e => h0 e.symm)]

set_option maxHeartbeats 800000 in
theorem one4_spec (p n : Int) (w : World) (hr : ringB 4 p n = true)  :
    Calls Try.prog 88 #[ringV 4 p n] w fun e w' => ∃ r m, e = .returned r ∧ widthI 4 n = (m : Nat) ∧ w'.ownsRow w.heap.size 3 1 r m (ints ((zerosL m).set 0 0)) ∧ Below w.heap.size w w' := by
  obtain ⟨m, hm, hm1, hm2⟩ := width_nat hr
  obtain ⟨B, hB⟩ : ∃ B, B = w.heap.size := ⟨_, rfl⟩
  have HB := Lib.hid hB
  have HM := Lib.hid hm
  have HR := Lib.hid hr
  clear hm hr hB
  obtain ⟨i0, hi, hz0, hz1, hz2⟩ := info_parts infoInt
  go_enter Try.func88, Try.ntmps88
  go_wp2_with fail
  refine (Inv.call (Lib.hid (Inv.box w _ p n _)) (width_spec _ p n _)).mono ?_
  rw [HM.out]
  rintro e w1 ⟨rfl, HV1, c0, c1, c2⟩
  have hBs : B ≤ w1.heap.size := by rw [HB.out]; exact HV1.out.1.size
  go_wp2_with (at_make; refine wpList_make_full _ rfl _ _ 25 rfl B 3 i0 (.int .i64 0) 1 Try.underlying25 hi hz0 hz1 .i64 .i64 _ _ m rfl rfl rfl rfl (by rw [hz2]; omega) (by unfold maxLen; omega) (by exact hBs) ?_; intro w2 hown hgrow; obtain ⟨HV2, OW, hsz, f0, g1, d0, d1, d2⟩ := made_facts HV1 hown hgrow hm1; clear hown hgrow c0 c1 c2)
  go_wp2
  go_ret
  refine ⟨_, m, rfl, HM.out, ?_, HV2.out.1.setCell (by have := HV1.out.1.size; simpa using this) _⟩
  have ST := (OW.out.stored 0 (.int .i64 0)).1
  rw [← ints_set] at ST
  rw [← HB.out]; exact ST

set_option maxHeartbeats 800000 in
theorem one5_spec (p n : Int) (w : World) (hr : ringB 5 p n = true)  :
    Calls Try.prog 88 #[ringV 5 p n] w fun e w' => ∃ r m, e = .returned r ∧ widthI 5 n = (m : Nat) ∧ w'.ownsRow w.heap.size 3 1 r m (ints ((zerosL m).set 0 (topI 5 p n))) ∧ Below w.heap.size w w' := by
  obtain ⟨m, hm, hm1, hm2⟩ := width_nat hr
  obtain ⟨B, hB⟩ : ∃ B, B = w.heap.size := ⟨_, rfl⟩
  have HB := Lib.hid hB
  have HM := Lib.hid hm
  have HR := Lib.hid hr
  clear hm hr hB
  obtain ⟨i0, hi, hz0, hz1, hz2⟩ := info_parts infoInt
  go_enter Try.func88, Try.ntmps88
  go_wp2_with fail
  refine (Inv.call (Lib.hid (Inv.box w _ p n _)) (width_spec _ p n _)).mono ?_
  rw [HM.out]
  rintro e w1 ⟨rfl, HV1, c0, c1, c2⟩
  have hBs : B ≤ w1.heap.size := by rw [HB.out]; exact HV1.out.1.size
  go_wp2_with (at_make; refine wpList_make_full _ rfl _ _ 25 rfl B 3 i0 (.int .i64 0) 1 Try.underlying25 hi hz0 hz1 .i64 .i64 _ _ m rfl rfl rfl rfl (by rw [hz2]; omega) (by unfold maxLen; omega) (by exact hBs) ?_; intro w2 hown hgrow; obtain ⟨HV2, OW, hsz, f0, g1, d0, d1, d2⟩ := made_facts HV1 hown hgrow hm1; clear hown hgrow c0 c1 c2)
  obtain ⟨t, ht⟩ : ∃ t, t = topI 5 p n := ⟨_, rfl⟩
  have HT := Lib.hid ht
  clear ht
  go_wp2_with fail
  refine (Inv.call_own HV2 OW f0 g1 (top_spec 5 p n _ HR.out)).mono ?_
  rw [← HT.out]
  clear d0 d1 d2 f0 g1
  rintro e w3 ⟨rfl, HV3, OW3, f0, g1, d0, d1, d2, hz3⟩
  go_wp2
  go_ret
  refine ⟨_, m, rfl, HM.out, ?_, HV3.out.1.setCell (by have := HV1.out.1.size; simpa using this) _⟩
  have ST := (OW3.out.stored 0 (.int .i64 t)).1
  rw [← ints_set] at ST
  rw [← HB.out, ← HT.out]; exact ST

set_option maxHeartbeats 800000 in
theorem one6_spec (p n : Int) (w : World) (hr : ringB 6 p n = true)  :
    Calls Try.prog 88 #[ringV 6 p n] w fun e w' => ∃ r m, e = .returned r ∧ widthI 6 n = (m : Nat) ∧ w'.ownsRow w.heap.size 3 1 r m (ints ((zerosL m).set 0 (topI 6 p n))) ∧ Below w.heap.size w w' := by
  obtain ⟨m, hm, hm1, hm2⟩ := width_nat hr
  obtain ⟨B, hB⟩ : ∃ B, B = w.heap.size := ⟨_, rfl⟩
  have HB := Lib.hid hB
  have HM := Lib.hid hm
  have HR := Lib.hid hr
  clear hm hr hB
  obtain ⟨i0, hi, hz0, hz1, hz2⟩ := info_parts infoInt
  go_enter Try.func88, Try.ntmps88
  go_wp2_with fail
  refine (Inv.call (Lib.hid (Inv.box w _ p n _)) (width_spec _ p n _)).mono ?_
  rw [HM.out]
  rintro e w1 ⟨rfl, HV1, c0, c1, c2⟩
  have hBs : B ≤ w1.heap.size := by rw [HB.out]; exact HV1.out.1.size
  go_wp2_with (at_make; refine wpList_make_full _ rfl _ _ 25 rfl B 3 i0 (.int .i64 0) 1 Try.underlying25 hi hz0 hz1 .i64 .i64 _ _ m rfl rfl rfl rfl (by rw [hz2]; omega) (by unfold maxLen; omega) (by exact hBs) ?_; intro w2 hown hgrow; obtain ⟨HV2, OW, hsz, f0, g1, d0, d1, d2⟩ := made_facts HV1 hown hgrow hm1; clear hown hgrow c0 c1 c2)
  obtain ⟨t, ht⟩ : ∃ t, t = topI 6 p n := ⟨_, rfl⟩
  have HT := Lib.hid ht
  clear ht
  go_wp2_with fail
  refine (Inv.call_own HV2 OW f0 g1 (top_spec 6 p n _ HR.out)).mono ?_
  rw [← HT.out]
  clear d0 d1 d2 f0 g1
  rintro e w3 ⟨rfl, HV3, OW3, f0, g1, d0, d1, d2, hz3⟩
  go_wp2
  go_ret
  refine ⟨_, m, rfl, HM.out, ?_, HV3.out.1.setCell (by have := HV1.out.1.size; simpa using this) _⟩
  have ST := (OW3.out.stored 0 (.int .i64 t)).1
  rw [← ints_set] at ST
  rw [← HB.out, ← HT.out]; exact ST

set_option maxHeartbeats 800000 in
theorem oneN_spec (k p n : Int) (w : World) (hr : ringB k p n = true) (h4 : (k == 4) = false) (h5 : (k == 5) = false) (h6 : (k == 6) = false) :
    Calls Try.prog 88 #[ringV k p n] w fun e w' => ∃ r m, e = .returned r ∧ widthI k n = (m : Nat) ∧ w'.ownsRow w.heap.size 3 1 r m (ints ((zerosL m).set 0 1)) ∧ Below w.heap.size w w' := by
  obtain ⟨m, hm, hm1, hm2⟩ := width_nat hr
  obtain ⟨B, hB⟩ : ∃ B, B = w.heap.size := ⟨_, rfl⟩
  have HB := Lib.hid hB
  have HM := Lib.hid hm
  have HR := Lib.hid hr
  clear hm hr hB
  obtain ⟨i0, hi, hz0, hz1, hz2⟩ := info_parts infoInt
  go_enter Try.func88, Try.ntmps88
  go_wp2_with fail
  refine (Inv.call (Lib.hid (Inv.box w _ p n _)) (width_spec _ p n _)).mono ?_
  rw [HM.out]
  rintro e w1 ⟨rfl, HV1, c0, c1, c2⟩
  have hBs : B ≤ w1.heap.size := by rw [HB.out]; exact HV1.out.1.size
  go_wp2_with (at_make; refine wpList_make_full _ rfl _ _ 25 rfl B 3 i0 (.int .i64 0) 1 Try.underlying25 hi hz0 hz1 .i64 .i64 _ _ m rfl rfl rfl rfl (by rw [hz2]; omega) (by unfold maxLen; omega) (by exact hBs) ?_; intro w2 hown hgrow; obtain ⟨HV2, OW, hsz, f0, g1, d0, d1, d2⟩ := made_facts HV1 hown hgrow hm1; clear hown hgrow c0 c1 c2)
  go_wp2
  go_ret
  refine ⟨_, m, rfl, HM.out, ?_, HV2.out.1.setCell (by have := HV1.out.1.size; simpa using this) _⟩
  have ST := (OW.out.stored 0 (.int .i64 1)).1
  rw [← ints_set] at ST
  rw [← HB.out]; exact ST

/-- The one (spec). -/
theorem one_spec (k p n : Int) (w : World) (hr : ringB k p n = true) : Calls Try.prog 88 #[ringV k p n] w (NewRow w (oneL k p n)) := by
  have fin : ∀ x, (if k = 5 ∨ k = 6 then topI k p n else if k = 4 then 0 else 1) = x → (Calls Try.prog 88 #[ringV k p n] w fun e w' => ∃ r m, e = .returned r ∧ widthI k n = (m : Nat) ∧ w'.ownsRow w.heap.size 3 1 r m (ints ((zerosL m).set 0 x)) ∧ Below w.heap.size w w') → Calls Try.prog 88 #[ringV k p n] w (NewRow w (oneL k p n)) := fun x hx h => h.mono fun e w' ⟨r, m, he, hm, ho, hb⟩ => ⟨r, he, Own.of (n := m) (by rw [oneL_eq hm, hx]; exact ho) (by rw [oneL_eq hm]; simp [zerosL]), hb⟩
  by_cases h4 : k = 4
  · subst h4; exact fin 0 (by simp) (one4_spec p n w hr)
  · by_cases h5 : k = 5
    · subst h5; exact fin _ (by simp) (one5_spec p n w hr)
    · by_cases h6 : k = 6
      · subst h6; exact fin _ (by simp) (one6_spec p n w hr)
      · exact fin 1 (by simp [h4, h5, h6]) (oneN_spec k p n w hr (by simpa using h4) (by simpa using h5) (by simpa using h6))

set_option maxHeartbeats 800000 in
theorem one4_impl (p n : Int) (w : World) (hr : ringB 4 p n = true)  :
    Calls Try.prog 62 #[ringV 4 p n] w fun e w' => ∃ r m, e = .returned r ∧ widthI 4 n = (m : Nat) ∧ w'.ownsRow w.heap.size 3 1 r m (ints ((zerosL m).set 0 0)) ∧ Below w.heap.size w w' := by
  obtain ⟨m, hm, hm1, hm2⟩ := width_nat hr
  obtain ⟨B, hB⟩ : ∃ B, B = w.heap.size := ⟨_, rfl⟩
  have HB := Lib.hid hB
  have HM := Lib.hid hm
  have HR := Lib.hid hr
  clear hm hr hB
  obtain ⟨i0, hi, hz0, hz1, hz2⟩ := info_parts infoInt
  go_enter Try.func62, Try.ntmps62
  go_wp2_with fail
  refine (Inv.call (Lib.hid (Inv.box w _ p n _)) (width_impl _ p n _)).mono ?_
  rw [HM.out]
  rintro e w1 ⟨rfl, HV1, c0, c1, c2⟩
  have hBs : B ≤ w1.heap.size := by rw [HB.out]; exact HV1.out.1.size
  go_wp2_with (at_make; refine wpList_make_full _ rfl _ _ 25 rfl B 3 i0 (.int .i64 0) 1 Try.underlying25 hi hz0 hz1 .i64 .i64 _ _ m rfl rfl rfl rfl (by rw [hz2]; omega) (by unfold maxLen; omega) (by exact hBs) ?_; intro w2 hown hgrow; obtain ⟨HV2, OW, hsz, f0, g1, d0, d1, d2⟩ := made_facts HV1 hown hgrow hm1; clear hown hgrow c0 c1 c2)
  go_wp2
  go_ret
  refine ⟨_, m, rfl, HM.out, ?_, HV2.out.1.setCell (by have := HV1.out.1.size; simpa using this) _⟩
  have ST := (OW.out.stored 0 (.int .i64 0)).1
  rw [← ints_set] at ST
  rw [← HB.out]; exact ST

set_option maxHeartbeats 800000 in
theorem one5_impl (p n : Int) (w : World) (hr : ringB 5 p n = true)  :
    Calls Try.prog 62 #[ringV 5 p n] w fun e w' => ∃ r m, e = .returned r ∧ widthI 5 n = (m : Nat) ∧ w'.ownsRow w.heap.size 3 1 r m (ints ((zerosL m).set 0 (topI 5 p n))) ∧ Below w.heap.size w w' := by
  obtain ⟨m, hm, hm1, hm2⟩ := width_nat hr
  obtain ⟨B, hB⟩ : ∃ B, B = w.heap.size := ⟨_, rfl⟩
  have HB := Lib.hid hB
  have HM := Lib.hid hm
  have HR := Lib.hid hr
  clear hm hr hB
  obtain ⟨i0, hi, hz0, hz1, hz2⟩ := info_parts infoInt
  go_enter Try.func62, Try.ntmps62
  go_wp2_with fail
  refine (Inv.call (Lib.hid (Inv.box w _ p n _)) (width_impl _ p n _)).mono ?_
  rw [HM.out]
  rintro e w1 ⟨rfl, HV1, c0, c1, c2⟩
  have hBs : B ≤ w1.heap.size := by rw [HB.out]; exact HV1.out.1.size
  go_wp2_with (at_make; refine wpList_make_full _ rfl _ _ 25 rfl B 3 i0 (.int .i64 0) 1 Try.underlying25 hi hz0 hz1 .i64 .i64 _ _ m rfl rfl rfl rfl (by rw [hz2]; omega) (by unfold maxLen; omega) (by exact hBs) ?_; intro w2 hown hgrow; obtain ⟨HV2, OW, hsz, f0, g1, d0, d1, d2⟩ := made_facts HV1 hown hgrow hm1; clear hown hgrow c0 c1 c2)
  obtain ⟨t, ht⟩ : ∃ t, t = topI 5 p n := ⟨_, rfl⟩
  have HT := Lib.hid ht
  clear ht
  go_wp2_with fail
  refine (Inv.call_own HV2 OW f0 g1 (top_impl 5 p n _ HR.out)).mono ?_
  rw [← HT.out]
  clear d0 d1 d2 f0 g1
  rintro e w3 ⟨rfl, HV3, OW3, f0, g1, d0, d1, d2, hz3⟩
  go_wp2
  go_ret
  refine ⟨_, m, rfl, HM.out, ?_, HV3.out.1.setCell (by have := HV1.out.1.size; simpa using this) _⟩
  have ST := (OW3.out.stored 0 (.int .i64 t)).1
  rw [← ints_set] at ST
  rw [← HB.out, ← HT.out]; exact ST

set_option maxHeartbeats 800000 in
theorem one6_impl (p n : Int) (w : World) (hr : ringB 6 p n = true)  :
    Calls Try.prog 62 #[ringV 6 p n] w fun e w' => ∃ r m, e = .returned r ∧ widthI 6 n = (m : Nat) ∧ w'.ownsRow w.heap.size 3 1 r m (ints ((zerosL m).set 0 (topI 6 p n))) ∧ Below w.heap.size w w' := by
  obtain ⟨m, hm, hm1, hm2⟩ := width_nat hr
  obtain ⟨B, hB⟩ : ∃ B, B = w.heap.size := ⟨_, rfl⟩
  have HB := Lib.hid hB
  have HM := Lib.hid hm
  have HR := Lib.hid hr
  clear hm hr hB
  obtain ⟨i0, hi, hz0, hz1, hz2⟩ := info_parts infoInt
  go_enter Try.func62, Try.ntmps62
  go_wp2_with fail
  refine (Inv.call (Lib.hid (Inv.box w _ p n _)) (width_impl _ p n _)).mono ?_
  rw [HM.out]
  rintro e w1 ⟨rfl, HV1, c0, c1, c2⟩
  have hBs : B ≤ w1.heap.size := by rw [HB.out]; exact HV1.out.1.size
  go_wp2_with (at_make; refine wpList_make_full _ rfl _ _ 25 rfl B 3 i0 (.int .i64 0) 1 Try.underlying25 hi hz0 hz1 .i64 .i64 _ _ m rfl rfl rfl rfl (by rw [hz2]; omega) (by unfold maxLen; omega) (by exact hBs) ?_; intro w2 hown hgrow; obtain ⟨HV2, OW, hsz, f0, g1, d0, d1, d2⟩ := made_facts HV1 hown hgrow hm1; clear hown hgrow c0 c1 c2)
  obtain ⟨t, ht⟩ : ∃ t, t = topI 6 p n := ⟨_, rfl⟩
  have HT := Lib.hid ht
  clear ht
  go_wp2_with fail
  refine (Inv.call_own HV2 OW f0 g1 (top_impl 6 p n _ HR.out)).mono ?_
  rw [← HT.out]
  clear d0 d1 d2 f0 g1
  rintro e w3 ⟨rfl, HV3, OW3, f0, g1, d0, d1, d2, hz3⟩
  go_wp2
  go_ret
  refine ⟨_, m, rfl, HM.out, ?_, HV3.out.1.setCell (by have := HV1.out.1.size; simpa using this) _⟩
  have ST := (OW3.out.stored 0 (.int .i64 t)).1
  rw [← ints_set] at ST
  rw [← HB.out, ← HT.out]; exact ST

set_option maxHeartbeats 800000 in
theorem oneN_impl (k p n : Int) (w : World) (hr : ringB k p n = true) (h4 : (k == 4) = false) (h5 : (k == 5) = false) (h6 : (k == 6) = false) :
    Calls Try.prog 62 #[ringV k p n] w fun e w' => ∃ r m, e = .returned r ∧ widthI k n = (m : Nat) ∧ w'.ownsRow w.heap.size 3 1 r m (ints ((zerosL m).set 0 1)) ∧ Below w.heap.size w w' := by
  obtain ⟨m, hm, hm1, hm2⟩ := width_nat hr
  obtain ⟨B, hB⟩ : ∃ B, B = w.heap.size := ⟨_, rfl⟩
  have HB := Lib.hid hB
  have HM := Lib.hid hm
  have HR := Lib.hid hr
  clear hm hr hB
  obtain ⟨i0, hi, hz0, hz1, hz2⟩ := info_parts infoInt
  go_enter Try.func62, Try.ntmps62
  go_wp2_with fail
  refine (Inv.call (Lib.hid (Inv.box w _ p n _)) (width_impl _ p n _)).mono ?_
  rw [HM.out]
  rintro e w1 ⟨rfl, HV1, c0, c1, c2⟩
  have hBs : B ≤ w1.heap.size := by rw [HB.out]; exact HV1.out.1.size
  go_wp2_with (at_make; refine wpList_make_full _ rfl _ _ 25 rfl B 3 i0 (.int .i64 0) 1 Try.underlying25 hi hz0 hz1 .i64 .i64 _ _ m rfl rfl rfl rfl (by rw [hz2]; omega) (by unfold maxLen; omega) (by exact hBs) ?_; intro w2 hown hgrow; obtain ⟨HV2, OW, hsz, f0, g1, d0, d1, d2⟩ := made_facts HV1 hown hgrow hm1; clear hown hgrow c0 c1 c2)
  go_wp2
  go_ret
  refine ⟨_, m, rfl, HM.out, ?_, HV2.out.1.setCell (by have := HV1.out.1.size; simpa using this) _⟩
  have ST := (OW.out.stored 0 (.int .i64 1)).1
  rw [← ints_set] at ST
  rw [← HB.out]; exact ST

/-- The one (impl). -/
theorem one_impl (k p n : Int) (w : World) (hr : ringB k p n = true) : Calls Try.prog 62 #[ringV k p n] w (NewRow w (oneL k p n)) := by
  have fin : ∀ x, (if k = 5 ∨ k = 6 then topI k p n else if k = 4 then 0 else 1) = x → (Calls Try.prog 62 #[ringV k p n] w fun e w' => ∃ r m, e = .returned r ∧ widthI k n = (m : Nat) ∧ w'.ownsRow w.heap.size 3 1 r m (ints ((zerosL m).set 0 x)) ∧ Below w.heap.size w w') → Calls Try.prog 62 #[ringV k p n] w (NewRow w (oneL k p n)) := fun x hx h => h.mono fun e w' ⟨r, m, he, hm, ho, hb⟩ => ⟨r, he, Own.of (n := m) (by rw [oneL_eq hm, hx]; exact ho) (by rw [oneL_eq hm]; simp [zerosL]), hb⟩
  by_cases h4 : k = 4
  · subst h4; exact fin 0 (by simp) (one4_impl p n w hr)
  · by_cases h5 : k = 5
    · subst h5; exact fin _ (by simp) (one5_impl p n w hr)
    · by_cases h6 : k = 6
      · subst h6; exact fin _ (by simp) (one6_impl p n w hr)
      · exact fin 1 (by simp [h4, h5, h6]) (oneN_impl k p n w hr (by simpa using h4) (by simpa using h5) (by simpa using h6))

end Go.Proofs.Ytdheakjjnaifkaa
namespace Go.Proofs.Ytdheakjjnaifkaa
set_option maxRecDepth 20000
open Go.RowKit

noncomputable def zeroOfL (k p n : Int) : List Int := if ringB k p n = true then zeroL k p n else []
noncomputable def oneOfL (k p n : Int) : List Int := if ringB k p n = true then oneL k p n else []
theorem zeroOf_len (k p n : Int) : (zeroOfL k p n).length ≤ 6 := by
  unfold zeroOfL
  by_cases h : ringB k p n = true
  · rw [if_pos h]
    obtain ⟨m, hm, h1, h2⟩ := width_nat h
    simp [zeroL, hm]; omega
  · rw [if_neg h]; simp
theorem oneOf_len (k p n : Int) : (oneOfL k p n).length ≤ 6 := by
  unfold oneOfL
  by_cases h : ringB k p n = true
  · rw [if_pos h]
    obtain ⟨m, hm, h1, h2⟩ := width_nat h
    simp [oneL, hm]; omega
  · rw [if_neg h]; simp
theorem NewRow.after {w0 w : World} {xs : List Int} {e : Ending} {w' : World} (hb : Below w0.heap.size w0 w) (h : NewRow w xs e w') : NewRow w0 xs e w' := by
  obtain ⟨r, he, ho, h1⟩ := h
  exact ⟨r, he, ⟨ho.1.mono hb.size, ho.2⟩, hb.trans (h1.mono hb.size)⟩

end Go.Proofs.Ytdheakjjnaifkaa
namespace Go.Proofs.Ytdheakjjnaifkaa
set_option maxRecDepth 20000
open Go.RowKit

set_option maxHeartbeats 800000 in
theorem clone_row (b off cap m : Nat) (xs : List Int) (w : World) (hm : xs.length = m) (hn : m ≤ 1099511627776) (hb : b < w.heap.size) (hc : ∀ i (h : i < xs.length), w.cell? ⟨b, off + i, none⟩ = some (.int .i64 xs[i])) :
    Calls Try.prog 100 #[.slice (some ⟨b, off, none⟩) m cap] w (NewRow w xs) := by
  obtain ⟨i0, hi, hz0, hz1, hz2⟩ := info_parts infoInt
  have J0 := Lib.hid hi
  have J1 := Lib.hid hz0
  have J2 := Lib.hid hz1
  have J3 := Lib.hid hz2
  have HM := Lib.hid hm
  have HC : Hid (∀ j u, (ints xs)[j]? = some u → (w.alloc (.cells #[] 3)).cell? ((⟨b, off, none⟩ : Addr).add j) = some u) := Lib.hid fun j u hj => by
    rw [← news_at hc j u hj, Addr.add_lit]
    exact ((Below.refl w.heap.size w).alloc (Nat.le_refl _) _).cell (p := ⟨b, off + j, none⟩) hb
  have HL := Lib.hid (World.ownsRow_lit (base := w.heap.size) (e := 3) (size := 1) w #[] 0 (Nat.le_refl _) (by unfold maxLen; omega) rfl)
  clear hi hz0 hz1 hz2 hm hc
  have hnil := fun wx : World => Lib.run_eql_slice_nil (P := Try.prog) wx 25 3 (some ⟨b, off, none⟩) m cap 0 0 Try.underlying25
  go_enter Try.func100, Try.ntmps100
  go_wp2_with (at_builtin; go_must (refine wpList_append_own _ rfl _ _ 25 rfl w.heap.size 3 i0 (.int .i64 0) 1 8 Try.underlying25 J0.out J1.out J2.out J3.out rfl (by decide) _ _ _ rfl HL.out ⟨b, off, none⟩ m cap (ints xs) rfl ?c1 HC.out (one_cells xs) ?c2 ?c3 (by simp) ?_))
  case c1 => rw [ints_len, HM.out]
  case c2 => unfold maxLen; omega
  case c3 => omega
  intro v' w2 hown hg _
  have RES : Hid (NewRow w xs (.returned v') w2) := Lib.hid ⟨v', rfl, Own.of (n := 0 + m) (by simpa using hown) (by rw [HM.out]; omega), by
    have := ((Below.refl w.heap.size w).alloc (Nat.le_refl _) (.cells #[] 3)).grown hg (by simp) (fun j hj => by cases hj; exact Nat.le_refl _)
    exact this⟩
  clear hown hg
  go_wp2
  go_ret
  exact RES.out
end Go.Proofs.Ytdheakjjnaifkaa
namespace Go.Proofs.Ytdheakjjnaifkaa
set_option maxRecDepth 20000
open Go.RowKit

set_option maxHeartbeats 800000 in
theorem clone_some (ad : Addr) (cap m : Nat) (xs : List Int) (w : World) (hm : xs.length = m) (hn : m ≤ 1099511627776) (hc : ∀ j u, (ints xs)[j]? = some u → (w.alloc (.cells #[] 3)).cell? (ad.add j) = some u) :
    Calls Try.prog 100 #[.slice (some ad) m cap] w (NewRow w xs) := by
  obtain ⟨i0, hi, hz0, hz1, hz2⟩ := info_parts infoInt
  have J0 := Lib.hid hi
  have J1 := Lib.hid hz0
  have J2 := Lib.hid hz1
  have J3 := Lib.hid hz2
  have HM := Lib.hid hm
  have HC := Lib.hid hc
  have HL := Lib.hid (World.ownsRow_lit (base := w.heap.size) (e := 3) (size := 1) w #[] 0 (Nat.le_refl _) (by unfold maxLen; omega) rfl)
  clear hi hz0 hz1 hz2 hm hc
  have hnil := fun wx : World => Lib.run_eql_slice_nil (P := Try.prog) wx 25 3 (some ad) m cap 0 0 Try.underlying25
  go_enter Try.func100, Try.ntmps100
  go_wp2_with (at_builtin; go_must (refine wpList_append_own _ rfl _ _ 25 rfl w.heap.size 3 i0 (.int .i64 0) 1 8 Try.underlying25 J0.out J1.out J2.out J3.out rfl (by decide) _ _ _ rfl HL.out ad m cap (ints xs) rfl ?c1 HC.out (one_cells xs) ?c2 ?c3 (by simp) ?_))
  case c1 => rw [ints_len, HM.out]
  case c2 => unfold maxLen; omega
  case c3 => omega
  intro v' w2 hown hg _
  have RES : Hid (NewRow w xs (.returned v') w2) := Lib.hid ⟨v', rfl, Own.of (n := 0 + m) (by simpa using hown) (by rw [HM.out]; omega), by
    have := ((Below.refl w.heap.size w).alloc (Nat.le_refl _) (.cells #[] 3)).grown hg (by simp) (fun j hj => by cases hj; exact Nat.le_refl _)
    exact this⟩
  clear hown hg
  go_wp2
  go_ret
  exact RES.out
set_option maxHeartbeats 400000 in
theorem clone_nil (cap m : Nat) (w : World) :
    Calls Try.prog 100 #[.slice none m cap] w (NewRow w []) := by
  have hnil := fun wx : World => Lib.run_eql_slice_nil (P := Try.prog) wx 25 3 none m cap 0 0 Try.underlying25
  go_enter Try.func100, Try.ntmps100
  go_wp2
  go_ret
  exact ⟨_, rfl, ⟨World.ownsRow_nil _ _ _ _, (fun g hg => by cases hg), Nat.le_refl _⟩, Below.refl _ _⟩
theorem clone_any {B : Nat} {v : Value} {xs : List Int} {w : World} (h : Rd B w v (ints xs)) (hB : B ≤ w.heap.size) (hn : xs.length ≤ 1099511627776) :
    Calls Try.prog 100 #[v] w (NewRow w xs) := by
  rcases h.ints_cases with ⟨rfl, a, cap, rfl⟩ | ⟨b, off, cap, rfl, hb, -, hc⟩
  · cases a with
    | none => exact clone_nil cap 0 w
    | some ad => exact clone_some ad cap 0 [] w rfl (by omega) (fun j u hj => by simp [ints] at hj)
  · exact clone_row b off cap xs.length xs w rfl hn (Nat.lt_of_lt_of_le hb hB) hc
end Go.Proofs.Ytdheakjjnaifkaa
namespace Go.Proofs.Ytdheakjjnaifkaa
set_option maxRecDepth 20000
open Go.RowKit

/-- z, j times. -/
def repL (z : List Int) (j : Nat) : List Int := (List.replicate j z).flatten
theorem repL_succ (z : List Int) (j : Nat) : repL z (j + 1) = repL z j ++ z := by
  unfold repL
  rw [List.replicate_succ', List.flatten_append]; simp
theorem repL_len (z : List Int) (j : Nat) : (repL z j).length = j * z.length := by
  unfold repL; simp
/-- l05Zero under way. -/
structure ZT (w wr : World) (ob lo : Nat) (k p q : Int) (l' d' xv : Value) (L D Z : List Int) : Prop where
  rg : Bx w wr w.heap.size (.int .i64 k) (.int .i64 p) (.int .i64 q)
  an : Bx w wr (w.heap.size + 1) nilV nilV nilV
  bx : Bx w wr ob l' d' xv
  ol : Own wr lo ob l' L
  od : Own wr lo ob d' D
  ox : Own wr (ob + 1) wr.heap.size xv Z
  ap : ∀ g, l'.ownBlock = some g → d'.ownBlock ≠ some g
  hl : w.heap.size + 1 < lo
theorem Own.wide {w : World} {lo hi lo' hi' : Nat} {v : Value} {xs : List Int} (h : Own w lo hi v xs) (h1 : lo' ≤ lo) (h2 : hi ≤ hi') (h3 : hi' ≤ w.heap.size) : Own w lo' hi' v xs :=
  ⟨⟨h.1.1, h.1.2.imp id (fun ⟨g, cap, cur, e, hb, q⟩ => ⟨g, cap, cur, e, Nat.le_trans h1 hb, q⟩)⟩, fun g hg => Nat.lt_of_lt_of_le (h.2.1 g hg) h2, h3⟩
theorem ZT.step {w wr w' : World} {ob lo : Nat} {k p q : Int} {l' d' xv : Value} {L D Z : List Int} (h : ZT w wr ob lo k p q l' d' xv L D Z) (hb : Below wr.heap.size wr w') : ZT w w' ob lo k p q l' d' xv L D Z :=
  ⟨h.rg.step hb, h.an.step hb, h.bx.step hb, h.ol.below hb (Nat.le_refl _), h.od.below hb (Nat.le_refl _), (h.ox.below hb (Nat.le_refl _)).wide (Nat.le_refl _) hb.size (Nat.le_refl _), h.ap, h.hl⟩
/-- The data has grown: behind the append. -/
theorem ZT.app {w wr w' : World} {ob lo m : Nat} {k p q : Int} {l' d' xv v' : Value} {L D Z Z' : List Int} (h : ZT w wr ob lo k p q l' d' xv L D Z) (hlo : lo ≤ ob) (hg : wr.grownBy w' xv.ownBlock) (ho : w'.ownsRow (ob + 1) 3 1 v' m (ints Z')) (hm : Z'.length = m) :
    Bx w w' w.heap.size (.int .i64 k) (.int .i64 p) (.int .i64 q) ∧ Bx w w' (w.heap.size + 1) nilV nilV nilV ∧ Bx w w' ob l' d' xv ∧ ZT w (w'.setCell ⟨ob, 2, none⟩ v') ob lo k p q l' d' v' L D Z' := by
  have far : ∀ g, xv.ownBlock = some g → ob < g := fun g hg => h.ox.lo g hg
  have hl := h.hl
  have b1 := h.rg.grown hg (fun g e => ⟨by have := far g e; omega, by have := far g e; omega⟩)
  have b2 := h.an.grown hg (fun g e => ⟨by have := far g e; omega, by have := far g e; omega⟩)
  have b3 := h.bx.grown hg (fun g e => ⟨by have := far g e; omega, by have := far g e; omega⟩)
  refine ⟨b1, b2, b3, b1.far (by omega) (by omega) _ _, b2.far (by omega) (by omega) _ _, ?_, ?_, ?_, ?_, h.ap, h.hl⟩
  · have := b3.set v' 2
    simpa using this
  · have h1 := h.ol.kept hg (fun g e => .inr (Nat.le_of_lt (far g e)))
    refine h1.kept (row := some ob) (grownBy_setCell ⟨rfl, rfl, rfl, Nat.le_refl _, fun _ _ _ => rfl⟩ rfl _) (fun g e => by cases e; exact .inr (Nat.le_refl _))
  · have h1 := h.od.kept hg (fun g e => .inr (Nat.le_of_lt (far g e)))
    refine h1.kept (row := some ob) (grownBy_setCell ⟨rfl, rfl, rfl, Nat.le_refl _, fun _ _ _ => rfl⟩ rfl _) (fun g e => by cases e; exact .inr (Nat.le_refl _))
  · have h1 : Own w' (ob + 1) w'.heap.size v' Z' := Own.of ho hm
    have := Own.set h1 (b := ob) (i := 2) (by omega) v'
    simpa using this
theorem ZT.row {w wr : World} {ob lo n : Nat} {k p q : Int} {l' d' xv : Value} {L D Z : List Int} (h : ZT w wr ob lo k p q l' d' xv L D Z) (hn : Z.length = n) : wr.ownsRow (ob + 1) 3 1 xv n (ints Z) := hn ▸ h.ox.1

end Go.Proofs.Ytdheakjjnaifkaa
