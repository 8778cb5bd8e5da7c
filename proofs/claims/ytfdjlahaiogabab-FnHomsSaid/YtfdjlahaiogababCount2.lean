
/- CountElem, both. -/
import Derived.Test.YtfdjlahaiogababCount
namespace Go.Proofs.Ytfdjlahaiogabab
set_option maxRecDepth 20000
open Go.RowKit

theorem countElem_len (k p n c : Int) : (countElemL k p n c).length ≤ 6 := by
  unfold countElemL
  by_cases h : (ringB k p n && decide (0 ≤ c)) = true
  · rw [if_pos h]
    rw [Bool.and_eq_true] at h
    have h2 := ring_width h.1
    simp [countL, LL]; omega
  · rw [if_neg h]; simp
theorem nil_row {w0 w : World} (h : Below w0.heap.size w0 w) : NewRow w0 [] (.returned (.slice none 0 0)) w :=
  ⟨_, rfl, ⟨World.ownsRow_nil _ _ _ _, (fun g hg => by cases hg), Nat.le_refl _⟩, h⟩
set_option maxHeartbeats 400000 in
theorem count_impl_not (k p n c : Int) (w : World) (hr : ringB k p n = false) :
    Calls Try.prog 64 #[ringV k p n, .int .i64 c] w (NewRow w []) := by
  have HR := Lib.hid hr
  clear hr
  go_enter Try.func64, Try.ntmps64
  go_wp2_with fail
  refine (Inv.call (Lib.hid (Inv.box w k p n _)) (ring_ok_impl k p n _)).mono ?_
  rw [HR.out]
  rintro e w1 ⟨rfl, HV1, c0, c1, c2⟩
  go_wp2
  go_ret
  exact nil_row HV1.out.1
set_option maxHeartbeats 400000 in
theorem count_impl_neg (k p n c : Int) (w : World) (hr : ringB k p n = true) (hc : c < 0) :
    Calls Try.prog 64 #[ringV k p n, .int .i64 c] w (NewRow w []) := by
  have HR := Lib.hid hr
  clear hr
  go_enter Try.func64, Try.ntmps64
  go_wp2_with fail
  refine (Inv.call (Lib.hid (Inv.box w k p n _)) (ring_ok_impl k p n _)).mono ?_
  rw [HR.out]
  rintro e w1 ⟨rfl, HV1, c0, c1, c2⟩
  go_wp2
  go_ret
  exact nil_row HV1.out.1
/-- impl.CountElem. -/
theorem count_impl (k p n c : Int) (w : World) (hc : c ≤ 9223372036854775807) :
    Calls Try.prog 64 #[ringV k p n, .int .i64 c] w (NewRow w (countElemL k p n c)) := by
  cases hr : ringB k p n with
  | false => rw [show countElemL k p n c = [] from by simp [countElemL, hr]]; exact count_impl_not k p n c w hr
  | true =>
    by_cases h0 : c < 0
    · rw [show countElemL k p n c = [] from by unfold countElemL; rw [if_neg]; simp; omega]; exact count_impl_neg k p n c w hr h0
    · obtain ⟨m, rfl⟩ := Int.eq_ofNat_of_zero_le (show 0 ≤ c by omega)
      rw [show countElemL k p n (m : Int) = countL k p n m from by unfold countElemL; rw [if_pos (by simp [hr])]; rfl]
      exact count_impl_in k p n m w hr (by omega)

theorem Own.head {w : World} {lo hi : Nat} {v : Value} {xs : List Int} (h : Own w lo hi v xs) (hl : 0 < xs.length) : ∃ g cap, v = .slice (some ⟨g, 0, none⟩) xs.length cap ∧ lo ≤ g ∧ g < hi ∧ w.cell? ⟨g, 0, none⟩ = some (.int .i64 (xs.getD 0 0)) ∧ w.frozen? ⟨g, 0, none⟩ = false ∧
    ∀ x, (w.setCell ⟨g, 0, none⟩ (.int .i64 x)).ownsRow lo 3 1 v xs.length (ints (xs.set 0 x)) := by
  have h1 := h.1
  rcases h1.2 with ⟨rfl, h0⟩ | ⟨g, cap, cur, rfl, -⟩
  · omega
  · refine ⟨g, cap, rfl, (h1.lt g rfl).1, h.2.1 g rfl, ?_, h1.frozenAt 0, fun x => ?_⟩
    · rw [h1.cellAt 0 (by omega), ints_at _ _ hl, List.getD_eq_getElem?_getD, List.getElem?_eq_getElem hl]; rfl
    · rw [ints_set]; exact (h1.stored 0 (.int .i64 x)).1
theorem count_set {k p n : Int} (hr : ringB k p n = true) (c : Nat) : countL k p n c = (oneL k p n).set 0 (cntI k p n c) := by
  obtain ⟨m, hm, h1, h2⟩ := width_nat hr
  rw [oneL_eq hm]
  unfold countL LL zerosL
  rw [hm, Int.toNat_natCast]
  apply List.ext_getElem (by simp)
  intro i h3 h4
  simp only [List.getElem_map, List.getElem_range, List.getElem_set, List.getElem_replicate]
  by_cases h0 : i = 0
  · rw [if_pos h0, if_pos h0.symm]
  · rw [if_neg h0, if_neg (fun e => h0 e.symm), if_neg (fun e => h0 e.symm)]
theorem count_keep {k p n : Int} (hr : ringB k p n = true) {c : Nat} (hc : 0 < c) (h3 : (k == 3) = false) (h2 : (k == 2) = false) (h7 : (k == 7) = false) (h8 : (k == 8) = false) : countL k p n c = oneL k p n := by
  have g := ring_cases hr
  simp at h3 h2 h7 h8
  rw [← cnt_one hr]
  unfold countL cntI
  congr 1
  funext i
  by_cases h0 : i = 0
  · simp only [h0, if_true]
    by_cases h1 : k = 1
    · simp [h1]; omega
    · by_cases h4 : k = 4
      · simp [h4]; omega
      · rw [if_neg h1, if_neg h3, if_neg h4, if_pos (by omega), if_neg (by omega), if_neg h1, if_neg h3, if_neg h4, if_pos (by omega), if_neg (by omega)]
  · rw [if_neg h0, if_neg h0]
set_option maxHeartbeats 800000 in
theorem count_spec_not (k p n c : Int) (w : World) (hr : ringB k p n = false) :
    Calls Try.prog 63 #[ringV k p n, .int .i64 c] w (NewRow w ([])) := by
  have HR := Lib.hid hr
  clear hr
  go_enter Try.func63, Try.ntmps63
  go_wp2_with fail
  refine (Inv.call (Lib.hid (Inv.box w k p n _)) (ring_ok_spec k p n _)).mono ?_
  rw [HR.out]
  rintro e w1 ⟨rfl, HV1, c0, c1, c2⟩
  go_wp2
  go_ret
  exact nil_row HV1.out.1

set_option maxHeartbeats 800000 in
theorem count_spec_neg (k p n c : Int) (w : World) (hr : ringB k p n = true) (hc : c < 0) :
    Calls Try.prog 63 #[ringV k p n, .int .i64 c] w (NewRow w ([])) := by
  have HR := Lib.hid hr
  clear hr
  go_enter Try.func63, Try.ntmps63
  go_wp2_with fail
  refine (Inv.call (Lib.hid (Inv.box w k p n _)) (ring_ok_spec k p n _)).mono ?_
  rw [HR.out]
  rintro e w1 ⟨rfl, HV1, c0, c1, c2⟩
  go_wp2
  go_ret
  exact nil_row HV1.out.1

set_option maxHeartbeats 800000 in
theorem count_spec_zero (k p n : Int) (w : World) (hr : ringB k p n = true) :
    Calls Try.prog 63 #[ringV k p n, .int .i64 0] w (NewRow w (zeroL k p n)) := by
  have HR := Lib.hid hr
  clear hr
  go_enter Try.func63, Try.ntmps63
  go_wp2_with fail
  refine (Inv.call (Lib.hid (Inv.box w k p n _)) (ring_ok_spec k p n _)).mono ?_
  rw [HR.out]
  rintro e w1 ⟨rfl, HV1, c0, c1, c2⟩
  go_wp2_with fail
  refine (zero_spec k p n _ HR.out).mono ?_
  intro e w2 h2
  obtain ⟨v, rfl, ho, hb⟩ := NewRow.after HV1.out.1 h2
  clear h2
  have HO := Lib.hid ho
  have HB := Lib.hid hb
  clear ho hb
  go_wp2
  go_ret
  exact ⟨v, rfl, HO.out, HB.out⟩

set_option maxHeartbeats 800000 in
theorem count_spec_k3a (p n : Int) (c : Nat) (w : World) (hr : ringB 3 p n = true) (hc : 0 < c) (hc2 : c ≤ 9223372036854775807) (hq : p < (c : Int)) :
    Calls Try.prog 63 #[ringV 3 p n, .int .i64 c] w (NewRow w (countL 3 p n c)) := by
  have HR := Lib.hid hr
  clear hr
  have hd : decide (p < (c : Int)) = true := by simpa using hq
  have hp := ring_cases HR.out
  have hp1 : 1 ≤ p := by omega
  have hp2 : p ≤ 1000000 := by omega
  clear hp
  go_enter Try.func63, Try.ntmps63
  go_wp2_with fail
  refine (Inv.call (Lib.hid (Inv.box w 3 p n _)) (ring_ok_spec 3 p n _)).mono ?_
  rw [HR.out]
  rintro e w1 ⟨rfl, HV1, c0, c1, c2⟩
  go_wp2_with fail
  refine (Inv.make HV1 (one_spec 3 p n _ HR.out)).mono ?_
  clear c0 c1 c2
  rintro e w2 ⟨v, rfl, HO, HV2, ⟨c0, c1, c2⟩, -⟩
  obtain ⟨g, cap, rfl, hg, hg2, hcell, hfr, hst⟩ := HO.out.head (by have := ring_width HR.out; have := (oneL_elem HR.out).1; omega)
  have ST := Lib.hid hst
  have hz : g < w2.heap.size := hg2
  obtain ⟨len, hlen⟩ : ∃ len, len = (oneL 3 p n).length := ⟨_, rfl⟩
  have hl1 : 1 ≤ len := by have := ring_width HR.out; have := (oneL_elem HR.out).1; omega
  rw [← hlen]
  have HLEN := Lib.hid hlen
  clear hst hlen
  go_wp2
  go_ret
  refine ⟨_, rfl, Own.of (n := len) ?_ (by rw [count_set HR.out, List.length_set, ← HLEN.out]), HV2.out.1.setCell hg _⟩
  have h := ST.out (p)
  rw [← HLEN.out] at h
  rw [count_set HR.out, show cntI 3 p n c = p from (by unfold cntI; simp; omega)]
  exact h

set_option maxHeartbeats 800000 in
theorem count_spec_k3b (p n : Int) (c : Nat) (w : World) (hr : ringB 3 p n = true) (hc : 0 < c) (hc2 : c ≤ 9223372036854775807) (hq : (c : Int) ≤ p) :
    Calls Try.prog 63 #[ringV 3 p n, .int .i64 c] w (NewRow w (countL 3 p n c)) := by
  have HR := Lib.hid hr
  clear hr
  have hd : decide (p < (c : Int)) = false := by simp; omega
  have hp := ring_cases HR.out
  have hp1 : 1 ≤ p := by omega
  have hp2 : p ≤ 1000000 := by omega
  clear hp
  go_enter Try.func63, Try.ntmps63
  go_wp2_with fail
  refine (Inv.call (Lib.hid (Inv.box w 3 p n _)) (ring_ok_spec 3 p n _)).mono ?_
  rw [HR.out]
  rintro e w1 ⟨rfl, HV1, c0, c1, c2⟩
  go_wp2_with fail
  refine (Inv.make HV1 (one_spec 3 p n _ HR.out)).mono ?_
  clear c0 c1 c2
  rintro e w2 ⟨v, rfl, HO, HV2, ⟨c0, c1, c2⟩, -⟩
  obtain ⟨g, cap, rfl, hg, hg2, hcell, hfr, hst⟩ := HO.out.head (by have := ring_width HR.out; have := (oneL_elem HR.out).1; omega)
  have ST := Lib.hid hst
  have hz : g < w2.heap.size := hg2
  obtain ⟨len, hlen⟩ : ∃ len, len = (oneL 3 p n).length := ⟨_, rfl⟩
  have hl1 : 1 ≤ len := by have := ring_width HR.out; have := (oneL_elem HR.out).1; omega
  rw [← hlen]
  have HLEN := Lib.hid hlen
  clear hst hlen
  go_wp2
  go_ret
  refine ⟨_, rfl, Own.of (n := len) ?_ (by rw [count_set HR.out, List.length_set, ← HLEN.out]), HV2.out.1.setCell hg _⟩
  have h := ST.out ((c : Int))
  rw [← HLEN.out] at h
  rw [count_set HR.out, show cntI 3 p n c = (c : Int) from (by unfold cntI; simp; omega)]
  exact h

set_option maxHeartbeats 800000 in
theorem count_spec_k2 (p n : Int) (c : Nat) (w : World) (hr : ringB 2 p n = true) (hc : 0 < c) (hc2 : c ≤ 9223372036854775807)  :
    Calls Try.prog 63 #[ringV 2 p n, .int .i64 c] w (NewRow w (countL 2 p n c)) := by
  have HR := Lib.hid hr
  clear hr
  have hp := ring_cases HR.out
  have hp1 : 2 ≤ p := by omega
  have hp2 : p ≤ 1000003 := by omega
  have hpz : ¬ p = 0 := by omega
  clear hp
  go_enter Try.func63, Try.ntmps63
  go_wp2_with fail
  refine (Inv.call (Lib.hid (Inv.box w 2 p n _)) (ring_ok_spec 2 p n _)).mono ?_
  rw [HR.out]
  rintro e w1 ⟨rfl, HV1, c0, c1, c2⟩
  go_wp2_with fail
  refine (Inv.make HV1 (one_spec 2 p n _ HR.out)).mono ?_
  clear c0 c1 c2
  rintro e w2 ⟨v, rfl, HO, HV2, ⟨c0, c1, c2⟩, -⟩
  obtain ⟨g, cap, rfl, hg, hg2, hcell, hfr, hst⟩ := HO.out.head (by have := ring_width HR.out; have := (oneL_elem HR.out).1; omega)
  have ST := Lib.hid hst
  have hz : g < w2.heap.size := hg2
  obtain ⟨len, hlen⟩ : ∃ len, len = (oneL 2 p n).length := ⟨_, rfl⟩
  have hl1 : 1 ≤ len := by have := ring_width HR.out; have := (oneL_elem HR.out).1; omega
  rw [← hlen]
  have HLEN := Lib.hid hlen
  clear hst hlen
  go_wp2
  go_ret
  refine ⟨_, rfl, Own.of (n := len) ?_ (by rw [count_set HR.out, List.length_set, ← HLEN.out]), HV2.out.1.setCell hg _⟩
  have h := ST.out ((c : Int) % p)
  rw [← HLEN.out] at h
  rw [count_set HR.out, show cntI 2 p n c = (c : Int) % p from (by unfold cntI; simp)]
  exact h

set_option maxHeartbeats 800000 in
theorem count_spec_k7 (p n : Int) (c : Nat) (w : World) (hr : ringB 7 p n = true) (hc : 0 < c) (hc2 : c ≤ 9223372036854775807)  :
    Calls Try.prog 63 #[ringV 7 p n, .int .i64 c] w (NewRow w (countL 7 p n c)) := by
  have HR := Lib.hid hr
  clear hr
  have hp := ring_cases HR.out
  have hp1 : 2 ≤ p := by omega
  have hp2 : p ≤ 1000003 := by omega
  have hpz : ¬ p = 0 := by omega
  clear hp
  go_enter Try.func63, Try.ntmps63
  go_wp2_with fail
  refine (Inv.call (Lib.hid (Inv.box w 7 p n _)) (ring_ok_spec 7 p n _)).mono ?_
  rw [HR.out]
  rintro e w1 ⟨rfl, HV1, c0, c1, c2⟩
  go_wp2_with fail
  refine (Inv.make HV1 (one_spec 7 p n _ HR.out)).mono ?_
  clear c0 c1 c2
  rintro e w2 ⟨v, rfl, HO, HV2, ⟨c0, c1, c2⟩, -⟩
  obtain ⟨g, cap, rfl, hg, hg2, hcell, hfr, hst⟩ := HO.out.head (by have := ring_width HR.out; have := (oneL_elem HR.out).1; omega)
  have ST := Lib.hid hst
  have hz : g < w2.heap.size := hg2
  obtain ⟨len, hlen⟩ : ∃ len, len = (oneL 7 p n).length := ⟨_, rfl⟩
  have hl1 : 1 ≤ len := by have := ring_width HR.out; have := (oneL_elem HR.out).1; omega
  rw [← hlen]
  have HLEN := Lib.hid hlen
  clear hst hlen
  go_wp2
  go_ret
  refine ⟨_, rfl, Own.of (n := len) ?_ (by rw [count_set HR.out, List.length_set, ← HLEN.out]), HV2.out.1.setCell hg _⟩
  have h := ST.out ((c : Int) % p)
  rw [← HLEN.out] at h
  rw [count_set HR.out, show cntI 7 p n c = (c : Int) % p from (by unfold cntI; simp)]
  exact h

set_option maxHeartbeats 800000 in
theorem count_spec_k8 (p n : Int) (c : Nat) (w : World) (hr : ringB 8 p n = true) (hc : 0 < c) (hc2 : c ≤ 9223372036854775807)  :
    Calls Try.prog 63 #[ringV 8 p n, .int .i64 c] w (NewRow w (countL 8 p n c)) := by
  have HR := Lib.hid hr
  clear hr
  have hp := ring_cases HR.out
  have hp1 : 2 ≤ p := by omega
  have hp2 : p ≤ 1000003 := by omega
  have hpz : ¬ p = 0 := by omega
  clear hp
  go_enter Try.func63, Try.ntmps63
  go_wp2_with fail
  refine (Inv.call (Lib.hid (Inv.box w 8 p n _)) (ring_ok_spec 8 p n _)).mono ?_
  rw [HR.out]
  rintro e w1 ⟨rfl, HV1, c0, c1, c2⟩
  go_wp2_with fail
  refine (Inv.make HV1 (one_spec 8 p n _ HR.out)).mono ?_
  clear c0 c1 c2
  rintro e w2 ⟨v, rfl, HO, HV2, ⟨c0, c1, c2⟩, -⟩
  obtain ⟨g, cap, rfl, hg, hg2, hcell, hfr, hst⟩ := HO.out.head (by have := ring_width HR.out; have := (oneL_elem HR.out).1; omega)
  have ST := Lib.hid hst
  have hz : g < w2.heap.size := hg2
  obtain ⟨len, hlen⟩ : ∃ len, len = (oneL 8 p n).length := ⟨_, rfl⟩
  have hl1 : 1 ≤ len := by have := ring_width HR.out; have := (oneL_elem HR.out).1; omega
  rw [← hlen]
  have HLEN := Lib.hid hlen
  clear hst hlen
  go_wp2
  go_ret
  refine ⟨_, rfl, Own.of (n := len) ?_ (by rw [count_set HR.out, List.length_set, ← HLEN.out]), HV2.out.1.setCell hg _⟩
  have h := ST.out ((c : Int) % p)
  rw [← HLEN.out] at h
  rw [count_set HR.out, show cntI 8 p n c = (c : Int) % p from (by unfold cntI; simp)]
  exact h

set_option maxHeartbeats 800000 in
theorem count_spec_kn (k p n : Int) (c : Nat) (w : World) (hr : ringB k p n = true) (hc : 0 < c) (hc2 : c ≤ 9223372036854775807) (h3 : (k == 3) = false) (h2 : (k == 2) = false) (h7 : (k == 7) = false) (h8 : (k == 8) = false) :
    Calls Try.prog 63 #[ringV k p n, .int .i64 c] w (NewRow w (countL k p n c)) := by
  have HR := Lib.hid hr
  clear hr
  go_enter Try.func63, Try.ntmps63
  go_wp2_with fail
  refine (Inv.call (Lib.hid (Inv.box w k p n _)) (ring_ok_spec k p n _)).mono ?_
  rw [HR.out]
  rintro e w1 ⟨rfl, HV1, c0, c1, c2⟩
  go_wp2_with fail
  refine (Inv.make HV1 (one_spec k p n _ HR.out)).mono ?_
  clear c0 c1 c2
  rintro e w2 ⟨v, rfl, HO, HV2, ⟨c0, c1, c2⟩, -⟩
  go_wp2
  go_ret
  exact ⟨v, rfl, by rw [count_keep HR.out hc h3 h2 h7 h8]; exact HO.out, HV2.out.1⟩

/-- spec.CountElem. -/
theorem count_spec (k p n c : Int) (w : World) (hc : c ≤ 9223372036854775807) :
    Calls Try.prog 63 #[ringV k p n, .int .i64 c] w (NewRow w (countElemL k p n c)) := by
  cases hr : ringB k p n with
  | false => rw [show countElemL k p n c = [] from by simp [countElemL, hr]]; exact count_spec_not k p n c w hr
  | true =>
    by_cases h0 : c < 0
    · rw [show countElemL k p n c = [] from by unfold countElemL; rw [if_neg]; simp; omega]; exact count_spec_neg k p n c w hr h0
    · obtain ⟨m, rfl⟩ := Int.eq_ofNat_of_zero_le (show 0 ≤ c by omega)
      rw [show countElemL k p n (m : Int) = countL k p n m from by unfold countElemL; rw [if_pos (by simp [hr])]; rfl]
      by_cases hz : m = 0
      · subst hz; rw [cnt_zero hr]; exact count_spec_zero k p n w hr
      have hm : 0 < m := by omega
      have hm2 : m ≤ 9223372036854775807 := by omega
      by_cases h3 : k = 3
      · subst h3
        by_cases hq : p < (m : Int)
        · exact count_spec_k3a p n m w hr hm hm2 hq
        · exact count_spec_k3b p n m w hr hm hm2 (by omega)
      by_cases h2 : k = 2
      · subst h2; exact count_spec_k2 p n m w hr hm hm2
      by_cases h7 : k = 7
      · subst h7; exact count_spec_k7 p n m w hr hm hm2
      by_cases h8 : k = 8
      · subst h8; exact count_spec_k8 p n m w hr hm hm2
      exact count_spec_kn k p n m w hr hm hm2 (by simpa using h3) (by simpa using h2) (by simpa using h7) (by simpa using h8)
end Go.Proofs.Ytfdjlahaiogabab
