
/- spec.l02Mul, by kinds. -/
import Derived.Test.YtfdjlahaiogabaaTimesOne
namespace Go.Proofs.Ytfdjlahaiogabaa
set_option maxRecDepth 20000
open Go.RowKit

theorem store_one {w w2 : World} {B g : Nat} {v : Int} (hB : B = w.heap.size) (ho : w2.ownsRow B 3 1 (.slice (some ⟨g, 0, none⟩) 1 1) 1 (ints (zerosL 1))) (hb : Below w.heap.size w w2) (hg : w.heap.size ≤ g) : NewRow w [v] (.returned (.slice (some ⟨g, 0, none⟩) 1 1)) (w2.setCell ⟨g, 0, none⟩ (.int .i64 v)).drew :=
  ⟨_, rfl, Own.of (n := 1) (by
    have h := (ho.stored 0 (.int .i64 v)).1
    rw [← ints_set] at h
    rw [← hB]
    exact h) rfl, (hb.setCell hg _).drew⟩
theorem row_at {W : World} {w2 : World} {B g m : Nat} {xs : List Value} (h : w2.ownsRow B 3 1 (.slice (some ⟨(W.alloc (.cells xs.toArray 31)).heap.size, 0, none⟩) m m) m (ints (zerosL m))) (hg : g = W.heap.size + 1) : w2.ownsRow B 3 1 (.slice (some ⟨g, 0, none⟩) m m) m (ints (zerosL m)) := by
  rw [show (W.alloc (.cells xs.toArray 31)).heap.size = g from by rw [hg]; simp] at h
  exact h

set_option maxHeartbeats 1600000 in
set_option maxRecDepth 100000 in
theorem mul_k1 (bx ox by_ oy cx cy : Nat) (p n a b : Int) (w : World) (hbx : bx < w.heap.size) (hby : by_ < w.heap.size) (hx : w.cell? ⟨bx, ox, none⟩ = some (.int .i64 a)) (hy : w.cell? ⟨by_, oy, none⟩ = some (.int .i64 b))   :
    Calls Try.prog 136 #[ringV 1 p n, .slice (some ⟨bx, ox, none⟩) 1 cx, .slice (some ⟨by_, oy, none⟩) 1 cy] w (NewRow w [bits .and .i64 a b]) := by
  obtain ⟨B, hB⟩ : ∃ B, B = w.heap.size := ⟨_, rfl⟩
  have HB := Lib.hid hB
  obtain ⟨i0, hi, hz0, hz1, hz2⟩ := info_parts infoInt
  have HV1 := Lib.hid (Inv.box w 1 p n 31)
  have HX := Lib.hid hx
  have HY := Lib.hid hy
  clear hB hx hy
  go_enter Try.func136, Try.ntmps136
  go_wp2_with (at_make; refine wpList_make_full _ rfl _ _ 24 rfl B 3 i0 (.int .i64 0) 1 Try.underlying24 hi hz0 hz1 .i64 .i64 _ _ 1 rfl rfl rfl rfl (by rw [hz2]; omega) (by unfold maxLen; omega) (by rw [HB.out]; simp) ?_; intro w2 hown hgrow; obtain ⟨HV2, OW, hsz, f0, g1, d0, d1, d2⟩ := made_facts HV1 hown hgrow (by omega); clear hown hgrow hi hz0 hz1 hz2)
  have OW2 : Hid (w2.ownsRow B 3 1 (.slice (some ⟨w.heap.size + 1, 0, none⟩) 1 1) 1 (ints (zerosL 1))) := Lib.hid (row_at (xs := [.int .i64 1, .int .i64 p, .int .i64 n]) OW.out rfl)
  have e1 : w2.cell? ⟨bx, ox, none⟩ = some (.int .i64 a) := (HV2.out.1.cell (p := ⟨bx, ox, none⟩) hbx).trans HX.out
  have e2 : w2.cell? ⟨by_, oy, none⟩ = some (.int .i64 b) := (HV2.out.1.cell (p := ⟨by_, oy, none⟩) hby).trans HY.out
  have hz : (w.alloc (.cells #[.int .i64 1, .int .i64 p, .int .i64 n] 31)).heap.size = w.heap.size + 1 := by simp
  have f1 := OW2.out.frozenAt 0
  have g2 : w2.cell? ⟨w.heap.size + 1, 0, none⟩ = some (.int .i64 0) := by rw [OW2.out.cellAt 0 (by omega)]; rfl
  clear OW f0 g1 hsz HV1 hz
  go_still_tail 9, (by kernel_rfl)
  change wpList _ _ _ _ _ w2.drew
  go_wp2
  go_ret
  exact store_one HB.out OW2.out HV2.out.1 (by simp)

set_option maxHeartbeats 1600000 in
set_option maxRecDepth 100000 in
theorem mul_k6 (bx ox by_ oy cx cy : Nat) (p n a b : Int) (w : World) (hbx : bx < w.heap.size) (hby : by_ < w.heap.size) (hx : w.cell? ⟨bx, ox, none⟩ = some (.int .i64 a)) (hy : w.cell? ⟨by_, oy, none⟩ = some (.int .i64 b))   :
    Calls Try.prog 136 #[ringV 6 p n, .slice (some ⟨bx, ox, none⟩) 1 cx, .slice (some ⟨by_, oy, none⟩) 1 cy] w (NewRow w [bits .and .i64 a b]) := by
  obtain ⟨B, hB⟩ : ∃ B, B = w.heap.size := ⟨_, rfl⟩
  have HB := Lib.hid hB
  obtain ⟨i0, hi, hz0, hz1, hz2⟩ := info_parts infoInt
  have HV1 := Lib.hid (Inv.box w 6 p n 31)
  have HX := Lib.hid hx
  have HY := Lib.hid hy
  clear hB hx hy
  go_enter Try.func136, Try.ntmps136
  go_wp2_with (at_make; refine wpList_make_full _ rfl _ _ 24 rfl B 3 i0 (.int .i64 0) 1 Try.underlying24 hi hz0 hz1 .i64 .i64 _ _ 1 rfl rfl rfl rfl (by rw [hz2]; omega) (by unfold maxLen; omega) (by rw [HB.out]; simp) ?_; intro w2 hown hgrow; obtain ⟨HV2, OW, hsz, f0, g1, d0, d1, d2⟩ := made_facts HV1 hown hgrow (by omega); clear hown hgrow hi hz0 hz1 hz2)
  have OW2 : Hid (w2.ownsRow B 3 1 (.slice (some ⟨w.heap.size + 1, 0, none⟩) 1 1) 1 (ints (zerosL 1))) := Lib.hid (row_at (xs := [.int .i64 6, .int .i64 p, .int .i64 n]) OW.out rfl)
  have e1 : w2.cell? ⟨bx, ox, none⟩ = some (.int .i64 a) := (HV2.out.1.cell (p := ⟨bx, ox, none⟩) hbx).trans HX.out
  have e2 : w2.cell? ⟨by_, oy, none⟩ = some (.int .i64 b) := (HV2.out.1.cell (p := ⟨by_, oy, none⟩) hby).trans HY.out
  have hz : (w.alloc (.cells #[.int .i64 6, .int .i64 p, .int .i64 n] 31)).heap.size = w.heap.size + 1 := by simp
  have f1 := OW2.out.frozenAt 0
  have g2 : w2.cell? ⟨w.heap.size + 1, 0, none⟩ = some (.int .i64 0) := by rw [OW2.out.cellAt 0 (by omega)]; rfl
  clear OW f0 g1 hsz HV1 hz
  go_still_tail 9, (by kernel_rfl)
  change wpList _ _ _ _ _ w2.drew
  go_wp2
  go_ret
  exact store_one HB.out OW2.out HV2.out.1 (by simp)

set_option maxHeartbeats 1600000 in
set_option maxRecDepth 100000 in
theorem mul_k2 (bx ox by_ oy cx cy : Nat) (p n a b : Int) (w : World) (hbx : bx < w.heap.size) (hby : by_ < w.heap.size) (hx : w.cell? ⟨bx, ox, none⟩ = some (.int .i64 a)) (hy : w.cell? ⟨by_, oy, none⟩ = some (.int .i64 b)) (ha : 0 ≤ a) (ha2 : a ≤ 1048576) (hb : 0 ≤ b) (hb2 : b ≤ 1048576) (ab : Int) (hab : a * b = ab) (hp1 : 2 ≤ p) (hp2 : p ≤ 1000003) :
    Calls Try.prog 136 #[ringV 2 p n, .slice (some ⟨bx, ox, none⟩) 1 cx, .slice (some ⟨by_, oy, none⟩) 1 cy] w (NewRow w [ab % p]) := by
  obtain ⟨B, hB⟩ : ∃ B, B = w.heap.size := ⟨_, rfl⟩
  have HB := Lib.hid hB
  obtain ⟨i0, hi, hz0, hz1, hz2⟩ := info_parts infoInt
  have HV1 := Lib.hid (Inv.box w 2 p n 31)
  have HX := Lib.hid hx
  have HY := Lib.hid hy
  have hbd : 0 ≤ ab ∧ ab ≤ 1099511627776 := by rw [← hab]; exact mul_small ha ha2 hb hb2
  have hmul : IntKind.i64.wrap (a * b) = ab := by rw [hab]; exact IntWalk.i64_in _ (by omega)
  have hpz : ¬ p = 0 := by omega
  have hm2 : ab.tmod p = ab % p := Int.tmod_eq_emod_of_nonneg (by omega)
  have hr0 := Int.emod_nonneg ab (show p ≠ 0 by omega)
  have hr1 := Int.emod_lt_of_pos ab (show 0 < p by omega)
  have hw4 : IntKind.i64.wrap (ab % p) = ab % p := IntWalk.i64_in _ (by omega)
  clear hab
  clear hB hx hy
  go_enter Try.func136, Try.ntmps136
  go_wp2_with (at_make; refine wpList_make_full _ rfl _ _ 24 rfl B 3 i0 (.int .i64 0) 1 Try.underlying24 hi hz0 hz1 .i64 .i64 _ _ 1 rfl rfl rfl rfl (by rw [hz2]; omega) (by unfold maxLen; omega) (by rw [HB.out]; simp) ?_; intro w2 hown hgrow; obtain ⟨HV2, OW, hsz, f0, g1, d0, d1, d2⟩ := made_facts HV1 hown hgrow (by omega); clear hown hgrow hi hz0 hz1 hz2)
  have OW2 : Hid (w2.ownsRow B 3 1 (.slice (some ⟨w.heap.size + 1, 0, none⟩) 1 1) 1 (ints (zerosL 1))) := Lib.hid (row_at (xs := [.int .i64 2, .int .i64 p, .int .i64 n]) OW.out rfl)
  have e1 : w2.cell? ⟨bx, ox, none⟩ = some (.int .i64 a) := (HV2.out.1.cell (p := ⟨bx, ox, none⟩) hbx).trans HX.out
  have e2 : w2.cell? ⟨by_, oy, none⟩ = some (.int .i64 b) := (HV2.out.1.cell (p := ⟨by_, oy, none⟩) hby).trans HY.out
  have hz : (w.alloc (.cells #[.int .i64 2, .int .i64 p, .int .i64 n] 31)).heap.size = w.heap.size + 1 := by simp
  have f1 := OW2.out.frozenAt 0
  have g2 : w2.cell? ⟨w.heap.size + 1, 0, none⟩ = some (.int .i64 0) := by rw [OW2.out.cellAt 0 (by omega)]; rfl
  clear OW f0 g1 hsz HV1 hz
  go_still_tail 12, (by kernel_rfl)
  change wpList _ _ _ _ _ w2.drew
  go_wp2
  go_ret
  exact store_one HB.out OW2.out HV2.out.1 (by simp)

set_option maxHeartbeats 1600000 in
set_option maxRecDepth 100000 in
theorem mul_k3a (bx ox by_ oy cx cy : Nat) (p n a b : Int) (w : World) (hbx : bx < w.heap.size) (hby : by_ < w.heap.size) (hx : w.cell? ⟨bx, ox, none⟩ = some (.int .i64 a)) (hy : w.cell? ⟨by_, oy, none⟩ = some (.int .i64 b)) (ha : 0 ≤ a) (ha2 : a ≤ 1048576) (hb : 0 ≤ b) (hb2 : b ≤ 1048576) (ab : Int) (hab : a * b = ab) (hc : p < ab) :
    Calls Try.prog 136 #[ringV 3 p n, .slice (some ⟨bx, ox, none⟩) 1 cx, .slice (some ⟨by_, oy, none⟩) 1 cy] w (NewRow w [p]) := by
  obtain ⟨B, hB⟩ : ∃ B, B = w.heap.size := ⟨_, rfl⟩
  have HB := Lib.hid hB
  obtain ⟨i0, hi, hz0, hz1, hz2⟩ := info_parts infoInt
  have HV1 := Lib.hid (Inv.box w 3 p n 31)
  have HX := Lib.hid hx
  have HY := Lib.hid hy
  have hbd : 0 ≤ ab ∧ ab ≤ 1099511627776 := by rw [← hab]; exact mul_small ha ha2 hb hb2
  have hmul : IntKind.i64.wrap (a * b) = ab := by rw [hab]; exact IntWalk.i64_in _ (by omega)
  have hd : decide (p < ab) = true := by simp; omega
  clear hab
  clear hB hx hy
  go_enter Try.func136, Try.ntmps136
  go_wp2_with (at_make; refine wpList_make_full _ rfl _ _ 24 rfl B 3 i0 (.int .i64 0) 1 Try.underlying24 hi hz0 hz1 .i64 .i64 _ _ 1 rfl rfl rfl rfl (by rw [hz2]; omega) (by unfold maxLen; omega) (by rw [HB.out]; simp) ?_; intro w2 hown hgrow; obtain ⟨HV2, OW, hsz, f0, g1, d0, d1, d2⟩ := made_facts HV1 hown hgrow (by omega); clear hown hgrow hi hz0 hz1 hz2)
  have OW2 : Hid (w2.ownsRow B 3 1 (.slice (some ⟨w.heap.size + 1, 0, none⟩) 1 1) 1 (ints (zerosL 1))) := Lib.hid (row_at (xs := [.int .i64 3, .int .i64 p, .int .i64 n]) OW.out rfl)
  have e1 : w2.cell? ⟨bx, ox, none⟩ = some (.int .i64 a) := (HV2.out.1.cell (p := ⟨bx, ox, none⟩) hbx).trans HX.out
  have e2 : w2.cell? ⟨by_, oy, none⟩ = some (.int .i64 b) := (HV2.out.1.cell (p := ⟨by_, oy, none⟩) hby).trans HY.out
  have hz : (w.alloc (.cells #[.int .i64 3, .int .i64 p, .int .i64 n] 31)).heap.size = w.heap.size + 1 := by simp
  have f1 := OW2.out.frozenAt 0
  have g2 : w2.cell? ⟨w.heap.size + 1, 0, none⟩ = some (.int .i64 0) := by rw [OW2.out.cellAt 0 (by omega)]; rfl
  clear OW f0 g1 hsz HV1 hz
  go_still_tail 12, (by kernel_rfl)
  change wpList _ _ _ _ _ w2.drew
  go_wp2
  go_ret
  exact store_one HB.out OW2.out HV2.out.1 (by simp)

set_option maxHeartbeats 1600000 in
set_option maxRecDepth 100000 in
theorem mul_k3b (bx ox by_ oy cx cy : Nat) (p n a b : Int) (w : World) (hbx : bx < w.heap.size) (hby : by_ < w.heap.size) (hx : w.cell? ⟨bx, ox, none⟩ = some (.int .i64 a)) (hy : w.cell? ⟨by_, oy, none⟩ = some (.int .i64 b)) (ha : 0 ≤ a) (ha2 : a ≤ 1048576) (hb : 0 ≤ b) (hb2 : b ≤ 1048576) (ab : Int) (hab : a * b = ab) (hc : ab ≤ p) :
    Calls Try.prog 136 #[ringV 3 p n, .slice (some ⟨bx, ox, none⟩) 1 cx, .slice (some ⟨by_, oy, none⟩) 1 cy] w (NewRow w [ab]) := by
  obtain ⟨B, hB⟩ : ∃ B, B = w.heap.size := ⟨_, rfl⟩
  have HB := Lib.hid hB
  obtain ⟨i0, hi, hz0, hz1, hz2⟩ := info_parts infoInt
  have HV1 := Lib.hid (Inv.box w 3 p n 31)
  have HX := Lib.hid hx
  have HY := Lib.hid hy
  have hbd : 0 ≤ ab ∧ ab ≤ 1099511627776 := by rw [← hab]; exact mul_small ha ha2 hb hb2
  have hmul : IntKind.i64.wrap (a * b) = ab := by rw [hab]; exact IntWalk.i64_in _ (by omega)
  have hd : decide (p < ab) = false := by simp; omega
  clear hab
  clear hB hx hy
  go_enter Try.func136, Try.ntmps136
  go_wp2_with (at_make; refine wpList_make_full _ rfl _ _ 24 rfl B 3 i0 (.int .i64 0) 1 Try.underlying24 hi hz0 hz1 .i64 .i64 _ _ 1 rfl rfl rfl rfl (by rw [hz2]; omega) (by unfold maxLen; omega) (by rw [HB.out]; simp) ?_; intro w2 hown hgrow; obtain ⟨HV2, OW, hsz, f0, g1, d0, d1, d2⟩ := made_facts HV1 hown hgrow (by omega); clear hown hgrow hi hz0 hz1 hz2)
  have OW2 : Hid (w2.ownsRow B 3 1 (.slice (some ⟨w.heap.size + 1, 0, none⟩) 1 1) 1 (ints (zerosL 1))) := Lib.hid (row_at (xs := [.int .i64 3, .int .i64 p, .int .i64 n]) OW.out rfl)
  have e1 : w2.cell? ⟨bx, ox, none⟩ = some (.int .i64 a) := (HV2.out.1.cell (p := ⟨bx, ox, none⟩) hbx).trans HX.out
  have e2 : w2.cell? ⟨by_, oy, none⟩ = some (.int .i64 b) := (HV2.out.1.cell (p := ⟨by_, oy, none⟩) hby).trans HY.out
  have hz : (w.alloc (.cells #[.int .i64 3, .int .i64 p, .int .i64 n] 31)).heap.size = w.heap.size + 1 := by simp
  have f1 := OW2.out.frozenAt 0
  have g2 : w2.cell? ⟨w.heap.size + 1, 0, none⟩ = some (.int .i64 0) := by rw [OW2.out.cellAt 0 (by omega)]; rfl
  clear OW f0 g1 hsz HV1 hz
  go_still_tail 12, (by kernel_rfl)
  change wpList _ _ _ _ _ w2.drew
  go_wp2
  go_ret
  exact store_one HB.out OW2.out HV2.out.1 (by simp)

set_option maxHeartbeats 1600000 in
set_option maxRecDepth 100000 in
theorem mul_k4a (bx ox by_ oy cx cy : Nat) (p n a b : Int) (w : World) (hbx : bx < w.heap.size) (hby : by_ < w.heap.size) (hx : w.cell? ⟨bx, ox, none⟩ = some (.int .i64 a)) (hy : w.cell? ⟨by_, oy, none⟩ = some (.int .i64 b)) (ha : 0 ≤ a) (ha2 : a ≤ 1048576) (hb : 0 ≤ b) (hb2 : b ≤ 1048576) (hc : p < a + b) :
    Calls Try.prog 136 #[ringV 4 p n, .slice (some ⟨bx, ox, none⟩) 1 cx, .slice (some ⟨by_, oy, none⟩) 1 cy] w (NewRow w [p]) := by
  obtain ⟨B, hB⟩ : ∃ B, B = w.heap.size := ⟨_, rfl⟩
  have HB := Lib.hid hB
  obtain ⟨i0, hi, hz0, hz1, hz2⟩ := info_parts infoInt
  have HV1 := Lib.hid (Inv.box w 4 p n 31)
  have HX := Lib.hid hx
  have HY := Lib.hid hy
  have hw : IntKind.i64.wrap (a + b) = a + b := IntWalk.i64_in _ (by omega)
  have hd : decide (p < a + b) = true := by simp; omega
  clear hB hx hy
  go_enter Try.func136, Try.ntmps136
  go_wp2_with (at_make; refine wpList_make_full _ rfl _ _ 24 rfl B 3 i0 (.int .i64 0) 1 Try.underlying24 hi hz0 hz1 .i64 .i64 _ _ 1 rfl rfl rfl rfl (by rw [hz2]; omega) (by unfold maxLen; omega) (by rw [HB.out]; simp) ?_; intro w2 hown hgrow; obtain ⟨HV2, OW, hsz, f0, g1, d0, d1, d2⟩ := made_facts HV1 hown hgrow (by omega); clear hown hgrow hi hz0 hz1 hz2)
  have OW2 : Hid (w2.ownsRow B 3 1 (.slice (some ⟨w.heap.size + 1, 0, none⟩) 1 1) 1 (ints (zerosL 1))) := Lib.hid (row_at (xs := [.int .i64 4, .int .i64 p, .int .i64 n]) OW.out rfl)
  have e1 : w2.cell? ⟨bx, ox, none⟩ = some (.int .i64 a) := (HV2.out.1.cell (p := ⟨bx, ox, none⟩) hbx).trans HX.out
  have e2 : w2.cell? ⟨by_, oy, none⟩ = some (.int .i64 b) := (HV2.out.1.cell (p := ⟨by_, oy, none⟩) hby).trans HY.out
  have hz : (w.alloc (.cells #[.int .i64 4, .int .i64 p, .int .i64 n] 31)).heap.size = w.heap.size + 1 := by simp
  have f1 := OW2.out.frozenAt 0
  have g2 : w2.cell? ⟨w.heap.size + 1, 0, none⟩ = some (.int .i64 0) := by rw [OW2.out.cellAt 0 (by omega)]; rfl
  clear OW f0 g1 hsz HV1 hz
  go_still_tail 12, (by kernel_rfl)
  change wpList _ _ _ _ _ w2.drew
  go_wp2
  go_ret
  exact store_one HB.out OW2.out HV2.out.1 (by simp)

set_option maxHeartbeats 1600000 in
set_option maxRecDepth 100000 in
theorem mul_k4b (bx ox by_ oy cx cy : Nat) (p n a b : Int) (w : World) (hbx : bx < w.heap.size) (hby : by_ < w.heap.size) (hx : w.cell? ⟨bx, ox, none⟩ = some (.int .i64 a)) (hy : w.cell? ⟨by_, oy, none⟩ = some (.int .i64 b)) (ha : 0 ≤ a) (ha2 : a ≤ 1048576) (hb : 0 ≤ b) (hb2 : b ≤ 1048576) (hc : a + b ≤ p) :
    Calls Try.prog 136 #[ringV 4 p n, .slice (some ⟨bx, ox, none⟩) 1 cx, .slice (some ⟨by_, oy, none⟩) 1 cy] w (NewRow w [a + b]) := by
  obtain ⟨B, hB⟩ : ∃ B, B = w.heap.size := ⟨_, rfl⟩
  have HB := Lib.hid hB
  obtain ⟨i0, hi, hz0, hz1, hz2⟩ := info_parts infoInt
  have HV1 := Lib.hid (Inv.box w 4 p n 31)
  have HX := Lib.hid hx
  have HY := Lib.hid hy
  have hw : IntKind.i64.wrap (a + b) = a + b := IntWalk.i64_in _ (by omega)
  have hd : decide (p < a + b) = false := by simp; omega
  clear hB hx hy
  go_enter Try.func136, Try.ntmps136
  go_wp2_with (at_make; refine wpList_make_full _ rfl _ _ 24 rfl B 3 i0 (.int .i64 0) 1 Try.underlying24 hi hz0 hz1 .i64 .i64 _ _ 1 rfl rfl rfl rfl (by rw [hz2]; omega) (by unfold maxLen; omega) (by rw [HB.out]; simp) ?_; intro w2 hown hgrow; obtain ⟨HV2, OW, hsz, f0, g1, d0, d1, d2⟩ := made_facts HV1 hown hgrow (by omega); clear hown hgrow hi hz0 hz1 hz2)
  have OW2 : Hid (w2.ownsRow B 3 1 (.slice (some ⟨w.heap.size + 1, 0, none⟩) 1 1) 1 (ints (zerosL 1))) := Lib.hid (row_at (xs := [.int .i64 4, .int .i64 p, .int .i64 n]) OW.out rfl)
  have e1 : w2.cell? ⟨bx, ox, none⟩ = some (.int .i64 a) := (HV2.out.1.cell (p := ⟨bx, ox, none⟩) hbx).trans HX.out
  have e2 : w2.cell? ⟨by_, oy, none⟩ = some (.int .i64 b) := (HV2.out.1.cell (p := ⟨by_, oy, none⟩) hby).trans HY.out
  have hz : (w.alloc (.cells #[.int .i64 4, .int .i64 p, .int .i64 n] 31)).heap.size = w.heap.size + 1 := by simp
  have f1 := OW2.out.frozenAt 0
  have g2 : w2.cell? ⟨w.heap.size + 1, 0, none⟩ = some (.int .i64 0) := by rw [OW2.out.cellAt 0 (by omega)]; rfl
  clear OW f0 g1 hsz HV1 hz
  go_still_tail 12, (by kernel_rfl)
  change wpList _ _ _ _ _ w2.drew
  go_wp2
  go_ret
  exact store_one HB.out OW2.out HV2.out.1 (by simp)

set_option maxHeartbeats 1600000 in
set_option maxRecDepth 100000 in
theorem mul_k5a (bx ox by_ oy cx cy : Nat) (p n a b : Int) (w : World) (hbx : bx < w.heap.size) (hby : by_ < w.heap.size) (hx : w.cell? ⟨bx, ox, none⟩ = some (.int .i64 a)) (hy : w.cell? ⟨by_, oy, none⟩ = some (.int .i64 b))  (hc : b < a) :
    Calls Try.prog 136 #[ringV 5 p n, .slice (some ⟨bx, ox, none⟩) 1 cx, .slice (some ⟨by_, oy, none⟩) 1 cy] w (NewRow w [b]) := by
  obtain ⟨B, hB⟩ : ∃ B, B = w.heap.size := ⟨_, rfl⟩
  have HB := Lib.hid hB
  obtain ⟨i0, hi, hz0, hz1, hz2⟩ := info_parts infoInt
  have HV1 := Lib.hid (Inv.box w 5 p n 31)
  have HX := Lib.hid hx
  have HY := Lib.hid hy
  have hd : decide (b < a) = true := by simp; omega
  clear hB hx hy
  go_enter Try.func136, Try.ntmps136
  go_wp2_with (at_make; refine wpList_make_full _ rfl _ _ 24 rfl B 3 i0 (.int .i64 0) 1 Try.underlying24 hi hz0 hz1 .i64 .i64 _ _ 1 rfl rfl rfl rfl (by rw [hz2]; omega) (by unfold maxLen; omega) (by rw [HB.out]; simp) ?_; intro w2 hown hgrow; obtain ⟨HV2, OW, hsz, f0, g1, d0, d1, d2⟩ := made_facts HV1 hown hgrow (by omega); clear hown hgrow hi hz0 hz1 hz2)
  have OW2 : Hid (w2.ownsRow B 3 1 (.slice (some ⟨w.heap.size + 1, 0, none⟩) 1 1) 1 (ints (zerosL 1))) := Lib.hid (row_at (xs := [.int .i64 5, .int .i64 p, .int .i64 n]) OW.out rfl)
  have e1 : w2.cell? ⟨bx, ox, none⟩ = some (.int .i64 a) := (HV2.out.1.cell (p := ⟨bx, ox, none⟩) hbx).trans HX.out
  have e2 : w2.cell? ⟨by_, oy, none⟩ = some (.int .i64 b) := (HV2.out.1.cell (p := ⟨by_, oy, none⟩) hby).trans HY.out
  have hz : (w.alloc (.cells #[.int .i64 5, .int .i64 p, .int .i64 n] 31)).heap.size = w.heap.size + 1 := by simp
  have f1 := OW2.out.frozenAt 0
  have g2 : w2.cell? ⟨w.heap.size + 1, 0, none⟩ = some (.int .i64 0) := by rw [OW2.out.cellAt 0 (by omega)]; rfl
  clear OW f0 g1 hsz HV1 hz
  go_still_tail 9, (by kernel_rfl)
  change wpList _ _ _ _ _ w2.drew
  go_wp2
  go_ret
  exact store_one HB.out OW2.out HV2.out.1 (by simp)

set_option maxHeartbeats 1600000 in
set_option maxRecDepth 100000 in
theorem mul_k5b (bx ox by_ oy cx cy : Nat) (p n a b : Int) (w : World) (hbx : bx < w.heap.size) (hby : by_ < w.heap.size) (hx : w.cell? ⟨bx, ox, none⟩ = some (.int .i64 a)) (hy : w.cell? ⟨by_, oy, none⟩ = some (.int .i64 b))  (hc : a ≤ b) :
    Calls Try.prog 136 #[ringV 5 p n, .slice (some ⟨bx, ox, none⟩) 1 cx, .slice (some ⟨by_, oy, none⟩) 1 cy] w (NewRow w [a]) := by
  obtain ⟨B, hB⟩ : ∃ B, B = w.heap.size := ⟨_, rfl⟩
  have HB := Lib.hid hB
  obtain ⟨i0, hi, hz0, hz1, hz2⟩ := info_parts infoInt
  have HV1 := Lib.hid (Inv.box w 5 p n 31)
  have HX := Lib.hid hx
  have HY := Lib.hid hy
  have hd : decide (b < a) = false := by simp; omega
  clear hB hx hy
  go_enter Try.func136, Try.ntmps136
  go_wp2_with (at_make; refine wpList_make_full _ rfl _ _ 24 rfl B 3 i0 (.int .i64 0) 1 Try.underlying24 hi hz0 hz1 .i64 .i64 _ _ 1 rfl rfl rfl rfl (by rw [hz2]; omega) (by unfold maxLen; omega) (by rw [HB.out]; simp) ?_; intro w2 hown hgrow; obtain ⟨HV2, OW, hsz, f0, g1, d0, d1, d2⟩ := made_facts HV1 hown hgrow (by omega); clear hown hgrow hi hz0 hz1 hz2)
  have OW2 : Hid (w2.ownsRow B 3 1 (.slice (some ⟨w.heap.size + 1, 0, none⟩) 1 1) 1 (ints (zerosL 1))) := Lib.hid (row_at (xs := [.int .i64 5, .int .i64 p, .int .i64 n]) OW.out rfl)
  have e1 : w2.cell? ⟨bx, ox, none⟩ = some (.int .i64 a) := (HV2.out.1.cell (p := ⟨bx, ox, none⟩) hbx).trans HX.out
  have e2 : w2.cell? ⟨by_, oy, none⟩ = some (.int .i64 b) := (HV2.out.1.cell (p := ⟨by_, oy, none⟩) hby).trans HY.out
  have hz : (w.alloc (.cells #[.int .i64 5, .int .i64 p, .int .i64 n] 31)).heap.size = w.heap.size + 1 := by simp
  have f1 := OW2.out.frozenAt 0
  have g2 : w2.cell? ⟨w.heap.size + 1, 0, none⟩ = some (.int .i64 0) := by rw [OW2.out.cellAt 0 (by omega)]; rfl
  clear OW f0 g1 hsz HV1 hz
  go_still_tail 9, (by kernel_rfl)
  change wpList _ _ _ _ _ w2.drew
  go_wp2
  go_ret
  exact store_one HB.out OW2.out HV2.out.1 (by simp)

end Go.Proofs.Ytfdjlahaiogabaa
namespace Go.Proofs.Ytfdjlahaiogabaa
set_option maxRecDepth 20000
open Go.RowKit

set_option maxHeartbeats 6400000 in
set_option maxRecDepth 100000 in
theorem poly_spec_full (ax ay : Option Addr) (cx cy m B0 : Nat) (k p n : Int) (xs ys : List Int) (w : World) (hx : xs.length = m) (hy : ys.length = m) (hm0 : 1 ≤ m) (hm : m ≤ 6) (hB0 : B0 ≤ w.heap.size)
    (hex : Within p xs) (hey : Within p ys) (om : Bool) (hom : (k == 8) = om) (hk1 : (k == 1) = false) (hk2 : (k == 2) = false) (hk3 : (k == 3) = false) (hk4 : (k == 4) = false) (hk5 : (k == 5) = false) (hk6 : (k == 6) = false) (hm4 : om = true → m = 4) (hp1 : 2 ≤ p) (hp2 : p ≤ 1000003)
    (hax : 0 < m → ∃ b off, ax = some ⟨b, off, none⟩ ∧ b < B0 ∧ ∀ i (h : i < xs.length), w.cell? ⟨b, off + i, none⟩ = some (.int .i64 xs[i]))
    (hay : 0 < m → ∃ b off, ay = some ⟨b, off, none⟩ ∧ b < B0 ∧ ∀ i (h : i < ys.length), w.cell? ⟨b, off + i, none⟩ = some (.int .i64 ys[i])) :
    Calls Try.prog 136 #[ringV k p n, .slice ax m cx, .slice ay m cy] w (NewRow w ((List.range m).map fun c => convC m om (fun i => xs.getD i 0) (fun i => ys.getD i 0) c % p)) := by
  obtain ⟨bx, ox, rfl, hbx, hcx⟩ := hax (by omega)
  obtain ⟨by', oy, rfl, hby, hcy⟩ := hay (by omega)
  have HX := Lib.hid hcx
  have HY := Lib.hid hcy
  have L1 := Lib.hid hx
  have L2 := Lib.hid hy
  have HK := Lib.hid hom
  have E1 := Lib.hid hex
  have E2 := Lib.hid hey
  have hbx2 : bx < w.heap.size := Nat.lt_of_lt_of_le hbx hB0
  have hby2 : by' < w.heap.size := Nat.lt_of_lt_of_le hby hB0
  obtain ⟨B, hB⟩ : ∃ B, B = w.heap.size := ⟨_, rfl⟩
  have HB := Lib.hid hB
  obtain ⟨i0, hi, hz0, hz1, hz2⟩ := info_parts infoInt
  have HV1 := Lib.hid (Inv.box w k p n 31)
  clear hax hay hcx hcy hx hy hom hex hey hbx hby hB0 hB
  go_enter Try.func136, Try.ntmps136
  go_wp2_with (at_make; refine wpList_make_full _ rfl _ _ 24 rfl B 3 i0 (.int .i64 0) 1 Try.underlying24 hi hz0 hz1 .i64 .i64 _ _ m rfl rfl rfl rfl (by rw [hz2]; omega) (by unfold maxLen; omega) (by rw [HB.out]; simp) ?_; intro w2 hown hgrow; obtain ⟨HV2, OW, hsz, f0, g1, d0, d1, d2⟩ := made_facts HV1 hown hgrow hm0; clear hown hgrow f0 g1 hi hz0 hz1 hz2)
  clear d0 d1 d2
  have OW2 : Hid (w2.ownsRow B 3 1 (.slice (some ⟨w.heap.size + 1, 0, none⟩) m m) m (ints (zerosL m))) := by
    have h := OW.out
    rw [show (w.alloc (.cells (ringC k p n) 31)).heap.size = w.heap.size + 1 from by simp] at h
    exact h
  clear OW HV1
  obtain ⟨X, hX⟩ : ∃ X : Nat → Int, X = fun i => xs.getD i 0 := ⟨_, rfl⟩
  obtain ⟨Y, hY⟩ : ∃ Y : Nat → Int, Y = fun i => ys.getD i 0 := ⟨_, rfl⟩
  have XX : Hid (∀ i, X i = xs.getD i 0) := Lib.hid (fun i => by rw [hX])
  have YY : Hid (∀ i, Y i = ys.getD i 0) := Lib.hid (fun i => by rw [hY])
  have BX : Hid (∀ i, 0 ≤ X i ∧ X i ≤ 1048576) := Lib.hid (fun i => by rw [hX]; have := E1.out.getD (by omega) i; exact ⟨this.1, Int.le_trans this.2 (by omega)⟩)
  have BY : Hid (∀ i, 0 ≤ Y i ∧ Y i ≤ 1048576) := Lib.hid (fun i => by rw [hY]; have := E2.out.getD (by omega) i; exact ⟨this.1, Int.le_trans this.2 (by omega)⟩)
  have PX : Hid (∀ i, X i ≤ p) := Lib.hid (fun i => by rw [hX]; exact (E1.out.getD (by omega) i).2)
  have FX := Lib.hid hX
  have H4 := Lib.hid hm4
  have FY := Lib.hid hY
  clear hX hY E1 E2 hm4
  have OW3 : Hid (w2.ownsRow B 3 1 (.slice (some ⟨w.heap.size + 1, 0, none⟩) m m) m (ints ((List.range m).map fun c => accC m om X Y 0 0 c % p))) := by
    rw [show ((List.range m).map fun c => accC m om X Y 0 0 c % p) = zerosL m from by
      apply List.ext_getElem (by simp [zerosL])
      intro i h1 h2
      simp [zerosL, acc_zero]]
    exact OW2
  clear OW2 hsz
  go_loopw [19] (fun i wr => ∃ j : Nat, j ≤ m ∧ i = .int .i64 j ∧ Hid (Inv w wr w.heap.size k p n) ∧ Hid (wr.ownsRow B 3 1 (.slice (some ⟨w.heap.size + 1, 0, none⟩) m m) m (ints ((List.range m).map fun c => accC m om X Y j 0 c % p)))) (fun i _ => m - (intOf i).toNat)
  case atStart => exact ⟨0, by omega, rfl, HV2, OW3⟩
  case round =>
    clear HV2 OW3
    obtain ⟨i, hi, rfl, HV, HO⟩ := hrel
    by_cases hlt : i < m
    · obtain ⟨a, e1, X1⟩ := ints_cell L1.out HX.out hlt
      have d1 : wr.cell? ⟨bx, ox + i, none⟩ = some (.int .i64 a) := (HV.out.1.cell (p := ⟨bx, ox + i, none⟩) hbx2).trans e1
      have wa : 0 ≤ a ∧ a ≤ 1048576 := by have := BX.out i; rw [XX.out, getD_of X1.out] at this; exact this
      clear e1
      go_wp2
      go_loopw [26] (fun q wr => ∃ j : Nat, j ≤ m ∧ q = .int .i64 j ∧ Hid (Inv w wr w.heap.size k p n) ∧ Hid (wr.ownsRow B 3 1 (.slice (some ⟨w.heap.size + 1, 0, none⟩) m m) m (ints ((List.range m).map fun c => accC m om X Y i j c % p)))) (fun q _ => m - (intOf q).toNat)
      case atStart => exact ⟨0, by omega, rfl, HV, HO⟩
      case round =>
        clear HV HO d1
        obtain ⟨j, hj, rfl, HV, HO⟩ := hrel
        by_cases hlj : j < m
        · obtain ⟨b, e2, Y1⟩ := ints_cell L2.out HY.out hlj
          have wb : 0 ≤ b ∧ b ≤ 1048576 := by have := BY.out j; rw [YY.out, getD_of Y1.out] at this; exact this
          have d2 : wr.cell? ⟨by', oy + j, none⟩ = some (.int .i64 b) := (HV.out.1.cell (p := ⟨by', oy + j, none⟩) hby2).trans e2
          obtain ⟨c0, c1, c2⟩ := HV.out.cells
          obtain ⟨ab, hab⟩ : ∃ ab, ab = a * b := ⟨_, rfl⟩
          have hbd : 0 ≤ ab ∧ ab ≤ 1099511627776 := by rw [hab]; exact mul_small wa.1 wa.2 wb.1 wb.2
          have hmul : IntKind.i64.wrap (a * b) = ab := by rw [← hab]; exact IntWalk.i64_in _ (by omega)
          have HAB : Hid (ab = X i * Y j) := Lib.hid (by rw [hab, XX.out, YY.out, getD_of X1.out, getD_of Y1.out])
          clear e2 hab
          by_cases hsum : i + j < m
          · obtain ⟨x0, hx0, c3⟩ := row_slot (j := i + j) HO (by simpa using hsum)
            have f3 := HO.out.frozenAt (i + j)
            have hx1 : x0 = accC m om X Y i j (i + j) % p := by simpa [hsum] using hx0.symm
            have hb3 : 0 ≤ x0 ∧ x0 < p := by rw [hx1]; exact ⟨Int.emod_nonneg _ (by omega), Int.emod_lt_of_pos _ (by omega)⟩
            have hpz : ¬ p = 0 := by omega
            have hw1 : IntKind.i64.wrap (x0 + ab) = x0 + ab := IntWalk.i64_in _ (by omega)
            have hm2 : (x0 + ab).tmod p = (x0 + ab) % p := Int.tmod_eq_emod_of_nonneg (by omega)
            have hr0 := Int.emod_nonneg (x0 + ab) (show p ≠ 0 by omega)
            have hr1 := Int.emod_lt_of_pos (x0 + ab) (show 0 < p by omega)
            have hw4 : IntKind.i64.wrap ((x0 + ab) % p) = (x0 + ab) % p := IntWalk.i64_in _ (by omega)
            have hij : IntKind.i64.wrap ((i : Int) + (j : Int)) = (i : Int) + (j : Int) := IntWalk.i64_in _ (by omega)
            have hnn : 0 ≤ (i : Int) + (j : Int) := by omega
            have htn : ((i : Int) + (j : Int)).toNat = i + j := by omega
            have hlm : (i : Int) + (j : Int) < (m : Int) := by omega
            have HS : Hid ((wr.setCell ⟨w.heap.size + 1, i + j, none⟩ (.int .i64 ((x0 + ab) % p))).drew.ownsRow B 3 1 (.slice (some ⟨w.heap.size + 1, 0, none⟩) m m) m (ints ((List.range m).map fun c => accC m om X Y i (j + 1) c % p))) := by
              have h := (HO.out.stored (i + j) (.int .i64 ((x0 + ab) % p))).1
              rw [← ints_set, hx1, HAB.out, red_set_at hsum, ← HAB.out, ← hx1] at h
              exact h
            clear hx0 hx1
            go_wp2
            go_still_tail 18, (by kernel_rfl)
            change wpList _ _ _ _ _ wr.drew
            go_wp2
            go_roundw
            case rel => exact ⟨j + 1, by omega, by go_num, Lib.hid (HV.out.set (q := ⟨w.heap.size + 1, i + j, none⟩) (by simp) (by simp) _).drew, HS⟩
            case measure => simp [intOf]; omega
          · have hge : decide (((i : Int) + (j : Int)) < (m : Int)) = false := by simp; omega
            obtain ⟨q, hq⟩ : ∃ q, q = i + j - m := ⟨_, rfl⟩
            have hq2 : q < m := by omega
            have HQ : Hid (i + j = q + m) := Lib.hid (by omega)
            have hqi : (i : Int) + (j : Int) - (m : Int) = (q : Int) := by omega
            have HQ2 := Lib.hid hq
            clear hq
            cases om with
            | true =>
              have hk : (k == 8) = true := HK.out
              have H44 : Hid (m = 4) := Lib.hid (H4.out rfl)
              have hnn : 0 ≤ (i : Int) + (j : Int) := by omega
              have hq0 : (q : Int) < (m : Int) := by omega
              have hwq : IntKind.i64.wrap (q : Int) = (q : Int) := IntWalk.i64_in _ (by omega)
              obtain ⟨x0, hx0, c3⟩ := row_slot (j := q) HO (by simpa using hq2)
              have f3 := HO.out.frozenAt q
              have hx1 : x0 = accC m true X Y i j q % p := by simpa [hq2] using hx0.symm
              have hb3 : 0 ≤ x0 ∧ x0 < p := by rw [hx1]; exact ⟨Int.emod_nonneg _ (by omega), Int.emod_lt_of_pos _ (by omega)⟩
              have hpz : ¬ p = 0 := by omega
              have hpa : a ≤ p := by have := PX.out i; rw [XX.out, getD_of X1.out] at this; exact this
              obtain ⟨pb, hpb⟩ : ∃ pb, pb = (p - a) * b := ⟨_, rfl⟩
              have hpd : 0 ≤ pb ∧ pb ≤ 1099511627776 := by rw [hpb]; exact mul_small (by omega) (by omega) wb.1 wb.2
              have hw0 : IntKind.i64.wrap (p - a) = p - a := IntWalk.i64_in _ (by omega)
              have hmulp : IntKind.i64.wrap ((p - a) * b) = pb := by rw [← hpb]; exact IntWalk.i64_in _ (by omega)
              have hw1 : IntKind.i64.wrap (x0 + pb) = x0 + pb := IntWalk.i64_in _ (by omega)
              have hm2 : (x0 + pb).tmod p = (x0 + pb) % p := Int.tmod_eq_emod_of_nonneg (by omega)
              have hr0 := Int.emod_nonneg (x0 + pb) (show p ≠ 0 by omega)
              have hr1 := Int.emod_lt_of_pos (x0 + pb) (show 0 < p by omega)
              have hw4 : IntKind.i64.wrap ((x0 + pb) % p) = (x0 + pb) % p := IntWalk.i64_in _ (by omega)
              have hij : IntKind.i64.wrap ((i : Int) + (j : Int)) = (i : Int) + (j : Int) := IntWalk.i64_in _ (by omega)
              have hqi4 : (i : Int) + (j : Int) - 4 = (q : Int) := by have e4 := H44.out; omega
              have hqw : IntKind.i64.wrap ((i : Int) + (j : Int) - 4) = (q : Int) := by rw [hqi4]; exact IntWalk.i64_in _ (by omega)
              have HPB : Hid (pb = (p - X i) * Y j) := Lib.hid (by rw [hpb, XX.out, YY.out, getD_of X1.out, getD_of Y1.out])
              have HS : Hid ((wr.setCell ⟨w.heap.size + 1, q, none⟩ (.int .i64 ((x0 + pb) % p))).drew.ownsRow B 3 1 (.slice (some ⟨w.heap.size + 1, 0, none⟩) m m) m (ints ((List.range m).map fun c => accC m true X Y i (j + 1) c % p))) := by
                have h := (HO.out.stored q (.int .i64 ((x0 + pb) % p))).1
                have h2 := red_set_wrap (w := m) (i := i) (j := j) (X := X) (Y := Y) (p := p) (by omega) (by omega)
                rw [← HQ2.out] at h2
                rw [← ints_set, hx1, HPB.out, h2, ← HPB.out, ← hx1] at h
                exact h
              clear hx0 hx1 hpb
              go_wp2
              go_still_tail 23, (by kernel_rfl)
              change wpList _ _ _ _ _ wr.drew
              go_wp2
              go_roundw
              case rel => exact ⟨j + 1, by omega, by go_num, Lib.hid (HV.out.set (q := ⟨w.heap.size + 1, q, none⟩) (by simp) (by simp) _).drew, HS⟩
              case measure => simp [intOf]; omega
            | false =>
              have hk : (k == 8) = false := HK.out
              have HS : Hid (wr.ownsRow B 3 1 (.slice (some ⟨w.heap.size + 1, 0, none⟩) m m) m (ints ((List.range m).map fun c => accC m false X Y i (j + 1) c % p))) := by
                have h := HO.out
                rw [red_set_none (by omega)] at h
                exact h
              go_wp2
              go_roundw
              case rel => exact ⟨j + 1, by omega, by go_num, HV, HS⟩
              case measure => simp [intOf]; omega
        · obtain rfl : j = m := by omega
          have HS : Hid (wr.ownsRow B 3 1 (.slice (some ⟨w.heap.size + 1, 0, none⟩) j j) j (ints ((List.range j).map fun c => accC j om X Y (i + 1) 0 c % p))) := by
            have h := HO.out
            rw [show (fun c => accC j om X Y i j c % p) = (fun c => accC j om X Y (i + 1) 0 c % p) from funext fun c => by rw [acc_row]] at h
            exact h
          go_wp2
          go_roundw
          case rel => exact ⟨i + 1, by omega, by go_num, HV, HS⟩
          case measure => simp [intOf]; omega
    · obtain rfl : i = m := by omega
      go_wp2
      go_ret
      refine ⟨_, rfl, Own.of (n := i) ?_ (by simp), HV.out.1⟩
      have h := HO.out
      rw [HB.out, mapRange_congr (g := fun c => convC i om (fun i => xs.getD i 0) (fun i => ys.getD i 0) c % p) (fun d hd => by rw [acc_end, FX.out, FY.out])] at h
      exact h
end Go.Proofs.Ytfdjlahaiogabaa
