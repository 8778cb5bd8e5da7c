
/- spec.l02Mul, by kinds. -/
import Derived.Test.YtgabcdploeledaaTimesOne
namespace Go.Proofs.Ytgabcdploeledaa
set_option maxRecDepth 20000
open Go.RowKit

theorem store_one {w w2 : World} {B g : Nat} {v : Int} (hB : B = w.heap.size) (ho : w2.ownsRow B 3 1 (.slice (some ⟨g, 0, none⟩) 1 1) 1 (ints (zerosL 1))) (hb : Below w.heap.size w w2) (hg : w.heap.size ≤ g) : NewRow w [v] (.returned (.slice (some ⟨g, 0, none⟩) 1 1)) (w2.setCell ⟨g, 0, none⟩ (.int .i64 v)).drew :=
  ⟨_, rfl, Own.of (n := 1) (by
    have h := (ho.stored 0 (.int .i64 v)).1
    rw [← ints_set] at h
    rw [← hB]
    exact h) rfl, (hb.setCell hg _).drew⟩
theorem row_at {W : World} {w2 : World} {B g m : Nat} {xs : List Value} (h : w2.ownsRow B 3 1 (.slice (some ⟨(W.alloc (.cells xs.toArray 31)).heap.size, 0, none⟩) m m) m (ints (zerosL m))) (hg : g = W.heap.size + 1) : w2.ownsRow B 3 1 (.slice (some ⟨g, 0, none⟩) m m) m (ints (zerosL m)) := by
  rw [show (W.alloc (.cells xs.toArray 31)).heap.size = g from by rw [hg]; simp] at h
  exact h

set_option maxHeartbeats 1600000 in
set_option maxRecDepth 100000 in
theorem mul_k1 (bx ox by_ oy cx cy : Nat) (p n a b : Int) (w : World) (hbx : bx < w.heap.size) (hby : by_ < w.heap.size) (hx : w.cell? ⟨bx, ox, none⟩ = some (.int .i64 a)) (hy : w.cell? ⟨by_, oy, none⟩ = some (.int .i64 b))   :
    Calls Try.prog 115 #[ringV 1 p n, .slice (some ⟨bx, ox, none⟩) 1 cx, .slice (some ⟨by_, oy, none⟩) 1 cy] w (NewRow w [bits .and .i64 a b]) := by
  obtain ⟨B, hB⟩ : ∃ B, B = w.heap.size := ⟨_, rfl⟩
  have HB := Lib.hid hB
  obtain ⟨i0, hi, hz0, hz1, hz2⟩ := info_parts infoInt
  have HV1 := Lib.hid (Inv.box w 1 p n 31)
  have HX := Lib.hid hx
  have HY := Lib.hid hy
  clear hB hx hy
  go_enter Try.func115, Try.ntmps115
  go_wp2_with (at_make; refine wpList_make_full _ rfl _ _ 24 rfl B 3 i0 (.int .i64 0) 1 Try.underlying24 hi hz0 hz1 .i64 .i64 _ _ 1 rfl rfl rfl rfl (by rw [hz2]; omega) (by unfold maxLen; omega) (by rw [HB.out]; simp) ?_; intro w2 hown hgrow; obtain ⟨HV2, OW, hsz, f0, g1, d0, d1, d2⟩ := made_facts HV1 hown hgrow (by omega); clear hown hgrow hi hz0 hz1 hz2)
  have OW2 : Hid (w2.ownsRow B 3 1 (.slice (some ⟨w.heap.size + 1, 0, none⟩) 1 1) 1 (ints (zerosL 1))) := Lib.hid (row_at (xs := [.int .i64 1, .int .i64 p, .int .i64 n]) OW.out rfl)
  have e1 : w2.cell? ⟨bx, ox, none⟩ = some (.int .i64 a) := (HV2.out.1.cell (p := ⟨bx, ox, none⟩) hbx).trans HX.out
  have e2 : w2.cell? ⟨by_, oy, none⟩ = some (.int .i64 b) := (HV2.out.1.cell (p := ⟨by_, oy, none⟩) hby).trans HY.out
  have hz : (w.alloc (.cells #[.int .i64 1, .int .i64 p, .int .i64 n] 31)).heap.size = w.heap.size + 1 := by simp
  have f1 := OW2.out.frozenAt 0
  have g2 : w2.cell? ⟨w.heap.size + 1, 0, none⟩ = some (.int .i64 0) := by rw [OW2.out.cellAt 0 (by omega)]; rfl
  clear OW f0 g1 hsz HV1 hz
  go_still_tail 9, (by kernel_rfl)
  change wpList _ _ _ _ _ w2.drew
  go_wp2
  go_ret
  exact store_one HB.out OW2.out HV2.out.1 (by simp)

set_option maxHeartbeats 1600000 in
set_option maxRecDepth 100000 in
theorem mul_k6 (bx ox by_ oy cx cy : Nat) (p n a b : Int) (w : World) (hbx : bx < w.heap.size) (hby : by_ < w.heap.size) (hx : w.cell? ⟨bx, ox, none⟩ = some (.int .i64 a)) (hy : w.cell? ⟨by_, oy, none⟩ = some (.int .i64 b))   :
    Calls Try.prog 115 #[ringV 6 p n, .slice (some ⟨bx, ox, none⟩) 1 cx, .slice (some ⟨by_, oy, none⟩) 1 cy] w (NewRow w [bits .and .i64 a b]) := by
  obtain ⟨B, hB⟩ : ∃ B, B = w.heap.size := ⟨_, rfl⟩
  have HB := Lib.hid hB
  obtain ⟨i0, hi, hz0, hz1, hz2⟩ := info_parts infoInt
  have HV1 := Lib.hid (Inv.box w 6 p n 31)
  have HX := Lib.hid hx
  have HY := Lib.hid hy
  clear hB hx hy
  go_enter Try.func115, Try.ntmps115
  go_wp2_with (at_make; refine wpList_make_full _ rfl _ _ 24 rfl B 3 i0 (.int .i64 0) 1 Try.underlying24 hi hz0 hz1 .i64 .i64 _ _ 1 rfl rfl rfl rfl (by rw [hz2]; omega) (by unfold maxLen; omega) (by rw [HB.out]; simp) ?_; intro w2 hown hgrow; obtain ⟨HV2, OW, hsz, f0, g1, d0, d1, d2⟩ := made_facts HV1 hown hgrow (by omega); clear hown hgrow hi hz0 hz1 hz2)
  have OW2 : Hid (w2.ownsRow B 3 1 (.slice (some ⟨w.heap.size + 1, 0, none⟩) 1 1) 1 (ints (zerosL 1))) := Lib.hid (row_at (xs := [.int .i64 6, .int .i64 p, .int .i64 n]) OW.out rfl)
  have e1 : w2.cell? ⟨bx, ox, none⟩ = some (.int .i64 a) := (HV2.out.1.cell (p := ⟨bx, ox, none⟩) hbx).trans HX.out
  have e2 : w2.cell? ⟨by_, oy, none⟩ = some (.int .i64 b) := (HV2.out.1.cell (p := ⟨by_, oy, none⟩) hby).trans HY.out
  have hz : (w.alloc (.cells #[.int .i64 6, .int .i64 p, .int .i64 n] 31)).heap.size = w.heap.size + 1 := by simp
  have f1 := OW2.out.frozenAt 0
  have g2 : w2.cell? ⟨w.heap.size + 1, 0, none⟩ = some (.int .i64 0) := by rw [OW2.out.cellAt 0 (by omega)]; rfl
  clear OW f0 g1 hsz HV1 hz
  go_still_tail 9, (by kernel_rfl)
  change wpList _ _ _ _ _ w2.drew
  go_wp2
  go_ret
  exact store_one HB.out OW2.out HV2.out.1 (by simp)

set_option maxHeartbeats 1600000 in
set_option maxRecDepth 100000 in
theorem mul_k2 (bx ox by_ oy cx cy : Nat) (p n a b : Int) (w : World) (hbx : bx < w.heap.size) (hby : by_ < w.heap.size) (hx : w.cell? ⟨bx, ox, none⟩ = some (.int .i64 a)) (hy : w.cell? ⟨by_, oy, none⟩ = some (.int .i64 b)) (ha : 0 ≤ a) (ha2 : a ≤ 1048576) (hb : 0 ≤ b) (hb2 : b ≤ 1048576) (ab : Int) (hab : a * b = ab) (hp1 : 2 ≤ p) (hp2 : p ≤ 1000003) :
    Calls Try.prog 115 #[ringV 2 p n, .slice (some ⟨bx, ox, none⟩) 1 cx, .slice (some ⟨by_, oy, none⟩) 1 cy] w (NewRow w [ab % p]) := by
  obtain ⟨B, hB⟩ : ∃ B, B = w.heap.size := ⟨_, rfl⟩
  have HB := Lib.hid hB
  obtain ⟨i0, hi, hz0, hz1, hz2⟩ := info_parts infoInt
  have HV1 := Lib.hid (Inv.box w 2 p n 31)
  have HX := Lib.hid hx
  have HY := Lib.hid hy
  have hbd : 0 ≤ ab ∧ ab ≤ 1099511627776 := by rw [← hab]; exact mul_small ha ha2 hb hb2
  have hmul : IntKind.i64.wrap (a * b) = ab := by rw [hab]; exact IntWalk.i64_in _ (by omega)
  have hpz : ¬ p = 0 := by omega
  have hm2 : ab.tmod p = ab % p := Int.tmod_eq_emod_of_nonneg (by omega)
  have hr0 := Int.emod_nonneg ab (show p ≠ 0 by omega)
  have hr1 := Int.emod_lt_of_pos ab (show 0 < p by omega)
  have hw4 : IntKind.i64.wrap (ab % p) = ab % p := IntWalk.i64_in _ (by omega)
  clear hab
  clear hB hx hy
  go_enter Try.func115, Try.ntmps115
  go_wp2_with (at_make; refine wpList_make_full _ rfl _ _ 24 rfl B 3 i0 (.int .i64 0) 1 Try.underlying24 hi hz0 hz1 .i64 .i64 _ _ 1 rfl rfl rfl rfl (by rw [hz2]; omega) (by unfold maxLen; omega) (by rw [HB.out]; simp) ?_; intro w2 hown hgrow; obtain ⟨HV2, OW, hsz, f0, g1, d0, d1, d2⟩ := made_facts HV1 hown hgrow (by omega); clear hown hgrow hi hz0 hz1 hz2)
  have OW2 : Hid (w2.ownsRow B 3 1 (.slice (some ⟨w.heap.size + 1, 0, none⟩) 1 1) 1 (ints (zerosL 1))) := Lib.hid (row_at (xs := [.int .i64 2, .int .i64 p, .int .i64 n]) OW.out rfl)
  have e1 : w2.cell? ⟨bx, ox, none⟩ = some (.int .i64 a) := (HV2.out.1.cell (p := ⟨bx, ox, none⟩) hbx).trans HX.out
  have e2 : w2.cell? ⟨by_, oy, none⟩ = some (.int .i64 b) := (HV2.out.1.cell (p := ⟨by_, oy, none⟩) hby).trans HY.out
  have hz : (w.alloc (.cells #[.int .i64 2, .int .i64 p, .int .i64 n] 31)).heap.size = w.heap.size + 1 := by simp
  have f1 := OW2.out.frozenAt 0
  have g2 : w2.cell? ⟨w.heap.size + 1, 0, none⟩ = some (.int .i64 0) := by rw [OW2.out.cellAt 0 (by omega)]; rfl
  clear OW f0 g1 hsz HV1 hz
  go_still_tail 12, (by kernel_rfl)
  change wpList _ _ _ _ _ w2.drew
  go_wp2
  go_ret
  exact store_one HB.out OW2.out HV2.out.1 (by simp)

set_option maxHeartbeats 1600000 in
set_option maxRecDepth 100000 in
theorem mul_k3a (bx ox by_ oy cx cy : Nat) (p n a b : Int) (w : World) (hbx : bx < w.heap.size) (hby : by_ < w.heap.size) (hx : w.cell? ⟨bx, ox, none⟩ = some (.int .i64 a)) (hy : w.cell? ⟨by_, oy, none⟩ = some (.int .i64 b)) (ha : 0 ≤ a) (ha2 : a ≤ 1048576) (hb : 0 ≤ b) (hb2 : b ≤ 1048576) (ab : Int) (hab : a * b = ab) (hc : p < ab) :
    Calls Try.prog 115 #[ringV 3 p n, .slice (some ⟨bx, ox, none⟩) 1 cx, .slice (some ⟨by_, oy, none⟩) 1 cy] w (NewRow w [p]) := by
  obtain ⟨B, hB⟩ : ∃ B, B = w.heap.size := ⟨_, rfl⟩
  have HB := Lib.hid hB
  obtain ⟨i0, hi, hz0, hz1, hz2⟩ := info_parts infoInt
  have HV1 := Lib.hid (Inv.box w 3 p n 31)
  have HX := Lib.hid hx
  have HY := Lib.hid hy
  have hbd : 0 ≤ ab ∧ ab ≤ 1099511627776 := by rw [← hab]; exact mul_small ha ha2 hb hb2
  have hmul : IntKind.i64.wrap (a * b) = ab := by rw [hab]; exact IntWalk.i64_in _ (by omega)
  have hd : decide (p < ab) = true := by simp; omega
  clear hab
  clear hB hx hy
  go_enter Try.func115, Try.ntmps115
  go_wp2_with (at_make; refine wpList_make_full _ rfl _ _ 24 rfl B 3 i0 (.int .i64 0) 1 Try.underlying24 hi hz0 hz1 .i64 .i64 _ _ 1 rfl rfl rfl rfl (by rw [hz2]; omega) (by unfold maxLen; omega) (by rw [HB.out]; simp) ?_; intro w2 hown hgrow; obtain ⟨HV2, OW, hsz, f0, g1, d0, d1, d2⟩ := made_facts HV1 hown hgrow (by omega); clear hown hgrow hi hz0 hz1 hz2)
  have OW2 : Hid (w2.ownsRow B 3 1 (.slice (some ⟨w.heap.size + 1, 0, none⟩) 1 1) 1 (ints (zerosL 1))) := Lib.hid (row_at (xs := [.int .i64 3, .int .i64 p, .int .i64 n]) OW.out rfl)
  have e1 : w2.cell? ⟨bx, ox, none⟩ = some (.int .i64 a) := (HV2.out.1.cell (p := ⟨bx, ox, none⟩) hbx).trans HX.out
  have e2 : w2.cell? ⟨by_, oy, none⟩ = some (.int .i64 b) := (HV2.out.1.cell (p := ⟨by_, oy, none⟩) hby).trans HY.out
  have hz : (w.alloc (.cells #[.int .i64 3, .int .i64 p, .int .i64 n] 31)).heap.size = w.heap.size + 1 := by simp
  have f1 := OW2.out.frozenAt 0
  have g2 : w2.cell? ⟨w.heap.size + 1, 0, none⟩ = some (.int .i64 0) := by rw [OW2.out.cellAt 0 (by omega)]; rfl
  clear OW f0 g1 hsz HV1 hz
  go_still_tail 12, (by kernel_rfl)
  change wpList _ _ _ _ _ w2.drew
  go_wp2
  go_ret
  exact store_one HB.out OW2.out HV2.out.1 (by simp)

set_option maxHeartbeats 1600000 in
set_option maxRecDepth 100000 in
theorem mul_k3b (bx ox by_ oy cx cy : Nat) (p n a b : Int) (w : World) (hbx : bx < w.heap.size) (hby : by_ < w.heap.size) (hx : w.cell? ⟨bx, ox, none⟩ = some (.int .i64 a)) (hy : w.cell? ⟨by_, oy, none⟩ = some (.int .i64 b)) (ha : 0 ≤ a) (ha2 : a ≤ 1048576) (hb : 0 ≤ b) (hb2 : b ≤ 1048576) (ab : Int) (hab : a * b = ab) (hc : ab ≤ p) :
    Calls Try.prog 115 #[ringV 3 p n, .slice (some ⟨bx, ox, none⟩) 1 cx, .slice (some ⟨by_, oy, none⟩) 1 cy] w (NewRow w [ab]) := by
  obtain ⟨B, hB⟩ : ∃ B, B = w.heap.size := ⟨_, rfl⟩
  have HB := Lib.hid hB
  obtain ⟨i0, hi, hz0, hz1, hz2⟩ := info_parts infoInt
  have HV1 := Lib.hid (Inv.box w 3 p n 31)
  have HX := Lib.hid hx
  have HY := Lib.hid hy
  have hbd : 0 ≤ ab ∧ ab ≤ 1099511627776 := by rw [← hab]; exact mul_small ha ha2 hb hb2
  have hmul : IntKind.i64.wrap (a * b) = ab := by rw [hab]; exact IntWalk.i64_in _ (by omega)
  have hd : decide (p < ab) = false := by simp; omega
  clear hab
  clear hB hx hy
  go_enter Try.func115, Try.ntmps115
  go_wp2_with (at_make; refine wpList_make_full _ rfl _ _ 24 rfl B 3 i0 (.int .i64 0) 1 Try.underlying24 hi hz0 hz1 .i64 .i64 _ _ 1 rfl rfl rfl rfl (by rw [hz2]; omega) (by unfold maxLen; omega) (by rw [HB.out]; simp) ?_; intro w2 hown hgrow; obtain ⟨HV2, OW, hsz, f0, g1, d0, d1, d2⟩ := made_facts HV1 hown hgrow (by omega); clear hown hgrow hi hz0 hz1 hz2)
  have OW2 : Hid (w2.ownsRow B 3 1 (.slice (some ⟨w.heap.size + 1, 0, none⟩) 1 1) 1 (ints (zerosL 1))) := Lib.hid (row_at (xs := [.int .i64 3, .int .i64 p, .int .i64 n]) OW.out rfl)
  have e1 : w2.cell? ⟨bx, ox, none⟩ = some (.int .i64 a) := (HV2.out.1.cell (p := ⟨bx, ox, none⟩) hbx).trans HX.out
  have e2 : w2.cell? ⟨by_, oy, none⟩ = some (.int .i64 b) := (HV2.out.1.cell (p := ⟨by_, oy, none⟩) hby).trans HY.out
  have hz : (w.alloc (.cells #[.int .i64 3, .int .i64 p, .int .i64 n] 31)).heap.size = w.heap.size + 1 := by simp
  have f1 := OW2.out.frozenAt 0
  have g2 : w2.cell? ⟨w.heap.size + 1, 0, none⟩ = some (.int .i64 0) := by rw [OW2.out.cellAt 0 (by omega)]; rfl
  clear OW f0 g1 hsz HV1 hz
  go_still_tail 12, (by kernel_rfl)
  change wpList _ _ _ _ _ w2.drew
  go_wp2
  go_ret
  exact store_one HB.out OW2.out HV2.out.1 (by simp)

set_option maxHeartbeats 1600000 in
set_option maxRecDepth 100000 in
theorem mul_k4a (bx ox by_ oy cx cy : Nat) (p n a b : Int) (w : World) (hbx : bx < w.heap.size) (hby : by_ < w.heap.size) (hx : w.cell? ⟨bx, ox, none⟩ = some (.int .i64 a)) (hy : w.cell? ⟨by_, oy, none⟩ = some (.int .i64 b)) (ha : 0 ≤ a) (ha2 : a ≤ 1048576) (hb : 0 ≤ b) (hb2 : b ≤ 1048576) (hc : p < a + b) :
    Calls Try.prog 115 #[ringV 4 p n, .slice (some ⟨bx, ox, none⟩) 1 cx, .slice (some ⟨by_, oy, none⟩) 1 cy] w (NewRow w [p]) := by
  obtain ⟨B, hB⟩ : ∃ B, B = w.heap.size := ⟨_, rfl⟩
  have HB := Lib.hid hB
  obtain ⟨i0, hi, hz0, hz1, hz2⟩ := info_parts infoInt
  have HV1 := Lib.hid (Inv.box w 4 p n 31)
  have HX := Lib.hid hx
  have HY := Lib.hid hy
  have hw : IntKind.i64.wrap (a + b) = a + b := IntWalk.i64_in _ (by omega)
  have hd : decide (p < a + b) = true := by simp; omega
  clear hB hx hy
  go_enter Try.func115, Try.ntmps115
  go_wp2_with (at_make; refine wpList_make_full _ rfl _ _ 24 rfl B 3 i0 (.int .i64 0) 1 Try.underlying24 hi hz0 hz1 .i64 .i64 _ _ 1 rfl rfl rfl rfl (by rw [hz2]; omega) (by unfold maxLen; omega) (by rw [HB.out]; simp) ?_; intro w2 hown hgrow; obtain ⟨HV2, OW, hsz, f0, g1, d0, d1, d2⟩ := made_facts HV1 hown hgrow (by omega); clear hown hgrow hi hz0 hz1 hz2)
  have OW2 : Hid (w2.ownsRow B 3 1 (.slice (some ⟨w.heap.size + 1, 0, none⟩) 1 1) 1 (ints (zerosL 1))) := Lib.hid (row_at (xs := [.int .i64 4, .int .i64 p, .int .i64 n]) OW.out rfl)
  have e1 : w2.cell? ⟨bx, ox, none⟩ = some (.int .i64 a) := (HV2.out.1.cell (p := ⟨bx, ox, none⟩) hbx).trans HX.out
  have e2 : w2.cell? ⟨by_, oy, none⟩ = some (.int .i64 b) := (HV2.out.1.cell (p := ⟨by_, oy, none⟩) hby).trans HY.out
  have hz : (w.alloc (.cells #[.int .i64 4, .int .i64 p, .int .i64 n] 31)).heap.size = w.heap.size + 1 := by simp
  have f1 := OW2.out.frozenAt 0
  have g2 : w2.cell? ⟨w.heap.size + 1, 0, none⟩ = some (.int .i64 0) := by rw [OW2.out.cellAt 0 (by omega)]; rfl
  clear OW f0 g1 hsz HV1 hz
  go_still_tail 12, (by kernel_rfl)
  change wpList _ _ _ _ _ w2.drew
  go_wp2
  go_ret
  exact store_one HB.out OW2.out HV2.out.1 (by simp)

set_option maxHeartbeats 1600000 in
set_option maxRecDepth 100000 in
theorem mul_k4b (bx ox by_ oy cx cy : Nat) (p n a b : Int) (w : World) (hbx : bx < w.heap.size) (hby : by_ < w.heap.size) (hx : w.cell? ⟨bx, ox, none⟩ = some (.int .i64 a)) (hy : w.cell? ⟨by_, oy, none⟩ = some (.int .i64 b)) (ha : 0 ≤ a) (ha2 : a ≤ 1048576) (hb : 0 ≤ b) (hb2 : b ≤ 1048576) (hc : a + b ≤ p) :
    Calls Try.prog 115 #[ringV 4 p n, .slice (some ⟨bx, ox, none⟩) 1 cx, .slice (some ⟨by_, oy, none⟩) 1 cy] w (NewRow w [a + b]) := by
  obtain ⟨B, hB⟩ : ∃ B, B = w.heap.size := ⟨_, rfl⟩
  have HB := Lib.hid hB
  obtain ⟨i0, hi, hz0, hz1, hz2⟩ := info_parts infoInt
  have HV1 := Lib.hid (Inv.box w 4 p n 31)
  have HX := Lib.hid hx
  have HY := Lib.hid hy
  have hw : IntKind.i64.wrap (a + b) = a + b := IntWalk.i64_in _ (by omega)
  have hd : decide (p < a + b) = false := by simp; omega
  clear hB hx hy
  go_enter Try.func115, Try.ntmps115
  go_wp2_with (at_make; refine wpList_make_full _ rfl _ _ 24 rfl B 3 i0 (.int .i64 0) 1 Try.underlying24 hi hz0 hz1 .i64 .i64 _ _ 1 rfl rfl rfl rfl (by rw [hz2]; omega) (by unfold maxLen; omega) (by rw [HB.out]; simp) ?_; intro w2 hown hgrow; obtain ⟨HV2, OW, hsz, f0, g1, d0, d1, d2⟩ := made_facts HV1 hown hgrow (by omega); clear hown hgrow hi hz0 hz1 hz2)
  have OW2 : Hid (w2.ownsRow B 3 1 (.slice (some ⟨w.heap.size + 1, 0, none⟩) 1 1) 1 (ints (zerosL 1))) := Lib.hid (row_at (xs := [.int .i64 4, .int .i64 p, .int .i64 n]) OW.out rfl)
  have e1 : w2.cell? ⟨bx, ox, none⟩ = some (.int .i64 a) := (HV2.out.1.cell (p := ⟨bx, ox, none⟩) hbx).trans HX.out
  have e2 : w2.cell? ⟨by_, oy, none⟩ = some (.int .i64 b) := (HV2.out.1.cell (p := ⟨by_, oy, none⟩) hby).trans HY.out
  have hz : (w.alloc (.cells #[.int .i64 4, .int .i64 p, .int .i64 n] 31)).heap.size = w.heap.size + 1 := by simp
  have f1 := OW2.out.frozenAt 0
  have g2 : w2.cell? ⟨w.heap.size + 1, 0, none⟩ = some (.int .i64 0) := by rw [OW2.out.cellAt 0 (by omega)]; rfl
  clear OW f0 g1 hsz HV1 hz
  go_still_tail 12, (by kernel_rfl)
  change wpList _ _ _ _ _ w2.drew
  go_wp2
  go_ret
  exact store_one HB.out OW2.out HV2.out.1 (by simp)

set_option maxHeartbeats 1600000 in
set_option maxRecDepth 100000 in
theorem mul_k5a (bx ox by_ oy cx cy : Nat) (p n a b : Int) (w : World) (hbx : bx < w.heap.size) (hby : by_ < w.heap.size) (hx : w.cell? ⟨bx, ox, none⟩ = some (.int .i64 a)) (hy : w.cell? ⟨by_, oy, none⟩ = some (.int .i64 b))  (hc : b < a) :
    Calls Try.prog 115 #[ringV 5 p n, .slice (some ⟨bx, ox, none⟩) 1 cx, .slice (some ⟨by_, oy, none⟩) 1 cy] w (NewRow w [b]) := by
  obtain ⟨B, hB⟩ : ∃ B, B = w.heap.size := ⟨_, rfl⟩
  have HB := Lib.hid hB
  obtain ⟨i0, hi, hz0, hz1, hz2⟩ := info_parts infoInt
  have HV1 := Lib.hid (Inv.box w 5 p n 31)
  have HX := Lib.hid hx
  have HY := Lib.hid hy
  have hd : decide (b < a) = true := by simp; omega
  clear hB hx hy
  go_enter Try.func115, Try.ntmps115
  go_wp2_with (at_make; refine wpList_make_full _ rfl _ _ 24 rfl B 3 i0 (.int .i64 0) 1 Try.underlying24 hi hz0 hz1 .i64 .i64 _ _ 1 rfl rfl rfl rfl (by rw [hz2]; omega) (by unfold maxLen; omega) (by rw [HB.out]; simp) ?_; intro w2 hown hgrow; obtain ⟨HV2, OW, hsz, f0, g1, d0, d1, d2⟩ := made_facts HV1 hown hgrow (by omega); clear hown hgrow hi hz0 hz1 hz2)
  have OW2 : Hid (w2.ownsRow B 3 1 (.slice (some ⟨w.heap.size + 1, 0, none⟩) 1 1) 1 (ints (zerosL 1))) := Lib.hid (row_at (xs := [.int .i64 5, .int .i64 p, .int .i64 n]) OW.out rfl)
  have e1 : w2.cell? ⟨bx, ox, none⟩ = some (.int .i64 a) := (HV2.out.1.cell (p := ⟨bx, ox, none⟩) hbx).trans HX.out
  have e2 : w2.cell? ⟨by_, oy, none⟩ = some (.int .i64 b) := (HV2.out.1.cell (p := ⟨by_, oy, none⟩) hby).trans HY.out
  have hz : (w.alloc (.cells #[.int .i64 5, .int .i64 p, .int .i64 n] 31)).heap.size = w.heap.size + 1 := by simp
  have f1 := OW2.out.frozenAt 0
  have g2 : w2.cell? ⟨w.heap.size + 1, 0, none⟩ = some (.int .i64 0) := by rw [OW2.out.cellAt 0 (by omega)]; rfl
  clear OW f0 g1 hsz HV1 hz
  go_still_tail 9, (by kernel_rfl)
  change wpList _ _ _ _ _ w2.drew
  go_wp2
  go_ret
  exact store_one HB.out OW2.out HV2.out.1 (by simp)

set_option maxHeartbeats 1600000 in
set_option maxRecDepth 100000 in
theorem mul_k5b (bx ox by_ oy cx cy : Nat) (p n a b : Int) (w : World) (hbx : bx < w.heap.size) (hby : by_ < w.heap.size) (hx : w.cell? ⟨bx, ox, none⟩ = some (.int .i64 a)) (hy : w.cell? ⟨by_, oy, none⟩ = some (.int .i64 b))  (hc : a ≤ b) :
    Calls Try.prog 115 #[ringV 5 p n, .slice (some ⟨bx, ox, none⟩) 1 cx, .slice (some ⟨by_, oy, none⟩) 1 cy] w (NewRow w [a]) := by
  obtain ⟨B, hB⟩ : ∃ B, B = w.heap.size := ⟨_, rfl⟩
  have HB := Lib.hid hB
  obtain ⟨i0, hi, hz0, hz1, hz2⟩ := info_parts infoInt
  have HV1 := Lib.hid (Inv.box w 5 p n 31)
  have HX := Lib.hid hx
  have HY := Lib.hid hy
  have hd : decide (b < a) = false := by simp; omega
  clear hB hx hy
  go_enter Try.func115, Try.ntmps115
  go_wp2_with (at_make; refine wpList_make_full _ rfl _ _ 24 rfl B 3 i0 (.int .i64 0) 1 Try.underlying24 hi hz0 hz1 .i64 .i64 _ _ 1 rfl rfl rfl rfl (by rw [hz2]; omega) (by unfold maxLen; omega) (by rw [HB.out]; simp) ?_; intro w2 hown hgrow; obtain ⟨HV2, OW, hsz, f0, g1, d0, d1, d2⟩ := made_facts HV1 hown hgrow (by omega); clear hown hgrow hi hz0 hz1 hz2)
  have OW2 : Hid (w2.ownsRow B 3 1 (.slice (some ⟨w.heap.size + 1, 0, none⟩) 1 1) 1 (ints (zerosL 1))) := Lib.hid (row_at (xs := [.int .i64 5, .int .i64 p, .int .i64 n]) OW.out rfl)
  have e1 : w2.cell? ⟨bx, ox, none⟩ = some (.int .i64 a) := (HV2.out.1.cell (p := ⟨bx, ox, none⟩) hbx).trans HX.out
  have e2 : w2.cell? ⟨by_, oy, none⟩ = some (.int .i64 b) := (HV2.out.1.cell (p := ⟨by_, oy, none⟩) hby).trans HY.out
  have hz : (w.alloc (.cells #[.int .i64 5, .int .i64 p, .int .i64 n] 31)).heap.size = w.heap.size + 1 := by simp
  have f1 := OW2.out.frozenAt 0
  have g2 : w2.cell? ⟨w.heap.size + 1, 0, none⟩ = some (.int .i64 0) := by rw [OW2.out.cellAt 0 (by omega)]; rfl
  clear OW f0 g1 hsz HV1 hz
  go_still_tail 9, (by kernel_rfl)
  change wpList _ _ _ _ _ w2.drew
  go_wp2
  go_ret
  exact store_one HB.out OW2.out HV2.out.1 (by simp)

end Go.Proofs.Ytgabcdploeledaa
