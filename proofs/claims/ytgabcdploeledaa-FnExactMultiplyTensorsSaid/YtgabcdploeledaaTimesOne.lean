
/- (Ring).times, by kinds. -/
import Derived.Test.YtgabcdploeledaaTimesPoly
import Derived.Test.YtgabcdploeledaaZero
namespace Go.Proofs.Ytgabcdploeledaa
set_option maxRecDepth 20000
open Go.RowKit

theorem new_one {w W : World} {v : Int} (hb : Below w.heap.size w W) : NewRow w [v] (.returned (.slice (some ⟨W.heap.size, 0, none⟩) 1 1)) (W.alloc (.cells #[.int .i64 v] 3)) :=
  ⟨_, rfl, Own.of (n := 1) (World.ownsRow_lit (base := w.heap.size) (e := 3) (size := 1) W #[.int .i64 v] 1 hb.size (by unfold maxLen; omega) rfl) rfl, hb.alloc hb.size _⟩

set_option maxHeartbeats 1600000 in
set_option maxRecDepth 100000 in
theorem times_k1 (bx ox by_ oy cx cy : Nat) (p n a b : Int) (w : World) (hbx : bx < w.heap.size) (hby : by_ < w.heap.size) (hx : w.cell? ⟨bx, ox, none⟩ = some (.int .i64 a)) (hy : w.cell? ⟨by_, oy, none⟩ = some (.int .i64 b))   :
    Calls Try.prog 65 #[ringV 1 p n, .slice (some ⟨bx, ox, none⟩) 1 cx, .slice (some ⟨by_, oy, none⟩) 1 cy] w (NewRow w [bits .and .i64 a b]) := by
  obtain ⟨c0, c1, c2⟩ := BoxAt.new w 1 p n 31
  have HB := Lib.hid (((Below.refl w.heap.size w).alloc (Nat.le_refl _) (.cells #[.int .i64 1, .int .i64 p, .int .i64 n] 31)).drew)
  have d1 : (w.alloc (.cells #[.int .i64 1, .int .i64 p, .int .i64 n] 31)).cell? ⟨bx, ox, none⟩ = some (.int .i64 a) := (HB.out.cell (p := ⟨bx, ox, none⟩) hbx).trans hx
  have d2 : (w.alloc (.cells #[.int .i64 1, .int .i64 p, .int .i64 n] 31)).cell? ⟨by_, oy, none⟩ = some (.int .i64 b) := (HB.out.cell (p := ⟨by_, oy, none⟩) hby).trans hy
  have hFACTS := (⟨c0, c1, c2, d1, d2⟩ : _ ∧ _ ∧ _ ∧ _ ∧ _)
  clear c0 c1 c2 d1 d2
  have HFA := Lib.hid hFACTS
  clear hFACTS
  go_enter Try.func65, Try.ntmps65
  go_wp2
  generalize hW : w.alloc (Obj.cells #[.int .i64 1, .int .i64 p, .int .i64 n] 31) = W at HB HFA ⊢
  obtain ⟨c0, c1, c2, d1, d2⟩ := HFA.out
  clear hW hx hy
  go_still_tail 7, (by kernel_rfl)
  change wpList _ _ _ _ _ W.drew
  generalize hw2 : W.drew = w2 at HB ⊢
  clear hw2 c0 c1 c2 d1 d2
  go_wp2
  go_ret
  exact new_one HB.out

set_option maxHeartbeats 1600000 in
set_option maxRecDepth 100000 in
theorem times_k6 (bx ox by_ oy cx cy : Nat) (p n a b : Int) (w : World) (hbx : bx < w.heap.size) (hby : by_ < w.heap.size) (hx : w.cell? ⟨bx, ox, none⟩ = some (.int .i64 a)) (hy : w.cell? ⟨by_, oy, none⟩ = some (.int .i64 b))   :
    Calls Try.prog 65 #[ringV 6 p n, .slice (some ⟨bx, ox, none⟩) 1 cx, .slice (some ⟨by_, oy, none⟩) 1 cy] w (NewRow w [bits .and .i64 a b]) := by
  obtain ⟨c0, c1, c2⟩ := BoxAt.new w 6 p n 31
  have HB := Lib.hid (((Below.refl w.heap.size w).alloc (Nat.le_refl _) (.cells #[.int .i64 6, .int .i64 p, .int .i64 n] 31)).drew)
  have d1 : (w.alloc (.cells #[.int .i64 6, .int .i64 p, .int .i64 n] 31)).cell? ⟨bx, ox, none⟩ = some (.int .i64 a) := (HB.out.cell (p := ⟨bx, ox, none⟩) hbx).trans hx
  have d2 : (w.alloc (.cells #[.int .i64 6, .int .i64 p, .int .i64 n] 31)).cell? ⟨by_, oy, none⟩ = some (.int .i64 b) := (HB.out.cell (p := ⟨by_, oy, none⟩) hby).trans hy
  have hFACTS := (⟨c0, c1, c2, d1, d2⟩ : _ ∧ _ ∧ _ ∧ _ ∧ _)
  clear c0 c1 c2 d1 d2
  have HFA := Lib.hid hFACTS
  clear hFACTS
  go_enter Try.func65, Try.ntmps65
  go_wp2
  generalize hW : w.alloc (Obj.cells #[.int .i64 6, .int .i64 p, .int .i64 n] 31) = W at HB HFA ⊢
  obtain ⟨c0, c1, c2, d1, d2⟩ := HFA.out
  clear hW hx hy
  go_still_tail 7, (by kernel_rfl)
  change wpList _ _ _ _ _ W.drew
  generalize hw2 : W.drew = w2 at HB ⊢
  clear hw2 c0 c1 c2 d1 d2
  go_wp2
  go_ret
  exact new_one HB.out

set_option maxHeartbeats 1600000 in
set_option maxRecDepth 100000 in
theorem times_k3a (bx ox by_ oy cx cy : Nat) (p n a b : Int) (w : World) (hbx : bx < w.heap.size) (hby : by_ < w.heap.size) (hx : w.cell? ⟨bx, ox, none⟩ = some (.int .i64 a)) (hy : w.cell? ⟨by_, oy, none⟩ = some (.int .i64 b)) (ha : 0 ≤ a) (ha2 : a ≤ 1048576) (hb : 0 ≤ b) (hb2 : b ≤ 1048576) (ab : Int) (hab : a * b = ab) (hc : p < ab) :
    Calls Try.prog 65 #[ringV 3 p n, .slice (some ⟨bx, ox, none⟩) 1 cx, .slice (some ⟨by_, oy, none⟩) 1 cy] w (NewRow w [p]) := by
  obtain ⟨c0, c1, c2⟩ := BoxAt.new w 3 p n 31
  have HB := Lib.hid (((Below.refl w.heap.size w).alloc (Nat.le_refl _) (.cells #[.int .i64 3, .int .i64 p, .int .i64 n] 31)).drew)
  have d1 : (w.alloc (.cells #[.int .i64 3, .int .i64 p, .int .i64 n] 31)).cell? ⟨bx, ox, none⟩ = some (.int .i64 a) := (HB.out.cell (p := ⟨bx, ox, none⟩) hbx).trans hx
  have d2 : (w.alloc (.cells #[.int .i64 3, .int .i64 p, .int .i64 n] 31)).cell? ⟨by_, oy, none⟩ = some (.int .i64 b) := (HB.out.cell (p := ⟨by_, oy, none⟩) hby).trans hy
  have hbd : 0 ≤ ab ∧ ab ≤ 1099511627776 := by rw [← hab]; exact mul_small ha ha2 hb hb2
  have hmul : IntKind.i64.wrap (a * b) = ab := by rw [hab]; exact IntWalk.i64_in _ (by omega)
  have hd : decide (p < ab) = true := by simp; omega
  clear hab
  have hFACTS := (⟨c0, c1, c2, d1, d2⟩ : _ ∧ _ ∧ _ ∧ _ ∧ _)
  clear c0 c1 c2 d1 d2
  have HFA := Lib.hid hFACTS
  clear hFACTS
  go_enter Try.func65, Try.ntmps65
  go_wp2
  generalize hW : w.alloc (Obj.cells #[.int .i64 3, .int .i64 p, .int .i64 n] 31) = W at HB HFA ⊢
  obtain ⟨c0, c1, c2, d1, d2⟩ := HFA.out
  clear hW hx hy
  go_still_tail 10, (by kernel_rfl)
  change wpList _ _ _ _ _ W.drew
  generalize hw2 : W.drew = w2 at HB ⊢
  clear hw2 c0 c1 c2 d1 d2
  go_wp2
  go_ret
  exact new_one HB.out

set_option maxHeartbeats 1600000 in
set_option maxRecDepth 100000 in
theorem times_k3b (bx ox by_ oy cx cy : Nat) (p n a b : Int) (w : World) (hbx : bx < w.heap.size) (hby : by_ < w.heap.size) (hx : w.cell? ⟨bx, ox, none⟩ = some (.int .i64 a)) (hy : w.cell? ⟨by_, oy, none⟩ = some (.int .i64 b)) (ha : 0 ≤ a) (ha2 : a ≤ 1048576) (hb : 0 ≤ b) (hb2 : b ≤ 1048576) (ab : Int) (hab : a * b = ab) (hc : ab ≤ p) :
    Calls Try.prog 65 #[ringV 3 p n, .slice (some ⟨bx, ox, none⟩) 1 cx, .slice (some ⟨by_, oy, none⟩) 1 cy] w (NewRow w [ab]) := by
  obtain ⟨c0, c1, c2⟩ := BoxAt.new w 3 p n 31
  have HB := Lib.hid (((Below.refl w.heap.size w).alloc (Nat.le_refl _) (.cells #[.int .i64 3, .int .i64 p, .int .i64 n] 31)).drew)
  have d1 : (w.alloc (.cells #[.int .i64 3, .int .i64 p, .int .i64 n] 31)).cell? ⟨bx, ox, none⟩ = some (.int .i64 a) := (HB.out.cell (p := ⟨bx, ox, none⟩) hbx).trans hx
  have d2 : (w.alloc (.cells #[.int .i64 3, .int .i64 p, .int .i64 n] 31)).cell? ⟨by_, oy, none⟩ = some (.int .i64 b) := (HB.out.cell (p := ⟨by_, oy, none⟩) hby).trans hy
  have hbd : 0 ≤ ab ∧ ab ≤ 1099511627776 := by rw [← hab]; exact mul_small ha ha2 hb hb2
  have hmul : IntKind.i64.wrap (a * b) = ab := by rw [hab]; exact IntWalk.i64_in _ (by omega)
  have hd : decide (p < ab) = false := by simp; omega
  clear hab
  have hFACTS := (⟨c0, c1, c2, d1, d2⟩ : _ ∧ _ ∧ _ ∧ _ ∧ _)
  clear c0 c1 c2 d1 d2
  have HFA := Lib.hid hFACTS
  clear hFACTS
  go_enter Try.func65, Try.ntmps65
  go_wp2
  generalize hW : w.alloc (Obj.cells #[.int .i64 3, .int .i64 p, .int .i64 n] 31) = W at HB HFA ⊢
  obtain ⟨c0, c1, c2, d1, d2⟩ := HFA.out
  clear hW hx hy
  go_still_tail 10, (by kernel_rfl)
  change wpList _ _ _ _ _ W.drew
  generalize hw2 : W.drew = w2 at HB ⊢
  clear hw2 c0 c1 c2 d1 d2
  go_wp2
  go_ret
  exact new_one HB.out

set_option maxHeartbeats 1600000 in
set_option maxRecDepth 100000 in
theorem times_k4a (bx ox by_ oy cx cy : Nat) (p n a b : Int) (w : World) (hbx : bx < w.heap.size) (hby : by_ < w.heap.size) (hx : w.cell? ⟨bx, ox, none⟩ = some (.int .i64 a)) (hy : w.cell? ⟨by_, oy, none⟩ = some (.int .i64 b)) (ha : 0 ≤ a) (ha2 : a ≤ 1048576) (hb : 0 ≤ b) (hb2 : b ≤ 1048576) (hc : p < a + b) :
    Calls Try.prog 65 #[ringV 4 p n, .slice (some ⟨bx, ox, none⟩) 1 cx, .slice (some ⟨by_, oy, none⟩) 1 cy] w (NewRow w [p]) := by
  obtain ⟨c0, c1, c2⟩ := BoxAt.new w 4 p n 31
  have HB := Lib.hid (((Below.refl w.heap.size w).alloc (Nat.le_refl _) (.cells #[.int .i64 4, .int .i64 p, .int .i64 n] 31)).drew)
  have d1 : (w.alloc (.cells #[.int .i64 4, .int .i64 p, .int .i64 n] 31)).cell? ⟨bx, ox, none⟩ = some (.int .i64 a) := (HB.out.cell (p := ⟨bx, ox, none⟩) hbx).trans hx
  have d2 : (w.alloc (.cells #[.int .i64 4, .int .i64 p, .int .i64 n] 31)).cell? ⟨by_, oy, none⟩ = some (.int .i64 b) := (HB.out.cell (p := ⟨by_, oy, none⟩) hby).trans hy
  have hw : IntKind.i64.wrap (a + b) = a + b := IntWalk.i64_in _ (by omega)
  have hd : decide (p < a + b) = true := by simp; omega
  have hFACTS := (⟨c0, c1, c2, d1, d2⟩ : _ ∧ _ ∧ _ ∧ _ ∧ _)
  clear c0 c1 c2 d1 d2
  have HFA := Lib.hid hFACTS
  clear hFACTS
  go_enter Try.func65, Try.ntmps65
  go_wp2
  generalize hW : w.alloc (Obj.cells #[.int .i64 4, .int .i64 p, .int .i64 n] 31) = W at HB HFA ⊢
  obtain ⟨c0, c1, c2, d1, d2⟩ := HFA.out
  clear hW hx hy
  go_still_tail 10, (by kernel_rfl)
  change wpList _ _ _ _ _ W.drew
  generalize hw2 : W.drew = w2 at HB ⊢
  clear hw2 c0 c1 c2 d1 d2
  go_wp2
  go_ret
  exact new_one HB.out

set_option maxHeartbeats 1600000 in
set_option maxRecDepth 100000 in
theorem times_k4b (bx ox by_ oy cx cy : Nat) (p n a b : Int) (w : World) (hbx : bx < w.heap.size) (hby : by_ < w.heap.size) (hx : w.cell? ⟨bx, ox, none⟩ = some (.int .i64 a)) (hy : w.cell? ⟨by_, oy, none⟩ = some (.int .i64 b)) (ha : 0 ≤ a) (ha2 : a ≤ 1048576) (hb : 0 ≤ b) (hb2 : b ≤ 1048576) (hc : a + b ≤ p) :
    Calls Try.prog 65 #[ringV 4 p n, .slice (some ⟨bx, ox, none⟩) 1 cx, .slice (some ⟨by_, oy, none⟩) 1 cy] w (NewRow w [a + b]) := by
  obtain ⟨c0, c1, c2⟩ := BoxAt.new w 4 p n 31
  have HB := Lib.hid (((Below.refl w.heap.size w).alloc (Nat.le_refl _) (.cells #[.int .i64 4, .int .i64 p, .int .i64 n] 31)).drew)
  have d1 : (w.alloc (.cells #[.int .i64 4, .int .i64 p, .int .i64 n] 31)).cell? ⟨bx, ox, none⟩ = some (.int .i64 a) := (HB.out.cell (p := ⟨bx, ox, none⟩) hbx).trans hx
  have d2 : (w.alloc (.cells #[.int .i64 4, .int .i64 p, .int .i64 n] 31)).cell? ⟨by_, oy, none⟩ = some (.int .i64 b) := (HB.out.cell (p := ⟨by_, oy, none⟩) hby).trans hy
  have hw : IntKind.i64.wrap (a + b) = a + b := IntWalk.i64_in _ (by omega)
  have hd : decide (p < a + b) = false := by simp; omega
  have hFACTS := (⟨c0, c1, c2, d1, d2⟩ : _ ∧ _ ∧ _ ∧ _ ∧ _)
  clear c0 c1 c2 d1 d2
  have HFA := Lib.hid hFACTS
  clear hFACTS
  go_enter Try.func65, Try.ntmps65
  go_wp2
  generalize hW : w.alloc (Obj.cells #[.int .i64 4, .int .i64 p, .int .i64 n] 31) = W at HB HFA ⊢
  obtain ⟨c0, c1, c2, d1, d2⟩ := HFA.out
  clear hW hx hy
  go_still_tail 10, (by kernel_rfl)
  change wpList _ _ _ _ _ W.drew
  generalize hw2 : W.drew = w2 at HB ⊢
  clear hw2 c0 c1 c2 d1 d2
  go_wp2
  go_ret
  exact new_one HB.out

set_option maxHeartbeats 1600000 in
set_option maxRecDepth 100000 in
theorem times_k5a (bx ox by_ oy cx cy : Nat) (p n a b : Int) (w : World) (hbx : bx < w.heap.size) (hby : by_ < w.heap.size) (hx : w.cell? ⟨bx, ox, none⟩ = some (.int .i64 a)) (hy : w.cell? ⟨by_, oy, none⟩ = some (.int .i64 b))  (hc : b < a) :
    Calls Try.prog 65 #[ringV 5 p n, .slice (some ⟨bx, ox, none⟩) 1 cx, .slice (some ⟨by_, oy, none⟩) 1 cy] w (NewRow w [b]) := by
  obtain ⟨c0, c1, c2⟩ := BoxAt.new w 5 p n 31
  have HB := Lib.hid (((Below.refl w.heap.size w).alloc (Nat.le_refl _) (.cells #[.int .i64 5, .int .i64 p, .int .i64 n] 31)).drew)
  have d1 : (w.alloc (.cells #[.int .i64 5, .int .i64 p, .int .i64 n] 31)).cell? ⟨bx, ox, none⟩ = some (.int .i64 a) := (HB.out.cell (p := ⟨bx, ox, none⟩) hbx).trans hx
  have d2 : (w.alloc (.cells #[.int .i64 5, .int .i64 p, .int .i64 n] 31)).cell? ⟨by_, oy, none⟩ = some (.int .i64 b) := (HB.out.cell (p := ⟨by_, oy, none⟩) hby).trans hy
  have hd : decide (b < a) = true := by simp; omega
  have hFACTS := (⟨c0, c1, c2, d1, d2⟩ : _ ∧ _ ∧ _ ∧ _ ∧ _)
  clear c0 c1 c2 d1 d2
  have HFA := Lib.hid hFACTS
  clear hFACTS
  go_enter Try.func65, Try.ntmps65
  go_wp2
  generalize hW : w.alloc (Obj.cells #[.int .i64 5, .int .i64 p, .int .i64 n] 31) = W at HB HFA ⊢
  obtain ⟨c0, c1, c2, d1, d2⟩ := HFA.out
  clear hW hx hy
  go_still_tail 7, (by kernel_rfl)
  change wpList _ _ _ _ _ W.drew
  generalize hw2 : W.drew = w2 at HB ⊢
  clear hw2 c0 c1 c2 d1 d2
  go_wp2
  go_ret
  exact new_one HB.out

set_option maxHeartbeats 1600000 in
set_option maxRecDepth 100000 in
theorem times_k5b (bx ox by_ oy cx cy : Nat) (p n a b : Int) (w : World) (hbx : bx < w.heap.size) (hby : by_ < w.heap.size) (hx : w.cell? ⟨bx, ox, none⟩ = some (.int .i64 a)) (hy : w.cell? ⟨by_, oy, none⟩ = some (.int .i64 b))  (hc : a ≤ b) :
    Calls Try.prog 65 #[ringV 5 p n, .slice (some ⟨bx, ox, none⟩) 1 cx, .slice (some ⟨by_, oy, none⟩) 1 cy] w (NewRow w [a]) := by
  obtain ⟨c0, c1, c2⟩ := BoxAt.new w 5 p n 31
  have HB := Lib.hid (((Below.refl w.heap.size w).alloc (Nat.le_refl _) (.cells #[.int .i64 5, .int .i64 p, .int .i64 n] 31)).drew)
  have d1 : (w.alloc (.cells #[.int .i64 5, .int .i64 p, .int .i64 n] 31)).cell? ⟨bx, ox, none⟩ = some (.int .i64 a) := (HB.out.cell (p := ⟨bx, ox, none⟩) hbx).trans hx
  have d2 : (w.alloc (.cells #[.int .i64 5, .int .i64 p, .int .i64 n] 31)).cell? ⟨by_, oy, none⟩ = some (.int .i64 b) := (HB.out.cell (p := ⟨by_, oy, none⟩) hby).trans hy
  have hd : decide (b < a) = false := by simp; omega
  have hFACTS := (⟨c0, c1, c2, d1, d2⟩ : _ ∧ _ ∧ _ ∧ _ ∧ _)
  clear c0 c1 c2 d1 d2
  have HFA := Lib.hid hFACTS
  clear hFACTS
  go_enter Try.func65, Try.ntmps65
  go_wp2
  generalize hW : w.alloc (Obj.cells #[.int .i64 5, .int .i64 p, .int .i64 n] 31) = W at HB HFA ⊢
  obtain ⟨c0, c1, c2, d1, d2⟩ := HFA.out
  clear hW hx hy
  go_still_tail 7, (by kernel_rfl)
  change wpList _ _ _ _ _ W.drew
  generalize hw2 : W.drew = w2 at HB ⊢
  clear hw2 c0 c1 c2 d1 d2
  go_wp2
  go_ret
  exact new_one HB.out

/-- (Ring).times on elements. -/
theorem times_impl_poly {B : Nat} {vx vy : Value} {k p n : Int} {xs ys : List Int} {w : World} (hr : ringB k p n = true) (hx : Rd B w vx (ints xs)) (hy : Rd B w vy (ints ys)) (hB : B ≤ w.heap.size) (ex : ElemV k p n xs) (ey : ElemV k p n ys) (hk : k = 2 ∨ k = 7 ∨ k = 8) :
    Calls Try.prog 125 #[ringV k p n, vx, vy] w (NewRow w (timesL k p xs ys)) := by
  have h1 := ring_width hr
  have h2 := ring_top hr
  have l1 := ex.1
  have l2 := ey.1
  have hl : ys.length = xs.length := by omega
  have hp := ring_cases hr
  have q1 : 1 ≤ xs.length := by omega
  have q2 : xs.length ≤ 6 := by omega
  have q3 : 1 ≤ p := by omega
  have q4 : p ≤ 1000003 := by omega
  have q5 : Within 1048576 xs := fun x hx => by have := ex.2 x hx; omega
  have q6 : Within 1048576 ys := fun x hx => by have := ey.2 x hx; omega
  have e : timesL k p xs ys = (List.range xs.length).map fun c => convC xs.length (k == 8) (fun i => xs.getD i 0) (fun i => ys.getD i 0) c % p := by
    unfold timesL
    rw [if_neg (by omega), if_neg (by omega), if_neg (by omega), if_neg (by omega)]
  rw [e]
  obtain ⟨ax, cx, rfl, hax⟩ := ints_form hx
  obtain ⟨ay, cy, rfl, hay⟩ := ints_form hy
  rw [hl]
  exact poly_impl_full ax ay cx cy xs.length B k p n xs ys w rfl hl q1 q2 hB q5 q6 (k == 8) rfl q3 q4 hax (fun h => hay (hl ▸ h))
set_option maxHeartbeats 400000 in
theorem times_impl_high {B : Nat} {vx vy : Value} {k p n : Int} {xs ys : List Int} {w : World} (hr : ringB k p n = true) (hx : Rd B w vx (ints xs)) (hy : Rd B w vy (ints ys)) (hB : B ≤ w.heap.size) (ex : ElemV k p n xs) (ey : ElemV k p n ys) (hk : k = 2 ∨ k = 7 ∨ k = 8) :
    Calls Try.prog 65 #[ringV k p n, vx, vy] w (NewRow w (timesL k p xs ys)) := by
  have HX := Lib.hid hx
  have HY := Lib.hid hy
  have HR := Lib.hid hr
  have EX := Lib.hid ex
  have EY := Lib.hid ey
  have HK := Lib.hid hk
  obtain ⟨r, hres⟩ : ∃ r, r = timesL k p xs ys := ⟨_, rfl⟩
  rw [← hres]
  have HE := Lib.hid hres
  have e1 : (k == 1) = false := by simp; omega
  have e3 : (k == 3) = false := by simp; omega
  have e4 : (k == 4) = false := by simp; omega
  have e5 : (k == 5) = false := by simp; omega
  have e6 : (k == 6) = false := by simp; omega
  have HV1 := Lib.hid (Inv.box w k p n 31)
  clear hx hy hr ex ey hk hres
  go_enter Try.func65, Try.ntmps65
  go_wp2_with fail
  refine (times_impl_poly HR.out (HX.out.below HV1.out.1 hB) (HY.out.below HV1.out.1 hB) (Nat.le_trans hB HV1.out.1.size) EX.out EY.out HK.out).mono ?_
  rw [← HE.out]
  intro e w2 h2
  obtain ⟨v, rfl, ho, hb⟩ := NewRow.after HV1.out.1 h2
  clear h2
  have HO := Lib.hid ho
  have HB := Lib.hid hb
  clear ho hb
  go_wp2
  go_ret
  exact ⟨v, rfl, HO.out, HB.out⟩
theorem rd_one {B : Nat} {w : World} {v : Value} {xs : List Int} (h : Rd B w v (ints xs)) (hl : xs.length = 1) (hB : B ≤ w.heap.size) : ∃ b o c, v = .slice (some ⟨b, o, none⟩) 1 c ∧ b < w.heap.size ∧ w.cell? ⟨b, o, none⟩ = some (.int .i64 (xs.getD 0 0)) := by
  rcases h.ints_cases with ⟨rfl, _⟩ | ⟨b, off, ca, rfl, hlt, -, hc⟩
  · simp at hl
  · have h0 : 0 < xs.length := by rw [hl]; exact Nat.zero_lt_one
    exact ⟨b, off, ca, by rw [hl], Nat.lt_of_lt_of_le hlt hB, by have := hc 0 h0; rw [List.getD_eq_getElem?_getD, List.getElem?_eq_getElem h0]; simpa using this⟩
/-- (Ring).times on elements. -/
theorem times_impl {B : Nat} {vx vy : Value} {k p n : Int} {xs ys : List Int} {w : World} (hr : ringB k p n = true) (hx : Rd B w vx (ints xs)) (hy : Rd B w vy (ints ys)) (hB : B ≤ w.heap.size) (ex : ElemV k p n xs) (ey : ElemV k p n ys) :
    Calls Try.prog 65 #[ringV k p n, vx, vy] w (NewRow w (timesL k p xs ys)) := by
  by_cases hk : k = 2 ∨ k = 7 ∨ k = 8
  · exact times_impl_high hr hx hy hB ex ey hk
  have h2 := ring_top hr
  have hc := ring_cases hr
  have hwd : widthI k n = 1 := by unfold widthI; rw [if_neg (by omega), if_neg (by omega)]
  have l1 := ex.1
  have l2 := ey.1
  have q1 : xs.length = 1 := by omega
  have q2 : ys.length = 1 := by omega
  obtain ⟨bx, ox, cx, rfl, hbx, hcx⟩ := rd_one hx q1 hB
  obtain ⟨by_, oy, cy, rfl, hby, hcy⟩ := rd_one hy q2 hB
  have g1 := ex.2.getD (by omega) 0
  have g2 := ey.2.getD (by omega) 0
  generalize hga : xs.getD 0 0 = a at *
  generalize hgb : ys.getD 0 0 = b at *
  unfold timesL
  rw [hga, hgb]
  rcases hc with ⟨rfl, g⟩ | ⟨rfl, g⟩ | ⟨rfl, g⟩ | ⟨rfl, g⟩ | ⟨rfl, g⟩ | ⟨rfl, g⟩ | ⟨rfl, g⟩ | ⟨rfl, g⟩
  · exact times_k1 bx ox by_ oy cx cy p n a b w hbx hby hcx hcy
  · exact absurd (.inl rfl) hk
  · rw [if_neg (by omega), if_pos rfl]
    by_cases hq : p < a * b
    · rw [show min (a * b) p = p from by omega]
      exact times_k3a bx ox by_ oy cx cy p n a b w hbx hby hcx hcy g1.1 (by omega) g2.1 (by omega) (a * b) rfl hq
    · rw [show min (a * b) p = a * b from by omega]
      exact times_k3b bx ox by_ oy cx cy p n a b w hbx hby hcx hcy g1.1 (by omega) g2.1 (by omega) (a * b) rfl (by omega)
  · rw [if_neg (by omega), if_neg (by omega), if_pos rfl]
    by_cases hq : p < a + b
    · rw [show min (a + b) p = p from by omega]
      exact times_k4a bx ox by_ oy cx cy p n a b w hbx hby hcx hcy g1.1 (by omega) g2.1 (by omega) hq
    · rw [show min (a + b) p = a + b from by omega]
      exact times_k4b bx ox by_ oy cx cy p n a b w hbx hby hcx hcy g1.1 (by omega) g2.1 (by omega) (by omega)
  · rw [if_neg (by omega), if_neg (by omega), if_neg (by omega), if_pos rfl]
    by_cases hq : b < a
    · rw [show min a b = b from by omega]
      exact times_k5a bx ox by_ oy cx cy p n a b w hbx hby hcx hcy hq
    · rw [show min a b = a from by omega]
      exact times_k5b bx ox by_ oy cx cy p n a b w hbx hby hcx hcy (by omega)
  · exact times_k6 bx ox by_ oy cx cy p n a b w hbx hby hcx hcy
  · exact absurd (.inr (.inl rfl)) hk
  · exact absurd (.inr (.inr rfl)) hk

end Go.Proofs.Ytgabcdploeledaa
