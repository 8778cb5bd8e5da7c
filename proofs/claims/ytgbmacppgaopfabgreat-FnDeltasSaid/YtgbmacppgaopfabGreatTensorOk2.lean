
/- spec.TensorOk. -/
import Derived.Test.YtgbmacppgaopfabGreatTensorOk
import Derived.Deep.DeepCutAuto
import Derived.Deep.CutRange
namespace Go.Proofs.YtgbmacppgaopfabGreat
set_option maxRecDepth 20000
open Go.RowKit

/-- A ring in block r, a tensor in block t. -/
abbrev ringTen (r t : Nat) (k p n : Int) (lv dv xv : Value) : List (Nat × Nat × Value) := [(r, 0, .int .i64 k), (r, 1, .int .i64 p), (r, 2, .int .i64 n), (t, 0, lv), (t, 1, dv), (t, 2, xv)]
theorem Held.swap3 {w0 w : World} {a b c d e f : Nat × Nat × Value} {S : List (Nat × Nat × Value)} (h : Held w0 w (a :: b :: c :: d :: e :: f :: S)) : Held w0 w (d :: e :: f :: a :: b :: c :: S) :=
  ⟨h.1, ⟨h.2.1.2.2.2.1, h.2.1.2.2.2.2.1, h.2.1.2.2.2.2.2.1, h.2.1.1, h.2.1.2.1, h.2.1.2.2.1, h.2.1.2.2.2.2.2.2⟩, fun x hx => h.2.2 x (by simp only [List.mem_cons] at hx ⊢; rcases hx with h | h | h | h | h | h | h <;> simp [h])⟩
theorem Held.ringTen (w : World) (k p n : Int) (lv dv xv : Value) (TR TT : TypeId) :
    Held w ((w.alloc (.cells #[.int .i64 k, .int .i64 p, .int .i64 n] TR)).alloc (.cells #[lv, dv, xv] TT)) (ringTen w.heap.size (w.heap.size + 1) k p n lv dv xv) := by
  have h := ((Held.refl w).box3 (.int .i64 k) (.int .i64 p) (.int .i64 n) TR).box3 lv dv xv TT
  simp only [World.size_alloc] at h
  exact h.swap3

theorem tensorB_ring {k p n : Int} {L D X : List Int} (h : ringB k p n = false) : tensorB k p n L D X = false := by simp [tensorB, h]
theorem tensorB_size {k p n : Int} {L D X : List Int} (h : sizeI L D < 0) : tensorB k p n L D X = false := by
  unfold tensorB
  rw [decide_eq_false (by omega : ¬ 0 ≤ sizeI L D)]
  simp
theorem tensorB_len {k p n : Int} {L D X : List Int} (h : (X.length : Int) ≠ sizeI L D * widthI k n) : tensorB k p n L D X = false := by
  unfold tensorB
  rw [decide_eq_false h]
  simp
theorem tensorB_yes {k p n : Int} {L D X : List Int} (h1 : ringB k p n = true) (h2 : 0 ≤ sizeI L D) (h3 : (X.length : Int) = sizeI L D * widthI k n) (h4 : Within (topI k p n) X) : tensorB k p n L D X = true := by
  unfold tensorB
  rw [h1, decide_eq_true h2, decide_eq_true h3, List.all_eq_true.2 (fun x hx => by simpa using h4 x hx)]
  rfl
theorem tensorB_inv {k p n : Int} {L D X : List Int} (h : tensorB k p n L D X = true) : ringB k p n = true ∧ 0 ≤ sizeI L D ∧ (X.length : Int) = sizeI L D * widthI k n ∧ Within (topI k p n) X := by
  unfold tensorB at h
  simp only [Bool.and_eq_true, decide_eq_true_eq, List.all_eq_true] at h
  exact ⟨h.1.1.1, h.1.1.2, h.1.2, fun x hx => h.2 x hx⟩

end Go.Proofs.YtgbmacppgaopfabGreat
