
/- Tensors element by element: the mathematics. -/
import Derived.Test.YtgabcdploeledaaPermMath
namespace Go.Proofs.Ytgabcdploeledaa
set_option maxRecDepth 20000
open Go.RowKit

/-- The elements f 0, .., f (N - 1), one after the other. -/
def gatherL (f : Nat → List Int) (N : Nat) : List Int := (List.range N).flatMap f
theorem gather_zero (f : Nat → List Int) : gatherL f 0 = [] := rfl
theorem gather_succ (f : Nat → List Int) (N : Nat) : gatherL f (N + 1) = gatherL f N ++ f N := by simp [gatherL, List.range_succ]
theorem gather_len {f : Nat → List Int} {wd : Nat} : ∀ N, (∀ i, i < N → (f i).length = wd) → (gatherL f N).length = N * wd := by
  intro N
  induction N with
  | zero => intro _; simp [gatherL]
  | succ N ih =>
    intro h
    rw [gather_succ, List.length_append, ih (fun i hi => h i (by omega)), h N (by omega), Nat.add_mul, Nat.one_mul]
theorem gather_get {f : Nat → List Int} {wd : Nat} {N i : Nat} (h : ∀ j, j < N → (f j).length = wd) (hi : i < N) : getL wd (gatherL f N) i = f i := by
  induction N with
  | zero => omega
  | succ N ih =>
    have hl := gather_len N (fun j hj => h j (by omega))
    rw [gather_succ]
    unfold getL
    by_cases e : i = N
    · subst e
      rw [List.drop_append_of_le_length (by omega), List.drop_of_length_le (by omega), List.nil_append]
      exact List.take_of_length_le (by rw [h i (by omega)]; exact Nat.le_refl _)
    · have h1 : i * wd + wd ≤ N * wd := by
        have := Nat.mul_le_mul_right wd (show i + 1 ≤ N by omega)
        rwa [Nat.add_mul, Nat.one_mul] at this
      have h2 := ih (fun j hj => h j (by omega)) (by omega)
      unfold getL at h2
      rw [List.drop_append_of_le_length (by omega), List.take_append_of_le_length (by rw [List.length_drop]; omega)]
      exact h2
theorem gather_congr {f g : Nat → List Int} {N : Nat} (h : ∀ i, i < N → f i = g i) : gatherL f N = gatherL g N := by
  induction N with
  | zero => rfl
  | succ N ih => rw [gather_succ, gather_succ, ih (fun i hi => h i (by omega)), h N (by omega)]
/-- The whole data is the elements, one after the other. -/
theorem gather_self {X : List Int} {wd N : Nat} (h : X.length = N * wd) : gatherL (getL wd X) N = X := by
  have key : ∀ n, n ≤ N → gatherL (getL wd X) n = X.take (n * wd) := by
    intro n
    induction n with
    | zero => intro _; simp [gatherL]
    | succ n ih =>
      intro hn
      rw [gather_succ, ih (by omega), Nat.add_mul, Nat.one_mul]
      unfold getL
      rw [List.take_add]
  rw [key N (Nat.le_refl _), List.take_of_length_le (by omega)]
/-- Under way: the first i elements are written over X. -/
def overL (f : Nat → List Int) (X : List Int) (wd i : Nat) : List Int := gatherL f i ++ X.drop (i * wd)
theorem over_zero (f : Nat → List Int) (X : List Int) (wd : Nat) : overL f X wd 0 = X := by simp [overL, gatherL]
theorem over_full {f : Nat → List Int} {X : List Int} {wd N : Nat} (h : X.length = N * wd) : overL f X wd N = gatherL f N := by
  unfold overL
  rw [List.drop_of_length_le (by omega), List.append_nil]
theorem over_len {f : Nat → List Int} {X : List Int} {wd N i : Nat} (hf : ∀ j, j < N → (f j).length = wd) (hX : X.length = N * wd) (hi : i ≤ N) : (overL f X wd i).length = N * wd := by
  unfold overL
  rw [List.length_append, gather_len i (fun j hj => hf j (by omega)), List.length_drop, hX]
  have := Nat.mul_le_mul_right wd hi
  omega
theorem over_put {f : Nat → List Int} {X : List Int} {wd N i : Nat} (hf : ∀ j, j < N → (f j).length = wd) (hi : i < N) : putL (overL f X wd i) (i * wd) (f i) = overL f X wd (i + 1) := by
  have hl := gather_len i (fun j hj => hf j (by omega))
  unfold putL overL
  rw [gather_succ, List.take_append_of_le_length (by omega), List.take_of_length_le (by omega), hf i hi, List.drop_append, hl, List.drop_of_length_le (by omega), List.nil_append, List.drop_drop]
  congr 2
  rw [Nat.add_mul, Nat.one_mul]
  omega
end Go.Proofs.Ytgabcdploeledaa
