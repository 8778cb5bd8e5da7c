
/- Tensors as plain mathematics: axes, sizes, indices, offsets, elements. -/
import Derived.Test.YtlmhnlepdfdceaaRing
namespace Go.Proofs.Ytlmhnlepdfdceaa
set_option maxRecDepth 20000
open Go

/-- The place of a number in a list, or -1. -/
def findI (l : List Int) (n : Int) : Int := if n ∈ l then (l.idxOf n : Int) else -1
theorem findI_neg {l : List Int} {n : Int} : findI l n < 0 ↔ n ∉ l := by
  unfold findI
  split <;> rename_i h
  · simp [h]
  · simp [h]
theorem findI_at {l : List Int} {n : Int} : ∀ {j : Nat}, l[j]? = some n → n ∉ l.take j → findI l n = j := by
  intro j hj hno
  have hm : n ∈ l := List.mem_of_getElem? hj
  unfold findI
  rw [if_pos hm]
  congr 1
  induction l generalizing j with
  | nil => simp at hj
  | cons x r ih =>
    cases j with
    | zero => simp at hj; subst hj; simp
    | succ j =>
      simp only [List.take_succ_cons, List.mem_cons, not_or] at hno
      rw [List.getElem?_cons_succ] at hj
      have hx : (x == n) = false := by rw [beq_eq_false_iff_ne]; exact fun e => hno.1 e.symm
      rw [List.idxOf_cons, hx, cond_false, ih hj hno.2 (List.mem_of_getElem? hj)]
/-- Labels and dimensions are as the axes of a tensor. -/
def AxesV (L D : List Int) : Prop := L.length ≤ 12 ∧ L.length = D.length ∧ (∀ x ∈ L, 0 ≤ x ∧ x ≤ 99) ∧ (∀ d ∈ D, 1 ≤ d ∧ d ≤ 8) ∧ L.Nodup
open Classical in
noncomputable def axesB (L D : List Int) : Bool := decide (AxesV L D)
open Classical in
theorem axesB_true {L D : List Int} : axesB L D = true ↔ AxesV L D := decide_eq_true_iff
theorem axesB_false {L D : List Int} (h : ¬ AxesV L D) : axesB L D = false := by
  cases hb : axesB L D with
  | false => rfl
  | true => exact absurd (axesB_true.1 hb) h
/-- The product of dimensions. -/
def prodL (D : List Int) : Int := D.foldl (fun n d => n * d) 1
theorem prodL_snoc (D : List Int) (d : Int) : prodL (D ++ [d]) = prodL D * d := by simp [prodL, List.foldl_append]
theorem foldl_mul (D : List Int) : ∀ a : Int, D.foldl (fun n d => n * d) a = a * prodL D := by
  induction D with
  | nil => intro a; simp [prodL]
  | cons d r ih =>
    intro a
    have e : prodL (d :: r) = d * prodL r := by
      show r.foldl (fun n d => n * d) (1 * d) = _
      rw [ih, Int.one_mul]
    rw [e]
    show r.foldl (fun n d => n * d) (a * d) = _
    rw [ih, Int.mul_assoc]
theorem prodL_cons (d : Int) (r : List Int) : prodL (d :: r) = d * prodL r := by
  show r.foldl (fun n d => n * d) (1 * d) = _
  rw [foldl_mul, Int.one_mul]
theorem prodL_nil : prodL [] = 1 := rfl
theorem prodL_app (A B : List Int) : prodL (A ++ B) = prodL A * prodL B := by
  show (A ++ B).foldl (fun n d => n * d) 1 = _
  rw [List.foldl_append, foldl_mul]
  rfl
theorem prodL_pos {D : List Int} (h : ∀ d ∈ D, 1 ≤ d) : 1 ≤ prodL D := by
  induction D with
  | nil => rw [prodL_nil]; omega
  | cons d r ih =>
    rw [prodL_cons]
    have h1 := h d (by simp)
    have h2 := ih (fun x hx => h x (by simp [hx]))
    exact Int.le_trans (by omega) (Int.mul_le_mul h1 h2 (by omega) (by omega))
theorem prodL_le_app {A B : List Int} (h : ∀ d ∈ A ++ B, 1 ≤ d) : prodL A ≤ prodL (A ++ B) := by
  rw [prodL_app]
  have h1 := prodL_pos (D := A) (fun d hd => h d (by simp [hd]))
  have h2 := prodL_pos (D := B) (fun d hd => h d (by simp [hd]))
  have := Int.mul_le_mul_of_nonneg_left h2 (by omega : 0 ≤ prodL A)
  omega
theorem prodL_take_le {D : List Int} (h : ∀ d ∈ D, 1 ≤ d) (j : Nat) : prodL (D.take j) ≤ prodL D := by
  have e := List.take_append_drop j D
  have h1 := prodL_le_app (A := D.take j) (B := D.drop j) (by rw [e]; exact h)
  rw [e] at h1
  exact h1
theorem prodL_drop_le {D : List Int} (h : ∀ d ∈ D, 1 ≤ d) (j : Nat) : prodL (D.drop j) ≤ prodL D := by
  have e := List.take_append_drop j D
  have h1 := prodL_pos (D := D.take j) (fun d hd => h d (List.mem_of_mem_take hd))
  have h2 := prodL_pos (D := D.drop j) (fun d hd => h d (List.mem_of_mem_drop hd))
  have h3 : prodL D = prodL (D.take j) * prodL (D.drop j) := by rw [← prodL_app, e]
  rw [h3]
  have := Int.mul_le_mul_of_nonneg_right h1 (by omega : 0 ≤ prodL (D.drop j))
  omega
/-- The product, capped at 4097. -/
def capI (D : List Int) : Int := D.foldl (fun n d => min (n * d) 4097) 1
theorem capI_snoc (D : List Int) (d : Int) : capI (D ++ [d]) = min (capI D * d) 4097 := by simp [capI, List.foldl_append]
theorem cap_fold {D : List Int} (h : ∀ d ∈ D, 1 ≤ d) : ∀ a : Int, 1 ≤ a → a ≤ 4097 → D.foldl (fun n d => min (n * d) 4097) a = min (a * prodL D) 4097 := by
  induction D with
  | nil => intro a h1 h2; rw [prodL_nil, Int.mul_one]; show a = _; omega
  | cons d r ih =>
    intro a h1 h2
    have hd := h d (by simp)
    have hp := prodL_pos (D := r) (fun x hx => h x (by simp [hx]))
    have e1 : a ≤ a * d := by
      have := Int.mul_le_mul_of_nonneg_left hd (by omega : 0 ≤ a)
      omega
    show r.foldl (fun n d => min (n * d) 4097) (min (a * d) 4097) = _
    rw [ih (fun x hx => h x (by simp [hx])) _ (by omega) (by omega), prodL_cons, ← Int.mul_assoc]
    by_cases hc : a * d ≤ 4097
    · rw [show min (a * d) 4097 = a * d by omega]
    · rw [show min (a * d) 4097 = 4097 by omega]
      have e2 : 4097 ≤ 4097 * prodL r := by
        have := Int.mul_le_mul_of_nonneg_left hp (by omega : (0 : Int) ≤ 4097)
        omega
      have e3 : a * d ≤ a * d * prodL r := by
        have := Int.mul_le_mul_of_nonneg_left hp (by omega : 0 ≤ a * d)
        omega
      omega
theorem capI_is {D : List Int} (h : ∀ d ∈ D, 1 ≤ d) : capI D = min (prodL D) 4097 ∧ 1 ≤ capI D ∧ capI D ≤ 4097 := by
  have e : capI D = min (1 * prodL D) 4097 := cap_fold h 1 (by omega) (by omega)
  have hp := prodL_pos h
  rw [Int.one_mul] at e
  omega
/-- TensorSize. -/
noncomputable def sizeI (L D : List Int) : Int := if axesB L D = true ∧ prodL D ≤ 4096 then prodL D else -1
theorem sizeI_cases (L D : List Int) : (sizeI L D = -1 ∧ ¬ (axesB L D = true ∧ prodL D ≤ 4096)) ∨ (sizeI L D = prodL D ∧ AxesV L D ∧ 1 ≤ prodL D ∧ prodL D ≤ 4096) := by
  unfold sizeI
  split <;> rename_i h
  · exact .inr ⟨rfl, axesB_true.1 h.1, prodL_pos (fun d hd => ((axesB_true.1 h.1).2.2.2.1 d hd).1), h.2⟩
  · exact .inl ⟨rfl, h⟩
/-- Is this a tensor over the ring. -/
noncomputable def tensorB (k p n : Int) (L D X : List Int) : Bool :=
  ringB k p n && decide (0 ≤ sizeI L D) && decide ((X.length : Int) = sizeI L D * widthI k n) && X.all fun x => decide (0 ≤ x) && decide (x ≤ topI k p n)
/-- Is this an index for these dimensions. -/
def InIx (D ix : List Int) : Prop := ix.length = D.length ∧ ∀ i, i < D.length → 0 ≤ ix.getD i 0 ∧ ix.getD i 0 < D.getD i 0
/-- How many indices are before an index. -/
def offI (D ix : List Int) : Int := (List.range D.length).foldl (fun n i => n * D.getD i 0 + ix.getD i 0) 0
/-- The index with n before it. -/
def idxL (D : List Int) (n : Int) : List Int := (List.range D.length).map fun i => (n / prodL (D.drop (i + 1))) % D.getD i 0
/-- The element at an offset; another element there. -/
def getL (w : Nat) (X : List Int) (n : Nat) : List Int := (X.drop (n * w)).take w
def putL (X : List Int) (m : Nat) (x : List Int) : List Int := X.take m ++ x ++ X.drop (m + x.length)
end Go.Proofs.Ytlmhnlepdfdceaa
