
/- A diagonal: an axis is left out, and follows another. -/
import Derived.Test.YtgbmacppgaopfabGreatPairMath
namespace Go.Proofs.YtgbmacppgaopfabGreat
set_option maxRecDepth 20000
open Go.RowKit

/-- The index in the tensor, of an index of its diagonal. -/
def diagIx (L K x : List Int) (i j : Nat) : List Int := (viaL L K x).set j ((viaL L K x).getD i 0)
theorem diag_in {L D x : List Int} {i j : Nat} {a b : Int} (hL : L.Nodup) (hl : L.length = D.length) (hi : L[i]? = some a) (hj : L[j]? = some b) (hne : i ≠ j) (hd : D.getD i 0 = D.getD j 0) (hx : InIx (exD L D b) x) : InIx D (diagIx L (exL L b) x i j) := by
  have hxl : x.length = (exL L b).length := by rw [hx.1, exD_len]
  have hvl : (viaL L (exL L b) x).length = L.length := by simp [viaL]
  have hat : ∀ q n, L[q]? = some n → n ≠ b → (viaL L (exL L b) x).getD q 0 = x.getD ((exL L b).idxOf n) 0 ∧ 0 ≤ x.getD ((exL L b).idxOf n) 0 ∧ x.getD ((exL L b).idxOf n) 0 < D.getD q 0 := fun q n hq hn => by
    have hm : n ∈ exL L b := ex_mem.2 ⟨List.mem_of_getElem? hq, hn⟩
    have h1 : (exL L b).idxOf n < (exL L b).length := List.idxOf_lt_length_iff.2 hm
    have h2 := hx.2 _ (show (exL L b).idxOf n < (exD L D b).length by rw [exD_len]; exact h1)
    have h3 : (exD L D b).getD ((exL L b).idxOf n) 0 = D.getD q 0 := by
      unfold exD
      rw [getD_at (show (dimsVia L D (exL L b))[(exL L b).idxOf n]? = some (D.getD (L.idxOf n) 0) by unfold dimsVia; rw [List.getElem?_map, at_idxOf hm]; rfl), idxOf_at hL hq]
    rw [h3] at h2
    exact ⟨getD_at (by unfold viaL; rw [List.getElem?_map, hq]; rfl), h2.1, h2.2⟩
  have hab : a ≠ b := fun e => hne (by
    obtain ⟨h1, e1⟩ := List.getElem?_eq_some_iff.1 hi
    obtain ⟨h2, e2⟩ := List.getElem?_eq_some_iff.1 hj
    exact (List.getElem_inj (h₀ := h1) (h₁ := h2) hL).1 (by rw [e1, e2, e]))
  refine ⟨by unfold diagIx; rw [List.length_set, hvl, hl], fun q hq => ?_⟩
  have hqL : q < L.length := by rw [hl]; exact hq
  unfold diagIx
  by_cases e : q = j
  · subst e
    have h1 := hat i a hi hab
    rw [List.getD_eq_getElem?_getD, List.getElem?_set_self (by rw [hvl]; exact hqL), Option.getD_some, h1.1, ← hd]
    exact ⟨h1.2.1, h1.2.2⟩
  · have hm : L[q]? = some L[q] := List.getElem?_eq_getElem hqL
    have h1 := hat q L[q] hm (fun e2 => e (by
      obtain ⟨h2, e3⟩ := List.getElem?_eq_some_iff.1 hj
      exact (List.getElem_inj (h₀ := hqL) (h₁ := h2) hL).1 (by rw [e2, e3])))
    rw [List.getD_eq_getElem?_getD, List.getElem?_set_ne (fun e2 => e e2.symm), ← List.getD_eq_getElem?_getD, h1.1]
    exact ⟨h1.2.1, h1.2.2⟩
/-- Where an element of the diagonal is. -/
def diagF (L D : List Int) (b : Int) (i j n : Nat) : Nat := (offI D (diagIx L (exL L b) (idxL (exD L D b) (n : Int)) i j)).toNat
noncomputable def diagB (k p q : Int) (L D X : List Int) (a b : Int) : Bool := tensorB k p q L D X && (decide (0 ≤ findI L a) && (decide (0 ≤ findI L b) && (decide (findI L a ≠ findI L b) && decide (D.getD (L.idxOf a) 0 = D.getD (L.idxOf b) 0))))
def diagL (k q : Int) (L D X : List Int) (a b : Int) : List Int := gatherL (fun n => getL (widthI k q).toNat X (diagF L D b (L.idxOf a) (L.idxOf b) n)) (prodL (exD L D b)).toNat
theorem diag_lt {L D : List Int} {i j : Nat} {a b : Int} (hL : L.Nodup) (hl : L.length = D.length) (hi : L[i]? = some a) (hj : L[j]? = some b) (hne : i ≠ j) (hd : D.getD i 0 = D.getD j 0) (hD : ∀ d ∈ D, 1 ≤ d) (n : Nat) : InIx D (diagIx L (exL L b) (idxL (exD L D b) (n : Int)) i j) ∧ offI D (diagIx L (exL L b) (idxL (exD L D b) (n : Int)) i j) = (diagF L D b i j n : Int) ∧ (diagF L D b i j n : Int) < prodL D := by
  have h1 := diag_in hL hl hi hj hne hd (idxL_in (fun d hd => hD d ((ex_sub hL hl).subset hd)) (n : Int))
  have h2 := offP_range hD h1 D.length (Nat.le_refl _)
  rw [← offI_is, List.take_of_length_le (Nat.le_refl _)] at h2
  unfold diagF
  exact ⟨h1, by omega, by omega⟩
end Go.Proofs.YtgbmacppgaopfabGreat
