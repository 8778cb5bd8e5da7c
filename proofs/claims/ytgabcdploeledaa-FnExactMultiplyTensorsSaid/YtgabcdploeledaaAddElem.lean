
/- AddElem, both. -/
import Derived.Test.YtgabcdploeledaaPlusSpec
import Derived.Test.YtgabcdploeledaaZero
namespace Go.Proofs.Ytgabcdploeledaa
set_option maxRecDepth 20000
open Go.RowKit

noncomputable def twoOk (k p n : Int) (xs ys : List Int) : Bool := ringB k p n && (elemB k p n xs && elemB k p n ys)
noncomputable def addElemL (k p n : Int) (xs ys : List Int) : List Int := if twoOk k p n xs ys = true then plusL k p xs ys else []
theorem twoOk_parts {k p n : Int} {xs ys : List Int} (h : twoOk k p n xs ys = true) : ringB k p n = true ∧ ElemV k p n xs ∧ ElemV k p n ys := by
  unfold twoOk at h
  rw [Bool.and_eq_true, Bool.and_eq_true] at h
  exact ⟨h.1, elemB_true.1 h.2.1, elemB_true.1 h.2.2⟩
theorem addElem_len (k p n : Int) (xs ys : List Int) : (addElemL k p n xs ys).length ≤ 6 := by
  unfold addElemL
  by_cases h : twoOk k p n xs ys = true
  · rw [if_pos h]
    have h1 := twoOk_parts h
    have h2 := ring_width h1.1
    have h3 := h1.2.1.1
    simp [plusL]; omega
  · rw [if_neg h]; simp

end Go.Proofs.Ytgabcdploeledaa
