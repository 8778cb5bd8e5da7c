
/- impl.offsetIn, impl.OffsetOf, (Tensor).find. -/
import Derived.Test.YtgabcdploeledaaIndex
import Derived.Test.YtgabcdploeledaaTenOkImpl
namespace Go.Proofs.Ytgabcdploeledaa
set_option maxRecDepth 20000
open Go.RowKit

open Classical in
/-- How many indices are before a list that may be an index; else -1. -/
noncomputable def offInI (D ix : List Int) : Int := if InIx D ix then offI D ix else -1
open Classical in
theorem offInI_no {D ix : List Int} (h : ¬ InIx D ix) : offInI D ix = -1 := if_neg h
open Classical in
theorem offInI_yes {D ix : List Int} (h : InIx D ix) : offInI D ix = offI D ix := if_pos h
theorem offsetI_in {L D ix : List Int} (h : 0 ≤ sizeI L D) : offsetI L D ix = offInI D ix := by
  by_cases hi : InIx D ix
  · rw [offsetI_yes ⟨h, hi⟩, offInI_yes hi]
  · rw [offsetI_no (fun h => hi h.2), offInI_no hi]
theorem offP_to {D ix : List Int} (hD : ∀ d ∈ D, 1 ≤ d) : ∀ j, j ≤ D.length → InTo D ix j → 0 ≤ offP D ix j ∧ offP D ix j < prodL (D.take j) := by
  intro j
  induction j with
  | zero => intro _ _; simp [offP, prodL]
  | succ j ih =>
    intro hj hi
    obtain ⟨h1, h2⟩ := ih (by omega) (fun i hij => hi i (by omega))
    obtain ⟨h3, h4⟩ := hi j (by omega)
    rw [offP_succ, prodL_take_succ D j (by omega)]
    have hd : 1 ≤ D.getD j 0 := by
      rw [getD_at (List.getElem?_eq_getElem (show j < D.length by omega))]
      exact hD _ (List.getElem_mem _)
    have e1 := Int.mul_nonneg h1 (by omega : 0 ≤ D.getD j 0)
    have e2 : (offP D ix j + 1) * D.getD j 0 ≤ prodL (D.take j) * D.getD j 0 := Int.mul_le_mul_of_nonneg_right (by omega) (by omega)
    rw [Int.add_mul, Int.one_mul] at e2
    omega

theorem sizeI_parts {L D : List Int} (h : 0 ≤ sizeI L D) : AxesV L D ∧ prodL D ≤ 4096 := by
  rcases sizeI_cases L D with ⟨h1, h2⟩ | ⟨h1, h2, h3, h4⟩
  · omega
  · exact ⟨h2, h4⟩

/-- Where the element is, or -1. -/
noncomputable def findT (k p n : Int) (L D X ix : List Int) : Int := if tensorB k p n L D X = true then offInI D ix else -1
end Go.Proofs.Ytgabcdploeledaa
