
/- How long the answers of stage 7 are. -/
import Derived.Test.YtgbmacppgaopfaaAddSpec
namespace Go.Proofs.Ytgbmacppgaopfaa
set_option maxRecDepth 20000
open Go.RowKit

theorem fit_len_L (k p q : Int) (L D X L' D' X' : List Int) : (if fitB k p q L D X L' D' X' = true then L else []).length ≤ 12 := by
  split
  · rename_i h; exact (ten_lens (both_parts h).1).1
  · simp
theorem fit_len_D (k p q : Int) (L D X L' D' X' : List Int) : (if fitB k p q L D X L' D' X' = true then D else []).length ≤ 12 := by
  split
  · rename_i h; exact (ten_lens (both_parts h).1).2.1
  · simp
theorem fit_len_X (k p q : Int) (L D X L' D' X' : List Int) (pr : Bool) : (if fitB k p q L D X L' D' X' = true then joinTenL k p q L D X L' D' X' pr else []).length ≤ 24576 := by
  split
  · rename_i h
    obtain ⟨hp, hy, hwx, hwy⟩ := fit_facts h
    unfold joinTenL
    rw [gather_len (wd := (widthI k q).toNat) _ (fun i hi => by
      have h1 := (joinF_elem hp.rg hp.hw hp.lX (by rw [hy]; exact hp.lX) hwx hwy pr hi).1
      have h2 := hp.hw
      omega)]
    exact Nat.le_trans (Nat.mul_le_mul hp.n1.2 hp.w6.2) (by omega)
  · simp
theorem scale_parts {k p q : Int} {L D X x : List Int} (h : scaleB k p q L D X x = true) : tensorB k p q L D X = true ∧ ElemV k p q x := by
  unfold scaleB at h
  simp only [Bool.and_eq_true] at h
  exact ⟨h.1, elemB_true.1 h.2⟩
theorem scale_len_L (k p q : Int) (L D X x : List Int) : (if scaleB k p q L D X x = true then L else []).length ≤ 12 := by
  split
  · rename_i h; exact (ten_lens (scale_parts h).1).1
  · simp
theorem scale_len_D (k p q : Int) (L D X x : List Int) : (if scaleB k p q L D X x = true then D else []).length ≤ 12 := by
  split
  · rename_i h; exact (ten_lens (scale_parts h).1).2.1
  · simp
theorem scale_len_X (k p q : Int) (L D X x : List Int) : (if scaleB k p q L D X x = true then scaleTenL k p q D X x else []).length ≤ 24576 := by
  split
  · rename_i h
    obtain ⟨h1, h2⟩ := scale_parts h
    have hp := PF.of h1 (setV_perm (List.Perm.refl L) (tensor_axes h1).2.2.2.2)
    unfold scaleTenL
    rw [gather_len (wd := (widthI k q).toNat) _ (fun i hi => by
      have h3 := (timesL_elem hp.rg h2 (getL_elem hp.hw hp.lX (tensorB_inv h1).2.2.2 hi)).1
      have h4 := hp.hw
      unfold scaleF
      omega)]
    exact Nat.le_trans (Nat.mul_le_mul hp.n1.2 hp.w6.2) (by omega)
  · simp
end Go.Proofs.Ytgbmacppgaopfaa
