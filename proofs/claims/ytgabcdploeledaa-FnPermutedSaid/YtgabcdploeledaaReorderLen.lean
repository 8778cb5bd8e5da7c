
/- How long the answers of stage 6 are. -/
import Derived.Test.YtgabcdploeledaaSameSpec
namespace Go.Proofs.Ytgabcdploeledaa
set_option maxRecDepth 20000
open Go.RowKit

theorem perm_lens2 {k p q : Int} {L D X labels : List Int} (h : permB k p q L D X labels = true) : labels.length ≤ 12 ∧ (dimsVia L D labels).length ≤ 12 ∧ (permDataL k q L D X labels).length ≤ 24576 := by
  unfold permB at h
  simp only [Bool.and_eq_true] at h
  have hp := PF.of h.1 (setV_true.1 h.2)
  have h12 := hp.m12
  refine ⟨by have := hp.lG; omega, by rw [dimsVia_len]; have := hp.lG; omega, ?_⟩
  unfold permDataL
  rw [hp.len]
  exact Nat.le_trans (Nat.mul_le_mul hp.n1.2 hp.w6.2) (by omega)
theorem perm_len_L (k p q : Int) (L D X labels : List Int) : (if permB k p q L D X labels = true then labels else []).length ≤ 12 := by
  split
  · exact (perm_lens2 ‹_›).1
  · exact Nat.zero_le _
theorem perm_len_D (k p q : Int) (L D X labels : List Int) : (if permB k p q L D X labels = true then dimsVia L D labels else []).length ≤ 12 := by
  split
  · exact (perm_lens2 ‹_›).2.1
  · exact Nat.zero_le _
theorem perm_len_X (k p q : Int) (L D X labels : List Int) : (if permB k p q L D X labels = true then permDataL k q L D X labels else []).length ≤ 24576 := by
  split
  · exact (perm_lens2 ‹_›).2.2
  · exact Nat.zero_le _
theorem sort_len_L (k p q : Int) (L D X : List Int) : (if tensorB k p q L D X = true then sortL L else []).length ≤ 12 := by
  split
  · exact (perm_lens ‹_›).1
  · exact Nat.zero_le _
theorem sort_len_D (k p q : Int) (L D X : List Int) : (if tensorB k p q L D X = true then dimsVia L D (sortL L) else []).length ≤ 12 := by
  split
  · exact (perm_lens ‹_›).2.1
  · exact Nat.zero_le _
theorem sort_len_X (k p q : Int) (L D X : List Int) : (if tensorB k p q L D X = true then permDataL k q L D X (sortL L) else []).length ≤ 24576 := by
  split
  · exact (perm_lens ‹_›).2.2
  · exact Nat.zero_le _
theorem rel_lens {k p q : Int} {L D X F T : List Int} (h : relB k p q L D X F T = true) : L.length ≤ 12 ∧ D.length ≤ 12 ∧ X.length ≤ 24576 := by
  unfold relB at h
  simp only [Bool.and_eq_true] at h
  obtain ⟨hrb, hs0, hxl, -⟩ := tensorB_inv h.1
  have hwd := ring_width hrb
  rcases sizeI_cases L D with h1 | ⟨h1, h2, h3, h4⟩
  · omega
  · have h5 : sizeI L D * widthI k q ≤ 4096 * 6 := Int.le_trans (Int.mul_le_mul_of_nonneg_right (show sizeI L D ≤ 4096 by omega) (by omega)) (show 4096 * widthI k q ≤ 4096 * 6 by omega)
    have := h2.1
    have := h2.2.1
    omega
theorem rel_len_L (k p q : Int) (L D X F T : List Int) : (if relB k p q L D X F T = true then namesL L F T else []).length ≤ 12 := by
  split
  · rw [namesL_len]; exact (rel_lens ‹_›).1
  · exact Nat.zero_le _
theorem rel_len_D (k p q : Int) (L D X F T : List Int) : (if relB k p q L D X F T = true then D else []).length ≤ 12 := by
  split
  · exact (rel_lens ‹_›).2.1
  · exact Nat.zero_le _
theorem rel_len_X (k p q : Int) (L D X F T : List Int) : (if relB k p q L D X F T = true then X else []).length ≤ 24576 := by
  split
  · exact (rel_lens ‹_›).2.2
  · exact Nat.zero_le _
end Go.Proofs.Ytgabcdploeledaa
