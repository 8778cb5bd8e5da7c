
/- How long the answers of FuseLabels and SplitLabel are. -/
import Derived.Test.YtgdkllhgaikpnaaRegMath
namespace Go.Proofs.Ytgdkllhgaikpnaa
set_option maxRecDepth 20000
open Go.RowKit

theorem fuseB_inv {k p q c : Int} {L D X F : List Int} (h : fuseB k p q L D X F c = true) : tensorB k p q L D X = true ∧ SubV L F ∧ (fuseL L F c).length ≤ 12 ∧ (fuseD L D F).length ≤ 12 := by
  unfold fuseB at h
  simp only [Bool.and_eq_true, decide_eq_true_eq] at h
  obtain ⟨h1, -, h2, h3⟩ := h
  rcases sizeI_cases (fuseL L F c) (fuseD L D F) with ⟨h4, -⟩ | ⟨-, h4, -, -⟩
  · omega
  · exact ⟨h1, subB_true.1 h2, h4.1, by rw [← h4.2.1]; exact h4.1⟩
theorem fuse_len_L (k p q : Int) (L D X F : List Int) (c : Int) : (if fuseB k p q L D X F c = true then fuseL L F c else []).length ≤ 24576 := by
  split
  · rename_i h; have := (fuseB_inv h).2.2.1; omega
  · simp
theorem fuse_len_D (k p q : Int) (L D X F : List Int) (c : Int) : (if fuseB k p q L D X F c = true then fuseD L D F else []).length ≤ 24576 := by
  split
  · rename_i h; have := (fuseB_inv h).2.2.2; omega
  · simp
theorem fuse_len_X (k p q : Int) (L D X F : List Int) (c : Int) : (if fuseB k p q L D X F c = true then regX k q L D X F else []).length ≤ 24576 := by
  split
  · rename_i h; exact (reg_tensor (fuseB_inv h).1 (fuseB_inv h).2.1).2
  · simp
theorem regB_inv {k p q : Int} {L D X F A G : List Int} (h : regB k p q L D X F A G = true) : tensorB k p q L D X = true ∧ SubV L F ∧ (restL F L ++ A).length ≤ 12 ∧ (dimsVia L D (restL F L) ++ G).length ≤ 12 := by
  unfold regB at h
  simp only [Bool.and_eq_true, decide_eq_true_eq] at h
  obtain ⟨h1, h2, -, -, h3⟩ := h
  have FT := TF.of h1
  have hp := FT.pr
  have hn := FT.n1
  rcases sizeI_cases (restL F L ++ A) (dimsVia L D (restL F L) ++ G) with ⟨h4, -⟩ | ⟨-, h4, -, -⟩
  · omega
  · exact ⟨h1, subB_true.1 h2, h4.1, by rw [← h4.2.1]; exact h4.1⟩
theorem reg_len_L (k p q : Int) (L D X F A G : List Int) : (if regB k p q L D X F A G = true then restL F L ++ A else []).length ≤ 24576 := by
  split
  · rename_i h; have := (regB_inv h).2.2.1; omega
  · simp
theorem reg_len_D (k p q : Int) (L D X F A G : List Int) : (if regB k p q L D X F A G = true then dimsVia L D (restL F L) ++ G else []).length ≤ 24576 := by
  split
  · rename_i h; have := (regB_inv h).2.2.2; omega
  · simp
theorem reg_len_X (k p q : Int) (L D X F A G : List Int) : (if regB k p q L D X F A G = true then regX k q L D X F else []).length ≤ 24576 := by
  split
  · rename_i h; exact (reg_tensor (regB_inv h).1 (regB_inv h).2.1).2
  · simp
end Go.Proofs.Ytgdkllhgaikpnaa
