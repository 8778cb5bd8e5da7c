
/- spec.SameTensor. -/
import Derived.Test.YtfdjlahaiogabaaPermSpec
namespace Go.Proofs.Ytfdjlahaiogabaa
set_option maxRecDepth 20000
open Go.RowKit

/-- The tensor in ascending order of labels. -/
noncomputable def sortTL (L : List Int) : List Int := sortL L
noncomputable def sameB (k p q : Int) (L D X L' D' X' : List Int) : Bool := tensorB k p q L D X && (tensorB k p q L' D' X' && (decide (sortL L = sortL L') && (decide (dimsVia L D (sortL L) = dimsVia L' D' (sortL L')) && decide (permDataL k q L D X (sortL L) = permDataL k q L' D' X' (sortL L')))))
theorem perm_lens {k p q : Int} {L D X : List Int} (h : tensorB k p q L D X = true) : (sortL L).length ≤ 12 ∧ (dimsVia L D (sortL L)).length ≤ 12 ∧ (permDataL k q L D X (sortL L)).length ≤ 24576 := by
  obtain ⟨hrb, hs0, hxl, -⟩ := tensorB_inv h
  rcases sizeI_cases L D with ⟨h1, -⟩ | ⟨-, h2, -, -⟩
  · omega
  · have hp := PF.of h (setV_perm (sortL_perm L) h2.2.2.2.2)
    refine ⟨by rw [sortL_len]; exact h2.1, by rw [dimsVia_len, sortL_len]; exact h2.1, ?_⟩
    unfold permDataL
    rw [hp.len]
    exact Nat.le_trans (Nat.mul_le_mul hp.n1.2 hp.w6.2) (by omega)
end Go.Proofs.Ytfdjlahaiogabaa
