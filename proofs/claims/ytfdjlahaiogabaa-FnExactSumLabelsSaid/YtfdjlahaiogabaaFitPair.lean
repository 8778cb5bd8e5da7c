
/- spec.l08Fits, spec.JoinSize. -/
import Derived.Test.YtfdjlahaiogabaaKeepSpec
import Derived.Test.YtfdjlahaiogabaaJoinAxes
import Derived.Test.YtfdjlahaiogabaaPairMath
namespace Go.Proofs.Ytfdjlahaiogabaa
set_option maxRecDepth 20000
open Go.RowKit

/-- The join and what is kept of it are small enough. -/
noncomputable def smallB (L D L' D' keep : List Int) : Bool := decide (prodL (joinD L D L' D') ≤ 65536) && decide (0 ≤ sizeI (keepL (joinL L L') keep) (keepD (joinL L L') (joinD L D L' D') keep))
noncomputable def pfB (L D L' D' keep : List Int) : Bool := fitV L D L' D' && smallB L D L' D' keep
noncomputable def joinI (L D L' D' : List Int) : Int := if fitV L D L' D' = true then capW (joinD L D L' D') else -1
noncomputable def joinSizeI (L D L' D' : List Int) : Int := if sizeI L D < 0 ∨ sizeI L' D' < 0 then -1 else joinI L D L' D'
theorem sizeI_axes {L D : List Int} (h : ¬ sizeI L D < 0) : AxesV L D ∧ 1 ≤ prodL D ∧ prodL D ≤ 4096 ∧ sizeI L D = prodL D := by
  rcases sizeI_cases L D with ⟨h1, -⟩ | ⟨h1, h2, h3, h4⟩
  · omega
  · exact ⟨h2, h3, h4, h1⟩
theorem joinD_ax {L D L' D' : List Int} (h : AxesV L D) (h' : AxesV L' D') : (∀ d ∈ joinD L D L' D', 1 ≤ d ∧ d ≤ 8) ∧ (joinL L L').Nodup ∧ (joinL L L').length ≤ 24 ∧ (joinL L L').length = (joinD L D L' D').length := by
  refine ⟨joinD_in h'.2.1 h.2.2.2.1 h'.2.2.2.1, join_nodup h.2.2.2.2 h'.2.2.2.2, ?_, (joinD_len h.2.1).symm⟩
  have h1 := join_len L L'
  have := h.1
  have := h'.1
  omega
end Go.Proofs.Ytfdjlahaiogabaa
