
/- spec.l08Keep: the labels that are kept, with their dimensions. -/
import Derived.Test.YtfdjlahaiogabaaJoinAxes
import Derived.Deep.RegionLaw
import Derived.Deep.AppendLies
namespace Go.Proofs.Ytfdjlahaiogabaa
set_option maxRecDepth 20000
open Go.RowKit

theorem keepD_step {J JD keep : List Int} {j : Nat} {n d : Int} (hn : J.Nodup) (hj : J[j]? = some n) (hd : JD[j]? = some d) (hk : n ∈ keep) : dimsVia J JD (keepL (J.take j) keep) ++ [d] = dimsVia J JD (keepL (J.take (j + 1)) keep) := by
  rw [keep_yes hj hk, dimsVia_app]
  congr 1
  simp only [dimsVia, List.map_cons, List.map_nil, idxOf_at hn hj, getD_at hd]
end Go.Proofs.Ytfdjlahaiogabaa
