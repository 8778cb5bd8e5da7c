
/- spec.ScaleTensor. -/
import Derived.Test.YtfdjlahaiogabaaJoinSpec
import Derived.Test.YtfdjlahaiogabaaElem
namespace Go.Proofs.Ytfdjlahaiogabaa
set_option maxRecDepth 20000
open Go.RowKit

/-- An element times the one at an offset. -/
def scaleF (k p : Int) (wd : Nat) (x X : List Int) (i : Nat) : List Int := timesL k p x (getL wd X i)
noncomputable def scaleB (k p q : Int) (L D X x : List Int) : Bool := tensorB k p q L D X && elemB k p q x
def scaleTenL (k p q : Int) (D X x : List Int) : List Int := gatherL (scaleF k p (widthI k q).toNat x X) (prodL D).toNat
end Go.Proofs.Ytfdjlahaiogabaa
