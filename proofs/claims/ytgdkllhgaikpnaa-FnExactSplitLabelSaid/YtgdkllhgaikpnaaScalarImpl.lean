
/- impl.ScalarTensor. -/
import Derived.Test.YtgdkllhgaikpnaaRs
import Derived.Test.YtgdkllhgaikpnaaZero
import Derived.Test.YtgdkllhgaikpnaaZeroImpl
namespace Go.Proofs.Ytgdkllhgaikpnaa
set_option maxRecDepth 20000
open Go.RowKit

theorem okElem_holds (k p n : Int) (xs : List Int) : holdsB k p n [xs] = okElemB k p n xs := by simp [okElemB, holdsB]
end Go.Proofs.Ytgdkllhgaikpnaa
