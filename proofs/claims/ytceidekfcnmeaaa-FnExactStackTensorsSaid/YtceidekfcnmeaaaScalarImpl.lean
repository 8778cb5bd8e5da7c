
/- impl.ScalarTensor. -/
import Derived.Test.YtceidekfcnmeaaaRs
import Derived.Test.YtceidekfcnmeaaaZero
import Derived.Test.YtceidekfcnmeaaaZeroImpl
namespace Go.Proofs.Ytceidekfcnmeaaa
set_option maxRecDepth 20000
open Go.RowKit

theorem okElem_holds (k p n : Int) (xs : List Int) : holdsB k p n [xs] = okElemB k p n xs := by simp [okElemB, holdsB]
end Go.Proofs.Ytceidekfcnmeaaa
