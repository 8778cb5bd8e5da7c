
/- spec.l06Sort. -/
import Derived.Test.YtjoddheakjndfaaNamesSpec
import Derived.Deep.RegionHeld3
namespace Go.Proofs.Ytjoddheakjndfaa
set_option maxRecDepth 20000
open Go.RowKit

end Go.Proofs.Ytjoddheakjndfaa
