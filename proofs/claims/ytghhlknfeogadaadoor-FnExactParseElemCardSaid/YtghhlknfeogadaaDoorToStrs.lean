
/- laws.toStringS copies a slice of texts into memory of its own. -/
import Derived.Test.YtghhlknfeogadaaDoorInfo
import Derived.Test.YtghhlknfeogadaaDoorSl
import Derived.Lib.Hide
import Derived.Laws.OwnMore
namespace Go.Proofs.YtghhlknfeogadaaDoor
set_option maxRecDepth 20000
open Go.RowKit


end Go.Proofs.YtghhlknfeogadaaDoor
