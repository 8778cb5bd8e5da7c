
/- spec.HomOk. -/
import Derived.Test.YtfdjlahaiogababHom
import Derived.Deep.QuietTactic
import Derived.BigQuiet
import Derived.Test.YtfdjlahaiogababElem
namespace Go.Proofs.Ytfdjlahaiogabab
set_option maxRecDepth 20000
open Go.RowKit


end Go.Proofs.Ytfdjlahaiogabab
namespace Go.Proofs.Ytfdjlahaiogabab
set_option maxRecDepth 20000
open Go.RowKit

end Go.Proofs.Ytfdjlahaiogabab
