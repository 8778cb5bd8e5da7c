
/- spec.l03Map, kind by kind. -/
import Derived.Test.YtfdjlahaiogababImage
import Derived.Deep.QuietTactic
import Derived.BigQuiet
namespace Go.Proofs.Ytfdjlahaiogabab
set_option maxRecDepth 20000
open Go.RowKit

end Go.Proofs.Ytfdjlahaiogabab
namespace Go.Proofs.Ytfdjlahaiogabab
set_option maxRecDepth 20000
open Go.RowKit

end Go.Proofs.Ytfdjlahaiogabab
