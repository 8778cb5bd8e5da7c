
/- impl.indexCount. -/
import Derived.Test.YtdheakjjnaifkaaAxes
import Derived.Test.YtdheakjjnaifkaaAlong
namespace Go.Proofs.Ytdheakjjnaifkaa
set_option maxRecDepth 20000
open Go.RowKit

end Go.Proofs.Ytdheakjjnaifkaa
