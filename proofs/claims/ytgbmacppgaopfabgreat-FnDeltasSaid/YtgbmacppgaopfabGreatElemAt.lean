
/- spec.ElemAt. -/
import Derived.Test.YtgbmacppgaopfabGreatRs
import Derived.Test.YtgbmacppgaopfabGreatTensorOk
import Derived.Test.YtgbmacppgaopfabGreatTensorOk2
namespace Go.Proofs.YtgbmacppgaopfabGreat
set_option maxRecDepth 20000
open Go.RowKit

theorem getL_len {w : Nat} {X : List Int} {n : Nat} (h : n * w + w ≤ X.length) : (getL w X n).length = w := by
  unfold getL
  rw [List.length_take, List.length_drop]
  omega
theorem getL_at {w : Nat} {X : List Int} {n i : Nat} (hi : i < w) : (getL w X n)[i]? = X[n * w + i]? := by
  unfold getL
  rw [List.getElem?_take_of_lt hi, List.getElem?_drop]
end Go.Proofs.YtgbmacppgaopfabGreat
