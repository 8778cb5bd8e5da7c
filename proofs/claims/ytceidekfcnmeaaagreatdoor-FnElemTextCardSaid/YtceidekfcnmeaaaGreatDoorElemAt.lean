
/- spec.ElemAt. -/
import Derived.Test.YtceidekfcnmeaaaGreatDoorRs
import Derived.Test.YtceidekfcnmeaaaGreatDoorTensorOk
import Derived.Test.YtceidekfcnmeaaaGreatDoorTensorOk2
namespace Go.Proofs.YtceidekfcnmeaaaGreatDoor
set_option maxRecDepth 20000
open Go.RowKit

theorem getL_len {w : Nat} {X : List Int} {n : Nat} (h : n * w + w ≤ X.length) : (getL w X n).length = w := by
  unfold getL
  rw [List.length_take, List.length_drop]
  omega
theorem getL_at {w : Nat} {X : List Int} {n i : Nat} (hi : i < w) : (getL w X n)[i]? = X[n * w + i]? := by
  unfold getL
  rw [List.getElem?_take_of_lt hi, List.getElem?_drop]
/-- The element with an index, or nothing. -/
noncomputable def elemAtL (k p n : Int) (L D X ix : List Int) : List Int := if 0 ≤ offsetI L D ix ∧ tensorB k p n L D X = true then getL (widthI k n).toNat X (offsetI L D ix).toNat else []
theorem elemAtL_len (k p n : Int) (L D X ix : List Int) : (elemAtL k p n L D X ix).length ≤ 6 := by
  unfold elemAtL
  split
  · rename_i h
    have := ring_width (tensorB_inv h.2).1
    unfold getL
    rw [List.length_take]; omega
  · simp
end Go.Proofs.YtceidekfcnmeaaaGreatDoor
