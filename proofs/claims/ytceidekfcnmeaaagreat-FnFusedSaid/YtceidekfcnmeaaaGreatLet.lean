
/- Steps of a region behind which the world bears a letter: boxes, literals, copy. -/
import Derived.Test.YtceidekfcnmeaaaGreatRs
import Derived.Test.YtceidekfcnmeaaaGreatAxes
import Derived.Test.YtceidekfcnmeaaaGreatZeroImpl
import Derived.Test.YtceidekfcnmeaaaGreatIndexIn
import Derived.Test.YtceidekfcnmeaaaGreatTensorOk2
import Derived.Test.YtceidekfcnmeaaaGreatElemRd
import Derived.Test.YtceidekfcnmeaaaGreatElemAt
import Derived.Test.YtceidekfcnmeaaaGreatZero
import Derived.Laws.CopyOwn
import Derived.Deep.RegionHeld3
namespace Go.Proofs.YtceidekfcnmeaaaGreat
set_option maxRecDepth 20000
open Go.RowKit

section
variable {w0 W : World} {bs : List BxE} {rows : List RowE}
/-- A list of two rows that are read. -/
def Two2 (W : World) (v : Value) (xs ys : List Int) : Prop := RdRows W.heap.size W v [xs, ys]
theorem Two2.below {W' : World} {v : Value} {xs ys : List Int} (h : Two2 W v xs ys) (hb : Below W.heap.size W W') : Two2 W' v xs ys := by
  obtain ⟨vs, h1, h2, h3⟩ := (show RdRows W.heap.size W v [xs, ys] from h).below hb (Nat.le_refl _)
  exact ⟨vs, h1.mono hb.size, h2, fun i hi => let ⟨u, e, hu⟩ := h3 i hi; ⟨u, e, hu.mono hb.size⟩⟩
theorem Rs.listX (h : Rs w0 W bs rows) {u v : Value} {xs ys : List Int} (hu : Rd W.heap.size W u (ints xs)) (hv : Rd W.heap.size W v (ints ys)) : ∃ WX g, W.alloc (.cells #[u, v] 26) = WX ∧ W.heap.size = g ∧ Below W.heap.size W WX ∧ Rs w0 WX bs rows ∧ Two2 WX (.slice (some ⟨g, 0, none⟩) 2 2) xs ys := by
  have hb := (Below.refl W.heap.size W).alloc (Nat.le_refl _) (.cells #[u, v] 26)
  refine ⟨_, _, rfl, rfl, hb, h.alloc _, ?_⟩
  have h1 := RdRows.two (w1 := W.alloc (.cells #[u, v] 26)) (B := W.heap.size) (b := W.heap.size) (hu.below hb (Nat.le_refl _)) (hv.below hb (Nat.le_refl _)) (Nat.le_refl _) (by simp [World.cell?_alloc_at]) (by simp [World.cell?_alloc_at])
  have e : (W.alloc (.cells #[u, v] 26)).heap.size = W.heap.size + 1 := by simp
  unfold Two2
  rw [e]
  exact h1
end
end Go.Proofs.YtceidekfcnmeaaaGreat
