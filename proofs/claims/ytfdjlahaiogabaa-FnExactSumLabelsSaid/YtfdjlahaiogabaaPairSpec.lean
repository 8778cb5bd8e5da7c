
/- spec.l08Pair: the contraction, index by index. -/
import Derived.Test.YtfdjlahaiogabaaFitPair
import Derived.Test.YtfdjlahaiogabaaJoinAxes
import Derived.Test.YtfdjlahaiogabaaZeroTen
import Derived.Test.YtfdjlahaiogabaaMulElem
import Derived.Test.YtfdjlahaiogabaaPlusSpec
namespace Go.Proofs.Ytfdjlahaiogabaa
set_option maxRecDepth 20000
open Go.RowKit

/-- Two rows more, out of a call. -/
theorem Rs.new2 {w0 wr w' : World} {bs : List BxE} {rows : List RowE} {a b : Value} {x y : List Int} (h : Rs w0 wr bs rows) (hb : Below wr.heap.size wr w') (ho : OwnG w' wr.heap.size w'.heap.size [(a, x), (b, y)]) : Rs w0 w' bs ((a, x) :: (b, y) :: rows) := by
  have h1 := h.step hb
  have hlo : ∀ r ∈ [(a, x), (b, y)], ∀ g, r.1.ownBlock = some g → wr.heap.size ≤ g := fun r hr g hg => (ho.1 r hr).lo g hg
  have e : (a, x) :: (b, y) :: rows = [(a, x), (b, y)] ++ rows := rfl
  rw [e]
  refine ⟨h1.bel, fun r hr => ?_, List.pairwise_append.2 ⟨ho.2, h.apart, fun r hr s hs g hg e => ?_⟩, h1.bx, fun b hm r hr => ?_, h.dis⟩
  · rcases List.mem_append.1 hr with hr | hr
    · have hq := ho.1 r hr
      exact ⟨hq.1.1, hq.1.2.imp id (fun ⟨g, cap, cur, e, hb, q⟩ => ⟨g, cap, cur, e, Nat.le_trans h.bel.size hb, q⟩)⟩
    · exact h1.own r hr
  · have h2 := hlo r hr g hg
    have h3 := ((h.own s hs).lt g e).2
    omega
  · rcases List.mem_append.1 hr with hr | hr
    · intro e
      have h2 := hlo r hr _ e
      have h3 := (h.bx b hm).lt
      omega
    · exact h.far b hm r hr
/-- What is asked of a tensor that is contracted. -/
structure TenF (k p q : Int) (L D X : List Int) (wd N : Nat) : Prop where
  ax : AxesV L D
  pr : prodL D = (N : Int)
  n1 : 1 ≤ N ∧ N ≤ 4096
  lX : X.length = N * wd
  wX : Within (topI k p q) X
theorem TenF.of {k p q : Int} {L D X : List Int} {wd : Nat} (ht : tensorB k p q L D X = true) (hw : widthI k q = (wd : Int)) : TenF k p q L D X wd (prodL D).toNat := by
  have hp := PF.of ht (setV_perm (List.Perm.refl L) (tensor_axes ht).2.2.2.2)
  refine ⟨tensor_axes ht, hp.pD, hp.n1, ?_, (tensorB_inv ht).2.2.2⟩
  have h := hp.lX
  rw [hw, Int.toNat_natCast] at h
  exact h
theorem TenF.dim {k p q : Int} {L D X : List Int} {wd N : Nat} (h : TenF k p q L D X wd N) : ∀ d ∈ D, 1 ≤ d := fun d hd => (h.ax.2.2.2.1 d hd).1
theorem repL_gather (z : List Int) (M : Nat) : repL z M = gatherL (fun _ => z) M := by
  induction M with
  | zero => rfl
  | succ M ih => rw [repL_succ, ih, gather_succ]
end Go.Proofs.Ytfdjlahaiogabaa
