
/- toHom; the hom's box; spec.HomOk. -/
import Derived.Test.YtfdjlahaiogababHomSpec
namespace Go.Proofs.Ytfdjlahaiogabab
set_option maxRecDepth 20000
open Go.RowKit

/-- The block b holds a homomorphism of these fields. -/
def HomAt (w : World) (b : Nat) (k a : Int) : Prop := w.cell? ⟨b, 0, none⟩ = some (.int .i64 k) ∧ w.cell? ⟨b, 1, none⟩ = some (.int .i64 a)
theorem HomAt.below {w w' : World} {b B : Nat} {k a : Int} (h : HomAt w b k a) (hb : Below B w w') (hlt : b < B) : HomAt w' b k a :=
  ⟨(hb.cell (p := ⟨b, 0, none⟩) hlt).trans h.1, (hb.cell (p := ⟨b, 1, none⟩) hlt).trans h.2⟩
theorem HomAt.grown {w w' : World} {b : Nat} {k a : Int} {row : Option Nat} (h : HomAt w b k a) (hg : w.grownBy w' row) (hlt : b < w.heap.size) (hne : ∀ g, row = some g → b < g) : HomAt w' b k a := by
  have hb : w'.heap[b]? = w.heap[b]? := hg.block b hlt (fun e => by have := hne b e.symm; omega)
  have hc : ∀ o, w'.cell? ⟨b, o, none⟩ = w.cell? ⟨b, o, none⟩ := fun o => World.cell?_of_block (w := w) hb
  exact ⟨(hc 0).trans h.1, (hc 1).trans h.2⟩
theorem HomAt.new (w : World) (k a : Int) (T : TypeId) : HomAt (w.alloc (.cells #[.int .i64 k, .int .i64 a] T)) w.heap.size k a :=
  ⟨by rw [World.cell?_alloc_new]; rfl, by rw [World.cell?_alloc_new]; rfl⟩
end Go.Proofs.Ytfdjlahaiogabab
