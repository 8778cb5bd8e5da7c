
/- More of rows of axes: new ones, stores elsewhere, a box of two cells. -/
import Derived.Test.YtfdjlahaiogabaaRa
namespace Go.Proofs.Ytfdjlahaiogabaa
set_option maxRecDepth 20000
open Go.RowKit

section
variable {w0 wr w' : World} {bs : List BxE} {rows : List RowAE}

/-- A row that a call has made. -/
theorem Ra.new {v : Value} {AX : List AxE} (h : Ra w0 wr bs rows) (hb : Below wr.heap.size wr w') (ho : OwnA w' wr.heap.size w'.heap.size v AX) : Ra w0 w' bs ((v, AX) :: rows) := by
  have h1 := h.step hb
  have lo : ∀ g, v.ownBlock = some g → wr.heap.size ≤ g := fun g hg => (ho.1.lt g hg).1
  refine ⟨h1.bel, fun r hr => ?_, List.pairwise_cons.2 ⟨fun r hr g hg e => ?_, h.apart⟩, h1.bx, fun b hm r hr => ?_, h.dis⟩
  · rcases List.mem_cons.1 hr with rfl | hr
    · exact ⟨ho.1.1, ho.1.2.imp id (fun ⟨g, cap, cur, e, hb, q⟩ => ⟨g, cap, cur, e, Nat.le_trans h.bel.size hb, q⟩)⟩
    · exact h1.own r hr
  · have h2 := lo g hg
    have h3 := ((h.own r hr).lt g e).2
    omega
  · rcases List.mem_cons.1 hr with rfl | hr
    · intro e
      have h2 := lo _ e
      have h3 := (h.bx b hm).lt
      omega
    · exact h.far b hm r hr
/-- A store elsewhere. -/
theorem Ra.else {g : Nat} (h : Ra w0 wr bs rows) (h0 : w0.heap.size ≤ g) (hb : ∀ b ∈ bs, b.1 ≠ g) (hr : ∀ r ∈ rows, r.1.ownBlock ≠ some g) (i : Nat) (u : Value) : Ra w0 (wr.setCell ⟨g, i, none⟩ u) bs rows :=
  ⟨h.bel.setCell h0 _, fun r hm => (h.own r hm).kept (grownBy_set wr g i u) (by
    cases hv : r.1.ownBlock with
    | none => exact .inl rfl
    | some k => exact .inr fun e => by injection e with e; subst e; exact hr r hm hv), h.apart, fun b hm => (h.bx b hm).far (fun e => hb b hm e) h0 u i, h.far, h.dis⟩
theorem Ra.boxes (h : Ra w0 wr bs rows) : Rs w0 wr bs [] := ⟨h.bel, fun r hr => by simp at hr, List.Pairwise.nil, h.bx, fun b hm r hr => by simp at hr, h.dis⟩
/-- A box of two cells, far from all others. -/
structure Two (w0 w : World) (g : Nat) (bs : List BxE) (rows : List RowAE) (a b : Value) : Prop where
  lo : w0.heap.size ≤ g
  lt : g < w.heap.size
  c0 : w.cell? ⟨g, 0, none⟩ = some a
  c1 : w.cell? ⟨g, 1, none⟩ = some b
  fr : ∀ j, w.frozen? ⟨g, j, none⟩ = false
  ne : ∀ x ∈ bs, x.1 ≠ g
  far : ∀ r ∈ rows, r.1.ownBlock ≠ some g
theorem Two.alloc (h : Ra w0 wr bs rows) (a b : Value) (T : TypeId) : ∃ W g, wr.alloc (.cells #[a, b] T) = W ∧ wr.heap.size = g ∧ Ra w0 W bs rows ∧ Two w0 W g bs rows a b := by
  refine ⟨_, _, rfl, rfl, h.alloc _, ⟨h.bel.size, by simp, by simp [World.cell?_alloc_at], by simp [World.cell?_alloc_at], fun j => by simp, fun x hx e => ?_, fun r hr e => ?_⟩⟩
  · have := (h.bx x hx).lt; omega
  · have := ((h.own r hr).lt _ e).2; omega
theorem Two.step {g : Nat} {a b : Value} (h : Two w0 wr g bs rows a b) (hb : Below wr.heap.size wr w') : Two w0 w' g bs rows a b :=
  ⟨h.lo, Nat.lt_of_lt_of_le h.lt hb.size, (hb.cell (p := ⟨g, 0, none⟩) h.lt).trans h.c0, (hb.cell (p := ⟨g, 1, none⟩) h.lt).trans h.c1, fun j => (hb.frozen (p := ⟨g, j, none⟩) h.lt).trans (h.fr j), h.ne, h.far⟩
theorem Two.row {g : Nat} {a b v : Value} {AX : List AxE} (h : Two w0 wr g bs rows a b) (hb : Below wr.heap.size wr w') (ho : OwnA w' wr.heap.size w'.heap.size v AX) : Two w0 w' g bs ((v, AX) :: rows) a b :=
  have h1 := h.step hb
  ⟨h1.lo, h1.lt, h1.c0, h1.c1, h1.fr, h1.ne, fun r hr => by
    rcases List.mem_cons.1 hr with rfl | hr
    · intro e; have h2 := (ho.1.lt _ e).1; have h3 := h.lt; omega
    · exact h.far r hr⟩
/-- Both cells are written. -/
theorem Two.put {g : Nat} {a b : Value} (h : Two w0 wr g bs rows a b) (hR : Ra w0 wr bs rows) (u v : Value) : Two w0 ((wr.setCell ⟨g, 0, none⟩ u).setCell ⟨g, 1, none⟩ v) g bs rows u v ∧ Ra w0 ((wr.setCell ⟨g, 0, none⟩ u).setCell ⟨g, 1, none⟩ v) bs rows := by
  refine ⟨⟨h.lo, by simpa using h.lt, ?_, ?_, fun j => by rw [World.frozen?_setCell, World.frozen?_setCell]; exact h.fr j, h.ne, h.far⟩, (hR.else h.lo h.ne h.far 0 u).else h.lo h.ne h.far 1 v⟩
  · rw [World.cell?_setCell_other _ _ _ _ (by intro q; injection q with q1 q2; cases q2)]
    exact World.cell?_setCell_same wr _ _ h.c0
  · refine World.cell?_setCell_same _ ⟨g, 1, none⟩ v (u := b) ?_
    rw [World.cell?_setCell_other _ _ _ _ (by intro q; injection q with q1 q2; cases q2)]
    exact h.c1
end
end Go.Proofs.Ytfdjlahaiogabaa
