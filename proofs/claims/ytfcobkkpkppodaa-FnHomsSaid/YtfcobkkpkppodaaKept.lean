
/- What a call leaves alone. -/
import Derived.Test.YtfcobkkpkppodaaSl
import Derived.WalkLawsBesides
import Derived.Laws.OwnMore
namespace Go.Proofs.Ytfcobkkpkppodaa
set_option maxRecDepth 20000
open Go.RowKit

/-- Outside of the blocks from lo to hi nothing has changed. -/
def KeptOut (w w' : World) (lo hi : Nat) : Prop := w'.os = w.os ∧ w'.tape = w.tape ∧ w'.output = w.output ∧ w.heap.size ≤ w'.heap.size ∧ ∀ b, b < w.heap.size → (b < lo ∨ hi ≤ b) → w'.heap[b]? = w.heap[b]?
theorem KeptOut.refl (w : World) (lo hi : Nat) : KeptOut w w lo hi := ⟨rfl, rfl, rfl, Nat.le_refl _, fun _ _ _ => rfl⟩
theorem KeptOut.trans {w w1 w2 : World} {lo hi : Nat} (h : KeptOut w w1 lo hi) (h2 : KeptOut w1 w2 lo hi) : KeptOut w w2 lo hi :=
  ⟨h2.1.trans h.1, h2.2.1.trans h.2.1, h2.2.2.1.trans h.2.2.1, Nat.le_trans h.2.2.2.1 h2.2.2.2.1, fun b hb hx => (h2.2.2.2.2 b (Nat.lt_of_lt_of_le hb h.2.2.2.1) hx).trans (h.2.2.2.2 b hb hx)⟩
theorem KeptOut.wide {w w1 : World} {lo hi lo' hi' : Nat} (h : KeptOut w w1 lo hi) (h1 : lo' ≤ lo) (h2 : hi ≤ hi') : KeptOut w w1 lo' hi' :=
  ⟨h.1, h.2.1, h.2.2.1, h.2.2.2.1, fun b hb hx => h.2.2.2.2 b hb (by omega)⟩
theorem KeptOut.of {w w1 : World} {lo hi : Nat} {r : Option Nat} (h : w.grownBy w1 r) (hr : ∀ g, r = some g → lo ≤ g ∧ g < hi) : KeptOut w w1 lo hi :=
  ⟨h.os, h.tape, h.output, h.size, fun b hb hx => h.block b hb (fun e => by have := hr b e.symm; omega)⟩
theorem KeptOut.below {w w1 : World} {lo hi B : Nat} {w0 : World} (h : KeptOut w w1 lo hi) (hb : Below B w0 w) (hB : B ≤ lo) (hs : B ≤ w.heap.size) : Below B w0 w1 := by
  have h3 : Below B w w1 := ⟨h.1, h.2.1, h.2.2.1, h.2.2.2.1, fun b hlt => h.2.2.2.2 b (by omega) (.inl (by omega))⟩
  exact hb.trans h3
theorem KeptOut.cell {w w1 : World} {lo hi : Nat} (h : KeptOut w w1 lo hi) {b o : Nat} {x : Value} (hc : w.cell? ⟨b, o, none⟩ = some x) (hb : b < w.heap.size) (hd : b < lo ∨ hi ≤ b) : w1.cell? ⟨b, o, none⟩ = some x :=
  (World.cell?_of_block (w := w) (h.2.2.2.2 b hb hd)).trans hc
theorem KeptOut.rd {w w1 : World} {lo hi B : Nat} {v : Value} {xs : List Value} (h : KeptOut w w1 lo hi) (hr : Rd B w v xs) (hB : B ≤ lo) (hs : B ≤ w.heap.size) : Rd B w1 v xs := by
  rcases hr with hr | ⟨b, off, cap, hv, hlt, hcp, hc⟩
  · exact .inl hr
  · exact .inr ⟨b, off, cap, hv, hlt, hcp, fun i u hi => h.cell (hc i u hi) (by omega) (.inl (by omega))⟩
theorem KeptOut.of_below {w w1 : World} {lo hi : Nat} (h : Below w.heap.size w w1) : KeptOut w w1 lo hi := ⟨h.os, h.tape, h.output, h.size, fun b hb _ => h.block b hb⟩
end Go.Proofs.Ytfcobkkpkppodaa
