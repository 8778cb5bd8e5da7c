
/- The element types' rows of this program's table. -/
import Derived.Test.YtgbmacppgaopfabGreatProg
import Derived.WalkKit
import Derived.WalkSpells
import Derived.WalkLawsBesides
import Derived.Lib.Hide
import Derived.Laws.OwnMore
import Derived.Deep.QuietTactic
import Derived.BigQuiet
namespace Go.Proofs.YtgbmacppgaopfabGreat
set_option maxRecDepth 20000
theorem infoInt : (Tryz.prog.info? 3).map (fun i => (i.zero, i.size, i.bytes)) = some (some (.int .i64 0), 1, 8) := by kernel_rfl
end Go.Proofs.YtgbmacppgaopfabGreat
namespace Go.Proofs.YtgbmacppgaopfabGreat
set_option maxRecDepth 20000
open Go Go.RowKit

/-- v is a slice whose cells, one an element, are xs; they lie below block B. -/
def Rd (B : Nat) (w : World) (v : Value) (xs : List Value) : Prop :=
  (xs = [] ∧ ∃ a cap, v = .slice a 0 cap) ∨
  ∃ b off cap, v = .slice (some ⟨b, off, none⟩) xs.length cap ∧ b < B ∧ xs.length ≤ cap ∧ ∀ i u, xs[i]? = some u → w.cell? ⟨b, off + i, none⟩ = some u
theorem Rd.below {B B' : Nat} {w w' : World} {v : Value} {xs : List Value} (h : Rd B w v xs) (hb : Below B' w w') (hB : B ≤ B') : Rd B w' v xs := by
  rcases h with h | ⟨b, off, cap, hv, hlt, hcp, hc⟩
  · exact .inl h
  · exact .inr ⟨b, off, cap, hv, hlt, hcp, fun i u hi => (hb.cell (p := ⟨b, off + i, none⟩) (Nat.lt_of_lt_of_le hlt hB)).trans (hc i u hi)⟩
theorem Rd.mono {B B' : Nat} {w : World} {v : Value} {xs : List Value} (h : Rd B w v xs) (hB : B ≤ B') : Rd B' w v xs := by
  rcases h with h | ⟨b, off, cap, hv, hlt, hcp, hc⟩
  · exact .inl h
  · exact .inr ⟨b, off, cap, hv, Nat.lt_of_lt_of_le hlt hB, hcp, hc⟩
theorem Rd.of_own {base : Nat} {E : TypeId} {w : World} {v : Value} {n : Nat} {xs : List Value} (h : w.ownsRow base E 1 v n xs) : Rd w.heap.size w v xs := by
  have hlen : xs.length = n := by have := h.1; omega
  have hlt := h.lt
  rcases h.2 with ⟨rfl, rfl⟩ | ⟨g, cap, cur, rfl, -, hg, hnc, -⟩
  · exact .inl ⟨List.eq_nil_of_length_eq_zero hlen, _, _, rfl⟩
  · refine .inr ⟨g, 0, cap, by rw [hlen], (hlt g rfl).2, by omega, fun i u hi => ?_⟩
    have hi' : i < n := by
      have := (List.getElem?_eq_some_iff.1 hi).1
      omega
    rw [Nat.zero_add, h.cellAt i (by omega)]
    exact hi
theorem Rd.drewN {B : Nat} {w : World} {v : Value} {xs : List Value} (h : Rd B w v xs) (k : Nat) : Rd B (w.drewN k) v xs := by
  rcases h with h | ⟨b, off, cap, hv, hlt, hcp, hc⟩
  · exact .inl h
  · exact .inr ⟨b, off, cap, hv, hlt, hcp, fun i u hi => hc i u hi⟩
def ints (zs : List Int) : List Value := zs.map (Value.int .i64)
theorem ints_len (zs : List Int) : (ints zs).length = zs.length := by simp [ints]
theorem ints_at (zs : List Int) (i : Nat) (h : i < zs.length) : (ints zs)[i]? = some (.int .i64 zs[i]) := by simp [ints, h]
/-- A read slice of integers: nil or empty, or so many cells. -/
theorem Rd.ints_cases {B : Nat} {w : World} {v : Value} {zs : List Int} (h : Rd B w v (ints zs)) :
    (zs = [] ∧ ∃ a cap, v = .slice a 0 cap) ∨ ∃ b off cap, v = .slice (some ⟨b, off, none⟩) zs.length cap ∧ b < B ∧ zs.length ≤ cap ∧ ∀ i (hi : i < zs.length), w.cell? ⟨b, off + i, none⟩ = some (.int .i64 zs[i]) := by
  rcases h with ⟨h, a, cap, hv⟩ | ⟨b, off, cap, hv, hlt, hcp, hc⟩
  · exact .inl ⟨by simpa [ints] using h, a, cap, hv⟩
  · exact .inr ⟨b, off, cap, by rw [hv, ints_len], hlt, by rw [ints_len] at hcp; exact hcp, fun i hi => hc i _ (ints_at zs i hi)⟩
theorem ints_form {B : Nat} {v : Value} {xs : List Int} {w : World} (h : Rd B w v (ints xs)) : ∃ a cap, v = .slice a xs.length cap ∧ (0 < xs.length → ∃ b off, a = some ⟨b, off, none⟩ ∧ b < B ∧ ∀ i (h : i < xs.length), w.cell? ⟨b, off + i, none⟩ = some (.int .i64 xs[i])) := by
  rcases h.ints_cases with ⟨rfl, a, ca, rfl⟩ | ⟨b, off, ca, rfl, hlt, -, hc⟩
  · exact ⟨a, ca, rfl, fun h => by simp at h⟩
  · exact ⟨_, ca, rfl, fun _ => ⟨b, off, rfl, hlt, hc⟩⟩
theorem ints_cell {w : World} {b off n : Nat} {xs : List Int} (hn : xs.length = n) (hc : ∀ i (h : i < xs.length), w.cell? ⟨b, off + i, none⟩ = some (.int .i64 xs[i])) {k : Nat} (hk : k < n) :
    ∃ x, w.cell? ⟨b, off + k, none⟩ = some (.int .i64 x) ∧ Hid (xs[k]? = some x) :=
  ⟨xs[k]'(by omega), hc k (by omega), List.getElem?_eq_getElem (by omega)⟩
end Go.Proofs.YtgbmacppgaopfabGreat
namespace Go.Proofs.YtgbmacppgaopfabGreat
set_option maxRecDepth 20000
open Go.RowKit


end Go.Proofs.YtgbmacppgaopfabGreat
namespace Go.Proofs.YtgbmacppgaopfabGreat
set_option maxRecDepth 20000
open Go.RowKit

end Go.Proofs.YtgbmacppgaopfabGreat
namespace Go.Proofs.YtgbmacppgaopfabGreat
set_option maxRecDepth 20000
open Go.RowKit

/-- Outside of the blocks from lo to hi nothing has changed. -/
def KeptOut (w w' : World) (lo hi : Nat) : Prop := w'.os = w.os ∧ w'.tape = w.tape ∧ w'.output = w.output ∧ w.heap.size ≤ w'.heap.size ∧ ∀ b, b < w.heap.size → (b < lo ∨ hi ≤ b) → w'.heap[b]? = w.heap[b]?
theorem KeptOut.refl (w : World) (lo hi : Nat) : KeptOut w w lo hi := ⟨rfl, rfl, rfl, Nat.le_refl _, fun _ _ _ => rfl⟩
theorem KeptOut.trans {w w1 w2 : World} {lo hi : Nat} (h : KeptOut w w1 lo hi) (h2 : KeptOut w1 w2 lo hi) : KeptOut w w2 lo hi :=
  ⟨h2.1.trans h.1, h2.2.1.trans h.2.1, h2.2.2.1.trans h.2.2.1, Nat.le_trans h.2.2.2.1 h2.2.2.2.1, fun b hb hx => (h2.2.2.2.2 b (Nat.lt_of_lt_of_le hb h.2.2.2.1) hx).trans (h.2.2.2.2 b hb hx)⟩
theorem KeptOut.wide {w w1 : World} {lo hi lo' hi' : Nat} (h : KeptOut w w1 lo hi) (h1 : lo' ≤ lo) (h2 : hi ≤ hi') : KeptOut w w1 lo' hi' :=
  ⟨h.1, h.2.1, h.2.2.1, h.2.2.2.1, fun b hb hx => h.2.2.2.2 b hb (by omega)⟩
theorem KeptOut.of {w w1 : World} {lo hi : Nat} {r : Option Nat} (h : w.grownBy w1 r) (hr : ∀ g, r = some g → lo ≤ g ∧ g < hi) : KeptOut w w1 lo hi :=
  ⟨h.os, h.tape, h.output, h.size, fun b hb hx => h.block b hb (fun e => by have := hr b e.symm; omega)⟩
theorem KeptOut.below {w w1 : World} {lo hi B : Nat} {w0 : World} (h : KeptOut w w1 lo hi) (hb : Below B w0 w) (hB : B ≤ lo) (hs : B ≤ w.heap.size) : Below B w0 w1 := by
  have h3 : Below B w w1 := ⟨h.1, h.2.1, h.2.2.1, h.2.2.2.1, fun b hlt => h.2.2.2.2 b (by omega) (.inl (by omega))⟩
  exact hb.trans h3
theorem KeptOut.cell {w w1 : World} {lo hi : Nat} (h : KeptOut w w1 lo hi) {b o : Nat} {x : Value} (hc : w.cell? ⟨b, o, none⟩ = some x) (hb : b < w.heap.size) (hd : b < lo ∨ hi ≤ b) : w1.cell? ⟨b, o, none⟩ = some x :=
  (World.cell?_of_block (w := w) (h.2.2.2.2 b hb hd)).trans hc
theorem KeptOut.rd {w w1 : World} {lo hi B : Nat} {v : Value} {xs : List Value} (h : KeptOut w w1 lo hi) (hr : Rd B w v xs) (hB : B ≤ lo) (hs : B ≤ w.heap.size) : Rd B w1 v xs := by
  rcases hr with hr | ⟨b, off, cap, hv, hlt, hcp, hc⟩
  · exact .inl hr
  · exact .inr ⟨b, off, cap, hv, hlt, hcp, fun i u hi => h.cell (hc i u hi) (by omega) (.inl (by omega))⟩
theorem KeptOut.of_below {w w1 : World} {lo hi : Nat} (h : Below w.heap.size w w1) : KeptOut w w1 lo hi := ⟨h.os, h.tape, h.output, h.size, fun b hb _ => h.block b hb⟩
end Go.Proofs.YtgbmacppgaopfabGreat
namespace Go.Proofs.YtgbmacppgaopfabGreat
set_option maxRecDepth 20000
open Go.RowKit

/-- v is a row of integers xs of the call's own, whose block, if it has one, lies from lo to hi. -/
def Own (w : World) (lo hi : Nat) (v : Value) (xs : List Int) : Prop :=
  w.ownsRow lo 3 1 v xs.length (ints xs) ∧ (∀ g, v.ownBlock = some g → g < hi) ∧ hi ≤ w.heap.size
/-- What a function that makes a row answers. -/
def NewRow (w : World) (xs : List Int) (e : Ending) (w' : World) : Prop := ∃ r, e = .returned r ∧ Own w' w.heap.size w'.heap.size r xs ∧ Below w.heap.size w w'
theorem Own.of {w : World} {lo n : Nat} {v : Value} {xs : List Int} (h : w.ownsRow lo 3 1 v n (ints xs)) (hn : xs.length = n) : Own w lo w.heap.size v xs :=
  ⟨hn ▸ h, fun g hg => (h.lt g hg).2, Nat.le_refl _⟩
theorem Own.nil (w : World) (lo : Nat) : Own w lo w.heap.size (.slice none 0 0) [] := ⟨World.ownsRow_nil _ _ _ _, (fun g hg => by cases hg), Nat.le_refl _⟩
theorem Own.lo {w : World} {lo hi : Nat} {v : Value} {xs : List Int} (h : Own w lo hi v xs) : ∀ g, v.ownBlock = some g → lo ≤ g := fun g hg => (h.1.lt g hg).1
theorem Own.kept {w w' : World} {lo hi : Nat} {v : Value} {xs : List Int} {row : Option Nat} (h : Own w lo hi v xs) (hg : w.grownBy w' row) (hne : ∀ g, row = some g → g < lo ∨ hi ≤ g) : Own w' lo hi v xs :=
  ⟨h.1.kept (row := row) hg (by
    cases hv : v.ownBlock with
    | none => exact .inl rfl
    | some g =>
      refine .inr fun e => ?_
      have h1 := h.2.1 g hv
      have h2 := h.lo g hv
      rcases hne g e.symm with h3 | h3 <;> omega), h.2.1, Nat.le_trans h.2.2 hg.size⟩
theorem Own.below {w w' : World} {lo hi B : Nat} {v : Value} {xs : List Int} (h : Own w lo hi v xs) (hb : Below B w w') (hB : w.heap.size ≤ B) : Own w' lo hi v xs :=
  h.kept (row := none) ⟨hb.os, hb.tape, hb.output, hb.size, fun k hk _ => hb.block k (Nat.lt_of_lt_of_le hk hB)⟩ (fun g hg => by cases hg)
theorem Own.rd {w : World} {lo hi : Nat} {v : Value} {xs : List Int} (h : Own w lo hi v xs) : Rd hi w v (ints xs) := by
  rcases Rd.of_own h.1 with ⟨h1, a, cap, rfl⟩ | ⟨b, off, cap, rfl, h2, h3⟩
  · exact .inl ⟨h1, a, cap, rfl⟩
  · exact .inr ⟨b, off, cap, rfl, h.2.1 b rfl, h3⟩
theorem Rd.kept {B : Nat} {w w' : World} {v : Value} {xs : List Value} {row : Option Nat} (h : Rd B w v xs) (hg : w.grownBy w' row) (hB : B ≤ w.heap.size) (hne : ∀ g, row = some g → B ≤ g) : Rd B w' v xs := by
  rcases h with h | ⟨b, off, cap, hv, hlt, hcp, hc⟩
  · exact .inl h
  · refine .inr ⟨b, off, cap, hv, hlt, hcp, fun i u hi => ?_⟩
    have hb : w'.heap[b]? = w.heap[b]? := hg.block b (by omega) (fun e => by have := hne b e.symm; omega)
    rw [← hc i u hi]
    exact World.cell?_of_block (w := w) hb
theorem grownBy_setCell {w w1 : World} {r : Option Nat} (h : w.grownBy w1 r) {p : Addr} (hp : some p.block = r) (u : Value) : w.grownBy (w1.setCell p u) r :=
  ⟨h.os, h.tape, h.output, by simpa using h.size, fun k hk hr => (Below.heap_setCell w1 p u k (fun e => hr (by rw [e, hp]))).trans (h.block k hk hr)⟩

end Go.Proofs.YtgbmacppgaopfabGreat
