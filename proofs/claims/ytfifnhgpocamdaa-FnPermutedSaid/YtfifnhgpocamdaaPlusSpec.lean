
/- Sums of elements, both. -/
import Derived.Test.YtfifnhgpocamdaaZero
import Derived.Test.YtfifnhgpocamdaaElemOk
import Derived.StillTailTactics
namespace Go.Proofs.Ytfifnhgpocamdaa
set_option maxRecDepth 20000
open Go.RowKit

def fillL (m : Nat) (f : Nat → Int) (j : Nat) : List Int := (List.range m).map fun i => if i < j then f i else 0
theorem fillL_len (m : Nat) (f : Nat → Int) (j : Nat) : (fillL m f j).length = m := by simp [fillL]
theorem fillL_zero (m : Nat) (f : Nat → Int) : fillL m f 0 = zerosL m := by
  apply List.ext_getElem (by simp [fillL, zerosL])
  intro i h1 h2
  simp [fillL, zerosL]
theorem fillL_set (m : Nat) (f : Nat → Int) (j : Nat) : (fillL m f j).set j (f j) = fillL m f (j + 1) := by
  apply List.ext_getElem (by simp [fillL])
  intro i h1 h2
  simp only [fillL, List.getElem_set, List.getElem_map, List.getElem_range]
  by_cases h : j = i
  · subst h; simp
  · rw [if_neg h]
    by_cases h3 : i < j
    · rw [if_pos h3, if_pos (by omega)]
    · rw [if_neg h3, if_neg (by omega)]
theorem fillL_full (m : Nat) (f : Nat → Int) : fillL m f m = (List.range m).map f := by
  apply List.ext_getElem (by simp [fillL])
  intro i h1 h2
  have : i < m := by simpa [fillL] using h1
  simp [fillL, this]
theorem getD_of {xs : List Int} {i : Nat} {x : Int} (h : xs[i]? = some x) : xs.getD i 0 = x := by rw [List.getD_eq_getElem?_getD, h]; rfl

theorem Inv.set {w0 w : World} {b : Nat} {k p n : Int} {q : Addr} (h : Inv w0 w b k p n) (h1 : b < q.block) (h2 : w0.heap.size ≤ q.block) (u : Value) : Inv w0 (w.setCell q u) b k p n :=
  ⟨h.1.setCell h2 u, h.2.1.below ((Below.refl _ _).setCell (Nat.le_refl _) u) h1, by simpa using h.2.2⟩
/-- A slot of a row of the call's own is there. -/
theorem row_slot {w : World} {B g m j : Nat} {zs : List Int} (h : Hid (w.ownsRow B 3 1 (.slice (some ⟨g, 0, none⟩) m m) m (ints zs))) (hj : j < zs.length) : ∃ x, zs[j]? = some x ∧ w.cell? ⟨g, j, none⟩ = some (.int .i64 x) := by
  have hl : (ints zs).length = m * 1 := h.out.1
  rw [ints_len] at hl
  exact ⟨zs[j], List.getElem?_eq_getElem hj, by rw [h.out.cellAt j (by omega), ints_at _ _ hj]⟩
theorem own_row_by {w w' : World} {B n : Nat} {E : TypeId} {v : Value} {xs : List Value} (h : w.ownsRow B E 1 v n xs) (hb : Below w.heap.size w w') : w'.ownsRow B E 1 v n xs :=
  h.kept (row := none) ⟨hb.os, hb.tape, hb.output, hb.size, fun k hk _ => hb.block k hk⟩ (by
    cases hv : v.ownBlock with
    | none => exact .inl rfl
    | some g => exact .inr (by simp))
theorem row_after {w w1 w' : World} {B g m j : Nat} {zs : List Int} (h : Hid (w.ownsRow B 3 1 (.slice (some ⟨g, 0, none⟩) m m) m (ints zs))) (hb : Below w1.heap.size w1 w') (hh : w1.heap = w.heap) (hs : Hid (∃ x, zs[j]? = some x ∧ w.cell? ⟨g, j, none⟩ = some (.int .i64 x))) :
    Hid (w'.ownsRow B 3 1 (.slice (some ⟨g, 0, none⟩) m m) m (ints zs)) ∧ w'.cell? ⟨g, j, none⟩ = some (.int .i64 (zs.getD j 0)) ∧ w'.frozen? ⟨g, j, none⟩ = false := by
  have h1 : w1.ownsRow B 3 1 (.slice (some ⟨g, 0, none⟩) m m) m (ints zs) := by
    have := h.out
    unfold World.ownsRow at this ⊢
    rw [hh]; exact this
  have h2 := own_row_by h1 hb
  obtain ⟨x, hx, hc⟩ := hs.out
  have hl : (ints zs).length = m * 1 := h1.1
  rw [ints_len] at hl
  have hj := (List.getElem?_eq_some_iff.1 hx).1
  exact ⟨h2, by rw [getD_of hx, h2.cellAt j (by omega)]; simp [ints, hx], h2.frozenAt j⟩

end Go.Proofs.Ytfifnhgpocamdaa
namespace Go.Proofs.Ytfifnhgpocamdaa
set_option maxRecDepth 20000
open Go.RowKit

theorem plus_step {w w1 : World} {B g m j : Nat} {k p a b v : Int} {xs ys : List Int} (h : Hid (w.ownsRow B 3 1 (.slice (some ⟨g, 0, none⟩) m m) m (ints (fillL m (fun i => plusI k p (xs.getD i 0) (ys.getD i 0)) j)))) (hh : w1.heap = w.heap) (hx : Hid (xs[j]? = some a)) (hy : Hid (ys[j]? = some b)) (hv : v = plusI k p a b) :
    Hid ((w1.setCell ⟨g, j, none⟩ (.int .i64 v)).ownsRow B 3 1 (.slice (some ⟨g, 0, none⟩) m m) m (ints (fillL m (fun i => plusI k p (xs.getD i 0) (ys.getD i 0)) (j + 1)))) := by
  have h1 : w1.ownsRow B 3 1 (.slice (some ⟨g, 0, none⟩) m m) m (ints (fillL m (fun i => plusI k p (xs.getD i 0) (ys.getD i 0)) j)) := by
    have := h.out
    unfold World.ownsRow at this ⊢
    rw [hh]; exact this
  have h2 := (h1.stored j (.int .i64 v)).1
  rw [← ints_set, hv, ← getD_of hx.out, ← getD_of hy.out, fillL_set m (fun i => plusI k p (xs.getD i 0) (ys.getD i 0)) j, getD_of hx.out, getD_of hy.out, ← hv] at h2
  exact h2

end Go.Proofs.Ytfifnhgpocamdaa
