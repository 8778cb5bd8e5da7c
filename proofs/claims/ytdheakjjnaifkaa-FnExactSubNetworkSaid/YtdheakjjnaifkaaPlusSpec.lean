
/- Sums of elements, both. -/
import Derived.Test.YtdheakjjnaifkaaZero
import Derived.Test.YtdheakjjnaifkaaElem
import Derived.StillTailTactics
namespace Go.Proofs.Ytdheakjjnaifkaa
set_option maxRecDepth 20000
open Go.RowKit

def fillL (m : Nat) (f : Nat → Int) (j : Nat) : List Int := (List.range m).map fun i => if i < j then f i else 0
theorem fillL_len (m : Nat) (f : Nat → Int) (j : Nat) : (fillL m f j).length = m := by simp [fillL]
theorem fillL_zero (m : Nat) (f : Nat → Int) : fillL m f 0 = zerosL m := by
  apply List.ext_getElem (by simp [fillL, zerosL])
  intro i h1 h2
  simp [fillL, zerosL]
theorem fillL_set (m : Nat) (f : Nat → Int) (j : Nat) : (fillL m f j).set j (f j) = fillL m f (j + 1) := by
  apply List.ext_getElem (by simp [fillL])
  intro i h1 h2
  simp only [fillL, List.getElem_set, List.getElem_map, List.getElem_range]
  by_cases h : j = i
  · subst h; simp
  · rw [if_neg h]
    by_cases h3 : i < j
    · rw [if_pos h3, if_pos (by omega)]
    · rw [if_neg h3, if_neg (by omega)]
theorem fillL_full (m : Nat) (f : Nat → Int) : fillL m f m = (List.range m).map f := by
  apply List.ext_getElem (by simp [fillL])
  intro i h1 h2
  have : i < m := by simpa [fillL] using h1
  simp [fillL, this]
theorem getD_of {xs : List Int} {i : Nat} {x : Int} (h : xs[i]? = some x) : xs.getD i 0 = x := by rw [List.getD_eq_getElem?_getD, h]; rfl

theorem Inv.set {w0 w : World} {b : Nat} {k p n : Int} {q : Addr} (h : Inv w0 w b k p n) (h1 : b < q.block) (h2 : w0.heap.size ≤ q.block) (u : Value) : Inv w0 (w.setCell q u) b k p n :=
  ⟨h.1.setCell h2 u, h.2.1.below ((Below.refl _ _).setCell (Nat.le_refl _) u) h1, by simpa using h.2.2⟩
/-- A slot of a row of the call's own is there. -/
theorem row_slot {w : World} {B g m j : Nat} {zs : List Int} (h : Hid (w.ownsRow B 3 1 (.slice (some ⟨g, 0, none⟩) m m) m (ints zs))) (hj : j < zs.length) : ∃ x, zs[j]? = some x ∧ w.cell? ⟨g, j, none⟩ = some (.int .i64 x) := by
  have hl : (ints zs).length = m * 1 := h.out.1
  rw [ints_len] at hl
  exact ⟨zs[j], List.getElem?_eq_getElem hj, by rw [h.out.cellAt j (by omega), ints_at _ _ hj]⟩
theorem own_row_by {w w' : World} {B n : Nat} {E : TypeId} {v : Value} {xs : List Value} (h : w.ownsRow B E 1 v n xs) (hb : Below w.heap.size w w') : w'.ownsRow B E 1 v n xs :=
  h.kept (row := none) ⟨hb.os, hb.tape, hb.output, hb.size, fun k hk _ => hb.block k hk⟩ (by
    cases hv : v.ownBlock with
    | none => exact .inl rfl
    | some g => exact .inr (by simp))
theorem row_after {w w1 w' : World} {B g m j : Nat} {zs : List Int} (h : Hid (w.ownsRow B 3 1 (.slice (some ⟨g, 0, none⟩) m m) m (ints zs))) (hb : Below w1.heap.size w1 w') (hh : w1.heap = w.heap) (hs : Hid (∃ x, zs[j]? = some x ∧ w.cell? ⟨g, j, none⟩ = some (.int .i64 x))) :
    Hid (w'.ownsRow B 3 1 (.slice (some ⟨g, 0, none⟩) m m) m (ints zs)) ∧ w'.cell? ⟨g, j, none⟩ = some (.int .i64 (zs.getD j 0)) ∧ w'.frozen? ⟨g, j, none⟩ = false := by
  have h1 : w1.ownsRow B 3 1 (.slice (some ⟨g, 0, none⟩) m m) m (ints zs) := by
    have := h.out
    unfold World.ownsRow at this ⊢
    rw [hh]; exact this
  have h2 := own_row_by h1 hb
  obtain ⟨x, hx, hc⟩ := hs.out
  have hl : (ints zs).length = m * 1 := h1.1
  rw [ints_len] at hl
  have hj := (List.getElem?_eq_some_iff.1 hx).1
  exact ⟨h2, by rw [getD_of hx, h2.cellAt j (by omega)]; simp [ints, hx], h2.frozenAt j⟩

/-- The row X with x added at s, j places so far. -/
def addAt (k p : Int) (X : List Int) (s : Nat) (x : List Int) (j : Nat) : List Int := (List.range X.length).map fun i => if s ≤ i ∧ i < s + j then plusI k p (X.getD i 0) (x.getD (i - s) 0) else X.getD i 0
theorem addAt_len (k p : Int) (X : List Int) (s : Nat) (x : List Int) (j : Nat) : (addAt k p X s x j).length = X.length := by simp [addAt]
theorem addAt_zero (k p : Int) (X : List Int) (s : Nat) (x : List Int) : addAt k p X s x 0 = X := by
  apply List.ext_getElem (by simp [addAt])
  intro i h1 h2
  simp only [addAt, List.getElem_map, List.getElem_range]
  rw [if_neg (by omega), List.getD_eq_getElem?_getD, List.getElem?_eq_getElem h2]
  rfl
theorem addAt_at {k p : Int} {X : List Int} {s : Nat} {x : List Int} {j : Nat} {a : Int} (ha : X[s + j]? = some a) : (addAt k p X s x j)[s + j]? = some a := by
  have hl := (List.getElem?_eq_some_iff.1 ha).1
  unfold addAt
  rw [List.getElem?_map, List.getElem?_range hl]
  show some (if _ then _ else _) = _
  rw [if_neg (by omega), getD_of ha]
theorem addAt_next {k p : Int} {X : List Int} {s : Nat} {x : List Int} {j : Nat} {a b : Int} (ha : X[s + j]? = some a) (hb : x[j]? = some b) : (addAt k p X s x j).set (s + j) (plusI k p a b) = addAt k p X s x (j + 1) := by
  apply List.ext_getElem (by simp [addAt])
  intro i h1 h2
  simp only [addAt, List.getElem_set, List.getElem_map, List.getElem_range]
  by_cases h : s + j = i
  · subst h
    rw [if_pos rfl, if_pos (by omega), getD_of ha, Nat.add_sub_cancel_left, getD_of hb]
  · rw [if_neg h]
    by_cases h3 : s ≤ i ∧ i < s + j
    · rw [if_pos h3, if_pos (by omega)]
    · rw [if_neg h3, if_neg (by omega)]
theorem addAt_all {k p : Int} {xs ys : List Int} : addAt k p xs 0 ys xs.length = plusL k p xs ys := by
  apply List.ext_getElem (by simp [addAt, plusL])
  intro i h1 h2
  have h3 : i < xs.length := by simpa [addAt] using h1
  simp only [addAt, plusL, List.getElem_map, List.getElem_range]
  rw [if_pos (by omega), Nat.sub_zero]
/-- The call's memory: the row that is written, and the ring's box. -/
def AddS (w : World) (lo g m cap r : Nat) (k p n : Int) (zs : List Int) (wr : World) : Prop :=
  w.grownBy wr (some g) ∧ wr.ownsRow lo 3 1 (.slice (some ⟨g, 0, none⟩) m cap) m (ints zs) ∧ (wr.cell? ⟨r, 0, none⟩ = some (.int .i64 k) ∧ wr.cell? ⟨r, 1, none⟩ = some (.int .i64 p) ∧ wr.cell? ⟨r, 2, none⟩ = some (.int .i64 n)) ∧ r < wr.heap.size ∧ g ≠ r
theorem AddS.step {w wr w' : World} {lo g m cap r : Nat} {k p n : Int} {zs : List Int} (h : AddS w lo g m cap r k p n zs wr) (hb : Below wr.heap.size wr w') : AddS w lo g m cap r k p n zs w' := by
  obtain ⟨h1, h2, ⟨h3, h4, h5⟩, h6, h7⟩ := h
  refine ⟨⟨hb.os.trans h1.os, hb.tape.trans h1.tape, hb.output.trans h1.output, Nat.le_trans h1.size hb.size, fun j hj hne => (hb.block j (Nat.lt_of_lt_of_le hj h1.size)).trans (h1.block j hj hne)⟩, own_row_by h2 hb, ⟨?_, ?_, ?_⟩, Nat.lt_of_lt_of_le h6 hb.size, h7⟩
  · exact (hb.cell (p := ⟨r, 0, none⟩) h6).trans h3
  · exact (hb.cell (p := ⟨r, 1, none⟩) h6).trans h4
  · exact (hb.cell (p := ⟨r, 2, none⟩) h6).trans h5
theorem AddS.drew {w wr : World} {lo g m cap r : Nat} {k p n : Int} {zs : List Int} (h : AddS w lo g m cap r k p n zs wr) : AddS w lo g m cap r k p n zs wr.drew := h.step (Below.drew (Below.refl _ _))
theorem AddS.set {w wr : World} {lo g m cap r : Nat} {k p n : Int} {zs : List Int} (h : AddS w lo g m cap r k p n zs wr) (i : Nat) (x : Int) : AddS w lo g m cap r k p n (zs.set i x) (wr.setCell ⟨g, i, none⟩ (.int .i64 x)) := by
  obtain ⟨h1, h2, ⟨h3, h4, h5⟩, h6, h7⟩ := h
  have e := (h2.stored i (.int .i64 x)).1
  rw [← ints_set] at e
  refine ⟨grownBy_setCell h1 rfl _, e, ⟨?_, ?_, ?_⟩, by simpa using h6, h7⟩
  · exact (World.cell?_of_block (w := wr) (Below.heap_setCell wr ⟨g, i, none⟩ _ r (fun e => h7 e.symm))).trans h3
  · exact (World.cell?_of_block (w := wr) (Below.heap_setCell wr ⟨g, i, none⟩ _ r (fun e => h7 e.symm))).trans h4
  · exact (World.cell?_of_block (w := wr) (Below.heap_setCell wr ⟨g, i, none⟩ _ r (fun e => h7 e.symm))).trans h5
theorem AddS.at {w wr : World} {lo g m cap r : Nat} {k p n : Int} {zs : List Int} (h : AddS w lo g m cap r k p n zs wr) {i : Nat} {a : Int} (hi : zs[i]? = some a) : wr.cell? ⟨g, i, none⟩ = some (.int .i64 a) ∧ wr.frozen? ⟨g, i, none⟩ = false := by
  obtain ⟨h1, h2, -⟩ := h
  have hl : (ints zs).length = m * 1 := h2.1
  rw [ints_len] at hl
  have hlt := (List.getElem?_eq_some_iff.1 hi).1
  refine ⟨?_, h2.frozenAt i⟩
  rw [h2.cellAt i (by omega)]
  simp [ints, hi]

theorem own_base {w : World} {lo lo' m : Nat} {E : TypeId} {sz : Nat} {v : Value} {xs : List Value} (h : w.ownsRow lo E sz v m xs) (h1 : lo' ≤ lo) : w.ownsRow lo' E sz v m xs := ⟨h.1, h.2.imp id (fun ⟨g, cap, cur, e, hb, q⟩ => ⟨g, cap, cur, e, Nat.le_trans h1 hb, q⟩)⟩
end Go.Proofs.Ytdheakjjnaifkaa
namespace Go.Proofs.Ytdheakjjnaifkaa
set_option maxRecDepth 20000
open Go.RowKit

theorem plus_step {w w1 : World} {B g m j : Nat} {k p a b v : Int} {xs ys : List Int} (h : Hid (w.ownsRow B 3 1 (.slice (some ⟨g, 0, none⟩) m m) m (ints (fillL m (fun i => plusI k p (xs.getD i 0) (ys.getD i 0)) j)))) (hh : w1.heap = w.heap) (hx : Hid (xs[j]? = some a)) (hy : Hid (ys[j]? = some b)) (hv : v = plusI k p a b) :
    Hid ((w1.setCell ⟨g, j, none⟩ (.int .i64 v)).ownsRow B 3 1 (.slice (some ⟨g, 0, none⟩) m m) m (ints (fillL m (fun i => plusI k p (xs.getD i 0) (ys.getD i 0)) (j + 1)))) := by
  have h1 : w1.ownsRow B 3 1 (.slice (some ⟨g, 0, none⟩) m m) m (ints (fillL m (fun i => plusI k p (xs.getD i 0) (ys.getD i 0)) j)) := by
    have := h.out
    unfold World.ownsRow at this ⊢
    rw [hh]; exact this
  have h2 := (h1.stored j (.int .i64 v)).1
  rw [← ints_set, hv, ← getD_of hx.out, ← getD_of hy.out, fillL_set m (fun i => plusI k p (xs.getD i 0) (ys.getD i 0)) j, getD_of hx.out, getD_of hy.out, ← hv] at h2
  exact h2

end Go.Proofs.Ytdheakjjnaifkaa
