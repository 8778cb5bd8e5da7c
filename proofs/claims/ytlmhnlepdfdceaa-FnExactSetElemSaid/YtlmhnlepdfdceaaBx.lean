
/- Boxes of the call's own, which are written. -/
import Derived.Test.YtlmhnlepdfdceaaTenKit
namespace Go.Proofs.Ytlmhnlepdfdceaa
set_option maxRecDepth 20000
set_option maxRecDepth 20000
open Go.RowKit

/-- A box of three cells of the call's own, which may be written. -/
structure Bx (w0 w : World) (r : Nat) (a b c : Value) : Prop where
  bel : Below w0.heap.size w0 w
  c0 : w.cell? ⟨r, 0, none⟩ = some a
  c1 : w.cell? ⟨r, 1, none⟩ = some b
  c2 : w.cell? ⟨r, 2, none⟩ = some c
  fr : ∀ j, w.frozen? ⟨r, j, none⟩ = false
  lt : r < w.heap.size
  lo : w0.heap.size ≤ r
theorem Bx.new {w0 w : World} (h : Below w0.heap.size w0 w) (a b c : Value) (T : TypeId) : Bx w0 (w.alloc (.cells #[a, b, c] T)) w.heap.size a b c :=
  ⟨h.alloc h.size _, by simp [World.cell?_alloc_at], by simp [World.cell?_alloc_at], by simp [World.cell?_alloc_at], fun j => by simp, by simp, h.size⟩
theorem Bx.step {w0 w w' : World} {r : Nat} {a b c : Value} (h : Bx w0 w r a b c) (hb : Below w.heap.size w w') : Bx w0 w' r a b c :=
  ⟨h.bel.trans (hb.mono h.bel.size), (hb.cell (p := ⟨r, 0, none⟩) h.lt).trans h.c0, (hb.cell (p := ⟨r, 1, none⟩) h.lt).trans h.c1, (hb.cell (p := ⟨r, 2, none⟩) h.lt).trans h.c2,
    fun j => (hb.frozen (p := ⟨r, j, none⟩) h.lt).trans (h.fr j), Nat.lt_of_lt_of_le h.lt hb.size, h.lo⟩
theorem Bx.alloc {w0 w : World} {r : Nat} {a b c : Value} (h : Bx w0 w r a b c) (bl : Obj) : Bx w0 (w.alloc bl) r a b c := h.step ((Below.refl _ _).alloc (Nat.le_refl _) bl)
theorem Bx.drewN {w0 w : World} {r : Nat} {a b c : Value} (h : Bx w0 w r a b c) (q : Nat) : Bx w0 (w.drewN q) r a b c := h.step (below_drewN (Below.refl _ _) q)
/-- A store into the box. -/
theorem Bx.set {w0 w : World} {r : Nat} {a b c : Value} (h : Bx w0 w r a b c) (v : Value) (i : Nat) : Bx w0 (w.setCell ⟨r, i, none⟩ v) r (if i = 0 then v else a) (if i = 1 then v else b) (if i = 2 then v else c) := by
  have near : ∀ (o : Nat) (u : Value), w.cell? ⟨r, o, none⟩ = some u → (w.setCell ⟨r, i, none⟩ v).cell? ⟨r, o, none⟩ = some (if i = o then v else u) := fun o u hc => by
    by_cases e : i = o
    · subst e; rw [if_pos rfl]; exact World.cell?_setCell_same w _ _ hc
    · rw [if_neg e, World.cell?_setCell_other w _ _ _ (by intro q; injection q with q1 q2; exact e q2)]; exact hc
  exact ⟨h.bel.setCell h.lo _, near 0 _ h.c0, near 1 _ h.c1, near 2 _ h.c2, fun j => by rw [World.frozen?_setCell]; exact h.fr j, by simpa using h.lt, h.lo⟩
/-- A store into another. -/
theorem Bx.far {w0 w : World} {r : Nat} {a b c : Value} (h : Bx w0 w r a b c) {g : Nat} (hg : r ≠ g) (h0 : w0.heap.size ≤ g) (v : Value) (i : Nat) : Bx w0 (w.setCell ⟨g, i, none⟩ v) r a b c := by
  have far : ∀ (o : Nat), (w.setCell ⟨g, i, none⟩ v).cell? ⟨r, o, none⟩ = w.cell? ⟨r, o, none⟩ := fun o => World.cell?_setCell_other w _ _ _ (by intro e; injection e with e1; exact hg e1.symm)
  exact ⟨h.bel.setCell h0 _, (far 0).trans h.c0, (far 1).trans h.c1, (far 2).trans h.c2, fun j => by rw [World.frozen?_setCell]; exact h.fr j, by simpa using h.lt, h.lo⟩
abbrev nilV : Value := .slice none 0 0
theorem Own.nils {w : World} {lo hi : Nat} (h : hi ≤ w.heap.size) : Own w lo hi nilV [] := ⟨World.ownsRow_nil _ _ _ _, (fun g hg => by cases hg), h⟩
theorem NewTen.nils {w w' : World} (h : Below w.heap.size w w') : NewTen w [] [] [] (.returned (tenV nilV nilV nilV)) w' :=
  ⟨_, _, _, rfl, OwnG.three (Own.nils h.size) (Own.nils (Nat.le_refl _)) (Own.nils (Nat.le_refl _)) (Nat.le_refl _) h.size (Nat.le_refl _), h⟩
/-- Two boxes at the beginning: an argument's, and an answer's. -/
theorem Bx.two (w : World) (a b c x y z : Value) (T T2 : TypeId) : Bx w ((w.alloc (.cells #[a, b, c] T)).alloc (.cells #[x, y, z] T2)) w.heap.size a b c ∧ Bx w ((w.alloc (.cells #[a, b, c] T)).alloc (.cells #[x, y, z] T2)) (w.heap.size + 1) x y z := by
  have h1 := Bx.new (Below.refl w.heap.size w) a b c T
  have h2 := Bx.new h1.bel x y z T2
  simp only [World.size_alloc] at h2
  exact ⟨h1.alloc _, h2⟩

/-- A law's state, with a box of its own that waits for a tensor. -/
structure StB (w0 w : World) (S : List (Nat × Nat × Value)) (R : List (Value × List Int)) (O : List Grp) (b : Nat) : Prop where
  st : St w0 w S R O
  bx : Bx w0 w b nilV nilV nilV
  far : ∀ x ∈ S, x.1 ≠ b
  grp : ∀ g ∈ O, b < g.1 ∨ g.2.1 ≤ b
theorem StB.new {w0 w : World} {S : List (Nat × Nat × Value)} {R : List (Value × List Int)} {O : List Grp} (h : St w0 w S R O) (T : TypeId) : StB w0 (w.alloc (.cells #[nilV, nilV, nilV] T)) S R O w.heap.size :=
  ⟨h.step ((Below.refl _ _).alloc (Nat.le_refl _) _), Bx.new h.bel _ _ _ _, fun x hx => Nat.ne_of_lt (h.lt x hx), fun g hg => .inr (h.own g hg).2.1⟩
theorem StB.step {w0 w w' : World} {S : List (Nat × Nat × Value)} {R : List (Value × List Int)} {O : List Grp} {b : Nat} (h : StB w0 w S R O b) (hb : Below w.heap.size w w') : StB w0 w' S R O b := ⟨h.st.step hb, h.bx.step hb, h.far, h.grp⟩
theorem StB.add {w0 w w' : World} {S : List (Nat × Nat × Value)} {R : List (Value × List Int)} {O : List Grp} {b : Nat} (h : StB w0 w S R O b) (hb : Below w.heap.size w w') {rows : List (Value × List Int)} (ho : OwnG w' w.heap.size w'.heap.size rows) : StB w0 w' S R ((w.heap.size, w'.heap.size, rows) :: O) b :=
  ⟨h.st.grp hb ho, h.bx.step hb, h.far, fun g hg => by
    rcases List.mem_cons.1 hg with rfl | hg
    · exact .inl h.bx.lt
    · exact h.grp g hg⟩
theorem CellsAt.set {w : World} {S : List (Nat × Nat × Value)} (h : CellsAt w S) {g : Nat} (hn : ∀ x ∈ S, x.1 ≠ g) (i : Nat) (v : Value) : CellsAt (w.setCell ⟨g, i, none⟩ v) S := by
  induction S with
  | nil => trivial
  | cons x r ih =>
    refine ⟨?_, ih h.2 (fun y hy => hn y (by simp [hy]))⟩
    rw [World.cell?_setCell_other w _ _ _ (by intro e; injection e with e1; exact hn x (by simp) e1.symm)]
    exact h.1
theorem grownBy_set (w : World) (b i : Nat) (v : Value) : w.grownBy (w.setCell ⟨b, i, none⟩ v) (some b) := grownBy_setCell ⟨rfl, rfl, rfl, Nat.le_refl _, fun _ _ _ => rfl⟩ rfl _
theorem St.set {w0 w : World} {S : List (Nat × Nat × Value)} {R : List (Value × List Int)} {O : List Grp} (h : St w0 w S R O) {b : Nat} (hb : w0.heap.size ≤ b) (far : ∀ x ∈ S, x.1 ≠ b) (grp : ∀ g ∈ O, b < g.1 ∨ g.2.1 ≤ b) (i : Nat) (v : Value) : St w0 (w.setCell ⟨b, i, none⟩ v) S R O :=
  ⟨h.bel.setCell hb _, h.cells.set far i v, fun x hx => by simpa using h.lt x hx, fun r hr => (h.rd r hr).kept (grownBy_set w b i v) h.bel.size (fun g e => by cases e; exact hb),
    fun g hg => ⟨(h.own g hg).1, by simpa using (h.own g hg).2.1, (h.own g hg).2.2.kept (l := b) (h' := b + 1) (KeptOut.of (grownBy_set w b i v) (fun g e => by cases e; exact ⟨Nat.le_refl _, Nat.lt_succ_self _⟩)) (by rcases grp g hg with h | h <;> omega)⟩, h.dis, h.box⟩
/-- The tensor is stored. -/
theorem StB.put {w0 w : World} {S : List (Nat × Nat × Value)} {R : List (Value × List Int)} {O : List Grp} {b : Nat} (h : StB w0 w S R O b) (x y z : Value) :
    St w0 (((w.setCell ⟨b, 0, none⟩ x).setCell ⟨b, 1, none⟩ y).setCell ⟨b, 2, none⟩ z) ((b, 0, x) :: (b, 1, y) :: (b, 2, z) :: S) R O := by
  have s := ((h.st.set h.bx.lo h.far h.grp 0 x).set h.bx.lo h.far h.grp 1 y).set h.bx.lo h.far h.grp 2 z
  have c := ((h.bx.set x 0).set y 1).set z 2
  simp only [if_true, if_false, Nat.one_ne_zero, Nat.zero_ne_one, Nat.reduceEqDiff] at c
  have hl := h.bx.lt
  refine ⟨s.bel, ⟨c.c0, c.c1, c.c2, s.cells⟩, fun q hq => ?_, s.rd, s.own, s.dis, fun g hg q hq => ?_⟩
  · simp only [List.mem_cons] at hq
    rcases hq with rfl | rfl | rfl | hq
    · simpa using hl
    · simpa using hl
    · simpa using hl
    · exact s.lt q hq
  · simp only [List.mem_cons] at hq
    rcases hq with rfl | rfl | rfl | hq
    · exact h.grp g hg
    · exact h.grp g hg
    · exact h.grp g hg
    · exact h.st.box g hg q hq
/-- Groups that are not wanted any more are left out. -/
theorem St.sub {w0 w : World} {S : List (Nat × Nat × Value)} {R : List (Value × List Int)} {O O' : List Grp} (h : St w0 w S R O) (hs : O'.Sublist O) : St w0 w S R O' :=
  ⟨h.bel, h.cells, h.lt, h.rd, fun g hg => h.own g (hs.subset hg), h.dis.sublist hs, fun g hg => h.box g (hs.subset hg)⟩
theorem St.subL {w0 w : World} {S : List (Nat × Nat × Value)} {R : List (Value × List Int)} {O O1 O2 : List Grp} {g : Grp} (h : St w0 w S R O) (e : O1 = O2) (hs : (g :: O2).Sublist O) : St w0 w S R (g :: O1) := e ▸ h.sub hs
theorem St.letter {w0 w : World} {S : List (Nat × Nat × Value)} {R : List (Value × List Int)} {O : List Grp} (_ : Hid (St w0 w S R O)) : ∃ O1, Hid (O1 = O) := ⟨O, Lib.hid rfl⟩
theorem St.keep {w0 w : World} {S : List (Nat × Nat × Value)} {R : List (Value × List Int)} {O : List Grp} (h : St w0 w S R O) (T : TypeId) : CellsAt (w.alloc (.cells #[nilV, nilV, nilV] T)) S := (StB.new h T).st.cells
theorem CellsAt.get {w : World} {S : List (Nat × Nat × Value)} (h : CellsAt w S) : ∀ {i : Nat} {r o : Nat} {u : Value}, S[i]? = some (r, o, u) → w.cell? ⟨r, o, none⟩ = some u := by
  induction S with
  | nil => intro i r o u hi; simp at hi
  | cons x s ih =>
    intro i r o u hi
    cases i with
    | zero => simp only [List.getElem?_cons_zero, Option.some.injEq] at hi; subst hi; exact h.1
    | succ i => rw [List.getElem?_cons_succ] at hi; exact ih h.2 hi
theorem St.cellA {w0 w : World} {S : List (Nat × Nat × Value)} {R : List (Value × List Int)} {O : List Grp} (h : St w0 w S R O) (bl : Obj) (i : Nat) {r o : Nat} {u : Value} (hi : S[i]? = some (r, o, u)) : (w.alloc bl).cell? ⟨r, o, none⟩ = some u :=
  (h.step ((Below.refl _ _).alloc (Nat.le_refl _) bl)).cells.get hi
theorem StB.cell3 {w0 w : World} {S : List (Nat × Nat × Value)} {R : List (Value × List Int)} {O : List Grp} {b : Nat} (h : StB w0 w S R O b) (x y z : Value) (i : Nat) {r o : Nat} {u : Value} (hi : S[i]? = some (r, o, u)) : (((w.setCell ⟨b, 0, none⟩ x).setCell ⟨b, 1, none⟩ y).setCell ⟨b, 2, none⟩ z).cell? ⟨r, o, none⟩ = some u :=
  (((h.st.cells.set h.far 0 x).set h.far 1 y).set h.far 2 z).get hi
/-- The goal's call is met in this world. -/
theorem at_world {P : Program} {f : FuncId} {args : Array Value} {Q : Ending → World → Prop} (w : World) (h : Calls P f args w Q) : Calls P f args w Q := h
end Go.Proofs.Ytlmhnlepdfdceaa
