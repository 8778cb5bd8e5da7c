
/- What a law's walk carries: cells of boxes, lists that are read, groups of rows of the call's own. -/
import Derived.Test.YtgbmacppgaopfabGreatTensorOk
import Derived.Test.YtgbmacppgaopfabGreatLawKit
namespace Go.Proofs.YtgbmacppgaopfabGreat
set_option maxRecDepth 20000
open Go.RowKit

/-- No two of these rows lie in one block. -/
def ApartG (rows : List (Value × List Int)) : Prop := rows.Pairwise (fun a b => ∀ g, a.1.ownBlock = some g → b.1.ownBlock ≠ some g)
/-- The rows of a group: of the call's own, in blocks from lo to hi, no two in one. -/
def OwnG (w : World) (lo hi : Nat) (rows : List (Value × List Int)) : Prop := (∀ r ∈ rows, Own w lo hi r.1 r.2) ∧ ApartG rows
theorem OwnG.below {w w' : World} {lo hi B : Nat} {rows : List (Value × List Int)} (h : OwnG w lo hi rows) (hb : Below B w w') (hB : w.heap.size ≤ B) : OwnG w' lo hi rows := ⟨fun r hr => (h.1 r hr).below hb hB, h.2⟩
theorem OwnG.kept {w w' : World} {lo hi l h' : Nat} {rows : List (Value × List Int)} (h : OwnG w lo hi rows) (hk : KeptOut w w' l h') (hd : hi ≤ l ∨ h' ≤ lo) : OwnG w' lo hi rows :=
  ⟨fun r hr => by
    have ho := h.1 r hr
    refine ⟨?_, ho.2.1, Nat.le_trans ho.2.2 hk.2.2.2.1⟩
    have hsame : ∀ g, r.1.ownBlock = some g → w'.heap[g]? = w.heap[g]? := fun g hg => hk.2.2.2.2 g (by have := ho.2.1 g hg; have := ho.2.2; omega) (by have := ho.2.1 g hg; have := ho.lo g hg; omega)
    have hrow := ho.1
    have hlt := hrow.lt
    refine ⟨hrow.1, ?_⟩
    rcases hrow.2 with hn | ⟨g, cap, cur, e, h1, h2, h3⟩
    · exact .inl hn
    · exact .inr ⟨g, cap, cur, e, h1, by rw [hsame g (by rw [e]; rfl)]; exact h2, h3⟩, h.2⟩
theorem OwnG.wide {w : World} {lo hi lo' hi' : Nat} {rows : List (Value × List Int)} (h : OwnG w lo hi rows) (h1 : lo' ≤ lo) (h2 : hi ≤ hi') (h3 : hi' ≤ w.heap.size) : OwnG w lo' hi' rows :=
  ⟨fun r hr => ⟨⟨(h.1 r hr).1.1, (h.1 r hr).1.2.imp id (fun ⟨g, cap, cur, e, hb, q⟩ => ⟨g, cap, cur, e, Nat.le_trans h1 hb, q⟩)⟩, fun g hg => Nat.lt_of_lt_of_le ((h.1 r hr).2.1 g hg) h2, h3⟩, h.2⟩

abbrev Grp := Nat × Nat × List (Value × List Int)
structure St (w0 w : World) (S : List (Nat × Nat × Value)) (R : List (Value × List Int)) (O : List Grp) : Prop where
  bel : Below w0.heap.size w0 w
  cells : CellsAt w S
  lt : ∀ x ∈ S, x.1 < w.heap.size
  rd : ∀ r ∈ R, Rd w0.heap.size w r.1 (ints r.2)
  own : ∀ g ∈ O, w0.heap.size ≤ g.1 ∧ g.2.1 ≤ w.heap.size ∧ OwnG w g.1 g.2.1 g.2.2
  dis : O.Pairwise (fun a b => b.2.1 ≤ a.1 ∨ a.2.1 ≤ b.1)
  box : ∀ g ∈ O, ∀ x ∈ S, x.1 < g.1 ∨ g.2.1 ≤ x.1
variable {w0 w w' : World} {S : List (Nat × Nat × Value)} {R : List (Value × List Int)} {O : List Grp}
theorem St.start (w : World) {R : List (Value × List Int)} (h : ∀ r ∈ R, Rd w.heap.size w r.1 (ints r.2)) : St w w [] R [] :=
  ⟨Below.refl _ _, trivial, fun x hx => by simp at hx, h, fun g hg => by simp at hg, List.Pairwise.nil, fun g hg => by simp at hg⟩
theorem St.step (h : St w0 w S R O) (hb : Below w.heap.size w w') : St w0 w' S R O :=
  ⟨h.bel.trans (hb.mono h.bel.size), h.cells.below hb h.lt, fun x hx => Nat.lt_of_lt_of_le (h.lt x hx) hb.size, fun r hr => (h.rd r hr).below hb h.bel.size,
    fun g hg => ⟨(h.own g hg).1, Nat.le_trans (h.own g hg).2.1 hb.size, (h.own g hg).2.2.below hb (Nat.le_refl _)⟩, h.dis, h.box⟩
theorem St.drewN (h : St w0 w S R O) (q : Nat) : St w0 (w.drewN q) S R O := h.step (below_drewN (Below.refl _ _) q)
theorem St.drew (h : St w0 w S R O) : St w0 w.drew S R O := h.drewN 1
theorem St.box3 (h : St w0 w S R O) (x y z : Value) (T : TypeId) : St w0 (w.alloc (.cells #[x, y, z] T)) ((w.heap.size, 0, x) :: (w.heap.size, 1, y) :: (w.heap.size, 2, z) :: S) R O := by
  have hs := h.step ((Below.refl _ _).alloc (Nat.le_refl _) (.cells #[x, y, z] T))
  refine ⟨hs.bel, ⟨by simp [World.cell?_alloc_at], by simp [World.cell?_alloc_at], by simp [World.cell?_alloc_at], hs.cells⟩, fun q hq => ?_, hs.rd, hs.own, hs.dis, fun g hg q hq => ?_⟩
  · simp only [List.mem_cons] at hq
    rcases hq with rfl | rfl | rfl | hq
    · simp
    · simp
    · simp
    · exact hs.lt q hq
  · have := (h.own g hg).2.1
    simp only [List.mem_cons] at hq
    rcases hq with rfl | rfl | rfl | hq
    · exact .inr this
    · exact .inr this
    · exact .inr this
    · exact hs.box g hg q hq
/-- A function has made new rows. -/
theorem St.grp (h : St w0 w S R O) (hb : Below w.heap.size w w') {rows : List (Value × List Int)} (ho : OwnG w' w.heap.size w'.heap.size rows) : St w0 w' S R ((w.heap.size, w'.heap.size, rows) :: O) := by
  have hs := h.step hb
  refine ⟨hs.bel, hs.cells, hs.lt, hs.rd, fun g hg => ?_, List.pairwise_cons.2 ⟨fun g hg => .inl (h.own g hg).2.1, hs.dis⟩, fun g hg x hx => ?_⟩
  · rcases List.mem_cons.1 hg with rfl | hg
    · exact ⟨h.bel.size, Nat.le_refl _, ho⟩
    · exact hs.own g hg
  · rcases List.mem_cons.1 hg with rfl | hg
    · exact .inl (h.lt x hx)
    · exact hs.box g hg x hx
theorem St.cellAt (h : St w0 w S R O) : CellsAt w S := h.cells
end Go.Proofs.YtgbmacppgaopfabGreat
namespace Go.Proofs.YtgbmacppgaopfabGreat
set_option maxRecDepth 20000
open Go.RowKit

/-- What a function that makes a tensor answers. -/
def NewTen (w : World) (L D X : List Int) (e : Ending) (w' : World) : Prop := ∃ lv dv xv, e = .returned (tenV lv dv xv) ∧ OwnG w' w.heap.size w'.heap.size [(lv, L), (dv, D), (xv, X)] ∧ Below w.heap.size w w'
theorem ApartG.three {a b c : Value} {x y z : List Int} (h1 : ∀ g, a.ownBlock = some g → b.ownBlock ≠ some g) (h2 : ∀ g, a.ownBlock = some g → c.ownBlock ≠ some g) (h3 : ∀ g, b.ownBlock = some g → c.ownBlock ≠ some g) : ApartG [(a, x), (b, y), (c, z)] := by
  refine List.pairwise_cons.2 ⟨fun q hq => ?_, List.pairwise_cons.2 ⟨fun q hq => ?_, List.pairwise_cons.2 ⟨fun q hq => by simp at hq, List.Pairwise.nil⟩⟩⟩
  · simp only [List.mem_cons, List.not_mem_nil, or_false] at hq
    rcases hq with rfl | rfl
    · exact h1
    · exact h2
  · simp only [List.mem_cons, List.not_mem_nil, or_false] at hq
    subst hq; exact h3
theorem ApartG.inv {a b c : Value} {x y z : List Int} (h : ApartG [(a, x), (b, y), (c, z)]) (x' y' z' : List Int) : ApartG [(a, x'), (b, y'), (c, z')] := by
  obtain ⟨h1, h2⟩ := List.pairwise_cons.1 h
  obtain ⟨h3, -⟩ := List.pairwise_cons.1 h2
  exact ApartG.three (h1 (b, y) (by simp)) (h1 (c, z) (by simp)) (h3 (c, z) (by simp))
/-- Rows that were made one behind the other. -/
theorem OwnG.three {w : World} {lo m1 m2 hi : Nat} {a b c : Value} {x y z : List Int} (ha : Own w lo m1 a x) (hb : Own w m1 m2 b y) (hc : Own w m2 hi c z) (h1 : lo ≤ m1) (h2 : m1 ≤ m2) (h3 : m2 ≤ hi) : OwnG w lo hi [(a, x), (b, y), (c, z)] := by
  have wide : ∀ {l h : Nat} {v : Value} {xs : List Int}, Own w l h v xs → lo ≤ l → h ≤ hi → Own w lo hi v xs := fun {l h v xs} ho hl hh =>
    ⟨⟨ho.1.1, ho.1.2.imp id (fun ⟨g, cap, cur, e, hb, q⟩ => ⟨g, cap, cur, e, Nat.le_trans hl hb, q⟩)⟩, fun g hg => Nat.lt_of_lt_of_le (ho.2.1 g hg) hh, hc.2.2⟩
  refine ⟨fun r hr => ?_, ApartG.three (fun g hg hg' => ?_) (fun g hg hg' => ?_) (fun g hg hg' => ?_)⟩
  · simp only [List.mem_cons, List.not_mem_nil, or_false] at hr
    rcases hr with rfl | rfl | rfl
    · exact wide ha (Nat.le_refl _) (by omega)
    · exact wide hb h1 h3
    · exact wide hc (by omega) (Nat.le_refl _)
  · have := ha.2.1 g hg; have := hb.lo g hg'; omega
  · have := ha.2.1 g hg; have := hc.lo g hg'; omega
  · have := hb.2.1 g hg; have := hc.lo g hg'; omega

/-- laws.toTensor under way: the argument's box, the answer's, and the copy's. -/
structure TT (w wi : World) (lv dv xv a b c : Value) : Prop where
  bel : Below w.heap.size w wi
  s0 : wi.cell? ⟨w.heap.size, 0, none⟩ = some lv
  s1 : wi.cell? ⟨w.heap.size, 1, none⟩ = some dv
  s2 : wi.cell? ⟨w.heap.size, 2, none⟩ = some xv
  r0 : wi.cell? ⟨w.heap.size + 1, 0, none⟩ = some (.slice none 0 0)
  r1 : wi.cell? ⟨w.heap.size + 1, 1, none⟩ = some (.slice none 0 0)
  r2 : wi.cell? ⟨w.heap.size + 1, 2, none⟩ = some (.slice none 0 0)
  o0 : wi.cell? ⟨w.heap.size + 1 + 1, 0, none⟩ = some a
  o1 : wi.cell? ⟨w.heap.size + 1 + 1, 1, none⟩ = some b
  o2 : wi.cell? ⟨w.heap.size + 1 + 1, 2, none⟩ = some c
  fr : ∀ j, wi.frozen? ⟨w.heap.size + 1, j, none⟩ = false
  fo : ∀ j, wi.frozen? ⟨w.heap.size + 1 + 1, j, none⟩ = false
  lt : w.heap.size + 1 + 1 < wi.heap.size
theorem TT.start (w : World) (lv dv xv : Value) (T1 T2 : TypeId) : TT w (((w.alloc (.cells #[lv, dv, xv] T1)).alloc (.cells #[.slice none 0 0, .slice none 0 0, .slice none 0 0] T2)).alloc (.cells #[.slice none 0 0, .slice none 0 0, .slice none 0 0] T2)) lv dv xv (.slice none 0 0) (.slice none 0 0) (.slice none 0 0) := by
  have e1 : (w.alloc (.cells #[lv, dv, xv] T1)).heap.size = w.heap.size + 1 := by simp
  have e2 : ((w.alloc (.cells #[lv, dv, xv] T1)).alloc (.cells #[.slice none 0 0, .slice none 0 0, .slice none 0 0] T2)).heap.size = w.heap.size + 1 + 1 := by simp
  have h := (((Held.refl w).box3 lv dv xv T1).box3 (.slice none 0 0) (.slice none 0 0) (.slice none 0 0) T2).box3 (.slice none 0 0) (.slice none 0 0) (.slice none 0 0) T2
  simp only [World.size_alloc] at h
  obtain ⟨hb, ⟨o0, o1, o2, r0, r1, r2, s0, s1, s2, -⟩, -⟩ := h
  refine ⟨hb, s0, s1, s2, r0, r1, r2, o0, o1, o2, fun j => ?_, fun j => ?_, by simp⟩
  · rw [World.frozen?_alloc_past _ _ _ (by rw [e2]; omega), World.frozen?_alloc_at _ _ _ _ e1.symm]
  · rw [World.frozen?_alloc_at _ _ _ _ e2.symm]
theorem TT.step {w wi wj : World} {lv dv xv a b c : Value} (h : TT w wi lv dv xv a b c) (hb : Below wi.heap.size wi wj) : TT w wj lv dv xv a b c := by
  have hl := h.lt
  have k : ∀ (q o : Nat) (v : Value), q < wi.heap.size → wi.cell? ⟨q, o, none⟩ = some v → wj.cell? ⟨q, o, none⟩ = some v := fun q o v hq hc => (hb.cell (p := ⟨q, o, none⟩) hq).trans hc
  exact ⟨h.bel.trans (hb.mono h.bel.size), k _ _ _ (by omega) h.s0, k _ _ _ (by omega) h.s1, k _ _ _ (by omega) h.s2, k _ _ _ (by omega) h.r0, k _ _ _ (by omega) h.r1, k _ _ _ (by omega) h.r2, k _ _ _ (by omega) h.o0, k _ _ _ (by omega) h.o1, k _ _ _ (by omega) h.o2,
    fun j => (hb.frozen (p := ⟨_, j, none⟩) (show w.heap.size + 1 < _ by omega)).trans (h.fr j), fun j => (hb.frozen (p := ⟨_, j, none⟩) hl).trans (h.fo j), Nat.lt_of_lt_of_le hl hb.size⟩
theorem TT.set {w wi : World} {lv dv xv a b c : Value} (h : TT w wi lv dv xv a b c) (v : Value) (i : Nat) : TT w (wi.setCell ⟨w.heap.size + 1 + 1, i, none⟩ v) lv dv xv (if i = 0 then v else a) (if i = 1 then v else b) (if i = 2 then v else c) := by
  have far : ∀ (q o : Nat) (u : Value), q ≠ w.heap.size + 1 + 1 → wi.cell? ⟨q, o, none⟩ = some u → (wi.setCell ⟨w.heap.size + 1 + 1, i, none⟩ v).cell? ⟨q, o, none⟩ = some u := fun q o u hq hc => by
    rw [World.cell?_setCell_other wi _ _ _ (by intro e; injection e with e1; exact hq e1.symm)]; exact hc
  have near : ∀ (o : Nat) (u : Value), wi.cell? ⟨w.heap.size + 1 + 1, o, none⟩ = some u → (wi.setCell ⟨w.heap.size + 1 + 1, i, none⟩ v).cell? ⟨w.heap.size + 1 + 1, o, none⟩ = some (if i = o then v else u) := fun o u hc => by
    by_cases e : i = o
    · subst e; rw [if_pos rfl]; exact World.cell?_setCell_same wi _ _ hc
    · rw [if_neg e, World.cell?_setCell_other wi _ _ _ (by intro q; injection q with q1 q2; exact e q2)]; exact hc
  exact ⟨h.bel.setCell (by simp; omega) _, far _ _ _ (by omega) h.s0, far _ _ _ (by omega) h.s1, far _ _ _ (by omega) h.s2, far _ _ _ (by omega) h.r0, far _ _ _ (by omega) h.r1, far _ _ _ (by omega) h.r2, near 0 _ h.o0, near 1 _ h.o1, near 2 _ h.o2,
    fun j => by rw [World.frozen?_setCell]; exact h.fr j, fun j => by rw [World.frozen?_setCell]; exact h.fo j, by simpa using h.lt⟩
/-- A row lives through a store below it. -/
theorem Own.set {w : World} {lo hi b i : Nat} {v : Value} {xs : List Int} (h : Own w lo hi v xs) (hb : b < lo) (u : Value) : Own (w.setCell ⟨b, i, none⟩ u) lo hi v xs :=
  h.kept (row := some b) ⟨rfl, rfl, rfl, by simp, fun k _ hk => Below.heap_setCell w ⟨b, i, none⟩ u k (fun e => hk (by rw [e]))⟩ (fun g hg => by cases hg; exact .inl hb)
theorem Own.apart {w w' : World} {lo hi : Nat} {v : Value} {xs : List Int} {row : Option Nat} (h : Own w lo hi v xs) (hg : w.grownBy w' row) (hne : ∀ g, row = some g → v.ownBlock ≠ some g) : Own w' lo hi v xs :=
  ⟨h.1.kept (row := row) hg (by
    cases hv : v.ownBlock with
    | none => exact .inl rfl
    | some g => exact .inr (fun e => hne g e.symm hv)), h.2.1, Nat.le_trans h.2.2 hg.size⟩
theorem OwnG.rows {w : World} {lo hi : Nat} {a b c : Value} {x y z : List Int} (h : OwnG w lo hi [(a, x), (b, y), (c, z)]) : Own w lo hi a x ∧ Own w lo hi b y ∧ Own w lo hi c z := ⟨h.1 (a, x) (by simp), h.1 (b, y) (by simp), h.1 (c, z) (by simp)⟩
theorem ApartG.out {a b c : Value} {x y z : List Int} (h : ApartG [(a, x), (b, y), (c, z)]) : (∀ g, a.ownBlock = some g → b.ownBlock ≠ some g) ∧ (∀ g, a.ownBlock = some g → c.ownBlock ≠ some g) ∧ (∀ g, b.ownBlock = some g → c.ownBlock ≠ some g) := by
  obtain ⟨h1, h2⟩ := List.pairwise_cons.1 h
  obtain ⟨h3, -⟩ := List.pairwise_cons.1 h2
  exact ⟨h1 (b, y) (by simp), h1 (c, z) (by simp), h3 (c, z) (by simp)⟩
theorem OwnG.of3 {w : World} {lo hi : Nat} {a b c : Value} {x y z x' y' z' : List Int} (hp : ApartG [(a, x'), (b, y'), (c, z')]) (ha : Own w lo hi a x) (hb : Own w lo hi b y) (hc : Own w lo hi c z) : OwnG w lo hi [(a, x), (b, y), (c, z)] :=
  ⟨fun r hr => by
    simp only [List.mem_cons, List.not_mem_nil, or_false] at hr
    rcases hr with rfl | rfl | rfl
    · exact ha
    · exact hb
    · exact hc, hp.inv x y z⟩
theorem OwnG.one {w : World} {lo hi : Nat} {v : Value} {xs : List Int} (h : Own w lo hi v xs) : OwnG w lo hi [(v, xs)] :=
  ⟨fun r hr => by simp only [List.mem_cons, List.not_mem_nil, or_false] at hr; subst hr; exact h, List.pairwise_singleton _ _⟩
theorem OwnG.row {w : World} {lo hi : Nat} {v : Value} {xs : List Int} (h : OwnG w lo hi [(v, xs)]) : Own w lo hi v xs := h.1 (v, xs) (by simp)
end Go.Proofs.YtgbmacppgaopfabGreat
namespace Go.Proofs.YtgbmacppgaopfabGreat
set_option maxRecDepth 20000
open Go.RowKit

/-- A box of three cells of the call's own, which may be written. -/
structure Bx (w0 w : World) (r : Nat) (a b c : Value) : Prop where
  bel : Below w0.heap.size w0 w
  c0 : w.cell? ⟨r, 0, none⟩ = some a
  c1 : w.cell? ⟨r, 1, none⟩ = some b
  c2 : w.cell? ⟨r, 2, none⟩ = some c
  fr : ∀ j, w.frozen? ⟨r, j, none⟩ = false
  lt : r < w.heap.size
  lo : w0.heap.size ≤ r
theorem Bx.new {w0 w : World} (h : Below w0.heap.size w0 w) (a b c : Value) (T : TypeId) : Bx w0 (w.alloc (.cells #[a, b, c] T)) w.heap.size a b c :=
  ⟨h.alloc h.size _, by simp [World.cell?_alloc_at], by simp [World.cell?_alloc_at], by simp [World.cell?_alloc_at], fun j => by simp, by simp, h.size⟩
theorem Bx.step {w0 w w' : World} {r : Nat} {a b c : Value} (h : Bx w0 w r a b c) (hb : Below w.heap.size w w') : Bx w0 w' r a b c :=
  ⟨h.bel.trans (hb.mono h.bel.size), (hb.cell (p := ⟨r, 0, none⟩) h.lt).trans h.c0, (hb.cell (p := ⟨r, 1, none⟩) h.lt).trans h.c1, (hb.cell (p := ⟨r, 2, none⟩) h.lt).trans h.c2,
    fun j => (hb.frozen (p := ⟨r, j, none⟩) h.lt).trans (h.fr j), Nat.lt_of_lt_of_le h.lt hb.size, h.lo⟩
theorem Bx.alloc {w0 w : World} {r : Nat} {a b c : Value} (h : Bx w0 w r a b c) (bl : Obj) : Bx w0 (w.alloc bl) r a b c := h.step ((Below.refl _ _).alloc (Nat.le_refl _) bl)
theorem Bx.drewN {w0 w : World} {r : Nat} {a b c : Value} (h : Bx w0 w r a b c) (q : Nat) : Bx w0 (w.drewN q) r a b c := h.step (below_drewN (Below.refl _ _) q)
/-- A store into the box. -/
theorem Bx.set {w0 w : World} {r : Nat} {a b c : Value} (h : Bx w0 w r a b c) (v : Value) (i : Nat) : Bx w0 (w.setCell ⟨r, i, none⟩ v) r (if i = 0 then v else a) (if i = 1 then v else b) (if i = 2 then v else c) := by
  have near : ∀ (o : Nat) (u : Value), w.cell? ⟨r, o, none⟩ = some u → (w.setCell ⟨r, i, none⟩ v).cell? ⟨r, o, none⟩ = some (if i = o then v else u) := fun o u hc => by
    by_cases e : i = o
    · subst e; rw [if_pos rfl]; exact World.cell?_setCell_same w _ _ hc
    · rw [if_neg e, World.cell?_setCell_other w _ _ _ (by intro q; injection q with q1 q2; exact e q2)]; exact hc
  exact ⟨h.bel.setCell h.lo _, near 0 _ h.c0, near 1 _ h.c1, near 2 _ h.c2, fun j => by rw [World.frozen?_setCell]; exact h.fr j, by simpa using h.lt, h.lo⟩
/-- A store into another. -/
theorem Bx.far {w0 w : World} {r : Nat} {a b c : Value} (h : Bx w0 w r a b c) {g : Nat} (hg : r ≠ g) (h0 : w0.heap.size ≤ g) (v : Value) (i : Nat) : Bx w0 (w.setCell ⟨g, i, none⟩ v) r a b c := by
  have far : ∀ (o : Nat), (w.setCell ⟨g, i, none⟩ v).cell? ⟨r, o, none⟩ = w.cell? ⟨r, o, none⟩ := fun o => World.cell?_setCell_other w _ _ _ (by intro e; injection e with e1; exact hg e1.symm)
  exact ⟨h.bel.setCell h0 _, (far 0).trans h.c0, (far 1).trans h.c1, (far 2).trans h.c2, fun j => by rw [World.frozen?_setCell]; exact h.fr j, by simpa using h.lt, h.lo⟩
abbrev nilV : Value := .slice none 0 0
theorem Own.nils {w : World} {lo hi : Nat} (h : hi ≤ w.heap.size) : Own w lo hi nilV [] := ⟨World.ownsRow_nil _ _ _ _, (fun g hg => by cases hg), h⟩
theorem NewTen.nils {w w' : World} (h : Below w.heap.size w w') : NewTen w [] [] [] (.returned (tenV nilV nilV nilV)) w' :=
  ⟨_, _, _, rfl, OwnG.three (Own.nils h.size) (Own.nils (Nat.le_refl _)) (Own.nils (Nat.le_refl _)) (Nat.le_refl _) h.size (Nat.le_refl _), h⟩
/-- Two boxes at the beginning: an argument's, and an answer's. -/
theorem Bx.two (w : World) (a b c x y z : Value) (T T2 : TypeId) : Bx w ((w.alloc (.cells #[a, b, c] T)).alloc (.cells #[x, y, z] T2)) w.heap.size a b c ∧ Bx w ((w.alloc (.cells #[a, b, c] T)).alloc (.cells #[x, y, z] T2)) (w.heap.size + 1) x y z := by
  have h1 := Bx.new (Below.refl w.heap.size w) a b c T
  have h2 := Bx.new h1.bel x y z T2
  simp only [World.size_alloc] at h2
  exact ⟨h1.alloc _, h2⟩

/-- A law's state, with a box of its own that waits for a tensor. -/
structure StB (w0 w : World) (S : List (Nat × Nat × Value)) (R : List (Value × List Int)) (O : List Grp) (b : Nat) : Prop where
  st : St w0 w S R O
  bx : Bx w0 w b nilV nilV nilV
  far : ∀ x ∈ S, x.1 ≠ b
  grp : ∀ g ∈ O, b < g.1 ∨ g.2.1 ≤ b
theorem StB.new {w0 w : World} {S : List (Nat × Nat × Value)} {R : List (Value × List Int)} {O : List Grp} (h : St w0 w S R O) (T : TypeId) : StB w0 (w.alloc (.cells #[nilV, nilV, nilV] T)) S R O w.heap.size :=
  ⟨h.step ((Below.refl _ _).alloc (Nat.le_refl _) _), Bx.new h.bel _ _ _ _, fun x hx => Nat.ne_of_lt (h.lt x hx), fun g hg => .inr (h.own g hg).2.1⟩
theorem StB.step {w0 w w' : World} {S : List (Nat × Nat × Value)} {R : List (Value × List Int)} {O : List Grp} {b : Nat} (h : StB w0 w S R O b) (hb : Below w.heap.size w w') : StB w0 w' S R O b := ⟨h.st.step hb, h.bx.step hb, h.far, h.grp⟩
theorem StB.add {w0 w w' : World} {S : List (Nat × Nat × Value)} {R : List (Value × List Int)} {O : List Grp} {b : Nat} (h : StB w0 w S R O b) (hb : Below w.heap.size w w') {rows : List (Value × List Int)} (ho : OwnG w' w.heap.size w'.heap.size rows) : StB w0 w' S R ((w.heap.size, w'.heap.size, rows) :: O) b :=
  ⟨h.st.grp hb ho, h.bx.step hb, h.far, fun g hg => by
    rcases List.mem_cons.1 hg with rfl | hg
    · exact .inl h.bx.lt
    · exact h.grp g hg⟩
theorem CellsAt.set {w : World} {S : List (Nat × Nat × Value)} (h : CellsAt w S) {g : Nat} (hn : ∀ x ∈ S, x.1 ≠ g) (i : Nat) (v : Value) : CellsAt (w.setCell ⟨g, i, none⟩ v) S := by
  induction S with
  | nil => trivial
  | cons x r ih =>
    refine ⟨?_, ih h.2 (fun y hy => hn y (by simp [hy]))⟩
    rw [World.cell?_setCell_other w _ _ _ (by intro e; injection e with e1; exact hn x (by simp) e1.symm)]
    exact h.1
theorem grownBy_set (w : World) (b i : Nat) (v : Value) : w.grownBy (w.setCell ⟨b, i, none⟩ v) (some b) := grownBy_setCell ⟨rfl, rfl, rfl, Nat.le_refl _, fun _ _ _ => rfl⟩ rfl _
theorem St.set {w0 w : World} {S : List (Nat × Nat × Value)} {R : List (Value × List Int)} {O : List Grp} (h : St w0 w S R O) {b : Nat} (hb : w0.heap.size ≤ b) (far : ∀ x ∈ S, x.1 ≠ b) (grp : ∀ g ∈ O, b < g.1 ∨ g.2.1 ≤ b) (i : Nat) (v : Value) : St w0 (w.setCell ⟨b, i, none⟩ v) S R O :=
  ⟨h.bel.setCell hb _, h.cells.set far i v, fun x hx => by simpa using h.lt x hx, fun r hr => (h.rd r hr).kept (grownBy_set w b i v) h.bel.size (fun g e => by cases e; exact hb),
    fun g hg => ⟨(h.own g hg).1, by simpa using (h.own g hg).2.1, (h.own g hg).2.2.kept (l := b) (h' := b + 1) (KeptOut.of (grownBy_set w b i v) (fun g e => by cases e; exact ⟨Nat.le_refl _, Nat.lt_succ_self _⟩)) (by rcases grp g hg with h | h <;> omega)⟩, h.dis, h.box⟩
/-- The tensor is stored. -/
theorem StB.put {w0 w : World} {S : List (Nat × Nat × Value)} {R : List (Value × List Int)} {O : List Grp} {b : Nat} (h : StB w0 w S R O b) (x y z : Value) :
    St w0 (((w.setCell ⟨b, 0, none⟩ x).setCell ⟨b, 1, none⟩ y).setCell ⟨b, 2, none⟩ z) ((b, 0, x) :: (b, 1, y) :: (b, 2, z) :: S) R O := by
  have s := ((h.st.set h.bx.lo h.far h.grp 0 x).set h.bx.lo h.far h.grp 1 y).set h.bx.lo h.far h.grp 2 z
  have c := ((h.bx.set x 0).set y 1).set z 2
  simp only [if_true, if_false, Nat.one_ne_zero, Nat.zero_ne_one, Nat.reduceEqDiff] at c
  have hl := h.bx.lt
  refine ⟨s.bel, ⟨c.c0, c.c1, c.c2, s.cells⟩, fun q hq => ?_, s.rd, s.own, s.dis, fun g hg q hq => ?_⟩
  · simp only [List.mem_cons] at hq
    rcases hq with rfl | rfl | rfl | hq
    · simpa using hl
    · simpa using hl
    · simpa using hl
    · exact s.lt q hq
  · simp only [List.mem_cons] at hq
    rcases hq with rfl | rfl | rfl | hq
    · exact h.grp g hg
    · exact h.grp g hg
    · exact h.grp g hg
    · exact h.st.box g hg q hq
/-- Groups that are not wanted any more are left out. -/
theorem St.sub {w0 w : World} {S : List (Nat × Nat × Value)} {R : List (Value × List Int)} {O O' : List Grp} (h : St w0 w S R O) (hs : O'.Sublist O) : St w0 w S R O' :=
  ⟨h.bel, h.cells, h.lt, h.rd, fun g hg => h.own g (hs.subset hg), h.dis.sublist hs, fun g hg => h.box g (hs.subset hg)⟩
theorem St.keep {w0 w : World} {S : List (Nat × Nat × Value)} {R : List (Value × List Int)} {O : List Grp} (h : St w0 w S R O) (T : TypeId) : CellsAt (w.alloc (.cells #[nilV, nilV, nilV] T)) S := (StB.new h T).st.cells
theorem CellsAt.get {w : World} {S : List (Nat × Nat × Value)} (h : CellsAt w S) : ∀ {i : Nat} {r o : Nat} {u : Value}, S[i]? = some (r, o, u) → w.cell? ⟨r, o, none⟩ = some u := by
  induction S with
  | nil => intro i r o u hi; simp at hi
  | cons x s ih =>
    intro i r o u hi
    cases i with
    | zero => simp only [List.getElem?_cons_zero, Option.some.injEq] at hi; subst hi; exact h.1
    | succ i => rw [List.getElem?_cons_succ] at hi; exact ih h.2 hi
end Go.Proofs.YtgbmacppgaopfabGreat
