
/- What a law's walk carries: cells of boxes, lists that are read, groups of rows of the call's own. -/
import Derived.Test.YtlmhnlepdfdceaaTensorSize
import Derived.Test.YtlmhnlepdfdceaaLawKit
import Derived.Test.YtlmhnlepdfdceaaKept
namespace Go.Proofs.Ytlmhnlepdfdceaa
set_option maxRecDepth 20000
open Go.RowKit

/-- No two of these rows lie in one block. -/
def ApartG (rows : List (Value × List Int)) : Prop := rows.Pairwise (fun a b => ∀ g, a.1.ownBlock = some g → b.1.ownBlock ≠ some g)
/-- The rows of a group: of the call's own, in blocks from lo to hi, no two in one. -/
def OwnG (w : World) (lo hi : Nat) (rows : List (Value × List Int)) : Prop := (∀ r ∈ rows, Own w lo hi r.1 r.2) ∧ ApartG rows
theorem OwnG.below {w w' : World} {lo hi B : Nat} {rows : List (Value × List Int)} (h : OwnG w lo hi rows) (hb : Below B w w') (hB : w.heap.size ≤ B) : OwnG w' lo hi rows := ⟨fun r hr => (h.1 r hr).below hb hB, h.2⟩
theorem OwnG.kept {w w' : World} {lo hi l h' : Nat} {rows : List (Value × List Int)} (h : OwnG w lo hi rows) (hk : KeptOut w w' l h') (hd : hi ≤ l ∨ h' ≤ lo) : OwnG w' lo hi rows :=
  ⟨fun r hr => by
    have ho := h.1 r hr
    refine ⟨?_, ho.2.1, Nat.le_trans ho.2.2 hk.2.2.2.1⟩
    have hsame : ∀ g, r.1.ownBlock = some g → w'.heap[g]? = w.heap[g]? := fun g hg => hk.2.2.2.2 g (by have := ho.2.1 g hg; have := ho.2.2; omega) (by have := ho.2.1 g hg; have := ho.lo g hg; omega)
    have hrow := ho.1
    have hlt := hrow.lt
    refine ⟨hrow.1, ?_⟩
    rcases hrow.2 with hn | ⟨g, cap, cur, e, h1, h2, h3⟩
    · exact .inl hn
    · exact .inr ⟨g, cap, cur, e, h1, by rw [hsame g (by rw [e]; rfl)]; exact h2, h3⟩, h.2⟩
theorem OwnG.wide {w : World} {lo hi lo' hi' : Nat} {rows : List (Value × List Int)} (h : OwnG w lo hi rows) (h1 : lo' ≤ lo) (h2 : hi ≤ hi') (h3 : hi' ≤ w.heap.size) : OwnG w lo' hi' rows :=
  ⟨fun r hr => ⟨⟨(h.1 r hr).1.1, (h.1 r hr).1.2.imp id (fun ⟨g, cap, cur, e, hb, q⟩ => ⟨g, cap, cur, e, Nat.le_trans h1 hb, q⟩)⟩, fun g hg => Nat.lt_of_lt_of_le ((h.1 r hr).2.1 g hg) h2, h3⟩, h.2⟩

abbrev Grp := Nat × Nat × List (Value × List Int)
structure St (w0 w : World) (S : List (Nat × Nat × Value)) (R : List (Value × List Int)) (O : List Grp) : Prop where
  bel : Below w0.heap.size w0 w
  cells : CellsAt w S
  lt : ∀ x ∈ S, x.1 < w.heap.size
  rd : ∀ r ∈ R, Rd w0.heap.size w r.1 (ints r.2)
  own : ∀ g ∈ O, w0.heap.size ≤ g.1 ∧ g.2.1 ≤ w.heap.size ∧ OwnG w g.1 g.2.1 g.2.2
  dis : O.Pairwise (fun a b => b.2.1 ≤ a.1 ∨ a.2.1 ≤ b.1)
  box : ∀ g ∈ O, ∀ x ∈ S, x.1 < g.1 ∨ g.2.1 ≤ x.1
variable {w0 w w' : World} {S : List (Nat × Nat × Value)} {R : List (Value × List Int)} {O : List Grp}
theorem St.start (w : World) {R : List (Value × List Int)} (h : ∀ r ∈ R, Rd w.heap.size w r.1 (ints r.2)) : St w w [] R [] :=
  ⟨Below.refl _ _, trivial, fun x hx => by simp at hx, h, fun g hg => by simp at hg, List.Pairwise.nil, fun g hg => by simp at hg⟩
theorem St.step (h : St w0 w S R O) (hb : Below w.heap.size w w') : St w0 w' S R O :=
  ⟨h.bel.trans (hb.mono h.bel.size), h.cells.below hb h.lt, fun x hx => Nat.lt_of_lt_of_le (h.lt x hx) hb.size, fun r hr => (h.rd r hr).below hb h.bel.size,
    fun g hg => ⟨(h.own g hg).1, Nat.le_trans (h.own g hg).2.1 hb.size, (h.own g hg).2.2.below hb (Nat.le_refl _)⟩, h.dis, h.box⟩
theorem St.drewN (h : St w0 w S R O) (q : Nat) : St w0 (w.drewN q) S R O := h.step (below_drewN (Below.refl _ _) q)
theorem St.drew (h : St w0 w S R O) : St w0 w.drew S R O := h.drewN 1
theorem St.box3 (h : St w0 w S R O) (x y z : Value) (T : TypeId) : St w0 (w.alloc (.cells #[x, y, z] T)) ((w.heap.size, 0, x) :: (w.heap.size, 1, y) :: (w.heap.size, 2, z) :: S) R O := by
  have hs := h.step ((Below.refl _ _).alloc (Nat.le_refl _) (.cells #[x, y, z] T))
  refine ⟨hs.bel, ⟨by simp [World.cell?_alloc_at], by simp [World.cell?_alloc_at], by simp [World.cell?_alloc_at], hs.cells⟩, fun q hq => ?_, hs.rd, hs.own, hs.dis, fun g hg q hq => ?_⟩
  · simp only [List.mem_cons] at hq
    rcases hq with rfl | rfl | rfl | hq
    · simp
    · simp
    · simp
    · exact hs.lt q hq
  · have := (h.own g hg).2.1
    simp only [List.mem_cons] at hq
    rcases hq with rfl | rfl | rfl | hq
    · exact .inr this
    · exact .inr this
    · exact .inr this
    · exact hs.box g hg q hq
/-- A function has made new rows. -/
theorem St.grp (h : St w0 w S R O) (hb : Below w.heap.size w w') {rows : List (Value × List Int)} (ho : OwnG w' w.heap.size w'.heap.size rows) : St w0 w' S R ((w.heap.size, w'.heap.size, rows) :: O) := by
  have hs := h.step hb
  refine ⟨hs.bel, hs.cells, hs.lt, hs.rd, fun g hg => ?_, List.pairwise_cons.2 ⟨fun g hg => .inl (h.own g hg).2.1, hs.dis⟩, fun g hg x hx => ?_⟩
  · rcases List.mem_cons.1 hg with rfl | hg
    · exact ⟨h.bel.size, Nat.le_refl _, ho⟩
    · exact hs.own g hg
  · rcases List.mem_cons.1 hg with rfl | hg
    · exact .inl (h.lt x hx)
    · exact hs.box g hg x hx
/-- The rows of one group have been written. -/
theorem St.mark (h : St w0 w S R O) (i : Nat) {lo hi : Nat} {rows rows' : List (Value × List Int)} (hi' : O[i]? = some (lo, hi, rows)) (hk : KeptOut w w' lo hi) (ho : OwnG w' lo hi rows') : St w0 w' S R (O.set i (lo, hi, rows')) := by
  have hg := h.own _ (List.mem_of_getElem? hi')
  have hil := (List.getElem?_eq_some_iff.1 hi').1
  refine ⟨hk.below h.bel hg.1 h.bel.size, ?_, fun x hx => Nat.lt_of_lt_of_le (h.lt x hx) hk.2.2.2.1, fun r hr => hk.rd (h.rd r hr) hg.1 h.bel.size, fun g hm => ?_, ?_, fun g hm x hx => ?_⟩
  · have hc := h.cells
    have hl := h.lt
    have hb := h.box _ (List.mem_of_getElem? hi')
    clear h hg hi' hil
    induction S with
    | nil => trivial
    | cons x r ih => exact ⟨hk.cell hc.1 (hl x (by simp)) (hb x (by simp)), ih hc.2 (fun y hy => hl y (by simp [hy])) (fun y hy => hb y (by simp [hy]))⟩
  · obtain ⟨j, hj⟩ := List.getElem?_of_mem hm
    by_cases hji : j = i
    · subst hji
      rw [List.getElem?_set_self hil] at hj
      cases hj
      exact ⟨hg.1, Nat.le_trans hg.2.1 hk.2.2.2.1, ho⟩
    · rw [List.getElem?_set_ne (fun e => hji e.symm)] at hj
      have hgj := h.own g (List.mem_of_getElem? hj)
      refine ⟨hgj.1, Nat.le_trans hgj.2.1 hk.2.2.2.1, hgj.2.2.kept hk ?_⟩
      obtain ⟨hjl, ej⟩ := List.getElem?_eq_some_iff.1 hj
      obtain ⟨_, ei⟩ := List.getElem?_eq_some_iff.1 hi'
      have hp := List.pairwise_iff_getElem.1 h.dis
      rcases Nat.lt_or_ge j i with hlt | hge
      · have := hp j i hjl hil hlt
        rw [ej, ei] at this
        exact this.symm
      · have := hp i j hil hjl (by omega)
        rw [ej, ei] at this
        exact this
  · have e : (O.set i (lo, hi, rows')).map (fun g => (g.1, g.2.1)) = O.map (fun g => (g.1, g.2.1)) := by
      apply List.ext_getElem?
      intro j
      rw [List.getElem?_map, List.getElem?_map]
      by_cases hji : j = i
      · subst hji
        rw [List.getElem?_set_self hil, hi']; rfl
      · rw [List.getElem?_set_ne (fun e => hji e.symm)]
    have h1 : (O.map (fun g => (g.1, g.2.1))).Pairwise (fun a b => b.2 ≤ a.1 ∨ a.2 ≤ b.1) := List.pairwise_map.2 h.dis
    rw [← e] at h1
    exact List.pairwise_map.1 h1
  · rcases List.mem_or_eq_of_mem_set hm with hm | rfl
    · exact h.box g hm x hx
    · exact h.box _ (List.mem_of_getElem? hi') x hx
theorem St.cellAt (h : St w0 w S R O) : CellsAt w S := h.cells
theorem St.rdAt (h : St w0 w S R O) (i : Nat) {v : Value} {xs : List Int} (hi : R[i]? = some (v, xs)) : Rd w0.heap.size w v (ints xs) := h.rd _ (List.mem_of_getElem? hi)
theorem St.grpAt (h : St w0 w S R O) (i : Nat) {lo hi : Nat} {rows : List (Value × List Int)} (hi' : O[i]? = some (lo, hi, rows)) : OwnG w lo hi rows := (h.own _ (List.mem_of_getElem? hi')).2.2
/-- A row of a group, as it is read. -/
theorem St.rowAt (h : St w0 w S R O) (i j : Nat) {lo hi : Nat} {rows : List (Value × List Int)} {v : Value} {xs : List Int} (hi' : O[i]? = some (lo, hi, rows)) (hj : rows[j]? = some (v, xs)) : Rd w.heap.size w v (ints xs) :=
  let ho := (h.own _ (List.mem_of_getElem? hi')).2.2.1 _ (List.mem_of_getElem? hj)
  ho.rd.mono ho.2.2
end Go.Proofs.Ytlmhnlepdfdceaa
