
/- Rows of axes of the call's own, and boxes. -/
import Derived.Test.YtdheakjjnaifkaaAxes
namespace Go.Proofs.Ytdheakjjnaifkaa
set_option maxRecDepth 20000
open Go.RowKit

abbrev RowAE := Value × List AxE
structure Ra (w0 wr : World) (bs : List BxE) (rows : List RowAE) : Prop where
  bel : Below w0.heap.size w0 wr
  own : ∀ r ∈ rows, wr.ownsRow w0.heap.size 111 3 r.1 r.2.length (cellsA r.2)
  apart : rows.Pairwise (fun r s => ∀ g, r.1.ownBlock = some g → s.1.ownBlock ≠ some g)
  bx : ∀ b ∈ bs, Bx w0 wr b.1 b.2.1 b.2.2.1 b.2.2.2
  far : ∀ b ∈ bs, ∀ r ∈ rows, r.1.ownBlock ≠ some b.1
  dis : bs.Pairwise (fun a b => a.1 ≠ b.1)
section
variable {w0 wr w' : World} {bs : List BxE} {rows : List RowAE}
theorem Ra.start (w : World) : Ra w w [] [] := ⟨Below.refl _ _, fun r h => by simp at h, List.Pairwise.nil, fun b h => by simp at h, fun b h => by simp at h, List.Pairwise.nil⟩
theorem Ra.step (h : Ra w0 wr bs rows) (hb : Below wr.heap.size wr w') : Ra w0 w' bs rows :=
  ⟨h.bel.trans (hb.mono h.bel.size), fun r hr => (h.own r hr).kept (row := none) ⟨hb.os, hb.tape, hb.output, hb.size, fun k hk _ => hb.block k hk⟩ (by cases r.1.ownBlock <;> simp), h.apart, fun b hm => (h.bx b hm).step hb, h.far, h.dis⟩
theorem Ra.drew (h : Ra w0 wr bs rows) : Ra w0 wr.drew bs rows := h.step (Below.drew (Below.refl _ _))
theorem Ra.alloc (h : Ra w0 wr bs rows) (o : Obj) : Ra w0 (wr.alloc o) bs rows := h.step ((Below.refl _ _).alloc (Nat.le_refl _) o)
theorem Ra.box (h : Ra w0 wr bs rows) (a b c : Value) (T : TypeId) : Ra w0 (wr.alloc (.cells #[a, b, c] T)) ((wr.heap.size, a, b, c) :: bs) rows := by
  have h1 := h.alloc (.cells #[a, b, c] T)
  refine ⟨h1.bel, h1.own, h1.apart, fun x hx => ?_, fun x hx r hr => ?_, List.pairwise_cons.2 ⟨fun x hx => ?_, h.dis⟩⟩
  · rcases List.mem_cons.1 hx with rfl | hx
    · exact Bx.new h.bel a b c T
    · exact h1.bx x hx
  · rcases List.mem_cons.1 hx with rfl | hx
    · intro e; have := ((h.own r hr).lt _ e).2; exact Nat.lt_irrefl _ this
    · exact h.far x hx r hr
  · exact Nat.ne_of_gt (h.bx x hx).lt
theorem Ra.perm {rows' : List RowAE} (h : Ra w0 wr bs rows) (hp : rows.Perm rows') : Ra w0 wr bs rows' :=
  ⟨h.bel, fun r hr => h.own r (hp.symm.subset hr), hp.pairwise h.apart (fun h1 g h2 h3 => h1 g h3 h2), h.bx, fun b hb r hr => h.far b hb r (hp.symm.subset hr), h.dis⟩
theorem Ra.swap {a b : RowAE} (h : Ra w0 wr bs (a :: b :: rows)) : Ra w0 wr bs (b :: a :: rows) := h.perm (List.Perm.swap _ _ _)
theorem Ra.subB {bs' : List BxE} (h : Ra w0 wr bs rows) (hs : bs'.Sublist bs) : Ra w0 wr bs' rows :=
  ⟨h.bel, h.own, h.apart, fun b hb => h.bx b (hs.subset hb), fun b hb => h.far b (hs.subset hb), h.dis.sublist hs⟩
theorem Ra.nil (h : Ra w0 wr bs rows) : Ra w0 wr bs ((nilV, []) :: rows) :=
  ⟨h.bel, fun r hr => by
    rcases List.mem_cons.1 hr with rfl | hr
    · exact World.ownsRow_nil _ _ _ _
    · exact h.own r hr, List.pairwise_cons.2 ⟨fun r _ g hg => by simp [Value.ownBlock] at hg, h.apart⟩, h.bx, fun b hm r hr => by
    rcases List.mem_cons.1 hr with rfl | hr
    · simp [Value.ownBlock]
    · exact h.far b hm r hr, h.dis⟩
theorem cellsA_app (A C : List AxE) : cellsA (A ++ C) = cellsA A ++ cellsA C := by simp [cellsA]
theorem cellsA_one (a : AxE) : cellsA [a] = [.int .i64 a.1, .int .i64 a.2.1, .int .i64 a.2.2] := by simp [cellsA]
/-- An axis more. -/
theorem Ra.app {v : Value} {AX : List AxE} {x : AxE} {g n cap : Nat} (h : Ra w0 wr bs ((v, AX) :: rows)) (hn : AX.length = n) (ho : w'.ownsRow w0.heap.size 111 3 (.slice (some ⟨g, 0, none⟩) (n + 1) cap) (n + 1) (cellsA AX ++ [.int .i64 x.1, .int .i64 x.2.1, .int .i64 x.2.2])) (hg : wr.grownBy w' v.ownBlock) (hl : v.ownBlock = some g ∨ g = wr.heap.size) :
    Ra w0 w' bs ((.slice (some ⟨g, 0, none⟩) (n + 1) cap, AX ++ [x]) :: rows) := by
  rw [← cellsA_one x, ← cellsA_app] at ho
  have hlo : ∀ k, v.ownBlock = some k → w0.heap.size ≤ k := fun k hk => ((h.own (v, AX) (by simp)).lt k hk).1
  have hap := List.pairwise_cons.1 h.apart
  have kept : ∀ r ∈ rows, w'.ownsRow w0.heap.size 111 3 r.1 r.2.length (cellsA r.2) := fun r hr => (h.own r (by simp [hr])).kept hg (by
    cases hv : r.1.ownBlock with
    | none => exact .inl rfl
    | some k => exact .inr fun e => hap.1 r hr k e.symm hv)
  have fresh : ∀ k, (k = wr.heap.size ∨ v.ownBlock = some k) → ∀ r ∈ rows, r.1.ownBlock ≠ some k := fun k hk r hr e => by
    rcases hk with rfl | hk
    · have := ((h.own r (by simp [hr])).lt _ e).2; omega
    · exact hap.1 r hr k hk e
  refine ⟨h.bel.grown hg h.bel.size hlo, fun r hr => ?_, List.pairwise_cons.2 ⟨fun r hr k hk e => ?_, hap.2⟩, fun b hm => (h.bx b hm).grown hg (fun k hk => ⟨fun e => h.far b hm (v, AX) (by simp) (by rw [hk, e]), hlo k hk⟩), fun b hm r hr => ?_, h.dis⟩
  · rcases List.mem_cons.1 hr with rfl | hr
    · rw [show (AX ++ [x]).length = n + 1 by simp [hn]]; exact ho
    · exact kept r hr
  · simp only [Value.ownBlock, Option.some.injEq] at hk
    subst hk
    exact fresh g (hl.symm) r hr e
  · rcases List.mem_cons.1 hr with rfl | hr
    · simp only [Value.ownBlock, ne_eq, Option.some.injEq]
      intro e
      rcases hl with hl | hl
      · exact h.far b hm (v, AX) (by simp) (by rw [hl, e])
      · have := (h.bx b hm).lt; omega
    · exact h.far b hm r (by simp [hr])
theorem cellsA_set : ∀ {AX : List AxE} {i : Nat} (x : AxE), i < AX.length → ((((cellsA AX).set (i * 3) (.int .i64 x.1)).set (i * 3 + 1) (.int .i64 x.2.1)).set (i * 3 + 2) (.int .i64 x.2.2)) = cellsA (AX.set i x) := by
  intro AX i x hi
  refine cellsA_is (by simp only [List.length_set, cellsA_len]) fun j a ha => ?_
  by_cases e : i = j
  · subst e
    rw [List.getElem?_set_self hi] at ha
    injection ha with ha
    subst ha
    refine ⟨?_, ?_, ?_⟩
    · rw [List.getElem?_set_ne (by omega), List.getElem?_set_ne (by omega), List.getElem?_set_self (by rw [cellsA_len]; omega)]
    · rw [List.getElem?_set_ne (by omega), List.getElem?_set_self (by rw [List.length_set, cellsA_len]; omega)]
    · rw [List.getElem?_set_self (by rw [List.length_set, List.length_set, cellsA_len]; omega)]
  · rw [List.getElem?_set_ne e] at ha
    obtain ⟨h1, h2, h3⟩ := cellsA_at ha
    refine ⟨?_, ?_, ?_⟩
    · rw [List.getElem?_set_ne (by omega), List.getElem?_set_ne (by omega), List.getElem?_set_ne (by omega)]; exact h1
    · rw [List.getElem?_set_ne (by omega), List.getElem?_set_ne (by omega), List.getElem?_set_ne (by omega)]; exact h2
    · rw [List.getElem?_set_ne (by omega), List.getElem?_set_ne (by omega), List.getElem?_set_ne (by omega)]; exact h3
/-- An axis of the first row is written. -/
theorem Ra.put {AX : List AxE} {g n cap : Nat} (h : Ra w0 wr bs ((.slice (some ⟨g, 0, none⟩) n cap, AX) :: rows)) (hn : AX.length = n) {i : Nat} (hi : i < n) (x : AxE) : Ra w0 (((wr.setCell ⟨g, i * 3, none⟩ (.int .i64 x.1)).setCell ⟨g, i * 3 + 1, none⟩ (.int .i64 x.2.1)).setCell ⟨g, i * 3 + 2, none⟩ (.int .i64 x.2.2)) bs ((.slice (some ⟨g, 0, none⟩) n cap, AX.set i x) :: rows) := by
  have h0 := h.own (.slice (some ⟨g, 0, none⟩) n cap, AX) (by simp)
  have hlo := (h0.lt g rfl).1
  have h0' : wr.ownsRow w0.heap.size 111 3 (.slice (some ⟨g, 0, none⟩) n cap) n (cellsA AX) := hn ▸ h0
  have s1 := h0'.stored (i * 3) (.int .i64 x.1)
  have s2 := s1.1.stored (i * 3 + 1) (.int .i64 x.2.1)
  have s3 := s2.1.stored (i * 3 + 2) (.int .i64 x.2.2)
  have hap := List.pairwise_cons.1 h.apart
  have hk := fun (r : RowAE) (hr : r ∈ rows) => (show r.1.ownBlock = none ∨ r.1.ownBlock ≠ some g by
    cases hv : r.1.ownBlock with
    | none => exact .inl rfl
    | some k => exact .inr fun e => by injection e with e; exact hap.1 r hr g rfl (by rw [hv, e]))
  have hbf := fun (b : BxE) (hm : b ∈ bs) => (show b.1 ≠ g from fun e => h.far b hm (.slice (some ⟨g, 0, none⟩) n cap, AX) (by simp) (by rw [e]; rfl))
  refine ⟨((h.bel.setCell hlo _).setCell hlo _).setCell hlo _, fun r hr => ?_, List.pairwise_cons.2 ⟨hap.1, hap.2⟩, fun b hm => (((h.bx b hm).far (hbf b hm) hlo _ _).far (hbf b hm) hlo _ _).far (hbf b hm) hlo _ _, fun b hm r hr => ?_, h.dis⟩
  · rcases List.mem_cons.1 hr with rfl | hr2
    · have h1 := s3.1
      rw [cellsA_set x (by rw [hn]; exact hi)] at h1
      show World.ownsRow _ _ _ _ _ _ _
      rw [List.length_set, hn]; exact h1
    · exact (((h.own r (by simp [hr2])).kept (grownBy_set wr g _ _) (hk r hr2)).kept (grownBy_set _ g _ _) (hk r hr2)).kept (grownBy_set _ g _ _) (hk r hr2)
  · rcases List.mem_cons.1 hr with rfl | hr
    · exact h.far b hm (.slice (some ⟨g, 0, none⟩) n cap, AX) (by simp)
    · exact h.far b hm r (by simp [hr])
theorem Ra.at {r : Nat} {a b c : Value} (h : Ra w0 wr bs rows) (hm : (r, a, b, c) ∈ bs) : (wr.cell? ⟨r, 0, none⟩ = some a ∧ wr.cell? ⟨r, 1, none⟩ = some b ∧ wr.cell? ⟨r, 2, none⟩ = some c) ∧ wr.frozen? ⟨r, 0, none⟩ = false ∧ wr.frozen? ⟨r, 1, none⟩ = false ∧ wr.frozen? ⟨r, 2, none⟩ = false :=
  have k := h.bx _ hm
  ⟨⟨k.c0, k.c1, k.c2⟩, k.fr 0, k.fr 1, k.fr 2⟩
theorem Ra.row {v : Value} {AX : List AxE} {n : Nat} (h : Ra w0 wr bs rows) (hm : (v, AX) ∈ rows) (hn : AX.length = n) : wr.ownsRow w0.heap.size 111 3 v n (cellsA AX) := hn ▸ h.own _ hm
theorem Ra.rd {v : Value} {AX : List AxE} (h : Ra w0 wr bs rows) (hm : (v, AX) ∈ rows) : RdA wr.heap.size wr v AX :=
  OwnA.rd (lo := w0.heap.size) ⟨h.own _ hm, fun g hg => ((h.own _ hm).lt g hg).2, Nat.le_refl _⟩
/-- The cells of an axis of a row. -/
theorem Ra.cells {AX : List AxE} {n cap : Nat} {p : Option Addr} {i : Nat} {x y z : Int} (h : Ra w0 wr bs rows) (hm : (.slice p n cap, AX) ∈ rows) (hn : AX.length = n) (hx : AX[i]? = some (x, y, z)) : ∃ g, p = some ⟨g, 0, none⟩ ∧ w0.heap.size ≤ g ∧ g < wr.heap.size ∧ wr.cell? ⟨g, i * 3, none⟩ = some (.int .i64 x) ∧ wr.cell? ⟨g, i * 3 + 1, none⟩ = some (.int .i64 y) ∧ wr.cell? ⟨g, i * 3 + 2, none⟩ = some (.int .i64 z) ∧ ∀ j, wr.frozen? ⟨g, j, none⟩ = false := by
  have ho := h.row hm hn
  have hl := (List.getElem?_eq_some_iff.1 hx).1
  rcases ho.2 with ⟨-, h0⟩ | ⟨g, ca, cur, e, hlo, hg, -⟩
  · exfalso
    omega
  · injection e with e
    subst e
    obtain ⟨e1, e2, e3⟩ := cellsA_at hx
    have hlt := (ho.lt g rfl).2
    refine ⟨g, rfl, hlo, hlt, ?_, ?_, ?_, fun j => ho.frozenAt j⟩
    · rw [ho.cellAt _ (by omega)]; exact e1
    · rw [ho.cellAt _ (by omega)]; exact e2
    · rw [ho.cellAt _ (by omega)]; exact e3
end
theorem cell3_at {w : World} {b : Nat} (x y z : Value) (t : TypeId) (e : w.heap.size = b) : ∀ j u, [x, y, z][j]? = some u → (w.alloc (.cells #[x, y, z] t)).cell? ((⟨b, 0, none⟩ : Addr).add j) = some u := by
  subst e
  intro j u hj
  match j, hj with
  | 0, hj => simp at hj; rw [← hj]; simp [Addr.add]
  | 1, hj => simp at hj; rw [← hj]; simp [Addr.add]
  | 2, hj => simp at hj; rw [← hj]; simp [Addr.add]
  | j + 3, hj => simp at hj

end Go.Proofs.Ytdheakjjnaifkaa
namespace Go.Proofs.Ytdheakjjnaifkaa
set_option maxRecDepth 20000
open Go.RowKit

section
variable {w0 wr w' : World} {bs : List BxE} {rows : List RowAE}

/-- A row that a call has made. -/
theorem Ra.new {v : Value} {AX : List AxE} (h : Ra w0 wr bs rows) (hb : Below wr.heap.size wr w') (ho : OwnA w' wr.heap.size w'.heap.size v AX) : Ra w0 w' bs ((v, AX) :: rows) := by
  have h1 := h.step hb
  have lo : ∀ g, v.ownBlock = some g → wr.heap.size ≤ g := fun g hg => (ho.1.lt g hg).1
  refine ⟨h1.bel, fun r hr => ?_, List.pairwise_cons.2 ⟨fun r hr g hg e => ?_, h.apart⟩, h1.bx, fun b hm r hr => ?_, h.dis⟩
  · rcases List.mem_cons.1 hr with rfl | hr
    · exact ⟨ho.1.1, ho.1.2.imp id (fun ⟨g, cap, cur, e, hb, q⟩ => ⟨g, cap, cur, e, Nat.le_trans h.bel.size hb, q⟩)⟩
    · exact h1.own r hr
  · have h2 := lo g hg
    have h3 := ((h.own r hr).lt g e).2
    omega
  · rcases List.mem_cons.1 hr with rfl | hr
    · intro e
      have h2 := lo _ e
      have h3 := (h.bx b hm).lt
      omega
    · exact h.far b hm r hr
/-- A store elsewhere. -/
theorem Ra.else {g : Nat} (h : Ra w0 wr bs rows) (h0 : w0.heap.size ≤ g) (hb : ∀ b ∈ bs, b.1 ≠ g) (hr : ∀ r ∈ rows, r.1.ownBlock ≠ some g) (i : Nat) (u : Value) : Ra w0 (wr.setCell ⟨g, i, none⟩ u) bs rows :=
  ⟨h.bel.setCell h0 _, fun r hm => (h.own r hm).kept (grownBy_set wr g i u) (by
    cases hv : r.1.ownBlock with
    | none => exact .inl rfl
    | some k => exact .inr fun e => by injection e with e; subst e; exact hr r hm hv), h.apart, fun b hm => (h.bx b hm).far (fun e => hb b hm e) h0 u i, h.far, h.dis⟩
theorem Ra.boxes (h : Ra w0 wr bs rows) : Rs w0 wr bs [] := ⟨h.bel, fun r hr => by simp at hr, List.Pairwise.nil, h.bx, fun b hm r hr => by simp at hr, h.dis⟩
/-- A box of two cells, far from all others. -/
structure Two (w0 w : World) (g : Nat) (bs : List BxE) (rows : List RowAE) (a b : Value) : Prop where
  lo : w0.heap.size ≤ g
  lt : g < w.heap.size
  c0 : w.cell? ⟨g, 0, none⟩ = some a
  c1 : w.cell? ⟨g, 1, none⟩ = some b
  fr : ∀ j, w.frozen? ⟨g, j, none⟩ = false
  ne : ∀ x ∈ bs, x.1 ≠ g
  far : ∀ r ∈ rows, r.1.ownBlock ≠ some g
theorem Two.alloc (h : Ra w0 wr bs rows) (a b : Value) (T : TypeId) : ∃ W g, wr.alloc (.cells #[a, b] T) = W ∧ wr.heap.size = g ∧ Ra w0 W bs rows ∧ Two w0 W g bs rows a b := by
  refine ⟨_, _, rfl, rfl, h.alloc _, ⟨h.bel.size, by simp, by simp [World.cell?_alloc_at], by simp [World.cell?_alloc_at], fun j => by simp, fun x hx e => ?_, fun r hr e => ?_⟩⟩
  · have := (h.bx x hx).lt; omega
  · have := ((h.own r hr).lt _ e).2; omega
theorem Two.step {g : Nat} {a b : Value} (h : Two w0 wr g bs rows a b) (hb : Below wr.heap.size wr w') : Two w0 w' g bs rows a b :=
  ⟨h.lo, Nat.lt_of_lt_of_le h.lt hb.size, (hb.cell (p := ⟨g, 0, none⟩) h.lt).trans h.c0, (hb.cell (p := ⟨g, 1, none⟩) h.lt).trans h.c1, fun j => (hb.frozen (p := ⟨g, j, none⟩) h.lt).trans (h.fr j), h.ne, h.far⟩
theorem Two.row {g : Nat} {a b v : Value} {AX : List AxE} (h : Two w0 wr g bs rows a b) (hb : Below wr.heap.size wr w') (ho : OwnA w' wr.heap.size w'.heap.size v AX) : Two w0 w' g bs ((v, AX) :: rows) a b :=
  have h1 := h.step hb
  ⟨h1.lo, h1.lt, h1.c0, h1.c1, h1.fr, h1.ne, fun r hr => by
    rcases List.mem_cons.1 hr with rfl | hr
    · intro e; have h2 := (ho.1.lt _ e).1; have h3 := h.lt; omega
    · exact h.far r hr⟩
/-- Both cells are written. -/
theorem Two.put {g : Nat} {a b : Value} (h : Two w0 wr g bs rows a b) (hR : Ra w0 wr bs rows) (u v : Value) : Two w0 ((wr.setCell ⟨g, 0, none⟩ u).setCell ⟨g, 1, none⟩ v) g bs rows u v ∧ Ra w0 ((wr.setCell ⟨g, 0, none⟩ u).setCell ⟨g, 1, none⟩ v) bs rows := by
  refine ⟨⟨h.lo, by simpa using h.lt, ?_, ?_, fun j => by rw [World.frozen?_setCell, World.frozen?_setCell]; exact h.fr j, h.ne, h.far⟩, (hR.else h.lo h.ne h.far 0 u).else h.lo h.ne h.far 1 v⟩
  · rw [World.cell?_setCell_other _ _ _ _ (by intro q; injection q with q1 q2; cases q2)]
    exact World.cell?_setCell_same wr _ _ h.c0
  · refine World.cell?_setCell_same _ ⟨g, 1, none⟩ v (u := b) ?_
    rw [World.cell?_setCell_other _ _ _ _ (by intro q; injection q with q1 q2; cases q2)]
    exact h.c1
end
end Go.Proofs.Ytdheakjjnaifkaa
