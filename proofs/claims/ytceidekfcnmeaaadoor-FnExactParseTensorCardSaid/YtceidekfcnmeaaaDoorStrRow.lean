
/- A row of texts of the call's own that stays, beside boxes and rows of integers. -/
import Derived.Test.YtceidekfcnmeaaaDoorRs
namespace Go.Proofs.YtceidekfcnmeaaaDoor
set_option maxRecDepth 20000
open Go.RowKit

structure RsS (w0 wr : World) (bs : List BxE) (rows : List RowE) (v : Value) (us : List ByteArray) : Prop where
  rs : Rs w0 wr bs rows
  own : wr.ownsRow w0.heap.size 9 1 v us.length (strs us)
  farB : ∀ b ∈ bs, v.ownBlock ≠ some b.1
  farR : ∀ r ∈ rows, ∀ g, v.ownBlock = some g → r.1.ownBlock ≠ some g
section
variable {w0 wr w' : World} {bs bs' : List BxE} {rows rows' : List RowE} {v : Value} {us : List ByteArray}
/-- Everything but the row of tensors may change, where its block stays. -/
theorem RsS.move (h : RsS w0 wr bs rows v us) {x : Option Nat} (hr : Rs w0 w' bs' rows') (hg : wr.grownBy w' x) (hx : x = none ∨ v.ownBlock ≠ x) (hB : ∀ b ∈ bs', (∃ c ∈ bs, c.1 = b.1) ∨ wr.heap.size ≤ b.1) (hR : ∀ r ∈ rows', ∀ g, r.1.ownBlock = some g → (∃ s ∈ rows, s.1.ownBlock = some g) ∨ wr.heap.size ≤ g) : RsS w0 w' bs' rows' v us := by
  refine ⟨hr, h.own.kept hg ?_, fun b hb e => ?_, fun r hm g hgv e => ?_⟩
  · cases hv : v.ownBlock with
    | none => exact .inl rfl
    | some k =>
      rcases hx with rfl | hx
      · exact .inr (by simp)
      · exact .inr fun e => hx (by rw [hv, e])
  · rcases hB b hb with ⟨c, hc, e2⟩ | h2
    · exact h.farB c hc (by rw [e2]; exact e)
    · have := (h.own.lt _ e).2; omega
  · rcases hR r hm g e with ⟨s, hs, e2⟩ | h2
    · exact h.farR s hs g hgv e2
    · have := (h.own.lt _ hgv).2; omega
theorem grown_belowS (hb : Below wr.heap.size wr w') : wr.grownBy w' none := ⟨hb.os, hb.tape, hb.output, hb.size, fun k hk _ => hb.block k hk⟩
/-- A call that changes nothing older. -/
theorem RsS.newer (h : RsS w0 wr bs rows v us) (hb : Below wr.heap.size wr w') (hr : Rs w0 w' bs' rows') (hB : ∀ b ∈ bs', (∃ c ∈ bs, c.1 = b.1) ∨ wr.heap.size ≤ b.1) (hR : ∀ r ∈ rows', ∀ g, r.1.ownBlock = some g → (∃ s ∈ rows, s.1.ownBlock = some g) ∨ wr.heap.size ≤ g) : RsS w0 w' bs' rows' v us := h.move (x := none) hr (grown_belowS hb) (.inl rfl) hB hR
theorem sameBS (b : BxE) (hb : b ∈ bs) : (∃ c ∈ bs, c.1 = b.1) ∨ wr.heap.size ≤ b.1 := .inl ⟨b, hb, rfl⟩
theorem sameRS (r : RowE) (hr : r ∈ rows) (g : Nat) (hg : r.1.ownBlock = some g) : (∃ s ∈ rows, s.1.ownBlock = some g) ∨ wr.heap.size ≤ g := .inl ⟨r, hr, hg⟩
theorem RsS.step (h : RsS w0 wr bs rows v us) (hb : Below wr.heap.size wr w') : RsS w0 w' bs rows v us := h.newer hb (h.rs.step hb) sameBS sameRS
theorem RsS.drew (h : RsS w0 wr bs rows v us) : RsS w0 wr.drew bs rows v us := h.step (Below.drew (Below.refl _ _))
theorem RsS.alloc (h : RsS w0 wr bs rows v us) (o : Obj) : RsS w0 (wr.alloc o) bs rows v us := h.step ((Below.refl _ _).alloc (Nat.le_refl _) o)
theorem RsS.box (h : RsS w0 wr bs rows v us) (a b c : Value) (T : TypeId) : RsS w0 (wr.alloc (.cells #[a, b, c] T)) ((wr.heap.size, a, b, c) :: bs) rows v us := by
  refine h.newer ((Below.refl _ _).alloc (Nat.le_refl _) _) (h.rs.box a b c T) (fun x hx => ?_) sameRS
  rcases List.mem_cons.1 hx with rfl | hx
  · exact .inr (Nat.le_refl _)
  · exact sameBS x hx
theorem RsS.boxX (h : RsS w0 wr bs rows v us) (a b c : Value) (T : TypeId) : ∃ WX g, wr.alloc (.cells #[a, b, c] T) = WX ∧ wr.heap.size = g ∧ Below wr.heap.size wr WX ∧ RsS w0 WX ((g, a, b, c) :: bs) rows v us := ⟨_, _, rfl, rfl, (Below.refl _ _).alloc (Nat.le_refl _) _, h.box a b c T⟩
theorem RsS.subB (h : RsS w0 wr bs rows v us) (hs : bs'.Sublist bs) : RsS w0 wr bs' rows v us := ⟨h.rs.subB hs, h.own, fun b hb => h.farB b (hs.subset hb), h.farR⟩
theorem RsS.perm (h : RsS w0 wr bs rows v us) (hp : rows.Perm rows') : RsS w0 wr bs rows' v us := ⟨h.rs.perm hp, h.own, h.farB, fun r hr => h.farR r (hp.symm.subset hr)⟩
theorem RsS.sub (h : RsS w0 wr bs rows v us) (hs : rows'.Sublist rows) : RsS w0 wr bs rows' v us := ⟨h.rs.sub hs, h.own, h.farB, fun r hr => h.farR r (hs.subset hr)⟩
theorem RsS.new (h : RsS w0 wr bs rows v us) {u : Value} {xs : List Int} (hb : Below wr.heap.size wr w') (ho : Own w' wr.heap.size w'.heap.size u xs) : RsS w0 w' bs ((u, xs) :: rows) v us := by
  refine h.newer hb (h.rs.new hb ho) sameBS (fun r hr g hg => ?_)
  rcases List.mem_cons.1 hr with rfl | hr
  · exact .inr (ho.lo g hg)
  · exact sameRS r hr g hg
theorem RsS.new3 (h : RsS w0 wr bs rows v us) {a b c : Value} {x y z : List Int} (hb : Below wr.heap.size wr w') (ho : OwnG w' wr.heap.size w'.heap.size [(a, x), (b, y), (c, z)]) : RsS w0 w' bs ((a, x) :: (b, y) :: (c, z) :: rows) v us := by
  refine h.newer hb (h.rs.new3 hb ho) sameBS (fun r hr g hg => ?_)
  have hlo : ∀ r ∈ [(a, x), (b, y), (c, z)], ∀ g, r.1.ownBlock = some g → wr.heap.size ≤ g := fun r hr g hg => (ho.1 r hr).lo g hg
  simp only [List.mem_cons] at hr
  rcases hr with rfl | rfl | rfl | hr
  · exact .inr (hlo _ (by simp) g hg)
  · exact .inr (hlo _ (by simp) g hg)
  · exact .inr (hlo _ (by simp) g hg)
  · exact sameRS r hr g hg
/-- A store into the first box. -/
theorem RsS.setB {r : Nat} {a b c : Value} (h : RsS w0 wr ((r, a, b, c) :: bs) rows v us) (i : Nat) (u : Value) : RsS w0 (wr.setCell ⟨r, i, none⟩ u) ((r, (if i = 0 then u else a), (if i = 1 then u else b), (if i = 2 then u else c)) :: bs) rows v us := by
  refine h.move (h.rs.setB i u) (grownBy_set wr r i u) (.inr (h.farB (r, a, b, c) (by simp))) (fun x hx => ?_) sameRS
  rcases List.mem_cons.1 hx with rfl | hx
  · exact .inl ⟨_, List.mem_cons_self, rfl⟩
  · exact sameBS x (List.mem_cons_of_mem _ hx)
theorem RsS.last {r : Nat} {a b c : Value} (h : RsS w0 wr ((r, a, b, c) :: bs) rows v us) (z : Value) : RsS w0 (wr.setCell ⟨r, 2, none⟩ z) ((r, a, b, z) :: bs) rows v us := by
  have c := h.setB 2 z
  simp only [if_true, if_false, Nat.reduceEqDiff, Nat.succ_ne_zero] at c
  exact c
theorem RsS.set3 {r : Nat} {a b c : Value} (h : RsS w0 wr ((r, a, b, c) :: bs) rows v us) (x y z : Value) : RsS w0 (((wr.setCell ⟨r, 0, none⟩ x).setCell ⟨r, 1, none⟩ y).setCell ⟨r, 2, none⟩ z) ((r, x, y, z) :: bs) rows v us := by
  have c := ((h.setB 0 x).setB 1 y).setB 2 z
  simp only [if_true, if_false, Nat.one_ne_zero, Nat.zero_ne_one, Nat.reduceEqDiff] at c
  exact c
/-- The first row of integers has grown. -/
theorem RsS.appR {u : Value} {xs news : List Int} {g n cap : Nat} (h : RsS w0 wr bs ((u, xs) :: rows) v us) (ho : w'.ownsRow w0.heap.size 3 1 (.slice (some ⟨g, 0, none⟩) n cap) n (ints (xs ++ news))) (hn : (xs ++ news).length = n) (hg : wr.grownBy w' u.ownBlock) (hl : u.ownBlock = some g ∨ g = wr.heap.size) : RsS w0 w' bs ((.slice (some ⟨g, 0, none⟩) n cap, xs ++ news) :: rows) v us := by
  refine h.move (h.rs.app ho hn hg hl) hg ?_ sameBS (fun r hr g' hg' => ?_)
  · cases hu : u.ownBlock with
    | none => exact .inl rfl
    | some k => exact .inr fun e => h.farR _ List.mem_cons_self k e hu
  · rcases List.mem_cons.1 hr with rfl | hr
    · have e : g' = g := by simpa [Value.ownBlock] using hg'.symm
      subst e
      rcases hl with hl | hl
      · exact .inl ⟨_, List.mem_cons_self, hl⟩
      · exact .inr (by omega)
    · exact sameRS r (List.mem_cons_of_mem _ hr) g' hg'
theorem RsS.nil (h : RsS w0 wr bs rows v us) : RsS w0 wr bs ((nilV, []) :: rows) v us := ⟨h.rs.nil, h.own, h.farB, fun r hr g hg => by
  rcases List.mem_cons.1 hr with rfl | hr
  · simp [Value.ownBlock]
  · exact h.farR r hr g hg⟩
theorem RsS.swapB {a b : BxE} (h : RsS w0 wr (a :: b :: bs) rows v us) : RsS w0 wr (b :: a :: bs) rows v us := ⟨h.rs.swapB, h.own, fun x hx => h.farB x ((List.Perm.swap _ _ _).subset hx), h.farR⟩
theorem RsS.swap {a b : RowE} (h : RsS w0 wr bs (a :: b :: rows) v us) : RsS w0 wr bs (b :: a :: rows) v us := h.perm (List.Perm.swap _ _ _)
end
theorem RsS.words {w0 wr w' : World} {bs : List BxE} {v : Value} {ss : List ByteArray} (h : Rs w0 wr bs []) (hb : Below wr.heap.size wr w') (ho : w'.ownsRow wr.heap.size 9 1 v ss.length (strs ss)) : RsS w0 w' bs [] v ss := by
  refine ⟨h.step hb, ⟨ho.1, ho.2.imp id (fun ⟨g, cap, cur, e, hb2, r⟩ => ⟨g, cap, cur, e, Nat.le_trans h.bel.size hb2, r⟩)⟩, fun b hb2 e => ?_, fun r hr => by cases hr⟩
  have h1 := (ho.lt _ e).1
  have h2 := (h.bx b hb2).lt
  omega
/-- A text of the row. -/
theorem RsS.at {w0 wr : World} {bs : List BxE} {rows : List RowE} {p : Option Addr} {n cap i : Nat} {y : ByteArray} {us : List ByteArray} (h : RsS w0 wr bs rows (.slice p n cap) us) (hn : us.length = n) (hx : us[i]? = some y) : ∃ g, p = some ⟨g, 0, none⟩ ∧ g < wr.heap.size ∧ wr.cell? ⟨g, i, none⟩ = some (.string y) := by
  have ho : wr.ownsRow w0.heap.size 9 1 (.slice p n cap) n (strs us) := hn ▸ h.own
  have hl := (List.getElem?_eq_some_iff.1 hx).1
  rcases ho.2 with ⟨-, h0⟩ | ⟨g, ca, cur, e, hlo, hg, -⟩
  · exfalso; omega
  · injection e with e
    subst e
    refine ⟨g, rfl, (ho.lt g rfl).2, ?_⟩
    rw [ho.cellAt _ (by omega)]
    unfold strs
    rw [List.getElem?_map, hx]
    rfl
end Go.Proofs.YtceidekfcnmeaaaDoor
