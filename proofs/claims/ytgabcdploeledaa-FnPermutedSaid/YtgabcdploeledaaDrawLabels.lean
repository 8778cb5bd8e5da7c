
/- The state of a function that draws: boxes and rows of the call's own, beside a cursor of the caller's. -/
import Derived.Test.YtgabcdploeledaaRs
import Derived.Test.YtgabcdploeledaaMakeElem
import Derived.Test.YtgabcdploeledaaPermSpec
import Derived.Test.YtgabcdploeledaaNamesSpec
namespace Go.Proofs.Ytgabcdploeledaa
set_option maxRecDepth 20000
open Go.RowKit

/-- A world of the same size that differs from w0 at the cursor alone: against it nothing older has changed. -/
def RsC (w0 wr : World) (cb B : Nat) (v : Value) (bts : List UInt8) (bs : List BxE) (rows : List RowE) : Prop :=
  (∃ w1 : World, w1.heap.size = w0.heap.size ∧ KeptOut w0 w1 cb (cb + 1) ∧ Rs w1 wr bs rows) ∧ CurOk wr cb B v bts ∧ cb < w0.heap.size
variable {w0 wr w' : World} {cb B : Nat} {v : Value} {bts : List UInt8} {bs : List BxE} {rows : List RowE}
theorem RsC.cur (h : RsC w0 wr cb B v bts bs rows) : CurOk wr cb B v bts := h.2.1
theorem RsC.lt (h : RsC w0 wr cb B v bts bs rows) : cb < w0.heap.size := h.2.2
theorem RsC.start {w : World} (hc : CurOk w cb B v bts) : RsC w w cb B v bts [] [] := ⟨⟨w, rfl, KeptOut.refl _ _ _, Rs.start w⟩, hc, hc.lo.2⟩
/-- A step that leaves the cursor alone. -/
theorem RsC.lift {bs' : List BxE} {rows' : List RowE} (h : RsC w0 wr cb B v bts bs rows) (hc : CurOk w' cb B v bts) (f : ∀ w1 : World, w1.heap.size = w0.heap.size → Rs w1 wr bs rows → Rs w1 w' bs' rows') : RsC w0 w' cb B v bts bs' rows' := by
  obtain ⟨⟨w1, h1, h2, h3⟩, -, h5⟩ := h
  exact ⟨⟨w1, h1, h2, f w1 h1 h3⟩, hc, h5⟩
theorem RsC.step (h : RsC w0 wr cb B v bts bs rows) (hb : Below wr.heap.size wr w') : RsC w0 w' cb B v bts bs rows :=
  h.lift (h.cur.below hb) fun _ _ r => r.step hb
theorem RsC.drew (h : RsC w0 wr cb B v bts bs rows) : RsC w0 wr.drew cb B v bts bs rows := h.step (Below.drew (Below.refl _ _))
theorem RsC.box (h : RsC w0 wr cb B v bts bs rows) (a b c : Value) (T : TypeId) : RsC w0 (wr.alloc (.cells #[a, b, c] T)) cb B v bts ((wr.heap.size, a, b, c) :: bs) rows :=
  h.lift (h.cur.below ((Below.refl _ _).alloc (Nat.le_refl _) _)) fun _ _ r => r.box a b c T
theorem RsC.new {u : Value} {xs : List Int} (h : RsC w0 wr cb B v bts bs rows) (hb : Below wr.heap.size wr w') (ho : Own w' wr.heap.size w'.heap.size u xs) : RsC w0 w' cb B v bts bs ((u, xs) :: rows) :=
  h.lift (h.cur.below hb) fun _ _ r => r.new hb ho
theorem RsC.new3 {a b c : Value} {x y z : List Int} (h : RsC w0 wr cb B v bts bs rows) (hb : Below wr.heap.size wr w') (ho : OwnG w' wr.heap.size w'.heap.size [(a, x), (b, y), (c, z)]) : RsC w0 w' cb B v bts bs ((a, x) :: (b, y) :: (c, z) :: rows) :=
  h.lift (h.cur.below hb) fun _ _ r => r.new3 hb ho
theorem RsC.size (h : RsC w0 wr cb B v bts bs rows) : w0.heap.size ≤ wr.heap.size := by
  obtain ⟨⟨w1, h1, -, h3⟩, -, -⟩ := h
  have := h3.bel.size
  omega
theorem RsC.kept (h : RsC w0 wr cb B v bts bs rows) : KeptOut w0 wr cb (cb + 1) := by
  obtain ⟨⟨w1, h1, h2, h3⟩, -, h5⟩ := h
  refine h2.trans ⟨h3.bel.os, h3.bel.tape, h3.bel.output, h3.bel.size, fun b hb _ => h3.bel.block b hb⟩
/-- The cursor has moved. -/
theorem RsC.moved (h : RsC w0 wr cb B v bts bs rows) (hk : KeptOut wr w' cb (cb + 1)) (hc : CurOk w' cb B v bts) : RsC w0 w' cb B v bts bs rows := by
  obtain ⟨⟨w1, h1, h2, h3⟩, h4, h5⟩ := h
  have hs := h3.bel.size
  obtain ⟨ob, hob⟩ : ∃ ob, w'.heap[cb]? = some ob := ⟨_, Array.getElem?_eq_getElem (Nat.lt_of_lt_of_le h5 (by have := hk.2.2.2.1; omega))⟩
  obtain ⟨w2, e1, e2, e3⟩ : ∃ w2 : World, w2.heap.size = w0.heap.size ∧ KeptOut w1 w2 cb (cb + 1) ∧ Below w1.heap.size w2 w' := by
    refine ⟨{ w1 with heap := w1.heap.setIfInBounds cb ob }, by simpa using h1, ⟨rfl, rfl, rfl, by simp, fun b _ hx => ?_⟩, ⟨hk.1.trans h3.bel.os, hk.2.1.trans h3.bel.tape, hk.2.2.1.trans h3.bel.output, ?_, fun b hb => ?_⟩⟩
    · exact Array.getElem?_setIfInBounds_ne (by omega)
    · have := hk.2.2.2.1; simp; omega
    · by_cases e : b = cb
      · subst e
        rw [hob]
        exact (Array.getElem?_setIfInBounds_self_of_lt (by omega)).symm
      · refine (hk.2.2.2.2 b (by omega) (by omega)).trans ((h3.bel.block b hb).trans ?_)
        exact (Array.getElem?_setIfInBounds_ne (fun h => e h.symm)).symm
  have e4 : w2.heap.size = w1.heap.size := by omega
  have ncb : ∀ g, w1.heap.size ≤ g → g < cb ∨ cb + 1 ≤ g := fun g hg => by omega
  have hblk : ∀ g, w1.heap.size ≤ g → g < wr.heap.size → w'.heap[g]? = wr.heap[g]? := fun g hg hl => hk.2.2.2.2 g hl (ncb g hg)
  refine ⟨⟨w2, e1, h2.trans e2, ?_⟩, hc, h5⟩
  refine ⟨by rw [e4]; exact e3, fun r hr => ?_, h3.apart, fun b hb => ?_, h3.far, h3.dis⟩
  · have ho := h3.own r hr
    rw [e4]
    refine ⟨ho.1, ?_⟩
    rcases ho.2 with hn | ⟨g, cap, cur, e, hb, hg, rest⟩
    · exact .inl hn
    · refine .inr ⟨g, cap, cur, e, hb, ?_, rest⟩
      rw [hblk g hb (ho.lt g (by rw [e]; rfl)).2]; exact hg
  · have hx := h3.bx b hb
    have eb := hblk b.1 hx.lo hx.lt
    refine ⟨by rw [e4]; exact e3, (World.cell?_of_block eb).trans hx.c0, (World.cell?_of_block eb).trans hx.c1, (World.cell?_of_block eb).trans hx.c2, fun j => (World.frozen?_of_block eb).trans (hx.fr j), Nat.lt_of_lt_of_le hx.lt hk.2.2.2.1, by rw [e4]; exact hx.lo⟩
/-- An element is drawn. -/
theorem RsC.drawn {u : Value} {xs : List Int} (h : RsC w0 wr cb B v bts bs rows) (hk : KeptOut wr w' cb (cb + 1)) (hc : CurOk w' cb B v bts) (ho : Own w' wr.heap.size w'.heap.size u xs) : RsC w0 w' cb B v bts bs ((u, xs) :: rows) := by
  have hm := h.moved hk hc
  have hsz := h.size
  refine hm.lift hc fun w1 h1 r => ⟨r.bel, fun q hq => ?_, List.pairwise_cons.2 ⟨fun q hq g hg e => ?_, r.apart⟩, r.bx, fun b hb q hq => ?_, r.dis⟩
  · rcases List.mem_cons.1 hq with rfl | hq
    · exact ⟨ho.1.1, ho.1.2.imp id (fun ⟨g, cap, cur, e, hb, rest⟩ => ⟨g, cap, cur, e, by omega, rest⟩)⟩
    · exact r.own q hq
  · have h2 := ho.lo g hg
    obtain ⟨⟨w2, -, -, r2⟩, -, -⟩ := h
    have h3 := ((r2.own q hq).lt g e).2
    omega
  · rcases List.mem_cons.1 hq with rfl | hq
    · intro e
      have h2 := ho.lo _ e
      obtain ⟨⟨w2, -, -, r2⟩, -, -⟩ := h
      have h3 := (r2.bx b hb).lt
      omega
    · exact r.far b hb q hq
/-- What does not turn the world. -/
theorem RsC.same {bs' : List BxE} {rows' : List RowE} (h : RsC w0 wr cb B v bts bs rows) (f : ∀ w1 : World, Rs w1 wr bs rows → Rs w1 wr bs' rows') : RsC w0 wr cb B v bts bs' rows' := h.lift h.cur fun w1 _ r => f w1 r
/-- A row of the call's own is written. -/
theorem RsC.put {xs : List Int} {g n cap : Nat} (h : RsC w0 wr cb B v bts bs ((.slice (some ⟨g, 0, none⟩) n cap, xs) :: rows)) (hn : xs.length = n) (i : Nat) (x : Int) : RsC w0 (wr.setCell ⟨g, i, none⟩ (.int .i64 x)) cb B v bts bs ((.slice (some ⟨g, 0, none⟩) n cap, xs.set i x) :: rows) := by
  refine h.lift (h.cur.below_at ((Below.refl g wr).setCell (p := ⟨g, i, none⟩) (Nat.le_refl _) _) ?_) fun w1 _ r => r.put hn i x
  obtain ⟨⟨w1, h1, -, r⟩, -, h5⟩ := h
  have := ((r.own _ (List.mem_cons_self)).lt g rfl).1
  omega
theorem RsC.row {u : Value} {xs : List Int} (h : RsC w0 wr cb B v bts bs rows) (hm : (u, xs) ∈ rows) : Own wr w0.heap.size wr.heap.size u xs := by
  obtain ⟨⟨w1, h1, -, r⟩, -, -⟩ := h
  rw [← h1]
  exact r.own1 hm
end Go.Proofs.Ytgabcdploeledaa
namespace Go.Proofs.Ytgabcdploeledaa
set_option maxRecDepth 20000
open Go.RowKit
variable {w0 wr w' : World} {cb B : Nat} {v : Value} {bts : List UInt8} {bs : List BxE} {rows : List RowE}
theorem RsC.alloc (h : RsC w0 wr cb B v bts bs rows) (o : Obj) : RsC w0 (wr.alloc o) cb B v bts bs rows := h.step ((Below.refl _ _).alloc (Nat.le_refl _) o)
theorem RsC.lit (h : RsC w0 wr cb B v bts bs rows) : RsC w0 (wr.alloc (.cells #[] 3)) cb B v bts bs ((.slice (some ⟨wr.heap.size, 0, none⟩) 0 0, []) :: rows) :=
  h.lift (h.cur.below ((Below.refl _ _).alloc (Nat.le_refl _) _)) fun _ _ r => r.lit
theorem RsC.swap {a b : RowE} (h : RsC w0 wr cb B v bts bs (a :: b :: rows)) : RsC w0 wr cb B v bts bs (b :: a :: rows) := h.same fun _ r => r.swap
theorem RsC.sub {rows' : List RowE} (h : RsC w0 wr cb B v bts bs rows) (hs : rows'.Sublist rows) : RsC w0 wr cb B v bts bs rows' := h.same fun _ r => r.sub hs
theorem RsC.at {r : Nat} {a b c : Value} (h : RsC w0 wr cb B v bts bs rows) (hm : (r, a, b, c) ∈ bs) : (wr.cell? ⟨r, 0, none⟩ = some a ∧ wr.cell? ⟨r, 1, none⟩ = some b ∧ wr.cell? ⟨r, 2, none⟩ = some c) ∧ wr.frozen? ⟨r, 0, none⟩ = false ∧ wr.frozen? ⟨r, 1, none⟩ = false ∧ wr.frozen? ⟨r, 2, none⟩ = false := by
  obtain ⟨⟨w1, h1, -, r⟩, -, -⟩ := h
  exact r.at hm
theorem RsC.rowN {u : Value} {xs : List Int} {n : Nat} (h : RsC w0 wr cb B v bts bs rows) (hm : (u, xs) ∈ rows) (hn : xs.length = n) : wr.ownsRow w0.heap.size 3 1 u n (ints xs) := by
  obtain ⟨⟨w1, h1, -, r⟩, -, -⟩ := h
  rw [← h1]
  exact r.row hm hn
theorem RsC.rd {u : Value} {xs : List Int} (h : RsC w0 wr cb B v bts bs rows) (hm : (u, xs) ∈ rows) : Rd wr.heap.size wr u (ints xs) := by
  obtain ⟨⟨w1, h1, -, r⟩, -, -⟩ := h
  exact r.rd hm
theorem RsC.ownG (h : RsC w0 wr cb B v bts bs rows) : OwnG wr w0.heap.size wr.heap.size rows := by
  obtain ⟨⟨w1, h1, -, r⟩, -, -⟩ := h
  rw [← h1]
  exact r.ownG
theorem RsC.app1 {u : Value} {xs : List Int} {x : Int} {g n cap : Nat} (h : RsC w0 wr cb B v bts bs ((u, xs) :: rows)) (hn : xs.length = n) (ho : w'.ownsRow w0.heap.size 3 1 (.slice (some ⟨g, 0, none⟩) (n + 1) cap) (n + 1) (ints xs ++ [.int .i64 x])) (hg : wr.grownBy w' u.ownBlock) (hl : u.ownBlock = some g ∨ g = wr.heap.size) :
    RsC w0 w' cb B v bts bs ((.slice (some ⟨g, 0, none⟩) (n + 1) cap, xs ++ [x]) :: rows) := by
  have hlo := fun k hk => ((h.rowN (List.mem_cons_self) hn).lt k hk).1
  exact h.lift (h.cur.below_at ((Below.refl w0.heap.size wr).grown hg h.size hlo) h.lt) fun w1 h1 r => r.app1 hn (by rw [h1]; exact ho) hg hl
/-- The first row has been written by a call. -/
theorem Rs.turn {u : Value} {xs xs' : List Int} {lo hi : Nat} (h : Rs w0 wr bs ((u, xs) :: rows)) (hlo : w0.heap.size ≤ lo) (ho : Own w' lo hi u xs') (hg : wr.grownBy w' u.ownBlock) : Rs w0 w' bs ((u, xs') :: rows) := by
  have hl : ∀ k, u.ownBlock = some k → w0.heap.size ≤ k := fun k hk => ((h.own (u, xs) (by simp)).lt k hk).1
  have hap := List.pairwise_cons.1 h.apart
  refine ⟨h.bel.grown hg h.bel.size hl, fun r hr => ?_, List.pairwise_cons.2 ⟨hap.1, hap.2⟩, fun b hm => (h.bx b hm).grown hg (fun k hk => ⟨fun e => h.far b hm (u, xs) (by simp) (by rw [hk, e]), hl k hk⟩), fun b hm r hr => ?_, h.dis⟩
  · rcases List.mem_cons.1 hr with rfl | hr2
    · exact ⟨ho.1.1, ho.1.2.imp id (fun ⟨g, cap, cur, e, hb, q⟩ => ⟨g, cap, cur, e, Nat.le_trans hlo hb, q⟩)⟩
    · exact (h.own r (by simp [hr2])).kept hg (by
        cases hv : r.1.ownBlock with
        | none => exact .inl rfl
        | some k => exact .inr fun e => hap.1 r hr2 k e.symm hv)
  · rcases List.mem_cons.1 hr with rfl | hr2
    · exact h.far b hm (u, xs) (by simp)
    · exact h.far b hm r (by simp [hr2])
theorem RsC.turn {u : Value} {xs xs' : List Int} {lo hi : Nat} (h : RsC w0 wr cb B v bts bs ((u, xs) :: rows)) (hlo : w0.heap.size ≤ lo) (ho : Own w' lo hi u xs') (hg : wr.grownBy w' u.ownBlock) : RsC w0 w' cb B v bts bs ((u, xs') :: rows) := by
  have hl := fun k hk => ((h.rowN (List.mem_cons_self) rfl).lt k hk).1
  exact h.lift (h.cur.below_at ((Below.refl w0.heap.size wr).grown hg h.size hl) h.lt) fun w1 h1 r => r.turn (by omega) ho hg
theorem RsC.set3 {r : Nat} {a b c : Value} (h : RsC w0 wr cb B v bts ((r, a, b, c) :: bs) rows) (x y z : Value) : RsC w0 (((wr.setCell ⟨r, 0, none⟩ x).setCell ⟨r, 1, none⟩ y).setCell ⟨r, 2, none⟩ z) cb B v bts ((r, x, y, z) :: bs) rows := by
  have hr : cb < r := by
    obtain ⟨⟨w1, h1, -, q⟩, -, h5⟩ := h
    have := (q.bx _ (List.mem_cons_self)).lo
    show cb < r
    simp only at this
    omega
  refine h.lift (h.cur.below_at (((Below.refl r wr).setCell (p := ⟨r, 0, none⟩) (Nat.le_refl _) x).setCell (p := ⟨r, 1, none⟩) (Nat.le_refl _) y |>.setCell (p := ⟨r, 2, none⟩) (Nat.le_refl _) z) hr) fun w1 _ q => q.set3 x y z
theorem RsC.swapB {a b : BxE} (h : RsC w0 wr cb B v bts (a :: b :: bs) rows) : RsC w0 wr cb B v bts (b :: a :: bs) rows := h.same fun _ r => r.swapB
end Go.Proofs.Ytgabcdploeledaa
namespace Go.Proofs.Ytgabcdploeledaa
set_option maxRecDepth 20000
open Go.RowKit

theorem swap_perm {ys : List Int} {j x : Nat} {a b : Int} (ha : ys[j]? = some a) (hb : ys[x]? = some b) : ((ys.set j b).set x a).Perm ys := by
  obtain ⟨hj, rfl⟩ := List.getElem?_eq_some_iff.1 ha
  obtain ⟨hx, rfl⟩ := List.getElem?_eq_some_iff.1 hb
  exact List.set_set_perm hj hx
/-- What a list in some order is told. -/
def ShufflePost (cb B : Nat) (v : Value) (bts : List UInt8) (L : List Int) (w : World) (e : Ending) (w' : World) : Prop := ∃ u xs, e = .returned u ∧ xs.Perm L ∧ Own w' w.heap.size w'.heap.size u xs ∧ CurOk w' cb B v bts ∧ KeptOut w w' cb (cb + 1)
set_option maxHeartbeats 1600000 in
theorem shuffle {cb B B' : Nat} {v lv : Value} {bts : List UInt8} {L : List Int} {w : World} (hc : CurOk w cb B v bts) (hl : Rd B' w lv (ints L)) (hB : B' ≤ w.heap.size) (hn : L.length ≤ 200) :
    Calls Try.prog 99 #[.pointer (some ⟨cb, 0, none⟩), lv] w (ShufflePost cb B v bts L w) := by
  have HI := Lib.hid (ints_new hl hB (show L.length ≤ 1099511627776 by omega))
  have HC := Lib.hid hc
  obtain ⟨al, cl, rfl, -⟩ := ints_form hl
  obtain ⟨m, hm⟩ : ∃ m, m = L.length := ⟨_, rfl⟩
  rw [← hm] at HI hn ⊢
  have HM := Lib.hid hm
  clear hl hB hm hc
  go_enter Try.func99, Try.ntmps99
  go_wp2_with fail
  refine HI.out.mono ?_
  rintro e w1 ⟨u, rfl, ho, hb⟩
  have C1 := Lib.hid ((RsC.start HC.out).new hb ho)
  obtain ⟨a3, c3, rfl, -⟩ := ints_form ho.rd
  rw [← HM.out] at C1 ⊢
  clear ho hb
  go_wp2
  go_loopw [13] (fun i wr => ∃ (j : Nat) (ys : List Int), j ≤ m ∧ i = .int .i64 j ∧ Hid (ys.Perm L) ∧ Hid (RsC w wr cb B v bts [] [(.slice a3 m c3, ys)])) (fun i _ => m - (intOf i).toNat)
  case atStart => exact ⟨0, L, by omega, rfl, Lib.hid (List.Perm.refl _), C1⟩
  case round =>
    clear C1
    obtain ⟨j, ys, hj, rfl, HP, HR⟩ := hrel
    by_cases hlt : j < m
    · have hcb := cur_below (j + 1) (by omega) (by omega) HR.out.cur
      have ecast : ((j + 1 : Nat) : Int) = (j : Int) + 1 := by omega
      rw [ecast] at hcb
      have HCB := Lib.hid hcb
      have hwi : IntKind.i64.wrap ((j : Int) + 1) = (j : Int) + 1 := IntWalk.i64_in _ (by omega)
      have HYL : Hid (ys.length = m) := Lib.hid (by rw [HP.out.length_eq, HM.out])
      clear hcb ecast
      go_wp2_with fail
      refine HCB.out.mono ?_
      rintro e w2 ⟨x, rfl, hx, h1, k1⟩
      have R2 := Lib.hid (HR.out.moved k1 h1)
      obtain ⟨g, rfl, -, -, hcell, hfz⟩ := (R2.out.row (List.mem_singleton.2 rfl)).slot HYL.out (by omega)
      obtain ⟨a, A1⟩ : ∃ a, Hid (ys[j]? = some a) := ⟨_, List.getElem?_eq_getElem (by rw [HYL.out]; exact hlt)⟩
      obtain ⟨b, B1⟩ : ∃ b, Hid (ys[x]? = some b) := ⟨_, List.getElem?_eq_getElem (by rw [HYL.out]; omega)⟩
      have ca := hcell j a A1.out
      have cbb := hcell x b B1.out
      have fa := hfz j
      have fb := hfz x
      have cb2 : (w2.setCell ⟨g, j, none⟩ (.int .i64 b)).cell? ⟨g, x, none⟩ = some (.int .i64 b) := by
        by_cases e : j = x
        · subst e; exact World.cell?_setCell_same _ _ _ ca
        · rw [World.cell?_setCell_other _ _ _ _ (by intro q; injection q with q1 q2; exact e q2)]; exact cbb
      have fb2 : (w2.setCell ⟨g, j, none⟩ (.int .i64 b)).frozen? ⟨g, x, none⟩ = false := by rw [World.frozen?_setCell]; exact fb
      have R3 := Lib.hid ((R2.out.put HYL.out j b).put (by rw [List.length_set]; exact HYL.out) x a)
      have HP2 : Hid (((ys.set j b).set x a).Perm L) := Lib.hid ((swap_perm A1.out B1.out).trans HP.out)
      have hxm : x < m := by omega
      clear hcell hfz h1 k1 hx
      go_wp2
      go_roundw
      case rel => exact ⟨j + 1, _, by omega, by go_num, HP2, R3⟩
      case measure => simp [intOf]; omega
    · obtain rfl : j = m := by omega
      go_wp2
      go_ret
      exact ⟨_, ys, rfl, HP.out, HR.out.row (List.mem_singleton.2 rfl), HR.out.cur, HR.out.kept⟩
set_option maxHeartbeats 800000 in
/-- MakeList. -/
theorem make_list {v lv : Value} {bts : List UInt8} {L : List Int} {w : World} (n : Nat) (hn : n ≤ 1000) (hr : Rd w.heap.size w v (bytes8 bts)) (hl : bts.length ≤ 1048576) (hx : Rd w.heap.size w lv (ints L)) (hL : L.length ≤ 200) :
    Calls Try.prog 47 #[v, .int .i64 n, lv] w fun e w' => ∃ u xs, e = .returned u ∧ xs.Perm L ∧ Own w' w.heap.size w'.heap.size u xs ∧ Below w.heap.size w w' := by
  have HR := Lib.hid hr
  have HL := Lib.hid (And.intro hl hL)
  have HX := Lib.hid hx
  clear hr hl hx hL
  go_enter Try.func47, Try.ntmps47
  go_wp2_with fail
  refine (cur_at n hn HR.out HL.out.1).mono ?_
  rintro e w1 ⟨cb, rfl, hc, hb⟩
  have HC := Lib.hid hc
  have HB := Lib.hid hb
  clear hc hb
  go_wp2_with fail
  refine (shuffle HC.out (HX.out.below HB.out (Nat.le_refl _)) HB.out.size HL.out.2).mono ?_
  rintro e w2 ⟨u, xs, rfl, hp, ho, -, hk⟩
  have HO := Lib.hid (And.intro hp (And.intro ho hk))
  clear hp ho hk
  go_wp2
  go_ret
  have h1 := HO.out.2.2.below HB.out HC.out.lo.1 HB.out.size
  exact ⟨u, xs, rfl, HO.out.1, ⟨⟨HO.out.2.1.1.1, HO.out.2.1.1.2.imp id (fun ⟨g, cap, cur, e, hb, q⟩ => ⟨g, cap, cur, e, Nat.le_trans HB.out.size hb, q⟩)⟩, HO.out.2.1.2.1, HO.out.2.1.2.2⟩, h1⟩
end Go.Proofs.Ytgabcdploeledaa
namespace Go.Proofs.Ytgabcdploeledaa
set_option maxRecDepth 20000
open Go.RowKit

structure LabV (n most : Nat) (ls ds : List Int) : Prop where
  len : ls.length = ds.length
  most : ls.length ≤ most
  rg : ∀ x ∈ ls, 0 ≤ x ∧ x < (n : Int)
  dm : ∀ d ∈ ds, 1 ≤ d ∧ d ≤ 3
  nd : ls.Nodup
  dv : ∀ i x, ls[i]? = some x → ds.getD i 0 = 1 + (x + 1) % 3
theorem LabV.more {n m : Nat} {ls ds : List Int} {x : Nat} {d : Int} (h : LabV n m ls ds) (hx : x < n) (hno : (x : Int) ∉ ls) (hd0 : d = 1 + ((x : Int) + 1) % 3) (hd : 1 ≤ d ∧ d ≤ 3) : LabV n (m + 1) (ls ++ [(x : Int)]) (ds ++ [d]) := by
  refine ⟨by simp [h.len], by have := h.most; simp; omega, fun y hy => ?_, fun y hy => ?_, ?_, fun i y hi => ?_⟩
  · rcases List.mem_append.1 hy with hy | hy
    · exact h.rg y hy
    · simp at hy; subst hy; omega
  · rcases List.mem_append.1 hy with hy | hy
    · exact h.dm y hy
    · simp at hy; subst hy; exact hd
  · rw [List.nodup_append]
    exact ⟨h.nd, by simp, fun y hy z hz e => by simp at hz; subst hz; subst e; exact hno hy⟩
  · have hl := h.len
    by_cases hlt : i < ls.length
    · rw [List.getElem?_append_left hlt] at hi
      rw [List.getD_eq_getElem?_getD, List.getElem?_append_left (by omega), ← List.getD_eq_getElem?_getD]
      exact h.dv i y hi
    · have h1 := (List.getElem?_eq_some_iff.1 hi).1
      rw [List.length_append, List.length_singleton] at h1
      obtain rfl : i = ls.length := by omega
      rw [List.getElem?_append_right (Nat.le_refl _), Nat.sub_self] at hi
      injection hi with hi
      subst hi
      rw [List.getD_eq_getElem?_getD, List.getElem?_append_right (by omega), hl, Nat.sub_self]
      exact hd0
theorem LabV.wide {n m m' : Nat} {ls ds : List Int} (h : LabV n m ls ds) (hm : m ≤ m') : LabV n m' ls ds := ⟨h.len, Nat.le_trans h.most hm, h.rg, h.dm, h.nd, h.dv⟩
def LabelsPost (cb B : Nat) (v : Value) (bts : List UInt8) (n most : Nat) (w : World) (e : Ending) (w' : World) : Prop :=
  ∃ lu ls du ds, e = .returned (.tuple #[lu, du]) ∧ LabV n most ls ds ∧ OwnG w' w.heap.size w'.heap.size [(lu, ls), (du, ds)] ∧ CurOk w' cb B v bts ∧ KeptOut w w' cb (cb + 1)
set_option maxHeartbeats 3200000 in
theorem draw_labels {cb B : Nat} {v : Value} {bts : List UInt8} {w : World} (n most : Nat) (hn0 : 0 < n) (hn : n ≤ 100) (hm : most ≤ 12) (hc : CurOk w cb B v bts) :
    Calls Try.prog 132 #[.pointer (some ⟨cb, 0, none⟩), .int .i64 n, .int .i64 most] w (LabelsPost cb B v bts n most w) := by
  have HC := Lib.hid hc
  obtain ⟨i0, hi, hz0, hz1, hz2⟩ := info_parts infoInt
  have J0 := Lib.hid hi
  have J1 := Lib.hid hz0
  have J2 := Lib.hid hz1
  have J3 := Lib.hid hz2
  have S1 := (RsC.start hc).lit.lit
  simp only [World.size_alloc] at S1
  have S2 := Lib.hid S1
  have hwm : IntKind.i64.wrap ((most : Int) + 1) = (most : Int) + 1 := IntWalk.i64_in _ (by omega)
  have hcm := cur_below (most + 1) (by omega) (by omega) S1.cur
  have em : ((most + 1 : Nat) : Int) = (most : Int) + 1 := by omega
  rw [em] at hcm
  have HCM := Lib.hid hcm
  clear hc hi hz0 hz1 hz2 S1 hcm em
  go_enter Try.func132, Try.ntmps132
  go_wp2_with fail
  refine HCM.out.mono ?_
  rintro e w1 ⟨y, rfl, hy, h1, k1⟩
  have R1 := Lib.hid (S2.out.moved k1 h1)
  clear h1 k1 S2
  go_wp2
  go_loopw [8, 9, 10] (fun s t kk wr => ∃ (q j ca cc : Nat) (ga gb : Option Addr) (ls ds : List Int), q ≤ most ∧ kk = .int .i64 q ∧ s = .slice ga j ca ∧ t = .slice gb j cc ∧ Hid (LabV n (most - q) ls ds) ∧ Hid (ls.length = j) ∧ Hid (RsC w wr cb B v bts [] [(.slice ga j ca, ls), (.slice gb j cc, ds)])) (fun _ _ kk _ => (intOf kk).toNat)
  case atStart => exact ⟨y, 0, 0, 0, _, _, [], [], by omega, rfl, rfl, rfl, ⟨rfl, by simp, by simp, by simp, by simp, by simp⟩, rfl, R1.out.swap⟩
  case round =>
    clear R1
    obtain ⟨q, j, ca, cc, ga, gb, ls, ds, hq, rfl, rfl, rfl, HL, HJ, HR⟩ := hrel
    have HD : Hid (ds.length = j) := Lib.hid (by rw [← HL.out.len, HJ.out])
    cases q with
    | zero =>
      go_wp2
      go_ret2
      exact ⟨_, ls, _, ds, rfl, HL.out, HR.out.ownG, HR.out.cur, HR.out.kept⟩
    | succ q =>
      have hj12 : j ≤ 12 := by have := HL.out.most; rw [HJ.out] at this; omega
      have hcast : ((q + 1 : Nat) : Int) = (q : Int) + 1 := by omega
      rw [hcast]
      have q0 : decide ((0 : Int) < (q : Int) + 1) = true := by simp
      have hsub : IntKind.i64.wrap (q : Int) = (q : Int) := IntWalk.i64_in _ (by omega)
      have HCB := Lib.hid (cur_below n hn0 (by omega) HR.out.cur)
      go_wp2_with fail
      refine HCB.out.mono ?_
      rintro e w2 ⟨x, rfl, hx, h1, k1⟩
      have R2 := Lib.hid (HR.out.moved k1 h1)
      have HF := Lib.hid (find_spec (x : Int) (R2.out.rd (u := .slice ga j ca) (xs := ls) (by simp)) (by rw [HJ.out]; omega))
      have HX : Hid (x < n) := Lib.hid (by omega)
      clear h1 k1 HCB
      by_cases hin : (x : Int) ∈ ls
      · obtain ⟨z, hz, hz0⟩ : ∃ z, findI ls (x : Int) = z ∧ 0 ≤ z := ⟨_, rfl, Int.not_lt.1 (fun h => findI_neg.1 h hin)⟩
        rw [hz] at HF
        have q1 : decide (z < (0 : Int)) = false := by simpa using hz0
        have HL2 : Hid (LabV n (most - q) ls ds) := Lib.hid (HL.out.wide (by omega))
        clear hz hin
        go_wp2_with fail
        refine HF.out.mono ?_
        rintro e w3 ⟨rfl, rfl⟩
        go_wp2
        go_roundw
        case rel => exact ⟨q, j, ca, cc, _, _, ls, ds, by omega, by go_num, rfl, rfl, HL2, HJ, R2⟩
        case measure => simp [intOf]
      · obtain ⟨z, hz, hz0⟩ : ∃ z, findI ls (x : Int) = z ∧ z < 0 := ⟨_, rfl, findI_neg.2 hin⟩
        rw [hz] at HF
        have q1 : decide (z < (0 : Int)) = true := by simpa using hz0
        obtain ⟨d, hd⟩ : ∃ d : Int, d = 1 + ((x : Int) + 1) % 3 := ⟨_, rfl⟩
        have hd2 : 1 ≤ d ∧ d ≤ 3 := by omega
        have hmod : ((x : Int) + 1).tmod 3 = ((x : Int) + 1) % 3 := Int.tmod_eq_emod_of_nonneg (by omega)
        have hw1 : IntKind.i64.wrap ((x : Int) + 1) = (x : Int) + 1 := IntWalk.i64_in _ (by omega)
        have hw2 : IntKind.i64.wrap (((x : Int) + 1) % 3) = ((x : Int) + 1) % 3 := IntWalk.i64_in _ (by omega)
        have hw3 : IntKind.i64.wrap (1 + ((x : Int) + 1) % 3) = d := by rw [← hd]; exact IntWalk.i64_in _ (by omega)
        have HL2 : Hid (LabV n (most - q) (ls ++ [(x : Int)]) (ds ++ [d])) := Lib.hid ((HL.out.more HX.out hin hd hd2).wide (by omega))
        have A1 := Lib.hid (R2.out.alloc (.cells #[.int .i64 (x : Int)] 3))
        have O1 := Lib.hid (A1.out.rowN (u := .slice ga j ca) (xs := ls) (by simp) HJ.out)
        have Z1 := Lib.hid A1.out.size
        clear hz hin hd hd2
        go_wp2_with fail
        refine HF.out.mono ?_
        rintro e w3 ⟨rfl, rfl⟩
        go_wp2_with (at_builtin; go_must (refine wpList_append_lies _ rfl _ _ 24 rfl w.heap.size 3 i0 (.int .i64 0) 1 8 Try.underlying24 J0.out J1.out J2.out J3.out rfl (by decide) _ j (ints ls) rfl O1.out ⟨w2.heap.size, 0, none⟩ 1 1 [.int .i64 (x : Int)] rfl rfl (cell_one_new _ _ _) ?c2 (by decide) ?c3 ?c4 ?c5 _ rfl ?_))
        case c2 => first | rfl | (intro u hu; simp at hu; subst hu; rfl)
        case c3 => unfold maxLen; omega
        case c4 => omega
        case c5 => exact Z1.out
        intro g1 cap1 w4 hown hgrow hl1 _
        have R3 := Lib.hid (A1.out.app1 HJ.out hown hgrow (by rw [World.size_alloc]; exact hl1)).swap
        clear hown hgrow hl1 O1 A1 Z1
        have A2 := Lib.hid (R3.out.alloc (.cells #[.int .i64 d] 3))
        have O2 := Lib.hid (A2.out.rowN (u := .slice gb j cc) (xs := ds) (by simp) HD.out)
        have Z2 := Lib.hid A2.out.size
        go_wp2_with (at_builtin; go_must (refine wpList_append_lies _ rfl _ _ 24 rfl w.heap.size 3 i0 (.int .i64 0) 1 8 Try.underlying24 J0.out J1.out J2.out J3.out rfl (by decide) _ j (ints ds) rfl O2.out ⟨w4.heap.size, 0, none⟩ 1 1 [.int .i64 d] rfl rfl (cell_one_new _ _ _) ?c2 (by decide) ?c3 ?c4 ?c5 _ rfl ?_))
        case c2 => first | rfl | (intro u hu; simp at hu; subst hu; rfl)
        case c3 => unfold maxLen; omega
        case c4 => omega
        case c5 => exact Z2.out
        intro g2 cap2 w5 hown hgrow hl2 _
        have R4 := Lib.hid (A2.out.app1 HD.out hown hgrow (by rw [World.size_alloc]; exact hl2)).swap
        have HJ2 : Hid ((ls ++ [(x : Int)]).length = j + 1) := Lib.hid (by simp [HJ.out])
        clear hown hgrow hl2 O2 A2 Z2
        go_wp2
        go_roundw
        case rel => exact ⟨q, j + 1, cap1, cap2, _, _, _, _, by omega, by go_num, rfl, rfl, HL2, HJ2, R4⟩
        case measure => simp [intOf]
end Go.Proofs.Ytgabcdploeledaa
