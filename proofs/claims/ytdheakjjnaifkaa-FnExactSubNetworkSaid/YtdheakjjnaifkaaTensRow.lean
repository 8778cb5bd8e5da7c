
/- A row of tensors of the call's own that grows, beside boxes and rows of integers. -/
import Derived.Test.YtdheakjjnaifkaaTensMark
import Derived.Deep.AppendLies
namespace Go.Proofs.Ytdheakjjnaifkaa
set_option maxRecDepth 20000
open Go.RowKit

def cells3 (us : List TenW) : List Value := us.flatMap fun u => [u.1, u.2.1, u.2.2]
theorem cells3_app (A C : List TenW) : cells3 (A ++ C) = cells3 A ++ cells3 C := by simp [cells3]
theorem cells3_one (u : TenW) : cells3 [u] = [u.1, u.2.1, u.2.2] := by simp [cells3]
theorem cells3_len (A : List TenW) : (cells3 A).length = A.length * 3 := by
  induction A with
  | nil => rfl
  | cons u r ih =>
    have e : cells3 (u :: r) = [u.1, u.2.1, u.2.2] ++ cells3 r := rfl
    rw [e, List.length_append, ih]
    simp
    omega
theorem cells3_at : ∀ {A : List TenW} {i : Nat} {u : TenW}, A[i]? = some u → (cells3 A)[i * 3]? = some u.1 ∧ (cells3 A)[i * 3 + 1]? = some u.2.1 ∧ (cells3 A)[i * 3 + 2]? = some u.2.2 := by
  intro A
  induction A with
  | nil => intro i a h; simp at h
  | cons b r ih =>
    intro i a h
    have e : cells3 (b :: r) = [b.1, b.2.1, b.2.2] ++ cells3 r := rfl
    cases i with
    | zero => simp at h; subst h; simp [e]
    | succ i =>
      have h' : r[i]? = some a := by simpa using h
      obtain ⟨h1, h2, h3⟩ := ih h'
      rw [e]
      refine ⟨?_, ?_, ?_⟩
      · rw [List.getElem?_append_right (by simp; omega)]; simpa [Nat.add_mul] using h1
      · rw [List.getElem?_append_right (by simp; omega)]
        have e2 : (i + 1) * 3 + 1 - [b.1, b.2.1, b.2.2].length = i * 3 + 1 := by simp; omega
        rw [e2]; exact h2
      · rw [List.getElem?_append_right (by simp; omega)]
        have e2 : (i + 1) * 3 + 2 - [b.1, b.2.1, b.2.2].length = i * 3 + 2 := by simp; omega
        rw [e2]; exact h3

structure RsT (w0 wr : World) (bs : List BxE) (rows : List RowE) (v : Value) (us : List TenW) : Prop where
  rs : Rs w0 wr bs rows
  own : wr.ownsRow w0.heap.size 55 3 v us.length (cells3 us)
  farB : ∀ b ∈ bs, v.ownBlock ≠ some b.1
  farR : ∀ r ∈ rows, ∀ g, v.ownBlock = some g → r.1.ownBlock ≠ some g
section
variable {w0 wr w' : World} {bs bs' : List BxE} {rows rows' : List RowE} {v : Value} {us : List TenW}
/-- Everything but the row of tensors may change, where its block stays. -/
theorem RsT.move (h : RsT w0 wr bs rows v us) {x : Option Nat} (hr : Rs w0 w' bs' rows') (hg : wr.grownBy w' x) (hx : x = none ∨ v.ownBlock ≠ x) (hB : ∀ b ∈ bs', (∃ c ∈ bs, c.1 = b.1) ∨ wr.heap.size ≤ b.1) (hR : ∀ r ∈ rows', ∀ g, r.1.ownBlock = some g → (∃ s ∈ rows, s.1.ownBlock = some g) ∨ wr.heap.size ≤ g) : RsT w0 w' bs' rows' v us := by
  refine ⟨hr, h.own.kept hg ?_, fun b hb e => ?_, fun r hm g hgv e => ?_⟩
  · cases hv : v.ownBlock with
    | none => exact .inl rfl
    | some k =>
      rcases hx with rfl | hx
      · exact .inr (by simp)
      · exact .inr fun e => hx (by rw [hv, e])
  · rcases hB b hb with ⟨c, hc, e2⟩ | h2
    · exact h.farB c hc (by rw [e2]; exact e)
    · have := (h.own.lt _ e).2; omega
  · rcases hR r hm g e with ⟨s, hs, e2⟩ | h2
    · exact h.farR s hs g hgv e2
    · have := (h.own.lt _ hgv).2; omega
theorem grown_below (hb : Below wr.heap.size wr w') : wr.grownBy w' none := ⟨hb.os, hb.tape, hb.output, hb.size, fun k hk _ => hb.block k hk⟩
/-- A call that changes nothing older. -/
theorem RsT.newer (h : RsT w0 wr bs rows v us) (hb : Below wr.heap.size wr w') (hr : Rs w0 w' bs' rows') (hB : ∀ b ∈ bs', (∃ c ∈ bs, c.1 = b.1) ∨ wr.heap.size ≤ b.1) (hR : ∀ r ∈ rows', ∀ g, r.1.ownBlock = some g → (∃ s ∈ rows, s.1.ownBlock = some g) ∨ wr.heap.size ≤ g) : RsT w0 w' bs' rows' v us := h.move (x := none) hr (grown_below hb) (.inl rfl) hB hR
theorem sameB (b : BxE) (hb : b ∈ bs) : (∃ c ∈ bs, c.1 = b.1) ∨ wr.heap.size ≤ b.1 := .inl ⟨b, hb, rfl⟩
theorem sameR (r : RowE) (hr : r ∈ rows) (g : Nat) (hg : r.1.ownBlock = some g) : (∃ s ∈ rows, s.1.ownBlock = some g) ∨ wr.heap.size ≤ g := .inl ⟨r, hr, hg⟩
theorem RsT.step (h : RsT w0 wr bs rows v us) (hb : Below wr.heap.size wr w') : RsT w0 w' bs rows v us := h.newer hb (h.rs.step hb) sameB sameR
theorem RsT.drew (h : RsT w0 wr bs rows v us) : RsT w0 wr.drew bs rows v us := h.step (Below.drew (Below.refl _ _))
theorem RsT.alloc (h : RsT w0 wr bs rows v us) (o : Obj) : RsT w0 (wr.alloc o) bs rows v us := h.step ((Below.refl _ _).alloc (Nat.le_refl _) o)
theorem RsT.box (h : RsT w0 wr bs rows v us) (a b c : Value) (T : TypeId) : RsT w0 (wr.alloc (.cells #[a, b, c] T)) ((wr.heap.size, a, b, c) :: bs) rows v us := by
  refine h.newer ((Below.refl _ _).alloc (Nat.le_refl _) _) (h.rs.box a b c T) (fun x hx => ?_) sameR
  rcases List.mem_cons.1 hx with rfl | hx
  · exact .inr (Nat.le_refl _)
  · exact sameB x hx
theorem RsT.boxX (h : RsT w0 wr bs rows v us) (a b c : Value) (T : TypeId) : ∃ WX g, wr.alloc (.cells #[a, b, c] T) = WX ∧ wr.heap.size = g ∧ Below wr.heap.size wr WX ∧ RsT w0 WX ((g, a, b, c) :: bs) rows v us := ⟨_, _, rfl, rfl, (Below.refl _ _).alloc (Nat.le_refl _) _, h.box a b c T⟩
theorem RsT.subB (h : RsT w0 wr bs rows v us) (hs : bs'.Sublist bs) : RsT w0 wr bs' rows v us := ⟨h.rs.subB hs, h.own, fun b hb => h.farB b (hs.subset hb), h.farR⟩
theorem RsT.perm (h : RsT w0 wr bs rows v us) (hp : rows.Perm rows') : RsT w0 wr bs rows' v us := ⟨h.rs.perm hp, h.own, h.farB, fun r hr => h.farR r (hp.symm.subset hr)⟩
theorem RsT.sub (h : RsT w0 wr bs rows v us) (hs : rows'.Sublist rows) : RsT w0 wr bs rows' v us := ⟨h.rs.sub hs, h.own, h.farB, fun r hr => h.farR r (hs.subset hr)⟩
theorem RsT.new (h : RsT w0 wr bs rows v us) {u : Value} {xs : List Int} (hb : Below wr.heap.size wr w') (ho : Own w' wr.heap.size w'.heap.size u xs) : RsT w0 w' bs ((u, xs) :: rows) v us := by
  refine h.newer hb (h.rs.new hb ho) sameB (fun r hr g hg => ?_)
  rcases List.mem_cons.1 hr with rfl | hr
  · exact .inr (ho.lo g hg)
  · exact sameR r hr g hg
theorem RsT.new3 (h : RsT w0 wr bs rows v us) {a b c : Value} {x y z : List Int} (hb : Below wr.heap.size wr w') (ho : OwnG w' wr.heap.size w'.heap.size [(a, x), (b, y), (c, z)]) : RsT w0 w' bs ((a, x) :: (b, y) :: (c, z) :: rows) v us := by
  refine h.newer hb (h.rs.new3 hb ho) sameB (fun r hr g hg => ?_)
  have hlo : ∀ r ∈ [(a, x), (b, y), (c, z)], ∀ g, r.1.ownBlock = some g → wr.heap.size ≤ g := fun r hr g hg => (ho.1 r hr).lo g hg
  simp only [List.mem_cons] at hr
  rcases hr with rfl | rfl | rfl | hr
  · exact .inr (hlo _ (by simp) g hg)
  · exact .inr (hlo _ (by simp) g hg)
  · exact .inr (hlo _ (by simp) g hg)
  · exact sameR r hr g hg
/-- A store into the first box. -/
theorem RsT.setB {r : Nat} {a b c : Value} (h : RsT w0 wr ((r, a, b, c) :: bs) rows v us) (i : Nat) (u : Value) : RsT w0 (wr.setCell ⟨r, i, none⟩ u) ((r, (if i = 0 then u else a), (if i = 1 then u else b), (if i = 2 then u else c)) :: bs) rows v us := by
  refine h.move (h.rs.setB i u) (grownBy_set wr r i u) (.inr (h.farB (r, a, b, c) (by simp))) (fun x hx => ?_) sameR
  rcases List.mem_cons.1 hx with rfl | hx
  · exact .inl ⟨_, List.mem_cons_self, rfl⟩
  · exact sameB x (List.mem_cons_of_mem _ hx)
theorem RsT.last {r : Nat} {a b c : Value} (h : RsT w0 wr ((r, a, b, c) :: bs) rows v us) (z : Value) : RsT w0 (wr.setCell ⟨r, 2, none⟩ z) ((r, a, b, z) :: bs) rows v us := by
  have c := h.setB 2 z
  simp only [if_true, if_false, Nat.reduceEqDiff, Nat.succ_ne_zero] at c
  exact c
theorem RsT.set3 {r : Nat} {a b c : Value} (h : RsT w0 wr ((r, a, b, c) :: bs) rows v us) (x y z : Value) : RsT w0 (((wr.setCell ⟨r, 0, none⟩ x).setCell ⟨r, 1, none⟩ y).setCell ⟨r, 2, none⟩ z) ((r, x, y, z) :: bs) rows v us := by
  have c := ((h.setB 0 x).setB 1 y).setB 2 z
  simp only [if_true, if_false, Nat.one_ne_zero, Nat.zero_ne_one, Nat.reduceEqDiff] at c
  exact c
/-- The first row of integers has grown. -/
theorem RsT.appR {u : Value} {xs news : List Int} {g n cap : Nat} (h : RsT w0 wr bs ((u, xs) :: rows) v us) (ho : w'.ownsRow w0.heap.size 3 1 (.slice (some ⟨g, 0, none⟩) n cap) n (ints (xs ++ news))) (hn : (xs ++ news).length = n) (hg : wr.grownBy w' u.ownBlock) (hl : u.ownBlock = some g ∨ g = wr.heap.size) : RsT w0 w' bs ((.slice (some ⟨g, 0, none⟩) n cap, xs ++ news) :: rows) v us := by
  refine h.move (h.rs.app ho hn hg hl) hg ?_ sameB (fun r hr g' hg' => ?_)
  · cases hu : u.ownBlock with
    | none => exact .inl rfl
    | some k => exact .inr fun e => h.farR _ List.mem_cons_self k e hu
  · rcases List.mem_cons.1 hr with rfl | hr
    · have e : g' = g := by simpa [Value.ownBlock] using hg'.symm
      subst e
      rcases hl with hl | hl
      · exact .inl ⟨_, List.mem_cons_self, hl⟩
      · exact .inr (by omega)
    · exact sameR r (List.mem_cons_of_mem _ hr) g' hg'
theorem RsT.nil (h : RsT w0 wr bs rows v us) : RsT w0 wr bs ((nilV, []) :: rows) v us := ⟨h.rs.nil, h.own, h.farB, fun r hr g hg => by
  rcases List.mem_cons.1 hr with rfl | hr
  · simp [Value.ownBlock]
  · exact h.farR r hr g hg⟩
theorem RsT.swapB {a b : BxE} (h : RsT w0 wr (a :: b :: bs) rows v us) : RsT w0 wr (b :: a :: bs) rows v us := ⟨h.rs.swapB, h.own, fun x hx => h.farB x ((List.Perm.swap _ _ _).subset hx), h.farR⟩
theorem RsT.swap {a b : RowE} (h : RsT w0 wr bs (a :: b :: rows) v us) : RsT w0 wr bs (b :: a :: rows) v us := h.perm (List.Perm.swap _ _ _)
theorem RsT.lit (h : Rs w0 wr bs rows) : RsT w0 (wr.alloc (.cells #[] 55)) bs rows (.slice (some ⟨wr.heap.size, 0, none⟩) 0 0) [] := by
  refine ⟨h.alloc _, World.ownsRow_lit (base := w0.heap.size) (e := 55) (size := 3) wr #[] 0 h.bel.size (by unfold maxLen; omega) rfl, fun b hb e => ?_, fun r hr g hg e => ?_⟩
  · simp only [Value.ownBlock, Option.some.injEq] at e
    have := (h.bx b hb).lt; omega
  · simp only [Value.ownBlock, Option.some.injEq] at hg
    subst hg
    have := ((h.own r hr).lt _ e).2; omega
/-- A tensor more. -/
theorem RsT.app {u : TenW} {g n cap : Nat} (h : RsT w0 wr bs rows v us) (hn : us.length = n) (ho : w'.ownsRow w0.heap.size 55 3 (.slice (some ⟨g, 0, none⟩) (n + 1) cap) (n + 1) (cells3 us ++ [u.1, u.2.1, u.2.2])) (hg : wr.grownBy w' v.ownBlock) (hl : v.ownBlock = some g ∨ g = wr.heap.size) : RsT w0 w' bs rows (.slice (some ⟨g, 0, none⟩) (n + 1) cap) (us ++ [u]) := by
  have keep : ∀ k, v.ownBlock = some k → w0.heap.size ≤ k := fun k hk => (h.own.lt k hk).1
  have hlt : ∀ k, (k = g) → (∀ b ∈ bs, b.1 ≠ k) ∧ ∀ r ∈ rows, r.1.ownBlock ≠ some k := by
    rintro k rfl
    rcases hl with hl | hl
    · exact ⟨fun b hb e => h.farB b hb (by rw [hl, e]), fun r hr e => h.farR r hr _ hl e⟩
    · exact ⟨fun b hb e => by have := (h.rs.bx b hb).lt; omega, fun r hr e => by have := ((h.rs.own r hr).lt _ e).2; omega⟩
  refine ⟨⟨?_, fun r hr => (h.rs.own r hr).kept hg ?_, h.rs.apart, fun b hb => ?_, h.rs.far, h.rs.dis⟩, ?_, fun b hb e => ?_, fun r hr k hk e => ?_⟩
  · exact h.rs.bel.grown hg h.rs.bel.size keep
  · cases hv : r.1.ownBlock with
    | none => exact .inl rfl
    | some k => exact .inr fun e => h.farR r hr k e.symm hv
  · exact (h.rs.bx b hb).grown hg (fun k hk => ⟨fun e => h.farB b hb (by rw [hk, e]), keep k hk⟩)
  · rw [List.length_append, hn, cells3_app, cells3_one]; exact ho
  · simp only [Value.ownBlock, Option.some.injEq] at e; exact (hlt g rfl).1 b hb e.symm
  · simp only [Value.ownBlock, Option.some.injEq] at hk; subst hk; exact (hlt g rfl).2 r hr e
/-- The cells of a tensor of the row. -/
theorem RsT.at {p : Option Addr} {n cap i : Nat} {u : TenW} (h : RsT w0 wr bs rows (.slice p n cap) us) (hn : us.length = n) (hx : us[i]? = some u) : ∃ g, p = some ⟨g, 0, none⟩ ∧ w0.heap.size ≤ g ∧ g < wr.heap.size ∧ wr.cell? ⟨g, i * 3, none⟩ = some u.1 ∧ wr.cell? ⟨g, i * 3 + 1, none⟩ = some u.2.1 ∧ wr.cell? ⟨g, i * 3 + 2, none⟩ = some u.2.2 := by
  have ho : wr.ownsRow w0.heap.size 55 3 (.slice p n cap) n (cells3 us) := hn ▸ h.own
  have hl := (List.getElem?_eq_some_iff.1 hx).1
  rcases ho.2 with ⟨-, h0⟩ | ⟨g, ca, cur, e, hlo, hg, -⟩
  · exfalso
    omega
  · injection e with e
    subst e
    obtain ⟨e1, e2, e3⟩ := cells3_at hx
    have hlt := (ho.lt g rfl).2
    refine ⟨g, rfl, hlo, hlt, ?_, ?_, ?_⟩
    · rw [ho.cellAt _ (by omega)]; exact e1
    · rw [ho.cellAt _ (by omega)]; exact e2
    · rw [ho.cellAt _ (by omega)]; exact e3
end
end Go.Proofs.Ytdheakjjnaifkaa
