
/- The states of a region that draws its order, shared: what a state asks is named when it is first reached. Rows at their places. -/
import Derived.Test.YtceidekfcnmeaaaLet
import Derived.Deep.RegionHeld3
namespace Go.Proofs.Ytceidekfcnmeaaa
set_option maxRecDepth 20000
open Go.RowKit

theorem share1 {T0 : Type} {G F : T0 → Prop} {R : Prop} (h1 : Hid (∀ x0, F x0 → G x0) → R) (h2 : ∀ x0, F x0 → G x0) : R := h1 (Lib.hid h2)
theorem share2 {T0 T1 : Type} {G F : T0 → T1 → Prop} {R : Prop} (h1 : Hid (∀ x0 x1, F x0 x1 → G x0 x1) → R) (h2 : ∀ x0 x1, F x0 x1 → G x0 x1) : R := h1 (Lib.hid h2)
theorem share3 {T0 T1 T2 : Type} {G F : T0 → T1 → T2 → Prop} {R : Prop} (h1 : Hid (∀ x0 x1 x2, F x0 x1 x2 → G x0 x1 x2) → R) (h2 : ∀ x0 x1 x2, F x0 x1 x2 → G x0 x1 x2) : R := h1 (Lib.hid h2)
theorem share4 {T0 T1 T2 T3 : Type} {G F : T0 → T1 → T2 → T3 → Prop} {R : Prop} (h1 : Hid (∀ x0 x1 x2 x3, F x0 x1 x2 x3 → G x0 x1 x2 x3) → R) (h2 : ∀ x0 x1 x2 x3, F x0 x1 x2 x3 → G x0 x1 x2 x3) : R := h1 (Lib.hid h2)
theorem share5 {T0 T1 T2 T3 T4 : Type} {G F : T0 → T1 → T2 → T3 → T4 → Prop} {R : Prop} (h1 : Hid (∀ x0 x1 x2 x3 x4, F x0 x1 x2 x3 x4 → G x0 x1 x2 x3 x4) → R) (h2 : ∀ x0 x1 x2 x3 x4, F x0 x1 x2 x3 x4 → G x0 x1 x2 x3 x4) : R := h1 (Lib.hid h2)
theorem share6 {T0 T1 T2 T3 T4 T5 : Type} {G F : T0 → T1 → T2 → T3 → T4 → T5 → Prop} {R : Prop} (h1 : Hid (∀ x0 x1 x2 x3 x4 x5, F x0 x1 x2 x3 x4 x5 → G x0 x1 x2 x3 x4 x5) → R) (h2 : ∀ x0 x1 x2 x3 x4 x5, F x0 x1 x2 x3 x4 x5 → G x0 x1 x2 x3 x4 x5) : R := h1 (Lib.hid h2)
theorem share7 {T0 T1 T2 T3 T4 T5 T6 : Type} {G F : T0 → T1 → T2 → T3 → T4 → T5 → T6 → Prop} {R : Prop} (h1 : Hid (∀ x0 x1 x2 x3 x4 x5 x6, F x0 x1 x2 x3 x4 x5 x6 → G x0 x1 x2 x3 x4 x5 x6) → R) (h2 : ∀ x0 x1 x2 x3 x4 x5 x6, F x0 x1 x2 x3 x4 x5 x6 → G x0 x1 x2 x3 x4 x5 x6) : R := h1 (Lib.hid h2)
theorem share8 {T0 T1 T2 T3 T4 T5 T6 T7 : Type} {G F : T0 → T1 → T2 → T3 → T4 → T5 → T6 → T7 → Prop} {R : Prop} (h1 : Hid (∀ x0 x1 x2 x3 x4 x5 x6 x7, F x0 x1 x2 x3 x4 x5 x6 x7 → G x0 x1 x2 x3 x4 x5 x6 x7) → R) (h2 : ∀ x0 x1 x2 x3 x4 x5 x6 x7, F x0 x1 x2 x3 x4 x5 x6 x7 → G x0 x1 x2 x3 x4 x5 x6 x7) : R := h1 (Lib.hid h2)
theorem share9 {T0 T1 T2 T3 T4 T5 T6 T7 T8 : Type} {G F : T0 → T1 → T2 → T3 → T4 → T5 → T6 → T7 → T8 → Prop} {R : Prop} (h1 : Hid (∀ x0 x1 x2 x3 x4 x5 x6 x7 x8, F x0 x1 x2 x3 x4 x5 x6 x7 x8 → G x0 x1 x2 x3 x4 x5 x6 x7 x8) → R) (h2 : ∀ x0 x1 x2 x3 x4 x5 x6 x7 x8, F x0 x1 x2 x3 x4 x5 x6 x7 x8 → G x0 x1 x2 x3 x4 x5 x6 x7 x8) : R := h1 (Lib.hid h2)
theorem share10 {T0 T1 T2 T3 T4 T5 T6 T7 T8 T9 : Type} {G F : T0 → T1 → T2 → T3 → T4 → T5 → T6 → T7 → T8 → T9 → Prop} {R : Prop} (h1 : Hid (∀ x0 x1 x2 x3 x4 x5 x6 x7 x8 x9, F x0 x1 x2 x3 x4 x5 x6 x7 x8 x9 → G x0 x1 x2 x3 x4 x5 x6 x7 x8 x9) → R) (h2 : ∀ x0 x1 x2 x3 x4 x5 x6 x7 x8 x9, F x0 x1 x2 x3 x4 x5 x6 x7 x8 x9 → G x0 x1 x2 x3 x4 x5 x6 x7 x8 x9) : R := h1 (Lib.hid h2)
theorem share11 {T0 T1 T2 T3 T4 T5 T6 T7 T8 T9 T10 : Type} {G F : T0 → T1 → T2 → T3 → T4 → T5 → T6 → T7 → T8 → T9 → T10 → Prop} {R : Prop} (h1 : Hid (∀ x0 x1 x2 x3 x4 x5 x6 x7 x8 x9 x10, F x0 x1 x2 x3 x4 x5 x6 x7 x8 x9 x10 → G x0 x1 x2 x3 x4 x5 x6 x7 x8 x9 x10) → R) (h2 : ∀ x0 x1 x2 x3 x4 x5 x6 x7 x8 x9 x10, F x0 x1 x2 x3 x4 x5 x6 x7 x8 x9 x10 → G x0 x1 x2 x3 x4 x5 x6 x7 x8 x9 x10) : R := h1 (Lib.hid h2)
theorem share12 {T0 T1 T2 T3 T4 T5 T6 T7 T8 T9 T10 T11 : Type} {G F : T0 → T1 → T2 → T3 → T4 → T5 → T6 → T7 → T8 → T9 → T10 → T11 → Prop} {R : Prop} (h1 : Hid (∀ x0 x1 x2 x3 x4 x5 x6 x7 x8 x9 x10 x11, F x0 x1 x2 x3 x4 x5 x6 x7 x8 x9 x10 x11 → G x0 x1 x2 x3 x4 x5 x6 x7 x8 x9 x10 x11) → R) (h2 : ∀ x0 x1 x2 x3 x4 x5 x6 x7 x8 x9 x10 x11, F x0 x1 x2 x3 x4 x5 x6 x7 x8 x9 x10 x11 → G x0 x1 x2 x3 x4 x5 x6 x7 x8 x9 x10 x11) : R := h1 (Lib.hid h2)
theorem share13 {T0 T1 T2 T3 T4 T5 T6 T7 T8 T9 T10 T11 T12 : Type} {G F : T0 → T1 → T2 → T3 → T4 → T5 → T6 → T7 → T8 → T9 → T10 → T11 → T12 → Prop} {R : Prop} (h1 : Hid (∀ x0 x1 x2 x3 x4 x5 x6 x7 x8 x9 x10 x11 x12, F x0 x1 x2 x3 x4 x5 x6 x7 x8 x9 x10 x11 x12 → G x0 x1 x2 x3 x4 x5 x6 x7 x8 x9 x10 x11 x12) → R) (h2 : ∀ x0 x1 x2 x3 x4 x5 x6 x7 x8 x9 x10 x11 x12, F x0 x1 x2 x3 x4 x5 x6 x7 x8 x9 x10 x11 x12 → G x0 x1 x2 x3 x4 x5 x6 x7 x8 x9 x10 x11 x12) : R := h1 (Lib.hid h2)
theorem share14 {T0 T1 T2 T3 T4 T5 T6 T7 T8 T9 T10 T11 T12 T13 : Type} {G F : T0 → T1 → T2 → T3 → T4 → T5 → T6 → T7 → T8 → T9 → T10 → T11 → T12 → T13 → Prop} {R : Prop} (h1 : Hid (∀ x0 x1 x2 x3 x4 x5 x6 x7 x8 x9 x10 x11 x12 x13, F x0 x1 x2 x3 x4 x5 x6 x7 x8 x9 x10 x11 x12 x13 → G x0 x1 x2 x3 x4 x5 x6 x7 x8 x9 x10 x11 x12 x13) → R) (h2 : ∀ x0 x1 x2 x3 x4 x5 x6 x7 x8 x9 x10 x11 x12 x13, F x0 x1 x2 x3 x4 x5 x6 x7 x8 x9 x10 x11 x12 x13 → G x0 x1 x2 x3 x4 x5 x6 x7 x8 x9 x10 x11 x12 x13) : R := h1 (Lib.hid h2)
theorem share15 {T0 T1 T2 T3 T4 T5 T6 T7 T8 T9 T10 T11 T12 T13 T14 : Type} {G F : T0 → T1 → T2 → T3 → T4 → T5 → T6 → T7 → T8 → T9 → T10 → T11 → T12 → T13 → T14 → Prop} {R : Prop} (h1 : Hid (∀ x0 x1 x2 x3 x4 x5 x6 x7 x8 x9 x10 x11 x12 x13 x14, F x0 x1 x2 x3 x4 x5 x6 x7 x8 x9 x10 x11 x12 x13 x14 → G x0 x1 x2 x3 x4 x5 x6 x7 x8 x9 x10 x11 x12 x13 x14) → R) (h2 : ∀ x0 x1 x2 x3 x4 x5 x6 x7 x8 x9 x10 x11 x12 x13 x14, F x0 x1 x2 x3 x4 x5 x6 x7 x8 x9 x10 x11 x12 x13 x14 → G x0 x1 x2 x3 x4 x5 x6 x7 x8 x9 x10 x11 x12 x13 x14) : R := h1 (Lib.hid h2)
theorem share16 {T0 T1 T2 T3 T4 T5 T6 T7 T8 T9 T10 T11 T12 T13 T14 T15 : Type} {G F : T0 → T1 → T2 → T3 → T4 → T5 → T6 → T7 → T8 → T9 → T10 → T11 → T12 → T13 → T14 → T15 → Prop} {R : Prop} (h1 : Hid (∀ x0 x1 x2 x3 x4 x5 x6 x7 x8 x9 x10 x11 x12 x13 x14 x15, F x0 x1 x2 x3 x4 x5 x6 x7 x8 x9 x10 x11 x12 x13 x14 x15 → G x0 x1 x2 x3 x4 x5 x6 x7 x8 x9 x10 x11 x12 x13 x14 x15) → R) (h2 : ∀ x0 x1 x2 x3 x4 x5 x6 x7 x8 x9 x10 x11 x12 x13 x14 x15, F x0 x1 x2 x3 x4 x5 x6 x7 x8 x9 x10 x11 x12 x13 x14 x15 → G x0 x1 x2 x3 x4 x5 x6 x7 x8 x9 x10 x11 x12 x13 x14 x15) : R := h1 (Lib.hid h2)
theorem wpAnyH_listed {P : Program} {md : Region.Mode} {ops : Array Oper} {Q : Exit → Act → World → Prop} {S : World → Prop} {fuel : Nat} {l l' : Array Bool} {a : Act} {w : World} (h : l = l') (H : wpAnyH P md ops Q S fuel l a w) : wpAnyH P md ops Q S fuel l' a w := h ▸ H
section
variable {w0 wr w' : World} {bs : List BxE} {rows : List RowE} {a b c d : RowE} {v : Value} {xs : List Int}
theorem Rs.backT (h : Rs w0 wr bs (a :: b :: c :: rows)) : Rs w0 wr bs (b :: c :: a :: rows) := h.perm (List.Perm.trans (List.Perm.swap _ _ _) (List.Perm.cons _ (List.Perm.swap _ _ _)))
theorem Rs.backF (h : Rs w0 wr bs (a :: b :: c :: d :: rows)) : Rs w0 wr bs (b :: c :: d :: a :: rows) := h.perm (List.Perm.trans (List.Perm.swap _ _ _) (List.Perm.cons _ (List.Perm.trans (List.Perm.swap _ _ _) (List.Perm.cons _ (List.Perm.swap _ _ _)))))
/-- A row that is new, at its place. -/
theorem Rs.put1 (h : Rs w0 wr bs (a :: rows)) (hb : Below wr.heap.size wr w') (ho : Own w' wr.heap.size w'.heap.size v xs) : Rs w0 w' bs ((v, xs) :: rows) := (h.new hb ho).sub (List.Sublist.cons_cons _ (List.sublist_cons_self _ _))
theorem Rs.put2 (h : Rs w0 wr bs (a :: b :: rows)) (hb : Below wr.heap.size wr w') (ho : Own w' wr.heap.size w'.heap.size v xs) : Rs w0 w' bs (a :: (v, xs) :: rows) := (h.swap.put1 hb ho).swap
theorem Rs.put3 (h : Rs w0 wr bs (a :: b :: c :: rows)) (hb : Below wr.heap.size wr w') (ho : Own w' wr.heap.size w'.heap.size v xs) : Rs w0 w' bs (a :: b :: (v, xs) :: rows) := (h.third.put1 hb ho).backT
theorem Rs.put4 (h : Rs w0 wr bs (a :: b :: c :: d :: rows)) (hb : Below wr.heap.size wr w') (ho : Own w' wr.heap.size w'.heap.size v xs) : Rs w0 w' bs (a :: b :: c :: (v, xs) :: rows) := (h.fourth.put1 hb ho).backF
theorem Rs.drop1 {r : RowE} (h : Rs w0 wr bs (r :: a :: rows)) : Rs w0 wr bs (r :: rows) := h.sub (List.Sublist.cons_cons _ (List.sublist_cons_self _ _))
/-- A literal of one int at its place. -/
theorem Rs.litX2 (h : Rs w0 wr bs (a :: b :: rows)) (x : Int) : ∃ WX g, wr.alloc (.cells #[.int .i64 x] 3) = WX ∧ wr.heap.size = g ∧ Rs w0 WX bs (a :: (.slice (some ⟨g, 0, none⟩) 1 1, [x]) :: rows) := by
  obtain ⟨WX, g, h1, h2, h3⟩ := h.litX x
  exact ⟨WX, g, h1, h2, (h3.third.sub (List.sublist_cons_self _ _)).swap⟩
theorem Rs.litX4 (h : Rs w0 wr bs (a :: b :: c :: d :: rows)) (x : Int) : ∃ WX g, wr.alloc (.cells #[.int .i64 x] 3) = WX ∧ wr.heap.size = g ∧ Rs w0 WX bs (a :: b :: c :: (.slice (some ⟨g, 0, none⟩) 1 1, [x]) :: rows) := by
  obtain ⟨WX, g, h1, h2, h3⟩ := h.litX x
  refine ⟨WX, g, h1, h2, ?_⟩
  exact (h3.perm (rows' := d :: (.slice (some ⟨g, 0, none⟩) 1 1, [x]) :: a :: b :: c :: rows) (List.Perm.trans (List.Perm.cons _ (List.Perm.trans (List.Perm.cons _ (List.Perm.trans (List.Perm.cons _ (List.Perm.swap _ _ _)) (List.Perm.swap _ _ _))) (List.Perm.swap _ _ _))) (List.Perm.swap _ _ _))).sub (List.sublist_cons_self _ _) |>.backF
end
end Go.Proofs.Ytceidekfcnmeaaa
