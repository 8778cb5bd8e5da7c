
/- impl.offsetIn, impl.OffsetOf, (Tensor).find. -/
import Derived.Test.YtgbmacppgaopfabGreatTensorOk
import Derived.Test.YtgbmacppgaopfabGreatTenOkImpl
import Derived.RangeFuncNested
import Derived.RangeFuncBound
import Derived.RangeFuncBox
import Derived.RangeFuncCalls
import Derived.RangeFuncLeaves
import Derived.Shelf.Abstract
import Derived.Shelf.RegionOpen
import Derived.WalkKit
import Derived.OwnWalkIn
import Derived.TacticsInMore
import Derived.LoopNIn
import Derived.LoopIn
import Derived.Test.YtgbmacppgaopfabGreatLawKit
import Derived.BigRegionIn
import Derived.Laws.OwnMore
import Derived.StillTailTactics
import Derived.OrdersIn
import Derived.Test.YtgbmacppgaopfabGreatProg
namespace Go.Proofs.YtgbmacppgaopfabGreat
set_option maxRecDepth 20000
open Go.RowKit

end Go.Proofs.YtgbmacppgaopfabGreat
namespace Go.Proofs.YtgbmacppgaopfabGreat
set_option maxRecDepth 20000
open Go.RowKit Go.Shelf

attribute [local go_sem] Oper.semAt_some

/-- Two blocks' cells are as they were. -/
def Keeps2 (b c : Nat) (W W' : World) : Prop := (∀ o, W'.cell? ⟨b, o, none⟩ = W.cell? ⟨b, o, none⟩) ∧ (∀ o, W'.cell? ⟨c, o, none⟩ = W.cell? ⟨c, o, none⟩)
theorem Keeps2.refl (b c : Nat) (W : World) : Keeps2 b c W W := ⟨fun _ => rfl, fun _ => rfl⟩
theorem Keeps2.trans {b c : Nat} {A B C : World} (h : Keeps2 b c A B) (k : Keeps2 b c B C) : Keeps2 b c A C := ⟨fun o => (k.1 o).trans (h.1 o), fun o => (k.2 o).trans (h.2 o)⟩
theorem Keeps2.turn {b c : Nat} {w : World} (hb : b < w.heap.size) (hc : c < w.heap.size) (W : World) (l : Nat) (o o' : Obj) (hl : w.heap.size ≤ l) (h0 : W.heap[l]? = some o) (_ : o.isCells = false) (_ : o.isWalk = false) : Keeps2 b c W (W.putObj l o') := by
  have h := grownBy_putObj' W l o'
  have h1 := (Array.getElem?_eq_some_iff.1 h0).1
  exact ⟨fun q => World.cell?_of_block (w := W) (h.block b (by omega) (fun e => by cases e; omega)), fun q => World.cell?_of_block (w := W) (h.block c (by omega) (fun e => by cases e; omega))⟩
theorem Keeps2.set {b c : Nat} {W : World} {p : Addr} (hb : p.block ≠ b) (hc : p.block ≠ c) (u : Value) : Keeps2 b c W (W.setCell p u) :=
  ⟨fun _ => World.cell?_of_block (w := W) (Below.heap_setCell W p u b (fun e => hb e.symm)), fun _ => World.cell?_of_block (w := W) (Below.heap_setCell W p u c (fun e => hc e.symm))⟩

end Go.Proofs.YtgbmacppgaopfabGreat
namespace Go.Proofs.YtgbmacppgaopfabGreat
set_option maxRecDepth 20000
open Go.RowKit Go.Shelf

attribute [local go_sem] Oper.semAt_some

/-- An axis with its dimension. -/
abbrev AxisOf (D : List Int) := { x : Nat × Int // D[x.1]? = some x.2 }
/-- These are the last axes, the last one first. -/
def LastOnes {D : List Int} (m : Nat) (pre : List (AxisOf D)) : Prop := ∀ (i : Nat) (x : AxisOf D), pre[i]? = some x → x.1.1 + i + 1 = m
theorem LastOnes.nil {D : List Int} (m : Nat) : LastOnes (D := D) m [] := fun i x h => by simp at h
theorem LastOnes.snoc {D : List Int} {m : Nat} {pre : List (AxisOf D)} {x : AxisOf D} (h : LastOnes m pre) (hx : x.1.1 + pre.length + 1 = m) : LastOnes m (pre ++ [x]) := fun i y hy => by
  by_cases hi : i < pre.length
  · rw [List.getElem?_append_left hi] at hy
    exact h i y hy
  · by_cases e : i = pre.length
    · subst e
      simp at hy
      subst hy
      exact hx
    · rw [List.getElem?_eq_none (by simp; omega)] at hy
      cases hy
theorem LastOnes.init {D : List Int} {m : Nat} {pre : List (AxisOf D)} {x : AxisOf D} (h : LastOnes m (pre ++ [x])) : LastOnes m pre ∧ x.1.1 + pre.length + 1 = m :=
  ⟨fun i y hy => h i y (by rw [List.getElem?_append_left (List.getElem?_eq_some_iff.1 hy).1]; exact hy), h pre.length x (by simp)⟩

/-- What holds behind some rounds: n is divided by the last dimensions; the last places of the row are filled. -/
def IxInv (w : World) (V : Nat) (D : List Int) (n : Int) (m : Nat) (pre : List (AxisOf D)) (W : World) : Prop :=
  ∃ (c : Int) (cs : List Value), (W.cell? ⟨w.heap.size, 0, none⟩ = some (.int .i64 c) ∧ W.frozen? ⟨w.heap.size, 0, none⟩ = false) ∧ W.cell? ⟨V, 0, none⟩ = some (.slice (some ⟨w.heap.size + 1, 0, none⟩) m m) ∧
    W.ownsRow w.heap.size 3 1 (.slice (some ⟨w.heap.size + 1, 0, none⟩) m m) m cs ∧ (0 ≤ c ∧ c ≤ 4096) ∧ Below w.heap.size w W ∧
    (LastOnes m pre → c = n / prodL (D.drop (m - pre.length)) ∧ ∀ i, m - pre.length ≤ i → cs[i]? = (ints (idxL D n))[i]?)
theorem ownsRow_not_cells {W W' : World} {base n : Nat} {E : TypeId} {v : Value} {cs : List Value} {row : Option Nat} (h : W.ownsRow base E 1 v n cs) (hg : W.grownBy W' row) (hr : ∀ r, row = some r → ∃ o : Obj, W.heap[r]? = some o ∧ o.isCells = false) : W'.ownsRow base E 1 v n cs := by
  refine h.kept hg ?_
  rcases h.2 with ⟨rfl, -⟩ | ⟨g, cap, cur, rfl, -, hgg, -⟩
  · exact .inl rfl
  · refine .inr fun e => ?_
    obtain ⟨o, ho, hc⟩ := hr g e.symm
    rw [hgg] at ho
    cases ho
    simp [Obj.isCells] at hc
theorem IxInv.own (w : World) (V : Nat) (D : List Int) (n : Int) (m B : Nat) (hB : w.heap.size ≤ B) : OwnFrom B (IxInv w V D n m) := fun pre A A' row hs hg hr => by
  obtain ⟨c, cs, ⟨h1, h2⟩, h3, h4, h5, h6, h7⟩ := hs
  have hr' := fun r e => (hr r e).2
  exact ⟨c, cs, ⟨cell_kept h1 hg hr', (frozen_kept h1 hg hr').trans h2⟩, cell_kept h3 hg hr', ownsRow_not_cells h4 hg hr', h5, h6.grown hg h6.size (fun k e => Nat.le_trans hB (hr k e).1), h7⟩

theorem IxInv.step {w W : World} {V : Nat} {D : List Int} {n c d : Int} {m q : Nat} {pre : List (AxisOf D)} {x : AxisOf D} {cs : List Value} (hDl : D.length = m) (hD : ∀ d ∈ D, 1 ≤ d ∧ d ≤ 8) (hV : w.heap.size + 1 < V) (hx : D[q]? = some d) (hq : x.1.1 = q)
    (hc : W.cell? ⟨w.heap.size, 0, none⟩ = some (.int .i64 c)) (hf : W.frozen? ⟨w.heap.size, 0, none⟩ = false) (hv : W.cell? ⟨V, 0, none⟩ = some (.slice (some ⟨w.heap.size + 1, 0, none⟩) m m)) (ho : W.ownsRow w.heap.size 3 1 (.slice (some ⟨w.heap.size + 1, 0, none⟩) m m) m cs)
    (h0 : 0 ≤ c / d) (h1 : c / d ≤ 4096) (hB : Below w.heap.size w W) (hP : LastOnes m pre → c = n / prodL (D.drop (m - pre.length)) ∧ ∀ i, m - pre.length ≤ i → cs[i]? = (ints (idxL D n))[i]?) :
    IxInv w V D n m (pre ++ [x]) ((W.setCell ⟨w.heap.size + 1, q, none⟩ (.int .i64 (c % d))).setCell ⟨w.heap.size, 0, none⟩ (.int .i64 (c / d))).drew := by
  have hql : q < m := by have := (List.getElem?_eq_some_iff.1 hx).1; omega
  have clen : cs.length = m := by have := ho.1; omega
  have st := ho.stored q (.int .i64 (c % d))
  have e1 : (W.setCell ⟨w.heap.size + 1, q, none⟩ (.int .i64 (c % d))).cell? ⟨w.heap.size, 0, none⟩ = some (.int .i64 c) :=
    (World.cell?_of_block (w := W) (Below.heap_setCell W ⟨w.heap.size + 1, q, none⟩ _ w.heap.size (by show w.heap.size ≠ w.heap.size + 1; omega))).trans hc
  have e2 : (W.setCell ⟨w.heap.size + 1, q, none⟩ (.int .i64 (c % d))).frozen? ⟨w.heap.size, 0, none⟩ = false := by rw [World.frozen?_setCell]; exact hf
  refine ⟨c / d, cs.set q (.int .i64 (c % d)), ⟨World.cell?_setCell_same' _ _ _ (by rw [e1]; rfl), ?_⟩, ?_, ?_, ⟨h0, h1⟩, ?_, fun hl => ?_⟩
  · show World.frozen? ((W.setCell ⟨w.heap.size + 1, q, none⟩ (.int .i64 (c % d))).setCell ⟨w.heap.size, 0, none⟩ (.int .i64 (c / d))) _ = false
    rw [World.frozen?_setCell]; exact e2
  · show World.cell? ((W.setCell ⟨w.heap.size + 1, q, none⟩ (.int .i64 (c % d))).setCell ⟨w.heap.size, 0, none⟩ (.int .i64 (c / d))) _ = _
    rw [World.cell?_of_block (w := W) ((Below.heap_setCell _ ⟨w.heap.size, 0, none⟩ _ V (by show V ≠ w.heap.size; omega)).trans (Below.heap_setCell W ⟨w.heap.size + 1, q, none⟩ _ V (by show V ≠ w.heap.size + 1; omega)))]
    exact hv
  · have h9 := st.1.kept (row := some w.heap.size) (grownBy_setCell' (W.setCell ⟨w.heap.size + 1, q, none⟩ (.int .i64 (c % d))) w.heap.size (.int .i64 (c / d))) (.inr (by simp [Value.ownBlock]))
    exact h9
  · exact ((hB.setCell (p := ⟨w.heap.size + 1, q, none⟩) (by show w.heap.size ≤ w.heap.size + 1; omega) _).setCell (p := ⟨w.heap.size, 0, none⟩) (Nat.le_refl _) _).drew
  · obtain ⟨hl1, hl2⟩ := hl.init
    obtain ⟨p1, p2⟩ := hP hl1
    have e3 : m - pre.length = q + 1 := by omega
    have e4 : m - (pre ++ [x]).length = q := by simp; omega
    rw [e4]
    rw [e3] at p1 p2
    refine ⟨?_, fun i hi => ?_⟩
    · rw [p1, ← getD_at hx]
      exact div_step (by omega) (fun d hd => (hD d hd).1)
    · by_cases e : i = q
      · subst e
        rw [List.getElem?_set_self (by omega)]
        have e5 : (idxL D n)[i]? = some (c % d) := by rw [idxL_at D n i (by omega), getD_at hx, ← p1]
        simp [ints, e5]
      · rw [List.getElem?_set_ne (fun e2 => e e2.symm)]
        exact p2 i (by omega)
end Go.Proofs.YtgbmacppgaopfabGreat
namespace Go.Proofs.YtgbmacppgaopfabGreat
set_option maxRecDepth 20000
open Go.RowKit

end Go.Proofs.YtgbmacppgaopfabGreat
