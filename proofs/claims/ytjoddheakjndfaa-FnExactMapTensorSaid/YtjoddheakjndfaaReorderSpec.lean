
/- spec.PermuteTensor, SortTensor, l06Same. -/
import Derived.Test.YtjoddheakjndfaaPermSpec
import Derived.Deep.RegionHeld3
namespace Go.Proofs.Ytjoddheakjndfaa
set_option maxRecDepth 20000
open Go.RowKit

/-- What a function answers that makes a tensor and says whether. -/
def NewTen2 (w : World) (L D X : List Int) (b : Bool) (e : Ending) (w' : World) : Prop := ∃ lv dv xv, e = .returned (.tuple #[tenV lv dv xv, .bool b]) ∧ OwnG w' w.heap.size w'.heap.size [(lv, L), (dv, D), (xv, X)] ∧ Below w.heap.size w w'
theorem NewTen2.nils {w w' : World} {b : Bool} (h : Below w.heap.size w w') : NewTen2 w [] [] [] b (.returned (.tuple #[tenV nilV nilV nilV, .bool b])) w' :=
  ⟨_, _, _, rfl, OwnG.three (Own.nils h.size) (Own.nils (Nat.le_refl _)) (Own.nils (Nat.le_refl _)) (Nat.le_refl _) h.size (Nat.le_refl _), h⟩
noncomputable def permB (k p q : Int) (L D X labels : List Int) : Bool := tensorB k p q L D X && setV L labels
noncomputable def permDataL (k q : Int) (L D X labels : List Int) : List Int := permX (widthI k q).toNat L D X labels (prodL D).toNat
/-- The answer box is stored: what was made stays. -/
theorem OwnG.set3 {w : World} {lo hi r : Nat} {a b c : Value} {x y z : List Int} (h : OwnG w lo hi [(a, x), (b, y), (c, z)]) (hr : r < lo) (u v t : Value) : OwnG (((w.setCell ⟨r, 0, none⟩ u).setCell ⟨r, 1, none⟩ v).setCell ⟨r, 2, none⟩ t) lo hi [(a, x), (b, y), (c, z)] := by
  obtain ⟨o1, o2, o3⟩ := h.rows
  exact OwnG.of3 h.2 (Own.set (Own.set (Own.set o1 hr _) hr _) hr _) (Own.set (Own.set (Own.set o2 hr _) hr _) hr _) (Own.set (Own.set (Own.set o3 hr _) hr _) hr _)
end Go.Proofs.Ytjoddheakjndfaa
namespace Go.Proofs.Ytjoddheakjndfaa
set_option maxRecDepth 20000
open Go.RowKit

noncomputable def relB (k p q : Int) (L D X F T : List Int) : Bool := tensorB k p q L D X && (decide (F.length = T.length) && decide (0 ≤ sizeI (namesL L F T) D))
/-- A ring's box, a tensor's, and one that waits for the answer. -/
theorem Rs.three (w : World) (k p q : Int) (x y z : Value) (T T2 T3 : TypeId) :
    Rs w (((w.alloc (.cells #[.int .i64 k, .int .i64 p, .int .i64 q] T)).alloc (.cells #[x, y, z] T2)).alloc (.cells #[nilV, nilV, nilV] T3)) [(w.heap.size + 1 + 1, nilV, nilV, nilV), (w.heap.size + 1, x, y, z), (w.heap.size, .int .i64 k, .int .i64 p, .int .i64 q)] [] := by
  have h := (((Rs.start w).box (.int .i64 k) (.int .i64 p) (.int .i64 q) T).box x y z T2).box nilV nilV nilV T3
  simp only [World.size_alloc] at h
  exact h
end Go.Proofs.Ytjoddheakjndfaa
