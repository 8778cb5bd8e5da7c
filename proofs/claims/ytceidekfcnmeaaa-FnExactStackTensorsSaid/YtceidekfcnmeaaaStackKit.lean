
/- What impl.StackTensors asks: when it answers, and steps of its region. -/
import Derived.Test.YtceidekfcnmeaaaStackNo
import Derived.Test.YtceidekfcnmeaaaFillView
import Derived.Test.YtceidekfcnmeaaaConcat
import Derived.Test.YtceidekfcnmeaaaLet
import Derived.Test.YtceidekfcnmeaaaAddImpl
namespace Go.Proofs.Ytceidekfcnmeaaa
set_option maxRecDepth 20000
open Go.RowKit

theorem stackB_alt {k p q b : Int} {ts : List TenE} {L D X : List Int} (hh : ts[0]? = some (L, D, X)) : stackB k p q ts b = (decide (0 ≤ sizeI (L ++ [b]) (D ++ [(ts.length : Int)])) && ts.all fun t => alB k p q L D t.1 t.2.1 t.2.2) := by
  have he : headT ts = (L, D, X) := by
    cases ts with
    | nil => simp at hh
    | cons t r => simpa [headT] using hh
  unfold stackB
  rw [he]
  refine Bool.eq_iff_iff.2 ⟨fun h => ?_, fun h => ?_⟩
  · simp only [Bool.and_eq_true, decide_eq_true_eq] at h ⊢
    obtain ⟨-, -, -, hf, hs⟩ := h
    refine ⟨hs, List.all_eq_true.2 fun t ht => ?_⟩
    have h1 := List.all_eq_true.1 hf t ht
    rw [fit_split] at h1
    exact (Bool.and_eq_true_iff.1 h1).2
  · simp only [Bool.and_eq_true, decide_eq_true_eq] at h ⊢
    obtain ⟨hs, hf⟩ := h
    have h1 := List.all_eq_true.1 hf (L, D, X) (List.mem_of_getElem? hh)
    have ht : tensorB k p q L D X = true := by
      simp only [alB, permB, Bool.and_eq_true] at h1
      exact h1.1.1
    have hp := (sizeI_parts hs).1
    have hn := hp.2.2.2.1 (ts.length : Int) (by simp)
    refine ⟨(TF.of ht).rg, by omega, ht, List.all_eq_true.2 fun t hm => ?_, hs⟩
    rw [fit_split, ht]
    rw [show (true && (permB k p q t.1 t.2.1 t.2.2 L && (dimsVia t.1 t.2.1 L == D))) = alB k p q L D t.1 t.2.1 t.2.2 from rfl]
    exact List.all_eq_true.1 hf t hm
/-- A row that is read, below the heap's end. -/
def RdW (W : World) (v : Value) (xs : List Int) : Prop := Rd W.heap.size W v (ints xs)
theorem RdW.below {W W' : World} {v : Value} {xs : List Int} (h : RdW W v xs) (hb : Below W.heap.size W W') : RdW W' v xs := ((show Rd W.heap.size W v (ints xs) from h).below hb (Nat.le_refl _)).mono hb.size
theorem lit_r (W : World) (x : Int) : ∃ WX g, W.alloc (.cells #[.int .i64 x] 3) = WX ∧ W.heap.size = g ∧ Below W.heap.size W WX ∧ RdW WX (.slice (some ⟨g, 0, none⟩) 1 1) [x] := by
  refine ⟨_, _, rfl, rfl, (Below.refl _ _).alloc (Nat.le_refl _) _, ?_⟩
  have h1 := ((Rs.start W).lit1 x).rd (v := .slice (some ⟨W.heap.size, 0, none⟩) 1 1) (xs := [x]) (by simp)
  exact h1
theorem list_r {W : World} {u v : Value} {xs ys : List Int} (hu : RdW W u xs) (hv : RdW W v ys) : ∃ WX g, W.alloc (.cells #[u, v] 26) = WX ∧ W.heap.size = g ∧ Below W.heap.size W WX ∧ Two2 WX (.slice (some ⟨g, 0, none⟩) 2 2) xs ys := by
  obtain ⟨WX, g, h1, h2, h3, -, h5⟩ := (Rs.start W).listX hu hv
  exact ⟨WX, g, h1, h2, h3, h5⟩
theorem Rs.boxR {w0 W : World} {bs : List BxE} {rows : List RowE} (h : Rs w0 W bs rows) (a b c : Value) (T : TypeId) : ∃ WX g, W.alloc (.cells #[a, b, c] T) = WX ∧ W.heap.size = g ∧ Below W.heap.size W WX ∧ Rs w0 WX ((g, a, b, c) :: bs) rows := ⟨_, _, rfl, rfl, (Below.refl _ _).alloc (Nat.le_refl _) _, h.box a b c T⟩
/-- A call that changes nothing older leaves what a world holds of an older one. -/
theorem cell_kept {W W' : World} {g o : Nat} {u : Value} (hb : Below W.heap.size W W') (h : W.cell? ⟨g, o, none⟩ = some u) : W'.cell? ⟨g, o, none⟩ = some u := (hb.cell (World.block_lt_of_cell? _ _ h)).trans h
end Go.Proofs.Ytceidekfcnmeaaa
