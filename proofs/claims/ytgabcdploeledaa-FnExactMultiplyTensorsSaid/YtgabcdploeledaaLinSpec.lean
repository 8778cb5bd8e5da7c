
/- Stage 7's functions of spec. -/
import Derived.Test.YtgabcdploeledaaLinMath
import Derived.Test.YtgabcdploeledaaReorderSpec
namespace Go.Proofs.Ytgabcdploeledaa
set_option maxRecDepth 20000
open Go.RowKit

/-- A call has written over the first row. -/
theorem Rs.rewrite {w0 wr w' : World} {bs : List BxE} {rows : List RowE} {v : Value} {X X' : List Int} (h : Rs w0 wr bs ((v, X) :: rows)) (ho : w'.ownsRow w0.heap.size 3 1 v X'.length (ints X')) (hg : wr.grownBy w' v.ownBlock) : Rs w0 w' bs ((v, X') :: rows) := by
  have hap := List.pairwise_cons.1 h.apart
  have hlo : ∀ k, v.ownBlock = some k → w0.heap.size ≤ k := fun k hk => ((h.own (v, X) (by simp)).lt k hk).1
  refine ⟨h.bel.grown hg h.bel.size hlo, fun r hr => ?_, List.pairwise_cons.2 ⟨fun r hr => hap.1 r hr, hap.2⟩, fun b hm => (h.bx b hm).grown hg (fun k hk => ⟨fun e => h.far b hm (v, X) (by simp) (by rw [hk, e]), hlo k hk⟩), fun b hm r hr => ?_, h.dis⟩
  · rcases List.mem_cons.1 hr with rfl | hr
    · exact ho
    · exact (h.own r (by simp [hr])).kept hg (by
        cases hv : r.1.ownBlock with
        | none => exact .inl rfl
        | some k => exact .inr fun e => hap.1 r hr k e.symm hv)
  · rcases List.mem_cons.1 hr with rfl | hr
    · exact h.far b hm (v, X) (by simp)
    · exact h.far b hm r (by simp [hr])
/-- What an element of a valid tensor is. -/
theorem getL_elem {k p q : Int} {X : List Int} {wd N i : Nat} (hw : widthI k q = (wd : Int)) (hX : X.length = N * wd) (ht : Within (topI k p q) X) (hi : i < N) : ElemV k p q (getL wd X i) := by
  have h1 := Nat.mul_le_mul_right wd (show i + 1 ≤ N by omega)
  rw [Nat.add_mul, Nat.one_mul] at h1
  refine ⟨?_, fun x hx => ?_⟩
  · rw [getL_len (by omega), hw]
  · unfold getL at hx
    exact ht x (List.mem_of_mem_drop (List.mem_of_mem_take hx))
/-- The axes of a valid tensor, and how long its lists are. -/
theorem tensor_axes {k p q : Int} {L D X : List Int} (ht : tensorB k p q L D X = true) : AxesV L D := by
  obtain ⟨-, h0, -, -⟩ := tensorB_inv ht
  rcases sizeI_cases L D with ⟨h, -⟩ | ⟨-, h2, -, -⟩
  · omega
  · exact h2
theorem ten_lens {k p q : Int} {L D X : List Int} (h : tensorB k p q L D X = true) : L.length ≤ 12 ∧ D.length ≤ 12 ∧ X.length ≤ 24576 := by
  have ha := tensor_axes h
  have hp := PF.of h (setV_perm (List.Perm.refl L) ha.2.2.2.2)
  refine ⟨ha.1, by have := ha.1; have := ha.2.1; omega, ?_⟩
  rw [hp.lX]
  exact Nat.le_trans (Nat.mul_le_mul hp.n1.2 hp.w6.2) (by omega)
end Go.Proofs.Ytgabcdploeledaa
