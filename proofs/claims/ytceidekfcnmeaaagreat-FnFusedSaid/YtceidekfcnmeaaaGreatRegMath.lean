
/- What regroup answers. -/
import Derived.Test.YtceidekfcnmeaaaGreatFuseSpec
namespace Go.Proofs.YtceidekfcnmeaaaGreat
set_option maxRecDepth 20000
open Go.RowKit

/-- What regroup answers, of the labels that go (F), those that come (A) and their dimensions (G). -/
noncomputable def regB (k p q : Int) (L D X F A G : List Int) : Bool := tensorB k p q L D X && (subB L F && (decide (1 ≤ F.length) && (decide (1 ≤ A.length) && decide (sizeI (restL F L ++ A) (dimsVia L D (restL F L) ++ G) = prodL D))))
def AxTo (L D F : List Int) : List AxE := (axesL (regL L F) (dimsVia L D (regL L F))).drop (restL F L).length
theorem sizeI_of {L D : List Int} (h : AxesV L D) (hp : prodL D ≤ 4096) : sizeI L D = prodL D := by unfold sizeI; rw [if_pos ⟨axesB_true.2 h, hp⟩]
/-- When labels are fused. -/
theorem reg_fuse {k p q c : Int} {L D X F : List Int} : regB k p q L D X F [c] [prodL (dimsVia L D F)] = fuseB k p q L D X F c := by
  unfold regB fuseB
  cases ht : tensorB k p q L D X with
  | false => simp
  | true =>
    cases hs : subB L F with
    | false => simp
    | true =>
      obtain ⟨h1, h2, h3, h4, h5, h6⟩ := fuse_dims ht (subB_true.1 hs)
      have FT := TF.of ht
      have hp := FT.pr
      have hn := FT.n1
      have e : sizeI (restL F L ++ [c]) (dimsVia L D (restL F L) ++ [prodL (dimsVia L D F)]) = sizeI (fuseL L F c) (fuseD L D F) := rfl
      rw [e]
      simp only [Bool.true_and, List.length_singleton, Nat.le_refl, decide_true]
      rw [Bool.eq_iff_iff]
      simp only [Bool.and_eq_true, decide_eq_true_eq]
      constructor
      · rintro ⟨h7, h8⟩
        exact ⟨h7, by omega⟩
      · rintro ⟨h7, h8⟩
        refine ⟨h7, ?_⟩
        rcases sizeI_cases (fuseL L F c) (fuseD L D F) with ⟨h9, -⟩ | ⟨h9, -, -, -⟩
        · omega
        · rw [h9]
          unfold fuseD
          rw [prodL_app]
          simp only [prodL, List.foldl_cons, List.foldl_nil, Int.one_mul] at h3 ⊢
          exact h3
end Go.Proofs.YtceidekfcnmeaaaGreat
