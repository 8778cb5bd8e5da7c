
/- What regroup answers. -/
import Derived.Test.YtgdkllhgaikpnaaFuseSpec
namespace Go.Proofs.Ytgdkllhgaikpnaa
set_option maxRecDepth 20000
open Go.RowKit

/-- What regroup answers, of the labels that go (F), those that come (A) and their dimensions (G). -/
noncomputable def regB (k p q : Int) (L D X F A G : List Int) : Bool := tensorB k p q L D X && (subB L F && (decide (1 ≤ F.length) && (decide (1 ≤ A.length) && decide (sizeI (restL F L ++ A) (dimsVia L D (restL F L) ++ G) = prodL D))))
def AxTo (L D F : List Int) : List AxE := (axesL (regL L F) (dimsVia L D (regL L F))).drop (restL F L).length
theorem sizeI_of {L D : List Int} (h : AxesV L D) (hp : prodL D ≤ 4096) : sizeI L D = prodL D := by unfold sizeI; rw [if_pos ⟨axesB_true.2 h, hp⟩]
theorem sub_one {L : List Int} {b : Int} : subB L [b] = decide (b ∈ L) := by
  rw [Bool.eq_iff_iff, subB_true, decide_eq_true_eq]
  constructor
  · intro h; exact h.mem (by simp)
  · intro h; exact subV_of (by simp) (fun n hn => by simp at hn; subst hn; exact h)
/-- When a label is split. -/
theorem reg_split {k p q : Int} {L D X A G : List Int} {b : Int} : regB k p q L D X [b] A G = (tensorB k p q L D X && (decide (b ∈ L) && (decide (1 ≤ A.length) && (axesB A G && (decide (capI G = D.getD (L.idxOf b) 0) && decide (0 ≤ sizeI (restL [b] L ++ A) (dimsVia L D (restL [b] L) ++ G))))))) := by
  unfold regB
  rw [sub_one]
  cases ht : tensorB k p q L D X with
  | false => simp
  | true =>
    by_cases hb : b ∈ L
    case neg => simp [hb]
    by_cases hA : 1 ≤ A.length
    case neg => simp [hA]
    have FT := TF.of ht
    have hs : SubV L [b] := subB_true.1 (by rw [sub_one, decide_eq_true hb])
    obtain ⟨h1, h2, h3, h4, h5, h6⟩ := fuse_dims ht hs
    have e1 : dimsVia L D [b] = [D.getD (L.idxOf b) 0] := rfl
    have e2 : prodL (dimsVia L D [b]) = D.getD (L.idxOf b) 0 := by rw [e1]; simp [prodL]
    rw [e2] at h3 h5 h6
    have hd8 := h1 (D.getD (L.idxOf b) 0) (by rw [e1]; simp)
    obtain ⟨d, hd⟩ : ∃ d, d = D.getD (L.idxOf b) 0 := ⟨_, rfl⟩
    rw [← hd] at h3 hd8 ⊢
    have hrl : (restL [b] L).length = (dimsVia L D (restL [b] L)).length := by rw [dimsVia_len]
    simp only [decide_eq_true hb, decide_eq_true hA, List.length_singleton, Nat.le_refl, decide_true, Bool.true_and]
    rw [Bool.eq_iff_iff]
    simp only [Bool.and_eq_true, decide_eq_true_eq]
    have hpos := FT.n1
    have hpr := FT.pr
    constructor
    · intro h
      rcases sizeI_cases (restL [b] L ++ A) (dimsVia L D (restL [b] L) ++ G) with ⟨h7, -⟩ | ⟨h7, h8, h9, h10⟩
      · omega
      · have hax : AxesV A G := by
          obtain ⟨a1, a2, a3, a4, a5⟩ := h8
          rw [List.length_append] at a1 a2
          rw [List.length_append] at a2
          exact ⟨by omega, by omega, fun x hx => a3 x (List.mem_append_right _ hx), fun x hx => a4 x (List.mem_append_right _ hx), (List.nodup_append.1 a5).2.1⟩
        rw [prodL_app] at h7
        have h11 : prodL (dimsVia L D (restL [b] L)) * prodL G = prodL (dimsVia L D (restL [b] L)) * d := by rw [← h7, h, h3]
        have h12 : prodL G = d := Int.eq_of_mul_eq_mul_left (by omega) h11
        refine ⟨axesB_true.2 hax, ?_, by omega⟩
        have h13 := (capI_is (fun x hx => (hax.2.2.2.1 x hx).1)).1
        omega
    · rintro ⟨h7, h8, h9⟩
      have hax := axesB_true.1 h7
      have h13 := (capI_is (fun x hx => (hax.2.2.2.1 x hx).1)).1
      have h12 : prodL G = d := by omega
      rcases sizeI_cases (restL [b] L ++ A) (dimsVia L D (restL [b] L) ++ G) with ⟨h10, -⟩ | ⟨h10, -, -, -⟩
      · omega
      · rw [h10, prodL_app, h12, h3]
/-- When labels are fused. -/
theorem reg_fuse {k p q c : Int} {L D X F : List Int} : regB k p q L D X F [c] [prodL (dimsVia L D F)] = fuseB k p q L D X F c := by
  unfold regB fuseB
  cases ht : tensorB k p q L D X with
  | false => simp
  | true =>
    cases hs : subB L F with
    | false => simp
    | true =>
      obtain ⟨h1, h2, h3, h4, h5, h6⟩ := fuse_dims ht (subB_true.1 hs)
      have FT := TF.of ht
      have hp := FT.pr
      have hn := FT.n1
      have e : sizeI (restL F L ++ [c]) (dimsVia L D (restL F L) ++ [prodL (dimsVia L D F)]) = sizeI (fuseL L F c) (fuseD L D F) := rfl
      rw [e]
      simp only [Bool.true_and, List.length_singleton, Nat.le_refl, decide_true]
      rw [Bool.eq_iff_iff]
      simp only [Bool.and_eq_true, decide_eq_true_eq]
      constructor
      · rintro ⟨h7, h8⟩
        exact ⟨h7, by omega⟩
      · rintro ⟨h7, h8⟩
        refine ⟨h7, ?_⟩
        rcases sizeI_cases (fuseL L F c) (fuseD L D F) with ⟨h9, -⟩ | ⟨h9, -, -, -⟩
        · omega
        · rw [h9]
          unfold fuseD
          rw [prodL_app]
          simp only [prodL, List.foldl_cons, List.foldl_nil, Int.one_mul] at h3 ⊢
          exact h3
end Go.Proofs.Ytgdkllhgaikpnaa
