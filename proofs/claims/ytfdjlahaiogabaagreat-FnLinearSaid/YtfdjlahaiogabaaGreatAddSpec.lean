
/- spec.l07Join: two tensors with the same axes, element by element. -/
import Derived.Test.YtfdjlahaiogabaaGreatPermSpec
import Derived.Test.YtfdjlahaiogabaaGreatTimesOne
import Derived.Test.YtfdjlahaiogabaaGreatElem
namespace Go.Proofs.YtfdjlahaiogabaaGreat
set_option maxRecDepth 20000
open Go.RowKit

/-- The sum, or the product, of the elements at an offset. -/
def joinF (k p : Int) (wd : Nat) (X Y : List Int) (pr : Bool) (i : Nat) : List Int := if pr = true then timesL k p (getL wd X i) (getL wd Y i) else plusL k p (getL wd X i) (getL wd Y i)
theorem joinF_elem {k p q : Int} {X Y : List Int} {wd N i : Nat} (hr : ringB k p q = true) (hw : widthI k q = (wd : Int)) (hX : X.length = N * wd) (hY : Y.length = N * wd) (wX : Within (topI k p q) X) (wY : Within (topI k p q) Y) (pr : Bool) (hi : i < N) : ElemV k p q (joinF k p wd X Y pr i) := by
  have h1 := getL_elem hw hX wX hi
  have h2 := getL_elem hw hY wY hi
  unfold joinF
  split
  · exact timesL_elem hr h1 h2
  · exact plusL_elem hr h1 h2
end Go.Proofs.YtfdjlahaiogabaaGreat
namespace Go.Proofs.YtfdjlahaiogabaaGreat
set_option maxRecDepth 20000
open Go.RowKit

/-- An element times the one at an offset. -/
def scaleF (k p : Int) (wd : Nat) (x X : List Int) (i : Nat) : List Int := timesL k p x (getL wd X i)
noncomputable def scaleB (k p q : Int) (L D X x : List Int) : Bool := tensorB k p q L D X && elemB k p q x
def scaleTenL (k p q : Int) (D X x : List Int) : List Int := gatherL (scaleF k p (widthI k q).toNat x X) (prodL D).toNat
end Go.Proofs.YtfdjlahaiogabaaGreat
namespace Go.Proofs.YtfdjlahaiogabaaGreat
set_option maxRecDepth 20000
open Go.RowKit

/-- Are both tensors valid, with the same labels. -/
noncomputable def bothB (k p q : Int) (L D X L' D' X' : List Int) : Bool := tensorB k p q L D X && (tensorB k p q L' D' X' && setV L L')
noncomputable def fitB (k p q : Int) (L D X L' D' X' : List Int) : Bool := bothB k p q L D X L' D' X' && decide (dimsVia L' D' L = D)
theorem set_sym {L L' : List Int} (h : SetV L L') : SetV L' L := setV_perm h.perm.symm h.nodup
end Go.Proofs.YtfdjlahaiogabaaGreat
namespace Go.Proofs.YtfdjlahaiogabaaGreat
set_option maxRecDepth 20000
open Go.RowKit

/-- The data of the sum, or of the product. -/
noncomputable def joinTenL (k p q : Int) (L D X L' D' X' : List Int) (pr : Bool) : List Int := gatherL (joinF k p (widthI k q).toNat X (permDataL k q L' D' X' L) pr) (prodL D).toNat
theorem getL_within {t : Int} {wd n : Nat} {X : List Int} (h : Within t X) : Within t (getL wd X n) := fun x hx => by
  unfold getL at hx
  exact h x (List.mem_of_mem_drop (List.mem_of_mem_take hx))
theorem permX_inside {t : Int} {wd N : Nat} {L D X labels : List Int} (h : Within t X) : Within t (permX wd L D X labels N) := fun x hx => by
  unfold permX at hx
  obtain ⟨n, -, hn⟩ := List.mem_flatMap.1 hx
  exact getL_within h x hn
theorem both_parts {k p q : Int} {L D X L' D' X' : List Int} (h : fitB k p q L D X L' D' X' = true) : tensorB k p q L D X = true ∧ tensorB k p q L' D' X' = true ∧ SetV L' L ∧ dimsVia L' D' L = D := by
  unfold fitB bothB at h
  simp only [Bool.and_eq_true, decide_eq_true_eq] at h
  obtain ⟨⟨h1, h2, h3⟩, h4⟩ := h
  exact ⟨h1, h2, set_sym (setV_true.1 h3), h4⟩
/-- What the join asks. -/
theorem fit_facts {k p q : Int} {L D X L' D' X' : List Int} (h : fitB k p q L D X L' D' X' = true) : PF k p q L D X L L.length (widthI k q).toNat (prodL D).toNat ∧ (permDataL k q L' D' X' L).length = X.length ∧ Within (topI k p q) X ∧ Within (topI k p q) (permDataL k q L' D' X' L) := by
  obtain ⟨h1, h2, h3, h4⟩ := both_parts h
  have hp := PF.of h1 (setV_perm (List.Perm.refl L) (tensor_axes h1).2.2.2.2)
  have hq := PF.of h2 h3
  refine ⟨hp, ?_, (tensorB_inv h1).2.2.2, permX_inside (tensorB_inv h2).2.2.2⟩
  unfold permDataL
  rw [hq.len, hp.lX]
  congr 1
  have e1 := hq.dims.2.1
  rw [h4] at e1
  rw [e1, Int.toNat_natCast]
end Go.Proofs.YtfdjlahaiogabaaGreat
