
/- The law FnImages, its mathematics: a homomorphism commutes with a contraction. -/
import Derived.Test.YtfdjlahaiogababPairsMath
import Derived.Test.YtfdjlahaiogababMapC
namespace Go.Proofs.Ytfdjlahaiogabab
set_option maxRecDepth 20000
open Go.RowKit

theorem acc_image {k p q k' p' q' : Int} {img : List Int → List Int} (H : HomP k p q k' p' q' img) (hr : ringB k p q = true) {zf : Nat → Nat} {tf tf' : Nat → List Int} {N : Nat} (ht : ∀ m, m < N → ElemV k p q (tf m)) (he : ∀ m, m < N → tf' m = img (tf m)) (o : Nat) : ∀ n, n ≤ N → accE k' p' q' zf tf' n o = img (accE k p q zf tf n o) := by
  intro n
  induction n with
  | zero => intro _; rw [accE_zero, accE_zero, H.zero]
  | succ n ih =>
    intro hn
    rw [accE_succ, accE_succ, ih (by omega)]
    split
    · rw [he n (by omega), H.plus _ _ (accE_elem hr ht n (by omega) o) (ht n (by omega))]
    · rfl
section
variable {k p q k' p' q' hk ha : Int} {L D X L' D' X' keep : List Int}
theorem map_form (hh : homB k p q k' p' q' hk ha = true) (ht : tensorB k p q L D X = true) : tensorB k' p' q' L D (mapTenL k q k' p' q' hk ha D X) = true := by
  obtain ⟨hr, hr', -⟩ := homB_parts hh
  obtain ⟨wd, hw, -, -⟩ := width_pos hr
  obtain ⟨wd', hw', -, -⟩ := width_pos hr'
  have fa := TenF.of ht hw
  have h1 := fa.n1
  have h2 := fa.pr
  have he : ∀ i, i < (prodL D).toNat → ElemV k' p' q' (mapF k k' p' q' hk ha (widthI k q).toNat X i) := fun i hi => image_elem hh (by
    rw [hw, Int.toNat_natCast]
    exact getL_elem hw fa.lX fa.wX hi)
  refine (tensorB_of hr' fa.ax (by omega) ?_ ?_).1
  · unfold mapTenL
    rw [gather_len (wd := wd') _ (fun i hi => by have h := (he i hi).1; omega), hw', Int.natCast_mul]
    congr 1
    omega
  · exact gather_within fun i hi => (he i hi).2
theorem map_get {wd wd' : Nat} (hh : homB k p q k' p' q' hk ha = true) (hw : widthI k q = (wd : Int)) (hw' : widthI k' q' = (wd' : Int)) (ht : tensorB k p q L D X = true) {i : Nat} (hi : i < (prodL D).toNat) : getL wd' (mapTenL k q k' p' q' hk ha D X) i = imageL k k' p' q' hk ha (getL wd X i) := by
  have fa := TenF.of ht hw
  have he : ∀ j, j < (prodL D).toNat → (mapF k k' p' q' hk ha (widthI k q).toNat X j).length = wd' := fun j hj => by
    have h := (image_elem hh (by rw [hw, Int.toNat_natCast]; exact getL_elem hw fa.lX fa.wX hj) : ElemV k' p' q' (imageL k k' p' q' hk ha (getL (widthI k q).toNat X j))).1
    show (imageL k k' p' q' hk ha (getL (widthI k q).toNat X j)).length = wd'
    omega
  unfold mapTenL
  rw [gather_get he hi]
  show imageL k k' p' q' hk ha (getL (widthI k q).toNat X i) = _
  rw [hw, Int.toNat_natCast]
/-- The images' contraction is the contraction's image. -/
theorem pair_image (hh : homB k p q k' p' q' hk ha = true) (h : pairB k p q L D X L' D' X' keep = true) :
    pairL k' p' q' L D (mapTenL k q k' p' q' hk ha D X) L' D' (mapTenL k q k' p' q' hk ha D' X') keep = mapTenL k q k' p' q' hk ha (keepD (joinL L L') (joinD L D L' D') keep) (pairL k p q L D X L' D' X' keep) := by
  have H := hom_any hh
  obtain ⟨hr, hr', -⟩ := homB_parts hh
  obtain ⟨h1, h2, h3, -, h5⟩ := pairB_parts h
  obtain ⟨wd, hw, -, -⟩ := width_pos hr
  obtain ⟨wd', hw', -, -⟩ := width_pos hr'
  have fa := TenF.of h1 hw
  have fb := TenF.of h2 hw
  have HJA := joinD_ax fa.ax fb.ax
  have SJA : SubAx L D (joinL L L') (joinD L D L' D') := SubAx.left fa.ax.2.2.2.2 fa.ax.2.1
  have SJB : SubAx L' D' (joinL L L') (joinD L D L' D') := SubAx.right fa.ax.2.1 fb.ax.2.2.2.2 fb.ax.2.1 h3
  have hJ1 : ∀ d ∈ joinD L D L' D', 1 ≤ d := fun d hd => (HJA.1 d hd).1
  have oa : ∀ m, offJ L D (joinL L L') (joinD L D L' D') m < (prodL D).toNat := fun n => by have h := (SJA.off HJA.2.2.2 fa.dim hJ1 HJA.2.1 n).2; omega
  have ob : ∀ m, offJ L' D' (joinL L L') (joinD L D L' D') m < (prodL D').toNat := fun n => by have h := (SJB.off HJA.2.2.2 fb.dim hJ1 HJA.2.1 n).2; omega
  have ht : ∀ m, m < (prodL (joinD L D L' D')).toNat → ElemV k p q (termJ k p wd L D X L' D' X' (joinL L L') (joinD L D L' D') m) := fun n _ => termJ_elem hr hw fa.lX fb.lX fa.wX fb.wX (oa n) (ob n)
  have he : ∀ m, m < (prodL (joinD L D L' D')).toNat → termJ k' p' wd' L D (mapTenL k q k' p' q' hk ha D X) L' D' (mapTenL k q k' p' q' hk ha D' X') (joinL L L') (joinD L D L' D') m = imageL k k' p' q' hk ha (termJ k p wd L D X L' D' X' (joinL L L') (joinD L D L' D') m) := fun m _ => by
    unfold termJ
    rw [map_get hh hw hw' h1 (oa m), map_get hh hw hw' h2 (ob m), H.times _ _ (getL_elem hw fa.lX fa.wX (oa m)) (getL_elem hw fb.lX fb.wX (ob m))]
  unfold pairL
  rw [hw, hw', Int.toNat_natCast, Int.toNat_natCast]
  conv => rhs; unfold mapTenL
  refine gather_congr fun o ho => ?_
  show _ = imageL k k' p' q' hk ha (getL (widthI k q).toNat _ o)
  rw [hw, Int.toNat_natCast, acc_get hr hw ht (Nat.le_refl _) ho]
  exact acc_image H hr ht he o _ (Nat.le_refl _)
theorem pair_image_ok (hh : homB k p q k' p' q' hk ha = true) (h : pairB k p q L D X L' D' X' keep = true) : pairB k' p' q' L D (mapTenL k q k' p' q' hk ha D X) L' D' (mapTenL k q k' p' q' hk ha D' X') keep = true := by
  have h1 := pairB_parts h
  unfold pairB at h ⊢
  rw [map_form hh h1.1, map_form hh h1.2.1]
  rw [h1.1, h1.2.1] at h
  exact h
end
end Go.Proofs.Ytfdjlahaiogabab
