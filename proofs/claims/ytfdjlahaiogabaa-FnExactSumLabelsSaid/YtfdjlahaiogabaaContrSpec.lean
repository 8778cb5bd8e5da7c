
/- spec.ContractPair, spec.SumLabels. -/
import Derived.Test.YtfdjlahaiogabaaPairSpec
namespace Go.Proofs.Ytfdjlahaiogabaa
set_option maxRecDepth 20000
open Go.RowKit

noncomputable def pairB (k p q : Int) (L D X L' D' X' keep : List Int) : Bool := tensorB k p q L D X && (tensorB k p q L' D' X' && pfB L D L' D' keep)
theorem pairB_parts {k p q : Int} {L D X L' D' X' keep : List Int} (h : pairB k p q L D X L' D' X' keep = true) : tensorB k p q L D X = true ∧ tensorB k p q L' D' X' = true ∧ FitV L D L' D' ∧ prodL (joinD L D L' D') ≤ 65536 ∧ ¬ sizeI (keepL (joinL L L') keep) (keepD (joinL L L') (joinD L D L' D') keep) < 0 := by
  unfold pairB pfB smallB at h
  simp only [Bool.and_eq_true, decide_eq_true_eq] at h
  obtain ⟨h1, h2, h3, h4, h5⟩ := h
  exact ⟨h1, h2, fitV_true.1 h3, h4, by omega⟩
theorem width_pos {k p q : Int} (h : ringB k p q = true) : ∃ wd : Nat, widthI k q = (wd : Int) ∧ 1 ≤ wd ∧ wd ≤ 6 := by
  have h1 := ring_width h
  exact ⟨(widthI k q).toNat, by omega, by omega, by omega⟩
theorem pairL_len {k p q : Int} {L D X L' D' X' keep : List Int} {wd N1 N2 : Nat} (hr : ringB k p q = true) (hw : widthI k q = (wd : Int)) (hw6 : wd ≤ 6) (fa : TenF k p q L D X wd N1) (fb : TenF k p q L' D' X' wd N2) (hf : FitV L D L' D') (hK : ¬ sizeI (keepL (joinL L L') keep) (keepD (joinL L L') (joinD L D L' D') keep) < 0) : (pairL k p q L D X L' D' X' keep).length ≤ 24576 := by
  have HJA := joinD_ax fa.ax fb.ax
  have HKA := sizeI_axes hK
  have SJA : SubAx L D (joinL L L') (joinD L D L' D') := SubAx.left fa.ax.2.2.2.2 fa.ax.2.1
  have SJB : SubAx L' D' (joinL L L') (joinD L D L' D') := SubAx.right fa.ax.2.1 fb.ax.2.2.2.2 fb.ax.2.1 hf
  have hJ1 : ∀ d ∈ joinD L D L' D', 1 ≤ d := fun d hd => (HJA.1 d hd).1
  unfold pairL
  rw [hw, Int.toNat_natCast, acc_len (wd := wd) (N := (prodL (joinD L D L' D')).toNat) hr hw (fun n _ => termJ_elem hr hw fa.lX fb.lX fa.wX fb.wX (by have h := (SJA.off HJA.2.2.2 fa.dim hJ1 HJA.2.1 n).2; rw [fa.pr] at h; omega) (by have h := (SJB.off HJA.2.2.2 fb.dim hJ1 HJA.2.1 n).2; rw [fb.pr] at h; omega)) (Nat.le_refl _)]
  exact Nat.le_trans (Nat.mul_le_mul (show _ ≤ 4096 by omega) hw6) (by omega)
theorem prodL_sub {A C : List Int} (h : A.Sublist C) (h1 : ∀ d ∈ C, 1 ≤ d) : prodL A ≤ prodL C := by
  induction h with
  | slnil => exact Int.le_refl _
  | cons a hs ih =>
    rename_i l1 l2
    rw [prodL_cons]
    have h2 := ih (fun d hd => h1 d (List.mem_cons_of_mem _ hd))
    have h3 := h1 a (by simp)
    have h4 := prodL_pos (D := l2) (fun d hd => h1 d (List.mem_cons_of_mem _ hd))
    have h5 := Int.mul_le_mul_of_nonneg_right h3 (show 0 ≤ prodL l2 by omega)
    omega
  | cons_cons a hs ih =>
    rw [prodL_cons, prodL_cons]
    have h2 := ih (fun d hd => h1 d (List.mem_cons_of_mem _ hd))
    have h3 := h1 a (by simp)
    exact Int.mul_le_mul_of_nonneg_left h2 (by omega)
/-- What is kept of a tensor's own axes is small enough. -/
theorem sum_fits {L D keep : List Int} (h : AxesV L D) (hP : prodL D ≤ 4096) : joinL L [] = L ∧ joinD L D [] [] = D ∧ ¬ sizeI (keepL (joinL L []) keep) (keepD (joinL L []) (joinD L D [] []) keep) < 0 := by
  have e1 : joinL L [] = L := by simp [joinL, restL]
  have e2 : joinD L D [] [] = D := by simp [joinD, restL, dimsVia]
  refine ⟨e1, e2, ?_⟩
  rw [e1, e2]
  have hsub : (keepL L keep).Sublist L := List.filter_sublist
  have hds : (keepD L D keep).Sublist D := by
    have h2 := hsub.map (fun n => D.getD (L.idxOf n) 0)
    have h3 := dims_self h.2.2.2.2 h.2.1
    unfold keepD
    rw [← h3]
    unfold dimsVia at h3 ⊢
    rw [h3]
    rw [h3] at h2
    exact h2
  have hax : AxesV (keepL L keep) (keepD L D keep) := ⟨Nat.le_trans hsub.length_le h.1, by unfold keepD dimsVia; simp, fun x hx => h.2.2.1 x (hsub.subset hx), fun d hd => h.2.2.2.1 d (hds.subset hd), keep_nodup h.2.2.2.2⟩
  have hp := prodL_sub hds (fun d hd => (h.2.2.2.1 d hd).1)
  have hp1 := prodL_pos (D := keepD L D keep) (fun d hd => (hax.2.2.2.1 d hd).1)
  unfold sizeI
  rw [if_pos ⟨axesB_true.2 hax, by omega⟩]
  omega
theorem one_ten {k p q : Int} {wd : Nat} (hr : ringB k p q = true) (hw : widthI k q = (wd : Int)) : TenF k p q [] [] (oneL k p q) wd 1 :=
  ⟨⟨by simp, rfl, by simp, by simp, List.nodup_nil⟩, rfl, by omega, by have h := (oneL_elem hr).1; omega, (oneL_elem hr).2⟩
end Go.Proofs.Ytfdjlahaiogabaa
namespace Go.Proofs.Ytfdjlahaiogabaa
set_option maxRecDepth 20000
open Go.RowKit

theorem pair_len_L (k p q : Int) (L D X L' D' X' keep : List Int) : (if pairB k p q L D X L' D' X' keep = true then keepL (joinL L L') keep else []).length ≤ 12 := by
  split
  · rename_i h; exact (sizeI_axes (pairB_parts h).2.2.2.2).1.1
  · simp
theorem pair_len_D (k p q : Int) (L D X L' D' X' keep : List Int) : (if pairB k p q L D X L' D' X' keep = true then keepD (joinL L L') (joinD L D L' D') keep else []).length ≤ 12 := by
  split
  · rename_i h
    have h1 := (sizeI_axes (pairB_parts h).2.2.2.2).1
    rw [← h1.2.1]; exact h1.1
  · simp
theorem pair_len_X (k p q : Int) (L D X L' D' X' keep : List Int) : (if pairB k p q L D X L' D' X' keep = true then pairL k p q L D X L' D' X' keep else []).length ≤ 24576 := by
  split
  · rename_i h
    obtain ⟨h1, h2, h3, -, h5⟩ := pairB_parts h
    have hrb := (tensorB_inv h1).1
    obtain ⟨wd, hw, -, hw6⟩ := width_pos hrb
    exact pairL_len hrb hw hw6 (TenF.of h1 hw) (TenF.of h2 hw) h3 h5
  · simp
theorem sum_facts {k p q : Int} {L D X : List Int} (keep : List Int) (h : tensorB k p q L D X = true) : ¬ sizeI (keepL (joinL L []) keep) (keepD (joinL L []) (joinD L D [] []) keep) < 0 := by
  have hrb := (tensorB_inv h).1
  obtain ⟨wd, hw, -, -⟩ := width_pos hrb
  have hf := TenF.of h hw
  exact (sum_fits (tensor_axes h) (by have h1 := hf.pr; have h2 := hf.n1; omega)).2.2
theorem sum_len_L (k p q : Int) (L D X keep : List Int) : (if tensorB k p q L D X = true then keepL (joinL L []) keep else []).length ≤ 12 := by
  split
  · rename_i h; exact (sizeI_axes (sum_facts keep h)).1.1
  · simp
theorem sum_len_D (k p q : Int) (L D X keep : List Int) : (if tensorB k p q L D X = true then keepD (joinL L []) (joinD L D [] []) keep else []).length ≤ 12 := by
  split
  · rename_i h
    have h1 := (sizeI_axes (sum_facts keep h)).1
    rw [← h1.2.1]; exact h1.1
  · simp
theorem sum_len_X (k p q : Int) (L D X keep : List Int) : (if tensorB k p q L D X = true then pairL k p q L D X [] [] (oneL k p q) keep else []).length ≤ 24576 := by
  split
  · rename_i h
    have hrb := (tensorB_inv h).1
    obtain ⟨wd, hw, -, hw6⟩ := width_pos hrb
    exact pairL_len hrb hw hw6 (TenF.of h hw) (one_ten hrb hw) (fun j n h => by simp at h) (sum_facts keep h)
  · simp
end Go.Proofs.Ytfdjlahaiogabaa
