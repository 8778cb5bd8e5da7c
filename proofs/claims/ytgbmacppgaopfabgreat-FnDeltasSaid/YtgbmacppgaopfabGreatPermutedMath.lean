
/- How long the answers of stage 6 are. -/
import Derived.Test.YtgbmacppgaopfabGreatTensorOk
import Derived.Test.YtgbmacppgaopfabGreatJoinMath
import Derived.Test.YtgbmacppgaopfabGreatDrawn

/- spec.SameTensor. -/
import Derived.Test.YtgbmacppgaopfabGreatPermSpec
namespace Go.Proofs.YtgbmacppgaopfabGreat
set_option maxRecDepth 20000
open Go.RowKit

noncomputable def sameB (k p q : Int) (L D X L' D' X' : List Int) : Bool := tensorB k p q L D X && (tensorB k p q L' D' X' && (decide (sortL L = sortL L') && (decide (dimsVia L D (sortL L) = dimsVia L' D' (sortL L')) && decide (permDataL k q L D X (sortL L) = permDataL k q L' D' X' (sortL L')))))
theorem perm_lens {k p q : Int} {L D X : List Int} (h : tensorB k p q L D X = true) : (sortL L).length ≤ 12 ∧ (dimsVia L D (sortL L)).length ≤ 12 ∧ (permDataL k q L D X (sortL L)).length ≤ 24576 := by
  obtain ⟨hrb, hs0, hxl, -⟩ := tensorB_inv h
  rcases sizeI_cases L D with ⟨h1, -⟩ | ⟨-, h2, -, -⟩
  · omega
  · have hp := PF.of h (setV_perm (sortL_perm L) h2.2.2.2.2)
    refine ⟨by rw [sortL_len]; exact h2.1, by rw [dimsVia_len, sortL_len]; exact h2.1, ?_⟩
    unfold permDataL
    rw [hp.len]
    exact Nat.le_trans (Nat.mul_le_mul hp.n1.2 hp.w6.2) (by omega)
end Go.Proofs.YtgbmacppgaopfabGreat
namespace Go.Proofs.YtgbmacppgaopfabGreat
set_option maxRecDepth 20000
open Go.RowKit

end Go.Proofs.YtgbmacppgaopfabGreat
namespace Go.Proofs.YtgbmacppgaopfabGreat
set_option maxRecDepth 20000
open Go.RowKit

theorem flat_len {wd : Nat} {f : Nat → List Int} {N : Nat} (h : ∀ n, n < N → (f n).length = wd) : ((List.range N).flatMap f).length = N * wd := by
  induction N with
  | zero => simp
  | succ N ih =>
    rw [List.range_succ, List.flatMap_append, List.length_append, ih (fun n hn => h n (by omega)), Nat.add_mul, Nat.one_mul]
    simp [h N (by omega)]
theorem getL_flat {wd : Nat} {f : Nat → List Int} {N : Nat} (h : ∀ n, n < N → (f n).length = wd) : ∀ o, o < N → getL wd ((List.range N).flatMap f) o = f o := by
  induction N with
  | zero => intro o ho; omega
  | succ N ih =>
    intro o ho
    have hl := flat_len (wd := wd) (f := f) (N := N) (fun n hn => h n (by omega))
    have ih2 := ih (fun n hn => h n (by omega))
    rw [List.range_succ, List.flatMap_append]
    unfold getL at ih2 ⊢
    by_cases e : o = N
    · subst e
      rw [List.drop_append, hl, Nat.sub_self, List.drop_of_length_le (by rw [hl]; exact Nat.le_refl _)]
      simp [← h o (by omega)]
    · have h3 := Nat.mul_le_mul_right wd (show o + 1 ≤ N by omega)
      rw [Nat.add_mul, Nat.one_mul] at h3
      rw [List.drop_append_of_le_length (by omega), List.take_append_of_le_length (by rw [List.length_drop, hl]; omega)]
      exact ih2 o (by omega)
/-- The parts of a list, one after another. -/
theorem flat_parts {wd : Nat} {X : List Int} {N : Nat} (h : X.length = N * wd) : (List.range N).flatMap (fun n => getL wd X n) = X := by
  have key : ∀ M, M ≤ N → (List.range M).flatMap (fun n => getL wd X n) = X.take (M * wd) := by
    intro M
    induction M with
    | zero => intro _; simp
    | succ M ih =>
      intro hM
      rw [List.range_succ, List.flatMap_append, ih (by omega), Nat.add_mul, Nat.one_mul, List.take_add]
      simp [getL]
  rw [key N (Nat.le_refl _), List.take_of_length_le (by omega)]
/-- Through one order and another. -/
theorem via_via {L A C ix : List Int} (hA : A.Perm L) : viaL L A (viaL A C ix) = viaL L C ix := by
  apply List.map_congr_left
  intro n hL
  have hmA : n ∈ A := hA.symm.subset hL
  have e : (viaL A C ix)[A.idxOf n]? = some (ix.getD (C.idxOf n) 0) := by unfold viaL; rw [List.getElem?_map, at_idxOf hmA]; rfl
  exact getD_at e
theorem dims_dims {L D A C : List Int} (hA : A.Perm L) (hC : C.Perm L) : dimsVia A (dimsVia L D A) C = dimsVia L D C := by
  apply List.map_congr_left
  intro n hnC
  have hmA : n ∈ A := hA.symm.subset (hC.subset hnC)
  have e : (dimsVia L D A)[A.idxOf n]? = some (D.getD (L.idxOf n) 0) := by unfold dimsVia; rw [List.getElem?_map, at_idxOf hmA]; rfl
  exact getD_at e
theorem via_self {L ix : List Int} (hn : L.Nodup) (hl : ix.length = L.length) : viaL L L ix = ix := by
  refine (via_unique hn (List.Perm.refl L) hl (fun i n hi => ?_)).symm
  rw [idxOf_at hn hi]
theorem flat_congr {f g : Nat → List Int} {N : Nat} (h : ∀ n, n < N → f n = g n) : (List.range N).flatMap f = (List.range N).flatMap g := by
  induction N with
  | zero => rfl
  | succ N ih => rw [List.range_succ, List.flatMap_append, List.flatMap_append, ih (fun n hn => h n (by omega))]; simp [h N (by omega)]
/-- In its own order a tensor is as it was. -/
theorem permX_self {wd : Nat} {L D X : List Int} {N : Nat} (hn : L.Nodup) (hl : L.length = D.length) (hD : ∀ d ∈ D, 1 ≤ d) (hN : prodL D = (N : Int)) (hX : X.length = N * wd) : permX wd L D X L N = X := by
  unfold permX
  rw [dims_self hn hl]
  have e : (List.range N).flatMap (fun n : Nat => getL wd X (offI D (viaL L L (idxL D (n : Int)))).toNat) = (List.range N).flatMap (fun n => getL wd X n) := by
    refine flat_congr fun n hn2 => ?_
    rw [via_self hn (by rw [idxL_len, hl]), off_idx hD (by omega) (by omega)]
    rfl
  rw [e]
  exact flat_parts hX
/-- Two orders after each other. -/
theorem permX_permX {wd : Nat} {L D X A C : List Int} {N : Nat} (hn : L.Nodup) (hl : L.length = D.length) (hA : A.Perm L) (hC : C.Perm L) (hD : ∀ d ∈ D, 1 ≤ d) (hN : prodL D = (N : Int)) (hX : X.length = N * wd) :
    permX wd A (dimsVia L D A) (permX wd L D X A N) C N = permX wd L D X C N := by
  have hnA : A.Nodup := hA.nodup_iff.2 hn
  have hlA : A.length = (dimsVia L D A).length := by simp [dimsVia]
  have hDA : ∀ d ∈ dimsVia L D A, 1 ≤ d := fun d hd => hD d ((dims_perm hn hl hA).subset hd)
  have hNA : prodL (dimsVia L D A) = (N : Int) := by rw [prodL_perm (dims_perm hn hl hA), hN]
  have hCA : C.Perm A := hC.trans hA.symm
  have hpart : ∀ n, n < N → (getL wd X (offI D (viaL L A (idxL (dimsVia L D A) (n : Int)))).toNat).length = wd := fun n _ => by
    have hi := via_in hn hl hA (idxL_in hDA (n : Int))
    have hr := offP_range hD hi D.length (Nat.le_refl _)
    rw [← offI_is, List.take_of_length_le (Nat.le_refl _), hN] at hr
    unfold getL
    rw [List.length_take, List.length_drop, hX]
    have h3 := Nat.mul_le_mul_right wd (show (offI D (viaL L A (idxL (dimsVia L D A) (n : Int)))).toNat + 1 ≤ N by omega)
    rw [Nat.add_mul, Nat.one_mul] at h3
    omega
  show (List.range N).flatMap _ = (List.range N).flatMap _
  rw [dims_dims hA hC]
  refine flat_congr fun n hn2 => ?_
  have hix : InIx (dimsVia A (dimsVia L D A) C) (idxL (dimsVia L D C) (n : Int)) := by rw [dims_dims hA hC]; exact idxL_in (fun d hd => hD d ((dims_perm hn hl hC).subset hd)) _
  have hi := via_in hnA hlA hCA hix
  have hr := offP_range hDA hi _ (Nat.le_refl _)
  rw [← offI_is, List.take_of_length_le (Nat.le_refl _), hNA] at hr
  have hg := getL_flat hpart (offI (dimsVia L D A) (viaL A C (idxL (dimsVia L D C) (n : Int)))).toNat (by omega)
  have e : permX wd L D X A N = (List.range N).flatMap (fun n : Nat => getL wd X (offI D (viaL L A (idxL (dimsVia L D A) (n : Int)))).toNat) := rfl
  rw [e, hg, Int.toNat_of_nonneg hr.1, idx_off hDA hi, via_via hA]
theorem sortL_congr {A L : List Int} (h : A.Perm L) : sortL A = sortL L := sortL_unique (sortL_sorted A) ((sortL_perm A).trans h)
end Go.Proofs.YtgbmacppgaopfabGreat
namespace Go.Proofs.YtgbmacppgaopfabGreat
set_option maxRecDepth 20000
open Go.RowKit

theorem permX_within {t : Int} {wd : Nat} {L D X labels : List Int} (h : Within t X) (N : Nat) : Within t (permX wd L D X labels N) := by
  intro x hx
  unfold permX at hx
  rw [List.mem_flatMap] at hx
  obtain ⟨n, -, hx⟩ := hx
  unfold getL at hx
  exact h x (List.mem_of_mem_drop (List.mem_of_mem_take hx))
/-- A valid tensor's axes in another order: a valid tensor. -/
theorem perm_ok {k p q : Int} {L D X A : List Int} (ht : tensorB k p q L D X = true) (hA : A.Perm L) : permB k p q L D X A = true ∧ tensorB k p q A (dimsVia L D A) (permDataL k q L D X A) = true ∧ prodL (dimsVia L D A) = prodL D := by
  obtain ⟨hrb, hs0, hxl, hw⟩ := tensorB_inv ht
  rcases sizeI_cases L D with ⟨h, -⟩ | ⟨h1, h2, h3, h4⟩
  · omega
  · have hs := setV_perm hA h2.2.2.2.2
    have hp := PF.of ht hs
    have hpr : prodL (dimsVia L D A) = prodL D := prodL_perm (dims_perm h2.2.2.2.2 h2.2.1 hA)
    refine ⟨by unfold permB; rw [ht, setV_true.2 hs]; rfl, ?_, hpr⟩
    have hax : AxesV A (dimsVia L D A) := ⟨by rw [hA.length_eq]; exact h2.1, by simp [dimsVia], fun x hx => h2.2.2.1 x (hA.subset hx), fun d hd => h2.2.2.2.1 d ((dims_perm h2.2.2.2.2 h2.2.1 hA).subset hd), hA.nodup_iff.2 h2.2.2.2.2⟩
    refine (tensorB_of hrb hax (by rw [hpr]; exact h4) ?_ (permX_within hw _)).1
    rw [hp.len, hpr]
    have hwd := ring_width hrb
    rw [Int.natCast_mul, Int.toNat_of_nonneg (by omega), Int.toNat_of_nonneg (by omega)]
/-- Through one order and another. -/
theorem perm_perm {k p q : Int} {L D X A C : List Int} (ht : tensorB k p q L D X = true) (hA : A.Perm L) (hC : C.Perm L) : dimsVia A (dimsVia L D A) C = dimsVia L D C ∧ permDataL k q A (dimsVia L D A) (permDataL k q L D X A) C = permDataL k q L D X C := by
  obtain ⟨hrb, hs0, hxl, hw⟩ := tensorB_inv ht
  rcases sizeI_cases L D with ⟨h, -⟩ | ⟨h1, h2, h3, h4⟩
  · omega
  · have hp := PF.of ht (setV_perm hA h2.2.2.2.2)
    refine ⟨dims_dims hA hC, ?_⟩
    unfold permDataL
    rw [prodL_perm (dims_perm h2.2.2.2.2 h2.2.1 hA)]
    exact permX_permX h2.2.2.2.2 h2.2.1 hA hC (fun d hd => (h2.2.2.2.1 d hd).1) hp.pD hp.lX
theorem perm_back {k p q : Int} {L D X : List Int} (ht : tensorB k p q L D X = true) : dimsVia L D L = D ∧ permDataL k q L D X L = X := by
  obtain ⟨hrb, hs0, hxl, hw⟩ := tensorB_inv ht
  rcases sizeI_cases L D with ⟨h, -⟩ | ⟨h1, h2, h3, h4⟩
  · omega
  · have hp := PF.of ht (setV_perm (List.Perm.refl L) h2.2.2.2.2)
    exact ⟨dims_self h2.2.2.2.2 h2.2.1, permX_self h2.2.2.2.2 h2.2.1 (fun d hd => (h2.2.2.2.1 d hd).1) hp.pD hp.lX⟩
theorem same_perm {k p q : Int} {L D X A : List Int} (ht : tensorB k p q L D X = true) (hA : A.Perm L) : sortL A = sortL L ∧ dimsVia A (dimsVia L D A) (sortL A) = dimsVia L D (sortL L) ∧ permDataL k q A (dimsVia L D A) (permDataL k q L D X A) (sortL A) = permDataL k q L D X (sortL L) ∧ sameB k p q L D X A (dimsVia L D A) (permDataL k q L D X A) = true := by
  have e := sortL_congr hA
  obtain ⟨h1, h2⟩ := perm_perm ht hA (sortL_perm L)
  refine ⟨e, by rw [e]; exact h1, by rw [e]; exact h2, ?_⟩
  unfold sameB
  rw [ht, (perm_ok ht hA).2.1, e, h1, h2]
  simp
end Go.Proofs.YtgbmacppgaopfabGreat
