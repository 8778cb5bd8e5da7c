
/- The contraction of two tensors: what is summed up, and where. -/
import Derived.Test.YtgbmacppgaopfabGreatJoinMath
import Derived.Test.YtgbmacppgaopfabGreatPermSpec
import Derived.Test.YtgbmacppgaopfabGreatPow2
import Derived.Test.YtgbmacppgaopfabGreatTensorOk
import Derived.Deep.RegionHeld3
import Derived.Deep.RegionLaw
import Derived.Deep.AppendLies
import Derived.Test.YtgbmacppgaopfabGreatZero
import Derived.Test.YtgbmacppgaopfabGreatTimesOne
import Derived.Test.YtgbmacppgaopfabGreatPlusSpec
namespace Go.Proofs.YtgbmacppgaopfabGreat
set_option maxRecDepth 20000
open Go.RowKit

/-- The labels of L, with the dimensions D, are some of those of J. -/
structure SubAx (L D J JD : List Int) : Prop where
  nd : L.Nodup
  len : L.length = D.length
  sub : ∀ n ∈ L, n ∈ J
  dim : ∀ i n, L[i]? = some n → D.getD i 0 = JD.getD (J.idxOf n) 0
theorem SubAx.left {L D L' D' : List Int} (h : L.Nodup) (hl : L.length = D.length) : SubAx L D (joinL L L') (joinD L D L' D') :=
  ⟨h, hl, join_sub_left, fun i n hi => by
    have hm := List.mem_of_getElem? hi
    have hlt := (List.getElem?_eq_some_iff.1 hi).1
    unfold joinL joinD
    rw [List.idxOf_append, if_pos hm, idxOf_at h hi, List.getD_eq_getElem?_getD, List.getD_eq_getElem?_getD, List.getElem?_append_left (by omega)]⟩
theorem SubAx.right {L D L' D' : List Int} (hl : L.length = D.length) (h' : L'.Nodup) (hl' : L'.length = D'.length) (hf : FitV L D L' D') : SubAx L' D' (joinL L L') (joinD L D L' D') :=
  ⟨h', hl', join_sub_right, fun i n hi => by
    have hm := List.mem_of_getElem? hi
    have hlt := (List.getElem?_eq_some_iff.1 hi).1
    unfold joinL joinD
    by_cases hL : n ∈ L
    · have h1 := hf i n hlt hi hL
      have h2 : L.idxOf n < L.length := List.idxOf_lt_length_iff.2 hL
      rw [List.idxOf_append, if_pos hL, ← h1, List.getD_eq_getElem?_getD, List.getD_eq_getElem?_getD, List.getElem?_append_left (by omega)]
    · have hr : n ∈ restL L L' := by unfold restL; simpa using ⟨hm, hL⟩
      have h2 := at_idxOf hr
      rw [List.idxOf_append, if_neg hL, List.getD_eq_getElem?_getD (l := D ++ _), List.getElem?_append_right (by omega), hl, Nat.add_sub_cancel]
      unfold dimsVia
      rw [List.getElem?_map, h2]
      show _ = D'.getD (L'.idxOf n) 0
      rw [idxOf_at h' hi]⟩
theorem SubAx.keep {J JD : List Int} (keep : List Int) (h : J.Nodup) : SubAx (keepL J keep) (keepD J JD keep) J JD :=
  ⟨keep_nodup h, by unfold keepD dimsVia; simp, keep_sub, fun i n hi => by
    unfold keepD dimsVia
    rw [getD_at (show ((keepL J keep).map fun n => JD.getD (J.idxOf n) 0)[i]? = some (JD.getD (J.idxOf n) 0) by rw [List.getElem?_map, hi]; rfl)]⟩
theorem SubAx.inx {L D J JD ix : List Int} (h : SubAx L D J JD) (hl : J.length = JD.length) (hi : InIx JD ix) : InIx D (viaL L J ix) := by
  refine ⟨by unfold viaL; rw [List.length_map]; exact h.len, fun i hlt => ?_⟩
  have hlt' : i < L.length := by rw [h.len]; exact hlt
  have hm : L[i]? = some L[i] := List.getElem?_eq_getElem hlt'
  have e : (viaL L J ix).getD i 0 = ix.getD (J.idxOf L[i]) 0 := getD_at (by unfold viaL; rw [List.getElem?_map, hm]; rfl)
  have h1 : J.idxOf L[i] < J.length := List.idxOf_lt_length_iff.2 (h.sub _ (List.getElem_mem _))
  rw [e, h.dim i _ hm]
  exact hi.2 _ (by omega)
/-- The offset of an index of the join in a tensor. -/
def offJ (L D J JD : List Int) (n : Nat) : Nat := (offI D (viaL L J (idxL JD (n : Int)))).toNat
theorem SubAx.off {L D J JD : List Int} (h : SubAx L D J JD) (hl : J.length = JD.length) (hD : ∀ d ∈ D, 1 ≤ d) (hJ : ∀ d ∈ JD, 1 ≤ d) (hn : J.Nodup) (n : Nat) : (offJ L D J JD n : Int) = dotP (idxL JD (n : Int)) (stepL L D J) J.length ∧ (offJ L D J JD n : Int) < prodL D := by
  have h1 := h.inx hl (idxL_in hJ (n : Int))
  have h2 := offP_range hD h1 D.length (Nat.le_refl _)
  rw [← offI_is, List.take_of_length_le (Nat.le_refl _)] at h2
  unfold offJ
  rw [dot_off h.nd h.len hn h.sub]
  omega
/-- The element o of the sum over the first n indices. -/
def accE (k p q : Int) (zf : Nat → Nat) (tf : Nat → List Int) (n o : Nat) : List Int := (List.range n).foldl (fun s m => if zf m = o then plusL k p s (tf m) else s) (zeroL k p q)
theorem accE_succ (k p q : Int) (zf : Nat → Nat) (tf : Nat → List Int) (n o : Nat) : accE k p q zf tf (n + 1) o = if zf n = o then plusL k p (accE k p q zf tf n o) (tf n) else accE k p q zf tf n o := by
  unfold accE
  rw [List.range_succ, List.foldl_append]
  rfl
theorem accE_elem {k p q : Int} {zf : Nat → Nat} {tf : Nat → List Int} {N : Nat} (hr : ringB k p q = true) (ht : ∀ m, m < N → ElemV k p q (tf m)) : ∀ n, n ≤ N → ∀ o, ElemV k p q (accE k p q zf tf n o) := by
  intro n
  induction n with
  | zero => intro _ o; exact zeroL_elem hr
  | succ n ih =>
    intro hn o
    rw [accE_succ]
    split
    · exact plusL_elem hr (ih (by omega) o) (ht n (by omega))
    · exact ih (by omega) o
def accL (k p q : Int) (zf : Nat → Nat) (tf : Nat → List Int) (M n : Nat) : List Int := gatherL (accE k p q zf tf n) M
theorem acc_get {k p q : Int} {zf : Nat → Nat} {tf : Nat → List Int} {M N n o wd : Nat} (hr : ringB k p q = true) (hw : widthI k q = (wd : Int)) (ht : ∀ m, m < N → ElemV k p q (tf m)) (hn : n ≤ N) (ho : o < M) : getL wd (accL k p q zf tf M n) o = accE k p q zf tf n o :=
  gather_get (fun j _ => by have h := (accE_elem (zf := zf) hr ht n hn j).1; omega) ho
theorem acc_len {k p q : Int} {zf : Nat → Nat} {tf : Nat → List Int} {M N n wd : Nat} (hr : ringB k p q = true) (hw : widthI k q = (wd : Int)) (ht : ∀ m, m < N → ElemV k p q (tf m)) (hn : n ≤ N) : (accL k p q zf tf M n).length = M * wd :=
  gather_len M (fun j _ => by have h := (accE_elem (zf := zf) hr ht n hn j).1; omega)
/-- The next product is added to its element. -/
theorem acc_put {k p q : Int} {zf : Nat → Nat} {tf : Nat → List Int} {M N n wd : Nat} (hr : ringB k p q = true) (hw : widthI k q = (wd : Int)) (ht : ∀ m, m < N → ElemV k p q (tf m)) (hn : n < N) (hz : zf n < M) : putL (accL k p q zf tf M n) (zf n * wd) (plusL k p (accE k p q zf tf n (zf n)) (tf n)) = accL k p q zf tf M (n + 1) := by
  have he := fun j => accE_elem (zf := zf) hr ht n (by omega) j
  have hv := (plusL_elem hr (he (zf n)) (ht n hn)).1
  unfold accL
  rw [gather_put (wd := wd) (fun i _ => by have h := (he i).1; omega) (by omega) hz]
  refine gather_congr fun i _ => ?_
  rw [accE_succ]
  by_cases e : i = zf n
  · subst e; rw [if_pos rfl]
  · rw [if_neg e, if_neg (fun h => e h.symm)]

/-- The product at an index of the join. -/
def termJ (k p : Int) (wd : Nat) (L D X L' D' X' J JD : List Int) (n : Nat) : List Int := timesL k p (getL wd X (offJ L D J JD n)) (getL wd X' (offJ L' D' J JD n))
/-- The data of the contraction. -/
def pairL (k p q : Int) (L D X L' D' X' keep : List Int) : List Int :=
  accL k p q (offJ (keepL (joinL L L') keep) (keepD (joinL L L') (joinD L D L' D') keep) (joinL L L') (joinD L D L' D')) (termJ k p (widthI k q).toNat L D X L' D' X' (joinL L L') (joinD L D L' D')) (prodL (keepD (joinL L L') (joinD L D L' D') keep)).toNat (prodL (joinD L D L' D')).toNat
end Go.Proofs.YtgbmacppgaopfabGreat

/- spec.l05Product up to the work of a contraction. -/
namespace Go.Proofs.YtgbmacppgaopfabGreat
set_option maxRecDepth 20000
open Go.RowKit

end Go.Proofs.YtgbmacppgaopfabGreat
namespace Go.Proofs.YtgbmacppgaopfabGreat
set_option maxRecDepth 20000
open Go.RowKit

end Go.Proofs.YtgbmacppgaopfabGreat
namespace Go.Proofs.YtgbmacppgaopfabGreat
set_option maxRecDepth 20000
open Go.RowKit

end Go.Proofs.YtgbmacppgaopfabGreat

/- spec.l08Keep: the labels that are kept, with their dimensions. -/
namespace Go.Proofs.YtgbmacppgaopfabGreat
set_option maxRecDepth 20000
open Go.RowKit

end Go.Proofs.YtgbmacppgaopfabGreat

/- spec.l08Fits, spec.JoinSize. -/
namespace Go.Proofs.YtgbmacppgaopfabGreat
set_option maxRecDepth 20000
open Go.RowKit

/-- The join and what is kept of it are small enough. -/
noncomputable def smallB (L D L' D' keep : List Int) : Bool := decide (prodL (joinD L D L' D') ≤ 65536) && decide (0 ≤ sizeI (keepL (joinL L L') keep) (keepD (joinL L L') (joinD L D L' D') keep))
noncomputable def pfB (L D L' D' keep : List Int) : Bool := fitV L D L' D' && smallB L D L' D' keep
end Go.Proofs.YtgbmacppgaopfabGreat

/- spec.l08Pair: the contraction, index by index. -/
namespace Go.Proofs.YtgbmacppgaopfabGreat
set_option maxRecDepth 20000
open Go.RowKit

/-- What is asked of a tensor that is contracted. -/
structure TenF (k p q : Int) (L D X : List Int) (wd N : Nat) : Prop where
  ax : AxesV L D
  pr : prodL D = (N : Int)
  n1 : 1 ≤ N ∧ N ≤ 4096
  lX : X.length = N * wd
  wX : Within (topI k p q) X
theorem TenF.of {k p q : Int} {L D X : List Int} {wd : Nat} (ht : tensorB k p q L D X = true) (hw : widthI k q = (wd : Int)) : TenF k p q L D X wd (prodL D).toNat := by
  have hp := PF.of ht (setV_perm (List.Perm.refl L) (tensor_axes ht).2.2.2.2)
  refine ⟨tensor_axes ht, hp.pD, hp.n1, ?_, (tensorB_inv ht).2.2.2⟩
  have h := hp.lX
  rw [hw, Int.toNat_natCast] at h
  exact h
theorem TenF.dim {k p q : Int} {L D X : List Int} {wd N : Nat} (h : TenF k p q L D X wd N) : ∀ d ∈ D, 1 ≤ d := fun d hd => (h.ax.2.2.2.1 d hd).1
theorem repL_gather (z : List Int) (M : Nat) : repL z M = gatherL (fun _ => z) M := by
  induction M with
  | zero => rfl
  | succ M ih => rw [repL_succ, ih, gather_succ]
end Go.Proofs.YtgbmacppgaopfabGreat

/- spec.ContractPair, spec.SumLabels. -/
namespace Go.Proofs.YtgbmacppgaopfabGreat
set_option maxRecDepth 20000
open Go.RowKit

noncomputable def pairB (k p q : Int) (L D X L' D' X' keep : List Int) : Bool := tensorB k p q L D X && (tensorB k p q L' D' X' && pfB L D L' D' keep)
theorem width_pos {k p q : Int} (h : ringB k p q = true) : ∃ wd : Nat, widthI k q = (wd : Int) ∧ 1 ≤ wd ∧ wd ≤ 6 := by
  have h1 := ring_width h
  exact ⟨(widthI k q).toNat, by omega, by omega, by omega⟩
end Go.Proofs.YtgbmacppgaopfabGreat
namespace Go.Proofs.YtgbmacppgaopfabGreat
set_option maxRecDepth 20000
open Go.RowKit

end Go.Proofs.YtgbmacppgaopfabGreat
