
/- The contraction of two tensors: what is summed up, and where. -/
import Derived.Test.YtfdjlahaiogabaaJoinMath
import Derived.Test.YtfdjlahaiogabaaPermSpec
import Derived.Test.YtfdjlahaiogabaaPow2
namespace Go.Proofs.Ytfdjlahaiogabaa
set_option maxRecDepth 20000
open Go.RowKit

/-- The labels of L, with the dimensions D, are some of those of J. -/
structure SubAx (L D J JD : List Int) : Prop where
  nd : L.Nodup
  len : L.length = D.length
  sub : ∀ n ∈ L, n ∈ J
  dim : ∀ i n, L[i]? = some n → D.getD i 0 = JD.getD (J.idxOf n) 0
theorem SubAx.left {L D L' D' : List Int} (h : L.Nodup) (hl : L.length = D.length) : SubAx L D (joinL L L') (joinD L D L' D') :=
  ⟨h, hl, join_sub_left, fun i n hi => by
    have hm := List.mem_of_getElem? hi
    have hlt := (List.getElem?_eq_some_iff.1 hi).1
    unfold joinL joinD
    rw [List.idxOf_append, if_pos hm, idxOf_at h hi, List.getD_eq_getElem?_getD, List.getD_eq_getElem?_getD, List.getElem?_append_left (by omega)]⟩
theorem SubAx.right {L D L' D' : List Int} (hl : L.length = D.length) (h' : L'.Nodup) (hl' : L'.length = D'.length) (hf : FitV L D L' D') : SubAx L' D' (joinL L L') (joinD L D L' D') :=
  ⟨h', hl', join_sub_right, fun i n hi => by
    have hm := List.mem_of_getElem? hi
    have hlt := (List.getElem?_eq_some_iff.1 hi).1
    unfold joinL joinD
    by_cases hL : n ∈ L
    · have h1 := hf i n hlt hi hL
      have h2 : L.idxOf n < L.length := List.idxOf_lt_length_iff.2 hL
      rw [List.idxOf_append, if_pos hL, ← h1, List.getD_eq_getElem?_getD, List.getD_eq_getElem?_getD, List.getElem?_append_left (by omega)]
    · have hr : n ∈ restL L L' := by unfold restL; simpa using ⟨hm, hL⟩
      have h2 := at_idxOf hr
      rw [List.idxOf_append, if_neg hL, List.getD_eq_getElem?_getD (l := D ++ _), List.getElem?_append_right (by omega), hl, Nat.add_sub_cancel]
      unfold dimsVia
      rw [List.getElem?_map, h2]
      show _ = D'.getD (L'.idxOf n) 0
      rw [idxOf_at h' hi]⟩
theorem SubAx.keep {J JD : List Int} (keep : List Int) (h : J.Nodup) : SubAx (keepL J keep) (keepD J JD keep) J JD :=
  ⟨keep_nodup h, by unfold keepD dimsVia; simp, keep_sub, fun i n hi => by
    unfold keepD dimsVia
    rw [getD_at (show ((keepL J keep).map fun n => JD.getD (J.idxOf n) 0)[i]? = some (JD.getD (J.idxOf n) 0) by rw [List.getElem?_map, hi]; rfl)]⟩
theorem SubAx.inx {L D J JD ix : List Int} (h : SubAx L D J JD) (hl : J.length = JD.length) (hi : InIx JD ix) : InIx D (viaL L J ix) := by
  refine ⟨by unfold viaL; rw [List.length_map]; exact h.len, fun i hlt => ?_⟩
  have hlt' : i < L.length := by rw [h.len]; exact hlt
  have hm : L[i]? = some L[i] := List.getElem?_eq_getElem hlt'
  have e : (viaL L J ix).getD i 0 = ix.getD (J.idxOf L[i]) 0 := getD_at (by unfold viaL; rw [List.getElem?_map, hm]; rfl)
  have h1 : J.idxOf L[i] < J.length := List.idxOf_lt_length_iff.2 (h.sub _ (List.getElem_mem _))
  rw [e, h.dim i _ hm]
  exact hi.2 _ (by omega)
/-- The offset of an index of the join in a tensor. -/
def offJ (L D J JD : List Int) (n : Nat) : Nat := (offI D (viaL L J (idxL JD (n : Int)))).toNat
theorem SubAx.off {L D J JD : List Int} (h : SubAx L D J JD) (hl : J.length = JD.length) (hD : ∀ d ∈ D, 1 ≤ d) (hJ : ∀ d ∈ JD, 1 ≤ d) (hn : J.Nodup) (n : Nat) : (offJ L D J JD n : Int) = dotP (idxL JD (n : Int)) (stepL L D J) J.length ∧ (offJ L D J JD n : Int) < prodL D := by
  have h1 := h.inx hl (idxL_in hJ (n : Int))
  have h2 := offP_range hD h1 D.length (Nat.le_refl _)
  rw [← offI_is, List.take_of_length_le (Nat.le_refl _)] at h2
  unfold offJ
  rw [dot_off h.nd h.len hn h.sub]
  omega
/-- Partial sums of an offset are small. -/
theorem dot_small {ix st : List Int} (h1 : ∀ i, 0 ≤ ix.getD i 0 ∧ ix.getD i 0 ≤ 7) (h2 : ∀ i, 0 ≤ st.getD i 0 ∧ st.getD i 0 ≤ 4096) (j : Nat) : 0 ≤ dotP ix st j ∧ dotP ix st j ≤ 28672 * j := by
  induction j with
  | zero => rw [dotP_zero]; omega
  | succ j ih =>
    have e := Int.mul_le_mul (h1 j).2 (h2 j).2 (h2 j).1 (by omega)
    have e0 := Int.mul_nonneg (h1 j).1 (h2 j).1
    rw [dotP_succ]
    omega
theorem idxL_small {D : List Int} (hD : ∀ d ∈ D, 1 ≤ d ∧ d ≤ 8) (n : Int) (i : Nat) : 0 ≤ (idxL D n).getD i 0 ∧ (idxL D n).getD i 0 ≤ 7 := by
  by_cases hi : i < D.length
  · have h := (idxL_in (fun d hd => (hD d hd).1) n).2 i hi
    have h2 : D.getD i 0 ≤ 8 := by
      rw [getD_at (List.getElem?_eq_getElem hi)]
      exact (hD _ (List.getElem_mem _)).2
    omega
  · rw [List.getD_eq_getElem?_getD, List.getElem?_eq_none (by rw [idxL_len]; omega)]
    simp
theorem stepL_small {L D J : List Int} (hD : ∀ d ∈ D, 1 ≤ d) (hP : prodL D ≤ 4096) (i : Nat) : 0 ≤ (stepL L D J).getD i 0 ∧ (stepL L D J).getD i 0 ≤ 4096 := by
  by_cases hi : i < J.length
  · rw [getD_at (show (stepL L D J)[i]? = some (if J[i] ∈ L then prodL (D.drop (L.idxOf J[i] + 1)) else 0) by unfold stepL; rw [List.getElem?_map, List.getElem?_eq_getElem hi]; rfl)]
    split
    · have h1 := drop_pos hD (L.idxOf J[i] + 1)
      have h2 := prodL_drop_le hD (L.idxOf J[i] + 1)
      omega
    · omega
  · rw [List.getD_eq_getElem?_getD, List.getElem?_eq_none (by rw [stepL_len]; omega)]
    simp

/-- The element o of the sum over the first n indices. -/
def accE (k p q : Int) (zf : Nat → Nat) (tf : Nat → List Int) (n o : Nat) : List Int := (List.range n).foldl (fun s m => if zf m = o then plusL k p s (tf m) else s) (zeroL k p q)
theorem accE_zero (k p q : Int) (zf : Nat → Nat) (tf : Nat → List Int) (o : Nat) : accE k p q zf tf 0 o = zeroL k p q := rfl
theorem accE_succ (k p q : Int) (zf : Nat → Nat) (tf : Nat → List Int) (n o : Nat) : accE k p q zf tf (n + 1) o = if zf n = o then plusL k p (accE k p q zf tf n o) (tf n) else accE k p q zf tf n o := by
  unfold accE
  rw [List.range_succ, List.foldl_append]
  rfl
theorem accE_elem {k p q : Int} {zf : Nat → Nat} {tf : Nat → List Int} {N : Nat} (hr : ringB k p q = true) (ht : ∀ m, m < N → ElemV k p q (tf m)) : ∀ n, n ≤ N → ∀ o, ElemV k p q (accE k p q zf tf n o) := by
  intro n
  induction n with
  | zero => intro _ o; exact zeroL_elem hr
  | succ n ih =>
    intro hn o
    rw [accE_succ]
    split
    · exact plusL_elem hr (ih (by omega) o) (ht n (by omega))
    · exact ih (by omega) o
def accL (k p q : Int) (zf : Nat → Nat) (tf : Nat → List Int) (M n : Nat) : List Int := gatherL (accE k p q zf tf n) M
theorem acc_get {k p q : Int} {zf : Nat → Nat} {tf : Nat → List Int} {M N n o wd : Nat} (hr : ringB k p q = true) (hw : widthI k q = (wd : Int)) (ht : ∀ m, m < N → ElemV k p q (tf m)) (hn : n ≤ N) (ho : o < M) : getL wd (accL k p q zf tf M n) o = accE k p q zf tf n o :=
  gather_get (fun j _ => by have h := (accE_elem (zf := zf) hr ht n hn j).1; omega) ho
theorem acc_len {k p q : Int} {zf : Nat → Nat} {tf : Nat → List Int} {M N n wd : Nat} (hr : ringB k p q = true) (hw : widthI k q = (wd : Int)) (ht : ∀ m, m < N → ElemV k p q (tf m)) (hn : n ≤ N) : (accL k p q zf tf M n).length = M * wd :=
  gather_len M (fun j _ => by have h := (accE_elem (zf := zf) hr ht n hn j).1; omega)
/-- The next product is added to its element. -/
theorem acc_put {k p q : Int} {zf : Nat → Nat} {tf : Nat → List Int} {M N n wd : Nat} (hr : ringB k p q = true) (hw : widthI k q = (wd : Int)) (ht : ∀ m, m < N → ElemV k p q (tf m)) (hn : n < N) (hz : zf n < M) : putL (accL k p q zf tf M n) (zf n * wd) (plusL k p (accE k p q zf tf n (zf n)) (tf n)) = accL k p q zf tf M (n + 1) := by
  have he := fun j => accE_elem (zf := zf) hr ht n (by omega) j
  have hv := (plusL_elem hr (he (zf n)) (ht n hn)).1
  unfold accL
  rw [gather_put (wd := wd) (fun i _ => by have h := (he i).1; omega) (by omega) hz]
  refine gather_congr fun i _ => ?_
  rw [accE_succ]
  by_cases e : i = zf n
  · subst e; rw [if_pos rfl]
  · rw [if_neg e, if_neg (fun h => e h.symm)]

/-- The product at an index of the join. -/
def termJ (k p : Int) (wd : Nat) (L D X L' D' X' J JD : List Int) (n : Nat) : List Int := timesL k p (getL wd X (offJ L D J JD n)) (getL wd X' (offJ L' D' J JD n))
/-- The data of the contraction. -/
def pairL (k p q : Int) (L D X L' D' X' keep : List Int) : List Int :=
  accL k p q (offJ (keepL (joinL L L') keep) (keepD (joinL L L') (joinD L D L' D') keep) (joinL L L') (joinD L D L' D')) (termJ k p (widthI k q).toNat L D X L' D' X' (joinL L L') (joinD L D L' D')) (prodL (keepD (joinL L L') (joinD L D L' D') keep)).toNat (prodL (joinD L D L' D')).toNat
theorem termJ_elem {k p q : Int} {wd N N' : Nat} {L D X L' D' X' J JD : List Int} (hr : ringB k p q = true) (hw : widthI k q = (wd : Int)) (hX : X.length = N * wd) (hX' : X'.length = N' * wd) (wX : Within (topI k p q) X) (wX' : Within (topI k p q) X') {n : Nat} (h1 : offJ L D J JD n < N) (h2 : offJ L' D' J JD n < N') : ElemV k p q (termJ k p wd L D X L' D' X' J JD n) :=
  timesL_elem hr (getL_elem hw hX wX h1) (getL_elem hw hX' wX' h2)
end Go.Proofs.Ytfdjlahaiogabaa
