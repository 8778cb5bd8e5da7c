
/- The join of two tensors' axes; what is kept of it; where its elements are; sums that are gathered. -/
import Derived.Test.YtgbmacppgaopfabGreatTensorOk
namespace Go.Proofs.YtgbmacppgaopfabGreat
set_option maxRecDepth 20000
open Go.RowKit

/-- The labels of the second that the first has not. -/
def restL (L L' : List Int) : List Int := L'.filter fun n => decide (n ∉ L)
def joinL (L L' : List Int) : List Int := L ++ restL L L'
def joinD (L D L' D' : List Int) : List Int := D ++ dimsVia L' D' (restL L L')
/-- The first i labels of the second have the dimensions that the first gives them. -/
def FitTo (L D L' D' : List Int) (i : Nat) : Prop := ∀ j n, j < i → L'[j]? = some n → n ∈ L → D.getD (L.idxOf n) 0 = D'.getD j 0
def FitV (L D L' D' : List Int) : Prop := FitTo L D L' D' L'.length
open Classical in
noncomputable def fitV (L D L' D' : List Int) : Bool := decide (FitV L D L' D')
open Classical in
theorem fitV_true {L D L' D' : List Int} : fitV L D L' D' = true ↔ FitV L D L' D' := decide_eq_true_iff
open Classical in
theorem fitV_false {L D L' D' : List Int} (h : ¬ FitV L D L' D') : fitV L D L' D' = false := decide_eq_false h
theorem rest_new {L L' : List Int} {i : Nat} {n : Int} (h : L'[i]? = some n) (hn : n ∉ L) : restL L (L'.take (i + 1)) = restL L (L'.take i) ++ [n] := by
  unfold restL
  rw [List.take_add_one, h, Option.toList_some, List.filter_append]
  simp [hn]
theorem rest_old {L L' : List Int} {i : Nat} {n : Int} (h : L'[i]? = some n) (hn : n ∈ L) : restL L (L'.take (i + 1)) = restL L (L'.take i) := by
  unfold restL
  rw [List.take_add_one, h, Option.toList_some, List.filter_append]
  simp [hn]
theorem rest_sub {L L' : List Int} {n : Int} (h : n ∈ restL L L') : n ∈ L' ∧ n ∉ L := by
  unfold restL at h
  simpa using h
theorem join_nodup {L L' : List Int} (h : L.Nodup) (h' : L'.Nodup) : (joinL L L').Nodup := by
  unfold joinL
  refine List.nodup_append.2 ⟨h, h'.filter _, fun a ha b hb => ?_⟩
  intro e
  subst e
  exact (rest_sub hb).2 ha
theorem dimsVia_in {L D labels : List Int} (hl : L.length = D.length) (hs : ∀ n ∈ labels, n ∈ L) (hD : ∀ d ∈ D, 1 ≤ d ∧ d ≤ 8) : ∀ d ∈ dimsVia L D labels, 1 ≤ d ∧ d ≤ 8 := fun d hd => by
  unfold dimsVia at hd
  obtain ⟨n, hn, rfl⟩ := List.mem_map.1 hd
  have h1 : L.idxOf n < D.length := by rw [← hl]; exact List.idxOf_lt_length_iff.2 (hs n hn)
  rw [getD_at (List.getElem?_eq_getElem h1)]
  exact hD _ (List.getElem_mem _)
theorem joinD_in {L D L' D' : List Int} (hl' : L'.length = D'.length) (hD : ∀ d ∈ D, 1 ≤ d ∧ d ≤ 8) (hD' : ∀ d ∈ D', 1 ≤ d ∧ d ≤ 8) : ∀ d ∈ joinD L D L' D', 1 ≤ d ∧ d ≤ 8 := fun d hd => by
  rcases List.mem_append.1 hd with h | h
  · exact hD d h
  · exact dimsVia_in hl' (fun n hn => (rest_sub hn).1) hD' d h
theorem join_sub_left {L L' : List Int} : ∀ n ∈ L, n ∈ joinL L L' := fun _ hn => List.mem_append.2 (.inl hn)
theorem join_sub_right {L L' : List Int} : ∀ n ∈ L', n ∈ joinL L L' := fun n hn => by
  by_cases h : n ∈ L
  · exact List.mem_append.2 (.inl h)
  · exact List.mem_append.2 (.inr (by unfold restL; simpa using ⟨hn, h⟩))
theorem FitTo.old {L D L' D' : List Int} {i : Nat} {n : Int} (h : FitTo L D L' D' i) (hi : L'[i]? = some n) (he : n ∈ L → D.getD (L.idxOf n) 0 = D'.getD i 0) : FitTo L D L' D' (i + 1) := fun j m hj hm hmL => by
  by_cases e : j = i
  · subst e
    rw [hi] at hm
    injection hm with hm
    subst hm
    exact he hmL
  · exact h j m (by omega) hm hmL

/-- By how much an offset in a tensor grows with each of these labels. -/
def stepL (L D J : List Int) : List Int := J.map fun n => if n ∈ L then prodL (D.drop (L.idxOf n + 1)) else 0
/-- The labels that are kept. -/
def keepL (J keep : List Int) : List Int := J.filter fun n => decide (n ∈ keep)
def keepD (J JD keep : List Int) : List Int := dimsVia J JD (keepL J keep)
theorem keep_yes {J keep : List Int} {i : Nat} {n : Int} (h : J[i]? = some n) (hn : n ∈ keep) : keepL (J.take (i + 1)) keep = keepL (J.take i) keep ++ [n] := by
  unfold keepL
  rw [List.take_add_one, h, Option.toList_some, List.filter_append]
  simp [hn]
theorem keep_no {J keep : List Int} {i : Nat} {n : Int} (h : J[i]? = some n) (hn : n ∉ keep) : keepL (J.take (i + 1)) keep = keepL (J.take i) keep := by
  unfold keepL
  rw [List.take_add_one, h, Option.toList_some, List.filter_append]
  simp [hn]
theorem keep_sub {J keep : List Int} : ∀ n ∈ keepL J keep, n ∈ J := fun _ hn => (List.mem_filter.1 hn).1
theorem keep_nodup {J keep : List Int} (h : J.Nodup) : (keepL J keep).Nodup := h.filter _
/-- The sum of the products of the first j members. -/
def dotP (ix st : List Int) (j : Nat) : Int := isum ((List.range j).map fun i => ix.getD i 0 * st.getD i 0)
theorem isum_zero {l : List Int} (h : ∀ x ∈ l, x = 0) : isum l = 0 := by
  induction l with
  | nil => rfl
  | cons a r ih =>
    have h1 := h a (by simp)
    have h2 := ih (fun x hx => h x (by simp [hx]))
    show a + isum r = 0
    omega
theorem map_by_labels {J : List Int} (hJ : J.Nodup) (f : Int → Int → Int) (ix : List Int) (g : Int → Int) : (List.range J.length).map (fun i => f (ix.getD i 0) ((J.map g).getD i 0)) = J.map fun n => f (ix.getD (J.idxOf n) 0) (g n) := by
  apply List.ext_getElem?
  intro i
  by_cases hi : i < J.length
  · have hm : J[i]? = some J[i] := List.getElem?_eq_getElem hi
    rw [List.getElem?_map, List.getElem?_map, List.getElem?_range (by simpa using hi), hm]
    show some (f (ix.getD i 0) ((J.map g).getD i 0)) = some (f (ix.getD (J.idxOf J[i]) 0) (g J[i]))
    rw [idxOf_at hJ hm, getD_at (show (J.map g)[i]? = some (g J[i]) by rw [List.getElem?_map, hm]; rfl)]
  · rw [List.getElem?_eq_none (by simpa using hi), List.getElem?_eq_none (by simpa using hi)]
/-- An offset that is summed up label by label. -/
theorem dot_off {L D J ix : List Int} (hL : L.Nodup) (hl : L.length = D.length) (hJ : J.Nodup) (hs : ∀ n ∈ L, n ∈ J) : dotP ix (stepL L D J) J.length = offI D (viaL L J ix) := by
  have e1 : dotP ix (stepL L D J) J.length = isum (J.map fun n => ix.getD (J.idxOf n) 0 * (if n ∈ L then prodL (D.drop (L.idxOf n + 1)) else 0)) := by
    unfold dotP stepL
    rw [map_by_labels hJ (fun a b => a * b) ix]
  have hp : J.Perm (L ++ J.filter fun n => decide (n ∉ L)) := by
    apply (List.perm_ext_iff_of_nodup hJ (List.nodup_append.2 ⟨hL, hJ.filter _, fun a ha b hb e => by subst e; simp at hb; exact hb.2 ha⟩)).2
    intro n
    by_cases h : n ∈ L
    · simp [h, hs n h]
    · simp [h]
  rw [e1, isum_perm (hp.map _), List.map_append, isum_append, isum_zero (l := (J.filter fun n => decide (n ∉ L)).map _) (by
    intro x hx
    obtain ⟨n, hn, rfl⟩ := List.mem_map.1 hx
    have h2 : n ∉ L := by simpa using (List.mem_filter.1 hn).2
    rw [if_neg h2, Int.mul_zero]), Int.add_zero, offI_dot]
  congr 1
  apply List.ext_getElem?
  intro i
  by_cases hi : i < L.length
  · have hm : L[i]? = some L[i] := List.getElem?_eq_getElem hi
    rw [List.getElem?_map, List.getElem?_map, List.getElem?_range (by rw [← hl]; exact hi), hm]
    show some (ix.getD (J.idxOf L[i]) 0 * (if L[i] ∈ L then prodL (D.drop (L.idxOf L[i] + 1)) else 0)) = some ((viaL L J ix).getD i 0 * prodL (D.drop (i + 1)))
    rw [if_pos (List.getElem_mem _), idxOf_at hL hm, getD_at (show (viaL L J ix)[i]? = some (ix.getD (J.idxOf L[i]) 0) by unfold viaL; rw [List.getElem?_map, hm]; rfl)]
  · rw [List.getElem?_eq_none (by simpa using hi), List.getElem?_eq_none (by rw [List.length_map, List.length_range, ← hl]; omega)]

theorem gather_split (f : Nat → List Int) (a b : Nat) : gatherL f (a + b) = gatherL f a ++ gatherL (fun i => f (a + i)) b := by
  unfold gatherL
  rw [List.range_add, List.flatMap_append, List.flatMap_map]
/-- One element is written. -/
theorem gather_put {f : Nat → List Int} {wd M z : Nat} {v : List Int} (hf : ∀ i, i < M → (f i).length = wd) (hv : v.length = wd) (hz : z < M) : putL (gatherL f M) (z * wd) v = gatherL (fun i => if i = z then v else f i) M := by
  obtain ⟨c, rfl⟩ : ∃ c, M = z + (1 + c) := ⟨M - z - 1, by omega⟩
  have hl := gather_len (f := f) z (fun i hi => hf i (by omega))
  rw [gather_split, gather_split, gather_split, gather_split]
  have e1 : gatherL (fun i => f (z + i)) 1 = f z := by simp [gatherL]
  have e2 : gatherL (fun i => if z + i = z then v else f (z + i)) 1 = v := by simp [gatherL]
  have e3 : gatherL (fun i => if i = z then v else f i) z = gatherL f z := gather_congr fun i hi => by rw [if_neg (by omega)]
  have e4 : gatherL (fun i => if z + (1 + i) = z then v else f (z + (1 + i))) c = gatherL (fun i => f (z + (1 + i))) c := gather_congr fun i hi => by rw [if_neg (by omega)]
  rw [e1, e2, e3, e4]
  unfold putL
  have h2 := hf z (by omega)
  rw [List.take_append_of_le_length (by omega), List.take_of_length_le (by omega), List.drop_append, hl, List.drop_of_length_le (by omega), List.nil_append, hv, Nat.add_sub_cancel_left, List.drop_append, h2, Nat.sub_self, List.drop_of_length_le (by omega), List.nil_append, List.drop_zero, List.append_assoc]
end Go.Proofs.YtgbmacppgaopfabGreat
namespace Go.Proofs.YtgbmacppgaopfabGreat
set_option maxRecDepth 20000
open Go.RowKit

theorem drop_pos {D : List Int} (hD : ∀ d ∈ D, 1 ≤ d) (j : Nat) : 1 ≤ prodL (D.drop j) := prodL_pos fun d hd => hD d (List.mem_of_mem_drop hd)
/-- Index and offset are inverse. -/
theorem getD_mem {D : List Int} (hD : ∀ d ∈ D, 1 ≤ d) {j : Nat} (h : j < D.length) : 1 ≤ D.getD j 0 := by
  rw [getD_at (List.getElem?_eq_getElem h)]
  exact hD _ (List.getElem_mem _)
theorem offP_idx {D : List Int} (hD : ∀ d ∈ D, 1 ≤ d) {n : Int} (h0 : 0 ≤ n) (h1 : n < prodL D) : ∀ j, j ≤ D.length → offP D (idxL D n) j = n / prodL (D.drop j) := by
  intro j
  induction j with
  | zero => intro _; rw [List.drop_zero, Int.ediv_eq_zero_of_lt h0 h1]; simp [offP]
  | succ j ih =>
    intro hj
    rw [offP_succ, ih (by omega), getD_at (idxL_at D n j (by omega)), ← div_step (by omega) hD, Int.mul_comm]
    exact Int.mul_ediv_add_emod _ _
theorem off_idx {D : List Int} (hD : ∀ d ∈ D, 1 ≤ d) {n : Int} (h0 : 0 ≤ n) (h1 : n < prodL D) : offI D (idxL D n) = n := by
  rw [offI_is, offP_idx hD h0 h1 _ (Nat.le_refl _), List.drop_of_length_le (Nat.le_refl _), prodL_nil, Int.ediv_one]
theorem off_div {D ix : List Int} (hD : ∀ d ∈ D, 1 ≤ d) (hi : InIx D ix) : ∀ k j, j + k = D.length → offI D ix / prodL (D.drop j) = offP D ix j := by
  intro k
  induction k with
  | zero => intro j hj; rw [List.drop_of_length_le (by omega), prodL_nil, Int.ediv_one, offI_is]; congr 1; omega
  | succ k ih =>
    intro j hj
    have hd := getD_mem hD (j := j) (by omega)
    have h2 := hi.2 j (by omega)
    rw [← div_step (by omega) hD, ih (j + 1) (by omega), offP_succ, Int.add_ediv_of_dvd_left (Int.dvd_mul_left _ _), Int.mul_ediv_cancel _ (by omega), Int.ediv_eq_zero_of_lt h2.1 h2.2]
    omega
theorem idx_off {D ix : List Int} (hD : ∀ d ∈ D, 1 ≤ d) (hi : InIx D ix) : idxL D (offI D ix) = ix := by
  apply List.ext_getElem?
  intro j
  by_cases hj : j < D.length
  · have hd := getD_mem hD hj
    have h2 := hi.2 j hj
    have e : ix[j]? = some (ix.getD j 0) := by rw [List.getElem?_eq_getElem (by rw [hi.1]; exact hj), getD_at (List.getElem?_eq_getElem (by rw [hi.1]; exact hj))]
    rw [idxL_at D _ j hj, off_div hD hi (D.length - (j + 1)) (j + 1) (by omega), offP_succ, e, Int.add_emod, Int.mul_emod_left, Int.zero_add, Int.emod_emod, Int.emod_eq_of_lt h2.1 h2.2]
  · rw [List.getElem?_eq_none (by rw [idxL_len]; omega), List.getElem?_eq_none (by rw [hi.1]; omega)]
/-- The other labels. -/
def exL (L : List Int) (b : Int) : List Int := L.filter fun n => decide (n ≠ b)
def exD (L D : List Int) (b : Int) : List Int := dimsVia L D (exL L b)
theorem ex_yes {L : List Int} {b n : Int} {i : Nat} (h : L[i]? = some n) (hn : n ≠ b) : exL (L.take (i + 1)) b = exL (L.take i) b ++ [n] := by
  unfold exL
  rw [List.take_add_one, h, Option.toList_some, List.filter_append]
  simp [hn]
theorem ex_no {L : List Int} {b : Int} {i : Nat} (h : L[i]? = some b) : exL (L.take (i + 1)) b = exL (L.take i) b := by
  unfold exL
  rw [List.take_add_one, h, Option.toList_some, List.filter_append]
  simp
theorem ex_mem {L : List Int} {b n : Int} : n ∈ exL L b ↔ n ∈ L ∧ n ≠ b := by unfold exL; simp
theorem ex_len (L : List Int) (b : Int) : (exL L b).length ≤ L.length := List.length_filter_le _ _
theorem ex_nodup {L : List Int} {b : Int} (h : L.Nodup) : (exL L b).Nodup := h.filter _
theorem exD_len (L D : List Int) (b : Int) : (exD L D b).length = (exL L b).length := by simp [exD, dimsVia]
theorem ex_sub {L D : List Int} {b : Int} (hL : L.Nodup) (hl : L.length = D.length) : (exD L D b).Sublist D := by
  have h2 := (List.filter_sublist (p := fun n => decide (n ≠ b)) (l := L)).map (fun n => D.getD (L.idxOf n) 0)
  have h3 := dims_self hL hl
  unfold dimsVia at h3
  rw [h3] at h2
  exact h2
theorem prodL_subD {A C : List Int} (h : A.Sublist C) (h1 : ∀ d ∈ C, 1 ≤ d) : prodL A ≤ prodL C := by
  induction h with
  | slnil => exact Int.le_refl _
  | cons a hs ih =>
    rename_i l1 l2
    rw [prodL_cons]
    have h2 := ih (fun d hd => h1 d (List.mem_cons_of_mem _ hd))
    have h3 := h1 a (by simp)
    have h4 := prodL_pos (D := l2) (fun d hd => h1 d (List.mem_cons_of_mem _ hd))
    have h5 := Int.mul_le_mul_of_nonneg_right h3 (show 0 ≤ prodL l2 by omega)
    omega
  | cons_cons a hs ih =>
    rw [prodL_cons, prodL_cons]
    have h2 := ih (fun d hd => h1 d (List.mem_cons_of_mem _ hd))
    have h3 := h1 a (by simp)
    exact Int.mul_le_mul_of_nonneg_left h2 (by omega)
end Go.Proofs.YtgbmacppgaopfabGreat
