
/- The join of two tensors' axes; what is kept of it; where its elements are; sums that are gathered. -/
import Derived.Test.YtdheakjjnaifkaaTensorOk
namespace Go.Proofs.Ytdheakjjnaifkaa
set_option maxRecDepth 20000
open Go.RowKit

/-- The labels of the second that the first has not. -/
def restL (L L' : List Int) : List Int := L'.filter fun n => decide (n ∉ L)
def joinL (L L' : List Int) : List Int := L ++ restL L L'
def joinD (L D L' D' : List Int) : List Int := D ++ dimsVia L' D' (restL L L')
/-- The first i labels of the second have the dimensions that the first gives them. -/
def FitTo (L D L' D' : List Int) (i : Nat) : Prop := ∀ j n, j < i → L'[j]? = some n → n ∈ L → D.getD (L.idxOf n) 0 = D'.getD j 0
def FitV (L D L' D' : List Int) : Prop := FitTo L D L' D' L'.length
open Classical in
noncomputable def fitV (L D L' D' : List Int) : Bool := decide (FitV L D L' D')
open Classical in
theorem fitV_true {L D L' D' : List Int} : fitV L D L' D' = true ↔ FitV L D L' D' := decide_eq_true_iff
open Classical in
theorem fitV_false {L D L' D' : List Int} (h : ¬ FitV L D L' D') : fitV L D L' D' = false := decide_eq_false h
theorem rest_new {L L' : List Int} {i : Nat} {n : Int} (h : L'[i]? = some n) (hn : n ∉ L) : restL L (L'.take (i + 1)) = restL L (L'.take i) ++ [n] := by
  unfold restL
  rw [List.take_add_one, h, Option.toList_some, List.filter_append]
  simp [hn]
theorem rest_old {L L' : List Int} {i : Nat} {n : Int} (h : L'[i]? = some n) (hn : n ∈ L) : restL L (L'.take (i + 1)) = restL L (L'.take i) := by
  unfold restL
  rw [List.take_add_one, h, Option.toList_some, List.filter_append]
  simp [hn]
theorem rest_sub {L L' : List Int} {n : Int} (h : n ∈ restL L L') : n ∈ L' ∧ n ∉ L := by
  unfold restL at h
  simpa using h
theorem join_nodup {L L' : List Int} (h : L.Nodup) (h' : L'.Nodup) : (joinL L L').Nodup := by
  unfold joinL
  refine List.nodup_append.2 ⟨h, h'.filter _, fun a ha b hb => ?_⟩
  intro e
  subst e
  exact (rest_sub hb).2 ha
theorem rest_len (L L' : List Int) : (restL L L').length ≤ L'.length := List.length_filter_le _ _
theorem join_len (L L' : List Int) : (joinL L L').length ≤ L.length + L'.length := by
  have := rest_len L L'
  unfold joinL
  rw [List.length_append]
  omega
theorem joinD_len {L D L' D' : List Int} (h : L.length = D.length) : (joinD L D L' D').length = (joinL L L').length := by
  unfold joinD joinL
  rw [List.length_append, List.length_append, h]
  simp [dimsVia]
theorem dimsVia_in {L D labels : List Int} (hl : L.length = D.length) (hs : ∀ n ∈ labels, n ∈ L) (hD : ∀ d ∈ D, 1 ≤ d ∧ d ≤ 8) : ∀ d ∈ dimsVia L D labels, 1 ≤ d ∧ d ≤ 8 := fun d hd => by
  unfold dimsVia at hd
  obtain ⟨n, hn, rfl⟩ := List.mem_map.1 hd
  have h1 : L.idxOf n < D.length := by rw [← hl]; exact List.idxOf_lt_length_iff.2 (hs n hn)
  rw [getD_at (List.getElem?_eq_getElem h1)]
  exact hD _ (List.getElem_mem _)
theorem joinD_in {L D L' D' : List Int} (hl' : L'.length = D'.length) (hD : ∀ d ∈ D, 1 ≤ d ∧ d ≤ 8) (hD' : ∀ d ∈ D', 1 ≤ d ∧ d ≤ 8) : ∀ d ∈ joinD L D L' D', 1 ≤ d ∧ d ≤ 8 := fun d hd => by
  rcases List.mem_append.1 hd with h | h
  · exact hD d h
  · exact dimsVia_in hl' (fun n hn => (rest_sub hn).1) hD' d h
theorem join_sub_left {L L' : List Int} : ∀ n ∈ L, n ∈ joinL L L' := fun _ hn => List.mem_append.2 (.inl hn)
theorem join_sub_right {L L' : List Int} : ∀ n ∈ L', n ∈ joinL L L' := fun n hn => by
  by_cases h : n ∈ L
  · exact List.mem_append.2 (.inl h)
  · exact List.mem_append.2 (.inr (by unfold restL; simpa using ⟨hn, h⟩))
/-- Where a label of the second is found among those that the join has so far. -/
theorem find_old {L M : List Int} {n : Int} (h : n ∈ L) : findI (L ++ M) n = (L.idxOf n : Int) ∧ L.idxOf n < L.length := by
  have h1 : L.idxOf n < L.length := List.idxOf_lt_length_iff.2 h
  refine ⟨?_, h1⟩
  unfold findI
  rw [if_pos (List.mem_append.2 (.inl h)), List.idxOf_append, if_pos h]
theorem find_new {L L' : List Int} {i : Nat} {n : Int} (hn : L'.Nodup) (h : L'[i]? = some n) (h0 : n ∉ L) : findI (L ++ restL L (L'.take i)) n = -1 := by
  unfold findI
  rw [if_neg]
  intro hm
  rcases List.mem_append.1 hm with h1 | h1
  · exact h0 h1
  · have h2 := (rest_sub h1).1
    obtain ⟨hl, e⟩ := List.getElem?_eq_some_iff.1 h
    obtain ⟨j, hj, e2⟩ := List.mem_iff_getElem.1 h2
    rw [List.length_take] at hj
    rw [List.getElem_take] at e2
    have := (List.getElem_inj (i := j) (j := i) (h₀ := by omega) (h₁ := hl) hn).1 (by rw [e2, e])
    omega
theorem FitTo.old {L D L' D' : List Int} {i : Nat} {n : Int} (h : FitTo L D L' D' i) (hi : L'[i]? = some n) (he : n ∈ L → D.getD (L.idxOf n) 0 = D'.getD i 0) : FitTo L D L' D' (i + 1) := fun j m hj hm hmL => by
  by_cases e : j = i
  · subst e
    rw [hi] at hm
    injection hm with hm
    subst hm
    exact he hmL
  · exact h j m (by omega) hm hmL

/-- By how much an offset in a tensor grows with each of these labels. -/
def stepL (L D J : List Int) : List Int := J.map fun n => if n ∈ L then prodL (D.drop (L.idxOf n + 1)) else 0
def stepTo (L D J : List Int) (i : Nat) : List Int := J.map fun n => if n ∈ L ∧ i ≤ L.idxOf n then prodL (D.drop (L.idxOf n + 1)) else 0
theorem stepL_len (L D J : List Int) : (stepL L D J).length = J.length := by simp [stepL]
theorem stepTo_len (L D J : List Int) (i : Nat) : (stepTo L D J i).length = J.length := by simp [stepTo]
theorem stepTo_none (L D J : List Int) : stepTo L D J L.length = List.replicate J.length 0 := by
  unfold stepTo
  rw [← List.map_const]
  apply List.map_congr_left
  intro n _
  rw [if_neg]
  · rfl
  · rintro ⟨h1, h2⟩
    have := List.idxOf_lt_length_iff.2 h1
    omega
theorem stepTo_all (L D J : List Int) : stepTo L D J 0 = stepL L D J := by
  unfold stepTo stepL
  apply List.map_congr_left
  intro n _
  simp
theorem stepTo_miss {L D J : List Int} {i : Nat} {n : Int} (h : L[i]? = some n) (hn : n ∉ J) : stepTo L D J i = stepTo L D J (i + 1) := by
  unfold stepTo
  apply List.map_congr_left
  intro m hm
  by_cases hmL : m ∈ L
  · have : L.idxOf m ≠ i := fun e => by
      have h1 := at_idxOf hmL
      rw [e, h] at h1
      injection h1 with h1
      subst h1
      exact hn hm
    by_cases h3 : i + 1 ≤ L.idxOf m
    · rw [if_pos ⟨hmL, by omega⟩, if_pos ⟨hmL, h3⟩]
    · rw [if_neg (fun h => h3 (by have := h.2; omega)), if_neg (fun h => h3 h.2)]
  · simp [hmL]
theorem stepTo_hit {L D J : List Int} {i k : Nat} {n : Int} (hL : L.Nodup) (h : L[i]? = some n) (hJ : J.Nodup) (hk : J[k]? = some n) : stepTo L D J i = (stepTo L D J (i + 1)).set k (prodL (D.drop (i + 1))) := by
  apply List.ext_getElem?
  intro j
  by_cases hj : j < J.length
  · have hm : J[j]? = some J[j] := List.getElem?_eq_getElem hj
    have e1 : ∀ c, (stepTo L D J c)[j]? = some (if J[j] ∈ L ∧ c ≤ L.idxOf J[j] then prodL (D.drop (L.idxOf J[j] + 1)) else 0) := fun c => by
      unfold stepTo
      rw [List.getElem?_map, hm]
      rfl
    by_cases e : k = j
    · subst e
      rw [hm] at hk
      injection hk with hk
      rw [List.getElem?_set_self (by rw [stepTo_len]; exact hj), e1 i, hk, idxOf_at hL h, if_pos ⟨List.mem_of_getElem? h, Nat.le_refl _⟩]
    · rw [List.getElem?_set_ne e, e1, e1]
      have hne : J[j] ≠ n := fun e2 => e (by
        obtain ⟨hkl, e3⟩ := List.getElem?_eq_some_iff.1 hk
        exact (List.getElem_inj (h₀ := hkl) (h₁ := hj) hJ).1 (by rw [e3, e2]))
      by_cases hmL : J[j] ∈ L
      · have : L.idxOf J[j] ≠ i := fun e2 => hne (by
          have h1 := at_idxOf hmL
          rw [e2, h] at h1
          injection h1 with h1
          exact h1.symm)
        by_cases h3 : i + 1 ≤ L.idxOf J[j]
        · rw [if_pos ⟨hmL, by omega⟩, if_pos ⟨hmL, h3⟩]
        · rw [if_neg (fun h => h3 (by have := h.2; omega)), if_neg (fun h => h3 h.2)]
      · simp [hmL]
  · rw [List.getElem?_eq_none (by rw [stepTo_len]; omega), List.getElem?_eq_none (by rw [List.length_set, stepTo_len]; omega)]

/-- The labels that are kept. -/
def keepL (J keep : List Int) : List Int := J.filter fun n => decide (n ∈ keep)
def keepD (J JD keep : List Int) : List Int := dimsVia J JD (keepL J keep)
theorem keep_yes {J keep : List Int} {i : Nat} {n : Int} (h : J[i]? = some n) (hn : n ∈ keep) : keepL (J.take (i + 1)) keep = keepL (J.take i) keep ++ [n] := by
  unfold keepL
  rw [List.take_add_one, h, Option.toList_some, List.filter_append]
  simp [hn]
theorem keep_no {J keep : List Int} {i : Nat} {n : Int} (h : J[i]? = some n) (hn : n ∉ keep) : keepL (J.take (i + 1)) keep = keepL (J.take i) keep := by
  unfold keepL
  rw [List.take_add_one, h, Option.toList_some, List.filter_append]
  simp [hn]
theorem keep_len (J keep : List Int) : (keepL J keep).length ≤ J.length := List.length_filter_le _ _
theorem keep_sub {J keep : List Int} : ∀ n ∈ keepL J keep, n ∈ J := fun _ hn => (List.mem_filter.1 hn).1
theorem keep_nodup {J keep : List Int} (h : J.Nodup) : (keepL J keep).Nodup := h.filter _
theorem dimsVia_app (L D A B : List Int) : dimsVia L D (A ++ B) = dimsVia L D A ++ dimsVia L D B := by simp [dimsVia]

/-- The sum of the products of the first j members. -/
def dotP (ix st : List Int) (j : Nat) : Int := isum ((List.range j).map fun i => ix.getD i 0 * st.getD i 0)
theorem dotP_zero (ix st : List Int) : dotP ix st 0 = 0 := rfl
theorem dotP_succ (ix st : List Int) (j : Nat) : dotP ix st (j + 1) = dotP ix st j + ix.getD j 0 * st.getD j 0 := by
  unfold dotP
  rw [List.range_succ, List.map_append, isum_append]
  simp [isum]
theorem isum_zero {l : List Int} (h : ∀ x ∈ l, x = 0) : isum l = 0 := by
  induction l with
  | nil => rfl
  | cons a r ih =>
    have h1 := h a (by simp)
    have h2 := ih (fun x hx => h x (by simp [hx]))
    show a + isum r = 0
    omega
theorem map_by_labels {J : List Int} (hJ : J.Nodup) (f : Int → Int → Int) (ix : List Int) (g : Int → Int) : (List.range J.length).map (fun i => f (ix.getD i 0) ((J.map g).getD i 0)) = J.map fun n => f (ix.getD (J.idxOf n) 0) (g n) := by
  apply List.ext_getElem?
  intro i
  by_cases hi : i < J.length
  · have hm : J[i]? = some J[i] := List.getElem?_eq_getElem hi
    rw [List.getElem?_map, List.getElem?_map, List.getElem?_range (by simpa using hi), hm]
    show some (f (ix.getD i 0) ((J.map g).getD i 0)) = some (f (ix.getD (J.idxOf J[i]) 0) (g J[i]))
    rw [idxOf_at hJ hm, getD_at (show (J.map g)[i]? = some (g J[i]) by rw [List.getElem?_map, hm]; rfl)]
  · rw [List.getElem?_eq_none (by simpa using hi), List.getElem?_eq_none (by simpa using hi)]
/-- An offset that is summed up label by label. -/
theorem dot_off {L D J ix : List Int} (hL : L.Nodup) (hl : L.length = D.length) (hJ : J.Nodup) (hs : ∀ n ∈ L, n ∈ J) : dotP ix (stepL L D J) J.length = offI D (viaL L J ix) := by
  have e1 : dotP ix (stepL L D J) J.length = isum (J.map fun n => ix.getD (J.idxOf n) 0 * (if n ∈ L then prodL (D.drop (L.idxOf n + 1)) else 0)) := by
    unfold dotP stepL
    rw [map_by_labels hJ (fun a b => a * b) ix]
  have hp : J.Perm (L ++ J.filter fun n => decide (n ∉ L)) := by
    apply (List.perm_ext_iff_of_nodup hJ (List.nodup_append.2 ⟨hL, hJ.filter _, fun a ha b hb e => by subst e; simp at hb; exact hb.2 ha⟩)).2
    intro n
    by_cases h : n ∈ L
    · simp [h, hs n h]
    · simp [h]
  rw [e1, isum_perm (hp.map _), List.map_append, isum_append, isum_zero (l := (J.filter fun n => decide (n ∉ L)).map _) (by
    intro x hx
    obtain ⟨n, hn, rfl⟩ := List.mem_map.1 hx
    have h2 : n ∉ L := by simpa using (List.mem_filter.1 hn).2
    rw [if_neg h2, Int.mul_zero]), Int.add_zero, offI_dot]
  congr 1
  apply List.ext_getElem?
  intro i
  by_cases hi : i < L.length
  · have hm : L[i]? = some L[i] := List.getElem?_eq_getElem hi
    rw [List.getElem?_map, List.getElem?_map, List.getElem?_range (by rw [← hl]; exact hi), hm]
    show some (ix.getD (J.idxOf L[i]) 0 * (if L[i] ∈ L then prodL (D.drop (L.idxOf L[i] + 1)) else 0)) = some ((viaL L J ix).getD i 0 * prodL (D.drop (i + 1)))
    rw [if_pos (List.getElem_mem _), idxOf_at hL hm, getD_at (show (viaL L J ix)[i]? = some (ix.getD (J.idxOf L[i]) 0) by unfold viaL; rw [List.getElem?_map, hm]; rfl)]
  · rw [List.getElem?_eq_none (by simpa using hi), List.getElem?_eq_none (by rw [List.length_map, List.length_range, ← hl]; omega)]

theorem gather_split (f : Nat → List Int) (a b : Nat) : gatherL f (a + b) = gatherL f a ++ gatherL (fun i => f (a + i)) b := by
  unfold gatherL
  rw [List.range_add, List.flatMap_append, List.flatMap_map]
/-- One element is written. -/
theorem gather_put {f : Nat → List Int} {wd M z : Nat} {v : List Int} (hf : ∀ i, i < M → (f i).length = wd) (hv : v.length = wd) (hz : z < M) : putL (gatherL f M) (z * wd) v = gatherL (fun i => if i = z then v else f i) M := by
  obtain ⟨c, rfl⟩ : ∃ c, M = z + (1 + c) := ⟨M - z - 1, by omega⟩
  have hl := gather_len (f := f) z (fun i hi => hf i (by omega))
  rw [gather_split, gather_split, gather_split, gather_split]
  have e1 : gatherL (fun i => f (z + i)) 1 = f z := by simp [gatherL]
  have e2 : gatherL (fun i => if z + i = z then v else f (z + i)) 1 = v := by simp [gatherL]
  have e3 : gatherL (fun i => if i = z then v else f i) z = gatherL f z := gather_congr fun i hi => by rw [if_neg (by omega)]
  have e4 : gatherL (fun i => if z + (1 + i) = z then v else f (z + (1 + i))) c = gatherL (fun i => f (z + (1 + i))) c := gather_congr fun i hi => by rw [if_neg (by omega)]
  rw [e1, e2, e3, e4]
  unfold putL
  have h2 := hf z (by omega)
  rw [List.take_append_of_le_length (by omega), List.take_of_length_le (by omega), List.drop_append, hl, List.drop_of_length_le (by omega), List.nil_append, hv, Nat.add_sub_cancel_left, List.drop_append, h2, Nat.sub_self, List.drop_of_length_le (by omega), List.nil_append, List.drop_zero, List.append_assoc]
end Go.Proofs.Ytdheakjjnaifkaa
namespace Go.Proofs.Ytdheakjjnaifkaa
set_option maxRecDepth 20000
open Go.RowKit

/-- The index of n, but behind place i all is zero. -/
def odoL (D : List Int) (n : Int) (i : Nat) : List Int := (List.range D.length).map fun j => if j < i then (n / prodL (D.drop (j + 1))) % D.getD j 0 else 0
theorem odoL_len (D : List Int) (n : Int) (i : Nat) : (odoL D n i).length = D.length := by simp [odoL]
theorem odoL_at (D : List Int) (n : Int) (i j : Nat) (h : j < D.length) : (odoL D n i)[j]? = some (if j < i then (n / prodL (D.drop (j + 1))) % D.getD j 0 else 0) := by simp [odoL, h]
theorem odoL_all (D : List Int) (n : Int) : odoL D n D.length = idxL D n := by
  unfold odoL idxL
  apply List.map_congr_left
  intro j hj
  rw [if_pos (by simpa using hj)]
theorem getD_pos {D : List Int} (hD : ∀ d ∈ D, 1 ≤ d) {j : Nat} (h : j < D.length) : 1 ≤ D.getD j 0 := by
  rw [getD_at (List.getElem?_eq_getElem h)]
  exact hD _ (List.getElem_mem _)
theorem drop_pos {D : List Int} (hD : ∀ d ∈ D, 1 ≤ d) (j : Nat) : 1 ≤ prodL (D.drop j) := prodL_pos fun d hd => hD d (List.mem_of_mem_drop hd)
/-- The products of the places behind divide each other. -/
theorem drop_dvd {D : List Int} (i j : Nat) (h : i ≤ j) : prodL (D.drop j) ∣ prodL (D.drop i) := by
  have e : D.drop i = (D.drop i).take (j - i) ++ D.drop j := by
    conv => lhs; rw [← List.take_append_drop (j - i) (D.drop i)]
    rw [List.drop_drop]
    congr 2
    omega
  rw [e, prodL_app]
  exact Int.dvd_mul_left _ _
/-- All places behind i carry: then n + 1 is a multiple of their product. -/
def CarryV (D : List Int) (n : Int) (i : Nat) : Prop := prodL (D.drop i) ∣ n + 1
theorem carry_start (D : List Int) (n : Int) : CarryV D n D.length := by
  unfold CarryV
  rw [List.drop_of_length_le (Nat.le_refl _), prodL_nil]
  exact Int.one_dvd _
theorem div_before {a p : Int} (hp : 1 ≤ p) (h : p ∣ a + 1) : a / p = (a + 1) / p - 1 := by
  obtain ⟨t, ht⟩ := h
  have e : a = p * t - 1 := by omega
  rw [ht, Int.mul_ediv_cancel_left _ (by omega), e]
  have e2 : p * t - 1 = (p - 1) + p * (t - 1) := by rw [Int.mul_sub]; omega
  rw [e2, Int.add_mul_ediv_left _ _ (by omega), Int.ediv_eq_zero_of_lt (by omega) (by omega)]
  omega
theorem div_same {a p : Int} (hp : 1 ≤ p) (h : ¬ p ∣ a + 1) : (a + 1) / p = a / p := by
  have h1 := Int.mul_ediv_add_emod a p
  have h2 := Int.emod_nonneg a (show p ≠ 0 by omega)
  have h3 := Int.emod_lt_of_pos a (show 0 < p by omega)
  have h4 : a % p ≠ p - 1 := fun e => h ⟨a / p + 1, by rw [Int.mul_add, Int.mul_one]; omega⟩
  have e : a + 1 = (a % p + 1) + p * (a / p) := by omega
  rw [e, Int.add_mul_ediv_left _ _ (by omega), Int.ediv_eq_zero_of_lt (by omega) (by omega), Int.zero_add]
/-- The place carries: it becomes zero, and the one ahead of it is next. -/
theorem carry_step {D : List Int} (hD : ∀ d ∈ D, 1 ≤ d) {n : Int} {i : Nat} (hi : i < D.length) (h : CarryV D n (i + 1)) (he : (n / prodL (D.drop (i + 1))) % D.getD i 0 + 1 = D.getD i 0) : CarryV D n i := by
  have hp := drop_pos hD (i + 1)
  have hd := getD_pos hD hi
  unfold CarryV at h ⊢
  rw [div_before hp h] at he
  obtain ⟨t, ht⟩ := h
  rw [ht, Int.mul_ediv_cancel_left _ (by omega)] at he
  have h5 := Int.mul_ediv_add_emod (t - 1) (D.getD i 0)
  rw [prodL_drop_succ D i hi, ht]
  refine ⟨(t - 1) / D.getD i 0 + 1, ?_⟩
  have e : t = D.getD i 0 * ((t - 1) / D.getD i 0 + 1) := by rw [Int.mul_add, Int.mul_one]; omega
  conv => lhs; rw [e]
  rw [← Int.mul_assoc, Int.mul_comm (prodL _) (D.getD i 0)]
/-- The place does not carry: the next index. -/
theorem odo_next {D : List Int} (hD : ∀ d ∈ D, 1 ≤ d) {n : Int} {i : Nat} (hi : i < D.length) (h : CarryV D n (i + 1)) (hlt : (n / prodL (D.drop (i + 1))) % D.getD i 0 + 1 < D.getD i 0) : (odoL D n (i + 1)).set i ((n / prodL (D.drop (i + 1))) % D.getD i 0 + 1) = idxL D (n + 1) := by
  have hp := drop_pos hD (i + 1)
  have hd := getD_pos hD hi
  have h' : prodL (D.drop (i + 1)) ∣ n + 1 := h
  have hb := div_before hp h'
  apply List.ext_getElem?
  intro j
  by_cases hj : j < D.length
  · rw [idxL_at D _ j hj]
    by_cases e : j = i
    · subst e
      rw [List.getElem?_set_self (by rw [odoL_len]; exact hj), hb]
      have h1 := Int.emod_nonneg ((n + 1) / prodL (D.drop (j + 1)) - 1) (show D.getD j 0 ≠ 0 by omega)
      rw [hb] at hlt
      have h5 := Int.mul_ediv_add_emod ((n + 1) / prodL (D.drop (j + 1)) - 1) (D.getD j 0)
      have e2 : (n + 1) / prodL (D.drop (j + 1)) = (((n + 1) / prodL (D.drop (j + 1)) - 1) % D.getD j 0 + 1) + D.getD j 0 * (((n + 1) / prodL (D.drop (j + 1)) - 1) / D.getD j 0) := by omega
      conv => rhs; rw [e2]
      rw [Int.add_mul_emod_self_left, Int.emod_eq_of_lt (by omega) hlt]
    · rw [List.getElem?_set_ne (fun e2 => e e2.symm), odoL_at D n (i + 1) j hj]
      by_cases hji : j < i
      · rw [if_pos (by omega), div_same (drop_pos hD (j + 1))]
        intro hc
        have h2 : prodL (D.drop i) ∣ n + 1 := Int.dvd_trans (drop_dvd (j + 1) i (by omega)) hc
        rw [prodL_drop_succ D i hi] at h2
        obtain ⟨t, ht⟩ := h2
        rw [hb, ht, Int.mul_comm (D.getD i 0), Int.mul_assoc, Int.mul_ediv_cancel_left _ (by omega)] at hlt
        have e3 : D.getD i 0 * t - 1 = (D.getD i 0 - 1) + D.getD i 0 * (t - 1) := by rw [Int.mul_sub]; omega
        rw [e3, Int.add_mul_emod_self_left, Int.emod_eq_of_lt (by omega) (by omega)] at hlt
        omega
      · rw [if_neg (by omega)]
        congr 1
        have h2 : prodL (D.drop j) ∣ n + 1 := Int.dvd_trans (drop_dvd (i + 1) j (by omega)) h'
        rw [prodL_drop_succ D j hj] at h2
        obtain ⟨t, ht⟩ := h2
        rw [ht, Int.mul_comm (D.getD j 0), Int.mul_assoc, Int.mul_ediv_cancel_left _ (by have := drop_pos hD (j + 1); omega), Int.mul_emod_right]
  · rw [List.getElem?_eq_none (by rw [List.length_set, odoL_len]; omega), List.getElem?_eq_none (by rw [idxL_len]; omega)]
theorem odo_zero {D : List Int} {n : Int} {i : Nat} (hi : i < D.length) (x : Int) : ((odoL D n (i + 1)).set i x).set i 0 = odoL D n i := by
  apply List.ext_getElem?
  intro j
  rw [List.set_set]
  by_cases hj : j < D.length
  · by_cases e : j = i
    · subst e
      rw [List.getElem?_set_self (by rw [odoL_len]; exact hj), odoL_at D n j j hj, if_neg (by omega)]
    · rw [List.getElem?_set_ne (fun e2 => e e2.symm), odoL_at D n (i + 1) j hj, odoL_at D n i j hj]
      by_cases h : j < i
      · rw [if_pos (by omega), if_pos h]
      · rw [if_neg (by omega), if_neg h]
  · rw [List.getElem?_eq_none (by rw [List.length_set, odoL_len]; omega), List.getElem?_eq_none (by rw [odoL_len]; omega)]
/-- All places have carried: behind the last index all is zero again. -/
theorem odo_end {D : List Int} {n : Int} (h : CarryV D n 0) (hD : ∀ d ∈ D, 1 ≤ d) : odoL D n 0 = idxL D (n + 1) := by
  unfold CarryV at h
  apply List.ext_getElem?
  intro j
  by_cases hj : j < D.length
  · rw [odoL_at D n 0 j hj, idxL_at D _ j hj, if_neg (by omega)]
    congr 1
    have h2 : prodL (D.drop j) ∣ n + 1 := Int.dvd_trans (drop_dvd 0 j (by omega)) h
    rw [prodL_drop_succ D j hj] at h2
    obtain ⟨t, ht⟩ := h2
    rw [ht, Int.mul_comm (D.getD j 0), Int.mul_assoc, Int.mul_ediv_cancel_left _ (by have := drop_pos hD (j + 1); omega), Int.mul_emod_right]
  · rw [List.getElem?_eq_none (by rw [odoL_len]; omega), List.getElem?_eq_none (by rw [idxL_len]; omega)]
theorem idxL_zero (D : List Int) (_ : ∀ d ∈ D, 1 ≤ d) : idxL D 0 = List.replicate D.length 0 := by
  unfold idxL
  rw [← List.length_range (n := D.length), ← List.map_const, List.length_range]
  apply List.map_congr_left
  intro j _
  simp
/-- Index and offset are inverse. -/
theorem getD_mem {D : List Int} (hD : ∀ d ∈ D, 1 ≤ d) {j : Nat} (h : j < D.length) : 1 ≤ D.getD j 0 := by
  rw [getD_at (List.getElem?_eq_getElem h)]
  exact hD _ (List.getElem_mem _)
theorem offP_idx {D : List Int} (hD : ∀ d ∈ D, 1 ≤ d) {n : Int} (h0 : 0 ≤ n) (h1 : n < prodL D) : ∀ j, j ≤ D.length → offP D (idxL D n) j = n / prodL (D.drop j) := by
  intro j
  induction j with
  | zero => intro _; rw [List.drop_zero, Int.ediv_eq_zero_of_lt h0 h1]; simp [offP]
  | succ j ih =>
    intro hj
    rw [offP_succ, ih (by omega), getD_at (idxL_at D n j (by omega)), ← div_step (by omega) hD, Int.mul_comm]
    exact Int.mul_ediv_add_emod _ _
theorem off_idx {D : List Int} (hD : ∀ d ∈ D, 1 ≤ d) {n : Int} (h0 : 0 ≤ n) (h1 : n < prodL D) : offI D (idxL D n) = n := by
  rw [offI_is, offP_idx hD h0 h1 _ (Nat.le_refl _), List.drop_of_length_le (Nat.le_refl _), prodL_nil, Int.ediv_one]
theorem off_div {D ix : List Int} (hD : ∀ d ∈ D, 1 ≤ d) (hi : InIx D ix) : ∀ k j, j + k = D.length → offI D ix / prodL (D.drop j) = offP D ix j := by
  intro k
  induction k with
  | zero => intro j hj; rw [List.drop_of_length_le (by omega), prodL_nil, Int.ediv_one, offI_is]; congr 1; omega
  | succ k ih =>
    intro j hj
    have hd := getD_mem hD (j := j) (by omega)
    have h2 := hi.2 j (by omega)
    rw [← div_step (by omega) hD, ih (j + 1) (by omega), offP_succ, Int.add_ediv_of_dvd_left (Int.dvd_mul_left _ _), Int.mul_ediv_cancel _ (by omega), Int.ediv_eq_zero_of_lt h2.1 h2.2]
    omega
theorem idx_off {D ix : List Int} (hD : ∀ d ∈ D, 1 ≤ d) (hi : InIx D ix) : idxL D (offI D ix) = ix := by
  apply List.ext_getElem?
  intro j
  by_cases hj : j < D.length
  · have hd := getD_mem hD hj
    have h2 := hi.2 j hj
    have e : ix[j]? = some (ix.getD j 0) := by rw [List.getElem?_eq_getElem (by rw [hi.1]; exact hj), getD_at (List.getElem?_eq_getElem (by rw [hi.1]; exact hj))]
    rw [idxL_at D _ j hj, off_div hD hi (D.length - (j + 1)) (j + 1) (by omega), offP_succ, e, Int.add_emod, Int.mul_emod_left, Int.zero_add, Int.emod_emod, Int.emod_eq_of_lt h2.1 h2.2]
  · rw [List.getElem?_eq_none (by rw [idxL_len]; omega), List.getElem?_eq_none (by rw [hi.1]; omega)]
/-- The other labels. -/
def exL (L : List Int) (b : Int) : List Int := L.filter fun n => decide (n ≠ b)
def exD (L D : List Int) (b : Int) : List Int := dimsVia L D (exL L b)
theorem ex_yes {L : List Int} {b n : Int} {i : Nat} (h : L[i]? = some n) (hn : n ≠ b) : exL (L.take (i + 1)) b = exL (L.take i) b ++ [n] := by
  unfold exL
  rw [List.take_add_one, h, Option.toList_some, List.filter_append]
  simp [hn]
theorem ex_no {L : List Int} {b : Int} {i : Nat} (h : L[i]? = some b) : exL (L.take (i + 1)) b = exL (L.take i) b := by
  unfold exL
  rw [List.take_add_one, h, Option.toList_some, List.filter_append]
  simp
theorem ex_mem {L : List Int} {b n : Int} : n ∈ exL L b ↔ n ∈ L ∧ n ≠ b := by unfold exL; simp
theorem ex_len (L : List Int) (b : Int) : (exL L b).length ≤ L.length := List.length_filter_le _ _
theorem ex_nodup {L : List Int} {b : Int} (h : L.Nodup) : (exL L b).Nodup := h.filter _
theorem exD_len (L D : List Int) (b : Int) : (exD L D b).length = (exL L b).length := by simp [exD, dimsVia]
theorem exD_step {L D : List Int} {b n d : Int} {i : Nat} (hn : L.Nodup) (h : L[i]? = some n) (hd : D[i]? = some d) (hne : n ≠ b) : dimsVia L D (exL (L.take i) b) ++ [d] = dimsVia L D (exL (L.take (i + 1)) b) := by
  rw [ex_yes h hne, dimsVia_app]
  congr 1
  simp only [dimsVia, List.map_cons, List.map_nil, idxOf_at hn h, getD_at hd]
theorem ex_sub {L D : List Int} {b : Int} (hL : L.Nodup) (hl : L.length = D.length) : (exD L D b).Sublist D := by
  have h2 := (List.filter_sublist (p := fun n => decide (n ≠ b)) (l := L)).map (fun n => D.getD (L.idxOf n) 0)
  have h3 := dims_self hL hl
  unfold dimsVia at h3
  rw [h3] at h2
  exact h2
theorem prodL_subD {A C : List Int} (h : A.Sublist C) (h1 : ∀ d ∈ C, 1 ≤ d) : prodL A ≤ prodL C := by
  induction h with
  | slnil => exact Int.le_refl _
  | cons a hs ih =>
    rename_i l1 l2
    rw [prodL_cons]
    have h2 := ih (fun d hd => h1 d (List.mem_cons_of_mem _ hd))
    have h3 := h1 a (by simp)
    have h4 := prodL_pos (D := l2) (fun d hd => h1 d (List.mem_cons_of_mem _ hd))
    have h5 := Int.mul_le_mul_of_nonneg_right h3 (show 0 ≤ prodL l2 by omega)
    omega
  | cons_cons a hs ih =>
    rw [prodL_cons, prodL_cons]
    have h2 := ih (fun d hd => h1 d (List.mem_cons_of_mem _ hd))
    have h3 := h1 a (by simp)
    exact Int.mul_le_mul_of_nonneg_left h2 (by omega)
end Go.Proofs.Ytdheakjjnaifkaa
