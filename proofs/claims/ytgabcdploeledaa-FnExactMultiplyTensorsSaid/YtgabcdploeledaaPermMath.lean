
/- Axes in another order: the mathematics. -/
import Derived.Test.YtgabcdploeledaaIndex
namespace Go.Proofs.Ytgabcdploeledaa
set_option maxRecDepth 20000
open Go.RowKit

/-- These are the same labels, in some order. -/
def SetV (xs ys : List Int) : Prop := (∀ i n, ys[i]? = some n → n ∈ xs ∧ n ∉ ys.take i) ∧ xs.length = ys.length
open Classical in
noncomputable def setV (xs ys : List Int) : Bool := decide (SetV xs ys)
open Classical in
theorem setV_true {xs ys : List Int} : setV xs ys = true ↔ SetV xs ys := decide_eq_true_iff
open Classical in
theorem setV_false {xs ys : List Int} (h : ¬ SetV xs ys) : setV xs ys = false := decide_eq_false h
theorem SetV.mem {xs ys : List Int} (h : SetV xs ys) : ∀ n ∈ ys, n ∈ xs := fun n hn => by
  obtain ⟨i, hi⟩ := List.getElem?_of_mem hn
  exact (h.1 i n hi).1
theorem nodup_of_take {ys : List Int} (h : ∀ i n, ys[i]? = some n → n ∉ ys.take i) : ys.Nodup := by
  rw [List.nodup_iff_pairwise_ne, List.pairwise_iff_getElem]
  intro i j hi hj hij e
  refine h j ys[j] (List.getElem?_eq_getElem hj) ?_
  rw [← e]
  exact List.mem_of_getElem? (i := i) (by rw [List.getElem?_take_of_lt hij, List.getElem?_eq_getElem hi])
theorem SetV.nodup {xs ys : List Int} (h : SetV xs ys) : ys.Nodup := nodup_of_take fun i n hi => (h.1 i n hi).2
theorem perm_of_nodup : ∀ {ys xs : List Int}, ys.Nodup → (∀ n ∈ ys, n ∈ xs) → xs.length = ys.length → ys.Perm xs := by
  intro ys
  induction ys with
  | nil => intro xs _ _ h; rw [List.eq_nil_of_length_eq_zero h]
  | cons y ys ih =>
    intro xs hn hm hl
    have hy := hm y (by simp)
    have hp := List.perm_cons_erase hy
    refine List.Perm.trans (List.Perm.cons y (ih (List.nodup_cons.1 hn).2 (fun n h => ?_) ?_)) hp.symm
    · have h1 := hm n (by simp [h])
      have h2 : n ≠ y := fun e => (List.nodup_cons.1 hn).1 (e ▸ h)
      exact (List.mem_erase_of_ne h2).2 h1
    · have := hp.length_eq; simp at this hl; omega
theorem SetV.perm {xs ys : List Int} (h : SetV xs ys) : ys.Perm xs := perm_of_nodup h.nodup h.mem h.2
theorem setV_perm {xs ys : List Int} (h : ys.Perm xs) (hn : xs.Nodup) : SetV xs ys := by
  refine ⟨fun i n hi => ⟨h.subset (List.mem_of_getElem? hi), fun hm => ?_⟩, h.length_eq.symm⟩
  have hnd : ys.Nodup := h.nodup_iff.2 hn
  obtain ⟨j, hj⟩ := List.getElem?_of_mem hm
  have hlt := (List.getElem?_eq_some_iff.1 hj).1
  rw [List.length_take] at hlt
  rw [List.getElem?_take_of_lt (by omega)] at hj
  have hil := (List.getElem?_eq_some_iff.1 hi).1
  have h1 := List.pairwise_iff_getElem.1 (List.nodup_iff_pairwise_ne.1 hnd) j i (by omega) hil (by omega)
  rw [List.getElem?_eq_getElem (by omega)] at hi hj
  injection hi with e1
  injection hj with e2
  exact h1 (e2.trans e1.symm)

/-- The dimensions in the order of the labels. -/
def dimsVia (L D labels : List Int) : List Int := labels.map fun n => D.getD (L.idxOf n) 0
/-- The index in the tensor, of an index in the order of the labels. -/
def viaL (L labels ix : List Int) : List Int := L.map fun n => ix.getD (labels.idxOf n) 0
/-- The places of the labels. -/
def atL (L labels : List Int) : List Int := labels.map fun n => findI L n
/-- The first N elements in the order of the labels. -/
def permX (wd : Nat) (L D X labels : List Int) (N : Nat) : List Int := (List.range N).flatMap fun n : Nat => getL wd X (offI D (viaL L labels (idxL (dimsVia L D labels) (n : Int)))).toNat
theorem permX_succ (wd : Nat) (L D X labels : List Int) (N : Nat) : permX wd L D X labels (N + 1) = permX wd L D X labels N ++ getL wd X (offI D (viaL L labels (idxL (dimsVia L D labels) (N : Int)))).toNat := by
  simp [permX, List.range_succ]
theorem idxOf_at {L : List Int} (hn : L.Nodup) {j : Nat} {x : Int} (h : L[j]? = some x) : L.idxOf x = j := by
  obtain ⟨hj, rfl⟩ := List.getElem?_eq_some_iff.1 h
  exact hn.idxOf_getElem j hj
theorem at_idxOf {L : List Int} {x : Int} (h : x ∈ L) : L[L.idxOf x]? = some x := by
  have hlt := List.idxOf_lt_length_iff.2 h
  rw [List.getElem?_eq_getElem hlt]
  congr 1
  exact List.getElem_idxOf hlt
theorem dims_self {L D : List Int} (hn : L.Nodup) (hl : L.length = D.length) : dimsVia L D L = D := by
  apply List.ext_getElem?
  intro j
  unfold dimsVia
  rw [List.getElem?_map]
  by_cases hj : j < L.length
  · rw [List.getElem?_eq_getElem hj]
    show some (D.getD (L.idxOf L[j]) 0) = _
    rw [idxOf_at hn (List.getElem?_eq_getElem hj), List.getElem?_eq_getElem (by omega), getD_at (List.getElem?_eq_getElem (by omega))]
  · rw [List.getElem?_eq_none (by omega), List.getElem?_eq_none (by omega)]; rfl
theorem dims_perm {L D labels : List Int} (hn : L.Nodup) (hl : L.length = D.length) (hp : labels.Perm L) : (dimsVia L D labels).Perm D := by
  have h := hp.map (fun n => D.getD (L.idxOf n) 0)
  have e : L.map (fun n => D.getD (L.idxOf n) 0) = D := dims_self hn hl
  rw [e] at h
  exact h
theorem prodL_perm {A B : List Int} (h : A.Perm B) : prodL A = prodL B := by
  induction h with
  | nil => rfl
  | cons x _ ih => rw [prodL_cons, prodL_cons, ih]
  | swap x y l => rw [prodL_cons, prodL_cons, prodL_cons, prodL_cons, ← Int.mul_assoc, ← Int.mul_assoc, Int.mul_comm y x]
  | trans _ _ ih1 ih2 => exact ih1.trans ih2
/-- A row that has the index's values at the labels' places is the index in the tensor. -/
theorem via_unique {L labels ix row : List Int} (hn : L.Nodup) (hp : labels.Perm L) (hr : row.length = L.length) (h : ∀ i n, labels[i]? = some n → row.getD (L.idxOf n) 0 = ix.getD i 0) : row = viaL L labels ix := by
  have hnl : labels.Nodup := hp.nodup_iff.2 hn
  apply List.ext_getElem?
  intro j
  unfold viaL
  rw [List.getElem?_map]
  by_cases hj : j < L.length
  · obtain ⟨n, hN⟩ : ∃ n, L[j]? = some n := ⟨_, List.getElem?_eq_getElem hj⟩
    have hmem : n ∈ labels := hp.symm.subset (List.mem_of_getElem? hN)
    have h1 := h (labels.idxOf n) n (at_idxOf hmem)
    rw [idxOf_at hn hN] at h1
    rw [hN]
    show _ = some (ix.getD (labels.idxOf n) 0)
    rw [← h1, List.getElem?_eq_getElem (by omega), getD_at (List.getElem?_eq_getElem (by omega))]
  · rw [List.getElem?_eq_none (by omega), List.getElem?_eq_none (by omega)]; rfl
theorem via_in {L D labels ix : List Int} (hn : L.Nodup) (hl : L.length = D.length) (hp : labels.Perm L) (h : InIx (dimsVia L D labels) ix) : InIx D (viaL L labels ix) := by
  have hlen : (dimsVia L D labels).length = labels.length := by simp [dimsVia]
  refine ⟨by simp [viaL, hl], fun j hj => ?_⟩
  obtain ⟨n, hN⟩ : ∃ n, L[j]? = some n := ⟨_, List.getElem?_eq_getElem (by omega)⟩
  have hmem : n ∈ labels := hp.symm.subset (List.mem_of_getElem? hN)
  have hlt := List.idxOf_lt_length_iff.2 hmem
  have h1 := h.2 (labels.idxOf n) (by omega)
  have e1 : (viaL L labels ix).getD j 0 = ix.getD (labels.idxOf n) 0 := getD_at (by unfold viaL; rw [List.getElem?_map, hN]; rfl)
  have e2 : (dimsVia L D labels).getD (labels.idxOf n) 0 = D.getD j 0 := by
    have e3 : (dimsVia L D labels)[labels.idxOf n]? = some (D.getD (L.idxOf n) 0) := by unfold dimsVia; rw [List.getElem?_map, at_idxOf hmem]; rfl
    rw [getD_at e3, idxOf_at hn hN]
  rw [e1, ← e2]
  exact h1
theorem idxL_in {D : List Int} (hD : ∀ d ∈ D, 1 ≤ d) (n : Int) : InIx D (idxL D n) := by
  refine ⟨idxL_len D n, fun i hi => ?_⟩
  rw [getD_at (idxL_at D n i hi)]
  have hd : 1 ≤ D.getD i 0 := by
    rw [getD_at (List.getElem?_eq_getElem hi)]
    exact hD _ (List.getElem_mem _)
  exact ⟨Int.emod_nonneg _ (by omega), Int.emod_lt_of_pos _ (by omega)⟩
theorem permX_len {wd : Nat} {L D X labels : List Int} (hn : L.Nodup) (hl : L.length = D.length) (hp : labels.Perm L) (hD : ∀ d ∈ D, 1 ≤ d) (hX : ∀ o : Nat, (o : Int) < prodL D → o * wd + wd ≤ X.length) (N : Nat) : (permX wd L D X labels N).length = N * wd := by
  have hD' : ∀ d ∈ dimsVia L D labels, 1 ≤ d := fun d hd => hD d ((dims_perm hn hl hp).subset hd)
  induction N with
  | zero => simp [permX]
  | succ N ih =>
    have hi := via_in hn hl hp (idxL_in hD' (N : Int))
    have hr := offP_range hD hi D.length (Nat.le_refl _)
    rw [← offI_is, List.take_of_length_le (Nat.le_refl _)] at hr
    rw [permX_succ, List.length_append, ih, Nat.add_mul, Nat.one_mul]
    congr 1
    unfold getL
    rw [List.length_take, List.length_drop]
    have := hX (offI D (viaL L labels (idxL (dimsVia L D labels) (N : Int)))).toNat (by omega)
    omega
end Go.Proofs.Ytgabcdploeledaa
namespace Go.Proofs.Ytgabcdploeledaa
set_option maxRecDepth 20000
open Go.RowKit

def sortL (l : List Int) : List Int := l.mergeSort (fun a b => decide (a ≤ b))
theorem sortL_perm (l : List Int) : (sortL l).Perm l := List.mergeSort_perm l _
theorem sortL_sorted (l : List Int) : (sortL l).Pairwise (· ≤ ·) := by
  have h := List.pairwise_mergeSort (le := fun a b : Int => decide (a ≤ b)) (fun a b c h1 h2 => by simp at *; omega) (fun a b => by simp; omega) l
  exact h.imp (fun h => by simpa using h)
theorem sorted_unique : ∀ {a b : List Int}, a.Pairwise (· ≤ ·) → b.Pairwise (· ≤ ·) → a.Perm b → a = b := by
  intro a
  induction a with
  | nil => intro b _ _ h; exact (List.nil_perm.1 h).symm
  | cons x a ih =>
    intro b ha hb h
    cases b with
    | nil => exact absurd h.length_eq (by simp)
    | cons y b =>
      have h1 : y ≤ x := by
        have hx : x ∈ y :: b := h.subset (by simp)
        rcases List.mem_cons.1 hx with e | e
        · omega
        · exact (List.pairwise_cons.1 hb).1 x e
      have h2 : x ≤ y := by
        have hy : y ∈ x :: a := h.symm.subset (by simp)
        rcases List.mem_cons.1 hy with e | e
        · omega
        · exact (List.pairwise_cons.1 ha).1 y e
      obtain rfl : x = y := by omega
      rw [ih (List.pairwise_cons.1 ha).2 (List.pairwise_cons.1 hb).2 (List.Perm.cons_inv h)]
theorem sortL_unique {a l : List Int} (h1 : a.Pairwise (· ≤ ·)) (h2 : a.Perm l) : a = sortL l := sorted_unique h1 (sortL_sorted l) (h2.trans (sortL_perm l).symm)
theorem sortL_len (l : List Int) : (sortL l).length = l.length := (sortL_perm l).length_eq
/-- Insertion under way: x stands at place k, and belongs among the first i + 1. -/
def Ins (l : List Int) (i k : Nat) (ys : List Int) : Prop := ∃ A x B C, ys = A ++ x :: (B ++ C) ∧ A.length = k ∧ A.length + B.length = i ∧ (A ++ B).Pairwise (· ≤ ·) ∧ (∀ b ∈ B, x < b) ∧ ys.Perm l
/-- The first i are sorted. -/
def Sorted (l : List Int) (i : Nat) (ys : List Int) : Prop := (ys.take i).Pairwise (· ≤ ·) ∧ ys.Perm l
theorem Sorted.start (l : List Int) : Sorted l 0 l := ⟨by simp, List.Perm.refl _⟩
theorem Sorted.ins {l ys : List Int} {i : Nat} (h : Sorted l i ys) (hi : i < ys.length) : Ins l i i ys := by
  refine ⟨ys.take i, ys[i], [], ys.drop (i + 1), ?_, by rw [List.length_take]; omega, by rw [List.length_take]; simp; omega, by simpa using h.1, by simp, h.2⟩
  rw [List.nil_append, ← List.drop_eq_getElem_cons hi, List.take_append_drop]
theorem Ins.len {l ys : List Int} {i k : Nat} (h : Ins l i k ys) : ys.length = l.length ∧ k ≤ i ∧ i < ys.length := by
  obtain ⟨A, x, B, C, rfl, h1, h2, -, -, h3⟩ := h
  refine ⟨h3.length_eq, by omega, ?_⟩
  simp; omega
theorem Ins.done {l ys : List Int} {i k : Nat} (h : Ins l i k ys) (hk : k = 0 ∨ ∃ y x, ys[k - 1]? = some y ∧ ys[k]? = some x ∧ y ≤ x) : Sorted l (i + 1) ys := by
  obtain ⟨A, x, B, C, rfl, h1, h2, h3, h4, h5⟩ := h
  refine ⟨?_, h5⟩
  have e : (A ++ x :: (B ++ C)).take (i + 1) = A ++ x :: B := by
    rw [List.take_append, List.take_of_length_le (by omega), show i + 1 - A.length = B.length + 1 by omega, List.take_succ_cons, List.take_append_of_le_length (Nat.le_refl _), List.take_of_length_le (Nat.le_refl _)]
  rw [e]
  have hA : ∀ a ∈ A, a ≤ x := by
    rcases hk with rfl | ⟨y, x', hy, hx, hle⟩
    · intro a ha
      rw [List.eq_nil_of_length_eq_zero h1] at ha
      simp at ha
    · intro a ha
      have hpos : 0 < A.length := List.length_pos_of_mem ha
      have e1 : x' = x := by
        rw [List.getElem?_append_right (by omega), show k - A.length = 0 by omega] at hx
        simpa using hx.symm
      rw [List.getElem?_append_left (by omega)] at hy
      rw [e1] at hle
      obtain ⟨j, hj⟩ := List.getElem?_of_mem ha
      have hjl := (List.getElem?_eq_some_iff.1 hj).1
      by_cases ej : j = k - 1
      · subst ej
        rw [hj] at hy
        injection hy with hy
        omega
      · have hp := List.pairwise_iff_getElem.1 (List.pairwise_append.1 h3).1 j (k - 1) hjl (by omega) (by omega)
        rw [List.getElem?_eq_getElem (by omega)] at hj hy
        injection hj with hj
        injection hy with hy
        omega
  rw [List.pairwise_append] at h3 ⊢
  refine ⟨h3.1, List.pairwise_cons.2 ⟨fun b hb => by have := h4 b hb; omega, h3.2.1⟩, fun a ha b hb => ?_⟩
  rcases List.mem_cons.1 hb with rfl | hb
  · exact hA a ha
  · exact h3.2.2 a ha b hb
theorem set_swap (A R : List Int) (x y : Int) (k : Nat) (h : A.length + 1 = k) : ((A ++ y :: x :: R).set k y).set (k - 1) x = A ++ x :: y :: R := by
  subst h
  rw [List.set_append_right _ _ (by omega), show A.length + 1 - A.length = 1 by omega]
  show ((A ++ y :: y :: R).set (A.length + 1 - 1) x) = _
  rw [Nat.add_sub_cancel, List.set_append_right _ _ (Nat.le_refl _), Nat.sub_self]
  rfl
theorem Ins.step {l ys : List Int} {i k : Nat} {x y : Int} (h : Ins l i k ys) (h0 : 0 < k) (hy : ys[k - 1]? = some y) (hx : ys[k]? = some x) (hlt : x < y) : Ins l i (k - 1) ((ys.set k y).set (k - 1) x) := by
  obtain ⟨A, x', B, C, rfl, h1, h2, h3, h4, h5⟩ := h
  have ex : x' = x := by
    rw [List.getElem?_append_right (by omega), show k - A.length = 0 by omega] at hx
    simpa using hx
  subst ex
  obtain ⟨A', z, rfl⟩ : ∃ A' z, A = A' ++ [z] := by
    have hne : A ≠ [] := fun e => by rw [e] at h1; simp at h1; omega
    exact ⟨A.dropLast, A.getLast hne, (List.dropLast_concat_getLast hne).symm⟩
  rw [List.length_append, List.length_singleton] at h1 h2
  have ez : z = y := by
    rw [List.append_assoc, List.getElem?_append_right (by omega), show k - 1 - A'.length = 0 by omega] at hy
    simpa using hy
  subst ez
  have e1 : A' ++ [z] ++ x' :: (B ++ C) = A' ++ z :: x' :: (B ++ C) := by simp
  rw [e1, set_swap A' (B ++ C) x' z k h1]
  rw [e1] at h5
  refine ⟨A', x', z :: B, C, by simp, by omega, by simp; omega, by simpa using h3, fun b hb => ?_, List.Perm.trans (List.Perm.append_left A' (List.Perm.swap _ _ _)) h5⟩
  rcases List.mem_cons.1 hb with rfl | hb
  · exact hlt
  · exact h4 b hb
theorem Sorted.full {l ys : List Int} (h : Sorted l l.length ys) : ys = sortL l := by
  refine sortL_unique ?_ h.2
  have := h.1
  rwa [List.take_of_length_le (by rw [h.2.length_eq]; exact Nat.le_refl _)] at this
end Go.Proofs.Ytgabcdploeledaa
namespace Go.Proofs.Ytgabcdploeledaa
set_option maxRecDepth 20000
open Go.RowKit

/-- A label, a dimension, a stride. -/
abbrev AxE := Int × Int × Int
def isum (l : List Int) : Int := l.foldr (fun a s => a + s) 0
theorem isum_append (a b : List Int) : isum (a ++ b) = isum a + isum b := by
  induction a with
  | nil => simp [isum]
  | cons x a ih => simp only [isum, List.cons_append, List.foldr_cons] at ih ⊢; omega
theorem isum_perm {a b : List Int} (h : a.Perm b) : isum a = isum b := by
  induction h with
  | nil => rfl
  | cons x _ ih => simp only [isum, List.foldr_cons] at ih ⊢; omega
  | swap x y l => simp only [isum, List.foldr_cons]; omega
  | trans _ _ ih1 ih2 => exact ih1.trans ih2
/-- The axes of a tensor. -/
def axesL (L D : List Int) : List AxE := (List.range L.length).map fun i => (L.getD i 0, D.getD i 0, prodL (D.drop (i + 1)))
/-- The axes in another order. -/
def orderA (L D labels : List Int) : List AxE := labels.map fun n => (n, D.getD (L.idxOf n) 0, prodL (D.drop (L.idxOf n + 1)))
def dimsA (AX : List AxE) : List Int := AX.map fun a => a.2.1
/-- One axis more. -/
def longerA (offs : List Int) (a : AxE) : List Int := offs.flatMap fun o => (List.range a.2.1.toNat).map fun v : Nat => o + (v : Int) * a.2.2
/-- Where the elements are. -/
def offsA (AX : List AxE) : List Int := AX.foldl longerA [0]
theorem offsA_snoc (AX : List AxE) (a : AxE) : offsA (AX ++ [a]) = longerA (offsA AX) a := by simp [offsA]
def dotA (AX : List AxE) (ix : List Int) : Int := isum ((AX.zip ix).map fun p => p.2 * p.1.2.2)
theorem dotA_snoc (AX : List AxE) (a : AxE) (ix : List Int) (x : Int) (h : AX.length = ix.length) : dotA (AX ++ [a]) (ix ++ [x]) = dotA AX ix + x * a.2.2 := by
  unfold dotA
  rw [List.zip_append h, List.map_append, isum_append]
  simp [isum]
theorem axesL_len (L D : List Int) : (axesL L D).length = L.length := by simp [axesL]
theorem orderA_len (L D labels : List Int) : (orderA L D labels).length = labels.length := by simp [orderA]
theorem axesL_at {L D : List Int} {i : Nat} {n d : Int} (hn : L[i]? = some n) (hd : D[i]? = some d) : (axesL L D)[i]? = some (n, d, prodL (D.drop (i + 1))) := by
  unfold axesL
  rw [List.getElem?_map, List.getElem?_range (List.getElem?_eq_some_iff.1 hn).1]
  show some (L.getD i 0, D.getD i 0, _) = _
  rw [getD_at hn, getD_at hd]
theorem dims_orderA (L D labels : List Int) : dimsA (orderA L D labels) = dimsVia L D labels := by simp [dimsA, orderA, dimsVia]
theorem range_mul (P d : Nat) : List.range (P * d) = (List.range P).flatMap fun m => (List.range d).map fun v => m * d + v := by
  induction P with
  | zero => simp
  | succ P ih =>
    rw [Nat.add_mul, Nat.one_mul, List.range_add, ih, List.range_succ, List.flatMap_append]
    simp
theorem idxL_snoc (D : List Int) (d : Int) (m v : Int) (h0 : 0 ≤ v) (h1 : v < d) : idxL (D ++ [d]) (m * d + v) = idxL D m ++ [v] := by
  have hq : (m * d + v) / d = m := by
    rw [Int.add_comm, Int.add_mul_ediv_right _ _ (by omega), Int.ediv_eq_zero_of_lt h0 h1, Int.zero_add]
  have hr : (m * d + v) % d = v := by
    rw [Int.add_comm, Int.add_mul_emod_self_right, Int.emod_eq_of_lt h0 h1]
  unfold idxL
  rw [List.length_append, List.length_singleton, List.range_succ, List.map_append]
  congr 1
  · apply List.map_congr_left
    intro i hi
    have hi' : i < D.length := List.mem_range.1 hi
    have e1 : (D ++ [d]).drop (i + 1) = D.drop (i + 1) ++ [d] := List.drop_append_of_le_length (by omega)
    have e2 : (D ++ [d]).getD i 0 = D.getD i 0 := by
      rw [List.getD_eq_getElem?_getD, List.getElem?_append_left hi', ← List.getD_eq_getElem?_getD]
    rw [e1, e2, prodL_snoc, Int.mul_comm (prodL _) d, ← Int.ediv_ediv_of_nonneg (by omega), hq]
  · have e1 : (D ++ [d]).drop (D.length + 1) = [] := List.drop_of_length_le (by simp)
    have e2 : (D ++ [d]).getD D.length 0 = d := by simp [List.getD_eq_getElem?_getD]
    simp only [List.map_cons, List.map_nil]
    rw [e1, e2, show prodL [] = 1 from rfl, Int.ediv_one, hr]
theorem offsA_is : ∀ (k : Nat) (AX : List AxE), AX.length = k → (∀ a ∈ AX, 1 ≤ a.2.1) → offsA AX = (List.range (prodL (dimsA AX)).toNat).map fun n : Nat => dotA AX (idxL (dimsA AX) (n : Int)) := by
  intro k
  induction k with
  | zero =>
    intro AX h _
    rw [List.eq_nil_of_length_eq_zero h]
    rfl
  | succ k ih =>
    intro AX h hd
    rcases List.eq_nil_or_concat AX with rfl | ⟨A, a, rfl⟩
    · simp at h
    simp only [List.concat_eq_append] at h hd ⊢
    have hA : A.length = k := by simp at h; omega
    have hdA : ∀ x ∈ A, 1 ≤ x.2.1 := fun x hx => hd x (by simp [hx])
    have ha : 1 ≤ a.2.1 := hd a (by simp)
    have hdD : ∀ x ∈ dimsA A, 1 ≤ x := fun x hx => by
      obtain ⟨y, hy, rfl⟩ := List.mem_map.1 hx
      exact hdA y hy
    have e0 : dimsA (A ++ [a]) = dimsA A ++ [a.2.1] := by simp [dimsA]
    have hp := prodL_pos hdD
    rw [offsA_snoc, ih A hA hdA, e0, prodL_snoc]
    have e1 : (prodL (dimsA A) * a.2.1).toNat = (prodL (dimsA A)).toNat * a.2.1.toNat := by
      rw [Int.toNat_mul (by omega) (by omega)]
    rw [e1, range_mul]
    unfold longerA
    rw [List.flatMap_map, List.map_flatMap]
    refine congrArg List.flatten (List.map_congr_left ?_)
    intro m _
    rw [List.map_map]
    apply List.map_congr_left
    intro v hv
    have hv' : v < a.2.1.toNat := List.mem_range.1 hv
    have e2 : ((m * a.2.1.toNat + v : Nat) : Int) = (m : Int) * a.2.1 + (v : Int) := by
      rw [Int.natCast_add, Int.natCast_mul, Int.toNat_of_nonneg (by omega)]
    show _ = dotA (A ++ [a]) (idxL (dimsA A ++ [a.2.1]) ((m * a.2.1.toNat + v : Nat) : Int))
    rw [e2, idxL_snoc _ _ _ _ (by omega) (by omega), dotA_snoc _ _ _ _ (by rw [idxL_len]; simp [dimsA])]
/-- The offset is the sum of the steps. -/
theorem offP_dot {D ix : List Int} : ∀ j, j ≤ D.length → offP D ix j * prodL (D.drop j) = isum ((List.range j).map fun i => ix.getD i 0 * prodL (D.drop (i + 1))) := by
  intro j
  induction j with
  | zero => intro _; simp [offP, isum]
  | succ j ih =>
    intro hj
    have h := ih (by omega)
    rw [List.range_succ, List.map_append, isum_append, ← h, offP_succ]
    have e : prodL (D.drop j) = D.getD j 0 * prodL (D.drop (j + 1)) := by
      rw [List.drop_eq_getElem_cons (by omega), prodL_cons, getD_at (List.getElem?_eq_getElem (by omega))]
    rw [e]
    simp only [isum, List.map_cons, List.map_nil, List.foldr_cons, List.foldr_nil]
    grind
theorem offI_dot {D ix : List Int} : offI D ix = isum ((List.range D.length).map fun i => ix.getD i 0 * prodL (D.drop (i + 1))) := by
  have h := offP_dot (ix := ix) D.length (Nat.le_refl _)
  rw [List.drop_of_length_le (Nat.le_refl _), show prodL [] = 1 from rfl, Int.mul_one] at h
  rw [offI_is]; exact h
theorem offI_order {L D labels ix : List Int} (hn : L.Nodup) (hl : L.length = D.length) (hp : labels.Perm L) (hx : ix.length = labels.length) : offI D (viaL L labels ix) = dotA (orderA L D labels) ix := by
  have hnl : labels.Nodup := hp.nodup_iff.2 hn
  rw [offI_dot]
  have e1 : ((List.range D.length).map fun i => (viaL L labels ix).getD i 0 * prodL (D.drop (i + 1))) = L.map fun n => ix.getD (labels.idxOf n) 0 * prodL (D.drop (L.idxOf n + 1)) := by
    apply List.ext_getElem?
    intro j
    rw [List.getElem?_map, List.getElem?_map]
    by_cases hj : j < L.length
    · rw [List.getElem?_range (by omega), List.getElem?_eq_getElem hj]
      have e2 : (viaL L labels ix)[j]? = some (ix.getD (labels.idxOf L[j]) 0) := by unfold viaL; rw [List.getElem?_map, List.getElem?_eq_getElem hj]; rfl
      simp only [Option.map_some]
      rw [getD_at e2, idxOf_at hn (List.getElem?_eq_getElem hj)]
    · rw [List.getElem?_eq_none (by simp; omega), List.getElem?_eq_none (by omega)]; rfl
  have e3 : ((orderA L D labels).zip ix).map (fun p => p.2 * p.1.2.2) = labels.map fun n => ix.getD (labels.idxOf n) 0 * prodL (D.drop (L.idxOf n + 1)) := by
    apply List.ext_getElem?
    intro j
    rw [List.getElem?_map, List.getElem?_map]
    by_cases hj : j < labels.length
    · have h1 : (orderA L D labels)[j]? = some (labels[j], D.getD (L.idxOf labels[j]) 0, prodL (D.drop (L.idxOf labels[j] + 1))) := by unfold orderA; rw [List.getElem?_map, List.getElem?_eq_getElem hj]; rfl
      have h2 : ix[j]? = some ix[j] := List.getElem?_eq_getElem (by omega)
      have h3 : ((orderA L D labels).zip ix)[j]? = some ((labels[j], D.getD (L.idxOf labels[j]) 0, prodL (D.drop (L.idxOf labels[j] + 1))), ix[j]) := List.getElem?_zip_eq_some.2 ⟨h1, h2⟩
      rw [h3, List.getElem?_eq_getElem hj]
      simp only [Option.map_some]
      rw [idxOf_at hnl (List.getElem?_eq_getElem hj), getD_at h2]
    · rw [List.getElem?_eq_none (by simp; omega), List.getElem?_eq_none (by omega)]; rfl
  unfold dotA
  rw [e1, e3]
  exact (isum_perm (hp.map _)).symm
/-- Where the elements are, in the order of the labels. -/
theorem offsA_order {L D labels : List Int} (hn : L.Nodup) (hl : L.length = D.length) (hp : labels.Perm L) (hD : ∀ d ∈ D, 1 ≤ d) : offsA (orderA L D labels) = (List.range (prodL (dimsVia L D labels)).toNat).map fun n : Nat => offI D (viaL L labels (idxL (dimsVia L D labels) (n : Int))) := by
  have hd : ∀ a ∈ orderA L D labels, 1 ≤ a.2.1 := fun a ha => by
    have h1 : a.2.1 ∈ dimsA (orderA L D labels) := List.mem_map_of_mem ha
    rw [dims_orderA] at h1
    exact hD _ ((dims_perm hn hl hp).subset h1)
  rw [offsA_is _ _ rfl hd, dims_orderA]
  apply List.map_congr_left
  intro n _
  rw [offI_order hn hl hp (by rw [idxL_len]; simp [dimsVia])]
/-- The data in the order of the labels. -/
theorem permX_offs {wd : Nat} {L D X labels : List Int} (hn : L.Nodup) (hl : L.length = D.length) (hp : labels.Perm L) (hD : ∀ d ∈ D, 1 ≤ d) : permX wd L D X labels (prodL D).toNat = (offsA (orderA L D labels)).flatMap fun o => getL wd X o.toNat := by
  rw [offsA_order hn hl hp hD, prodL_perm (dims_perm hn hl hp)]
  unfold permX
  rw [List.flatMap_map]
end Go.Proofs.Ytgabcdploeledaa
