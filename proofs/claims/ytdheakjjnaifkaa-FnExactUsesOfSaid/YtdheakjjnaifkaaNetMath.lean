
/- Networks: what their labels, dimensions and uses are, as mathematics. -/
import Derived.Test.YtdheakjjnaifkaaTens
import Derived.Test.YtdheakjjnaifkaaJoinImpl
import Derived.Test.YtdheakjjnaifkaaPairMath
import Derived.Test.YtdheakjjnaifkaaPermuted
import Derived.Test.YtdheakjjnaifkaaSource
namespace Go.Proofs.Ytdheakjjnaifkaa
set_option maxRecDepth 20000
open Go.RowKit

/-- The dimension of a label in some tensors, or 0. -/
def dimT : List TenE → Int → Int
  | [], _ => 0
  | t :: r, x => if x ∈ t.1 then dimI t.1 t.2.1 x else dimT r x
theorem dimT_none {ts : List TenE} {x : Int} (h : ∀ t ∈ ts, x ∉ t.1) : dimT ts x = 0 := by
  induction ts with
  | nil => rfl
  | cons t r ih =>
    show (if x ∈ t.1 then _ else _) = _
    rw [if_neg (h t List.mem_cons_self)]
    exact ih fun s hs => h s (List.mem_cons_of_mem _ hs)
theorem dimT_hit : ∀ {ts : List TenE} {x : Int} {i : Nat} {t : TenE}, ts[i]? = some t → x ∈ t.1 → (∀ s ∈ ts.take i, x ∉ s.1) → dimT ts x = dimI t.1 t.2.1 x := by
  intro ts
  induction ts with
  | nil => intro x i t h; simp at h
  | cons s r ih =>
    intro x i t h hx hb
    cases i with
    | zero =>
      simp at h
      subst h
      show (if x ∈ s.1 then _ else _) = _
      rw [if_pos hx]
    | succ i =>
      simp at h
      show (if x ∈ s.1 then _ else _) = _
      rw [if_neg (hb s (by simp))]
      exact ih h hx fun u hu => hb u (by simp [hu])
/-- Some tensor has the label. -/
def InTs (ts : List TenE) (x : Int) : Prop := ∃ t ∈ ts, x ∈ t.1
theorem dimT_snoc_old {ts : List TenE} {t : TenE} {x : Int} (h : InTs ts x) : dimT (ts ++ [t]) x = dimT ts x := by
  induction ts with
  | nil => obtain ⟨_, h, _⟩ := h; simp at h
  | cons s r ih =>
    show (if x ∈ s.1 then _ else _) = (if x ∈ s.1 then _ else _)
    by_cases hx : x ∈ s.1
    · rw [if_pos hx, if_pos hx]
    · rw [if_neg hx, if_neg hx]
      refine ih ?_
      obtain ⟨u, hu, hxu⟩ := h
      rcases List.mem_cons.1 hu with rfl | hu
      · exact absurd hxu hx
      · exact ⟨u, hu, hxu⟩
theorem dimT_snoc_new {ts : List TenE} {t : TenE} {x : Int} (h : ¬ InTs ts x) : dimT (ts ++ [t]) x = if x ∈ t.1 then dimI t.1 t.2.1 x else 0 := by
  induction ts with
  | nil => rfl
  | cons s r ih =>
    show (if x ∈ s.1 then _ else _) = _
    rw [if_neg fun hx => h ⟨s, List.mem_cons_self, hx⟩]
    exact ih fun ⟨u, hu, hxu⟩ => h ⟨u, List.mem_cons_of_mem _ hu, hxu⟩
/-- The axes of all the tensors are right. -/
def AxT (ts : List TenE) : Prop := ∀ t ∈ ts, AxesV t.1 t.2.1
theorem dimI_in {L D : List Int} {x : Int} (h : AxesV L D) (hx : x ∈ L) : 1 ≤ dimI L D x ∧ dimI L D x ≤ 8 := by
  have h1 := List.idxOf_lt_length_iff.2 hx
  have h2 := h.2.1
  unfold dimI
  rw [List.getD_eq_getElem?_getD, List.getElem?_eq_getElem (by omega)]
  exact h.2.2.2.1 _ (List.getElem_mem _)
theorem dimT_in {ts : List TenE} {x : Int} (h : AxT ts) (hx : InTs ts x) : 1 ≤ dimT ts x ∧ dimT ts x ≤ 8 := by
  induction ts with
  | nil => obtain ⟨_, h, _⟩ := hx; simp at h
  | cons s r ih =>
    have hr : AxT r := fun t ht => h t (List.mem_cons_of_mem _ ht)
    show 1 ≤ (if x ∈ s.1 then _ else _) ∧ (if x ∈ s.1 then _ else _) ≤ 8
    by_cases hs : x ∈ s.1
    · rw [if_pos hs]; exact dimI_in (h s List.mem_cons_self) hs
    · rw [if_neg hs]
      refine ih hr ?_
      obtain ⟨u, hu, hxu⟩ := hx
      rcases List.mem_cons.1 hu with rfl | hu
      · exact absurd hxu hs
      · exact ⟨u, hu, hxu⟩
theorem not_inTs {ts : List TenE} {x : Int} (h : ¬ InTs ts x) : dimT ts x = 0 := dimT_none fun t ht hx => h ⟨t, ht, hx⟩
theorem dimT_pos {ts : List TenE} {x : Int} (h : AxT ts) : 0 < dimT ts x ↔ InTs ts x := by
  refine ⟨fun hp => ?_, fun hx => by have := dimT_in h hx; omega⟩
  by_cases hx : InTs ts x
  · exact hx
  · rw [not_inTs hx] at hp; omega
theorem dimT_range {ts : List TenE} {x : Int} (h : AxT ts) : 0 ≤ dimT ts x ∧ dimT ts x ≤ 8 := by
  by_cases hx : InTs ts x
  · have := dimT_in h hx; omega
  · rw [not_inTs hx]; omega
theorem inTs_range {ts : List TenE} {x : Int} (h : AxT ts) (hx : InTs ts x) : 0 ≤ x ∧ x ≤ 99 := by
  obtain ⟨t, ht, hxt⟩ := hx
  exact (h t ht).2.2.1 x hxt
theorem inTs_snoc {ts : List TenE} {t : TenE} {x : Int} : InTs (ts ++ [t]) x ↔ InTs ts x ∨ x ∈ t.1 := by
  unfold InTs
  constructor
  · rintro ⟨u, hu, hx⟩
    rcases List.mem_append.1 hu with hu | hu
    · exact .inl ⟨u, hu, hx⟩
    · simp at hu; subst hu; exact .inr hx
  · rintro (⟨u, hu, hx⟩ | hx)
    · exact ⟨u, by simp [hu], hx⟩
    · exact ⟨t, by simp, hx⟩

/-- The first j labels of a tensor have the dimensions that the tensors ahead of it give them. -/
def AgreeTo (ts : List TenE) (t : TenE) (j : Nat) : Prop := ∀ c x, c < j → t.1[c]? = some x → 0 < dimT ts x → dimT ts x = t.2.1.getD c 0
/-- Valid tensors whose common labels have one dimension each. -/
def NetV (k p q : Int) (ts : List TenE) : Prop := ∀ i t, ts[i]? = some t → tensorB k p q t.1 t.2.1 t.2.2 = true ∧ AgreeTo (ts.take i) t t.1.length
theorem NetV.take {k p q : Int} {ts : List TenE} (h : NetV k p q ts) (j : Nat) : NetV k p q (ts.take j) := fun i t ht => by
  have h1 := (List.getElem?_eq_some_iff.1 ht).1
  rw [List.length_take] at h1
  rw [List.getElem?_take_of_lt (by omega)] at ht
  rw [List.take_take, Nat.min_eq_left (by omega)]
  exact h i t ht
theorem netV_snoc {k p q : Int} {ts : List TenE} {t : TenE} (h : NetV k p q ts) (ht : tensorB k p q t.1 t.2.1 t.2.2 = true) (ha : AgreeTo ts t t.1.length) : NetV k p q (ts ++ [t]) := fun i u hu => by
  by_cases hi : i < ts.length
  · rw [List.getElem?_append_left hi] at hu
    rw [List.take_append_of_le_length (by omega)]
    exact h i u hu
  · rw [List.getElem?_append_right (by omega)] at hu
    have h0 : i - ts.length = 0 := by
      have := (List.getElem?_eq_some_iff.1 hu).1
      simp at this; omega
    rw [h0] at hu
    simp at hu
    subst hu
    obtain rfl : i = ts.length := by omega
    rw [List.take_append_of_le_length (Nat.le_refl _), List.take_length]
    exact ⟨ht, ha⟩
theorem NetV.ten {k p q : Int} {ts : List TenE} (h : NetV k p q ts) {t : TenE} (ht : t ∈ ts) : tensorB k p q t.1 t.2.1 t.2.2 = true := by
  obtain ⟨i, hi⟩ := List.getElem?_of_mem ht
  exact (h i t hi).1
theorem NetV.ax {k p q : Int} {ts : List TenE} (h : NetV k p q ts) : AxT ts := fun _ ht => (tensorB_axes (h.ten ht)).1
theorem dimI_at {L D : List Int} {c : Nat} {x : Int} (hn : L.Nodup) (h : L[c]? = some x) : dimI L D x = D.getD c 0 := by
  unfold dimI
  rw [idxOf_at hn h]
theorem agree_all {ts : List TenE} {t : TenE} (hn : t.1.Nodup) (h : AgreeTo ts t t.1.length) {x : Int} (hx : x ∈ t.1) (hp : 0 < dimT ts x) : dimT ts x = dimI t.1 t.2.1 x := by
  obtain ⟨c, hc⟩ := List.getElem?_of_mem hx
  rw [dimI_at hn hc]
  exact h c x (List.getElem?_eq_some_iff.1 hc).1 hc hp
/-- In valid tensors each has the common dimension at each of its labels. -/
theorem NetV.dim {k p q : Int} : ∀ {ts : List TenE}, NetV k p q ts → ∀ {t : TenE} {x : Int}, t ∈ ts → x ∈ t.1 → dimT ts x = dimI t.1 t.2.1 x := by
  intro ts h t x ht hx
  obtain ⟨i, hi⟩ := List.getElem?_of_mem ht
  have hlt := (List.getElem?_eq_some_iff.1 hi).1
  have hax := h.ax
  by_cases hb : InTs (ts.take i) x
  · have h1 := (dimT_pos (h.take i).ax).2 hb
    have h2 := agree_all (h.ax t ht).2.2.2.2 (h i t hi).2 hx h1
    rw [← h2]
    have key : ∀ r : List TenE, ∀ s : List TenE, InTs s x → dimT (s ++ r) x = dimT s x := by
      intro r
      induction r with
      | nil => intro s _; rw [List.append_nil]
      | cons u r ih =>
        intro s hs
        rw [show s ++ u :: r = (s ++ [u]) ++ r by simp, ih _ (inTs_snoc.2 (.inl hs)), dimT_snoc_old hs]
    conv => lhs; rw [← List.take_append_drop i ts]
    exact key _ _ hb
  · exact dimT_hit hi hx fun s hs hxs => hb ⟨s, hs, hxs⟩

/-- The labels in the order in which the tensors name them first. -/
def joinT (ts : List TenE) : List Int := ts.foldl (fun J t => joinL J t.1) []
theorem joinT_snoc (ts : List TenE) (t : TenE) : joinT (ts ++ [t]) = joinL (joinT ts) t.1 := by simp [joinT]
theorem snoc_ind {α : Type} {P : List α → Prop} (h0 : P []) (hs : ∀ l a, P l → P (l ++ [a])) (l : List α) : P l := by
  have h : ∀ n : Nat, n ≤ l.length → P (l.take n) := by
    intro n
    induction n with
    | zero => intro _; simpa using h0
    | succ n ih =>
      intro hn
      rw [List.take_add_one, List.getElem?_eq_getElem (by omega)]
      exact hs _ _ (ih (by omega))
  simpa using h l.length (Nat.le_refl _)
theorem mem_joinT {ts : List TenE} {n : Int} : n ∈ joinT ts ↔ InTs ts n := by
  induction ts using snoc_ind with
  | h0 => simp [joinT, InTs]
  | hs l t ih => rw [joinT_snoc, mem_joinL, ih, inTs_snoc]
theorem nodup_joinT {ts : List TenE} (h : AxT ts) : (joinT ts).Nodup := by
  induction ts using snoc_ind with
  | h0 => simp [joinT]
  | hs l t ih =>
    rw [joinT_snoc]
    exact nodup_joinL (ih fun u hu => h u (by simp [hu])) (h t (by simp)).2.2.2.2
theorem joinT_len {ts : List TenE} (h : AxT ts) : (joinT ts).length ≤ 100 := nodup_100 (nodup_joinT h) fun _ hx => inTs_range h (mem_joinT.1 hx)
/-- The labels of some tensors, ascending. -/
def labT (ts : List TenE) : List Int := ((List.range 100).map fun n : Nat => (n : Int)).filter fun n => decide (0 < dimT ts n)
theorem mem_labT {ts : List TenE} {n : Int} (h : AxT ts) : n ∈ labT ts ↔ InTs ts n := by
  unfold labT
  simp only [List.mem_filter, List.mem_map, List.mem_range, decide_eq_true_eq]
  rw [dimT_pos h]
  refine ⟨fun hx => hx.2, fun hx => ⟨⟨n.toNat, ?_⟩, hx⟩⟩
  have := inTs_range h hx
  omega
theorem labT_asc (ts : List TenE) : (labT ts).Pairwise (· < ·) := by
  unfold labT
  refine List.Pairwise.filter _ ?_
  rw [List.pairwise_map]
  exact List.pairwise_lt_range.imp fun h => by omega
theorem labT_nodup (ts : List TenE) : (labT ts).Nodup := (labT_asc ts).imp fun h => by omega
theorem labT_len (ts : List TenE) : (labT ts).length ≤ 100 := by
  unfold labT
  exact Nat.le_trans (List.length_filter_le _ _) (by simp)
/-- Whatever ascends and has the labels of the tensors is the list of their labels. -/
theorem labT_is {ts : List TenE} {l : List Int} (h : AxT ts) (hs : l.Pairwise (· ≤ ·)) (hp : l.Perm (joinT ts)) : l = labT ts := by
  have h1 : (labT ts).Perm (joinT ts) := (List.perm_ext_iff_of_nodup (labT_nodup ts) (nodup_joinT h)).2 fun n => by rw [mem_labT h, mem_joinT]
  exact List.Perm.eq_of_pairwise (le := fun a b : Int => a ≤ b) (fun a b _ _ h1 h2 => by omega) hs ((labT_asc ts).imp fun h => by omega) (hp.trans h1.symm)
end Go.Proofs.Ytdheakjjnaifkaa
