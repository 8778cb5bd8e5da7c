
/- Networks: what their labels, dimensions and uses are, as mathematics. -/
import Derived.Test.YtdheakjjnaifkaaTens
import Derived.Test.YtdheakjjnaifkaaJoinImpl
import Derived.Test.YtdheakjjnaifkaaPairMath
import Derived.Test.YtdheakjjnaifkaaPermuted
import Derived.Test.YtdheakjjnaifkaaSource
import Derived.Test.YtdheakjjnaifkaaTensorOk2
import Derived.Deep.RegionHeld3
namespace Go.Proofs.Ytdheakjjnaifkaa
set_option maxRecDepth 20000
open Go.RowKit

/-- The dimension of a label in some tensors, or 0. -/
def dimT : List TenE → Int → Int
  | [], _ => 0
  | t :: r, x => if x ∈ t.1 then dimI t.1 t.2.1 x else dimT r x
theorem dimT_none {ts : List TenE} {x : Int} (h : ∀ t ∈ ts, x ∉ t.1) : dimT ts x = 0 := by
  induction ts with
  | nil => rfl
  | cons t r ih =>
    show (if x ∈ t.1 then _ else _) = _
    rw [if_neg (h t List.mem_cons_self)]
    exact ih fun s hs => h s (List.mem_cons_of_mem _ hs)
theorem dimT_hit : ∀ {ts : List TenE} {x : Int} {i : Nat} {t : TenE}, ts[i]? = some t → x ∈ t.1 → (∀ s ∈ ts.take i, x ∉ s.1) → dimT ts x = dimI t.1 t.2.1 x := by
  intro ts
  induction ts with
  | nil => intro x i t h; simp at h
  | cons s r ih =>
    intro x i t h hx hb
    cases i with
    | zero =>
      simp at h
      subst h
      show (if x ∈ s.1 then _ else _) = _
      rw [if_pos hx]
    | succ i =>
      simp at h
      show (if x ∈ s.1 then _ else _) = _
      rw [if_neg (hb s (by simp))]
      exact ih h hx fun u hu => hb u (by simp [hu])
/-- Some tensor has the label. -/
def InTs (ts : List TenE) (x : Int) : Prop := ∃ t ∈ ts, x ∈ t.1
theorem dimT_snoc_old {ts : List TenE} {t : TenE} {x : Int} (h : InTs ts x) : dimT (ts ++ [t]) x = dimT ts x := by
  induction ts with
  | nil => obtain ⟨_, h, _⟩ := h; simp at h
  | cons s r ih =>
    show (if x ∈ s.1 then _ else _) = (if x ∈ s.1 then _ else _)
    by_cases hx : x ∈ s.1
    · rw [if_pos hx, if_pos hx]
    · rw [if_neg hx, if_neg hx]
      refine ih ?_
      obtain ⟨u, hu, hxu⟩ := h
      rcases List.mem_cons.1 hu with rfl | hu
      · exact absurd hxu hx
      · exact ⟨u, hu, hxu⟩
theorem dimT_snoc_new {ts : List TenE} {t : TenE} {x : Int} (h : ¬ InTs ts x) : dimT (ts ++ [t]) x = if x ∈ t.1 then dimI t.1 t.2.1 x else 0 := by
  induction ts with
  | nil => rfl
  | cons s r ih =>
    show (if x ∈ s.1 then _ else _) = _
    rw [if_neg fun hx => h ⟨s, List.mem_cons_self, hx⟩]
    exact ih fun ⟨u, hu, hxu⟩ => h ⟨u, List.mem_cons_of_mem _ hu, hxu⟩
/-- The axes of all the tensors are right. -/
def AxT (ts : List TenE) : Prop := ∀ t ∈ ts, AxesV t.1 t.2.1
theorem dimI_in {L D : List Int} {x : Int} (h : AxesV L D) (hx : x ∈ L) : 1 ≤ dimI L D x ∧ dimI L D x ≤ 8 := by
  have h1 := List.idxOf_lt_length_iff.2 hx
  have h2 := h.2.1
  unfold dimI
  rw [List.getD_eq_getElem?_getD, List.getElem?_eq_getElem (by omega)]
  exact h.2.2.2.1 _ (List.getElem_mem _)
theorem dimT_in {ts : List TenE} {x : Int} (h : AxT ts) (hx : InTs ts x) : 1 ≤ dimT ts x ∧ dimT ts x ≤ 8 := by
  induction ts with
  | nil => obtain ⟨_, h, _⟩ := hx; simp at h
  | cons s r ih =>
    have hr : AxT r := fun t ht => h t (List.mem_cons_of_mem _ ht)
    show 1 ≤ (if x ∈ s.1 then _ else _) ∧ (if x ∈ s.1 then _ else _) ≤ 8
    by_cases hs : x ∈ s.1
    · rw [if_pos hs]; exact dimI_in (h s List.mem_cons_self) hs
    · rw [if_neg hs]
      refine ih hr ?_
      obtain ⟨u, hu, hxu⟩ := hx
      rcases List.mem_cons.1 hu with rfl | hu
      · exact absurd hxu hs
      · exact ⟨u, hu, hxu⟩
theorem not_inTs {ts : List TenE} {x : Int} (h : ¬ InTs ts x) : dimT ts x = 0 := dimT_none fun t ht hx => h ⟨t, ht, hx⟩
theorem dimT_pos {ts : List TenE} {x : Int} (h : AxT ts) : 0 < dimT ts x ↔ InTs ts x := by
  refine ⟨fun hp => ?_, fun hx => by have := dimT_in h hx; omega⟩
  by_cases hx : InTs ts x
  · exact hx
  · rw [not_inTs hx] at hp; omega
theorem dimT_range {ts : List TenE} {x : Int} (h : AxT ts) : 0 ≤ dimT ts x ∧ dimT ts x ≤ 8 := by
  by_cases hx : InTs ts x
  · have := dimT_in h hx; omega
  · rw [not_inTs hx]; omega
theorem inTs_range {ts : List TenE} {x : Int} (h : AxT ts) (hx : InTs ts x) : 0 ≤ x ∧ x ≤ 99 := by
  obtain ⟨t, ht, hxt⟩ := hx
  exact (h t ht).2.2.1 x hxt
theorem inTs_snoc {ts : List TenE} {t : TenE} {x : Int} : InTs (ts ++ [t]) x ↔ InTs ts x ∨ x ∈ t.1 := by
  unfold InTs
  constructor
  · rintro ⟨u, hu, hx⟩
    rcases List.mem_append.1 hu with hu | hu
    · exact .inl ⟨u, hu, hx⟩
    · simp at hu; subst hu; exact .inr hx
  · rintro (⟨u, hu, hx⟩ | hx)
    · exact ⟨u, by simp [hu], hx⟩
    · exact ⟨t, by simp, hx⟩

/-- The first j labels of a tensor have the dimensions that the tensors ahead of it give them. -/
def AgreeTo (ts : List TenE) (t : TenE) (j : Nat) : Prop := ∀ c x, c < j → t.1[c]? = some x → 0 < dimT ts x → dimT ts x = t.2.1.getD c 0
/-- Valid tensors whose common labels have one dimension each. -/
def NetV (k p q : Int) (ts : List TenE) : Prop := ∀ i t, ts[i]? = some t → tensorB k p q t.1 t.2.1 t.2.2 = true ∧ AgreeTo (ts.take i) t t.1.length
theorem NetV.take {k p q : Int} {ts : List TenE} (h : NetV k p q ts) (j : Nat) : NetV k p q (ts.take j) := fun i t ht => by
  have h1 := (List.getElem?_eq_some_iff.1 ht).1
  rw [List.length_take] at h1
  rw [List.getElem?_take_of_lt (by omega)] at ht
  rw [List.take_take, Nat.min_eq_left (by omega)]
  exact h i t ht
theorem netV_snoc {k p q : Int} {ts : List TenE} {t : TenE} (h : NetV k p q ts) (ht : tensorB k p q t.1 t.2.1 t.2.2 = true) (ha : AgreeTo ts t t.1.length) : NetV k p q (ts ++ [t]) := fun i u hu => by
  by_cases hi : i < ts.length
  · rw [List.getElem?_append_left hi] at hu
    rw [List.take_append_of_le_length (by omega)]
    exact h i u hu
  · rw [List.getElem?_append_right (by omega)] at hu
    have h0 : i - ts.length = 0 := by
      have := (List.getElem?_eq_some_iff.1 hu).1
      simp at this; omega
    rw [h0] at hu
    simp at hu
    subst hu
    obtain rfl : i = ts.length := by omega
    rw [List.take_append_of_le_length (Nat.le_refl _), List.take_length]
    exact ⟨ht, ha⟩
theorem NetV.ten {k p q : Int} {ts : List TenE} (h : NetV k p q ts) {t : TenE} (ht : t ∈ ts) : tensorB k p q t.1 t.2.1 t.2.2 = true := by
  obtain ⟨i, hi⟩ := List.getElem?_of_mem ht
  exact (h i t hi).1
theorem NetV.ax {k p q : Int} {ts : List TenE} (h : NetV k p q ts) : AxT ts := fun _ ht => (tensorB_axes (h.ten ht)).1
theorem dimI_at {L D : List Int} {c : Nat} {x : Int} (hn : L.Nodup) (h : L[c]? = some x) : dimI L D x = D.getD c 0 := by
  unfold dimI
  rw [idxOf_at hn h]
theorem agree_all {ts : List TenE} {t : TenE} (hn : t.1.Nodup) (h : AgreeTo ts t t.1.length) {x : Int} (hx : x ∈ t.1) (hp : 0 < dimT ts x) : dimT ts x = dimI t.1 t.2.1 x := by
  obtain ⟨c, hc⟩ := List.getElem?_of_mem hx
  rw [dimI_at hn hc]
  exact h c x (List.getElem?_eq_some_iff.1 hc).1 hc hp
/-- In valid tensors each has the common dimension at each of its labels. -/
theorem NetV.dim {k p q : Int} : ∀ {ts : List TenE}, NetV k p q ts → ∀ {t : TenE} {x : Int}, t ∈ ts → x ∈ t.1 → dimT ts x = dimI t.1 t.2.1 x := by
  intro ts h t x ht hx
  obtain ⟨i, hi⟩ := List.getElem?_of_mem ht
  have hlt := (List.getElem?_eq_some_iff.1 hi).1
  have hax := h.ax
  by_cases hb : InTs (ts.take i) x
  · have h1 := (dimT_pos (h.take i).ax).2 hb
    have h2 := agree_all (h.ax t ht).2.2.2.2 (h i t hi).2 hx h1
    rw [← h2]
    have key : ∀ r : List TenE, ∀ s : List TenE, InTs s x → dimT (s ++ r) x = dimT s x := by
      intro r
      induction r with
      | nil => intro s _; rw [List.append_nil]
      | cons u r ih =>
        intro s hs
        rw [show s ++ u :: r = (s ++ [u]) ++ r by simp, ih _ (inTs_snoc.2 (.inl hs)), dimT_snoc_old hs]
    conv => lhs; rw [← List.take_append_drop i ts]
    exact key _ _ hb
  · exact dimT_hit hi hx fun s hs hxs => hb ⟨s, hs, hxs⟩

/-- The labels in the order in which the tensors name them first. -/
def joinT (ts : List TenE) : List Int := ts.foldl (fun J t => joinL J t.1) []
theorem joinT_snoc (ts : List TenE) (t : TenE) : joinT (ts ++ [t]) = joinL (joinT ts) t.1 := by simp [joinT]
theorem snoc_ind {α : Type} {P : List α → Prop} (h0 : P []) (hs : ∀ l a, P l → P (l ++ [a])) (l : List α) : P l := by
  have h : ∀ n : Nat, n ≤ l.length → P (l.take n) := by
    intro n
    induction n with
    | zero => intro _; simpa using h0
    | succ n ih =>
      intro hn
      rw [List.take_add_one, List.getElem?_eq_getElem (by omega)]
      exact hs _ _ (ih (by omega))
  simpa using h l.length (Nat.le_refl _)
theorem mem_joinT {ts : List TenE} {n : Int} : n ∈ joinT ts ↔ InTs ts n := by
  induction ts using snoc_ind with
  | h0 => simp [joinT, InTs]
  | hs l t ih => rw [joinT_snoc, mem_joinL, ih, inTs_snoc]
theorem nodup_joinT {ts : List TenE} (h : AxT ts) : (joinT ts).Nodup := by
  induction ts using snoc_ind with
  | h0 => simp [joinT]
  | hs l t ih =>
    rw [joinT_snoc]
    exact nodup_joinL (ih fun u hu => h u (by simp [hu])) (h t (by simp)).2.2.2.2
theorem joinT_len {ts : List TenE} (h : AxT ts) : (joinT ts).length ≤ 100 := nodup_100 (nodup_joinT h) fun _ hx => inTs_range h (mem_joinT.1 hx)
/-- The labels of some tensors, ascending. -/
def labT (ts : List TenE) : List Int := ((List.range 100).map fun n : Nat => (n : Int)).filter fun n => decide (0 < dimT ts n)
theorem mem_labT {ts : List TenE} {n : Int} (h : AxT ts) : n ∈ labT ts ↔ InTs ts n := by
  unfold labT
  simp only [List.mem_filter, List.mem_map, List.mem_range, decide_eq_true_eq]
  rw [dimT_pos h]
  refine ⟨fun hx => hx.2, fun hx => ⟨⟨n.toNat, ?_⟩, hx⟩⟩
  have := inTs_range h hx
  omega
theorem labT_asc (ts : List TenE) : (labT ts).Pairwise (· < ·) := by
  unfold labT
  refine List.Pairwise.filter _ ?_
  rw [List.pairwise_map]
  exact List.pairwise_lt_range.imp fun h => by omega
theorem labT_nodup (ts : List TenE) : (labT ts).Nodup := (labT_asc ts).imp fun h => by omega
theorem labT_len (ts : List TenE) : (labT ts).length ≤ 100 := by
  unfold labT
  exact Nat.le_trans (List.length_filter_le _ _) (by simp)
/-- Whatever ascends and has the labels of the tensors is the list of their labels. -/
theorem labT_is {ts : List TenE} {l : List Int} (h : AxT ts) (hs : l.Pairwise (· ≤ ·)) (hp : l.Perm (joinT ts)) : l = labT ts := by
  have h1 : (labT ts).Perm (joinT ts) := (List.perm_ext_iff_of_nodup (labT_nodup ts) (nodup_joinT h)).2 fun n => by rw [mem_labT h, mem_joinT]
  exact List.Perm.eq_of_pairwise (le := fun a b : Int => a ≤ b) (fun a b _ _ h1 h2 => by omega) hs ((labT_asc ts).imp fun h => by omega) (hp.trans h1.symm)
end Go.Proofs.Ytdheakjjnaifkaa
namespace Go.Proofs.Ytdheakjjnaifkaa
set_option maxRecDepth 20000
open Go.RowKit

theorem RdTs.take {B m cap : Nat} {w : World} {a : Option Addr} {ts : List TenE} (h : RdTs B w (.slice a m cap) ts) (j : Nat) (hj : j ≤ ts.length) : RdTs B w (.slice a j cap) (ts.take j) := by
  obtain ⟨us, h1, h2, h3⟩ := h
  refine ⟨us.take j, ?_, by rw [List.length_take, List.length_take, h2], fun i u t hu ht => ?_⟩
  · rcases h1 with ⟨rfl, a', c', e⟩ | ⟨b, off, c', e, hb, hc⟩
    · simp at h2
      obtain rfl : j = 0 := by omega
      cases e
      exact .inl ⟨by simp, a, cap, rfl⟩
    · cases e
      by_cases h0 : j = 0
      · subst h0
        exact .inl ⟨by simp, _, _, rfl⟩
      · refine .inr ⟨b, off, cap, by rw [List.length_take, h2, Nat.min_eq_left hj], hb, fun i u hi => ?_⟩
        have hl := (List.getElem?_eq_some_iff.1 hi).1
        rw [List.length_take] at hl
        rw [List.getElem?_take_of_lt (by omega)] at hi
        exact hc i u hi
  · have hl := (List.getElem?_eq_some_iff.1 hu).1
    rw [List.length_take] at hl
    rw [List.getElem?_take_of_lt (by omega)] at hu ht
    exact h3 i u t hu ht
/-- The tensors' lists are no longer than a machine can hold. -/
def LenTs (ts : List TenE) : Prop := ts.length ≤ 1048576 ∧ ∀ t ∈ ts, LenT t.1 t.2.1 t.2.2
theorem LenTs.take {ts : List TenE} (h : LenTs ts) (j : Nat) : LenTs (ts.take j) := ⟨by rw [List.length_take]; have := h.1; omega, fun t ht => h.2 t (List.mem_of_mem_take ht)⟩
theorem findI_hit {L : List Int} {x : Int} (h : x ∈ L) : findI L x = (L.idxOf x : Int) := by unfold findI; rw [if_pos h]
theorem findI_miss {L : List Int} {x : Int} (h : x ∉ L) : findI L x = -1 := by unfold findI; rw [if_neg h]

set_option maxHeartbeats 1600000 in
theorem dim_spec {B : Nat} {v : Value} {ts : List TenE} {x : Int} {w : World} (h : RdTs B w v ts) (hB : B ≤ w.heap.size) (hn : LenTs ts) (hax : AxT ts) :
    Calls Try.prog 46 #[v, .int .i64 x] w fun e w' => e = .returned (.int .i64 (dimT ts x)) ∧ Below w.heap.size w w' := by
  obtain ⟨a, cap, rfl⟩ := h.form
  have HT := Lib.hid h
  have HB := Lib.hid hB
  have HLN := Lib.hid hn
  have HAX := Lib.hid hax
  obtain ⟨n, hnn⟩ : ∃ n, n = ts.length := ⟨_, rfl⟩
  rw [← hnn] at HT ⊢
  have HN := Lib.hid hnn
  obtain ⟨r, hr⟩ : ∃ r, r = dimT ts x := ⟨_, rfl⟩
  rw [← hr]
  have HR := Lib.hid hr
  have hn1 : n ≤ 1048576 := by have := hn.1; omega
  clear h hB hn hax hnn hr
  go_enter Try.func46, Try.ntmps46
  go_wp2
  go_loopw [10] (fun i wr => ∃ j : Nat, j ≤ n ∧ i = .int .i64 j ∧ Hid (∀ s ∈ ts.take j, x ∉ s.1) ∧ Hid (Below w.heap.size w wr)) (fun i _ => n - (intOf i).toNat)
  case atStart => exact ⟨0, by omega, rfl, Lib.hid (fun s hs => by simp at hs), Lib.hid (Below.refl _ _)⟩
  case round =>
    obtain ⟨j, hj, rfl, HM, HW⟩ := hrel
    by_cases hlt : j < n
    · obtain ⟨⟨L, D, X⟩, T1⟩ : ∃ t, Hid (ts[j]? = some t) := ⟨_, List.getElem?_eq_getElem (by rw [← HN.out]; exact hlt)⟩
      obtain ⟨b, off, a1, c1, a2, c2, a3, c3, rfl, -, k0, k1, k2, hT⟩ := (HT.out.below HW.out HB.out).at T1.out
      dsimp only at k0 k1 k2 hT
      have hln := HLN.out.2 _ (List.mem_of_getElem? T1.out)
      have hLD := (HAX.out _ (List.mem_of_getElem? T1.out)).2.1
      dsimp only at hln hLD
      have HF := Lib.hid (find_spec x (hT.l.below ((Below.refl w.heap.size wr).alloc HW.out.size (.cells #[.slice a1 L.length c1, .slice a2 D.length c2, .slice a3 X.length c3] 55)) HB.out) hln.l)
      have HW1 := Lib.hid (HW.out.alloc HW.out.size (.cells #[.slice a1 L.length c1, .slice a2 D.length c2, .slice a3 X.length c3] 55))
      by_cases hx : x ∈ L
      · have hix := List.idxOf_lt_length_iff.2 hx
        rw [findI_hit hx] at HF
        obtain ⟨z, hz⟩ : ∃ z, z = L.idxOf x := ⟨_, rfl⟩
        rw [← hz] at HF hix
        obtain ⟨d, hd⟩ : ∃ d, D[z]? = some d := ⟨_, List.getElem?_eq_getElem (by omega)⟩
        have HRD : Hid (r = d) := Lib.hid (by
          rw [HR.out, dimT_hit T1.out hx HM.out]
          unfold dimI
          rw [← hz, List.getD_eq_getElem?_getD, hd]; rfl)
        obtain ⟨b2, o2, rfl, hb2, e2⟩ := hT.d.cellAt hd
        have hb3 : b2 < wr.heap.size := Nat.lt_of_lt_of_le hb2 (Nat.le_trans HB.out HW.out.size)
        generalize L.length = mL at HF k0 hix HW1 hLD hln ⊢
        generalize D.length = mD at k1 HW1 hLD HF ⊢
        have hzd : z < mD := by omega
        clear hT hx hz hd hln hLD hb2
        go_wp2_with fail
        refine HF.out.mono ?_
        rintro e w1 ⟨rfl, rfl⟩
        go_wp2
        go_ret
        exact ⟨by rw [HRD.out]; rfl, HW1.out⟩
      · rw [findI_miss hx] at HF
        have HM2 : Hid (∀ s ∈ ts.take (j + 1), x ∉ s.1) := Lib.hid (fun s hs => by
          rw [List.take_add_one, T1.out] at hs
          rcases List.mem_append.1 hs with hs | hs
          · exact HM.out s hs
          · simp at hs; subst hs; exact hx)
        clear hT hx hln hLD
        go_wp2_with fail
        refine HF.out.mono ?_
        rintro e w1 ⟨rfl, rfl⟩
        go_wp2
        go_roundw
        case rel => exact ⟨j + 1, by omega, by go_num, HM2, HW1⟩
        case measure => simp [intOf]; omega
    · obtain rfl : j = n := by omega
      have HRD : Hid (r = 0) := Lib.hid (by
        rw [HR.out]
        exact dimT_none fun t ht => HM.out t (by rw [List.take_of_length_le (by rw [← HN.out]; exact Nat.le_refl _)]; exact ht))
      go_wp2
      go_ret
      exact ⟨by rw [HRD.out]; rfl, HW.out⟩

set_option maxHeartbeats 1600000 in
theorem dims_spec {B B' : Nat} {v u : Value} {ts : List TenE} {L : List Int} {w : World} (h : RdTs B w v ts) (hl : Rd B' w u (ints L)) (hB : B ≤ w.heap.size) (hB' : B' ≤ w.heap.size) (hn : LenTs ts) (hax : AxT ts) (hm : L.length ≤ 1048576) :
    Calls Try.prog 48 #[v, u] w (NewRow w (L.map (dimT ts))) := by
  obtain ⟨i0, hi0, hz0, hz1, hz2⟩ := info_parts infoInt
  have J0 := Lib.hid hi0
  have J1 := Lib.hid hz0
  have J2 := Lib.hid hz1
  have J3 := Lib.hid hz2
  have HT := Lib.hid (h.mono hB)
  have HL := Lib.hid (hl.mono hB')
  have HLN := Lib.hid hn
  have HAX := Lib.hid hax
  obtain ⟨a, cap, rfl⟩ := h.form
  obtain ⟨al, cl, rfl, -⟩ := ints_form hl
  obtain ⟨n, hnn⟩ : ∃ n, n = ts.length := ⟨_, rfl⟩
  rw [← hnn] at HT ⊢
  obtain ⟨m, hmm⟩ : ∃ m, m = L.length := ⟨_, rfl⟩
  rw [← hmm] at HL hm ⊢
  have HM := Lib.hid hmm
  have S2 : Hid (Rs w (w.alloc (.cells #[] 3)) [] [(.slice (some ⟨w.heap.size, 0, none⟩) 0 0, (L.map (dimT ts)).take 0)]) := Lib.hid (Rs.start w).lit
  clear hi0 hz0 hz1 hz2 h hl hB hB' hn hax hnn hmm
  go_enter Try.func48, Try.ntmps48
  go_wp2
  go_loopw [5, 11] (fun u i wr => ∃ (j ca : Nat) (ga : Option Addr), j ≤ m ∧ i = .int .i64 j ∧ u = .slice ga j ca ∧ Hid (Rs w wr [] [(.slice ga j ca, (L.map (dimT ts)).take j)])) (fun _ i _ => m - (intOf i).toNat)
  case atStart => exact ⟨0, 0, _, by omega, rfl, rfl, S2⟩
  case round =>
    clear S2
    obtain ⟨j, ca, ga, hj, rfl, rfl, HR⟩ := hrel
    by_cases hlt : j < m
    · obtain ⟨x, X1⟩ : ∃ x, Hid (L[j]? = some x) := ⟨_, List.getElem?_eq_getElem (by rw [← HM.out]; exact hlt)⟩
      obtain ⟨b1, off, rfl, -, e1⟩ := (HL.out.below HR.out.bel (Nat.le_refl _)).cellAt X1.out
      have HD := Lib.hid (dim_spec (x := x) (HT.out.below HR.out.bel (Nat.le_refl _)) HR.out.bel.size HLN.out HAX.out)
      obtain ⟨d, hd⟩ : ∃ d, d = dimT ts x := ⟨_, rfl⟩
      rw [← hd] at HD
      have HDX : Hid ((L.map (dimT ts)).take j ++ [d] = (L.map (dimT ts)).take (j + 1)) := Lib.hid (by rw [List.take_add_one, List.getElem?_map, X1.out, hd]; rfl)
      have HLL : Hid (((L.map (dimT ts)).take j).length = j) := Lib.hid (by rw [List.length_take, List.length_map, ← HM.out]; omega)
      clear hd
      go_wp2_with fail
      refine HD.out.mono ?_
      rintro e w1 ⟨rfl, hb⟩
      have R1 := Lib.hid (HR.out.step hb)
      have A1 := Lib.hid (R1.out.alloc (.cells #[.int .i64 d] 3))
      have O1 := Lib.hid (A1.out.row (List.mem_cons_self) HLL.out : World.ownsRow _ w.heap.size 3 1 (.slice ga j ca) j (ints ((L.map (dimT ts)).take j)))
      clear hb HR e1 HD
      go_wp2_with (at_builtin; go_must (refine wpList_append_lies _ rfl _ _ 25 rfl w.heap.size 3 i0 (.int .i64 0) 1 8 Try.underlying25 J0.out J1.out J2.out J3.out rfl (by decide) _ j (ints ((L.map (dimT ts)).take j)) rfl O1.out ⟨w1.heap.size, 0, none⟩ 1 1 [.int .i64 d] rfl rfl (cell_one_new _ _ _) ?c2 (by decide) ?c3 ?c4 ?c5 _ rfl ?_))
      case c2 => first | rfl | (intro u hu; simp at hu; subst hu; rfl)
      case c3 => unfold maxLen; omega
      case c4 => omega
      case c5 => exact A1.out.bel.size
      intro g1 cap1 w2 hown hgrow hl1 _
      have R2 := Lib.hid (A1.out.app1 HLL.out hown hgrow (by rw [World.size_alloc]; exact hl1))
      rw [HDX.out] at R2
      clear hown hgrow hl1 O1 A1 R1
      go_wp2
      go_roundw
      case rel => exact ⟨j + 1, cap1, _, by omega, by go_num, rfl, R2⟩
      case measure => simp [intOf]; omega
    · obtain rfl : j = m := by omega
      have RES : Hid (NewRow w (L.map (dimT ts)) (.returned (.slice ga j ca)) wr) := Lib.hid ⟨_, rfl, by
        have h1 := HR.out.own1 (v := .slice ga j ca) (xs := (L.map (dimT ts)).take j) (by simp)
        rw [List.take_of_length_le (by rw [List.length_map, ← HM.out]; exact Nat.le_refl _)] at h1
        exact h1, HR.out.bel⟩
      go_wp2
      go_ret
      exact RES.out
/-- The labels that are found below n. -/
def labTo (ts : List TenE) (n : Nat) : List Int := ((List.range n).map fun n : Nat => (n : Int)).filter fun n => decide (0 < dimT ts n)
theorem labTo_yes {ts : List TenE} {n : Nat} (h : 0 < dimT ts n) : labTo ts n ++ [(n : Int)] = labTo ts (n + 1) := by
  unfold labTo
  rw [List.range_succ, List.map_append, List.filter_append]
  simp [h]
theorem labTo_no {ts : List TenE} {n : Nat} (h : ¬ 0 < dimT ts n) : labTo ts n = labTo ts (n + 1) := by
  unfold labTo
  rw [List.range_succ, List.map_append, List.filter_append]
  simp; omega
set_option maxHeartbeats 1600000 in
theorem labels_spec {B : Nat} {v : Value} {ts : List TenE} {w : World} (h : RdTs B w v ts) (hB : B ≤ w.heap.size) (hn : LenTs ts) (hax : AxT ts) :
    Calls Try.prog 54 #[v] w (NewRow w (labT ts)) := by
  obtain ⟨i0, hi0, hz0, hz1, hz2⟩ := info_parts infoInt
  have J0 := Lib.hid hi0
  have J1 := Lib.hid hz0
  have J2 := Lib.hid hz1
  have J3 := Lib.hid hz2
  have HT := Lib.hid (h.mono hB)
  have HLN := Lib.hid hn
  have HAX := Lib.hid hax
  obtain ⟨a, cap, rfl⟩ := h.form
  obtain ⟨n, hnn⟩ : ∃ n, n = ts.length := ⟨_, rfl⟩
  rw [← hnn] at HT ⊢
  have S2 : Hid (Rs w (w.alloc (.cells #[] 3)) [] [(.slice (some ⟨w.heap.size, 0, none⟩) 0 0, labTo ts 0)]) := Lib.hid (Rs.start w).lit
  clear hi0 hz0 hz1 hz2 h hB hn hax hnn
  go_enter Try.func54, Try.ntmps54
  go_wp2
  go_loopw [3, 4] (fun u i wr => ∃ (j na ca : Nat) (ga : Option Addr), j ≤ 100 ∧ i = .int .i64 j ∧ na ≤ j ∧ u = .slice ga na ca ∧ Hid (na = (labTo ts j).length) ∧ Hid (Rs w wr [] [(.slice ga na ca, labTo ts j)])) (fun _ i _ => 100 - (intOf i).toNat)
  case atStart => exact ⟨0, 0, 0, _, by omega, rfl, by omega, rfl, rfl, S2⟩
  case round =>
    clear S2
    obtain ⟨j, na, ca, ga, hj, rfl, hna, rfl, HNA, HR⟩ := hrel
    by_cases hlt : j < 100
    · have hle : (j : Int) ≤ 99 := by omega
      have q0 : decide ((j : Int) ≤ 99) = true := by simp; omega
      have HD := Lib.hid (dim_spec (x := (j : Int)) (HT.out.below HR.out.bel (Nat.le_refl _)) HR.out.bel.size HLN.out HAX.out)
      obtain ⟨d, hd⟩ : ∃ d, d = dimT ts (j : Int) := ⟨_, rfl⟩
      rw [← hd] at HD
      by_cases h0 : 0 < d
      · have EY : Hid (labTo ts j ++ [(j : Int)] = labTo ts (j + 1)) := Lib.hid (labTo_yes (by rw [← hd]; exact h0))
        have HNA2 : Hid (na + 1 = (labTo ts (j + 1)).length) := Lib.hid (by rw [← EY.out, List.length_append, ← HNA.out]; rfl)
        have q1 : decide (0 < d) = true := by simpa using h0
        clear hd
        go_wp2_with fail
        refine HD.out.mono ?_
        rintro e w1 ⟨rfl, hb⟩
        have R1 := Lib.hid (HR.out.step hb)
        have A1 := Lib.hid (R1.out.alloc (.cells #[.int .i64 (j : Int)] 3))
        have O1 := Lib.hid (A1.out.row (List.mem_cons_self) HNA.out.symm : World.ownsRow _ w.heap.size 3 1 (.slice ga na ca) na (ints (labTo ts j)))
        clear hb HR HD
        go_wp2_with (at_builtin; go_must (refine wpList_append_lies _ rfl _ _ 25 rfl w.heap.size 3 i0 (.int .i64 0) 1 8 Try.underlying25 J0.out J1.out J2.out J3.out rfl (by decide) _ na (ints (labTo ts j)) rfl O1.out ⟨w1.heap.size, 0, none⟩ 1 1 [.int .i64 (j : Int)] rfl rfl (cell_one_new _ _ _) ?c2 (by decide) ?c3 ?c4 ?c5 _ rfl ?_))
        case c2 => first | rfl | (intro u hu; simp at hu; subst hu; rfl)
        case c3 => unfold maxLen; omega
        case c4 => omega
        case c5 => exact A1.out.bel.size
        intro g1 cap1 w2 hown hgrow hl1 _
        have R2 := Lib.hid (A1.out.app1 HNA.out.symm hown hgrow (by rw [World.size_alloc]; exact hl1))
        rw [EY.out] at R2
        clear hown hgrow hl1 O1 A1 R1
        go_wp2
        go_roundw
        case rel => exact ⟨j + 1, na + 1, cap1, _, by omega, by go_num, by omega, rfl, HNA2, R2⟩
        case measure => simp [intOf]; omega
      · have EN : Hid (labTo ts j = labTo ts (j + 1)) := Lib.hid (labTo_no (by rw [← hd]; exact h0))
        have q1 : decide (0 < d) = false := by simpa using h0
        clear hd
        go_wp2_with fail
        refine HD.out.mono ?_
        rintro e w1 ⟨rfl, hb⟩
        have R1 := Lib.hid (HR.out.step hb)
        rw [EN.out] at R1 HNA
        clear hb HR HD
        go_wp2
        go_roundw
        case rel => exact ⟨j + 1, na, ca, _, by omega, by go_num, by omega, rfl, HNA, R1⟩
        case measure => simp [intOf]; omega
    · obtain rfl : j = 100 := by omega
      have RES : Hid (NewRow w (labT ts) (.returned (.slice ga na ca)) wr) := Lib.hid ⟨_, rfl, HR.out.own1 (v := .slice ga na ca) (xs := labTo ts 100) (by simp), HR.out.bel⟩
      go_wp2
      go_ret
      exact RES.out
/-- The tensors with a label. -/
def usesT (ts : List TenE) (x : Int) : List Int := ((List.range ts.length).filter fun i => decide (x ∈ (ts.getD i ([], [], [])).1)).map fun i : Nat => (i : Int)
def usesTo (ts : List TenE) (x : Int) (n : Nat) : List Int := ((List.range n).filter fun i => decide (x ∈ (ts.getD i ([], [], [])).1)).map fun i : Nat => (i : Int)
theorem usesTo_yes {ts : List TenE} {x : Int} {n : Nat} {t : TenE} (ht : ts[n]? = some t) (h : x ∈ t.1) : usesTo ts x n ++ [(n : Int)] = usesTo ts x (n + 1) := by
  unfold usesTo
  rw [List.range_succ, List.filter_append, List.map_append]
  simp [List.getD_eq_getElem?_getD, ht, h]
theorem usesTo_no {ts : List TenE} {x : Int} {n : Nat} {t : TenE} (ht : ts[n]? = some t) (h : x ∉ t.1) : usesTo ts x n = usesTo ts x (n + 1) := by
  unfold usesTo
  rw [List.range_succ, List.filter_append, List.map_append]
  simp [List.getD_eq_getElem?_getD, ht, h]
set_option maxHeartbeats 1600000 in
theorem uses_spec {B : Nat} {v : Value} {ts : List TenE} {x : Int} {w : World} (h : RdTs B w v ts) (hB : B ≤ w.heap.size) (hn : LenTs ts) :
    Calls Try.prog 57 #[v, .int .i64 x] w (NewRow w (usesT ts x)) := by
  obtain ⟨i0, hi0, hz0, hz1, hz2⟩ := info_parts infoInt
  have J0 := Lib.hid hi0
  have J1 := Lib.hid hz0
  have J2 := Lib.hid hz1
  have J3 := Lib.hid hz2
  have HT := Lib.hid (h.mono hB)
  have HLN := Lib.hid hn
  obtain ⟨a, cap, rfl⟩ := h.form
  obtain ⟨n, hnn⟩ : ∃ n, n = ts.length := ⟨_, rfl⟩
  rw [← hnn] at HT ⊢
  have HN := Lib.hid hnn
  have hn1 : n ≤ 1048576 := by have := hn.1; omega
  have S2 : Hid (Rs w (w.alloc (.cells #[] 3)) [] [(.slice (some ⟨w.heap.size, 0, none⟩) 0 0, usesTo ts x 0)]) := Lib.hid (Rs.start w).lit
  clear hi0 hz0 hz1 hz2 h hB hn hnn
  go_enter Try.func57, Try.ntmps57
  go_wp2
  go_loopw [5, 11] (fun u i wr => ∃ (j na ca : Nat) (ga : Option Addr), j ≤ n ∧ i = .int .i64 j ∧ na ≤ j ∧ u = .slice ga na ca ∧ Hid (na = (usesTo ts x j).length) ∧ Hid (Rs w wr [] [(.slice ga na ca, usesTo ts x j)])) (fun _ i _ => n - (intOf i).toNat)
  case atStart => exact ⟨0, 0, 0, _, by omega, rfl, by omega, rfl, rfl, S2⟩
  case round =>
    clear S2
    obtain ⟨j, na, ca, ga, hj, rfl, hna, rfl, HNA, HR⟩ := hrel
    by_cases hlt : j < n
    · obtain ⟨⟨L, D, X⟩, T1⟩ : ∃ t, Hid (ts[j]? = some t) := ⟨_, List.getElem?_eq_getElem (by rw [← HN.out]; exact hlt)⟩
      obtain ⟨b, off, a1, c1, a2, c2, a3, c3, rfl, -, k0, k1, k2, hT⟩ := (HT.out.below HR.out.bel (Nat.le_refl _)).at T1.out
      dsimp only at k0 k1 k2 hT
      have hln := HLN.out.2 _ (List.mem_of_getElem? T1.out)
      dsimp only at hln
      have A0 := Lib.hid (HR.out.alloc (.cells #[.slice a1 L.length c1, .slice a2 D.length c2, .slice a3 X.length c3] 55))
      have HF := Lib.hid (find_spec x (hT.l.below ((Below.refl w.heap.size wr).alloc HR.out.bel.size (.cells #[.slice a1 L.length c1, .slice a2 D.length c2, .slice a3 X.length c3] 55)) (Nat.le_refl _)) hln.l)
      by_cases hx : x ∈ L
      · rw [findI_hit hx] at HF
        obtain ⟨z, hz⟩ : ∃ z, z = L.idxOf x := ⟨_, rfl⟩
        rw [← hz] at HF
        have EY : Hid (usesTo ts x j ++ [(j : Int)] = usesTo ts x (j + 1)) := Lib.hid (usesTo_yes T1.out hx)
        have HNA2 : Hid (na + 1 = (usesTo ts x (j + 1)).length) := Lib.hid (by rw [← EY.out, List.length_append, ← HNA.out]; rfl)
        generalize L.length = mL at k0 A0 HF ⊢
        generalize D.length = mD at k1 A0 HF ⊢
        generalize X.length = mX at k2 A0 HF ⊢
        have A1 := Lib.hid (A0.out.alloc (.cells #[.int .i64 (j : Int)] 3))
        have O1 := Lib.hid (A1.out.row (List.mem_cons_self) HNA.out.symm : World.ownsRow _ w.heap.size 3 1 (.slice ga na ca) na (ints (usesTo ts x j)))
        clear hT hx hz hln
        go_wp2_with fail
        refine HF.out.mono ?_
        rintro e w1 ⟨rfl, rfl⟩
        clear HF
        go_wp2_with (at_builtin; go_must (refine wpList_append_lies _ rfl _ _ 25 rfl w.heap.size 3 i0 (.int .i64 0) 1 8 Try.underlying25 J0.out J1.out J2.out J3.out rfl (by decide) _ na (ints (usesTo ts x j)) rfl O1.out ⟨wr.heap.size + 1, 0, none⟩ 1 1 [.int .i64 (j : Int)] rfl rfl (cell_one_at _ _ (by simp)) ?c2 (by decide) ?c3 ?c4 ?c5 _ rfl ?_))
        case c2 => first | rfl | (intro u hu; simp at hu; subst hu; rfl)
        case c3 => unfold maxLen; omega
        case c4 => omega
        case c5 => exact A1.out.bel.size
        intro g1 cap1 w2 hown hgrow hl1 _
        have R2 := Lib.hid (A1.out.app1 HNA.out.symm hown hgrow (by simp only [World.size_alloc] at hl1 ⊢; exact hl1))
        rw [EY.out] at R2
        clear hown hgrow hl1 O1 A1 A0 HR
        go_wp2
        go_roundw
        case rel => exact ⟨j + 1, na + 1, cap1, _, by omega, by go_num, by omega, rfl, HNA2, R2⟩
        case measure => simp [intOf]; omega
      · rw [findI_miss hx] at HF
        have EN : Hid (usesTo ts x j = usesTo ts x (j + 1)) := Lib.hid (usesTo_no T1.out hx)
        rw [EN.out] at A0 HNA
        clear hT hx hln HR
        go_wp2_with fail
        refine HF.out.mono ?_
        rintro e w1 ⟨rfl, rfl⟩
        go_wp2
        go_roundw
        case rel => exact ⟨j + 1, na, ca, _, by omega, by go_num, by omega, rfl, HNA, A0⟩
        case measure => simp [intOf]; omega
    · obtain rfl : j = n := by omega
      have RES : Hid (NewRow w (usesT ts x) (.returned (.slice ga na ca)) wr) := Lib.hid ⟨_, rfl, by
        have h := HR.out.own1 (v := .slice ga na ca) (xs := usesTo ts x j) (by simp)
        rw [HN.out] at h
        exact h, HR.out.bel⟩
      go_wp2
      go_ret
      exact RES.out
/-- The index of a tensor that an assignment gives. -/
def wtL (k p : Int) (wd : Nat) (J ix : List Int) (s : List Int) (ts : List TenE) : List Int := ts.foldl (fun s t => timesL k p s (getL wd t.2.2 (offI t.2.1 (viaL t.1 J ix)).toNat)) s
theorem wtL_snoc (k p : Int) (wd : Nat) (J ix : List Int) (s : List Int) (ts : List TenE) (t : TenE) : wtL k p wd J ix s (ts ++ [t]) = timesL k p (wtL k p wd J ix s ts) (getL wd t.2.2 (offI t.2.1 (viaL t.1 J ix)).toNat) := by simp [wtL]
end Go.Proofs.Ytdheakjjnaifkaa
namespace Go.Proofs.Ytdheakjjnaifkaa
set_option maxRecDepth 20000
open Go.RowKit

abbrev netV (k p q : Int) (tv ov : Value) : Value := .agg #[.int .i64 k, .int .i64 p, .int .i64 q, tv, ov]
/-- A valid network. -/
def NetOk (k p q : Int) (ts : List TenE) (O : List Int) : Prop := ringB k p q = true ∧ ts.length ≤ 12 ∧ NetV k p q ts ∧ 0 ≤ sizeI O (O.map (dimT ts))
open Classical in
noncomputable def netB (k p q : Int) (ts : List TenE) (O : List Int) : Bool := decide (NetOk k p q ts O)
open Classical in
theorem netB_true {k p q : Int} {ts : List TenE} {O : List Int} : netB k p q ts O = true ↔ NetOk k p q ts O := decide_eq_true_iff
theorem netB_false {k p q : Int} {ts : List TenE} {O : List Int} (h : ¬ NetOk k p q ts O) : netB k p q ts O = false := by
  cases hb : netB k p q ts O with
  | false => rfl
  | true => exact absurd (netB_true.1 hb) h
theorem agree_step {ts : List TenE} {t : TenE} {c : Nat} {x : Int} (h : AgreeTo ts t c) (hx : t.1[c]? = some x) (he : 0 < dimT ts x → dimT ts x = t.2.1.getD c 0) : AgreeTo ts t (c + 1) := fun i y hi hy hp => by
  by_cases e : i = c
  · subst e
    rw [hx] at hy
    cases hy
    exact he hp
  · exact h i y (by omega) hy hp
theorem netV_take {k p q : Int} {ts : List TenE} {j : Nat} {t : TenE} (h : NetV k p q (ts.take j)) (ht : ts[j]? = some t) (h1 : tensorB k p q t.1 t.2.1 t.2.2 = true) (h2 : AgreeTo (ts.take j) t t.1.length) : NetV k p q (ts.take (j + 1)) := by
  rw [List.take_add_one, ht]
  exact netV_snoc h h1 h2
set_option maxHeartbeats 6400000 in
theorem net_ok_full {B B' n m cap co : Nat} {a ao : Option Addr} {k p q : Int} {ts : List TenE} {O : List Int} {w : World} (hm1 : n = ts.length) (hm2 : m = O.length) (hcap : n ≤ cap) (h : RdTs B w (.slice a n cap) ts) (ho : Rd B' w (.slice ao m co) (ints O)) (hB : B ≤ w.heap.size) (hB' : B' ≤ w.heap.size) (hn : LenTs ts) (hO : m ≤ 1048576) :
    Calls Try.prog 13 #[netV k p q (.slice a n cap) (.slice ao m co)] w fun e w' => e = .returned (.bool (netB k p q ts O)) ∧ Below w.heap.size w w' := by
  have HN := Lib.hid hm1
  have HM := Lib.hid hm2
  have HLN := Lib.hid hn
  have hn1 : n ≤ 1048576 := by have := hn.1; omega
  obtain ⟨r, hr⟩ : ∃ r, r = netB k p q ts O := ⟨_, rfl⟩
  rw [← hr]
  have HR := Lib.hid hr
  obtain ⟨W0, hW0⟩ : ∃ V, V = w.alloc (.cells #[.int .i64 k, .int .i64 p, .int .i64 q, .slice a n cap, .slice ao m co] 33) := ⟨_, rfl⟩
  have hb0 : Below w.heap.size w W0 := by rw [hW0]; exact (Below.refl _ _).alloc (Nat.le_refl _) _
  have N0 : Hid (B5 W0 w.heap.size (.int .i64 k) (.int .i64 p) (.int .i64 q) (.slice a n cap) (.slice ao m co)) := Lib.hid (by rw [hW0]; exact B5.new _ _ _ _ _ _ _)
  have B0 := Lib.hid hb0
  have HT := Lib.hid (((h.mono hB).below hb0 (Nat.le_refl _)).mono hb0.size)
  have HO := Lib.hid (((ho.mono hB').below hb0 (Nat.le_refl _)).mono hb0.size)
  have HRO := Lib.hid (ring_ok_spec k p q W0)
  have HC : Hid (∀ V, Below W0.heap.size W0 V → V.cell? ⟨w.heap.size, 0, none⟩ = some (.int .i64 k) ∧ V.cell? ⟨w.heap.size, 1, none⟩ = some (.int .i64 p) ∧ V.cell? ⟨w.heap.size, 2, none⟩ = some (.int .i64 q) ∧ V.cell? ⟨w.heap.size, 3, none⟩ = some (.slice a n cap) ∧ V.cell? ⟨w.heap.size, 4, none⟩ = some (.slice ao m co)) := Lib.hid (fun V hV => by
    have h := N0.out.step hV
    exact ⟨h.c0, h.c1, h.c2, h.c3, h.c4⟩)
  clear hm1 hm2 h ho hB hB' hn hr hb0
  obtain ⟨c0, c1, c2, c3, c4⟩ := HC.out _ (Below.refl _ _)
  go_enter Try.func13, Try.ntmps13
  go_wp2_with fail
  rw [← hW0]
  clear hW0
  cases hrb : ringB k p q with
  | false =>
    have HF : Hid (r = false) := Lib.hid (by rw [HR.out]; exact netB_false fun h => by rw [h.1] at hrb; cases hrb)
    rw [hrb] at HRO
    clear hrb
    refine HRO.out.mono ?_
    rintro e w1 ⟨rfl, hb⟩
    have B1 := Lib.hid (B0.out.trans (hb.mono B0.out.size))
    clear hb HRO c0 c1 c2 c3 c4
    go_wp2
    go_ret
    exact ⟨by rw [HF.out]; rfl, B1.out⟩
  | true =>
    rw [hrb] at HRO
    have HRB := Lib.hid hrb
    clear hrb
    refine HRO.out.mono ?_
    rintro e w1 ⟨rfl, hb⟩
    have B1 := Lib.hid hb
    clear hb HRO c0 c1 c2 c3 c4
    obtain ⟨c0, c1, c2, c3, c4⟩ := HC.out _ B1.out
    by_cases h12 : 12 < n
    · have HF : Hid (r = false) := Lib.hid (by rw [HR.out]; exact netB_false fun h => by have := h.2.1; have := HN.out; omega)
      have q1 : decide ((12 : Int) < (n : Int)) = true := by simp; omega
      have B2 := Lib.hid (B0.out.trans (B1.out.mono B0.out.size))
      go_wp2
      go_ret
      exact ⟨by rw [HF.out]; rfl, B2.out⟩
    have q1 : decide ((12 : Int) < (n : Int)) = false := by simp; omega
    have hle : n ≤ 12 := by omega
    clear h12
    go_wp2
    go_loopw [21] (fun i wr => ∃ j : Nat, j ≤ n ∧ i = .int .i64 j ∧ Hid (NetV k p q (ts.take j)) ∧ Hid (Below W0.heap.size W0 wr)) (fun i _ => n - (intOf i).toNat)
    case atStart => exact ⟨0, by omega, rfl, Lib.hid (fun i t h => by simp at h), B1⟩
    case round =>
      clear B1 c0 c1 c2 c3 c4
      obtain ⟨j, hj, rfl, HV, HW⟩ := hrel
      obtain ⟨c0, c1, c2, c3, c4⟩ := HC.out _ HW.out
      by_cases hlt : j < n
      · obtain ⟨⟨L, D, X⟩, T1⟩ : ∃ t, Hid (ts[j]? = some t) := ⟨_, List.getElem?_eq_getElem (by rw [← HN.out]; exact hlt)⟩
        obtain ⟨b, off, a1, d1, a2, d2, a3, d3, rfl, -, k0, k1, k2, hT⟩ := (HT.out.below HW.out (Nat.le_refl _)).at T1.out
        dsimp only at k0 k1 k2 hT
        have hln := HLN.out.2 _ (List.mem_of_getElem? T1.out)
        dsimp only at hln
        obtain ⟨WB, hWB⟩ : ∃ V, V = wr.alloc (.cells #[.slice a1 L.length d1, .slice a2 D.length d2, .slice a3 X.length d3] 55) := ⟨_, rfl⟩
        have hbW : Below wr.heap.size wr WB := by rw [hWB]; exact (Below.refl _ _).alloc (Nat.le_refl _) _
        have TB : Hid (Bx wr WB wr.heap.size (.slice a1 L.length d1) (.slice a2 D.length d2) (.slice a3 X.length d3)) := Lib.hid (by rw [hWB]; exact Bx.new (Below.refl _ wr) _ _ _ _)
        have HW2 := Lib.hid (HW.out.trans (hbW.mono HW.out.size))
        have HTW := Lib.hid (hT.below (hbW.mono HW.out.size) (Nat.le_refl _))
        have HTO := Lib.hid (tensor_ok_spec (k := k) (p := p) (n := q) HTW.out HW2.out.size hln)
        have hl0 : w.heap.size < wr.heap.size := Nat.lt_of_lt_of_le N0.out.lt HW.out.size
        clear hbW hT
        cases htb : tensorB k p q L D X with
        | false =>
          have HF : Hid (r = false) := Lib.hid (by
            rw [HR.out]
            exact netB_false fun h => by
              have := (h.2.2.1 j _ T1.out).1
              rw [htb] at this; cases this)
          rw [htb] at HTO
          clear htb
          go_wp2_with fail
          rw [← hWB]
          clear hWB
          refine HTO.out.mono ?_
          rintro e w2 ⟨rfl, hb⟩
          have B2 := Lib.hid (B0.out.trans ((HW2.out.trans (hb.mono HW2.out.size)).mono B0.out.size))
          clear hb HTO c0 c1 c2 c3 c4
          go_wp2
          go_ret
          exact ⟨by rw [HF.out]; rfl, B2.out⟩
        | true =>
          have HAX := Lib.hid (tensorB_axes htb).1
          have HTBT := Lib.hid htb
          rw [htb] at HTO
          clear htb
          obtain ⟨mL, hmL⟩ : ∃ m, m = L.length := ⟨_, rfl⟩
          obtain ⟨mD, hmD⟩ : ∃ m, m = D.length := ⟨_, rfl⟩
          rw [← hmL, ← hmD] at TB HTW
          rw [← hmL] at k0
          rw [← hmD] at k1
          have HML := Lib.hid (And.intro hmL hmD)
          have hld : mL = mD := by rw [hmL, hmD]; exact HAX.out.2.1
          have hl12 : mL ≤ 12 := by rw [hmL]; exact HAX.out.1
          go_wp2_with fail
          rw [← hWB, ← hmL, ← hmD]
          rw [← hmL, ← hmD] at HTO
          have HTC : Hid (∀ V, Below WB.heap.size WB V → V.cell? ⟨wr.heap.size, 0, none⟩ = some (.slice a1 mL d1) ∧ V.cell? ⟨wr.heap.size, 1, none⟩ = some (.slice a2 mD d2)) := Lib.hid (fun V hV => by
            have h := TB.out.step hV
            exact ⟨h.c0, h.c1⟩)
          have HWW := Lib.hid HW.out.size
          obtain ⟨bt, hbt⟩ : ∃ b, b = wr.heap.size := ⟨_, rfl⟩
          rw [← hbt] at HTC ⊢
          clear hWB hmL hmD hln hbt TB
          refine HTO.out.mono ?_
          rintro e w2 ⟨rfl, hb⟩
          have HB2 := Lib.hid hb
          clear hb HTO c0 c1 c2 c3 c4 k0 k1 k2
          obtain ⟨s0, s1⟩ := HTC.out _ HB2.out
          go_wp2
          go_loopw [34] (fun i ws => ∃ c : Nat, c ≤ mL ∧ i = .int .i64 c ∧ Hid (AgreeTo (ts.take j) (L, D, X) c) ∧ Hid (Below WB.heap.size WB ws)) (fun i _ => mL - (intOf i).toNat)
          case atStart => exact ⟨0, by omega, rfl, Lib.hid (fun i x hi => absurd hi (Nat.not_lt_zero _)), HB2⟩
          case round =>
            clear HB2 s0 s1
            obtain ⟨c, hc, rfl, HA, HWs⟩ := hrel
            have HW3 := Lib.hid (HW2.out.trans (HWs.out.mono HW2.out.size))
            by_cases hcl : c < mL
            · obtain ⟨x, X1⟩ : ∃ x, Hid (L[c]? = some x) := ⟨_, List.getElem?_eq_getElem (by rw [← HML.out.1]; exact hcl)⟩
              obtain ⟨y, Y1⟩ : ∃ y, Hid (D[c]? = some y) := ⟨_, List.getElem?_eq_getElem (by rw [← HML.out.2]; omega)⟩
              obtain ⟨b1, o1, rfl, -, e1⟩ := (HTW.out.l.below (HWs.out.mono HW2.out.size) (Nat.le_refl _)).cellAt X1.out
              have HD := Lib.hid (dim_spec (x := x) ((HT.out.below HW3.out (Nat.le_refl _)).take j (by rw [← HN.out]; omega)) HW3.out.size (HLN.out.take j) HV.out.ax)
              obtain ⟨d, hd⟩ : ∃ d, d = dimT (ts.take j) x := ⟨_, rfl⟩
              rw [← hd] at HD
              have HDD := Lib.hid hd
              have hjc : j ≤ cap := by omega
              obtain ⟨c0, c1, c2, c3, c4⟩ := HC.out _ HW3.out
              clear hd
              go_wp2_with fail
              refine HD.out.mono ?_
              rintro e w3 ⟨rfl, hb⟩
              have HWt := Lib.hid (HWs.out.trans (hb.mono HWs.out.size))
              have HW4 := Lib.hid (HW2.out.trans (HWt.out.mono HW2.out.size))
              clear hb HD c0 c1 c2 c3 c4 e1
              obtain ⟨s0, s1⟩ := HTC.out _ HWt.out
              obtain ⟨b2, o2, rfl, -, e2⟩ := (HTW.out.d.below (HWt.out.mono HW2.out.size) (Nat.le_refl _)).cellAt Y1.out
              have hcD : c < mD := by omega
              by_cases h0 : 0 < d
              · have q2 : decide (0 < d) = true := by simpa using h0
                by_cases hdy : d = y
                · have HA2 : Hid (AgreeTo (ts.take j) (L, D, X) (c + 1)) := Lib.hid (agree_step HA.out X1.out (fun _ => by
                    rw [← HDD.out, hdy]
                    show y = D.getD c 0
                    rw [List.getD_eq_getElem?_getD, Y1.out]; rfl))
                  have q3 : (d != y) = false := by simp; exact hdy
                  clear hdy
                  go_wp2
                  go_roundw
                  case rel => exact ⟨c + 1, by omega, by go_num, HA2, HWt⟩
                  case measure => simp [intOf]; omega
                · have HF : Hid (r = false) := Lib.hid (by
                    rw [HR.out]
                    exact netB_false fun h => by
                      have h1 := (h.2.2.1 j _ T1.out).2 c x (by show c < L.length; rw [← HML.out.1]; exact hcl) X1.out (by rw [← HDD.out]; exact h0)
                      rw [← HDD.out] at h1
                      apply hdy
                      rw [h1]
                      show D.getD c 0 = y
                      rw [List.getD_eq_getElem?_getD, Y1.out]; rfl)
                  have q3 : (d != y) = true := by simp; exact hdy
                  have B4 := Lib.hid (B0.out.trans (HW4.out.mono B0.out.size))
                  clear hdy
                  go_wp2
                  go_ret
                  exact ⟨by rw [HF.out]; rfl, B4.out⟩
              · have q2 : decide (0 < d) = false := by simpa using h0
                have HA2 : Hid (AgreeTo (ts.take j) (L, D, X) (c + 1)) := Lib.hid (agree_step HA.out X1.out (fun h => absurd (by rw [← HDD.out] at h; exact h) h0))
                go_wp2
                go_roundw
                case rel => exact ⟨c + 1, by omega, by go_num, HA2, HWt⟩
                case measure => simp [intOf]; omega
            · obtain rfl : c = mL := by omega
              have HV2 : Hid (NetV k p q (ts.take (j + 1))) := Lib.hid (netV_take HV.out T1.out HTBT.out (by
                show AgreeTo (ts.take j) (L, D, X) L.length
                rw [← HML.out.1]; exact HA.out))
              go_wp2
              go_roundw
              case rel => exact ⟨j + 1, by omega, by go_num, HV2, HW3⟩
              case measure => simp [intOf]; omega
      · obtain rfl : j = n := by omega
        have HVT : Hid (NetV k p q ts) := Lib.hid (by
          have h := HV.out
          rw [List.take_of_length_le (by rw [← HN.out]; exact Nat.le_refl _)] at h
          exact h)
        have HDS := Lib.hid (fun (W : World) (hW : Below W0.heap.size W0 W) => dims_spec (HT.out.below hW (Nat.le_refl _)) (HO.out.below hW (Nat.le_refl _)) hW.size hW.size HLN.out HVT.out.ax (by rw [← HM.out]; exact hO))
        obtain ⟨ds, hds⟩ : ∃ l, l = O.map (dimT ts) := ⟨_, rfl⟩
        rw [← hds] at HDS
        have HDL : Hid (ds.length = m) := Lib.hid (by rw [hds, List.length_map, ← HM.out])
        have HRS : Hid (decide (0 ≤ sizeI O ds) = r) := Lib.hid (by
          rw [HR.out, hds]
          by_cases h0 : 0 ≤ sizeI O (O.map (dimT ts))
          · rw [netB_true.2 ⟨HRB.out, by rw [← HN.out]; exact hle, HVT.out, h0⟩, decide_eq_true h0]
          · rw [netB_false fun h => h0 h.2.2.2, decide_eq_false h0])
        have HWD := Lib.hid HW.out.drew
        clear hds c0 c1 c2 c3 c4
        obtain ⟨c0, c1, c2, c3, c4⟩ := HC.out _ HWD.out
        go_wp2
        go_region_held3 (fun V => V.cell? ⟨w.heap.size, 3, none⟩ = some (.slice a j cap) ∧ V.cell? ⟨w.heap.size, 4, none⟩ = some (.slice ao m co)) (exact ⟨c3, c4⟩) (first
          | (go_at_call 48; refine (HDS.out _ HWD.out).mono ?_; rintro e w4 ⟨vD, rfl, oD, hb⟩; have RDs := Lib.hid oD.rd; obtain ⟨aD, cD, rfl, -⟩ := ints_form oD.rd; have HWE := Lib.hid (HWD.out.trans (hb.mono HWD.out.size)); clear hb oD c0 c1 c2 c3 c4; obtain ⟨c0, c1, c2, c3, c4⟩ := HC.out _ HWE.out)
          | (go_at_call 47; refine (size_spec (B := w4.heap.size) (L := O) (D := ds) (X := []) ⟨(HO.out.below HWE.out (Nat.le_refl _)).mono HWE.out.size, RDs.out, .inl ⟨rfl, none, 0, rfl⟩⟩ (Nat.le_refl _) ⟨by rw [← HM.out]; omega, by rw [HDL.out]; omega, by simp⟩).mono ?_; rintro e w5 ⟨rfl, hb⟩; have HWF := Lib.hid (HWE.out.trans (hb.mono HWE.out.size)); clear hb c0 c1 c2 c3 c4; obtain ⟨c0, c1, c2, c3, c4⟩ := HC.out _ HWF.out))
        have BF := Lib.hid (B0.out.trans (HWF.out.mono B0.out.size))
        clear c0 c1 c2 c3 c4
        go_wp2
        go_ret
        exact ⟨by rw [← HRS.out]; rfl, BF.out⟩
/-- spec.NetworkOk. -/
theorem net_ok_spec {B B' : Nat} {tv ov : Value} {k p q : Int} {ts : List TenE} {O : List Int} {w : World} (h : RdTs B w tv ts) (ho : Rd B' w ov (ints O)) (hcap : ∀ a n c, tv = .slice a n c → n ≤ c) (hB : B ≤ w.heap.size) (hB' : B' ≤ w.heap.size) (hn : LenTs ts) (hO : O.length ≤ 1048576) :
    Calls Try.prog 13 #[netV k p q tv ov] w fun e w' => e = .returned (.bool (netB k p q ts O)) ∧ Below w.heap.size w w' := by
  obtain ⟨a, cap, rfl⟩ := h.form
  obtain ⟨ao, co, rfl, -⟩ := ints_form ho
  exact net_ok_full rfl rfl (hcap _ _ _ rfl) h ho hB hB' hn hO
end Go.Proofs.Ytdheakjjnaifkaa
