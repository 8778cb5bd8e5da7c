
/- Slices of valid tensors are valid tensors. -/
import Derived.Test.YtfdjlahaiogabaaSliceMath
import Derived.Test.YtfdjlahaiogabaaTensorOk2
import Derived.Test.YtfdjlahaiogabaaElemAt
namespace Go.Proofs.Ytfdjlahaiogabaa
set_option maxRecDepth 20000

structure TF (k p q : Int) (L D X : List Int) (wd N : Nat) : Prop where
  rg : ringB k p q = true
  ax : AxesV L D
  pr : prodL D = (N : Int)
  n1 : 1 ≤ N ∧ N ≤ 4096
  hw : widthI k q = (wd : Int)
  w6 : 1 ≤ wd ∧ wd ≤ 6
  lX : X.length = N * wd
  wX : Within (topI k p q) X
theorem TF.of {k p q : Int} {L D X : List Int} (ht : tensorB k p q L D X = true) : TF k p q L D X (widthI k q).toNat (prodL D).toNat := by
  obtain ⟨hrb, hs0, hxl, hwi⟩ := tensorB_inv ht
  have hwd := ring_width hrb
  rcases sizeI_cases L D with ⟨h, -⟩ | ⟨h1, h2, h3, h4⟩
  · omega
  · refine ⟨hrb, h2, by omega, by omega, by omega, by omega, ?_, hwi⟩
    have e1 : (((prodL D).toNat * (widthI k q).toNat : Nat) : Int) = prodL D * widthI k q := by
      rw [Int.natCast_mul, Int.toNat_of_nonneg (by omega), Int.toNat_of_nonneg (by omega)]
    rw [h1, ← e1] at hxl
    exact_mod_cast hxl
section
variable {k p q : Int} {L D X : List Int} {wd N : Nat}
theorem TF.dim (h : TF k p q L D X wd N) : ∀ d ∈ D, 1 ≤ d := fun d hd => (h.ax.2.2.2.1 d hd).1
theorem TF.room (h : TF k p q L D X wd N) (o : Nat) (ho : (o : Int) < prodL D) : o * wd + wd ≤ X.length := by
  have h1 := h.pr
  have h3 := Nat.mul_le_mul_right wd (show o + 1 ≤ N by omega)
  rw [Nat.add_mul, Nat.one_mul] at h3
  rw [h.lX]; exact h3
theorem TF.x (h : TF k p q L D X wd N) : X.length ≤ 24576 := by
  rw [h.lX]; exact Nat.le_trans (Nat.mul_le_mul h.n1.2 h.w6.2) (by omega)
theorem TF.yes (h : TF k p q L D X wd N) : tensorB k p q L D X = true := by
  have hs : sizeI L D = prodL D := by
    rcases sizeI_cases L D with ⟨-, h1⟩ | ⟨h1, -⟩
    · exact absurd ⟨axesB_true.2 h.ax, by have := h.pr; have := h.n1; omega⟩ h1
    · exact h1
  have := h.pr
  have := h.n1
  exact tensorB_yes h.rg (by omega) (by rw [hs, h.pr, h.hw, h.lX, Int.natCast_mul]) h.wX
theorem getL_in {t : Int} {X : List Int} (h : Within t X) (wd n : Nat) : Within t (getL wd X n) := fun x hx => h x (List.mem_of_mem_drop (List.mem_of_mem_take hx))
/-- What a slice is. -/
theorem TF.fix (h : TF k p q L D X wd N) {c : Int → Option Int} (hc : OkC (L.map c) D) : TF k p q (fixL c L) (fixD c L D) (fixX wd c L D X) wd (prodL (fixD c L D)).toNat := by
  obtain ⟨a1, a2, a3, a4, a5⟩ := h.ax
  have hsub := fixD_sub (c := c) a2
  have hp1 := prodL_pos (D := fixD c L D) (fun d hd => h.dim d (hsub.subset hd))
  have hp2 := prodL_subD hsub h.dim
  have h3 := h.pr
  have h4 := h.n1
  refine ⟨h.rg, ⟨Nat.le_trans (List.length_filter_le _ _) a1, (fixD_len c L D).symm, fun x hx => a3 x (List.mem_filter.1 hx).1, fun d hd => a4 d (hsub.subset hd), a5.filter _⟩, by omega, by omega, h.hw, h.w6, ?_, ?_⟩
  · exact gather_len _ fun m _ => getL_len (h.room _ (fixF_lt a2 hc h.dim m).2.2)
  · intro x hx
    unfold fixX gatherL at hx
    obtain ⟨m, -, hm⟩ := List.mem_flatMap.1 hx
    exact getL_in h.wX _ _ x hm
end
/-- SliceTensor's answer is yes. -/
noncomputable def sliceB (k p q : Int) (L D X : List Int) (b v : Int) : Bool := tensorB k p q L D X && (decide (b ∈ L) && decide (0 ≤ v ∧ v < D.getD (L.idxOf b) 0))
def FixTo (L D K V : List Int) (i : Nat) : Prop := ∀ (j : Nat) (n v : Int), j < i → K[j]? = some n → V[j]? = some v → n ∉ K.take j → n ∈ L → 0 ≤ v ∧ v < D.getD (L.idxOf n) 0
open Classical in
/-- FixLabels' answer is yes. -/
noncomputable def fixB (k p q : Int) (L D X K V : List Int) : Bool := tensorB k p q L D X && (decide (K.length = V.length) && decide (OkC (L.map (cK K V)) D))
theorem ok_of_fix {L D K V : List Int} (hl : L.length = D.length) (hn : L.Nodup) (hKV : K.length = V.length) (h : FixTo L D K V K.length) : OkC (L.map (cK K V)) D := by
  refine ⟨by rw [List.length_map, hl], fun z v d h1 h2 => ?_⟩
  rw [List.getElem?_map] at h1
  obtain ⟨n, hz, hc⟩ := Option.map_eq_some_iff.1 h1
  by_cases hk : n ∈ K
  · rw [cK_some hk] at hc
    have hi := List.idxOf_lt_length_iff.2 hk
    have hm : n ∉ K.take (K.idxOf n) := fun hm => by
      have h3 : List.idxOf n K = List.idxOf n (K.take (K.idxOf n) ++ K.drop (K.idxOf n)) := by rw [List.take_append_drop]
      rw [List.idxOf_append, if_pos hm] at h3
      have h4 := List.idxOf_lt_length_iff.2 hm
      rw [List.length_take] at h4
      omega
    have h5 := h (K.idxOf n) n v hi (at_idxOf hk) (by
      have e : V[K.idxOf n]? = some V[K.idxOf n] := List.getElem?_eq_getElem (by omega)
      injection hc with hc
      rw [getD_at e] at hc
      rw [e, hc]) hm (List.mem_of_getElem? hz)
    rw [idxOf_at hn hz, getD_at h2] at h5
    exact h5
  · rw [cK_none hk] at hc; cases hc
theorem fix_of_ok {L D K V : List Int} (hl : L.length = D.length) (h : OkC (L.map (cK K V)) D) (i : Nat) : FixTo L D K V i := by
  intro j n v _ hn hv hm hL
  have hz := at_idxOf hL
  have hk : n ∈ K := List.mem_of_getElem? hn
  have hlt := (List.getElem?_eq_some_iff.1 hz).1
  have hd : D[L.idxOf n]? = some (D.getD (L.idxOf n) 0) := by
    rw [List.getD_eq_getElem?_getD, List.getElem?_eq_getElem (by omega)]; rfl
  have hj : K.idxOf n = j := by
    have h3 : List.idxOf n K = List.idxOf n (K.take j ++ K.drop j) := by rw [List.take_append_drop]
    rw [List.idxOf_append, if_neg hm] at h3
    have hjl := (List.getElem?_eq_some_iff.1 hn).1
    have hdr : K.drop j = n :: K.drop (j + 1) := by
      rw [List.drop_eq_getElem_cons hjl]
      rw [List.getElem?_eq_getElem hjl] at hn
      injection hn with hn
      rw [hn]
    rw [hdr, List.idxOf_cons_self, List.length_take] at h3
    omega
  exact h.2 (L.idxOf n) v _ (by rw [List.getElem?_map, hz, Option.map_some, cK_some hk, hj, getD_at hv]) hd
theorem ok_not {L D K V : List Int} {z : Nat} {n d v : Int} (hz : L[z]? = some n) (hd : D[z]? = some d) (hn : cK K V n = some v) (h : ¬ (0 ≤ v ∧ v < d)) : ¬ OkC (L.map (cK K V)) D := fun hc =>
  h (hc.2 z v d (by rw [List.getElem?_map, hz, Option.map_some, hn]) hd)
/-- A slice of what is left: the value is in range. -/
theorem ok_one {L D : List Int} {b v : Int} (hl : L.length = D.length) (hn : L.Nodup) (h : b ∈ L → 0 ≤ v ∧ v < D.getD (L.idxOf b) 0) : OkC (L.map (cK [b] [v])) D := by
  refine ok_of_fix hl hn rfl fun j n u hj hnn hu hm hL => ?_
  have : j = 0 := by simpa using hj
  subst this
  simp at hnn hu
  subst hnn hu
  exact h hL
/-- Where a label lies among those that are left. -/
theorem left_at (c : Int → Option Int) {n : Int} (hc : c n = none) : ∀ (L D : List Int), L.length = D.length → n ∈ L → (fixD c L D).getD ((fixL c L).idxOf n) 0 = D.getD (L.idxOf n) 0 := by
  intro L
  induction L with
  | nil => intro D _ h; simp at h
  | cons m L ih =>
    intro D hl hm
    cases D with
    | nil => simp at hl
    | cons d D =>
      have hl' : L.length = D.length := by simpa using hl
      by_cases e : m = n
      · subst e
        rw [fixL_cons_none hc]
        unfold fixD
        simp [hc, leftC]
      · have hm' : n ∈ L := by
          rcases List.mem_cons.1 hm with h | h
          · exact absurd h.symm e
          · exact h
        have h1 := ih D hl' hm'
        rw [List.idxOf_cons, cond_eq_ite, if_neg (by simpa using e)]
        cases hcm : c m with
        | some v =>
          rw [fixL_cons_some hcm]
          unfold fixD at h1 ⊢
          simp only [List.map_cons, hcm, leftC, List.tail_cons]
          rw [h1]; simp
        | none =>
          rw [fixL_cons_none hcm, List.idxOf_cons, cond_eq_ite, if_neg (by simpa using e)]
          unfold fixD at h1 ⊢
          simp only [List.map_cons, hcm, leftC, List.tail_cons, List.headD_cons]
          simpa using h1
/-- The next slice is one of what is left. -/
theorem fix_next {L D K V : List Int} {i : Nat} {n v : Int} (hl : L.length = D.length) (h : OkC (L.map (cK K V)) D) (hn : K[i]? = some n) (hv : V[i]? = some v) (hm : n ∈ fixL (cK (K.take i) (V.take i)) L) : 0 ≤ v ∧ v < (fixD (cK (K.take i) (V.take i)) L D).getD ((fixL (cK (K.take i) (V.take i)) L).idxOf n) 0 := by
  have h1 := List.mem_filter.1 hm
  have hi := (List.getElem?_eq_some_iff.1 hn).1
  have hk : n ∉ K.take i := fun hk => by
    have h2 := h1.2
    rw [cK_some hk] at h2
    cases h2
  rw [left_at _ (cK_none hk) L D hl h1.1]
  exact fix_of_ok hl h (i + 1) i n v (by omega) hn hv hk h1.1
theorem ok_take {L D K V : List Int} (hl : L.length = D.length) (hnd : L.Nodup) (hKV : K.length = V.length) (h : OkC (L.map (cK K V)) D) (i : Nat) : OkC (L.map (cK (K.take i) (V.take i))) D := by
  refine ok_of_fix hl hnd (by rw [List.length_take, List.length_take, hKV]) fun j n v hj hn hv hm hL => ?_
  rw [List.length_take] at hj
  rw [List.getElem?_take_of_lt (by omega)] at hn hv
  rw [List.take_take, Nat.min_eq_left (by omega)] at hm
  exact fix_of_ok hl h (j + 1) j n v (by omega) hn hv hm hL
end Go.Proofs.Ytfdjlahaiogabaa
