
/- spec.FuseLabels. -/
import Derived.Test.YtceidekfcnmeaaaGreatPermSpec
import Derived.Test.YtceidekfcnmeaaaGreatSliceMath
import Derived.Test.YtceidekfcnmeaaaGreatJoinMath
import Derived.Test.YtceidekfcnmeaaaGreatLet
import Derived.Test.YtceidekfcnmeaaaGreatAlong
import Derived.Deep.AppendLies
namespace Go.Proofs.YtceidekfcnmeaaaGreat
set_option maxRecDepth 20000
open Go.RowKit

/-- Some different labels of the list. -/
def SubV (L F : List Int) : Prop := SetTo L F F.length
noncomputable instance (L F : List Int) : Decidable (SubV L F) := Classical.propDecidable _
noncomputable def subB (L F : List Int) : Bool := decide (SubV L F)
theorem subB_true {L F : List Int} : subB L F = true ↔ SubV L F := by unfold subB; exact decide_eq_true_iff
theorem SubV.mem {L F : List Int} (h : SubV L F) {n : Int} (hn : n ∈ F) : n ∈ L := by
  obtain ⟨i, hi⟩ := List.getElem?_of_mem hn
  exact (h i n (List.getElem?_eq_some_iff.1 hi).1 hi).1
theorem SubV.nodup {L F : List Int} (h : SubV L F) : F.Nodup := List.pairwise_iff_getElem.2 fun i j hi hj hij he =>
  (h j F[j] hj (List.getElem?_eq_getElem hj)).2 (List.mem_iff_getElem?.2 ⟨i, by rw [List.getElem?_take_of_lt hij, List.getElem?_eq_getElem hi, he]⟩)
theorem subV_of {L F : List Int} (hn : F.Nodup) (hs : ∀ n ∈ F, n ∈ L) : SubV L F := fun i n _ hi => ⟨hs n (List.mem_of_getElem? hi), fun hm => by
  obtain ⟨j, hj⟩ := List.mem_iff_getElem?.1 hm
  have hlt := (List.getElem?_eq_some_iff.1 hj).1
  rw [List.length_take] at hlt
  rw [List.getElem?_take_of_lt (by omega)] at hj
  obtain ⟨h1, e1⟩ := List.getElem?_eq_some_iff.1 hi
  obtain ⟨h2, e2⟩ := List.getElem?_eq_some_iff.1 hj
  have := (List.getElem_inj (h₀ := h1) (h₁ := h2) hn).1 (by rw [e1, e2])
  omega⟩
/-- The labels that stay, then those that go. -/
def regL (L F : List Int) : List Int := restL F L ++ F
noncomputable def regX (k q : Int) (L D X F : List Int) : List Int := permDataL k q L D X (regL L F)
theorem rest_perm {L F : List Int} (hn : L.Nodup) (h : SubV L F) : (regL L F).Perm L := by
  have hp : (L.filter (fun n => decide (n ∈ F))).Perm F := by
    refine (List.perm_ext_iff_of_nodup (hn.filter _) h.nodup).2 fun n => ?_
    simp only [List.mem_filter, decide_eq_true_eq]
    exact ⟨fun h => h.2, fun hF => ⟨h.mem hF, hF⟩⟩
  have h2 := (List.filter_append_perm (fun n => decide (n ∈ F)) L)
  have e : restL F L = L.filter (fun n => !decide (n ∈ F)) := by
    unfold restL
    exact List.filter_congr fun n _ => by simp
  unfold regL
  rw [e]
  exact (List.perm_append_comm.trans ((hp.symm.append_right _))).trans h2
theorem rest_setV {L F : List Int} (hn : L.Nodup) : SetV L (regL L F) ↔ SubV L F := by
  constructor
  · intro h
    have hp := h.perm
    have hnd : (regL L F).Nodup := hp.symm.nodup hn
    unfold regL at hnd
    exact subV_of (List.nodup_append.1 hnd).2.1 fun n hF => hp.subset (by unfold regL; exact List.mem_append_right _ hF)
  · intro h
    exact setV_perm (rest_perm hn h) hn
def fuseL (L F : List Int) (c : Int) : List Int := restL F L ++ [c]
def fuseD (L D F : List Int) : List Int := dimsVia L D (restL F L) ++ [prodL (dimsVia L D F)]
noncomputable def fuseB (k p q : Int) (L D X F : List Int) (c : Int) : Bool := tensorB k p q L D X && (decide (1 ≤ F.length) && (subB L F && decide (0 ≤ sizeI (fuseL L F c) (fuseD L D F))))
theorem dims_app (L D A B : List Int) : dimsVia L D (A ++ B) = dimsVia L D A ++ dimsVia L D B := by simp [dimsVia]
/-- The dimensions of the labels that go. -/
theorem fuse_dims {k p q : Int} {L D X F : List Int} (ht : tensorB k p q L D X = true) (hs : SubV L F) : (∀ d ∈ dimsVia L D F, 1 ≤ d ∧ d ≤ 8) ∧ capI (dimsVia L D F) = prodL (dimsVia L D F) ∧ prodL (dimsVia L D (restL F L)) * prodL (dimsVia L D F) = prodL D ∧ 1 ≤ prodL (dimsVia L D (restL F L)) ∧ 1 ≤ prodL (dimsVia L D F) ∧ prodL (dimsVia L D F) ≤ 4096 := by
  have FT := TF.of ht
  have hP := PF.of ht ((rest_setV FT.ax.2.2.2.2).2 hs)
  have h1 := hP.dims
  unfold regL at h1
  rw [dims_app] at h1
  have ha : ∀ d ∈ dimsVia L D (restL F L), 1 ≤ d ∧ d ≤ 8 := fun d hd => h1.1 d (List.mem_append_left _ hd)
  have hb : ∀ d ∈ dimsVia L D F, 1 ≤ d ∧ d ≤ 8 := fun d hd => h1.1 d (List.mem_append_right _ hd)
  have p1 := prodL_pos (fun d hd => (ha d hd).1)
  have p2 := prodL_pos (fun d hd => (hb d hd).1)
  have h2 := h1.2.1
  rw [prodL_app] at h2
  have h3 := FT.pr
  have h4 := FT.n1
  have h5 : 1 * prodL (dimsVia L D F) ≤ prodL (dimsVia L D (restL F L)) * prodL (dimsVia L D F) := Int.mul_le_mul_of_nonneg_right p1 (by omega)
  have h6 := (capI_is (fun d hd => (hb d hd).1)).1
  exact ⟨hb, by omega, by omega, p1, p2, by omega⟩

theorem reg_tensor {k p q : Int} {L D X F : List Int} (ht : tensorB k p q L D X = true) (hs : SubV L F) : (regX k q L D X F).length = (prodL D).toNat * (widthI k q).toNat ∧ (regX k q L D X F).length ≤ 24576 := by
  have FT := TF.of ht
  have hP := PF.of ht ((rest_setV FT.ax.2.2.2.2).2 hs)
  have h1 := hP.len (prodL D).toNat
  refine ⟨h1, ?_⟩
  have e : (regX k q L D X F).length = (prodL D).toNat * (widthI k q).toNat := h1
  rw [e]
  exact Nat.le_trans (Nat.mul_le_mul hP.n1.2 hP.w6.2) (by omega)
theorem regX_small {k p q : Int} {L D X F : List Int} (ht : tensorB k p q L D X = true) (hs : SubV L F) : (regX k q L D X F).length ≤ 281474976710656 := Nat.le_trans (reg_tensor ht hs).2 (by omega)
theorem Rd.drop {B : Nat} {w : World} {b off m cap : Nat} {xs : List Int} (h : Rd B w (.slice (some ⟨b, off, none⟩) m cap) (ints xs)) (j : Nat) (hj : j < xs.length) : Rd B w (.slice (some ⟨b, off + j, none⟩) (m - j) (cap - j)) (ints (xs.drop j)) := by
  rcases h.ints_cases with ⟨rfl, -⟩ | ⟨b2, off2, ca, e, hb, hc, hcell⟩
  · simp at hj
  · cases e
    refine .inr ⟨b, off + j, cap - j, by rw [ints_len, List.length_drop], hb, by rw [ints_len, List.length_drop]; omega, fun i u hi => ?_⟩
    unfold ints at hi
    rw [List.getElem?_map] at hi
    obtain ⟨x, hx, rfl⟩ := Option.map_eq_some_iff.1 hi
    rw [List.getElem?_drop] at hx
    obtain ⟨h1, h2⟩ := List.getElem?_eq_some_iff.1 hx
    rw [Nat.add_assoc, hcell _ h1, h2]
end Go.Proofs.YtceidekfcnmeaaaGreat
