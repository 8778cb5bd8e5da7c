
/- (Tensor).permuted: the axes in another order. -/
import Derived.Test.YtdheakjjnaifkaaElemRd
import Derived.Test.YtdheakjjnaifkaaAlong
import Derived.Test.YtdheakjjnaifkaaFind
import Derived.Test.YtdheakjjnaifkaaRa
import Derived.Deep.RegionLaw
import Derived.Test.YtdheakjjnaifkaaZero
import Derived.Test.YtdheakjjnaifkaaTensorOk
import Derived.Test.YtdheakjjnaifkaaRs
import Derived.Sort.OwnSortedInts
import Derived.Deep.RegionHeld3
import Derived.Test.YtdheakjjnaifkaaPermSpec
import Derived.Test.YtdheakjjnaifkaaTenOkImpl
namespace Go.Proofs.Ytdheakjjnaifkaa
set_option maxRecDepth 20000
open Go.RowKit

/-- A store elsewhere. -/
theorem Rs.else {w0 wr : World} {bs : List BxE} {rows : List RowE} {g : Nat} (h : Rs w0 wr bs rows) (h0 : w0.heap.size ≤ g) (hb : ∀ b ∈ bs, b.1 ≠ g) (hr : ∀ r ∈ rows, r.1.ownBlock ≠ some g) (i : Nat) (u : Value) : Rs w0 (wr.setCell ⟨g, i, none⟩ u) bs rows :=
  ⟨h.bel.setCell h0 _, fun r hm => (h.own r hm).kept (grownBy_set wr g i u) (by
    cases hv : r.1.ownBlock with
    | none => exact .inl rfl
    | some k => exact .inr fun e => by injection e with e; subst e; exact hr r hm hv), h.apart, fun b hm => (h.bx b hm).far (fun e => hb b hm e) h0 u i, h.far, h.dis⟩
/-- The first j axes in the order of the labels are written. -/
def OrdTo (L D labels : List Int) (cs : List Value) (j : Nat) : Prop := ∀ i a, i < j → (orderA L D labels)[i]? = some a → cs[i * 3]? = some (.int .i64 a.1) ∧ cs[i * 3 + 1]? = some (.int .i64 a.2.1) ∧ cs[i * 3 + 2]? = some (.int .i64 a.2.2)
theorem OrdTo.step {L D labels : List Int} {cs : List Value} {j : Nat} {x y z : Int} (h : OrdTo L D labels cs j) (ho : (orderA L D labels)[j]? = some (x, y, z)) (hl : j * 3 + 2 < cs.length) :
    OrdTo L D labels (((cs.set (j * 3) (.int .i64 x)).set (j * 3 + 1) (.int .i64 y)).set (j * 3 + 2) (.int .i64 z)) (j + 1) := fun i a hi ha => by
  by_cases e : i = j
  · subst e
    rw [ho] at ha
    injection ha with ha
    subst ha
    refine ⟨?_, ?_, ?_⟩
    · rw [List.getElem?_set_ne (by omega), List.getElem?_set_ne (by omega), List.getElem?_set_self (by omega)]
    · rw [List.getElem?_set_ne (by omega), List.getElem?_set_self (by simp; omega)]
    · rw [List.getElem?_set_self (by simp; omega)]
  · obtain ⟨g1, g2, g3⟩ := h i a (by omega) ha
    refine ⟨?_, ?_, ?_⟩
    · rw [List.getElem?_set_ne (by omega), List.getElem?_set_ne (by omega), List.getElem?_set_ne (by omega)]; exact g1
    · rw [List.getElem?_set_ne (by omega), List.getElem?_set_ne (by omega), List.getElem?_set_ne (by omega)]; exact g2
    · rw [List.getElem?_set_ne (by omega), List.getElem?_set_ne (by omega), List.getElem?_set_ne (by omega)]; exact g3
/-- What offsetsOf asks. -/
theorem PF.pa {k p q : Int} {L D X labels : List Int} {m wd N : Nat} (h : PF k p q L D X labels m wd N) : PA (orderA L D labels) := by
  have hd := h.dims
  refine ⟨by rw [orderA_len, h.lG]; have := h.m12; omega, fun a ha => ?_, fun a ha => ?_, ?_⟩
  · have h1 : a.2.1 ∈ dimsA (orderA L D labels) := List.mem_map_of_mem ha
    rw [dims_orderA] at h1
    exact hd.1 _ h1
  · obtain ⟨n, -, rfl⟩ := List.mem_map.1 ha
    show 0 ≤ prodL (D.drop (L.idxOf n + 1)) ∧ prodL (D.drop (L.idxOf n + 1)) ≤ 65536
    have h1 := prodL_pos (D := D.drop (L.idxOf n + 1)) (fun d hd => (h.dD d (List.mem_of_mem_drop hd)).1)
    have h2 := prodL_pos (D := D.take (L.idxOf n + 1)) (fun d hd => (h.dD d (List.mem_of_mem_take hd)).1)
    have h3 : prodL D = prodL (D.take (L.idxOf n + 1)) * prodL (D.drop (L.idxOf n + 1)) := by
      conv => lhs; rw [← List.take_append_drop (L.idxOf n + 1) D]
      unfold prodL
      rw [List.foldl_append, foldl_mul]
      rfl
    have h4 := Int.mul_le_mul_of_nonneg_right h2 (show 0 ≤ prodL (D.drop (L.idxOf n + 1)) by omega)
    rw [Int.one_mul, ← h3, h.pD] at h4
    have := h.n1
    omega
  · rw [dims_orderA, hd.2.1]; have := h.n1; omega
/-- Where the elements are, in the order of the labels. -/
theorem PF.offs {k p q : Int} {L D X labels : List Int} {m wd N : Nat} (h : PF k p q L D X labels m wd N) : (offsA (orderA L D labels)).length = N ∧ ∀ c, c < N → (offsA (orderA L D labels))[c]? = some (offI D (viaL L labels (idxL (dimsVia L D labels) (c : Int)))) := by
  have e := offsA_order (D := D) h.nd (by rw [h.lL, h.lD]) h.pm (fun d hd => (h.dD d hd).1)
  rw [h.dims.2.1] at e
  rw [e]
  refine ⟨by simp, fun c hc => ?_⟩
  rw [List.getElem?_map, List.getElem?_range (by simpa using hc)]
  rfl
theorem PF.order {k p q : Int} {L D X labels : List Int} {m wd N : Nat} (h : PF k p q L D X labels m wd N) {j z : Nat} {n d : Int} (hj : labels[j]? = some n) (hz : L.idxOf n = z) (hd : D[z]? = some d) : (orderA L D labels)[j]? = some (n, d, prodL (D.drop (z + 1))) ∧ (axesL L D)[z]? = some (n, d, prodL (D.drop (z + 1))) := by
  refine ⟨?_, ?_⟩
  · unfold orderA
    rw [List.getElem?_map, hj]
    show some (n, D.getD (L.idxOf n) 0, prodL (D.drop (L.idxOf n + 1))) = _
    rw [hz, getD_at hd]
  · have hm : n ∈ L := h.pm.subset (List.mem_of_getElem? hj)
    have h1 := at_idxOf hm
    rw [hz] at h1
    exact axesL_at h1 hd

theorem PF.room {k p q : Int} {L D X labels : List Int} {m wd N : Nat} (h : PF k p q L D X labels m wd N) : ∀ o ∈ offsA (orderA L D labels), 0 ≤ o ∧ o ≤ 4096 ∧ o.toNat * wd + wd ≤ X.length := fun o ho => by
  obtain ⟨c, hc, e⟩ := List.mem_iff_getElem.1 ho
  have h1 := h.offs.2 c (by rw [← h.offs.1]; exact hc)
  rw [List.getElem?_eq_getElem hc, e] at h1
  obtain ⟨z, h2, h3, h4, -⟩ := h.off c
  injection h1 with h1
  have h5 := h.n1
  rw [h1, h2, Int.toNat_natCast]
  exact ⟨by omega, by omega, h4⟩
theorem PF.perm {k p q : Int} {L D X labels : List Int} {m wd N : Nat} (h : PF k p q L D X labels m wd N) : alongL wd X 0 (offsA (orderA L D labels)) N = permX wd L D X labels N := by
  have e : N = (prodL D).toNat := by rw [h.pD]; simp
  have e2 := permX_offs (wd := wd) (X := X) h.nd (by rw [h.lL, h.lD]) h.pm (fun d hd => (h.dD d hd).1)
  rw [← e] at e2
  rw [e2]
  unfold alongL
  rw [List.take_of_length_le (by rw [h.offs.1]; exact Nat.le_refl _)]
  simp only [Int.zero_add]

end Go.Proofs.Ytdheakjjnaifkaa
namespace Go.Proofs.Ytdheakjjnaifkaa
set_option maxRecDepth 20000
open Go.RowKit

end Go.Proofs.Ytdheakjjnaifkaa
namespace Go.Proofs.Ytdheakjjnaifkaa
set_option maxRecDepth 20000
open Go.RowKit

theorem tensorB_axes {k p q : Int} {L D X : List Int} (ht : tensorB k p q L D X = true) : AxesV L D ∧ 0 ≤ sizeI L D := by
  obtain ⟨-, h0, -, -⟩ := tensorB_inv ht
  rcases sizeI_cases L D with ⟨h, -⟩ | ⟨-, h2, -, -⟩
  · omega
  · exact ⟨h2, h0⟩
theorem sort_set {L D : List Int} (h : AxesV L D) : SetV L (sortL L) := setV_perm (sortL_perm L) h.2.2.2.2

end Go.Proofs.Ytdheakjjnaifkaa
namespace Go.Proofs.Ytdheakjjnaifkaa
set_option maxRecDepth 20000
open Go.RowKit

end Go.Proofs.Ytdheakjjnaifkaa
