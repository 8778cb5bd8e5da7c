
/- The calls of the law FnElemText, on what it draws. -/
import Derived.Test.YtceidekfcnmeaaaGreatDoorDrawn
import Derived.Test.YtceidekfcnmeaaaGreatDoorSameKit
import Derived.Test.YtceidekfcnmeaaaGreatDoorParseRing
import Derived.Test.YtceidekfcnmeaaaGreatDoorParTenImpl
namespace Go.Proofs.YtceidekfcnmeaaaGreatDoor
set_option maxRecDepth 20000
open Go.RowKit

theorem elem_inI {k p q : Int} {xs : List Int} (hr : ringB k p q = true) (h : ElemV k p q xs) : allI xs := fun z hz => by
  have h1 := h.2 z hz
  have h2 := ring_top hr
  unfold Go.Proofs.YtceidekfcnmeaaaGreatDoor.inI; omega
theorem elem_short {k p q : Int} {xs : List Int} (hr : ringB k p q = true) (h : ElemV k p q xs) : 1 ≤ xs.length ∧ xs.length ≤ 6 := by
  have h1 := h.1
  have h2 := ring_width hr
  omega
theorem fmtTen_len {k p q : Int} {L D X : List Int} (ht : tensorB k p q L D X = true) : (fmtTen k p q L D X).length ≤ 1048576 := by
  have hf := TF.of ht
  have hI := ten_inI ht
  rw [fmtTen_yes ht]
  have h1 := joinL_bound 32 126 _ (tenWs_small hI.1 hI.2.1 hI.2.2 hf.w6.2 hf.lX)
  rw [tenWs_len hf.ax.2.1] at h1
  have h0 := hf.ax.1
  have h4 := hf.n1.2
  have h2 := Nat.mul_le_mul_right 127 (show L.length + 1 + (prodL D).toNat ≤ 4109 by omega)
  omega
section
variable {B N n : Nat} {lv dv xv gv : Value} {k p q : Int} {L D X x : List Int} {w : World}
theorem fmt_ring_yes (hv : LibVars w) : Calls Tryz.prog 8 #[ringV k p q] w fun e w' => e = .returned (.string ⟨(fmtRing k p q).toArray⟩) ∧ Below w.heap.size w w' := fmt_ring_impl k p q w hv.tab
theorem parse_ring_yes (hr : ringB k p q = true) (hv : LibVars w) :
    Calls Tryz.prog 7 #[.string ⟨(fmtRing k p q).toArray⟩] w fun e w' => e = .returned (.tuple #[ringV k p q, .bool true]) ∧ Below w.heap.size w w' := by
  have e1 : fmtRing k p q = ringT k p q := by unfold fmtRing; rw [if_pos hr]
  have hl := (ringT_len hr).2
  have hs : (⟨(fmtRing k p q).toArray⟩ : ByteArray).size ≤ 1048576 := by
    show (fmtRing k p q).toArray.size ≤ _
    rw [List.size_toArray, e1]; omega
  refine (parse_ring_impl _ w hs hv).mono ?_
  rintro e w' ⟨k', p', q', b, rfl, ha, hb⟩
  obtain ⟨rfl, rfl, rfl, rfl⟩ := ha.unique (.inl ⟨rfl, hr, e1⟩)
  exact ⟨rfl, hb⟩
theorem fmt_elem_yes (hr : ringB k p q = true) (hx : ElemV k p q x) (h : Rd B w gv (ints x)) (hB : B ≤ w.heap.size) (hv : LibVars w) :
    Calls Tryz.prog 10 #[ringV k p q, gv] w fun e w' => e = .returned (.string ⟨(fmtElem k p q x).toArray⟩) ∧ Below w.heap.size w w' :=
  fmt_elem_impl h hB (by have := elem_short hr hx; omega) (elem_inI hr hx) hv.tab
theorem parse_elem_yes (hr : ringB k p q = true) (hx : ElemV k p q x) (hv : LibVars w) :
    Calls Tryz.prog 9 #[ringV k p q, .string ⟨(fmtElem k p q x).toArray⟩] w fun e w' => ∃ a m c, e = .returned (.tuple #[.slice a m c, .bool true]) ∧ Own w' w.heap.size w'.heap.size (.slice a m c) x ∧ Below w.heap.size w w' := by
  have hok : okElemB k p q x = true := by simp [okElemB, elemB, hr, hx]
  have e1 := fmtElem_yes hok
  have hsh := elem_short hr hx
  have hne : x ≠ [] := fun e => by rw [e] at hsh; simp at hsh
  have hl := join_len 44 x (elem_inI hr hx)
  have hs : (⟨(fmtElem k p q x).toArray⟩ : ByteArray).size ≤ 1048576 := by
    show (fmtElem k p q x).toArray.size ≤ _
    rw [List.size_toArray, e1]; omega
  refine (parse_elem_impl k p q _ w hs hv).mono ?_
  rintro e w' ⟨v, zs, b, rfl, ha, ho, hb⟩
  obtain ⟨rfl, rfl⟩ := ha.unique (.inl ⟨rfl, siL_join (c := 44) (by decide) hne (elem_inI hr hx) e1, hok⟩)
  have hown : Own w' w.heap.size w'.heap.size v zs := ⟨ho, fun g hg => (ho.lt g hg).2, Nat.le_refl _⟩
  obtain ⟨a, m, c, rfl⟩ := own_slice hown
  exact ⟨a, m, c, rfl, hown, hb⟩
theorem fmt_ten_yes (ht : tensorB k p q L D X = true) (h : RdT B w lv dv xv L D X) (hB : B ≤ w.heap.size) (hv : LibVars w) :
    Calls Tryz.prog 12 #[ringV k p q, tenV lv dv xv] w fun e w' => e = .returned (.string ⟨(fmtTen k p q L D X).toArray⟩) ∧ Below w.heap.size w w' :=
  fmt_ten_impl h hB (tenlen ht) (ten_inI ht).1 (ten_inI ht).2.1 (ten_inI ht).2.2 hv.tab
theorem parse_ten_yes (ht : tensorB k p q L D X = true) (hv : LibVars w) :
    Calls Tryz.prog 11 #[ringV k p q, .string ⟨(fmtTen k p q L D X).toArray⟩] w fun e w' => ∃ a1 n1 c1 a2 n2 c2 a3 n3 c3, e = .returned (.tuple #[tenV (.slice a1 n1 c1) (.slice a2 n2 c2) (.slice a3 n3 c3), .bool true]) ∧ OwnG w' w.heap.size w'.heap.size [(.slice a1 n1 c1, L), (.slice a2 n2 c2, D), (.slice a3 n3 c3, X)] ∧ Below w.heap.size w w' := by
  have hs : (⟨(fmtTen k p q L D X).toArray⟩ : ByteArray).size ≤ 1048576 := by
    show (fmtTen k p q L D X).toArray.size ≤ _
    rw [List.size_toArray]; exact fmtTen_len ht
  obtain ⟨-, e1, e2, e3, e4⟩ := par_is (s := ⟨(fmtTen k p q L D X).toArray⟩) ht rfl
  refine (par_ten_impl k p q _ w hs hv).mono ?_
  intro e w' h
  unfold ParPost at h
  rw [e4, if_pos rfl, if_pos rfl, if_pos rfl, e1, e2, e3] at h
  obtain ⟨lv, dv, xv, rfl, ho, hb⟩ := h
  obtain ⟨a1, n1, c1, rfl⟩ := own_slice (show Own _ _ _ lv L from ho.1 (lv, L) (by simp))
  obtain ⟨a2, n2, c2, rfl⟩ := own_slice (show Own _ _ _ dv D from ho.1 (dv, D) (by simp))
  obtain ⟨a3, n3, c3, rfl⟩ := own_slice (show Own _ _ _ xv X from ho.1 (xv, X) (by simp))
  exact ⟨_, _, _, _, _, _, _, _, _, rfl, ho, hb⟩
end
theorem Rs.boxY {w0 W : World} {bs : List BxE} {rows : List RowE} (h : Rs w0 W bs rows) (a b c : Value) (T : TypeId) : ∃ WX g, W.alloc (.cells #[a, b, c] T) = WX ∧ W.heap.size = g ∧ Rs w0 WX ((g, a, b, c) :: bs) rows := ⟨_, _, rfl, rfl, h.box a b c T⟩
end Go.Proofs.YtceidekfcnmeaaaGreatDoor
