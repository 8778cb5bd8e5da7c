
/- (Tensor).permuted: the axes in another order. -/
import Derived.Test.YtfdjlahaiogababAlong
import Derived.Test.YtfdjlahaiogababFind
import Derived.Test.YtfdjlahaiogababRa
import Derived.Deep.RegionLaw
import Derived.Test.YtfdjlahaiogababShelfSort
import Derived.Test.YtfdjlahaiogababZero
import Derived.Test.YtfdjlahaiogababTensorOk
import Derived.Test.YtfdjlahaiogababRs
import Derived.Sort.OwnSortedInts
import Derived.Deep.RegionHeld3
import Derived.Test.YtfdjlahaiogababPermSpec
import Derived.Test.YtfdjlahaiogababTenOkImpl
namespace Go.Proofs.Ytfdjlahaiogabab
set_option maxRecDepth 20000
open Go.RowKit

/-- A store elsewhere. -/
theorem Rs.else {w0 wr : World} {bs : List BxE} {rows : List RowE} {g : Nat} (h : Rs w0 wr bs rows) (h0 : w0.heap.size ≤ g) (hb : ∀ b ∈ bs, b.1 ≠ g) (hr : ∀ r ∈ rows, r.1.ownBlock ≠ some g) (i : Nat) (u : Value) : Rs w0 (wr.setCell ⟨g, i, none⟩ u) bs rows :=
  ⟨h.bel.setCell h0 _, fun r hm => (h.own r hm).kept (grownBy_set wr g i u) (by
    cases hv : r.1.ownBlock with
    | none => exact .inl rfl
    | some k => exact .inr fun e => by injection e with e; subst e; exact hr r hm hv), h.apart, fun b hm => (h.bx b hm).far (fun e => hb b hm e) h0 u i, h.far, h.dis⟩
/-- The first j axes in the order of the labels are written. -/
def OrdTo (L D labels : List Int) (cs : List Value) (j : Nat) : Prop := ∀ i a, i < j → (orderA L D labels)[i]? = some a → cs[i * 3]? = some (.int .i64 a.1) ∧ cs[i * 3 + 1]? = some (.int .i64 a.2.1) ∧ cs[i * 3 + 2]? = some (.int .i64 a.2.2)
theorem OrdTo.step {L D labels : List Int} {cs : List Value} {j : Nat} {x y z : Int} (h : OrdTo L D labels cs j) (ho : (orderA L D labels)[j]? = some (x, y, z)) (hl : j * 3 + 2 < cs.length) :
    OrdTo L D labels (((cs.set (j * 3) (.int .i64 x)).set (j * 3 + 1) (.int .i64 y)).set (j * 3 + 2) (.int .i64 z)) (j + 1) := fun i a hi ha => by
  by_cases e : i = j
  · subst e
    rw [ho] at ha
    injection ha with ha
    subst ha
    refine ⟨?_, ?_, ?_⟩
    · rw [List.getElem?_set_ne (by omega), List.getElem?_set_ne (by omega), List.getElem?_set_self (by omega)]
    · rw [List.getElem?_set_ne (by omega), List.getElem?_set_self (by simp; omega)]
    · rw [List.getElem?_set_self (by simp; omega)]
  · obtain ⟨g1, g2, g3⟩ := h i a (by omega) ha
    refine ⟨?_, ?_, ?_⟩
    · rw [List.getElem?_set_ne (by omega), List.getElem?_set_ne (by omega), List.getElem?_set_ne (by omega)]; exact g1
    · rw [List.getElem?_set_ne (by omega), List.getElem?_set_ne (by omega), List.getElem?_set_ne (by omega)]; exact g2
    · rw [List.getElem?_set_ne (by omega), List.getElem?_set_ne (by omega), List.getElem?_set_ne (by omega)]; exact g3
/-- Where the elements are, in the order of the labels. -/
theorem PF.offs {k p q : Int} {L D X labels : List Int} {m wd N : Nat} (h : PF k p q L D X labels m wd N) : (offsA (orderA L D labels)).length = N ∧ ∀ c, c < N → (offsA (orderA L D labels))[c]? = some (offI D (viaL L labels (idxL (dimsVia L D labels) (c : Int)))) := by
  have e := offsA_order (D := D) h.nd (by rw [h.lL, h.lD]) h.pm (fun d hd => (h.dD d hd).1)
  rw [h.dims.2.1] at e
  rw [e]
  refine ⟨by simp, fun c hc => ?_⟩
  rw [List.getElem?_map, List.getElem?_range (by simpa using hc)]
  rfl
theorem PF.room {k p q : Int} {L D X labels : List Int} {m wd N : Nat} (h : PF k p q L D X labels m wd N) : ∀ o ∈ offsA (orderA L D labels), 0 ≤ o ∧ o ≤ 4096 ∧ o.toNat * wd + wd ≤ X.length := fun o ho => by
  obtain ⟨c, hc, e⟩ := List.mem_iff_getElem.1 ho
  have h1 := h.offs.2 c (by rw [← h.offs.1]; exact hc)
  rw [List.getElem?_eq_getElem hc, e] at h1
  obtain ⟨z, h2, h3, h4, -⟩ := h.off c
  injection h1 with h1
  have h5 := h.n1
  rw [h1, h2, Int.toNat_natCast]
  exact ⟨by omega, by omega, h4⟩
theorem PF.perm {k p q : Int} {L D X labels : List Int} {m wd N : Nat} (h : PF k p q L D X labels m wd N) : alongL wd X 0 (offsA (orderA L D labels)) N = permX wd L D X labels N := by
  have e : N = (prodL D).toNat := by rw [h.pD]; simp
  have e2 := permX_offs (wd := wd) (X := X) h.nd (by rw [h.lL, h.lD]) h.pm (fun d hd => (h.dD d hd).1)
  rw [← e] at e2
  rw [e2]
  unfold alongL
  rw [List.take_of_length_le (by rw [h.offs.1]; exact Nat.le_refl _)]
  simp only [Int.zero_add]

/-- (Tensor).elem, as it is read. -/
theorem elem_rd {B : Nat} {lv dv xv : Value} {k p q : Int} {L D X : List Int} {w : World} (wd j : Nat) (h : RdT B w lv dv xv L D X) (hB : B ≤ w.heap.size) (hw : widthI k q = (wd : Int)) (hw1 : 1 ≤ wd) (hw2 : wd ≤ 6) (hj : j ≤ 4096) (hlen : j * wd + wd ≤ X.length) :
    Calls Try.prog 88 #[tenV lv dv xv, ringV k p q, .int .i64 j] w fun e w' => ∃ v, e = .returned v ∧ Rd B w' v (ints (getL wd X j)) ∧ Below w.heap.size w w' := by
  obtain ⟨al, cl, rfl, -⟩ := ints_form h.l
  obtain ⟨ad, cd, rfl, -⟩ := ints_form h.d
  have hgl := getL_len (w := wd) (X := X) (n := j) hlen
  rcases h.x.ints_cases with ⟨rfl, -⟩ | ⟨b, off, cx, rfl, hb, hcx, hc⟩
  · simp at hlen; omega
  · refine (elem_part (b := b) (off := off) (cx := cx) (mx := X.length) (ml := L.length) (cl := cl) (md := D.length) (cd := cd) (al := al) (ad := ad) (k := k) (p := p) (q := q) (w := w) wd j hw hw1 hw2 hj hlen hcx).mono ?_
    rintro e w' ⟨rfl, hbl⟩
    refine ⟨_, rfl, .inr ⟨b, off + j * wd, cx - j * wd, by rw [ints_len, hgl], hb, by rw [ints_len, hgl]; omega, fun i u hu => ?_⟩, hbl⟩
    unfold ints at hu
    rw [List.getElem?_map] at hu
    obtain ⟨x, hx, rfl⟩ := Option.map_eq_some_iff.1 hu
    have h1 := getL_some hx
    obtain ⟨h2, h3⟩ := List.getElem?_eq_some_iff.1 h1
    refine (hbl.cell (p := ⟨b, off + j * wd + i, none⟩) (Nat.lt_of_lt_of_le hb hB)).trans ?_
    rw [Nat.add_assoc, hc _ h2, h3]
end Go.Proofs.Ytfdjlahaiogabab
namespace Go.Proofs.Ytfdjlahaiogabab
set_option maxRecDepth 20000
open Go.RowKit

end Go.Proofs.Ytfdjlahaiogabab
namespace Go.Proofs.Ytfdjlahaiogabab
set_option maxRecDepth 20000
open Go.RowKit

end Go.Proofs.Ytfdjlahaiogabab
namespace Go.Proofs.Ytfdjlahaiogabab
set_option maxRecDepth 20000
open Go.RowKit

end Go.Proofs.Ytfdjlahaiogabab
