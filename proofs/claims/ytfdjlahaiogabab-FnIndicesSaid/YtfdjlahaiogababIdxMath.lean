
/- The law FnIndices, its mathematics: an element is found where it is put, and nothing else changes. -/
import Derived.Test.YtfdjlahaiogababJoinMath
import Derived.Test.YtfdjlahaiogababPermSpec
import Derived.Test.YtfdjlahaiogababDrawn
import Derived.Test.YtfdjlahaiogababElemAt
import Derived.Test.YtfdjlahaiogababRs
namespace Go.Proofs.Ytfdjlahaiogabab
set_option maxRecDepth 20000
open Go.RowKit

theorem get_put {X x : List Int} {wd n : Nat} (hx : x.length = wd) (h : n * wd + wd ≤ X.length) : getL wd (putL X (n * wd) x) n = x := by
  unfold getL putL
  rw [List.append_assoc, List.drop_left' (by rw [List.length_take]; omega), List.take_left' hx]
theorem put_back {X x : List Int} {wd n : Nat} (hx : x.length = wd) (h : n * wd + wd ≤ X.length) : putL (putL X (n * wd) x) (n * wd) (getL wd X n) = X := by
  have hl : (getL wd X n).length = x.length := by rw [getL_len h, hx]
  have e1 : (putL X (n * wd) x).take (n * wd) = X.take (n * wd) := by
    unfold putL
    rw [List.append_assoc, List.take_left' (by rw [List.length_take]; omega)]
  have e2 : (putL X (n * wd) x).drop (n * wd + x.length) = X.drop (n * wd + wd) := by
    unfold putL
    rw [List.drop_left' (by rw [List.length_append, List.length_take]; omega), hx]
  show (putL X (n * wd) x).take (n * wd) ++ getL wd X n ++ (putL X (n * wd) x).drop (n * wd + (getL wd X n).length) = X
  rw [hl, e1, e2]
  unfold getL
  rw [List.append_assoc, show X.drop (n * wd + wd) = (X.drop (n * wd)).drop wd by rw [List.drop_drop], List.take_append_drop, List.take_append_drop]
theorem index_facts {k p q : Int} {L D X : List Int} (_ht : tensorB k p q L D X = true) {n : Nat} (hn : (n : Int) < sizeI L D) : ∃ ix, inSize L D n = true ∧ indexAtL L D n = ix ∧ True :=
  ⟨_, by unfold inSize; rw [decide_eq_true (by omega : (0 : Int) ≤ n), decide_eq_true hn]; rfl, rfl, trivial⟩
structure IdxR (k p q : Int) (L D X x : List Int) (n : Nat) (ix Y z : List Int) : Prop where
  ins : inSize L D n = true
  at_ : indexAtL L D n = ix
  no : inSize L D (sizeI L D) = false
  off : offsetI L D ix = n
  lix : ix.length ≤ 4096
  sx : setB k p q L D X ix x = true
  ex : setElemL k q L D X ix x = Y
  ty : tensorB k p q L D Y = true
  ey : elemAtL k p q L D Y ix = x
  ez : elemAtL k p q L D X ix = z
  lz : z.length ≤ 4096
  sz : setB k p q L D Y ix z = true
  bk : setElemL k q L D Y ix z = X
  sc : scalarL k p q x = x
theorem idx_all {k p q : Int} {L D X x : List Int} (ht : tensorB k p q L D X = true) (hx : ElemV k p q x) {n : Nat} (hn : (n : Int) < sizeI L D) : ∃ ix Y z, IdxR k p q L D X x n ix Y z := by
  obtain ⟨hr, h0, hlx, hwx⟩ := tensorB_inv ht
  have ha := tensor_axes ht
  have hw := ring_width hr
  have hs : sizeI L D = prodL D ∧ 1 ≤ prodL D ∧ prodL D ≤ 4096 := by
    rcases sizeI_cases L D with ⟨h, -⟩ | ⟨h1, -, h3, h4⟩
    · omega
    · exact ⟨h1, h3, h4⟩
  have hD : ∀ d ∈ D, 1 ≤ d := fun d hd => (ha.2.2.2.1 d hd).1
  obtain ⟨wd, hwd⟩ : ∃ wd : Nat, widthI k q = wd := ⟨(widthI k q).toNat, by omega⟩
  obtain ⟨N, hN⟩ : ∃ N : Nat, prodL D = N := ⟨(prodL D).toNat, by omega⟩
  have hX : X.length = N * wd := by rw [hs.1, hN, hwd, ← Int.natCast_mul] at hlx; omega
  have hxl : x.length = wd := by have := hx.1; omega
  have hnN : n < N := by omega
  have hin : n * wd + wd ≤ X.length := by
    rw [hX]
    calc n * wd + wd = (n + 1) * wd := by rw [Nat.add_mul, Nat.one_mul]
      _ ≤ N * wd := Nat.mul_le_mul_right _ (by omega)
  have h1 : inSize L D n = true := by unfold inSize; rw [decide_eq_true (by omega : (0 : Int) ≤ n), decide_eq_true hn]; rfl
  have h2 : indexAtL L D n = idxL D n := by unfold indexAtL; rw [if_pos h1]
  have hI := idxL_in hD (n : Int)
  have h3 : offsetI L D (idxL D n) = n := by rw [offsetI_yes ⟨h0, hI⟩, off_idx hD (by omega) (by omega)]
  have hox : okElemB k p q x = true := by unfold okElemB; rw [hr, elemB_true.2 hx]; rfl
  have h4 : ∀ Z z, tensorB k p q L D Z = true → okElemB k p q z = true → setB k p q L D Z (idxL D n) z = true := fun Z z hZ hz => by
    unfold setB; rw [h3, decide_eq_true (by omega : (0 : Int) ≤ n), hZ, hz]; rfl
  have h5 : ∀ Z z, setElemL k q L D Z (idxL D n) z = putL Z (n * wd) z := fun Z z => by
    unfold setElemL; rw [h3, hwd]; rfl
  have h6 : ∀ Z, tensorB k p q L D Z = true → elemAtL k p q L D Z (idxL D n) = getL wd Z n := fun Z hZ => by
    unfold elemAtL; rw [if_pos ⟨by rw [h3]; omega, hZ⟩, h3, hwd]; rfl
  have hz : ElemV k p q (getL wd X n) := getL_elem hwd hX hwx hnN
  have hoz : okElemB k p q (getL wd X n) = true := by unfold okElemB; rw [hr, elemB_true.2 hz]; rfl
  have hYl : (putL X (n * wd) x).length = X.length := putL_len2 (by omega)
  have hY : tensorB k p q L D (putL X (n * wd) x) = true := (tensorB_of hr ha (by omega) (by rw [hYl, hlx, hs.1]) (putL_within hwx hx.2)).1
  refine ⟨idxL D n, putL X (n * wd) x, getL wd X n, h1, h2, ?_, h3, ?_, h4 _ _ ht hox, h5 _ _, hY, ?_, h6 _ ht, ?_, h4 _ _ hY hoz, ?_, ?_⟩
  · unfold inSize; rw [decide_eq_false (by omega : ¬ sizeI L D < sizeI L D), Bool.and_false]
  · rw [idxL_len]; have h7 := ha.1; have h8 := ha.2.1; omega
  · rw [h6 _ hY, get_put hxl hin]
  · rw [getL_len hin]; omega
  · rw [h5, put_back hxl hin]
  · unfold scalarL; rw [if_pos hox]
end Go.Proofs.Ytfdjlahaiogabab
