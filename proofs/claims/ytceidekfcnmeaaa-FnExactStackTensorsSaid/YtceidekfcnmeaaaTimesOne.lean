
/- (Ring).timesPolynomial. -/
import Derived.Test.YtceidekfcnmeaaaPlusSpec
import Derived.Test.YtceidekfcnmeaaaPow2
import Derived.StillTailTactics
import Derived.Test.YtceidekfcnmeaaaZero
namespace Go.Proofs.Ytceidekfcnmeaaa
set_option maxRecDepth 20000
open Go.RowKit

end Go.Proofs.Ytceidekfcnmeaaa
namespace Go.Proofs.Ytceidekfcnmeaaa
set_option maxRecDepth 20000
open Go.RowKit

theorem new_one {w W : World} {v : Int} (hb : Below w.heap.size w W) : NewRow w [v] (.returned (.slice (some ⟨W.heap.size, 0, none⟩) 1 1)) (W.alloc (.cells #[.int .i64 v] 3)) :=
  ⟨_, rfl, Own.of (n := 1) (World.ownsRow_lit (base := w.heap.size) (e := 3) (size := 1) W #[.int .i64 v] 1 hb.size (by unfold maxLen; omega) rfl) rfl, hb.alloc hb.size _⟩

theorem rd_one {B : Nat} {w : World} {v : Value} {xs : List Int} (h : Rd B w v (ints xs)) (hl : xs.length = 1) (hB : B ≤ w.heap.size) : ∃ b o c, v = .slice (some ⟨b, o, none⟩) 1 c ∧ b < w.heap.size ∧ w.cell? ⟨b, o, none⟩ = some (.int .i64 (xs.getD 0 0)) := by
  rcases h.ints_cases with ⟨rfl, _⟩ | ⟨b, off, ca, rfl, hlt, -, hc⟩
  · simp at hl
  · have h0 : 0 < xs.length := by rw [hl]; exact Nat.zero_lt_one
    exact ⟨b, off, ca, by rw [hl], Nat.lt_of_lt_of_le hlt hB, by have := hc 0 h0; rw [List.getD_eq_getElem?_getD, List.getElem?_eq_getElem h0]; simpa using this⟩
end Go.Proofs.Ytceidekfcnmeaaa
namespace Go.Proofs.Ytceidekfcnmeaaa
set_option maxRecDepth 20000
open Go.RowKit

theorem store_one {w w2 : World} {B g : Nat} {v : Int} (hB : B = w.heap.size) (ho : w2.ownsRow B 3 1 (.slice (some ⟨g, 0, none⟩) 1 1) 1 (ints (zerosL 1))) (hb : Below w.heap.size w w2) (hg : w.heap.size ≤ g) : NewRow w [v] (.returned (.slice (some ⟨g, 0, none⟩) 1 1)) (w2.setCell ⟨g, 0, none⟩ (.int .i64 v)).drew :=
  ⟨_, rfl, Own.of (n := 1) (by
    have h := (ho.stored 0 (.int .i64 v)).1
    rw [← ints_set] at h
    rw [← hB]
    exact h) rfl, (hb.setCell hg _).drew⟩
theorem row_at {W : World} {w2 : World} {B g m : Nat} {xs : List Value} (h : w2.ownsRow B 3 1 (.slice (some ⟨(W.alloc (.cells xs.toArray 31)).heap.size, 0, none⟩) m m) m (ints (zerosL m))) (hg : g = W.heap.size + 1) : w2.ownsRow B 3 1 (.slice (some ⟨g, 0, none⟩) m m) m (ints (zerosL m)) := by
  rw [show (W.alloc (.cells xs.toArray 31)).heap.size = g from by rw [hg]; simp] at h
  exact h

end Go.Proofs.Ytceidekfcnmeaaa
namespace Go.Proofs.Ytceidekfcnmeaaa
set_option maxRecDepth 20000
open Go.RowKit

end Go.Proofs.Ytceidekfcnmeaaa
namespace Go.Proofs.Ytceidekfcnmeaaa
set_option maxRecDepth 20000
open Go.RowKit

noncomputable def twoOk (k p n : Int) (xs ys : List Int) : Bool := ringB k p n && (elemB k p n xs && elemB k p n ys)
noncomputable def addElemL (k p n : Int) (xs ys : List Int) : List Int := if twoOk k p n xs ys = true then plusL k p xs ys else []
theorem twoOk_parts {k p n : Int} {xs ys : List Int} (h : twoOk k p n xs ys = true) : ringB k p n = true ∧ ElemV k p n xs ∧ ElemV k p n ys := by
  unfold twoOk at h
  rw [Bool.and_eq_true, Bool.and_eq_true] at h
  exact ⟨h.1, elemB_true.1 h.2.1, elemB_true.1 h.2.2⟩
theorem addElem_len (k p n : Int) (xs ys : List Int) : (addElemL k p n xs ys).length ≤ 6 := by
  unfold addElemL
  by_cases h : twoOk k p n xs ys = true
  · rw [if_pos h]
    have h1 := twoOk_parts h
    have h2 := ring_width h1.1
    have h3 := h1.2.1.1
    simp [plusL]; omega
  · rw [if_neg h]; simp

end Go.Proofs.Ytceidekfcnmeaaa
namespace Go.Proofs.Ytceidekfcnmeaaa
set_option maxRecDepth 20000
open Go.RowKit

noncomputable def mulElemL (k p n : Int) (xs ys : List Int) : List Int := if twoOk k p n xs ys = true then timesL k p xs ys else []
theorem mulElem_len (k p n : Int) (xs ys : List Int) : (mulElemL k p n xs ys).length ≤ 6 := by
  unfold mulElemL
  by_cases h : twoOk k p n xs ys = true
  · rw [if_pos h]
    have h1 := twoOk_parts h
    have h2 := ring_width h1.1
    have h3 := h1.2.1.1
    have h5 : xs.length ≤ 6 := by omega
    unfold timesL
    split
    · simp
    · split
      · simp
      · split
        · simp
        · split
          · simp
          · simpa using h5
  · rw [if_neg h]; simp

end Go.Proofs.Ytceidekfcnmeaaa
