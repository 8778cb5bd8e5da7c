
/- Slices that are only read: what a slice value reads as, in a world, below a block number. -/
import Derived.WalkKit
import Derived.WalkSpells
import Derived.WalkLawsBesides
namespace Go.Proofs.YtghhlknfeogadaaDoor
set_option maxRecDepth 20000
open Go Go.RowKit

/-- v is a slice whose cells, one an element, are xs; they lie below block B. -/
def Rd (B : Nat) (w : World) (v : Value) (xs : List Value) : Prop :=
  (xs = [] ∧ ∃ a cap, v = .slice a 0 cap) ∨
  ∃ b off cap, v = .slice (some ⟨b, off, none⟩) xs.length cap ∧ b < B ∧ xs.length ≤ cap ∧ ∀ i u, xs[i]? = some u → w.cell? ⟨b, off + i, none⟩ = some u
theorem Rd.below {B B' : Nat} {w w' : World} {v : Value} {xs : List Value} (h : Rd B w v xs) (hb : Below B' w w') (hB : B ≤ B') : Rd B w' v xs := by
  rcases h with h | ⟨b, off, cap, hv, hlt, hcp, hc⟩
  · exact .inl h
  · exact .inr ⟨b, off, cap, hv, hlt, hcp, fun i u hi => (hb.cell (p := ⟨b, off + i, none⟩) (Nat.lt_of_lt_of_le hlt hB)).trans (hc i u hi)⟩
theorem Rd.mono {B B' : Nat} {w : World} {v : Value} {xs : List Value} (h : Rd B w v xs) (hB : B ≤ B') : Rd B' w v xs := by
  rcases h with h | ⟨b, off, cap, hv, hlt, hcp, hc⟩
  · exact .inl h
  · exact .inr ⟨b, off, cap, hv, Nat.lt_of_lt_of_le hlt hB, hcp, hc⟩
theorem Rd.of_own {base : Nat} {E : TypeId} {w : World} {v : Value} {n : Nat} {xs : List Value} (h : w.ownsRow base E 1 v n xs) : Rd w.heap.size w v xs := by
  have hlen : xs.length = n := by have := h.1; omega
  have hlt := h.lt
  rcases h.2 with ⟨rfl, rfl⟩ | ⟨g, cap, cur, rfl, -, hg, hnc, -⟩
  · exact .inl ⟨List.eq_nil_of_length_eq_zero hlen, _, _, rfl⟩
  · refine .inr ⟨g, 0, cap, by rw [hlen], (hlt g rfl).2, by omega, fun i u hi => ?_⟩
    have hi' : i < n := by
      have := (List.getElem?_eq_some_iff.1 hi).1
      omega
    rw [Nat.zero_add, h.cellAt i (by omega)]
    exact hi
theorem Rd.drewN {B : Nat} {w : World} {v : Value} {xs : List Value} (h : Rd B w v xs) (k : Nat) : Rd B (w.drewN k) v xs := by
  rcases h with h | ⟨b, off, cap, hv, hlt, hcp, hc⟩
  · exact .inl h
  · exact .inr ⟨b, off, cap, hv, hlt, hcp, fun i u hi => hc i u hi⟩
def ints (zs : List Int) : List Value := zs.map (Value.int .i64)
def strs (ss : List ByteArray) : List Value := ss.map Value.string
theorem ints_len (zs : List Int) : (ints zs).length = zs.length := by simp [ints]
theorem strs_len (ss : List ByteArray) : (strs ss).length = ss.length := by simp [strs]
theorem ints_at (zs : List Int) (i : Nat) (h : i < zs.length) : (ints zs)[i]? = some (.int .i64 zs[i]) := by simp [ints, h]
theorem strs_at (ss : List ByteArray) (i : Nat) (h : i < ss.length) : (strs ss)[i]? = some (.string ss[i]) := by simp [strs, h]
/-- A read slice of integers: nil or empty, or so many cells. -/
theorem Rd.ints_cases {B : Nat} {w : World} {v : Value} {zs : List Int} (h : Rd B w v (ints zs)) :
    (zs = [] ∧ ∃ a cap, v = .slice a 0 cap) ∨ ∃ b off cap, v = .slice (some ⟨b, off, none⟩) zs.length cap ∧ b < B ∧ zs.length ≤ cap ∧ ∀ i (hi : i < zs.length), w.cell? ⟨b, off + i, none⟩ = some (.int .i64 zs[i]) := by
  rcases h with ⟨h, a, cap, hv⟩ | ⟨b, off, cap, hv, hlt, hcp, hc⟩
  · exact .inl ⟨by simpa [ints] using h, a, cap, hv⟩
  · exact .inr ⟨b, off, cap, by rw [hv, ints_len], hlt, by rw [ints_len] at hcp; exact hcp, fun i hi => hc i _ (ints_at zs i hi)⟩
theorem Rd.strs_cases {B : Nat} {w : World} {v : Value} {ss : List ByteArray} (h : Rd B w v (strs ss)) :
    (ss = [] ∧ ∃ a cap, v = .slice a 0 cap) ∨ ∃ b off cap, v = .slice (some ⟨b, off, none⟩) ss.length cap ∧ b < B ∧ ss.length ≤ cap ∧ ∀ i (hi : i < ss.length), w.cell? ⟨b, off + i, none⟩ = some (.string ss[i]) := by
  rcases h with ⟨h, a, cap, hv⟩ | ⟨b, off, cap, hv, hlt, hcp, hc⟩
  · exact .inl ⟨by simpa [strs] using h, a, cap, hv⟩
  · exact .inr ⟨b, off, cap, by rw [hv, strs_len], hlt, by rw [strs_len] at hcp; exact hcp, fun i hi => hc i _ (strs_at ss i hi)⟩
theorem ints_form {B : Nat} {v : Value} {xs : List Int} {w : World} (h : Rd B w v (ints xs)) : ∃ a cap, v = .slice a xs.length cap ∧ (0 < xs.length → ∃ b off, a = some ⟨b, off, none⟩ ∧ b < B ∧ ∀ i (h : i < xs.length), w.cell? ⟨b, off + i, none⟩ = some (.int .i64 xs[i])) := by
  rcases h.ints_cases with ⟨rfl, a, ca, rfl⟩ | ⟨b, off, ca, rfl, hlt, -, hc⟩
  · exact ⟨a, ca, rfl, fun h => by simp at h⟩
  · exact ⟨_, ca, rfl, fun _ => ⟨b, off, rfl, hlt, hc⟩⟩
theorem ints_cell {w : World} {b off n : Nat} {xs : List Int} (hn : xs.length = n) (hc : ∀ i (h : i < xs.length), w.cell? ⟨b, off + i, none⟩ = some (.int .i64 xs[i])) {k : Nat} (hk : k < n) :
    ∃ x, w.cell? ⟨b, off + k, none⟩ = some (.int .i64 x) ∧ Hid (xs[k]? = some x) :=
  ⟨xs[k]'(by omega), hc k (by omega), List.getElem?_eq_getElem (by omega)⟩
theorem strs_cell {w : World} {b off n : Nat} {xs : List ByteArray} (hn : xs.length = n) (hc : ∀ i (h : i < xs.length), w.cell? ⟨b, off + i, none⟩ = some (.string xs[i])) {k : Nat} (hk : k < n) :
    ∃ x, w.cell? ⟨b, off + k, none⟩ = some (.string x) ∧ Hid (xs[k]? = some x) :=
  ⟨xs[k]'(by omega), hc k (by omega), List.getElem?_eq_getElem (by omega)⟩
theorem take_step {α : Type} {xs ys : List α} {k : Nat} {x : α} (h : xs.take k = ys.take k) (hx : xs[k]? = some x) (hy : ys[k]? = some x) : xs.take (k + 1) = ys.take (k + 1) := by
  rw [List.take_add_one, List.take_add_one, h, hx, hy]
theorem ne_of_step {α : Type} {xs ys : List α} {k : Nat} {x y : α} (hx : xs[k]? = some x) (hy : ys[k]? = some y) (h : x ≠ y) : xs ≠ ys := by
  intro e; rw [e, hy] at hx; exact h (Option.some.inj hx).symm
end Go.Proofs.YtghhlknfeogadaaDoor
