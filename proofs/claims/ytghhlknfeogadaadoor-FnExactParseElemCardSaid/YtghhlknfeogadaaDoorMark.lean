
/- laws.markText, markStringS, heldStringS: marks written into a slice of texts, and found again. -/
import Derived.Test.YtghhlknfeogadaaDoorNum
import Derived.Test.YtghhlknfeogadaaDoorToStrs
import Derived.WalkLawsBesides
import Derived.IntWalk
import Derived.Deep.RegionWith
namespace Go.Proofs.YtghhlknfeogadaaDoor
set_option maxRecDepth 20000
open Go.RowKit

/-- The mark k: the letter m and the decimal numeral. -/
def mt (k : Nat) : ByteArray := ⟨(109 :: Lib.decDigits k).toArray⟩
def dec0 (k : Nat) : List UInt8 := if k = 0 then [] else Lib.decDigits k
theorem dec0_step {k : Nat} (h : 0 < k) : dec0 k = dec0 (k / 10) ++ [UInt8.ofNat (48 + k % 10)] := by
  unfold dec0
  rw [if_neg (by omega)]
  by_cases h9 : k < 10
  · rw [dec_small h9, if_pos (by omega), Nat.mod_eq_of_lt h9]; rfl
  · rw [dec_big h9, if_neg (by omega)]
theorem dec0_len {m k : Nat} {acc : List UInt8} (h : dec0 m = dec0 k ++ acc) : acc.length ≤ m + 1 := by
  have h1 := dec_len m
  have h2 := congrArg List.length h
  rw [List.length_append] at h2
  unfold dec0 at h2
  split at h2
  · simp at h2; omega
  · omega

def marks (k n : Nat) : List ByteArray := (List.range n).map fun i => mt (k + i)
theorem marks_len (k n : Nat) : (marks k n).length = n := by simp [marks]
theorem marks_at (k n i : Nat) (h : i < n) : (marks k n)[i]? = some (mt (k + i)) := by simp [marks, h]
theorem grown_below {w w1 w2 : World} {r : Option Nat} (h : w.grownBy w1 r) (hb : Below w1.heap.size w1 w2) : w.grownBy w2 r :=
  ⟨hb.os.trans h.os, hb.tape.trans h.tape, hb.output.trans h.output, Nat.le_trans h.size hb.size, fun k hk hr => (hb.block k (Nat.lt_of_lt_of_le hk h.size)).trans (h.block k hk hr)⟩
theorem grown_setCell {w w1 : World} {r : Option Nat} (h : w.grownBy w1 r) {p : Addr} (hp : some p.block = r) (u : Value) : w.grownBy (w1.setCell p u) r :=
  ⟨h.os, h.tape, h.output, by simpa using h.size, fun k hk hr => (Below.heap_setCell w1 p u k (fun e => hr (by rw [e, hp]))).trans (h.block k hk hr)⟩
theorem own_by {w w' : World} {B : Nat} {E : TypeId} {v : Value} {n : Nat} {xs : List Value} (h : w.ownsRow B E 1 v n xs) (hb : Below w.heap.size w w') : w'.ownsRow B E 1 v n xs :=
  h.kept (row := none) ⟨hb.os, hb.tape, hb.output, hb.size, fun k hk _ => hb.block k hk⟩ (by
    cases hv : v.ownBlock with
    | none => exact .inl rfl
    | some g => exact .inr (by simp))

end Go.Proofs.YtghhlknfeogadaaDoor
