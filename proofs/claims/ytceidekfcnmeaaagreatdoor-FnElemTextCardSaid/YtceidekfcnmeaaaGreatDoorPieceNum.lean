
/- Plain facts: the parts of a string between the bytes c, byte by byte; and that a range by runes meets no byte c inside another rune. -/
import Derived.Test.YtceidekfcnmeaaaGreatDoorLawKit
import Derived.Laws.RangeAny
import Derived.Lib.OthersKept
namespace Go.Proofs.YtceidekfcnmeaaaGreatDoor
set_option maxRecDepth 20000
open Go Go.RowKit

/-- Behind k bytes: the parts that a byte c has ended, and where the present one begins. -/
def pst (s : ByteArray) (c : Nat) : Nat → List ByteArray × Nat
  | 0 => ([], 0)
  | k + 1 => if (s.get! k).toNat = c then ((pst s c k).1 ++ [s.extract (pst s c k).2 k], k + 1) else pst s c k
theorem get_bang (s : ByteArray) (k : Nat) (h : k < s.size) : s.get! k = s[k] := by
  simp [ByteArray.get!, getElem!_pos, h]; rfl
theorem pst_hit {s : ByteArray} {c k : Nat} (h : k < s.size) (hc : s[k].toNat = c) : pst s c (k + 1) = ((pst s c k).1 ++ [s.extract (pst s c k).2 k], k + 1) := by
  rw [pst, get_bang s k h, if_pos hc]
theorem pst_miss {s : ByteArray} {c k : Nat} (h : k < s.size) (hc : s[k].toNat ≠ c) : pst s c (k + 1) = pst s c k := by
  rw [pst, get_bang s k h, if_neg hc]
theorem pst_le (s : ByteArray) (c k : Nat) : (pst s c k).2 ≤ k ∧ (pst s c k).1.length ≤ k := by
  induction k with
  | zero => exact ⟨Nat.le_refl _, Nat.le_refl _⟩
  | succ k ih =>
    rw [pst]
    split
    · exact ⟨Nat.le_refl _, by rw [List.length_append, List.length_singleton]; omega⟩
    · omega
theorem pst_skip {s : ByteArray} {c k : Nat} : ∀ d, k + d ≤ s.size → (∀ j (h : j < s.size), k ≤ j → j < k + d → s[j].toNat ≠ c) → pst s c (k + d) = pst s c k
  | 0, _, _ => rfl
  | d + 1, hd, h => by
    rw [show k + (d + 1) = (k + d) + 1 from rfl, pst_miss (by omega) (h (k + d) (by omega) (by omega) (by omega))]
    exact pst_skip d (by omega) fun j hj h1 h2 => h j hj h1 (by omega)
theorem cont_high {s : ByteArray} {i : Nat} (h : (decide (i < s.size) && (s.get! i).toNat / 64 == 2) = true) : i < s.size ∧ 128 ≤ (s.get! i).toNat := by
  simp only [Bool.and_eq_true, decide_eq_true_eq, beq_iff_eq] at h
  exact ⟨h.1, by omega⟩
/-- A rune that is no ASCII: all its bytes are 128 or more, and lie in s. -/
theorem decode_skip (s : ByteArray) (pos : Nat) (h : pos < s.size) (ha : 128 ≤ s[pos].toNat) :
    pos + (Utf8.decode s pos).2 ≤ s.size ∧ ∀ j (hj : j < s.size), pos ≤ j → j < pos + (Utf8.decode s pos).2 → 128 ≤ s[j].toNat := by
  have h0 : 128 ≤ (s.get! pos).toNat := by rw [get_bang s pos h]; exact ha
  have main : ∀ wd, (wd = 1 ∨ (wd = 2 ∧ pos + 1 < s.size ∧ 128 ≤ (s.get! (pos + 1)).toNat) ∨ (wd = 3 ∧ pos + 2 < s.size ∧ 128 ≤ (s.get! (pos + 1)).toNat ∧ 128 ≤ (s.get! (pos + 2)).toNat) ∨
      (wd = 4 ∧ pos + 3 < s.size ∧ 128 ≤ (s.get! (pos + 1)).toNat ∧ 128 ≤ (s.get! (pos + 2)).toNat ∧ 128 ≤ (s.get! (pos + 3)).toNat)) →
      pos + wd ≤ s.size ∧ ∀ j (hj : j < s.size), pos ≤ j → j < pos + wd → 128 ≤ s[j].toNat := by
    intro wd hw
    refine ⟨by omega, fun j hj h1 h2 => ?_⟩
    rw [← get_bang s j hj]
    rcases hw with rfl | ⟨rfl, _, k1⟩ | ⟨rfl, _, k1, k2⟩ | ⟨rfl, _, k1, k2, k3⟩
    · obtain rfl : j = pos := by omega
      exact h0
    · rcases (by omega : j = pos ∨ j = pos + 1) with rfl | rfl <;> assumption
    · rcases (by omega : j = pos ∨ j = pos + 1 ∨ j = pos + 2) with rfl | rfl | rfl <;> assumption
    · rcases (by omega : j = pos ∨ j = pos + 1 ∨ j = pos + 2 ∨ j = pos + 3) with rfl | rfl | rfl | rfl <;> assumption
  apply main
  have hn : ¬ (s.get! (pos + 0)).toNat < 128 := by rw [Nat.add_zero]; omega
  unfold Utf8.decode
  simp only [hn, if_false]
  split
  · next hc =>
    simp only [Bool.and_eq_true] at hc
    have c1 := cont_high (i := pos + 1) (by simpa using hc.2)
    split
    · exact .inr (.inl ⟨rfl, c1.1, c1.2⟩)
    · exact .inl rfl
  · split
    · next hc =>
      simp only [Bool.and_eq_true] at hc
      have c1 := cont_high (i := pos + 1) (by simpa using hc.1.2)
      have c2 := cont_high (i := pos + 2) (by simpa using hc.2)
      split
      · exact .inr (.inr (.inl ⟨rfl, c2.1, c1.2, c2.2⟩))
      · exact .inl rfl
    · split
      · next hc =>
        simp only [Bool.and_eq_true] at hc
        have c1 := cont_high (i := pos + 1) (by simpa using hc.1.1.2)
        have c2 := cont_high (i := pos + 2) (by simpa using hc.1.2)
        have c3 := cont_high (i := pos + 3) (by simpa using hc.2)
        split
        · exact .inr (.inr (.inr ⟨rfl, c3.1, c1.2, c2.2, c3.2⟩))
        · exact .inl rfl
      · exact .inl rfl
/-- One rune on, where it is not c. -/
theorem pst_rune {s : ByteArray} {c pos : Nat} (hc : c < 128) (h : pos < s.size) (hne : (Utf8.decode s pos).1 ≠ c) : pos + (Utf8.decode s pos).2 ≤ s.size ∧ pos < pos + (Utf8.decode s pos).2 ∧ pst s c (pos + (Utf8.decode s pos).2) = pst s c pos := by
  by_cases ha : s[pos].toNat < 128
  · have e := decode_ascii s pos h ha
    rw [e] at hne ⊢
    exact ⟨by simp; omega, by simp, pst_miss h hne⟩
  · obtain ⟨h1, h2⟩ := decode_skip s pos h (by omega)
    have h3 := decode_high s pos h (by omega)
    exact ⟨h1, by omega, pst_skip _ h1 fun j hj a b => by have := h2 j hj a b; omega⟩
theorem rune_hit {s : ByteArray} {c pos : Nat} (hc : c < 128) (h : pos < s.size) (he : (Utf8.decode s pos).1 = c) : s[pos].toNat = c ∧ (Utf8.decode s pos).2 = 1 := by
  by_cases ha : s[pos].toNat < 128
  · have e := decode_ascii s pos h ha
    rw [e] at he ⊢
    exact ⟨he, rfl⟩
  · have := decode_high s pos h (by omega)
    omega
/-- All parts. -/
def parts (s : ByteArray) (c : Nat) : List ByteArray := (pst s c s.size).1 ++ [s.extract (pst s c s.size).2 s.size]
end Go.Proofs.YtceidekfcnmeaaaGreatDoor
