/- Every ring is a commutative semiring; counts multiply. Plain mathematics. -/
import Derived.Test.YtfdjlahaiogababPairsMath
import Derived.Test.YtfdjlahaiogababPow2
import Derived.Test.YtfdjlahaiogababPairMath
import Derived.Test.YtfdjlahaiogababDrawn
namespace Go.Proofs.Ytfdjlahaiogabab
open Go

theorem cntI_range {k p n : Int} (hr : ringB k p n = true) (c : Nat) : 0 ≤ cntI k p n c ∧ cntI k p n c ≤ topI k p n := by
  have h := elem_at hr (count_elem hr c) 0
  have hw := ring_width hr
  rw [countL, LL_at (by omega)] at h
  exact h
theorem count_times {k p n : Int} (hr : ringB k p n = true) (a b : Nat) : timesL k p (countL k p n a) (countL k p n b) = countL k p n (a * b) := by
  have g := ring_cases hr
  have hw0 := ring_width hr
  have ht := ring_top hr
  obtain ⟨m, hm⟩ : ∃ m : Nat, (m : Int) = widthI k n := ⟨(widthI k n).toNat, by omega⟩
  have hmm : (widthI k n).toNat = m := by omega
  unfold countL
  rw [hmm]
  by_cases h : high k
  · rw [times_high h, LL_len]
    have hm6 : m ≤ 6 := by omega
    refine LL_congr fun c hc => ?_
    rw [conv_congr (X' := fun i => if i = 0 then cntI k p n a else 0) (Y' := fun i => if i = 0 then cntI k p n b else 0) (fun i hi => LL_at hi) (fun i hi => LL_at hi)]
    have e : convC m (k == 8) (fun i => if i = 0 then cntI k p n a else 0) (fun i => if i = 0 then cntI k p n b else 0) c = if c = 0 then cntI k p n a * cntI k p n b else 0 := by
      have hms : m = 1 ∨ m = 2 ∨ m = 3 ∨ m = 4 ∨ m = 5 ∨ m = 6 := by omega
      generalize cntI k p n a = A
      generalize cntI k p n b = B
      generalize (k == 8) = om
      rcases hms with rfl | rfl | rfl | rfl | rfl | rfl
      · obtain rfl : c = 0 := by omega
        cases om <;> simp [convC, sumN, dC]
      · have h : c = 0 ∨ c = 1 := by omega
        rcases h with rfl | rfl <;> cases om <;> simp [convC, sumN, dC]
      · have h : c = 0 ∨ c = 1 ∨ c = 2 := by omega
        rcases h with rfl | rfl | rfl <;> cases om <;> simp [convC, sumN, dC]
      · have h : c = 0 ∨ c = 1 ∨ c = 2 ∨ c = 3 := by omega
        rcases h with rfl | rfl | rfl | rfl <;> cases om <;> simp [convC, sumN, dC]
      · have h : c = 0 ∨ c = 1 ∨ c = 2 ∨ c = 3 ∨ c = 4 := by omega
        rcases h with rfl | rfl | rfl | rfl | rfl <;> cases om <;> simp [convC, sumN, dC]
      · have h : c = 0 ∨ c = 1 ∨ c = 2 ∨ c = 3 ∨ c = 4 ∨ c = 5 := by omega
        rcases h with rfl | rfl | rfl | rfl | rfl | rfl <;> cases om <;> simp [convC, sumN, dC]
    rw [e]
    have hc2 : ∀ q : Nat, cntI k p n q = (q : Int) % p := fun q => by
      unfold high at h
      unfold cntI
      rw [if_neg (by omega), if_neg (by omega), if_neg (by omega), if_neg (by omega)]
    by_cases h0 : c = 0
    · rw [if_pos h0, if_pos h0, hc2, hc2, hc2, ← Int.mul_emod]; simp
    · simp [h0]
  · have hm1 : m = 1 := by rw [low_width h] at hm; omega
    subst hm1
    rw [times_low hr h, LL_at (by omega), LL_at (by omega)]
    show [_] = [_]
    refine congrArg (fun x => [x]) ?_
    simp only [if_true]
    have ha := cntI_range hr a
    have hb := cntI_range hr b
    unfold high at h
    by_cases c1 : k = 1 ∨ k = 6
    · have e1 : ∀ q : Nat, cntI k p n q = if q = 0 then 0 else topI k p n := fun q => by
        rcases c1 with c1 | c1
        · unfold cntI topI; rw [if_pos c1, if_pos c1]
        · unfold cntI; rw [if_neg (by omega), if_neg (by omega), if_neg (by omega), if_pos (by omega)]
      have h1 := or_nat hr ha
      have h2 := or_nat hr hb
      unfold timesI
      rw [if_pos c1, bits_i64_and _ _ ha.1 h1 hb.1 h2, e1, e1, e1]
      by_cases a0 : a = 0
      · simp [a0]
      · by_cases b0 : b = 0
        · simp [b0]
        · have ab : ¬ a * b = 0 := Nat.mul_ne_zero a0 b0
          rw [if_neg a0, if_neg b0, if_neg ab, Nat.and_self]; omega
    · by_cases c3 : k = 3
      · have e1 : ∀ q : Nat, cntI k p n q = min (q : Int) p := fun q => by unfold cntI; rw [if_neg (by omega), if_pos c3]
        unfold timesI
        rw [if_neg c1, if_pos c3, e1, e1, e1, min_times (by omega) (by omega) (by omega), Int.mul_comm (a : Int) (min (b : Int) p), min_times (by omega) (by omega) (by omega), Int.mul_comm (b : Int) (a : Int)]
        simp
      · by_cases c4 : k = 4
        · have e1 : ∀ q : Nat, cntI k p n q = if q = 0 then p else 0 := fun q => by unfold cntI; rw [if_neg (by omega), if_neg (by omega), if_pos c4]
          unfold timesI
          rw [if_neg c1, if_neg c3, if_pos c4, e1, e1, e1]
          by_cases a0 : a = 0
          · simp [a0]; by_cases b0 : b = 0 <;> simp [b0] <;> omega
          · by_cases b0 : b = 0
            · simp [a0, b0]
            · have ab : ¬ a * b = 0 := Nat.mul_ne_zero a0 b0
              rw [if_neg a0, if_neg b0, if_neg ab]; omega
        · have e1 : ∀ q : Nat, cntI k p n q = if q = 0 then 0 else topI k p n := fun q => by unfold cntI; rw [if_neg (by omega), if_neg (by omega), if_neg (by omega), if_pos (by omega)]
          unfold timesI
          rw [if_neg c1, if_neg c3, if_neg c4, e1, e1, e1]
          by_cases a0 : a = 0
          · simp [a0]; by_cases b0 : b = 0 <;> simp [b0] <;> omega
          · by_cases b0 : b = 0
            · simp [a0, b0]; omega
            · have ab : ¬ a * b = 0 := Nat.mul_ne_zero a0 b0
              rw [if_neg a0, if_neg b0, if_neg ab]; omega
end Go.Proofs.Ytfdjlahaiogabab
