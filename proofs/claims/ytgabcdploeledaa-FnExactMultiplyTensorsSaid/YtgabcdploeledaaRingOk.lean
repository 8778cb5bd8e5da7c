
/- RingOk, both, kind by kind. -/
import Derived.Test.YtgabcdploeledaaRing
import Derived.Laws.OwnMore
import Derived.RowKit3
namespace Go.Proofs.Ytgabcdploeledaa
set_option maxRecDepth 20000
open Go.RowKit

abbrev ringV (k p n : Int) : Value := .agg #[.int .i64 k, .int .i64 p, .int .i64 n]
abbrev ringC (k p n : Int) : Array Value := #[.int .i64 k, .int .i64 p, .int .i64 n]

set_option maxHeartbeats 400000 in
theorem spec_k1_tt (p n : Int) (w : World) (hp : (p == 0) = true) (hn : (n == 0) = true) :
    Calls Try.prog 106 #[ringV 1 p n] w fun e w' => e = .returned (.bool true) ∧ Below w.heap.size w w' := by
  go_enter Try.func106, Try.ntmps106
  go_wp2
  go_ret
  exact ⟨rfl, (Below.refl _ _).alloc (Nat.le_refl _) _⟩

set_option maxHeartbeats 400000 in
theorem spec_k1_tf (p n : Int) (w : World) (hp : (p == 0) = true) (hn : (n == 0) = false) :
    Calls Try.prog 106 #[ringV 1 p n] w fun e w' => e = .returned (.bool false) ∧ Below w.heap.size w w' := by
  go_enter Try.func106, Try.ntmps106
  go_wp2
  go_ret
  exact ⟨rfl, (Below.refl _ _).alloc (Nat.le_refl _) _⟩

set_option maxHeartbeats 400000 in
theorem spec_k1_ff (p n : Int) (w : World) (hp : (p == 0) = false) :
    Calls Try.prog 106 #[ringV 1 p n] w fun e w' => e = .returned (.bool false) ∧ Below w.heap.size w w' := by
  go_enter Try.func106, Try.ntmps106
  go_wp2
  go_ret
  exact ⟨rfl, (Below.refl _ _).alloc (Nat.le_refl _) _⟩

set_option maxHeartbeats 400000 in
theorem spec_k2_f (p n : Int) (w : World) (hb : primeB p = false) :
    Calls Try.prog 106 #[ringV 2 p n] w fun e w' => e = .returned (.bool false) ∧ Below w.heap.size w w' := by
  go_enter Try.func106, Try.ntmps106
  go_wp2_with fail
  refine (prime_spec p _).mono ?_
  rw [hb]
  rintro e w1 ⟨rfl, rfl⟩
  go_wp2
  go_ret
  exact ⟨rfl, (Below.refl _ _).alloc (Nat.le_refl _) _⟩

set_option maxHeartbeats 400000 in
theorem spec_k2_tt (p n : Int) (w : World) (hb : primeB p = true) (hn : (n == 0) = true) :
    Calls Try.prog 106 #[ringV 2 p n] w fun e w' => e = .returned (.bool true) ∧ Below w.heap.size w w' := by
  go_enter Try.func106, Try.ntmps106
  go_wp2_with fail
  refine (prime_spec p _).mono ?_
  rw [hb]
  rintro e w1 ⟨rfl, rfl⟩
  go_wp2
  go_ret
  exact ⟨rfl, (Below.refl _ _).alloc (Nat.le_refl _) _⟩

set_option maxHeartbeats 400000 in
theorem spec_k2_tf (p n : Int) (w : World) (hb : primeB p = true) (hn : (n == 0) = false) :
    Calls Try.prog 106 #[ringV 2 p n] w fun e w' => e = .returned (.bool false) ∧ Below w.heap.size w w' := by
  go_enter Try.func106, Try.ntmps106
  go_wp2_with fail
  refine (prime_spec p _).mono ?_
  rw [hb]
  rintro e w1 ⟨rfl, rfl⟩
  go_wp2
  go_ret
  exact ⟨rfl, (Below.refl _ _).alloc (Nat.le_refl _) _⟩

set_option maxHeartbeats 400000 in
theorem spec_k3_f (p n : Int) (w : World) (hi : inB p 1 1000000 = false) :
    Calls Try.prog 106 #[ringV 3 p n] w fun e w' => e = .returned (.bool false) ∧ Below w.heap.size w w' := by
  go_enter Try.func106, Try.ntmps106
  go_wp2_with fail
  refine (l01_in p 1 1000000 _).mono ?_
  rw [hi]
  rintro e w1 ⟨rfl, rfl⟩
  go_wp2
  go_ret
  exact ⟨rfl, (Below.refl _ _).alloc (Nat.le_refl _) _⟩

set_option maxHeartbeats 400000 in
theorem spec_k3_tt (p n : Int) (w : World) (hi : inB p 1 1000000 = true) (hn : (n == 0) = true) :
    Calls Try.prog 106 #[ringV 3 p n] w fun e w' => e = .returned (.bool true) ∧ Below w.heap.size w w' := by
  go_enter Try.func106, Try.ntmps106
  go_wp2_with fail
  refine (l01_in p 1 1000000 _).mono ?_
  rw [hi]
  rintro e w1 ⟨rfl, rfl⟩
  go_wp2
  go_ret
  exact ⟨rfl, (Below.refl _ _).alloc (Nat.le_refl _) _⟩

set_option maxHeartbeats 400000 in
theorem spec_k3_tf (p n : Int) (w : World) (hi : inB p 1 1000000 = true) (hn : (n == 0) = false) :
    Calls Try.prog 106 #[ringV 3 p n] w fun e w' => e = .returned (.bool false) ∧ Below w.heap.size w w' := by
  go_enter Try.func106, Try.ntmps106
  go_wp2_with fail
  refine (l01_in p 1 1000000 _).mono ?_
  rw [hi]
  rintro e w1 ⟨rfl, rfl⟩
  go_wp2
  go_ret
  exact ⟨rfl, (Below.refl _ _).alloc (Nat.le_refl _) _⟩

set_option maxHeartbeats 400000 in
theorem spec_k4_f (p n : Int) (w : World) (hi : inB p 1 1000000 = false) :
    Calls Try.prog 106 #[ringV 4 p n] w fun e w' => e = .returned (.bool false) ∧ Below w.heap.size w w' := by
  go_enter Try.func106, Try.ntmps106
  go_wp2_with fail
  refine (l01_in p 1 1000000 _).mono ?_
  rw [hi]
  rintro e w1 ⟨rfl, rfl⟩
  go_wp2
  go_ret
  exact ⟨rfl, (Below.refl _ _).alloc (Nat.le_refl _) _⟩

set_option maxHeartbeats 400000 in
theorem spec_k4_tt (p n : Int) (w : World) (hi : inB p 1 1000000 = true) (hn : (n == 0) = true) :
    Calls Try.prog 106 #[ringV 4 p n] w fun e w' => e = .returned (.bool true) ∧ Below w.heap.size w w' := by
  go_enter Try.func106, Try.ntmps106
  go_wp2_with fail
  refine (l01_in p 1 1000000 _).mono ?_
  rw [hi]
  rintro e w1 ⟨rfl, rfl⟩
  go_wp2
  go_ret
  exact ⟨rfl, (Below.refl _ _).alloc (Nat.le_refl _) _⟩

set_option maxHeartbeats 400000 in
theorem spec_k4_tf (p n : Int) (w : World) (hi : inB p 1 1000000 = true) (hn : (n == 0) = false) :
    Calls Try.prog 106 #[ringV 4 p n] w fun e w' => e = .returned (.bool false) ∧ Below w.heap.size w w' := by
  go_enter Try.func106, Try.ntmps106
  go_wp2_with fail
  refine (l01_in p 1 1000000 _).mono ?_
  rw [hi]
  rintro e w1 ⟨rfl, rfl⟩
  go_wp2
  go_ret
  exact ⟨rfl, (Below.refl _ _).alloc (Nat.le_refl _) _⟩

set_option maxHeartbeats 400000 in
theorem spec_k5_f (p n : Int) (w : World) (hi : inB p 1 1000000 = false) :
    Calls Try.prog 106 #[ringV 5 p n] w fun e w' => e = .returned (.bool false) ∧ Below w.heap.size w w' := by
  go_enter Try.func106, Try.ntmps106
  go_wp2_with fail
  refine (l01_in p 1 1000000 _).mono ?_
  rw [hi]
  rintro e w1 ⟨rfl, rfl⟩
  go_wp2
  go_ret
  exact ⟨rfl, (Below.refl _ _).alloc (Nat.le_refl _) _⟩

set_option maxHeartbeats 400000 in
theorem spec_k5_tt (p n : Int) (w : World) (hi : inB p 1 1000000 = true) (hn : (n == 0) = true) :
    Calls Try.prog 106 #[ringV 5 p n] w fun e w' => e = .returned (.bool true) ∧ Below w.heap.size w w' := by
  go_enter Try.func106, Try.ntmps106
  go_wp2_with fail
  refine (l01_in p 1 1000000 _).mono ?_
  rw [hi]
  rintro e w1 ⟨rfl, rfl⟩
  go_wp2
  go_ret
  exact ⟨rfl, (Below.refl _ _).alloc (Nat.le_refl _) _⟩

set_option maxHeartbeats 400000 in
theorem spec_k5_tf (p n : Int) (w : World) (hi : inB p 1 1000000 = true) (hn : (n == 0) = false) :
    Calls Try.prog 106 #[ringV 5 p n] w fun e w' => e = .returned (.bool false) ∧ Below w.heap.size w w' := by
  go_enter Try.func106, Try.ntmps106
  go_wp2_with fail
  refine (l01_in p 1 1000000 _).mono ?_
  rw [hi]
  rintro e w1 ⟨rfl, rfl⟩
  go_wp2
  go_ret
  exact ⟨rfl, (Below.refl _ _).alloc (Nat.le_refl _) _⟩

set_option maxHeartbeats 400000 in
theorem spec_k6_f (p n : Int) (w : World) (hp : (p == 0) = false) :
    Calls Try.prog 106 #[ringV 6 p n] w fun e w' => e = .returned (.bool false) ∧ Below w.heap.size w w' := by
  go_enter Try.func106, Try.ntmps106
  go_wp2
  go_ret
  exact ⟨rfl, (Below.refl _ _).alloc (Nat.le_refl _) _⟩

set_option maxHeartbeats 400000 in
theorem spec_k6_tt (p n : Int) (w : World) (hp : (p == 0) = true) (hi : inB n 1 20 = true) :
    Calls Try.prog 106 #[ringV 6 p n] w fun e w' => e = .returned (.bool true) ∧ Below w.heap.size w w' := by
  go_enter Try.func106, Try.ntmps106
  go_wp2_with fail
  refine (l01_in n 1 20 _).mono ?_
  rw [hi]
  rintro e w1 ⟨rfl, rfl⟩
  go_wp2
  go_ret
  exact ⟨rfl, (Below.refl _ _).alloc (Nat.le_refl _) _⟩

set_option maxHeartbeats 400000 in
theorem spec_k6_tf (p n : Int) (w : World) (hp : (p == 0) = true) (hi : inB n 1 20 = false) :
    Calls Try.prog 106 #[ringV 6 p n] w fun e w' => e = .returned (.bool false) ∧ Below w.heap.size w w' := by
  go_enter Try.func106, Try.ntmps106
  go_wp2_with fail
  refine (l01_in n 1 20 _).mono ?_
  rw [hi]
  rintro e w1 ⟨rfl, rfl⟩
  go_wp2
  go_ret
  exact ⟨rfl, (Below.refl _ _).alloc (Nat.le_refl _) _⟩

set_option maxHeartbeats 400000 in
theorem spec_k7_f (p n : Int) (w : World) (hb : primeB p = false) :
    Calls Try.prog 106 #[ringV 7 p n] w fun e w' => e = .returned (.bool false) ∧ Below w.heap.size w w' := by
  go_enter Try.func106, Try.ntmps106
  go_wp2_with fail
  refine (prime_spec p _).mono ?_
  rw [hb]
  rintro e w1 ⟨rfl, rfl⟩
  go_wp2
  go_ret
  exact ⟨rfl, (Below.refl _ _).alloc (Nat.le_refl _) _⟩

set_option maxHeartbeats 400000 in
theorem spec_k7_tt (p n : Int) (w : World) (hb : primeB p = true) (hi : inB n 1 6 = true) :
    Calls Try.prog 106 #[ringV 7 p n] w fun e w' => e = .returned (.bool true) ∧ Below w.heap.size w w' := by
  go_enter Try.func106, Try.ntmps106
  go_wp2_with fail
  refine (prime_spec p _).mono ?_
  rw [hb]
  rintro e w1 ⟨rfl, rfl⟩
  go_wp2_with fail
  refine (l01_in n 1 6 _).mono ?_
  rw [hi]
  rintro e w1 ⟨rfl, rfl⟩
  go_wp2
  go_ret
  exact ⟨rfl, (Below.refl _ _).alloc (Nat.le_refl _) _⟩

set_option maxHeartbeats 400000 in
theorem spec_k7_tf (p n : Int) (w : World) (hb : primeB p = true) (hi : inB n 1 6 = false) :
    Calls Try.prog 106 #[ringV 7 p n] w fun e w' => e = .returned (.bool false) ∧ Below w.heap.size w w' := by
  go_enter Try.func106, Try.ntmps106
  go_wp2_with fail
  refine (prime_spec p _).mono ?_
  rw [hb]
  rintro e w1 ⟨rfl, rfl⟩
  go_wp2_with fail
  refine (l01_in n 1 6 _).mono ?_
  rw [hi]
  rintro e w1 ⟨rfl, rfl⟩
  go_wp2
  go_ret
  exact ⟨rfl, (Below.refl _ _).alloc (Nat.le_refl _) _⟩

set_option maxHeartbeats 400000 in
theorem spec_k8_f (p n : Int) (w : World) (hb : primeB p = false) :
    Calls Try.prog 106 #[ringV 8 p n] w fun e w' => e = .returned (.bool false) ∧ Below w.heap.size w w' := by
  go_enter Try.func106, Try.ntmps106
  go_wp2_with fail
  refine (prime_spec p _).mono ?_
  rw [hb]
  rintro e w1 ⟨rfl, rfl⟩
  go_wp2
  go_ret
  exact ⟨rfl, (Below.refl _ _).alloc (Nat.le_refl _) _⟩

set_option maxHeartbeats 400000 in
theorem spec_k8_lo (p n : Int) (w : World) (hb : primeB p = true) (hi : p ≤ 2) :
    Calls Try.prog 106 #[ringV 8 p n] w fun e w' => e = .returned (.bool false) ∧ Below w.heap.size w w' := by
  go_enter Try.func106, Try.ntmps106
  go_wp2_with fail
  refine (prime_spec p _).mono ?_
  rw [hb]
  rintro e w1 ⟨rfl, rfl⟩
  go_wp2
  go_ret
  exact ⟨rfl, (Below.refl _ _).alloc (Nat.le_refl _) _⟩

set_option maxHeartbeats 400000 in
theorem spec_k8_tt (p n : Int) (w : World) (hb : primeB p = true) (hi : 2 < p) (hn : (n == 0) = true) :
    Calls Try.prog 106 #[ringV 8 p n] w fun e w' => e = .returned (.bool true) ∧ Below w.heap.size w w' := by
  go_enter Try.func106, Try.ntmps106
  go_wp2_with fail
  refine (prime_spec p _).mono ?_
  rw [hb]
  rintro e w1 ⟨rfl, rfl⟩
  go_wp2
  go_ret
  exact ⟨rfl, (Below.refl _ _).alloc (Nat.le_refl _) _⟩

set_option maxHeartbeats 400000 in
theorem spec_k8_tf (p n : Int) (w : World) (hb : primeB p = true) (hi : 2 < p) (hn : (n == 0) = false) :
    Calls Try.prog 106 #[ringV 8 p n] w fun e w' => e = .returned (.bool false) ∧ Below w.heap.size w w' := by
  go_enter Try.func106, Try.ntmps106
  go_wp2_with fail
  refine (prime_spec p _).mono ?_
  rw [hb]
  rintro e w1 ⟨rfl, rfl⟩
  go_wp2
  go_ret
  exact ⟨rfl, (Below.refl _ _).alloc (Nat.le_refl _) _⟩

set_option maxHeartbeats 400000 in
theorem spec_kn (k p n : Int) (w : World) (h1 : (k == 1) = false) (h2 : (k == 2) = false) (h3 : (k == 3) = false) (h4 : (k == 4) = false) (h5 : (k == 5) = false) (h6 : (k == 6) = false) (h7 : (k == 7) = false) (h8 : (k == 8) = false) :
    Calls Try.prog 106 #[ringV k p n] w fun e w' => e = .returned (.bool false) ∧ Below w.heap.size w w' := by
  go_enter Try.func106, Try.ntmps106
  go_wp2
  go_ret
  exact ⟨rfl, (Below.refl _ _).alloc (Nat.le_refl _) _⟩

/-- RingOk (spec). -/
theorem ring_ok_spec (k p n : Int) (w : World) :
    Calls Try.prog 106 #[ringV k p n] w fun e w' => e = .returned (.bool (ringB k p n)) ∧ Below w.heap.size w w' := by
  have fin : ∀ b : Bool, ringB k p n = b → (Calls Try.prog 106 #[ringV k p n] w fun e w' => e = .returned (.bool b) ∧ Below w.heap.size w w') → Calls Try.prog 106 #[ringV k p n] w fun e w' => e = .returned (.bool (ringB k p n)) ∧ Below w.heap.size w w' := fun b hb h => by rw [hb]; exact h
  by_cases h1 : k = 1
  · subst h1
    by_cases hp : p = 0
    · by_cases hn : n = 0
      · exact fin true (by simp [ringB, hp, hn]) (spec_k1_tt p n w (by simp [hp]) (by simp [hn]))
      · exact fin false (by simp [ringB, hn]) (spec_k1_tf p n w (by simp [hp]) (by simp [hn]))
    · exact fin false (by simp [ringB, hp]) (spec_k1_ff p n w (by simp [hp]))
  by_cases h2 : k = 2
  · subst h2
    cases hb : primeB p with
    | false => exact fin false (by simp [ringB, hb]) (spec_k2_f p n w hb)
    | true =>
      by_cases hn : n = 0
      · exact fin true (by simp [ringB, hb, hn]) (spec_k2_tt p n w hb (by simp [hn]))
      · exact fin false (by simp [ringB, hn]) (spec_k2_tf p n w hb (by simp [hn]))
  by_cases h3 : k = 3
  · subst h3
    by_cases hi : 1 ≤ p ∧ p ≤ 1000000
    · by_cases hn : n = 0
      · exact fin true (by simp [ringB, hi, hn]) (spec_k3_tt p n w (by simp [inB, hi]) (by simp [hn]))
      · exact fin false (by simp [ringB, hn]) (spec_k3_tf p n w (by simp [inB, hi]) (by simp [hn]))
    · exact fin false (by simp [ringB]; omega) (spec_k3_f p n w (by simp [inB]; omega))
  by_cases h4 : k = 4
  · subst h4
    by_cases hi : 1 ≤ p ∧ p ≤ 1000000
    · by_cases hn : n = 0
      · exact fin true (by simp [ringB, hi, hn]) (spec_k4_tt p n w (by simp [inB, hi]) (by simp [hn]))
      · exact fin false (by simp [ringB, hn]) (spec_k4_tf p n w (by simp [inB, hi]) (by simp [hn]))
    · exact fin false (by simp [ringB]; omega) (spec_k4_f p n w (by simp [inB]; omega))
  by_cases h5 : k = 5
  · subst h5
    by_cases hi : 1 ≤ p ∧ p ≤ 1000000
    · by_cases hn : n = 0
      · exact fin true (by simp [ringB, hi, hn]) (spec_k5_tt p n w (by simp [inB, hi]) (by simp [hn]))
      · exact fin false (by simp [ringB, hn]) (spec_k5_tf p n w (by simp [inB, hi]) (by simp [hn]))
    · exact fin false (by simp [ringB]; omega) (spec_k5_f p n w (by simp [inB]; omega))
  by_cases h6 : k = 6
  · subst h6
    by_cases hp : p = 0
    · by_cases hi : 1 ≤ n ∧ n ≤ 20
      · exact fin true (by simp [ringB, hi, hp]) (spec_k6_tt p n w (by simp [hp]) (by simp [inB, hi]))
      · exact fin false (by simp [ringB]; omega) (spec_k6_tf p n w (by simp [hp]) (by simp [inB]; omega))
    · exact fin false (by simp [ringB, hp]) (spec_k6_f p n w (by simp [hp]))
  by_cases h7 : k = 7
  · subst h7
    cases hb : primeB p with
    | false => exact fin false (by simp [ringB, hb]) (spec_k7_f p n w hb)
    | true =>
      by_cases hi : 1 ≤ n ∧ n ≤ 6
      · exact fin true (by simp [ringB, hb, hi]) (spec_k7_tt p n w hb (by simp [inB, hi]))
      · exact fin false (by simp [ringB, hb]; omega) (spec_k7_tf p n w hb (by simp [inB]; omega))
  by_cases h8 : k = 8
  · subst h8
    cases hb : primeB p with
    | false => exact fin false (by simp [ringB, hb]) (spec_k8_f p n w hb)
    | true =>
      have h2 := (prime_true hb).1
      by_cases hi : 2 < p
      · by_cases hn : n = 0
        · exact fin true (by simp [ringB, hb, hn]; omega) (spec_k8_tt p n w hb hi (by simp [hn]))
        · exact fin false (by simp [ringB, hn]) (spec_k8_tf p n w hb hi (by simp [hn]))
      · exact fin false (by simp [ringB, hb]; omega) (spec_k8_lo p n w hb (by omega))
  exact fin false (by simp [ringB, h1, h2, h3, h4, h5, h6, h7, h8]) (spec_kn k p n w (by simp [h1]) (by simp [h2]) (by simp [h3]) (by simp [h4]) (by simp [h5]) (by simp [h6]) (by simp [h7]) (by simp [h8]))

set_option maxHeartbeats 400000 in
theorem impl_k1_tt (p n : Int) (w : World) (hp : (p == 0) = true) (hn : (n == 0) = true) :
    Calls Try.prog 116 #[ringV 1 p n] w fun e w' => e = .returned (.bool true) ∧ Below w.heap.size w w' := by
  go_enter Try.func116, Try.ntmps116
  go_wp2
  go_ret
  exact ⟨rfl, (Below.refl _ _).alloc (Nat.le_refl _) _⟩

set_option maxHeartbeats 400000 in
theorem impl_k1_tf (p n : Int) (w : World) (hp : (p == 0) = true) (hn : (n == 0) = false) :
    Calls Try.prog 116 #[ringV 1 p n] w fun e w' => e = .returned (.bool false) ∧ Below w.heap.size w w' := by
  go_enter Try.func116, Try.ntmps116
  go_wp2
  go_ret
  exact ⟨rfl, (Below.refl _ _).alloc (Nat.le_refl _) _⟩

set_option maxHeartbeats 400000 in
theorem impl_k1_ff (p n : Int) (w : World) (hp : (p == 0) = false) :
    Calls Try.prog 116 #[ringV 1 p n] w fun e w' => e = .returned (.bool false) ∧ Below w.heap.size w w' := by
  go_enter Try.func116, Try.ntmps116
  go_wp2
  go_ret
  exact ⟨rfl, (Below.refl _ _).alloc (Nat.le_refl _) _⟩

set_option maxHeartbeats 400000 in
theorem impl_k2_f (p n : Int) (w : World) (hb : primeB p = false) :
    Calls Try.prog 116 #[ringV 2 p n] w fun e w' => e = .returned (.bool false) ∧ Below w.heap.size w w' := by
  go_enter Try.func116, Try.ntmps116
  go_wp2_with fail
  refine (prime_impl p _).mono ?_
  rw [hb]
  rintro e w1 ⟨rfl, rfl⟩
  go_wp2
  go_ret
  exact ⟨rfl, (Below.refl _ _).alloc (Nat.le_refl _) _⟩

set_option maxHeartbeats 400000 in
theorem impl_k2_tt (p n : Int) (w : World) (hb : primeB p = true) (hn : (n == 0) = true) :
    Calls Try.prog 116 #[ringV 2 p n] w fun e w' => e = .returned (.bool true) ∧ Below w.heap.size w w' := by
  go_enter Try.func116, Try.ntmps116
  go_wp2_with fail
  refine (prime_impl p _).mono ?_
  rw [hb]
  rintro e w1 ⟨rfl, rfl⟩
  go_wp2
  go_ret
  exact ⟨rfl, (Below.refl _ _).alloc (Nat.le_refl _) _⟩

set_option maxHeartbeats 400000 in
theorem impl_k2_tf (p n : Int) (w : World) (hb : primeB p = true) (hn : (n == 0) = false) :
    Calls Try.prog 116 #[ringV 2 p n] w fun e w' => e = .returned (.bool false) ∧ Below w.heap.size w w' := by
  go_enter Try.func116, Try.ntmps116
  go_wp2_with fail
  refine (prime_impl p _).mono ?_
  rw [hb]
  rintro e w1 ⟨rfl, rfl⟩
  go_wp2
  go_ret
  exact ⟨rfl, (Below.refl _ _).alloc (Nat.le_refl _) _⟩

set_option maxHeartbeats 400000 in
theorem impl_k3_lo (p n : Int) (w : World) (hi : p < 1) :
    Calls Try.prog 116 #[ringV 3 p n] w fun e w' => e = .returned (.bool false) ∧ Below w.heap.size w w' := by
  go_enter Try.func116, Try.ntmps116
  go_wp2
  go_ret
  exact ⟨rfl, (Below.refl _ _).alloc (Nat.le_refl _) _⟩

set_option maxHeartbeats 400000 in
theorem impl_k3_hi (p n : Int) (w : World) (hi : 1000000 < p) :
    Calls Try.prog 116 #[ringV 3 p n] w fun e w' => e = .returned (.bool false) ∧ Below w.heap.size w w' := by
  go_enter Try.func116, Try.ntmps116
  go_wp2
  go_ret
  exact ⟨rfl, (Below.refl _ _).alloc (Nat.le_refl _) _⟩

set_option maxHeartbeats 400000 in
theorem impl_k3_tt (p n : Int) (w : World) (h1 : 1 ≤ p) (h2 : p ≤ 1000000) (hn : (n == 0) = true) :
    Calls Try.prog 116 #[ringV 3 p n] w fun e w' => e = .returned (.bool true) ∧ Below w.heap.size w w' := by
  go_enter Try.func116, Try.ntmps116
  go_wp2
  go_ret
  exact ⟨rfl, (Below.refl _ _).alloc (Nat.le_refl _) _⟩

set_option maxHeartbeats 400000 in
theorem impl_k3_tf (p n : Int) (w : World) (h1 : 1 ≤ p) (h2 : p ≤ 1000000) (hn : (n == 0) = false) :
    Calls Try.prog 116 #[ringV 3 p n] w fun e w' => e = .returned (.bool false) ∧ Below w.heap.size w w' := by
  go_enter Try.func116, Try.ntmps116
  go_wp2
  go_ret
  exact ⟨rfl, (Below.refl _ _).alloc (Nat.le_refl _) _⟩

set_option maxHeartbeats 400000 in
theorem impl_k4_lo (p n : Int) (w : World) (hi : p < 1) :
    Calls Try.prog 116 #[ringV 4 p n] w fun e w' => e = .returned (.bool false) ∧ Below w.heap.size w w' := by
  go_enter Try.func116, Try.ntmps116
  go_wp2
  go_ret
  exact ⟨rfl, (Below.refl _ _).alloc (Nat.le_refl _) _⟩

set_option maxHeartbeats 400000 in
theorem impl_k4_hi (p n : Int) (w : World) (hi : 1000000 < p) :
    Calls Try.prog 116 #[ringV 4 p n] w fun e w' => e = .returned (.bool false) ∧ Below w.heap.size w w' := by
  go_enter Try.func116, Try.ntmps116
  go_wp2
  go_ret
  exact ⟨rfl, (Below.refl _ _).alloc (Nat.le_refl _) _⟩

set_option maxHeartbeats 400000 in
theorem impl_k4_tt (p n : Int) (w : World) (h1 : 1 ≤ p) (h2 : p ≤ 1000000) (hn : (n == 0) = true) :
    Calls Try.prog 116 #[ringV 4 p n] w fun e w' => e = .returned (.bool true) ∧ Below w.heap.size w w' := by
  go_enter Try.func116, Try.ntmps116
  go_wp2
  go_ret
  exact ⟨rfl, (Below.refl _ _).alloc (Nat.le_refl _) _⟩

set_option maxHeartbeats 400000 in
theorem impl_k4_tf (p n : Int) (w : World) (h1 : 1 ≤ p) (h2 : p ≤ 1000000) (hn : (n == 0) = false) :
    Calls Try.prog 116 #[ringV 4 p n] w fun e w' => e = .returned (.bool false) ∧ Below w.heap.size w w' := by
  go_enter Try.func116, Try.ntmps116
  go_wp2
  go_ret
  exact ⟨rfl, (Below.refl _ _).alloc (Nat.le_refl _) _⟩

set_option maxHeartbeats 400000 in
theorem impl_k5_lo (p n : Int) (w : World) (hi : p < 1) :
    Calls Try.prog 116 #[ringV 5 p n] w fun e w' => e = .returned (.bool false) ∧ Below w.heap.size w w' := by
  go_enter Try.func116, Try.ntmps116
  go_wp2
  go_ret
  exact ⟨rfl, (Below.refl _ _).alloc (Nat.le_refl _) _⟩

set_option maxHeartbeats 400000 in
theorem impl_k5_hi (p n : Int) (w : World) (hi : 1000000 < p) :
    Calls Try.prog 116 #[ringV 5 p n] w fun e w' => e = .returned (.bool false) ∧ Below w.heap.size w w' := by
  go_enter Try.func116, Try.ntmps116
  go_wp2
  go_ret
  exact ⟨rfl, (Below.refl _ _).alloc (Nat.le_refl _) _⟩

set_option maxHeartbeats 400000 in
theorem impl_k5_tt (p n : Int) (w : World) (h1 : 1 ≤ p) (h2 : p ≤ 1000000) (hn : (n == 0) = true) :
    Calls Try.prog 116 #[ringV 5 p n] w fun e w' => e = .returned (.bool true) ∧ Below w.heap.size w w' := by
  go_enter Try.func116, Try.ntmps116
  go_wp2
  go_ret
  exact ⟨rfl, (Below.refl _ _).alloc (Nat.le_refl _) _⟩

set_option maxHeartbeats 400000 in
theorem impl_k5_tf (p n : Int) (w : World) (h1 : 1 ≤ p) (h2 : p ≤ 1000000) (hn : (n == 0) = false) :
    Calls Try.prog 116 #[ringV 5 p n] w fun e w' => e = .returned (.bool false) ∧ Below w.heap.size w w' := by
  go_enter Try.func116, Try.ntmps116
  go_wp2
  go_ret
  exact ⟨rfl, (Below.refl _ _).alloc (Nat.le_refl _) _⟩

set_option maxHeartbeats 400000 in
theorem impl_k6_f (p n : Int) (w : World) (hp : (p == 0) = false) :
    Calls Try.prog 116 #[ringV 6 p n] w fun e w' => e = .returned (.bool false) ∧ Below w.heap.size w w' := by
  go_enter Try.func116, Try.ntmps116
  go_wp2
  go_ret
  exact ⟨rfl, (Below.refl _ _).alloc (Nat.le_refl _) _⟩

set_option maxHeartbeats 400000 in
theorem impl_k6_lo (p n : Int) (w : World) (hp : (p == 0) = true) (hi : n < 1) :
    Calls Try.prog 116 #[ringV 6 p n] w fun e w' => e = .returned (.bool false) ∧ Below w.heap.size w w' := by
  go_enter Try.func116, Try.ntmps116
  go_wp2
  go_ret
  exact ⟨rfl, (Below.refl _ _).alloc (Nat.le_refl _) _⟩

set_option maxHeartbeats 400000 in
theorem impl_k6_hi (p n : Int) (w : World) (hp : (p == 0) = true) (h1 : 1 ≤ n) (hi : decide (n ≤ 20) = false) :
    Calls Try.prog 116 #[ringV 6 p n] w fun e w' => e = .returned (.bool false) ∧ Below w.heap.size w w' := by
  go_enter Try.func116, Try.ntmps116
  go_wp2
  go_ret
  exact ⟨rfl, (Below.refl _ _).alloc (Nat.le_refl _) _⟩

set_option maxHeartbeats 400000 in
theorem impl_k6_t (p n : Int) (w : World) (hp : (p == 0) = true) (h1 : 1 ≤ n) (h2 : n ≤ 20) :
    Calls Try.prog 116 #[ringV 6 p n] w fun e w' => e = .returned (.bool true) ∧ Below w.heap.size w w' := by
  go_enter Try.func116, Try.ntmps116
  go_wp2
  go_ret
  exact ⟨rfl, (Below.refl _ _).alloc (Nat.le_refl _) _⟩

set_option maxHeartbeats 400000 in
theorem impl_k7_f (p n : Int) (w : World) (hb : primeB p = false) :
    Calls Try.prog 116 #[ringV 7 p n] w fun e w' => e = .returned (.bool false) ∧ Below w.heap.size w w' := by
  go_enter Try.func116, Try.ntmps116
  go_wp2_with fail
  refine (prime_impl p _).mono ?_
  rw [hb]
  rintro e w1 ⟨rfl, rfl⟩
  go_wp2
  go_ret
  exact ⟨rfl, (Below.refl _ _).alloc (Nat.le_refl _) _⟩

set_option maxHeartbeats 400000 in
theorem impl_k7_lo (p n : Int) (w : World) (hb : primeB p = true) (hi : n < 1) :
    Calls Try.prog 116 #[ringV 7 p n] w fun e w' => e = .returned (.bool false) ∧ Below w.heap.size w w' := by
  go_enter Try.func116, Try.ntmps116
  go_wp2_with fail
  refine (prime_impl p _).mono ?_
  rw [hb]
  rintro e w1 ⟨rfl, rfl⟩
  go_wp2
  go_ret
  exact ⟨rfl, (Below.refl _ _).alloc (Nat.le_refl _) _⟩

set_option maxHeartbeats 400000 in
theorem impl_k7_hi (p n : Int) (w : World) (hb : primeB p = true) (h1 : 1 ≤ n) (hi : decide (n ≤ 6) = false) :
    Calls Try.prog 116 #[ringV 7 p n] w fun e w' => e = .returned (.bool false) ∧ Below w.heap.size w w' := by
  go_enter Try.func116, Try.ntmps116
  go_wp2_with fail
  refine (prime_impl p _).mono ?_
  rw [hb]
  rintro e w1 ⟨rfl, rfl⟩
  go_wp2
  go_ret
  exact ⟨rfl, (Below.refl _ _).alloc (Nat.le_refl _) _⟩

set_option maxHeartbeats 400000 in
theorem impl_k7_t (p n : Int) (w : World) (hb : primeB p = true) (h1 : 1 ≤ n) (h2 : n ≤ 6) :
    Calls Try.prog 116 #[ringV 7 p n] w fun e w' => e = .returned (.bool true) ∧ Below w.heap.size w w' := by
  go_enter Try.func116, Try.ntmps116
  go_wp2_with fail
  refine (prime_impl p _).mono ?_
  rw [hb]
  rintro e w1 ⟨rfl, rfl⟩
  go_wp2
  go_ret
  exact ⟨rfl, (Below.refl _ _).alloc (Nat.le_refl _) _⟩

set_option maxHeartbeats 400000 in
theorem impl_k8_f (p n : Int) (w : World) (hb : primeB p = false) :
    Calls Try.prog 116 #[ringV 8 p n] w fun e w' => e = .returned (.bool false) ∧ Below w.heap.size w w' := by
  go_enter Try.func116, Try.ntmps116
  go_wp2_with fail
  refine (prime_impl p _).mono ?_
  rw [hb]
  rintro e w1 ⟨rfl, rfl⟩
  go_wp2
  go_ret
  exact ⟨rfl, (Below.refl _ _).alloc (Nat.le_refl _) _⟩

set_option maxHeartbeats 400000 in
theorem impl_k8_lo (p n : Int) (w : World) (hb : primeB p = true) (hi : (p != 2) = false) :
    Calls Try.prog 116 #[ringV 8 p n] w fun e w' => e = .returned (.bool false) ∧ Below w.heap.size w w' := by
  go_enter Try.func116, Try.ntmps116
  go_wp2_with fail
  refine (prime_impl p _).mono ?_
  rw [hb]
  rintro e w1 ⟨rfl, rfl⟩
  go_wp2
  go_ret
  exact ⟨rfl, (Below.refl _ _).alloc (Nat.le_refl _) _⟩

set_option maxHeartbeats 400000 in
theorem impl_k8_tt (p n : Int) (w : World) (hb : primeB p = true) (hi : (p != 2) = true) (hn : (n == 0) = true) :
    Calls Try.prog 116 #[ringV 8 p n] w fun e w' => e = .returned (.bool true) ∧ Below w.heap.size w w' := by
  go_enter Try.func116, Try.ntmps116
  go_wp2_with fail
  refine (prime_impl p _).mono ?_
  rw [hb]
  rintro e w1 ⟨rfl, rfl⟩
  go_wp2
  go_ret
  exact ⟨rfl, (Below.refl _ _).alloc (Nat.le_refl _) _⟩

set_option maxHeartbeats 400000 in
theorem impl_k8_tf (p n : Int) (w : World) (hb : primeB p = true) (hi : (p != 2) = true) (hn : (n == 0) = false) :
    Calls Try.prog 116 #[ringV 8 p n] w fun e w' => e = .returned (.bool false) ∧ Below w.heap.size w w' := by
  go_enter Try.func116, Try.ntmps116
  go_wp2_with fail
  refine (prime_impl p _).mono ?_
  rw [hb]
  rintro e w1 ⟨rfl, rfl⟩
  go_wp2
  go_ret
  exact ⟨rfl, (Below.refl _ _).alloc (Nat.le_refl _) _⟩

set_option maxHeartbeats 400000 in
theorem impl_kn (k p n : Int) (w : World) (h1 : (k == 1) = false) (h2 : (k == 2) = false) (h3 : (k == 3) = false) (h4 : (k == 4) = false) (h5 : (k == 5) = false) (h6 : (k == 6) = false) (h7 : (k == 7) = false) (h8 : (k == 8) = false) :
    Calls Try.prog 116 #[ringV k p n] w fun e w' => e = .returned (.bool false) ∧ Below w.heap.size w w' := by
  go_enter Try.func116, Try.ntmps116
  go_wp2
  go_ret
  exact ⟨rfl, (Below.refl _ _).alloc (Nat.le_refl _) _⟩

/-- RingOk (impl). -/
theorem ring_ok_impl (k p n : Int) (w : World) :
    Calls Try.prog 116 #[ringV k p n] w fun e w' => e = .returned (.bool (ringB k p n)) ∧ Below w.heap.size w w' := by
  have fin : ∀ b : Bool, ringB k p n = b → (Calls Try.prog 116 #[ringV k p n] w fun e w' => e = .returned (.bool b) ∧ Below w.heap.size w w') → Calls Try.prog 116 #[ringV k p n] w fun e w' => e = .returned (.bool (ringB k p n)) ∧ Below w.heap.size w w' := fun b hb h => by rw [hb]; exact h
  by_cases h1 : k = 1
  · subst h1
    by_cases hp : p = 0
    · by_cases hn : n = 0
      · exact fin true (by simp [ringB, hp, hn]) (impl_k1_tt p n w (by simp [hp]) (by simp [hn]))
      · exact fin false (by simp [ringB, hn]) (impl_k1_tf p n w (by simp [hp]) (by simp [hn]))
    · exact fin false (by simp [ringB, hp]) (impl_k1_ff p n w (by simp [hp]))
  by_cases h2 : k = 2
  · subst h2
    cases hb : primeB p with
    | false => exact fin false (by simp [ringB, hb]) (impl_k2_f p n w hb)
    | true =>
      by_cases hn : n = 0
      · exact fin true (by simp [ringB, hb, hn]) (impl_k2_tt p n w hb (by simp [hn]))
      · exact fin false (by simp [ringB, hn]) (impl_k2_tf p n w hb (by simp [hn]))
  by_cases h3 : k = 3
  · subst h3
    by_cases hl : p < 1
    · exact fin false (by simp [ringB]; omega) (impl_k3_lo p n w hl)
    by_cases hh : 1000000 < p
    · exact fin false (by simp [ringB]; omega) (impl_k3_hi p n w hh)
    by_cases hn : n = 0
    · exact fin true (by simp [ringB, hn]; omega) (impl_k3_tt p n w (by omega) (by omega) (by simp [hn]))
    · exact fin false (by simp [ringB, hn]) (impl_k3_tf p n w (by omega) (by omega) (by simp [hn]))
  by_cases h4 : k = 4
  · subst h4
    by_cases hl : p < 1
    · exact fin false (by simp [ringB]; omega) (impl_k4_lo p n w hl)
    by_cases hh : 1000000 < p
    · exact fin false (by simp [ringB]; omega) (impl_k4_hi p n w hh)
    by_cases hn : n = 0
    · exact fin true (by simp [ringB, hn]; omega) (impl_k4_tt p n w (by omega) (by omega) (by simp [hn]))
    · exact fin false (by simp [ringB, hn]) (impl_k4_tf p n w (by omega) (by omega) (by simp [hn]))
  by_cases h5 : k = 5
  · subst h5
    by_cases hl : p < 1
    · exact fin false (by simp [ringB]; omega) (impl_k5_lo p n w hl)
    by_cases hh : 1000000 < p
    · exact fin false (by simp [ringB]; omega) (impl_k5_hi p n w hh)
    by_cases hn : n = 0
    · exact fin true (by simp [ringB, hn]; omega) (impl_k5_tt p n w (by omega) (by omega) (by simp [hn]))
    · exact fin false (by simp [ringB, hn]) (impl_k5_tf p n w (by omega) (by omega) (by simp [hn]))
  by_cases h6 : k = 6
  · subst h6
    by_cases hp : p = 0
    · by_cases hl : n < 1
      · exact fin false (by simp [ringB]; omega) (impl_k6_lo p n w (by simp [hp]) hl)
      by_cases hh : 20 < n
      · exact fin false (by simp [ringB]; omega) (impl_k6_hi p n w (by simp [hp]) (by omega) (by simp; omega))
      · exact fin true (by simp [ringB, hp]; omega) (impl_k6_t p n w (by simp [hp]) (by omega) (by omega))
    · exact fin false (by simp [ringB, hp]) (impl_k6_f p n w (by simp [hp]))
  by_cases h7 : k = 7
  · subst h7
    cases hb : primeB p with
    | false => exact fin false (by simp [ringB, hb]) (impl_k7_f p n w hb)
    | true =>
      by_cases hl : n < 1
      · exact fin false (by simp [ringB, hb]; omega) (impl_k7_lo p n w hb hl)
      by_cases hh : 6 < n
      · exact fin false (by simp [ringB, hb]; omega) (impl_k7_hi p n w hb (by omega) (by simp; omega))
      · exact fin true (by simp [ringB, hb]; omega) (impl_k7_t p n w hb (by omega) (by omega))
  by_cases h8 : k = 8
  · subst h8
    cases hb : primeB p with
    | false => exact fin false (by simp [ringB, hb]) (impl_k8_f p n w hb)
    | true =>
      by_cases hi : p = 2
      · exact fin false (by simp [ringB, hi]) (impl_k8_lo p n w hb (by simp [hi]))
      · by_cases hn : n = 0
        · exact fin true (by simp [ringB, hb, hn, hi]) (impl_k8_tt p n w hb (by simp [hi]) (by simp [hn]))
        · exact fin false (by simp [ringB, hn]) (impl_k8_tf p n w hb (by simp [hi]) (by simp [hn]))
  exact fin false (by simp [ringB, h1, h2, h3, h4, h5, h6, h7, h8]) (impl_kn k p n w (by simp [h1]) (by simp [h2]) (by simp [h3]) (by simp [h4]) (by simp [h5]) (by simp [h6]) (by simp [h7]) (by simp [h8]))

end Go.Proofs.Ytgabcdploeledaa
