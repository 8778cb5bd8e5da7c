
/- The rings as plain mathematics: validity, width, range, sums, products. -/
import Derived.WalkKit
import Derived.Laws.BitsAllLaws
import Derived.Test.YtdheakjjnaifkaaProg
import Derived.WalkLawsBesides
import Derived.Lib.Hide
import Derived.IntWalk
import Derived.Laws.OwnMore
import Derived.RowKit3
namespace Go.Proofs.Ytdheakjjnaifkaa
set_option maxRecDepth 20000
open Go

/-- n is a prime up to MaxPrime. -/
def PrimeV (n : Int) : Prop := 2 ≤ n ∧ n ≤ 1000003 ∧ ∀ d : Nat, 2 ≤ d → (d : Int) * d ≤ n → n % (d : Int) ≠ 0
open Classical in
noncomputable def primeB (n : Int) : Bool := decide (PrimeV n)
open Classical in
theorem prime_true {n : Int} (h : primeB n = true) : 2 ≤ n ∧ n ≤ 1000003 := by
  have := of_decide_eq_true h
  exact ⟨this.1, this.2.1⟩
open Classical in
theorem prime_of {n : Int} (h1 : 2 ≤ n) (h2 : n ≤ 1000003) (h3 : ∀ d : Nat, 2 ≤ d → (d : Int) * d ≤ n → n % (d : Int) ≠ 0) : primeB n = true := decide_eq_true ⟨h1, h2, h3⟩
open Classical in
theorem prime_not {n : Int} {d : Nat} (h1 : 2 ≤ d) (h2 : (d : Int) * d ≤ n) (h3 : n % (d : Int) = 0) : primeB n = false := decide_eq_false fun h => h.2.2 d h1 h2 h3
open Classical in
theorem prime_out {n : Int} (h : n < 2 ∨ 1000003 < n) : primeB n = false := decide_eq_false fun ⟨h1, h2, _⟩ => by omega

/-- The ring of these three fields is valid. -/
noncomputable def ringB (k p n : Int) : Bool :=
  if k = 1 then decide (p = 0) && decide (n = 0)
  else if k = 2 then primeB p && decide (n = 0)
  else if k = 3 ∨ k = 4 ∨ k = 5 then decide (1 ≤ p) && decide (p ≤ 1000000) && decide (n = 0)
  else if k = 6 then decide (p = 0) && decide (1 ≤ n) && decide (n ≤ 20)
  else if k = 7 then primeB p && decide (1 ≤ n) && decide (n ≤ 6)
  else if k = 8 then primeB p && decide (p ≠ 2) && decide (n = 0)
  else false
def widthI (k n : Int) : Int := if k = 7 then n else if k = 8 then 4 else 1
def topI (k p n : Int) : Int := if k = 1 then 1 else if k = 6 then 2 ^ n.toNat - 1 else if k = 2 ∨ k = 7 ∨ k = 8 then p - 1 else p
theorem two_pow {n : Int} (h1 : 1 ≤ n) (h2 : n ≤ 20) : (2 : Int) ≤ 2 ^ n.toNat ∧ (2 : Int) ^ n.toNat ≤ 1048576 := by
  obtain ⟨m, rfl⟩ := Int.eq_ofNat_of_zero_le (show 0 ≤ n by omega)
  have h3 : 2 ^ 1 ≤ 2 ^ m := Nat.pow_le_pow_right (by omega) (by omega)
  have h4 : 2 ^ m ≤ 2 ^ 20 := Nat.pow_le_pow_right (by omega) (by omega)
  have e : ((2 : Int) ^ (m : Int).toNat) = ((2 ^ m : Nat) : Int) := by simp
  rw [e]
  omega
/-- What a valid ring's kinds say of its fields. -/
theorem ring_cases {k p n : Int} (h : ringB k p n = true) :
    (k = 1 ∧ p = 0 ∧ n = 0) ∨ (k = 2 ∧ 2 ≤ p ∧ p ≤ 1000003 ∧ n = 0) ∨ (k = 3 ∧ 1 ≤ p ∧ p ≤ 1000000 ∧ n = 0) ∨ (k = 4 ∧ 1 ≤ p ∧ p ≤ 1000000 ∧ n = 0) ∨ (k = 5 ∧ 1 ≤ p ∧ p ≤ 1000000 ∧ n = 0) ∨
    (k = 6 ∧ p = 0 ∧ 1 ≤ n ∧ n ≤ 20) ∨ (k = 7 ∧ 2 ≤ p ∧ p ≤ 1000003 ∧ 1 ≤ n ∧ n ≤ 6) ∨ (k = 8 ∧ 2 ≤ p ∧ p ≤ 1000003 ∧ n = 0) := by
  unfold ringB at h
  by_cases h1 : k = 1
  · subst h1; simp at h; omega
  by_cases h2 : k = 2
  · subst h2; simp at h; have := prime_true h.1; omega
  by_cases h3 : k = 3 ∨ k = 4 ∨ k = 5
  · rw [if_neg h1, if_neg h2, if_pos h3] at h; simp at h; omega
  rw [if_neg h1, if_neg h2, if_neg h3] at h
  by_cases h6 : k = 6
  · subst h6; simp at h; omega
  by_cases h7 : k = 7
  · subst h7; simp at h; have := prime_true h.1.1; omega
  by_cases h8 : k = 8
  · subst h8; simp at h; have := prime_true h.1.1; omega
  simp [h6, h7, h8] at h
theorem ring_width {k p n : Int} (h : ringB k p n = true) : 1 ≤ widthI k n ∧ widthI k n ≤ 6 := by
  unfold widthI
  rcases ring_cases h with ⟨rfl, h⟩ | ⟨rfl, h⟩ | ⟨rfl, h⟩ | ⟨rfl, h⟩ | ⟨rfl, h⟩ | ⟨rfl, h⟩ | ⟨rfl, h⟩ | ⟨rfl, h⟩ <;> simp <;> omega
theorem ring_top {k p n : Int} (h : ringB k p n = true) : 1 ≤ topI k p n ∧ topI k p n ≤ 1048576 := by
  unfold topI
  rcases ring_cases h with ⟨rfl, g⟩ | ⟨rfl, g⟩ | ⟨rfl, g⟩ | ⟨rfl, g⟩ | ⟨rfl, g⟩ | ⟨rfl, g⟩ | ⟨rfl, g⟩ | ⟨rfl, g⟩ <;> simp <;> try omega
  have := two_pow g.2.1 g.2.2
  omega
theorem ring_p {k p n : Int} (h : ringB k p n = true) : 0 ≤ p ∧ p ≤ 1000003 := by
  rcases ring_cases h with ⟨rfl, h⟩ | ⟨rfl, h⟩ | ⟨rfl, h⟩ | ⟨rfl, h⟩ | ⟨rfl, h⟩ | ⟨rfl, h⟩ | ⟨rfl, h⟩ | ⟨rfl, h⟩ <;> omega

/-- All integers of the list are from 0 to t. -/
def Within (t : Int) (xs : List Int) : Prop := ∀ x ∈ xs, 0 ≤ x ∧ x ≤ t
/-- xs is an element of the valid ring. -/
def ElemV (k p n : Int) (xs : List Int) : Prop := (xs.length : Int) = widthI k n ∧ Within (topI k p n) xs
open Classical in
noncomputable def elemB (k p n : Int) (xs : List Int) : Bool := decide (ElemV k p n xs)
theorem Within.at {t : Int} {xs : List Int} (h : Within t xs) {i : Nat} (hi : i < xs.length) : 0 ≤ xs[i] ∧ xs[i] ≤ t := h _ (List.getElem_mem hi)
theorem Within.getD {t : Int} {xs : List Int} (h : Within t xs) (ht : 0 ≤ t) (i : Nat) : 0 ≤ xs.getD i 0 ∧ xs.getD i 0 ≤ t := by
  by_cases hi : i < xs.length
  · rw [List.getD_eq_getElem?_getD, List.getElem?_eq_getElem hi]; exact h.at hi
  · rw [List.getD_eq_getElem?_getD, List.getElem?_eq_none (by omega)]; simp; exact ht

/-- The sum of two integers in a ring. -/
def plusI (k p a b : Int) : Int :=
  if k = 1 ∨ k = 6 then bits .or .i64 a b else if k = 3 then min (a + b) p else if k = 4 then min a b else if k = 5 then max a b else (a + b) % p
def zeroL (k p n : Int) : List Int := (List.range (widthI k n).toNat).map fun i => if i = 0 ∧ k = 4 then p else 0
def oneL (k p n : Int) : List Int := (List.range (widthI k n).toNat).map fun i => if i = 0 then (if k = 5 ∨ k = 6 then topI k p n else if k = 4 then 0 else 1) else 0
def plusL (k p : Int) (xs ys : List Int) : List Int := (List.range xs.length).map fun i => plusI k p (xs.getD i 0) (ys.getD i 0)

theorem bits_i64_and (a b : Int) (h1 : 0 ≤ a) (h2 : a < 1073741824) (h3 : 0 ≤ b) (h4 : b < 1073741824) : bits .and .i64 a b = ((a.toNat &&& b.toNat : Nat) : Int) := by
  obtain ⟨A, rfl⟩ := Int.eq_ofNat_of_zero_le h1
  obtain ⟨B, rfl⟩ := Int.eq_ofNat_of_zero_le h3
  have hx : A &&& B < 2 ^ 30 := Nat.and_lt_two_pow _ (by omega)
  show IntKind.i64.wrap ((BitVec.ofInt 64 (A : Int) &&& BitVec.ofInt 64 (B : Int)).toNat : Int) = _
  have eA : (BitVec.ofInt 64 (A : Int)).toNat = A := by rw [BitVec.ofInt_natCast, BitVec.toNat_ofNat]; exact Nat.mod_eq_of_lt (by omega)
  have eB : (BitVec.ofInt 64 (B : Int)).toNat = B := by rw [BitVec.ofInt_natCast, BitVec.toNat_ofNat]; exact Nat.mod_eq_of_lt (by omega)
  rw [BitVec.toNat_and, eA, eB]
  simp only [Int.toNat_natCast]
  simp [IntKind.wrap, IntKind.bits, IntKind.signed]
  omega
theorem bits_i64_or (a b : Int) (h1 : 0 ≤ a) (h2 : a < 1073741824) (h3 : 0 ≤ b) (h4 : b < 1073741824) : bits .or .i64 a b = ((a.toNat ||| b.toNat : Nat) : Int) := by
  obtain ⟨A, rfl⟩ := Int.eq_ofNat_of_zero_le h1
  obtain ⟨B, rfl⟩ := Int.eq_ofNat_of_zero_le h3
  have hx : A ||| B < 2 ^ 30 := Nat.or_lt_two_pow (by omega) (by omega)
  show IntKind.i64.wrap ((BitVec.ofInt 64 (A : Int) ||| BitVec.ofInt 64 (B : Int)).toNat : Int) = _
  have eA : (BitVec.ofInt 64 (A : Int)).toNat = A := by rw [BitVec.ofInt_natCast, BitVec.toNat_ofNat]; exact Nat.mod_eq_of_lt (by omega)
  have eB : (BitVec.ofInt 64 (B : Int)).toNat = B := by rw [BitVec.ofInt_natCast, BitVec.toNat_ofNat]; exact Nat.mod_eq_of_lt (by omega)
  rw [BitVec.toNat_or, eA, eB]
  simp only [Int.toNat_natCast]
  simp [IntKind.wrap, IntKind.bits, IntKind.signed]
  omega
end Go.Proofs.Ytdheakjjnaifkaa
namespace Go.Proofs.Ytdheakjjnaifkaa
set_option maxRecDepth 20000
open Go.RowKit

def inB (n a b : Int) : Bool := decide (a ≤ n) && decide (n ≤ b)
theorem l01_in (n a b : Int) (w : World) :
    Calls Try.prog 59 #[.int .i64 n, .int .i64 a, .int .i64 b] w fun e w' => e = .returned (.bool (inB n a b)) ∧ w = w' := by
  by_cases ha : a ≤ n <;> by_cases hb : n ≤ b <;>
  · go_enter Try.func59, Try.ntmps59
    go_wp2
    go_ret
    exact ⟨by simp [inB, ha, hb], rfl⟩

theorem root_lt {n : Int} {d : Nat} (hn : n ≤ 1000003) (h : (d : Int) * d ≤ n) : d ≤ 1000 := by
  by_cases h1 : d ≤ 1000
  · exact h1
  · have h2 : 1001 * 1001 ≤ d * d := Nat.mul_le_mul (by omega) (by omega)
    have h3 : ((d * d : Nat) : Int) ≤ n := by simpa using h
    omega
theorem sq_small {d : Nat} (h : d ≤ 1001) : 0 ≤ (d : Int) * d ∧ (d : Int) * d ≤ 1002001 := by
  have h2 : d * d ≤ 1001 * 1001 := Nat.mul_le_mul h h
  have h3 : ((d * d : Nat) : Int) = (d : Int) * d := by simp
  omega

set_option maxHeartbeats 400000 in
theorem prime_impl (n : Int) (w : World) :
    Calls Try.prog 101 #[.int .i64 n] w fun e w' => e = .returned (.bool (primeB n)) ∧ w = w' := by
  by_cases ho : n < 2 ∨ 1000003 < n
  · rw [prime_out ho]
    rcases ho with ho | ho <;>
    · go_enter Try.func101, Try.ntmps101
      go_wp2
      go_ret
      exact ⟨rfl, rfl⟩
  · have g1 : 2 ≤ n := by omega
    have g2 : n ≤ 1000003 := by omega
    obtain ⟨r, hr⟩ : ∃ r, r = primeB n := ⟨_, rfl⟩
    rw [← hr]
    have HR := Lib.hid hr
    clear ho hr
    go_enter Try.func101, Try.ntmps101
    go_wp2
    go_loop [3] (fun i => ∃ d : Nat, 2 ≤ d ∧ d ≤ 1001 ∧ i = .int .i64 d ∧ Hid (∀ e : Nat, 2 ≤ e → e < d → n % (e : Int) ≠ 0)) (fun i => 1001 - (intOf i).toNat)
    case atStart => exact ⟨2, by omega, by omega, rfl, fun e he h => by omega⟩
    case round =>
      obtain ⟨d, hd, hd2, rfl, HD⟩ := hrel
      have hs := sq_small hd2
      have hw : IntKind.i64.wrap ((d : Int) * (d : Int)) = (d : Int) * (d : Int) := IntWalk.i64_in _ (by omega)
      by_cases hle : (d : Int) * d ≤ n
      · have hd3 := root_lt g2 hle
        by_cases hm : n % (d : Int) = 0
        · have HF := Lib.hid (prime_not hd hle hm)
          go_wp2
          go_ret
          exact ⟨by rw [HR.out, HF.out]; rfl, rfl⟩
        · have HM := Lib.hid hm
          have hm' : ((n % (d : Int)) == 0) = false := by simpa using hm
          go_wp2
          go_round
          case rel =>
            refine ⟨d + 1, by omega, by omega, by go_num, fun e he h => ?_⟩
            by_cases e1 : e = d
            · subst e1; exact HM.out
            · exact HD.out e he (by omega)
          case measure => simp [intOf]; omega
      · have HL := Lib.hid hle
        go_wp2
        go_ret
        refine ⟨?_, rfl⟩
        rw [HR.out, prime_of g1 g2 (fun e he h => HD.out e he ?_)]
        · rfl
        apply Decidable.byContradiction
        intro hn
        have HL2 := HL.out
        have h4 : d * d ≤ e * e := Nat.mul_le_mul (by omega) (by omega)
        have h5 : ((d * d : Nat) : Int) ≤ ((e * e : Nat) : Int) := by omega
        simp at h5
        omega

set_option maxHeartbeats 400000 in
theorem prime_spec (n : Int) (w : World) :
    Calls Try.prog 78 #[.int .i64 n] w fun e w' => e = .returned (.bool (primeB n)) ∧ w = w' := by
  obtain ⟨q, hq⟩ : ∃ q, q = inB n 2 1000003 := ⟨_, rfl⟩
  obtain ⟨r, hr⟩ : ∃ r, r = primeB n := ⟨_, rfl⟩
  rw [← hr]
  have HR := Lib.hid hr
  have HQ := Lib.hid hq
  clear hr hq
  by_cases ho : n < 2 ∨ 1000003 < n
  · have HE := Lib.hid ((HR.out.trans (prime_out ho)).trans (show false = inB n 2 1000003 by unfold inB; rcases ho with ho | ho <;> simp <;> omega))
    rcases ho with ho | ho <;>
    · go_enter Try.func78, Try.ntmps78
      go_wp2
      go_loop [3] (fun i => i = .int .i64 2) (fun _ => 0)
      case atStart => rfl
      case round =>
        subst hrel
        go_wp2_with fail
        refine (l01_in n 2 1000003 w).mono ?_
        rw [← HQ.out]
        rintro e w1 ⟨rfl, rfl⟩
        go_wp2
        go_ret
        exact ⟨by rw [HE.out, HQ.out]; rfl, rfl⟩
  · have g1 : 2 ≤ n := by omega
    have g2 : n ≤ 1000003 := by omega
    have HT := Lib.hid (HQ.out.trans (show inB n 2 1000003 = true by unfold inB; simp; omega))
    clear ho
    go_enter Try.func78, Try.ntmps78
    go_wp2
    go_loop [3] (fun i => ∃ d : Nat, 2 ≤ d ∧ d ≤ 1001 ∧ i = .int .i64 d ∧ Hid (∀ e : Nat, 2 ≤ e → e < d → n % (e : Int) ≠ 0)) (fun i => 1001 - (intOf i).toNat)
    case atStart => exact ⟨2, by omega, by omega, rfl, fun e he h => by omega⟩
    case round =>
      obtain ⟨d, hd, hd2, rfl, HD⟩ := hrel
      have hs := sq_small hd2
      have hw : IntKind.i64.wrap ((d : Int) * (d : Int)) = (d : Int) * (d : Int) := IntWalk.i64_in _ (by omega)
      by_cases hle : (d : Int) * d ≤ n
      · have hd3 := root_lt g2 hle
        by_cases hm : n % (d : Int) = 0
        · have HF := Lib.hid (prime_not hd hle hm)
          go_wp2
          go_ret
          exact ⟨by rw [HR.out, HF.out]; rfl, rfl⟩
        · have HM := Lib.hid hm
          have hm' : ((n % (d : Int)) == 0) = false := by simpa using hm
          go_wp2
          go_round
          case rel =>
            refine ⟨d + 1, by omega, by omega, by go_num, fun e he h => ?_⟩
            by_cases e1 : e = d
            · subst e1; exact HM.out
            · exact HD.out e he (by omega)
          case measure => simp [intOf]; omega
      · have HL := Lib.hid hle
        go_wp2_with fail
        refine (l01_in n 2 1000003 w).mono ?_
        rw [← HQ.out]
        rintro e w1 ⟨rfl, rfl⟩
        go_wp2
        go_ret
        refine ⟨?_, rfl⟩
        rw [HT.out, HR.out, prime_of g1 g2 (fun e he h => HD.out e he ?_)]
        · rfl
        apply Decidable.byContradiction
        intro hn
        have HL2 := HL.out
        have h4 : d * d ≤ e * e := Nat.mul_le_mul (by omega) (by omega)
        have h5 : ((d * d : Nat) : Int) ≤ ((e * e : Nat) : Int) := by omega
        simp at h5
        omega
end Go.Proofs.Ytdheakjjnaifkaa
namespace Go.Proofs.Ytdheakjjnaifkaa
set_option maxRecDepth 20000
open Go.RowKit

abbrev ringV (k p n : Int) : Value := .agg #[.int .i64 k, .int .i64 p, .int .i64 n]
abbrev ringC (k p n : Int) : Array Value := #[.int .i64 k, .int .i64 p, .int .i64 n]

set_option maxHeartbeats 400000 in
theorem spec_k1_tt (p n : Int) (w : World) (hp : (p == 0) = true) (hn : (n == 0) = true) :
    Calls Try.prog 44 #[ringV 1 p n] w fun e w' => e = .returned (.bool true) ∧ Below w.heap.size w w' := by
  go_enter Try.func44, Try.ntmps44
  go_wp2
  go_ret
  exact ⟨rfl, (Below.refl _ _).alloc (Nat.le_refl _) _⟩

set_option maxHeartbeats 400000 in
theorem spec_k1_tf (p n : Int) (w : World) (hp : (p == 0) = true) (hn : (n == 0) = false) :
    Calls Try.prog 44 #[ringV 1 p n] w fun e w' => e = .returned (.bool false) ∧ Below w.heap.size w w' := by
  go_enter Try.func44, Try.ntmps44
  go_wp2
  go_ret
  exact ⟨rfl, (Below.refl _ _).alloc (Nat.le_refl _) _⟩

set_option maxHeartbeats 400000 in
theorem spec_k1_ff (p n : Int) (w : World) (hp : (p == 0) = false) :
    Calls Try.prog 44 #[ringV 1 p n] w fun e w' => e = .returned (.bool false) ∧ Below w.heap.size w w' := by
  go_enter Try.func44, Try.ntmps44
  go_wp2
  go_ret
  exact ⟨rfl, (Below.refl _ _).alloc (Nat.le_refl _) _⟩

set_option maxHeartbeats 400000 in
theorem spec_k2_f (p n : Int) (w : World) (hb : primeB p = false) :
    Calls Try.prog 44 #[ringV 2 p n] w fun e w' => e = .returned (.bool false) ∧ Below w.heap.size w w' := by
  go_enter Try.func44, Try.ntmps44
  go_wp2_with fail
  refine (prime_spec p _).mono ?_
  rw [hb]
  rintro e w1 ⟨rfl, rfl⟩
  go_wp2
  go_ret
  exact ⟨rfl, (Below.refl _ _).alloc (Nat.le_refl _) _⟩

set_option maxHeartbeats 400000 in
theorem spec_k2_tt (p n : Int) (w : World) (hb : primeB p = true) (hn : (n == 0) = true) :
    Calls Try.prog 44 #[ringV 2 p n] w fun e w' => e = .returned (.bool true) ∧ Below w.heap.size w w' := by
  go_enter Try.func44, Try.ntmps44
  go_wp2_with fail
  refine (prime_spec p _).mono ?_
  rw [hb]
  rintro e w1 ⟨rfl, rfl⟩
  go_wp2
  go_ret
  exact ⟨rfl, (Below.refl _ _).alloc (Nat.le_refl _) _⟩

set_option maxHeartbeats 400000 in
theorem spec_k2_tf (p n : Int) (w : World) (hb : primeB p = true) (hn : (n == 0) = false) :
    Calls Try.prog 44 #[ringV 2 p n] w fun e w' => e = .returned (.bool false) ∧ Below w.heap.size w w' := by
  go_enter Try.func44, Try.ntmps44
  go_wp2_with fail
  refine (prime_spec p _).mono ?_
  rw [hb]
  rintro e w1 ⟨rfl, rfl⟩
  go_wp2
  go_ret
  exact ⟨rfl, (Below.refl _ _).alloc (Nat.le_refl _) _⟩

set_option maxHeartbeats 400000 in
theorem spec_k3_f (p n : Int) (w : World) (hi : inB p 1 1000000 = false) :
    Calls Try.prog 44 #[ringV 3 p n] w fun e w' => e = .returned (.bool false) ∧ Below w.heap.size w w' := by
  go_enter Try.func44, Try.ntmps44
  go_wp2_with fail
  refine (l01_in p 1 1000000 _).mono ?_
  rw [hi]
  rintro e w1 ⟨rfl, rfl⟩
  go_wp2
  go_ret
  exact ⟨rfl, (Below.refl _ _).alloc (Nat.le_refl _) _⟩

set_option maxHeartbeats 400000 in
theorem spec_k3_tt (p n : Int) (w : World) (hi : inB p 1 1000000 = true) (hn : (n == 0) = true) :
    Calls Try.prog 44 #[ringV 3 p n] w fun e w' => e = .returned (.bool true) ∧ Below w.heap.size w w' := by
  go_enter Try.func44, Try.ntmps44
  go_wp2_with fail
  refine (l01_in p 1 1000000 _).mono ?_
  rw [hi]
  rintro e w1 ⟨rfl, rfl⟩
  go_wp2
  go_ret
  exact ⟨rfl, (Below.refl _ _).alloc (Nat.le_refl _) _⟩

set_option maxHeartbeats 400000 in
theorem spec_k3_tf (p n : Int) (w : World) (hi : inB p 1 1000000 = true) (hn : (n == 0) = false) :
    Calls Try.prog 44 #[ringV 3 p n] w fun e w' => e = .returned (.bool false) ∧ Below w.heap.size w w' := by
  go_enter Try.func44, Try.ntmps44
  go_wp2_with fail
  refine (l01_in p 1 1000000 _).mono ?_
  rw [hi]
  rintro e w1 ⟨rfl, rfl⟩
  go_wp2
  go_ret
  exact ⟨rfl, (Below.refl _ _).alloc (Nat.le_refl _) _⟩

set_option maxHeartbeats 400000 in
theorem spec_k4_f (p n : Int) (w : World) (hi : inB p 1 1000000 = false) :
    Calls Try.prog 44 #[ringV 4 p n] w fun e w' => e = .returned (.bool false) ∧ Below w.heap.size w w' := by
  go_enter Try.func44, Try.ntmps44
  go_wp2_with fail
  refine (l01_in p 1 1000000 _).mono ?_
  rw [hi]
  rintro e w1 ⟨rfl, rfl⟩
  go_wp2
  go_ret
  exact ⟨rfl, (Below.refl _ _).alloc (Nat.le_refl _) _⟩

set_option maxHeartbeats 400000 in
theorem spec_k4_tt (p n : Int) (w : World) (hi : inB p 1 1000000 = true) (hn : (n == 0) = true) :
    Calls Try.prog 44 #[ringV 4 p n] w fun e w' => e = .returned (.bool true) ∧ Below w.heap.size w w' := by
  go_enter Try.func44, Try.ntmps44
  go_wp2_with fail
  refine (l01_in p 1 1000000 _).mono ?_
  rw [hi]
  rintro e w1 ⟨rfl, rfl⟩
  go_wp2
  go_ret
  exact ⟨rfl, (Below.refl _ _).alloc (Nat.le_refl _) _⟩

set_option maxHeartbeats 400000 in
theorem spec_k4_tf (p n : Int) (w : World) (hi : inB p 1 1000000 = true) (hn : (n == 0) = false) :
    Calls Try.prog 44 #[ringV 4 p n] w fun e w' => e = .returned (.bool false) ∧ Below w.heap.size w w' := by
  go_enter Try.func44, Try.ntmps44
  go_wp2_with fail
  refine (l01_in p 1 1000000 _).mono ?_
  rw [hi]
  rintro e w1 ⟨rfl, rfl⟩
  go_wp2
  go_ret
  exact ⟨rfl, (Below.refl _ _).alloc (Nat.le_refl _) _⟩

set_option maxHeartbeats 400000 in
theorem spec_k5_f (p n : Int) (w : World) (hi : inB p 1 1000000 = false) :
    Calls Try.prog 44 #[ringV 5 p n] w fun e w' => e = .returned (.bool false) ∧ Below w.heap.size w w' := by
  go_enter Try.func44, Try.ntmps44
  go_wp2_with fail
  refine (l01_in p 1 1000000 _).mono ?_
  rw [hi]
  rintro e w1 ⟨rfl, rfl⟩
  go_wp2
  go_ret
  exact ⟨rfl, (Below.refl _ _).alloc (Nat.le_refl _) _⟩

set_option maxHeartbeats 400000 in
theorem spec_k5_tt (p n : Int) (w : World) (hi : inB p 1 1000000 = true) (hn : (n == 0) = true) :
    Calls Try.prog 44 #[ringV 5 p n] w fun e w' => e = .returned (.bool true) ∧ Below w.heap.size w w' := by
  go_enter Try.func44, Try.ntmps44
  go_wp2_with fail
  refine (l01_in p 1 1000000 _).mono ?_
  rw [hi]
  rintro e w1 ⟨rfl, rfl⟩
  go_wp2
  go_ret
  exact ⟨rfl, (Below.refl _ _).alloc (Nat.le_refl _) _⟩

set_option maxHeartbeats 400000 in
theorem spec_k5_tf (p n : Int) (w : World) (hi : inB p 1 1000000 = true) (hn : (n == 0) = false) :
    Calls Try.prog 44 #[ringV 5 p n] w fun e w' => e = .returned (.bool false) ∧ Below w.heap.size w w' := by
  go_enter Try.func44, Try.ntmps44
  go_wp2_with fail
  refine (l01_in p 1 1000000 _).mono ?_
  rw [hi]
  rintro e w1 ⟨rfl, rfl⟩
  go_wp2
  go_ret
  exact ⟨rfl, (Below.refl _ _).alloc (Nat.le_refl _) _⟩

set_option maxHeartbeats 400000 in
theorem spec_k6_f (p n : Int) (w : World) (hp : (p == 0) = false) :
    Calls Try.prog 44 #[ringV 6 p n] w fun e w' => e = .returned (.bool false) ∧ Below w.heap.size w w' := by
  go_enter Try.func44, Try.ntmps44
  go_wp2
  go_ret
  exact ⟨rfl, (Below.refl _ _).alloc (Nat.le_refl _) _⟩

set_option maxHeartbeats 400000 in
theorem spec_k6_tt (p n : Int) (w : World) (hp : (p == 0) = true) (hi : inB n 1 20 = true) :
    Calls Try.prog 44 #[ringV 6 p n] w fun e w' => e = .returned (.bool true) ∧ Below w.heap.size w w' := by
  go_enter Try.func44, Try.ntmps44
  go_wp2_with fail
  refine (l01_in n 1 20 _).mono ?_
  rw [hi]
  rintro e w1 ⟨rfl, rfl⟩
  go_wp2
  go_ret
  exact ⟨rfl, (Below.refl _ _).alloc (Nat.le_refl _) _⟩

set_option maxHeartbeats 400000 in
theorem spec_k6_tf (p n : Int) (w : World) (hp : (p == 0) = true) (hi : inB n 1 20 = false) :
    Calls Try.prog 44 #[ringV 6 p n] w fun e w' => e = .returned (.bool false) ∧ Below w.heap.size w w' := by
  go_enter Try.func44, Try.ntmps44
  go_wp2_with fail
  refine (l01_in n 1 20 _).mono ?_
  rw [hi]
  rintro e w1 ⟨rfl, rfl⟩
  go_wp2
  go_ret
  exact ⟨rfl, (Below.refl _ _).alloc (Nat.le_refl _) _⟩

set_option maxHeartbeats 400000 in
theorem spec_k7_f (p n : Int) (w : World) (hb : primeB p = false) :
    Calls Try.prog 44 #[ringV 7 p n] w fun e w' => e = .returned (.bool false) ∧ Below w.heap.size w w' := by
  go_enter Try.func44, Try.ntmps44
  go_wp2_with fail
  refine (prime_spec p _).mono ?_
  rw [hb]
  rintro e w1 ⟨rfl, rfl⟩
  go_wp2
  go_ret
  exact ⟨rfl, (Below.refl _ _).alloc (Nat.le_refl _) _⟩

set_option maxHeartbeats 400000 in
theorem spec_k7_tt (p n : Int) (w : World) (hb : primeB p = true) (hi : inB n 1 6 = true) :
    Calls Try.prog 44 #[ringV 7 p n] w fun e w' => e = .returned (.bool true) ∧ Below w.heap.size w w' := by
  go_enter Try.func44, Try.ntmps44
  go_wp2_with fail
  refine (prime_spec p _).mono ?_
  rw [hb]
  rintro e w1 ⟨rfl, rfl⟩
  go_wp2_with fail
  refine (l01_in n 1 6 _).mono ?_
  rw [hi]
  rintro e w1 ⟨rfl, rfl⟩
  go_wp2
  go_ret
  exact ⟨rfl, (Below.refl _ _).alloc (Nat.le_refl _) _⟩

set_option maxHeartbeats 400000 in
theorem spec_k7_tf (p n : Int) (w : World) (hb : primeB p = true) (hi : inB n 1 6 = false) :
    Calls Try.prog 44 #[ringV 7 p n] w fun e w' => e = .returned (.bool false) ∧ Below w.heap.size w w' := by
  go_enter Try.func44, Try.ntmps44
  go_wp2_with fail
  refine (prime_spec p _).mono ?_
  rw [hb]
  rintro e w1 ⟨rfl, rfl⟩
  go_wp2_with fail
  refine (l01_in n 1 6 _).mono ?_
  rw [hi]
  rintro e w1 ⟨rfl, rfl⟩
  go_wp2
  go_ret
  exact ⟨rfl, (Below.refl _ _).alloc (Nat.le_refl _) _⟩

set_option maxHeartbeats 400000 in
theorem spec_k8_f (p n : Int) (w : World) (hb : primeB p = false) :
    Calls Try.prog 44 #[ringV 8 p n] w fun e w' => e = .returned (.bool false) ∧ Below w.heap.size w w' := by
  go_enter Try.func44, Try.ntmps44
  go_wp2_with fail
  refine (prime_spec p _).mono ?_
  rw [hb]
  rintro e w1 ⟨rfl, rfl⟩
  go_wp2
  go_ret
  exact ⟨rfl, (Below.refl _ _).alloc (Nat.le_refl _) _⟩

set_option maxHeartbeats 400000 in
theorem spec_k8_lo (p n : Int) (w : World) (hb : primeB p = true) (hi : p ≤ 2) :
    Calls Try.prog 44 #[ringV 8 p n] w fun e w' => e = .returned (.bool false) ∧ Below w.heap.size w w' := by
  go_enter Try.func44, Try.ntmps44
  go_wp2_with fail
  refine (prime_spec p _).mono ?_
  rw [hb]
  rintro e w1 ⟨rfl, rfl⟩
  go_wp2
  go_ret
  exact ⟨rfl, (Below.refl _ _).alloc (Nat.le_refl _) _⟩

set_option maxHeartbeats 400000 in
theorem spec_k8_tt (p n : Int) (w : World) (hb : primeB p = true) (hi : 2 < p) (hn : (n == 0) = true) :
    Calls Try.prog 44 #[ringV 8 p n] w fun e w' => e = .returned (.bool true) ∧ Below w.heap.size w w' := by
  go_enter Try.func44, Try.ntmps44
  go_wp2_with fail
  refine (prime_spec p _).mono ?_
  rw [hb]
  rintro e w1 ⟨rfl, rfl⟩
  go_wp2
  go_ret
  exact ⟨rfl, (Below.refl _ _).alloc (Nat.le_refl _) _⟩

set_option maxHeartbeats 400000 in
theorem spec_k8_tf (p n : Int) (w : World) (hb : primeB p = true) (hi : 2 < p) (hn : (n == 0) = false) :
    Calls Try.prog 44 #[ringV 8 p n] w fun e w' => e = .returned (.bool false) ∧ Below w.heap.size w w' := by
  go_enter Try.func44, Try.ntmps44
  go_wp2_with fail
  refine (prime_spec p _).mono ?_
  rw [hb]
  rintro e w1 ⟨rfl, rfl⟩
  go_wp2
  go_ret
  exact ⟨rfl, (Below.refl _ _).alloc (Nat.le_refl _) _⟩

set_option maxHeartbeats 400000 in
theorem spec_kn (k p n : Int) (w : World) (h1 : (k == 1) = false) (h2 : (k == 2) = false) (h3 : (k == 3) = false) (h4 : (k == 4) = false) (h5 : (k == 5) = false) (h6 : (k == 6) = false) (h7 : (k == 7) = false) (h8 : (k == 8) = false) :
    Calls Try.prog 44 #[ringV k p n] w fun e w' => e = .returned (.bool false) ∧ Below w.heap.size w w' := by
  go_enter Try.func44, Try.ntmps44
  go_wp2
  go_ret
  exact ⟨rfl, (Below.refl _ _).alloc (Nat.le_refl _) _⟩

/-- RingOk (spec). -/
theorem ring_ok_spec (k p n : Int) (w : World) :
    Calls Try.prog 44 #[ringV k p n] w fun e w' => e = .returned (.bool (ringB k p n)) ∧ Below w.heap.size w w' := by
  have fin : ∀ b : Bool, ringB k p n = b → (Calls Try.prog 44 #[ringV k p n] w fun e w' => e = .returned (.bool b) ∧ Below w.heap.size w w') → Calls Try.prog 44 #[ringV k p n] w fun e w' => e = .returned (.bool (ringB k p n)) ∧ Below w.heap.size w w' := fun b hb h => by rw [hb]; exact h
  by_cases h1 : k = 1
  · subst h1
    by_cases hp : p = 0
    · by_cases hn : n = 0
      · exact fin true (by simp [ringB, hp, hn]) (spec_k1_tt p n w (by simp [hp]) (by simp [hn]))
      · exact fin false (by simp [ringB, hn]) (spec_k1_tf p n w (by simp [hp]) (by simp [hn]))
    · exact fin false (by simp [ringB, hp]) (spec_k1_ff p n w (by simp [hp]))
  by_cases h2 : k = 2
  · subst h2
    cases hb : primeB p with
    | false => exact fin false (by simp [ringB, hb]) (spec_k2_f p n w hb)
    | true =>
      by_cases hn : n = 0
      · exact fin true (by simp [ringB, hb, hn]) (spec_k2_tt p n w hb (by simp [hn]))
      · exact fin false (by simp [ringB, hn]) (spec_k2_tf p n w hb (by simp [hn]))
  by_cases h3 : k = 3
  · subst h3
    by_cases hi : 1 ≤ p ∧ p ≤ 1000000
    · by_cases hn : n = 0
      · exact fin true (by simp [ringB, hi, hn]) (spec_k3_tt p n w (by simp [inB, hi]) (by simp [hn]))
      · exact fin false (by simp [ringB, hn]) (spec_k3_tf p n w (by simp [inB, hi]) (by simp [hn]))
    · exact fin false (by simp [ringB]; omega) (spec_k3_f p n w (by simp [inB]; omega))
  by_cases h4 : k = 4
  · subst h4
    by_cases hi : 1 ≤ p ∧ p ≤ 1000000
    · by_cases hn : n = 0
      · exact fin true (by simp [ringB, hi, hn]) (spec_k4_tt p n w (by simp [inB, hi]) (by simp [hn]))
      · exact fin false (by simp [ringB, hn]) (spec_k4_tf p n w (by simp [inB, hi]) (by simp [hn]))
    · exact fin false (by simp [ringB]; omega) (spec_k4_f p n w (by simp [inB]; omega))
  by_cases h5 : k = 5
  · subst h5
    by_cases hi : 1 ≤ p ∧ p ≤ 1000000
    · by_cases hn : n = 0
      · exact fin true (by simp [ringB, hi, hn]) (spec_k5_tt p n w (by simp [inB, hi]) (by simp [hn]))
      · exact fin false (by simp [ringB, hn]) (spec_k5_tf p n w (by simp [inB, hi]) (by simp [hn]))
    · exact fin false (by simp [ringB]; omega) (spec_k5_f p n w (by simp [inB]; omega))
  by_cases h6 : k = 6
  · subst h6
    by_cases hp : p = 0
    · by_cases hi : 1 ≤ n ∧ n ≤ 20
      · exact fin true (by simp [ringB, hi, hp]) (spec_k6_tt p n w (by simp [hp]) (by simp [inB, hi]))
      · exact fin false (by simp [ringB]; omega) (spec_k6_tf p n w (by simp [hp]) (by simp [inB]; omega))
    · exact fin false (by simp [ringB, hp]) (spec_k6_f p n w (by simp [hp]))
  by_cases h7 : k = 7
  · subst h7
    cases hb : primeB p with
    | false => exact fin false (by simp [ringB, hb]) (spec_k7_f p n w hb)
    | true =>
      by_cases hi : 1 ≤ n ∧ n ≤ 6
      · exact fin true (by simp [ringB, hb, hi]) (spec_k7_tt p n w hb (by simp [inB, hi]))
      · exact fin false (by simp [ringB, hb]; omega) (spec_k7_tf p n w hb (by simp [inB]; omega))
  by_cases h8 : k = 8
  · subst h8
    cases hb : primeB p with
    | false => exact fin false (by simp [ringB, hb]) (spec_k8_f p n w hb)
    | true =>
      have h2 := (prime_true hb).1
      by_cases hi : 2 < p
      · by_cases hn : n = 0
        · exact fin true (by simp [ringB, hb, hn]; omega) (spec_k8_tt p n w hb hi (by simp [hn]))
        · exact fin false (by simp [ringB, hn]) (spec_k8_tf p n w hb hi (by simp [hn]))
      · exact fin false (by simp [ringB, hb]; omega) (spec_k8_lo p n w hb (by omega))
  exact fin false (by simp [ringB, h1, h2, h3, h4, h5, h6, h7, h8]) (spec_kn k p n w (by simp [h1]) (by simp [h2]) (by simp [h3]) (by simp [h4]) (by simp [h5]) (by simp [h6]) (by simp [h7]) (by simp [h8]))

set_option maxHeartbeats 400000 in
theorem impl_k1_tt (p n : Int) (w : World) (hp : (p == 0) = true) (hn : (n == 0) = true) :
    Calls Try.prog 84 #[ringV 1 p n] w fun e w' => e = .returned (.bool true) ∧ Below w.heap.size w w' := by
  go_enter Try.func84, Try.ntmps84
  go_wp2
  go_ret
  exact ⟨rfl, (Below.refl _ _).alloc (Nat.le_refl _) _⟩

set_option maxHeartbeats 400000 in
theorem impl_k1_tf (p n : Int) (w : World) (hp : (p == 0) = true) (hn : (n == 0) = false) :
    Calls Try.prog 84 #[ringV 1 p n] w fun e w' => e = .returned (.bool false) ∧ Below w.heap.size w w' := by
  go_enter Try.func84, Try.ntmps84
  go_wp2
  go_ret
  exact ⟨rfl, (Below.refl _ _).alloc (Nat.le_refl _) _⟩

set_option maxHeartbeats 400000 in
theorem impl_k1_ff (p n : Int) (w : World) (hp : (p == 0) = false) :
    Calls Try.prog 84 #[ringV 1 p n] w fun e w' => e = .returned (.bool false) ∧ Below w.heap.size w w' := by
  go_enter Try.func84, Try.ntmps84
  go_wp2
  go_ret
  exact ⟨rfl, (Below.refl _ _).alloc (Nat.le_refl _) _⟩

set_option maxHeartbeats 400000 in
theorem impl_k2_f (p n : Int) (w : World) (hb : primeB p = false) :
    Calls Try.prog 84 #[ringV 2 p n] w fun e w' => e = .returned (.bool false) ∧ Below w.heap.size w w' := by
  go_enter Try.func84, Try.ntmps84
  go_wp2_with fail
  refine (prime_impl p _).mono ?_
  rw [hb]
  rintro e w1 ⟨rfl, rfl⟩
  go_wp2
  go_ret
  exact ⟨rfl, (Below.refl _ _).alloc (Nat.le_refl _) _⟩

set_option maxHeartbeats 400000 in
theorem impl_k2_tt (p n : Int) (w : World) (hb : primeB p = true) (hn : (n == 0) = true) :
    Calls Try.prog 84 #[ringV 2 p n] w fun e w' => e = .returned (.bool true) ∧ Below w.heap.size w w' := by
  go_enter Try.func84, Try.ntmps84
  go_wp2_with fail
  refine (prime_impl p _).mono ?_
  rw [hb]
  rintro e w1 ⟨rfl, rfl⟩
  go_wp2
  go_ret
  exact ⟨rfl, (Below.refl _ _).alloc (Nat.le_refl _) _⟩

set_option maxHeartbeats 400000 in
theorem impl_k2_tf (p n : Int) (w : World) (hb : primeB p = true) (hn : (n == 0) = false) :
    Calls Try.prog 84 #[ringV 2 p n] w fun e w' => e = .returned (.bool false) ∧ Below w.heap.size w w' := by
  go_enter Try.func84, Try.ntmps84
  go_wp2_with fail
  refine (prime_impl p _).mono ?_
  rw [hb]
  rintro e w1 ⟨rfl, rfl⟩
  go_wp2
  go_ret
  exact ⟨rfl, (Below.refl _ _).alloc (Nat.le_refl _) _⟩

set_option maxHeartbeats 400000 in
theorem impl_k3_lo (p n : Int) (w : World) (hi : p < 1) :
    Calls Try.prog 84 #[ringV 3 p n] w fun e w' => e = .returned (.bool false) ∧ Below w.heap.size w w' := by
  go_enter Try.func84, Try.ntmps84
  go_wp2
  go_ret
  exact ⟨rfl, (Below.refl _ _).alloc (Nat.le_refl _) _⟩

set_option maxHeartbeats 400000 in
theorem impl_k3_hi (p n : Int) (w : World) (hi : 1000000 < p) :
    Calls Try.prog 84 #[ringV 3 p n] w fun e w' => e = .returned (.bool false) ∧ Below w.heap.size w w' := by
  go_enter Try.func84, Try.ntmps84
  go_wp2
  go_ret
  exact ⟨rfl, (Below.refl _ _).alloc (Nat.le_refl _) _⟩

set_option maxHeartbeats 400000 in
theorem impl_k3_tt (p n : Int) (w : World) (h1 : 1 ≤ p) (h2 : p ≤ 1000000) (hn : (n == 0) = true) :
    Calls Try.prog 84 #[ringV 3 p n] w fun e w' => e = .returned (.bool true) ∧ Below w.heap.size w w' := by
  go_enter Try.func84, Try.ntmps84
  go_wp2
  go_ret
  exact ⟨rfl, (Below.refl _ _).alloc (Nat.le_refl _) _⟩

set_option maxHeartbeats 400000 in
theorem impl_k3_tf (p n : Int) (w : World) (h1 : 1 ≤ p) (h2 : p ≤ 1000000) (hn : (n == 0) = false) :
    Calls Try.prog 84 #[ringV 3 p n] w fun e w' => e = .returned (.bool false) ∧ Below w.heap.size w w' := by
  go_enter Try.func84, Try.ntmps84
  go_wp2
  go_ret
  exact ⟨rfl, (Below.refl _ _).alloc (Nat.le_refl _) _⟩

set_option maxHeartbeats 400000 in
theorem impl_k4_lo (p n : Int) (w : World) (hi : p < 1) :
    Calls Try.prog 84 #[ringV 4 p n] w fun e w' => e = .returned (.bool false) ∧ Below w.heap.size w w' := by
  go_enter Try.func84, Try.ntmps84
  go_wp2
  go_ret
  exact ⟨rfl, (Below.refl _ _).alloc (Nat.le_refl _) _⟩

set_option maxHeartbeats 400000 in
theorem impl_k4_hi (p n : Int) (w : World) (hi : 1000000 < p) :
    Calls Try.prog 84 #[ringV 4 p n] w fun e w' => e = .returned (.bool false) ∧ Below w.heap.size w w' := by
  go_enter Try.func84, Try.ntmps84
  go_wp2
  go_ret
  exact ⟨rfl, (Below.refl _ _).alloc (Nat.le_refl _) _⟩

set_option maxHeartbeats 400000 in
theorem impl_k4_tt (p n : Int) (w : World) (h1 : 1 ≤ p) (h2 : p ≤ 1000000) (hn : (n == 0) = true) :
    Calls Try.prog 84 #[ringV 4 p n] w fun e w' => e = .returned (.bool true) ∧ Below w.heap.size w w' := by
  go_enter Try.func84, Try.ntmps84
  go_wp2
  go_ret
  exact ⟨rfl, (Below.refl _ _).alloc (Nat.le_refl _) _⟩

set_option maxHeartbeats 400000 in
theorem impl_k4_tf (p n : Int) (w : World) (h1 : 1 ≤ p) (h2 : p ≤ 1000000) (hn : (n == 0) = false) :
    Calls Try.prog 84 #[ringV 4 p n] w fun e w' => e = .returned (.bool false) ∧ Below w.heap.size w w' := by
  go_enter Try.func84, Try.ntmps84
  go_wp2
  go_ret
  exact ⟨rfl, (Below.refl _ _).alloc (Nat.le_refl _) _⟩

set_option maxHeartbeats 400000 in
theorem impl_k5_lo (p n : Int) (w : World) (hi : p < 1) :
    Calls Try.prog 84 #[ringV 5 p n] w fun e w' => e = .returned (.bool false) ∧ Below w.heap.size w w' := by
  go_enter Try.func84, Try.ntmps84
  go_wp2
  go_ret
  exact ⟨rfl, (Below.refl _ _).alloc (Nat.le_refl _) _⟩

set_option maxHeartbeats 400000 in
theorem impl_k5_hi (p n : Int) (w : World) (hi : 1000000 < p) :
    Calls Try.prog 84 #[ringV 5 p n] w fun e w' => e = .returned (.bool false) ∧ Below w.heap.size w w' := by
  go_enter Try.func84, Try.ntmps84
  go_wp2
  go_ret
  exact ⟨rfl, (Below.refl _ _).alloc (Nat.le_refl _) _⟩

set_option maxHeartbeats 400000 in
theorem impl_k5_tt (p n : Int) (w : World) (h1 : 1 ≤ p) (h2 : p ≤ 1000000) (hn : (n == 0) = true) :
    Calls Try.prog 84 #[ringV 5 p n] w fun e w' => e = .returned (.bool true) ∧ Below w.heap.size w w' := by
  go_enter Try.func84, Try.ntmps84
  go_wp2
  go_ret
  exact ⟨rfl, (Below.refl _ _).alloc (Nat.le_refl _) _⟩

set_option maxHeartbeats 400000 in
theorem impl_k5_tf (p n : Int) (w : World) (h1 : 1 ≤ p) (h2 : p ≤ 1000000) (hn : (n == 0) = false) :
    Calls Try.prog 84 #[ringV 5 p n] w fun e w' => e = .returned (.bool false) ∧ Below w.heap.size w w' := by
  go_enter Try.func84, Try.ntmps84
  go_wp2
  go_ret
  exact ⟨rfl, (Below.refl _ _).alloc (Nat.le_refl _) _⟩

set_option maxHeartbeats 400000 in
theorem impl_k6_f (p n : Int) (w : World) (hp : (p == 0) = false) :
    Calls Try.prog 84 #[ringV 6 p n] w fun e w' => e = .returned (.bool false) ∧ Below w.heap.size w w' := by
  go_enter Try.func84, Try.ntmps84
  go_wp2
  go_ret
  exact ⟨rfl, (Below.refl _ _).alloc (Nat.le_refl _) _⟩

set_option maxHeartbeats 400000 in
theorem impl_k6_lo (p n : Int) (w : World) (hp : (p == 0) = true) (hi : n < 1) :
    Calls Try.prog 84 #[ringV 6 p n] w fun e w' => e = .returned (.bool false) ∧ Below w.heap.size w w' := by
  go_enter Try.func84, Try.ntmps84
  go_wp2
  go_ret
  exact ⟨rfl, (Below.refl _ _).alloc (Nat.le_refl _) _⟩

set_option maxHeartbeats 400000 in
theorem impl_k6_hi (p n : Int) (w : World) (hp : (p == 0) = true) (h1 : 1 ≤ n) (hi : decide (n ≤ 20) = false) :
    Calls Try.prog 84 #[ringV 6 p n] w fun e w' => e = .returned (.bool false) ∧ Below w.heap.size w w' := by
  go_enter Try.func84, Try.ntmps84
  go_wp2
  go_ret
  exact ⟨rfl, (Below.refl _ _).alloc (Nat.le_refl _) _⟩

set_option maxHeartbeats 400000 in
theorem impl_k6_t (p n : Int) (w : World) (hp : (p == 0) = true) (h1 : 1 ≤ n) (h2 : n ≤ 20) :
    Calls Try.prog 84 #[ringV 6 p n] w fun e w' => e = .returned (.bool true) ∧ Below w.heap.size w w' := by
  go_enter Try.func84, Try.ntmps84
  go_wp2
  go_ret
  exact ⟨rfl, (Below.refl _ _).alloc (Nat.le_refl _) _⟩

set_option maxHeartbeats 400000 in
theorem impl_k7_f (p n : Int) (w : World) (hb : primeB p = false) :
    Calls Try.prog 84 #[ringV 7 p n] w fun e w' => e = .returned (.bool false) ∧ Below w.heap.size w w' := by
  go_enter Try.func84, Try.ntmps84
  go_wp2_with fail
  refine (prime_impl p _).mono ?_
  rw [hb]
  rintro e w1 ⟨rfl, rfl⟩
  go_wp2
  go_ret
  exact ⟨rfl, (Below.refl _ _).alloc (Nat.le_refl _) _⟩

set_option maxHeartbeats 400000 in
theorem impl_k7_lo (p n : Int) (w : World) (hb : primeB p = true) (hi : n < 1) :
    Calls Try.prog 84 #[ringV 7 p n] w fun e w' => e = .returned (.bool false) ∧ Below w.heap.size w w' := by
  go_enter Try.func84, Try.ntmps84
  go_wp2_with fail
  refine (prime_impl p _).mono ?_
  rw [hb]
  rintro e w1 ⟨rfl, rfl⟩
  go_wp2
  go_ret
  exact ⟨rfl, (Below.refl _ _).alloc (Nat.le_refl _) _⟩

set_option maxHeartbeats 400000 in
theorem impl_k7_hi (p n : Int) (w : World) (hb : primeB p = true) (h1 : 1 ≤ n) (hi : decide (n ≤ 6) = false) :
    Calls Try.prog 84 #[ringV 7 p n] w fun e w' => e = .returned (.bool false) ∧ Below w.heap.size w w' := by
  go_enter Try.func84, Try.ntmps84
  go_wp2_with fail
  refine (prime_impl p _).mono ?_
  rw [hb]
  rintro e w1 ⟨rfl, rfl⟩
  go_wp2
  go_ret
  exact ⟨rfl, (Below.refl _ _).alloc (Nat.le_refl _) _⟩

set_option maxHeartbeats 400000 in
theorem impl_k7_t (p n : Int) (w : World) (hb : primeB p = true) (h1 : 1 ≤ n) (h2 : n ≤ 6) :
    Calls Try.prog 84 #[ringV 7 p n] w fun e w' => e = .returned (.bool true) ∧ Below w.heap.size w w' := by
  go_enter Try.func84, Try.ntmps84
  go_wp2_with fail
  refine (prime_impl p _).mono ?_
  rw [hb]
  rintro e w1 ⟨rfl, rfl⟩
  go_wp2
  go_ret
  exact ⟨rfl, (Below.refl _ _).alloc (Nat.le_refl _) _⟩

set_option maxHeartbeats 400000 in
theorem impl_k8_f (p n : Int) (w : World) (hb : primeB p = false) :
    Calls Try.prog 84 #[ringV 8 p n] w fun e w' => e = .returned (.bool false) ∧ Below w.heap.size w w' := by
  go_enter Try.func84, Try.ntmps84
  go_wp2_with fail
  refine (prime_impl p _).mono ?_
  rw [hb]
  rintro e w1 ⟨rfl, rfl⟩
  go_wp2
  go_ret
  exact ⟨rfl, (Below.refl _ _).alloc (Nat.le_refl _) _⟩

set_option maxHeartbeats 400000 in
theorem impl_k8_lo (p n : Int) (w : World) (hb : primeB p = true) (hi : (p != 2) = false) :
    Calls Try.prog 84 #[ringV 8 p n] w fun e w' => e = .returned (.bool false) ∧ Below w.heap.size w w' := by
  go_enter Try.func84, Try.ntmps84
  go_wp2_with fail
  refine (prime_impl p _).mono ?_
  rw [hb]
  rintro e w1 ⟨rfl, rfl⟩
  go_wp2
  go_ret
  exact ⟨rfl, (Below.refl _ _).alloc (Nat.le_refl _) _⟩

set_option maxHeartbeats 400000 in
theorem impl_k8_tt (p n : Int) (w : World) (hb : primeB p = true) (hi : (p != 2) = true) (hn : (n == 0) = true) :
    Calls Try.prog 84 #[ringV 8 p n] w fun e w' => e = .returned (.bool true) ∧ Below w.heap.size w w' := by
  go_enter Try.func84, Try.ntmps84
  go_wp2_with fail
  refine (prime_impl p _).mono ?_
  rw [hb]
  rintro e w1 ⟨rfl, rfl⟩
  go_wp2
  go_ret
  exact ⟨rfl, (Below.refl _ _).alloc (Nat.le_refl _) _⟩

set_option maxHeartbeats 400000 in
theorem impl_k8_tf (p n : Int) (w : World) (hb : primeB p = true) (hi : (p != 2) = true) (hn : (n == 0) = false) :
    Calls Try.prog 84 #[ringV 8 p n] w fun e w' => e = .returned (.bool false) ∧ Below w.heap.size w w' := by
  go_enter Try.func84, Try.ntmps84
  go_wp2_with fail
  refine (prime_impl p _).mono ?_
  rw [hb]
  rintro e w1 ⟨rfl, rfl⟩
  go_wp2
  go_ret
  exact ⟨rfl, (Below.refl _ _).alloc (Nat.le_refl _) _⟩

set_option maxHeartbeats 400000 in
theorem impl_kn (k p n : Int) (w : World) (h1 : (k == 1) = false) (h2 : (k == 2) = false) (h3 : (k == 3) = false) (h4 : (k == 4) = false) (h5 : (k == 5) = false) (h6 : (k == 6) = false) (h7 : (k == 7) = false) (h8 : (k == 8) = false) :
    Calls Try.prog 84 #[ringV k p n] w fun e w' => e = .returned (.bool false) ∧ Below w.heap.size w w' := by
  go_enter Try.func84, Try.ntmps84
  go_wp2
  go_ret
  exact ⟨rfl, (Below.refl _ _).alloc (Nat.le_refl _) _⟩

/-- RingOk (impl). -/
theorem ring_ok_impl (k p n : Int) (w : World) :
    Calls Try.prog 84 #[ringV k p n] w fun e w' => e = .returned (.bool (ringB k p n)) ∧ Below w.heap.size w w' := by
  have fin : ∀ b : Bool, ringB k p n = b → (Calls Try.prog 84 #[ringV k p n] w fun e w' => e = .returned (.bool b) ∧ Below w.heap.size w w') → Calls Try.prog 84 #[ringV k p n] w fun e w' => e = .returned (.bool (ringB k p n)) ∧ Below w.heap.size w w' := fun b hb h => by rw [hb]; exact h
  by_cases h1 : k = 1
  · subst h1
    by_cases hp : p = 0
    · by_cases hn : n = 0
      · exact fin true (by simp [ringB, hp, hn]) (impl_k1_tt p n w (by simp [hp]) (by simp [hn]))
      · exact fin false (by simp [ringB, hn]) (impl_k1_tf p n w (by simp [hp]) (by simp [hn]))
    · exact fin false (by simp [ringB, hp]) (impl_k1_ff p n w (by simp [hp]))
  by_cases h2 : k = 2
  · subst h2
    cases hb : primeB p with
    | false => exact fin false (by simp [ringB, hb]) (impl_k2_f p n w hb)
    | true =>
      by_cases hn : n = 0
      · exact fin true (by simp [ringB, hb, hn]) (impl_k2_tt p n w hb (by simp [hn]))
      · exact fin false (by simp [ringB, hn]) (impl_k2_tf p n w hb (by simp [hn]))
  by_cases h3 : k = 3
  · subst h3
    by_cases hl : p < 1
    · exact fin false (by simp [ringB]; omega) (impl_k3_lo p n w hl)
    by_cases hh : 1000000 < p
    · exact fin false (by simp [ringB]; omega) (impl_k3_hi p n w hh)
    by_cases hn : n = 0
    · exact fin true (by simp [ringB, hn]; omega) (impl_k3_tt p n w (by omega) (by omega) (by simp [hn]))
    · exact fin false (by simp [ringB, hn]) (impl_k3_tf p n w (by omega) (by omega) (by simp [hn]))
  by_cases h4 : k = 4
  · subst h4
    by_cases hl : p < 1
    · exact fin false (by simp [ringB]; omega) (impl_k4_lo p n w hl)
    by_cases hh : 1000000 < p
    · exact fin false (by simp [ringB]; omega) (impl_k4_hi p n w hh)
    by_cases hn : n = 0
    · exact fin true (by simp [ringB, hn]; omega) (impl_k4_tt p n w (by omega) (by omega) (by simp [hn]))
    · exact fin false (by simp [ringB, hn]) (impl_k4_tf p n w (by omega) (by omega) (by simp [hn]))
  by_cases h5 : k = 5
  · subst h5
    by_cases hl : p < 1
    · exact fin false (by simp [ringB]; omega) (impl_k5_lo p n w hl)
    by_cases hh : 1000000 < p
    · exact fin false (by simp [ringB]; omega) (impl_k5_hi p n w hh)
    by_cases hn : n = 0
    · exact fin true (by simp [ringB, hn]; omega) (impl_k5_tt p n w (by omega) (by omega) (by simp [hn]))
    · exact fin false (by simp [ringB, hn]) (impl_k5_tf p n w (by omega) (by omega) (by simp [hn]))
  by_cases h6 : k = 6
  · subst h6
    by_cases hp : p = 0
    · by_cases hl : n < 1
      · exact fin false (by simp [ringB]; omega) (impl_k6_lo p n w (by simp [hp]) hl)
      by_cases hh : 20 < n
      · exact fin false (by simp [ringB]; omega) (impl_k6_hi p n w (by simp [hp]) (by omega) (by simp; omega))
      · exact fin true (by simp [ringB, hp]; omega) (impl_k6_t p n w (by simp [hp]) (by omega) (by omega))
    · exact fin false (by simp [ringB, hp]) (impl_k6_f p n w (by simp [hp]))
  by_cases h7 : k = 7
  · subst h7
    cases hb : primeB p with
    | false => exact fin false (by simp [ringB, hb]) (impl_k7_f p n w hb)
    | true =>
      by_cases hl : n < 1
      · exact fin false (by simp [ringB, hb]; omega) (impl_k7_lo p n w hb hl)
      by_cases hh : 6 < n
      · exact fin false (by simp [ringB, hb]; omega) (impl_k7_hi p n w hb (by omega) (by simp; omega))
      · exact fin true (by simp [ringB, hb]; omega) (impl_k7_t p n w hb (by omega) (by omega))
  by_cases h8 : k = 8
  · subst h8
    cases hb : primeB p with
    | false => exact fin false (by simp [ringB, hb]) (impl_k8_f p n w hb)
    | true =>
      by_cases hi : p = 2
      · exact fin false (by simp [ringB, hi]) (impl_k8_lo p n w hb (by simp [hi]))
      · by_cases hn : n = 0
        · exact fin true (by simp [ringB, hb, hn, hi]) (impl_k8_tt p n w hb (by simp [hi]) (by simp [hn]))
        · exact fin false (by simp [ringB, hn]) (impl_k8_tf p n w hb (by simp [hi]) (by simp [hn]))
  exact fin false (by simp [ringB, h1, h2, h3, h4, h5, h6, h7, h8]) (impl_kn k p n w (by simp [h1]) (by simp [h2]) (by simp [h3]) (by simp [h4]) (by simp [h5]) (by simp [h6]) (by simp [h7]) (by simp [h8]))

end Go.Proofs.Ytdheakjjnaifkaa
namespace Go.Proofs.Ytdheakjjnaifkaa
set_option maxRecDepth 20000
open Go.RowKit

/-- The block b holds a ring of these fields. -/
def BoxAt (w : World) (b : Nat) (k p n : Int) : Prop := w.cell? ⟨b, 0, none⟩ = some (.int .i64 k) ∧ w.cell? ⟨b, 1, none⟩ = some (.int .i64 p) ∧ w.cell? ⟨b, 2, none⟩ = some (.int .i64 n)
theorem BoxAt.new (w : World) (k p n : Int) (T : TypeId) : BoxAt (w.alloc (.cells (ringC k p n) T)) w.heap.size k p n :=
  ⟨by rw [World.cell?_alloc_new]; rfl, by rw [World.cell?_alloc_new]; rfl, by rw [World.cell?_alloc_new]; rfl⟩
theorem BoxAt.below {w w' : World} {b B : Nat} {k p n : Int} (h : BoxAt w b k p n) (hb : Below B w w') (hlt : b < B) : BoxAt w' b k p n :=
  ⟨(hb.cell (p := ⟨b, 0, none⟩) hlt).trans h.1, (hb.cell (p := ⟨b, 1, none⟩) hlt).trans h.2.1, (hb.cell (p := ⟨b, 2, none⟩) hlt).trans h.2.2⟩
theorem BoxAt.grown {w w' : World} {b : Nat} {k p n : Int} {row : Option Nat} (h : BoxAt w b k p n) (hg : w.grownBy w' row) (hlt : b < w.heap.size) (hne : ∀ g, row = some g → b < g) : BoxAt w' b k p n := by
  have hb : w'.heap[b]? = w.heap[b]? := hg.block b hlt (fun e => by have := hne b e.symm; omega)
  have hc : ∀ o, w'.cell? ⟨b, o, none⟩ = w.cell? ⟨b, o, none⟩ := fun o => World.cell?_of_block (w := w) hb
  exact ⟨(hc 0).trans h.1, (hc 1).trans h.2.1, (hc 2).trans h.2.2⟩
/-- The same behind a call. -/
theorem BoxAt.kept {W w1 : World} {k p n : Int} {T : TypeId} (hb : Below (W.alloc (.cells (ringC k p n) T)).heap.size (W.alloc (.cells (ringC k p n) T)) w1) : BoxAt w1 W.heap.size k p n ∧ Below W.heap.size W w1 ∧ W.heap.size < w1.heap.size := by
  have hz : W.heap.size < (W.alloc (.cells (ringC k p n) T)).heap.size := by simp
  exact ⟨(BoxAt.new W k p n T).below hb hz, ((Below.refl _ _).alloc (Nat.le_refl _) _).trans (hb.mono (Nat.le_of_lt hz)), Nat.lt_of_lt_of_le hz hb.size⟩

set_option maxHeartbeats 400000 in
theorem to_ring (k p n : Int) (w : World) :
    Calls Try.prog 49 #[ringV k p n] w fun e w' => e = .returned (ringV k p n) ∧ Below w.heap.size w w' := by
  go_enter Try.func49, Try.ntmps49
  go_wp2
  refine bodyPost_ret (v := ringV k p n) (by simp [results, Try.results49, go_sem]) rfl ⟨rfl, ?_⟩
  exact (((Below.refl _ _).alloc (Nat.le_refl _) _).alloc (by simp) _).alloc (by simp; omega) _

set_option maxHeartbeats 400000 in
theorem width_impl (k p n : Int) (w : World) :
    Calls Try.prog 92 #[ringV k p n] w fun e w' => e = .returned (.int .i64 (widthI k n)) ∧ Below w.heap.size w w' := by
  by_cases h7 : k = 7
  · subst h7
    go_enter Try.func92, Try.ntmps92
    go_wp2
    go_ret
    exact ⟨rfl, (Below.refl _ _).alloc (Nat.le_refl _) _⟩
  · by_cases h8 : k = 8
    · subst h8
      go_enter Try.func92, Try.ntmps92
      go_wp2
      go_ret
      exact ⟨rfl, (Below.refl _ _).alloc (Nat.le_refl _) _⟩
    · have e : widthI k n = 1 := by simp [widthI, h7, h8]
      rw [e]
      have e7 : (k == 7) = false := by simpa using h7
      have e8 : (k == 8) = false := by simpa using h8
      go_enter Try.func92, Try.ntmps92
      go_wp2
      go_ret
      exact ⟨rfl, (Below.refl _ _).alloc (Nat.le_refl _) _⟩
set_option maxHeartbeats 400000 in
theorem width_spec (k p n : Int) (w : World) :
    Calls Try.prog 79 #[ringV k p n] w fun e w' => e = .returned (.int .i64 (widthI k n)) ∧ Below w.heap.size w w' := by
  by_cases h7 : k = 7
  · subst h7
    go_enter Try.func79, Try.ntmps79
    go_wp2
    go_ret
    exact ⟨rfl, (Below.refl _ _).alloc (Nat.le_refl _) _⟩
  · by_cases h8 : k = 8
    · subst h8
      go_enter Try.func79, Try.ntmps79
      go_wp2
      go_ret
      exact ⟨rfl, (Below.refl _ _).alloc (Nat.le_refl _) _⟩
    · have e : widthI k n = 1 := by simp [widthI, h7, h8]
      rw [e]
      have e7 : (k == 7) = false := by simpa using h7
      have e8 : (k == 8) = false := by simpa using h8
      go_enter Try.func79, Try.ntmps79
      go_wp2
      go_ret
      exact ⟨rfl, (Below.refl _ _).alloc (Nat.le_refl _) _⟩

theorem wrap_pow {n : Nat} (h1 : 1 ≤ n) (h2 : n ≤ 20) : wrap64 (2 ^ n) = 2 ^ n ∧ wrap64 ((2 : Int) ^ n - 1) = 2 ^ n - 1 := by
  have hp := two_pow (n := (n : Int)) (by omega) (by omega)
  simp only [Int.toNat_natCast] at hp
  unfold wrap64
  omega
theorem top6_impl (n : Nat) (h1 : 1 ≤ n) (h2 : n ≤ 20) (w : World) :
    Calls Try.prog 93 #[ringV 6 0 n] w fun e w' => e = .returned (.int .i64 (2 ^ n - 1)) ∧ Below w.heap.size w w' := by
  have hp := wrap_pow h1 h2
  obtain ⟨e1, e2⟩ := hp
  have E2 := Lib.hid e2
  clear e2
  go_enter Try.func93, Try.ntmps93
  go_wp2
  go_ret
  exact ⟨congrArg (fun x => Ending.returned (.int .i64 x)) E2.out, (Below.refl _ _).alloc (Nat.le_refl _) _⟩
theorem top6_spec (n : Nat) (h1 : 1 ≤ n) (h2 : n ≤ 20) (w : World) :
    Calls Try.prog 80 #[ringV 6 0 n] w fun e w' => e = .returned (.int .i64 (2 ^ n - 1)) ∧ Below w.heap.size w w' := by
  have hp := wrap_pow h1 h2
  obtain ⟨e1, e2⟩ := hp
  have E2 := Lib.hid e2
  clear e2
  go_enter Try.func80, Try.ntmps80
  go_wp2
  go_ret
  exact ⟨congrArg (fun x => Ending.returned (.int .i64 x)) E2.out, (Below.refl _ _).alloc (Nat.le_refl _) _⟩
theorem top_impl (k p n : Int) (w : World) (h : ringB k p n = true) :
    Calls Try.prog 93 #[ringV k p n] w fun e w' => e = .returned (.int .i64 (topI k p n)) ∧ Below w.heap.size w w' := by
  rcases ring_cases h with ⟨rfl, g⟩ | ⟨rfl, g⟩ | ⟨rfl, g⟩ | ⟨rfl, g⟩ | ⟨rfl, g⟩ | ⟨rfl, g, g1, g2⟩ | ⟨rfl, g⟩ | ⟨rfl, g⟩
  case inr.inr.inr.inr.inr.inl =>
    obtain ⟨m, rfl⟩ := Int.eq_ofNat_of_zero_le (show 0 ≤ n by omega)
    subst g
    exact top6_impl m (by omega) (by omega) w
  all_goals
    clear h
    go_enter Try.func93, Try.ntmps93
    go_wp2
    go_ret
    exact ⟨by simp [topI], (Below.refl _ _).alloc (Nat.le_refl _) _⟩
theorem top_spec (k p n : Int) (w : World) (h : ringB k p n = true) :
    Calls Try.prog 80 #[ringV k p n] w fun e w' => e = .returned (.int .i64 (topI k p n)) ∧ Below w.heap.size w w' := by
  rcases ring_cases h with ⟨rfl, g⟩ | ⟨rfl, g⟩ | ⟨rfl, g⟩ | ⟨rfl, g⟩ | ⟨rfl, g⟩ | ⟨rfl, g, g1, g2⟩ | ⟨rfl, g⟩ | ⟨rfl, g⟩
  case inr.inr.inr.inr.inr.inl =>
    obtain ⟨m, rfl⟩ := Int.eq_ofNat_of_zero_le (show 0 ≤ n by omega)
    subst g
    exact top6_spec m (by omega) (by omega) w
  all_goals
    clear h
    go_enter Try.func80, Try.ntmps80
    go_wp2
    go_ret
    exact ⟨by simp [topI], (Below.refl _ _).alloc (Nat.le_refl _) _⟩

/-- What RingWidth answers. -/
noncomputable def ringWidthI (k p n : Int) : Int := if ringB k p n = true then widthI k n else 0
end Go.Proofs.Ytdheakjjnaifkaa
