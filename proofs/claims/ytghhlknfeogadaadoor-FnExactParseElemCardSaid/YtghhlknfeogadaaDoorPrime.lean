
/- IsPrime, both. -/
import Derived.Test.YtghhlknfeogadaaDoorProg
import Derived.Test.YtghhlknfeogadaaDoorRing
import Derived.WalkLawsBesides
import Derived.Lib.Hide
import Derived.IntWalk
namespace Go.Proofs.YtghhlknfeogadaaDoor
set_option maxRecDepth 20000
open Go.RowKit

def inB (n a b : Int) : Bool := decide (a ≤ n) && decide (n ≤ b)
theorem l01_in (n a b : Int) (w : World) :
    Calls Tryd.prog 44 #[.int .i64 n, .int .i64 a, .int .i64 b] w fun e w' => e = .returned (.bool (inB n a b)) ∧ w = w' := by
  by_cases ha : a ≤ n <;> by_cases hb : n ≤ b <;>
  · go_enter Tryd.func44, Tryd.ntmps44
    go_wp2
    go_ret
    exact ⟨by simp [inB, ha, hb], rfl⟩

theorem root_lt {n : Int} {d : Nat} (hn : n ≤ 1000003) (h : (d : Int) * d ≤ n) : d ≤ 1000 := by
  by_cases h1 : d ≤ 1000
  · exact h1
  · have h2 : 1001 * 1001 ≤ d * d := Nat.mul_le_mul (by omega) (by omega)
    have h3 : ((d * d : Nat) : Int) ≤ n := by simpa using h
    omega
theorem sq_small {d : Nat} (h : d ≤ 1001) : 0 ≤ (d : Int) * d ∧ (d : Int) * d ≤ 1002001 := by
  have h2 : d * d ≤ 1001 * 1001 := Nat.mul_le_mul h h
  have h3 : ((d * d : Nat) : Int) = (d : Int) * d := by simp
  omega

set_option maxHeartbeats 400000 in
theorem prime_impl (n : Int) (w : World) :
    Calls Tryd.prog 48 #[.int .i64 n] w fun e w' => e = .returned (.bool (primeB n)) ∧ w = w' := by
  by_cases ho : n < 2 ∨ 1000003 < n
  · rw [prime_out ho]
    rcases ho with ho | ho <;>
    · go_enter Tryd.func48, Tryd.ntmps48
      go_wp2
      go_ret
      exact ⟨rfl, rfl⟩
  · have g1 : 2 ≤ n := by omega
    have g2 : n ≤ 1000003 := by omega
    obtain ⟨r, hr⟩ : ∃ r, r = primeB n := ⟨_, rfl⟩
    rw [← hr]
    have HR := Lib.hid hr
    clear ho hr
    go_enter Tryd.func48, Tryd.ntmps48
    go_wp2
    go_loop [3] (fun i => ∃ d : Nat, 2 ≤ d ∧ d ≤ 1001 ∧ i = .int .i64 d ∧ Hid (∀ e : Nat, 2 ≤ e → e < d → n % (e : Int) ≠ 0)) (fun i => 1001 - (intOf i).toNat)
    case atStart => exact ⟨2, by omega, by omega, rfl, fun e he h => by omega⟩
    case round =>
      obtain ⟨d, hd, hd2, rfl, HD⟩ := hrel
      have hs := sq_small hd2
      have hw : IntKind.i64.wrap ((d : Int) * (d : Int)) = (d : Int) * (d : Int) := IntWalk.i64_in _ (by omega)
      by_cases hle : (d : Int) * d ≤ n
      · have hd3 := root_lt g2 hle
        by_cases hm : n % (d : Int) = 0
        · have HF := Lib.hid (prime_not hd hle hm)
          go_wp2
          go_ret
          exact ⟨by rw [HR.out, HF.out]; rfl, rfl⟩
        · have HM := Lib.hid hm
          have hm' : ((n % (d : Int)) == 0) = false := by simpa using hm
          go_wp2
          go_round
          case rel =>
            refine ⟨d + 1, by omega, by omega, by go_num, fun e he h => ?_⟩
            by_cases e1 : e = d
            · subst e1; exact HM.out
            · exact HD.out e he (by omega)
          case measure => simp [intOf]; omega
      · have HL := Lib.hid hle
        go_wp2
        go_ret
        refine ⟨?_, rfl⟩
        rw [HR.out, prime_of g1 g2 (fun e he h => HD.out e he ?_)]
        · rfl
        apply Decidable.byContradiction
        intro hn
        have HL2 := HL.out
        have h4 : d * d ≤ e * e := Nat.mul_le_mul (by omega) (by omega)
        have h5 : ((d * d : Nat) : Int) ≤ ((e * e : Nat) : Int) := by omega
        simp at h5
        omega

set_option maxHeartbeats 400000 in
theorem prime_spec (n : Int) (w : World) :
    Calls Tryd.prog 47 #[.int .i64 n] w fun e w' => e = .returned (.bool (primeB n)) ∧ w = w' := by
  obtain ⟨q, hq⟩ : ∃ q, q = inB n 2 1000003 := ⟨_, rfl⟩
  obtain ⟨r, hr⟩ : ∃ r, r = primeB n := ⟨_, rfl⟩
  rw [← hr]
  have HR := Lib.hid hr
  have HQ := Lib.hid hq
  clear hr hq
  by_cases ho : n < 2 ∨ 1000003 < n
  · have HE := Lib.hid ((HR.out.trans (prime_out ho)).trans (show false = inB n 2 1000003 by unfold inB; rcases ho with ho | ho <;> simp <;> omega))
    rcases ho with ho | ho <;>
    · go_enter Tryd.func47, Tryd.ntmps47
      go_wp2
      go_loop [3] (fun i => i = .int .i64 2) (fun _ => 0)
      case atStart => rfl
      case round =>
        subst hrel
        go_wp2_with fail
        refine (l01_in n 2 1000003 w).mono ?_
        rw [← HQ.out]
        rintro e w1 ⟨rfl, rfl⟩
        go_wp2
        go_ret
        exact ⟨by rw [HE.out, HQ.out]; rfl, rfl⟩
  · have g1 : 2 ≤ n := by omega
    have g2 : n ≤ 1000003 := by omega
    have HT := Lib.hid (HQ.out.trans (show inB n 2 1000003 = true by unfold inB; simp; omega))
    clear ho
    go_enter Tryd.func47, Tryd.ntmps47
    go_wp2
    go_loop [3] (fun i => ∃ d : Nat, 2 ≤ d ∧ d ≤ 1001 ∧ i = .int .i64 d ∧ Hid (∀ e : Nat, 2 ≤ e → e < d → n % (e : Int) ≠ 0)) (fun i => 1001 - (intOf i).toNat)
    case atStart => exact ⟨2, by omega, by omega, rfl, fun e he h => by omega⟩
    case round =>
      obtain ⟨d, hd, hd2, rfl, HD⟩ := hrel
      have hs := sq_small hd2
      have hw : IntKind.i64.wrap ((d : Int) * (d : Int)) = (d : Int) * (d : Int) := IntWalk.i64_in _ (by omega)
      by_cases hle : (d : Int) * d ≤ n
      · have hd3 := root_lt g2 hle
        by_cases hm : n % (d : Int) = 0
        · have HF := Lib.hid (prime_not hd hle hm)
          go_wp2
          go_ret
          exact ⟨by rw [HR.out, HF.out]; rfl, rfl⟩
        · have HM := Lib.hid hm
          have hm' : ((n % (d : Int)) == 0) = false := by simpa using hm
          go_wp2
          go_round
          case rel =>
            refine ⟨d + 1, by omega, by omega, by go_num, fun e he h => ?_⟩
            by_cases e1 : e = d
            · subst e1; exact HM.out
            · exact HD.out e he (by omega)
          case measure => simp [intOf]; omega
      · have HL := Lib.hid hle
        go_wp2_with fail
        refine (l01_in n 2 1000003 w).mono ?_
        rw [← HQ.out]
        rintro e w1 ⟨rfl, rfl⟩
        go_wp2
        go_ret
        refine ⟨?_, rfl⟩
        rw [HT.out, HR.out, prime_of g1 g2 (fun e he h => HD.out e he ?_)]
        · rfl
        apply Decidable.byContradiction
        intro hn
        have HL2 := HL.out
        have h4 : d * d ≤ e * e := Nat.mul_le_mul (by omega) (by omega)
        have h5 : ((d * d : Nat) : Int) ≤ ((e * e : Nat) : Int) := by omega
        simp at h5
        omega
end Go.Proofs.YtghhlknfeogadaaDoor
