
/- Plain facts about decimal numerals: how spec.FormatInt's two roads build Lib.itoa. -/
import Derived.Lib.ItoaNum
namespace Go.Proofs.YtghhlknfeogadaaDoor
set_option maxRecDepth 20000
open Go

theorem dec_small {u : Nat} (h : u < 10) : Lib.decDigits u = [UInt8.ofNat (48 + u)] := by
  rw [Lib.decDigits, dif_pos h]
theorem dec_big {u : Nat} (h : ¬ u < 10) : Lib.decDigits u = Lib.decDigits (u / 10) ++ [UInt8.ofNat (48 + u % 10)] := by
  rw [Lib.decDigits, dif_neg h]
theorem itoa_pos (m : Nat) : Lib.itoa (m : Int) = Lib.decDigits m := by
  unfold Lib.itoa; rw [if_neg (by omega)]; rfl
theorem itoa_neg_small {n : Int} (h : n < 0) (h2 : -10 < n) : Lib.itoa n = [45, UInt8.ofNat (48 + n.natAbs)] := by
  unfold Lib.itoa; rw [if_pos h, dec_small (by omega)]
theorem itoa_neg_big {n : Int} (h2 : n ≤ -10) : Lib.itoa n = Lib.itoa (n.tdiv 10) ++ [UInt8.ofNat (48 + n.natAbs % 10)] := by
  have e : (n.tdiv 10).natAbs = n.natAbs / 10 := by rw [Int.natAbs_tdiv]; rfl
  have hn : n.tdiv 10 < 0 := by
    have := Int.natAbs_tdiv n 10
    have h3 : n.tdiv 10 = -((-n) / 10) := by
      rw [← Int.neg_neg n, Int.neg_tdiv, Int.neg_neg, Int.tdiv_eq_ediv_of_nonneg (by omega)]
    omega
  unfold Lib.itoa
  rw [if_pos (by omega), if_pos hn, dec_big (by omega), e]
  rfl
theorem dec_len : ∀ u : Nat, 1 ≤ (Lib.decDigits u).length ∧ (Lib.decDigits u).length ≤ 1 + u / 10 := by
  intro u
  induction u using Nat.strongRecOn with
  | _ u ih =>
    by_cases h : u < 10
    · rw [dec_small h]; simp
    · rw [dec_big h]
      have := ih (u / 10) (by omega)
      simp only [List.length_append, List.length_cons, List.length_nil]
      omega
theorem dec_rest {m k : Nat} {acc : List UInt8} (h : Lib.decDigits m = Lib.decDigits k ++ acc) : acc.length ≤ m / 10 := by
  have h1 := dec_len m
  have h2 := dec_len k
  rw [h, List.length_append] at h1
  omega

theorem tdiv10 {n : Int} (h : n < 0) : n.tdiv 10 = -((-n) / 10) := by
  rw [← Int.neg_neg n, Int.neg_tdiv, Int.neg_neg, Int.tdiv_eq_ediv_of_nonneg (by omega)]
theorem tmod10 {n : Int} (h : n < 0) : n.tmod 10 = -((-n) % 10) := by
  rw [← Int.neg_neg n, Int.neg_tmod, Int.neg_neg, Int.tmod_eq_emod_of_nonneg (by omega)]
theorem dig_neg {n : Int} (h : n < 0) : UInt8.ofNat ((48 : Int) - n.tmod 10).toNat = UInt8.ofNat (48 + n.natAbs % 10) := by
  have : ((48 : Int) - n.tmod 10).toNat = 48 + n.natAbs % 10 := by rw [tmod10 h]; omega
  rw [this]
theorem dig_neg_small {n : Int} (h : n < 0) : UInt8.ofNat ((48 : Int) - n).toNat = UInt8.ofNat (48 + n.natAbs) := by
  have : ((48 : Int) - n).toNat = 48 + n.natAbs := by omega
  rw [this]
theorem itoa_len (n : Int) : (Lib.itoa n).length ≤ 2 + n.natAbs / 10 := by
  unfold Lib.itoa
  split
  · have := dec_len n.natAbs
    simp only [List.length_cons]; omega
  · have := dec_len n.toNat
    omega

/-- The text of one byte. -/
def one (v : Int) : ByteArray := ⟨[UInt8.ofNat v.toNat].toArray⟩
theorem one_size (v : Int) : (one v).size = 1 := rfl
theorem one_add (v : Int) (l : List UInt8) : one v ++ ⟨l.toArray⟩ = ⟨(UInt8.ofNat v.toNat :: l).toArray⟩ := by
  unfold one; apply ByteArray.ext; simp
theorem add_one (l : List UInt8) (v : Int) : (⟨l.toArray⟩ : ByteArray) ++ one v = ⟨(l ++ [UInt8.ofNat v.toNat]).toArray⟩ := by
  unfold one; apply ByteArray.ext; simp
theorem dig_of {k : Nat} : UInt8.ofNat ((48 : Int) + (k : Int)).toNat = UInt8.ofNat (48 + k) := by
  have : ((48 : Int) + (k : Int)).toNat = 48 + k := by omega
  rw [this]
theorem dig_mod {k : Nat} : UInt8.ofNat ((48 : Int) + (k : Int) % 10).toNat = UInt8.ofNat (48 + k % 10) := by
  have : ((48 : Int) + (k : Int) % 10).toNat = 48 + k % 10 := by omega
  rw [this]
end Go.Proofs.YtghhlknfeogadaaDoor
