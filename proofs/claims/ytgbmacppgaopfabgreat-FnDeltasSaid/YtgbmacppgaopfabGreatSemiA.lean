
/- Sums in a ring: their order is never seen, the zero is none. Plain mathematics. -/
import Derived.Test.YtgbmacppgaopfabGreatPow2
namespace Go.Proofs.YtgbmacppgaopfabGreat
set_option maxRecDepth 20000
open Go

theorem or_nat {k p n a : Int} (hr : ringB k p n = true) (ha : 0 ≤ a ∧ a ≤ topI k p n) : a < 1073741824 := by have := ring_top hr; omega
theorem plusI_comm {k p n a b : Int} (hr : ringB k p n = true) (ha : 0 ≤ a ∧ a ≤ topI k p n) (hb : 0 ≤ b ∧ b ≤ topI k p n) : plusI k p a b = plusI k p b a := by
  have h1 := or_nat hr ha
  have h2 := or_nat hr hb
  unfold plusI
  by_cases c1 : k = 1 ∨ k = 6
  · rw [if_pos c1, if_pos c1, bits_i64_or a b ha.1 h1 hb.1 h2, bits_i64_or b a hb.1 h2 ha.1 h1, Nat.or_comm]
  · rw [if_neg c1, if_neg c1, Int.add_comm a b, Int.min_comm a b, Int.max_comm a b]
theorem plusI_zero {k p n a : Int} (hr : ringB k p n = true) (ha : 0 ≤ a ∧ a ≤ topI k p n) : plusI k p a (if k = 4 then p else 0) = a := by
  have h1 := or_nat hr ha
  have g := ring_cases hr
  have ht : k = 3 ∨ k = 4 ∨ k = 5 → topI k p n = p := fun hk => by unfold topI; rw [if_neg (by omega), if_neg (by omega), if_neg (by omega)]
  unfold plusI
  by_cases c1 : k = 1 ∨ k = 6
  · rw [if_pos c1, if_neg (by omega), bits_i64_or a 0 ha.1 h1 (by omega) (by omega)]
    simp; omega
  · rw [if_neg c1]
    by_cases c3 : k = 3
    · have := ht (by omega); rw [if_pos c3, if_neg (by omega)]; omega
    · rw [if_neg c3]
      by_cases c4 : k = 4
      · have := ht (by omega); rw [if_pos c4, if_pos c4]; omega
      · rw [if_neg c4]
        by_cases c5 : k = 5
        · rw [if_pos c5, if_neg c4]; omega
        · rw [if_neg c5, if_neg c4]
          have hp : topI k p n = p - 1 := by unfold topI; rw [if_neg (by omega), if_neg (by omega), if_pos (by omega)]
          rw [Int.add_zero]
          exact Int.emod_eq_of_lt ha.1 (by omega)
theorem plusL_comm {k p n : Int} {xs ys : List Int} (hr : ringB k p n = true) (hx : ElemV k p n xs) (hy : ElemV k p n ys) : plusL k p xs ys = plusL k p ys xs := by
  have hl : ys.length = xs.length := by have := hx.1; have := hy.1; omega
  unfold plusL
  rw [hl]
  exact LL_congr fun i _ => plusI_comm hr (elem_at hr hx i) (elem_at hr hy i)
theorem zero_LL {k p n : Int} {m : Nat} (hm : (m : Int) = widthI k n) : zeroL k p n = LL m fun _ => if k = 4 then p else 0 := by
  unfold zeroL
  rw [← hm]
  refine LL_congr fun i hi => ?_
  by_cases h4 : k = 4
  · have hw : widthI k n = 1 := by rw [h4]; rfl
    have : (m : Int).toNat = m := Int.toNat_natCast m
    rw [if_pos ⟨by omega, h4⟩, if_pos h4]
  · rw [if_neg (fun e => h4 e.2), if_neg h4]
theorem plusL_zero {k p n : Int} {xs : List Int} (hr : ringB k p n = true) (hx : ElemV k p n xs) : plusL k p xs (zeroL k p n) = xs := by
  rw [zero_LL hx.1]
  refine Eq.trans ?_ (LL_of xs).symm
  unfold plusL
  refine LL_congr fun i hi => ?_
  rw [LL_at hi]
  exact plusI_zero hr (elem_at hr hx i)
theorem plusL_zero_left {k p n : Int} {xs : List Int} (hr : ringB k p n = true) (hx : ElemV k p n xs) : plusL k p (zeroL k p n) xs = xs := by
  rw [plusL_comm hr (zeroL_elem hr) hx, plusL_zero hr hx]
end Go.Proofs.YtgbmacppgaopfabGreat
