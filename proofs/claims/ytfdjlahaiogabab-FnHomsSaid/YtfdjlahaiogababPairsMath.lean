
/- Every ring is a commutative semiring; counts multiply. Plain mathematics. -/
import Derived.Test.YtfdjlahaiogababPow2
import Derived.Test.YtfdjlahaiogababPairMath
import Derived.Test.YtfdjlahaiogababDrawn
namespace Go.Proofs.Ytfdjlahaiogabab
set_option maxRecDepth 20000
open Go

theorem or_nat {k p n a : Int} (hr : ringB k p n = true) (ha : 0 ≤ a ∧ a ≤ topI k p n) : a < 1073741824 := by have := ring_top hr; omega
theorem plusI_comm {k p n a b : Int} (hr : ringB k p n = true) (ha : 0 ≤ a ∧ a ≤ topI k p n) (hb : 0 ≤ b ∧ b ≤ topI k p n) : plusI k p a b = plusI k p b a := by
  have h1 := or_nat hr ha
  have h2 := or_nat hr hb
  unfold plusI
  by_cases c1 : k = 1 ∨ k = 6
  · rw [if_pos c1, if_pos c1, bits_i64_or a b ha.1 h1 hb.1 h2, bits_i64_or b a hb.1 h2 ha.1 h1, Nat.or_comm]
  · rw [if_neg c1, if_neg c1, Int.add_comm a b, Int.min_comm a b, Int.max_comm a b]
theorem plusI_assoc {k p n a b c : Int} (hr : ringB k p n = true) (ha : 0 ≤ a ∧ a ≤ topI k p n) (hb : 0 ≤ b ∧ b ≤ topI k p n) (hc : 0 ≤ c ∧ c ≤ topI k p n) : plusI k p (plusI k p a b) c = plusI k p a (plusI k p b c) := by
  have h1 := or_nat hr ha
  have h2 := or_nat hr hb
  have h3 := or_nat hr hc
  have e1 := plusI_range hr ha hb
  have e2 := plusI_range hr hb hc
  have h4 := or_nat hr e1
  have h5 := or_nat hr e2
  have g := ring_cases hr
  unfold plusI at *
  by_cases c1 : k = 1 ∨ k = 6
  · simp only [if_pos c1] at *
    rw [bits_i64_or _ c e1.1 h4 hc.1 h3, bits_i64_or a _ ha.1 h1 e2.1 h5, bits_i64_or a b ha.1 h1 hb.1 h2, bits_i64_or b c hb.1 h2 hc.1 h3]
    simp [Nat.or_assoc]
  · simp only [if_neg c1]
    by_cases c3 : k = 3
    · simp only [if_pos c3]; omega
    · simp only [if_neg c3]
      by_cases c4 : k = 4
      · simp only [if_pos c4]; omega
      · simp only [if_neg c4]
        by_cases c5 : k = 5
        · simp only [if_pos c5]; omega
        · simp only [if_neg c5]
          rw [Int.emod_add_emod, Int.add_emod_emod, Int.add_assoc]
theorem plusI_zero {k p n a : Int} (hr : ringB k p n = true) (ha : 0 ≤ a ∧ a ≤ topI k p n) : plusI k p a (if k = 4 then p else 0) = a := by
  have h1 := or_nat hr ha
  have g := ring_cases hr
  have ht : k = 3 ∨ k = 4 ∨ k = 5 → topI k p n = p := fun hk => by unfold topI; rw [if_neg (by omega), if_neg (by omega), if_neg (by omega)]
  unfold plusI
  by_cases c1 : k = 1 ∨ k = 6
  · rw [if_pos c1, if_neg (by omega), bits_i64_or a 0 ha.1 h1 (by omega) (by omega)]
    simp; omega
  · rw [if_neg c1]
    by_cases c3 : k = 3
    · have := ht (by omega); rw [if_pos c3, if_neg (by omega)]; omega
    · rw [if_neg c3]
      by_cases c4 : k = 4
      · have := ht (by omega); rw [if_pos c4, if_pos c4]; omega
      · rw [if_neg c4]
        by_cases c5 : k = 5
        · rw [if_pos c5, if_neg c4]; omega
        · rw [if_neg c5, if_neg c4]
          have hp : topI k p n = p - 1 := by unfold topI; rw [if_neg (by omega), if_neg (by omega), if_pos (by omega)]
          rw [Int.add_zero]
          exact Int.emod_eq_of_lt ha.1 (by omega)
theorem plusL_comm {k p n : Int} {xs ys : List Int} (hr : ringB k p n = true) (hx : ElemV k p n xs) (hy : ElemV k p n ys) : plusL k p xs ys = plusL k p ys xs := by
  have hl : ys.length = xs.length := by have := hx.1; have := hy.1; omega
  unfold plusL
  rw [hl]
  exact LL_congr fun i _ => plusI_comm hr (elem_at hr hx i) (elem_at hr hy i)
theorem plusL_assoc {k p n : Int} {xs ys zs : List Int} (hr : ringB k p n = true) (hx : ElemV k p n xs) (hy : ElemV k p n ys) (hz : ElemV k p n zs) : plusL k p (plusL k p xs ys) zs = plusL k p xs (plusL k p ys zs) := by
  have hl : ys.length = xs.length := by have := hx.1; have := hy.1; omega
  have e1 : plusL k p xs ys = LL xs.length fun i => plusI k p (xs.getD i 0) (ys.getD i 0) := rfl
  have e2 : plusL k p ys zs = LL xs.length fun i => plusI k p (ys.getD i 0) (zs.getD i 0) := by rw [← hl]; rfl
  rw [e1, e2]
  unfold plusL
  rw [LL_len]
  refine LL_congr fun i hi => ?_
  rw [LL_at hi, LL_at hi]
  exact plusI_assoc hr (elem_at hr hx i) (elem_at hr hy i) (elem_at hr hz i)
theorem zero_LL {k p n : Int} {m : Nat} (hm : (m : Int) = widthI k n) : zeroL k p n = LL m fun _ => if k = 4 then p else 0 := by
  unfold zeroL
  rw [← hm]
  refine LL_congr fun i hi => ?_
  by_cases h4 : k = 4
  · have hw : widthI k n = 1 := by rw [h4]; rfl
    have : (m : Int).toNat = m := Int.toNat_natCast m
    rw [if_pos ⟨by omega, h4⟩, if_pos h4]
  · rw [if_neg (fun e => h4 e.2), if_neg h4]
theorem plusL_zero {k p n : Int} {xs : List Int} (hr : ringB k p n = true) (hx : ElemV k p n xs) : plusL k p xs (zeroL k p n) = xs := by
  rw [zero_LL hx.1]
  refine Eq.trans ?_ (LL_of xs).symm
  unfold plusL
  refine LL_congr fun i hi => ?_
  rw [LL_at hi]
  exact plusI_zero hr (elem_at hr hx i)
theorem plusL_zero_left {k p n : Int} {xs : List Int} (hr : ringB k p n = true) (hx : ElemV k p n xs) : plusL k p (zeroL k p n) xs = xs := by
  rw [plusL_comm hr (zeroL_elem hr) hx, plusL_zero hr hx]

theorem conv_comm {m : Nat} {om : Bool} (hm : m ≤ 6) (h4 : om = true → m = 4) (X Y : Nat → Int) (c : Nat) (hc : c < m) : convC m om X Y c = convC m om Y X c := by
  cases om with
  | true =>
    obtain rfl := h4 rfl
    have h : c = 0 ∨ c = 1 ∨ c = 2 ∨ c = 3 := by omega
    rcases h with rfl | rfl | rfl | rfl <;> simp [convC, sumN, dC] <;> grind
  | false =>
    have h : m = 1 ∨ m = 2 ∨ m = 3 ∨ m = 4 ∨ m = 5 ∨ m = 6 := by omega
    rcases h with rfl | rfl | rfl | rfl | rfl | rfl
    · obtain rfl : c = 0 := by omega
      simp [convC, sumN, dC]; grind
    · have h : c = 0 ∨ c = 1 := by omega
      rcases h with rfl | rfl <;> simp [convC, sumN, dC] <;> grind
    · have h : c = 0 ∨ c = 1 ∨ c = 2 := by omega
      rcases h with rfl | rfl | rfl <;> simp [convC, sumN, dC] <;> grind
    · have h : c = 0 ∨ c = 1 ∨ c = 2 ∨ c = 3 := by omega
      rcases h with rfl | rfl | rfl | rfl <;> simp [convC, sumN, dC] <;> grind
    · have h : c = 0 ∨ c = 1 ∨ c = 2 ∨ c = 3 ∨ c = 4 := by omega
      rcases h with rfl | rfl | rfl | rfl | rfl <;> simp [convC, sumN, dC] <;> grind
    · have h : c = 0 ∨ c = 1 ∨ c = 2 ∨ c = 3 ∨ c = 4 ∨ c = 5 := by omega
      rcases h with rfl | rfl | rfl | rfl | rfl | rfl <;> simp [convC, sumN, dC] <;> grind
theorem sumN_add (n : Nat) (f g : Nat → Int) : sumN n (fun i => f i + g i) = sumN n f + sumN n g := by
  induction n with
  | zero => rfl
  | succ n ih => simp only [sumN]; rw [ih]; omega
theorem conv_add (m : Nat) (om : Bool) (X Y Z : Nat → Int) (c : Nat) : convC m om (fun i => X i + Y i) Z c = convC m om X Z c + convC m om Y Z c := by
  unfold convC
  rw [← sumN_add]
  refine sumN_congr fun i _ => ?_
  rw [← sumN_add]
  refine sumN_congr fun j _ => ?_
  unfold dC
  rw [Int.add_mul]
  split
  · rfl
  · split <;> omega
theorem times_comm {k p n : Int} {xs ys : List Int} (hr : ringB k p n = true) (hx : ElemV k p n xs) (hy : ElemV k p n ys) : timesL k p xs ys = timesL k p ys xs := by
  have hl : ys.length = xs.length := by have := hx.1; have := hy.1; omega
  by_cases h : high k
  · rw [times_high h, times_high h, hl]
    have ho := high_om hr hx.1
    exact LL_congr fun c hc => by rw [conv_comm ho.1 ho.2 _ _ c hc]
  · rw [times_low hr h, times_low hr h]
    have ha := elem_at hr hx 0
    have hb := elem_at hr hy 0
    generalize xs.getD 0 0 = a at ha
    generalize ys.getD 0 0 = b at hb
    have h1 := or_nat hr ha
    have h2 := or_nat hr hb
    refine congrArg (fun x => [x]) ?_
    unfold timesI
    by_cases c1 : k = 1 ∨ k = 6
    · rw [if_pos c1, if_pos c1, bits_i64_and a b ha.1 h1 hb.1 h2, bits_i64_and b a hb.1 h2 ha.1 h1, Nat.and_comm]
    · rw [if_neg c1, if_neg c1, Int.mul_comm a b, Int.add_comm a b, Int.min_comm a b]
theorem distrI {k p n a b c : Int} (hr : ringB k p n = true) (h : ¬ high k) (ha : 0 ≤ a ∧ a ≤ topI k p n) (hb : 0 ≤ b ∧ b ≤ topI k p n) (hc : 0 ≤ c ∧ c ≤ topI k p n) : timesI k p (plusI k p a b) c = plusI k p (timesI k p a c) (timesI k p b c) := by
  have h1 := or_nat hr ha
  have h2 := or_nat hr hb
  have h3 := or_nat hr hc
  have e1 := plusI_range hr ha hb
  have e2 := timesI_range hr h ha hc
  have e3 := timesI_range hr h hb hc
  have h4 := or_nat hr e1
  have h5 := or_nat hr e2
  have h6 := or_nat hr e3
  have g := ring_cases hr
  unfold high at h
  unfold timesI plusI at *
  by_cases c1 : k = 1 ∨ k = 6
  · simp only [if_pos c1] at *
    rw [bits_i64_and _ c e1.1 h4 hc.1 h3, bits_i64_or _ _ e2.1 h5 e3.1 h6, bits_i64_or a b ha.1 h1 hb.1 h2, bits_i64_and a c ha.1 h1 hc.1 h3, bits_i64_and b c hb.1 h2 hc.1 h3]
    simp only [Int.toNat_natCast]
    first | rw [Nat.and_or_distrib_right] | rw [Nat.or_and_distrib_right]
  · simp only [if_neg c1]
    by_cases c3 : k = 3
    · simp only [if_pos c3]
      rw [min_times (by omega) hc.1 (by omega), Int.add_mul]
      have m1 := Int.mul_nonneg ha.1 hc.1
      have m2 := Int.mul_nonneg hb.1 hc.1
      omega
    · simp only [if_neg c3]
      by_cases c4 : k = 4
      · simp only [if_pos c4]; omega
      · simp only [if_neg c4, if_pos (show k = 5 by omega)]; omega
theorem distr {k p n : Int} {xs ys zs : List Int} (hr : ringB k p n = true) (hx : ElemV k p n xs) (hy : ElemV k p n ys) (hz : ElemV k p n zs) : timesL k p (plusL k p xs ys) zs = plusL k p (timesL k p xs zs) (timesL k p ys zs) := by
  have hl : ys.length = xs.length := by have := hx.1; have := hy.1; omega
  by_cases h : high k
  · have hp : ∀ a b, plusI k p a b = (a + b) % p := fun a b => by unfold high at h; unfold plusI; rw [if_neg (by omega), if_neg (by omega), if_neg (by omega), if_neg (by omega)]
    rw [times_high h, times_high h, times_high h, hl, plus_LL]
    have e1 : plusL k p xs ys = LL xs.length fun i => plusI k p (xs.getD i 0) (ys.getD i 0) := rfl
    rw [e1, LL_len]
    refine LL_congr fun c hc => ?_
    rw [conv_congr (X' := fun i => (xs.getD i 0 + ys.getD i 0) % p) (Y' := fun i => zs.getD i 0) (fun i hi => by rw [LL_at hi, hp]) (fun _ _ => rfl), conv_mod_left, conv_add, hp, Int.emod_add_emod, Int.add_emod_emod]
  · have e : plusL k p xs ys = [plusI k p (xs.getD 0 0) (ys.getD 0 0)] := by
      have hw : xs.length = 1 := by have := hx.1; rw [low_width h] at this; omega
      unfold plusL; rw [hw]; rfl
    rw [times_low hr h, times_low hr h, times_low hr h, e]
    refine Eq.trans (congrArg (fun x => [x]) (distrI hr h (elem_at hr hx 0) (elem_at hr hy 0) (elem_at hr hz 0))) ?_
    unfold plusL
    rfl
theorem times_zero {k p n : Int} {xs : List Int} (hr : ringB k p n = true) (hx : ElemV k p n xs) : timesL k p xs (zeroL k p n) = zeroL k p n := by
  rw [zero_LL hx.1]
  by_cases h : high k
  · rw [times_high h]
    refine LL_congr fun c hc => ?_
    have h4 : ¬ k = 4 := by unfold high at h; omega
    rw [conv_congr (X' := fun i => xs.getD i 0) (Y' := fun _ => 0) (fun _ _ => rfl) (fun i hi => by rw [LL_at hi, if_neg h4]), if_neg h4]
    have : convC xs.length (k == 8) (fun i => xs.getD i 0) (fun _ => 0) c = 0 := by
      unfold convC
      have z : ∀ n : Nat, sumN n (fun _ => 0) = 0 := fun n => by
        induction n with
        | zero => rfl
        | succ n ih => simp only [sumN]; rw [ih]; rfl
      rw [sumN_congr (g := fun _ => 0) (fun i _ => by
        rw [sumN_congr (g := fun _ => 0) (fun j _ => by unfold dC; simp), z]), z]
    rw [this]; simp
  · have hw : xs.length = 1 := by have := hx.1; rw [low_width h] at this; omega
    rw [times_low hr h, hw]
    have ha := elem_at hr hx 0
    rw [LL_at (by omega)]
    generalize xs.getD 0 0 = a at ha
    have h1 := or_nat hr ha
    have g := ring_cases hr
    have ht : k = 3 ∨ k = 4 ∨ k = 5 → topI k p n = p := fun hk => by unfold topI; rw [if_neg (by omega), if_neg (by omega), if_neg (by omega)]
    unfold high at h
    show [_] = [_]
    refine congrArg (fun x => [x]) ?_
    show timesI k p a (if k = 4 then p else 0) = (if k = 4 then p else 0)
    unfold timesI
    by_cases c1 : k = 1 ∨ k = 6
    · rw [if_pos c1, if_neg (by omega), bits_i64_and a 0 ha.1 h1 (by omega) (by omega)]; simp
    · rw [if_neg c1]
      by_cases c3 : k = 3
      · rw [if_pos c3, if_neg (by omega), Int.mul_zero]; omega
      · rw [if_neg c3]
        by_cases c4 : k = 4
        · rw [if_pos c4, if_pos c4]; omega
        · rw [if_neg c4, if_neg c4]; omega
theorem cntI_range {k p n : Int} (hr : ringB k p n = true) (c : Nat) : 0 ≤ cntI k p n c ∧ cntI k p n c ≤ topI k p n := by
  have h := elem_at hr (count_elem hr c) 0
  have hw := ring_width hr
  rw [countL, LL_at (by omega)] at h
  exact h
theorem count_times {k p n : Int} (hr : ringB k p n = true) (a b : Nat) : timesL k p (countL k p n a) (countL k p n b) = countL k p n (a * b) := by
  have g := ring_cases hr
  have hw0 := ring_width hr
  have ht := ring_top hr
  obtain ⟨m, hm⟩ : ∃ m : Nat, (m : Int) = widthI k n := ⟨(widthI k n).toNat, by omega⟩
  have hmm : (widthI k n).toNat = m := by omega
  unfold countL
  rw [hmm]
  by_cases h : high k
  · rw [times_high h, LL_len]
    have hm6 : m ≤ 6 := by omega
    refine LL_congr fun c hc => ?_
    rw [conv_congr (X' := fun i => if i = 0 then cntI k p n a else 0) (Y' := fun i => if i = 0 then cntI k p n b else 0) (fun i hi => LL_at hi) (fun i hi => LL_at hi)]
    have e : convC m (k == 8) (fun i => if i = 0 then cntI k p n a else 0) (fun i => if i = 0 then cntI k p n b else 0) c = if c = 0 then cntI k p n a * cntI k p n b else 0 := by
      have hms : m = 1 ∨ m = 2 ∨ m = 3 ∨ m = 4 ∨ m = 5 ∨ m = 6 := by omega
      generalize cntI k p n a = A
      generalize cntI k p n b = B
      generalize (k == 8) = om
      rcases hms with rfl | rfl | rfl | rfl | rfl | rfl
      · obtain rfl : c = 0 := by omega
        cases om <;> simp [convC, sumN, dC]
      · have h : c = 0 ∨ c = 1 := by omega
        rcases h with rfl | rfl <;> cases om <;> simp [convC, sumN, dC]
      · have h : c = 0 ∨ c = 1 ∨ c = 2 := by omega
        rcases h with rfl | rfl | rfl <;> cases om <;> simp [convC, sumN, dC]
      · have h : c = 0 ∨ c = 1 ∨ c = 2 ∨ c = 3 := by omega
        rcases h with rfl | rfl | rfl | rfl <;> cases om <;> simp [convC, sumN, dC]
      · have h : c = 0 ∨ c = 1 ∨ c = 2 ∨ c = 3 ∨ c = 4 := by omega
        rcases h with rfl | rfl | rfl | rfl | rfl <;> cases om <;> simp [convC, sumN, dC]
      · have h : c = 0 ∨ c = 1 ∨ c = 2 ∨ c = 3 ∨ c = 4 ∨ c = 5 := by omega
        rcases h with rfl | rfl | rfl | rfl | rfl | rfl <;> cases om <;> simp [convC, sumN, dC]
    rw [e]
    have hc2 : ∀ q : Nat, cntI k p n q = (q : Int) % p := fun q => by
      unfold high at h
      unfold cntI
      rw [if_neg (by omega), if_neg (by omega), if_neg (by omega), if_neg (by omega)]
    by_cases h0 : c = 0
    · rw [if_pos h0, if_pos h0, hc2, hc2, hc2, ← Int.mul_emod]; simp
    · simp [h0]
  · have hm1 : m = 1 := by rw [low_width h] at hm; omega
    subst hm1
    rw [times_low hr h, LL_at (by omega), LL_at (by omega)]
    show [_] = [_]
    refine congrArg (fun x => [x]) ?_
    simp only [if_true]
    have ha := cntI_range hr a
    have hb := cntI_range hr b
    unfold high at h
    by_cases c1 : k = 1 ∨ k = 6
    · have e1 : ∀ q : Nat, cntI k p n q = if q = 0 then 0 else topI k p n := fun q => by
        rcases c1 with c1 | c1
        · unfold cntI topI; rw [if_pos c1, if_pos c1]
        · unfold cntI; rw [if_neg (by omega), if_neg (by omega), if_neg (by omega), if_pos (by omega)]
      have h1 := or_nat hr ha
      have h2 := or_nat hr hb
      unfold timesI
      rw [if_pos c1, bits_i64_and _ _ ha.1 h1 hb.1 h2, e1, e1, e1]
      by_cases a0 : a = 0
      · simp [a0]
      · by_cases b0 : b = 0
        · simp [b0]
        · have ab : ¬ a * b = 0 := Nat.mul_ne_zero a0 b0
          rw [if_neg a0, if_neg b0, if_neg ab, Nat.and_self]; omega
    · by_cases c3 : k = 3
      · have e1 : ∀ q : Nat, cntI k p n q = min (q : Int) p := fun q => by unfold cntI; rw [if_neg (by omega), if_pos c3]
        unfold timesI
        rw [if_neg c1, if_pos c3, e1, e1, e1, min_times (by omega) (by omega) (by omega), Int.mul_comm (a : Int) (min (b : Int) p), min_times (by omega) (by omega) (by omega), Int.mul_comm (b : Int) (a : Int)]
        simp
      · by_cases c4 : k = 4
        · have e1 : ∀ q : Nat, cntI k p n q = if q = 0 then p else 0 := fun q => by unfold cntI; rw [if_neg (by omega), if_neg (by omega), if_pos c4]
          unfold timesI
          rw [if_neg c1, if_neg c3, if_pos c4, e1, e1, e1]
          by_cases a0 : a = 0
          · simp [a0]; by_cases b0 : b = 0 <;> simp [b0] <;> omega
          · by_cases b0 : b = 0
            · simp [a0, b0]
            · have ab : ¬ a * b = 0 := Nat.mul_ne_zero a0 b0
              rw [if_neg a0, if_neg b0, if_neg ab]; omega
        · have e1 : ∀ q : Nat, cntI k p n q = if q = 0 then 0 else topI k p n := fun q => by unfold cntI; rw [if_neg (by omega), if_neg (by omega), if_neg (by omega), if_pos (by omega)]
          unfold timesI
          rw [if_neg c1, if_neg c3, if_neg c4, e1, e1, e1]
          by_cases a0 : a = 0
          · simp [a0]; by_cases b0 : b = 0 <;> simp [b0] <;> omega
          · by_cases b0 : b = 0
            · simp [a0, b0]; omega
            · have ab : ¬ a * b = 0 := Nat.mul_ne_zero a0 b0
              rw [if_neg a0, if_neg b0, if_neg ab]; omega
end Go.Proofs.Ytfdjlahaiogabab
namespace Go.Proofs.Ytfdjlahaiogabab
set_option maxRecDepth 20000
open Go.RowKit

/-- The sum of these terms, from the left. -/
def sumT (k p : Int) (s : List Int) (l : List (List Int)) : List Int := l.foldl (fun s t => plusL k p s t) s
theorem sumT_elem {k p q : Int} (hr : ringB k p q = true) : ∀ {l : List (List Int)} {s : List Int}, ElemV k p q s → (∀ t ∈ l, ElemV k p q t) → ElemV k p q (sumT k p s l) := by
  intro l
  induction l with
  | nil => intro s hs _; exact hs
  | cons t r ih => intro s hs hl; exact ih (plusL_elem hr hs (hl t (by simp))) (fun u hu => hl u (by simp [hu]))
theorem sumT_perm {k p q : Int} (hr : ringB k p q = true) {l l' : List (List Int)} (h : l.Perm l') : ∀ {s : List Int}, ElemV k p q s → (∀ t ∈ l, ElemV k p q t) → sumT k p s l = sumT k p s l' := by
  induction h with
  | nil => intro s _ _; rfl
  | cons t _ ih => intro s hs hl; exact ih (plusL_elem hr hs (hl t (by simp))) (fun u hu => hl u (by simp [hu]))
  | swap a b r =>
    intro s hs hl
    have ha := hl a (by simp)
    have hb := hl b (by simp)
    show sumT k p (plusL k p (plusL k p s b) a) r = sumT k p (plusL k p (plusL k p s a) b) r
    rw [plusL_assoc hr hs hb ha, plusL_comm hr hb ha, ← plusL_assoc hr hs ha hb]
  | trans h1 _ ih1 ih2 =>
    intro s hs hl
    rw [ih1 hs hl, ih2 hs (fun t ht => hl t (h1.symm.subset ht))]
/-- What is gathered at o: the terms that belong there. -/
theorem accE_sum (k p q : Int) (zf : Nat → Nat) (tf : Nat → List Int) (n o : Nat) : accE k p q zf tf n o = sumT k p (zeroL k p q) (((List.range n).filter fun m => decide (zf m = o)).map tf) := by
  induction n with
  | zero => rfl
  | succ n ih =>
    rw [accE_succ, ih, List.range_succ, List.filter_append, List.map_append]
    unfold sumT
    rw [List.foldl_append]
    by_cases h : zf n = o
    · rw [if_pos h]; simp [h]
    · rw [if_neg h]; simp [h]
/-- The same terms, met in another order. -/
theorem accE_perm {k p q : Int} {zf zf' : Nat → Nat} {tf tf' : Nat → List Int} {N o o' : Nat} {sg : Nat → Nat} (hr : ringB k p q = true) (ht : ∀ m, m < N → ElemV k p q (tf m)) (hs : ((List.range N).map sg).Perm (List.range N)) (he : ∀ m, m < N → tf' (sg m) = tf m) (hz : ∀ m, m < N → (zf' (sg m) = o' ↔ zf m = o)) : accE k p q zf' tf' N o' = accE k p q zf tf N o := by
  rw [accE_sum, accE_sum]
  have h1 : (((List.range N).filter fun m => decide (zf' m = o')).map tf').Perm ((((List.range N).map sg).filter fun m => decide (zf' m = o')).map tf') := ((hs.symm).filter _).map _
  have h2 : (((List.range N).map sg).filter fun m => decide (zf' m = o')).map tf' = ((List.range N).filter fun m => decide (zf m = o)).map tf := by
    rw [List.filter_map, List.map_map]
    have e : (List.range N).filter ((fun m => decide (zf' m = o')) ∘ sg) = (List.range N).filter fun m => decide (zf m = o) := by
      apply List.filter_congr
      intro m hm
      have := hz m (by simpa using hm)
      simp only [Function.comp]
      exact decide_eq_decide.2 this
    rw [e]
    apply List.map_congr_left
    intro m hm
    exact he m (by have h3 := (List.mem_filter.1 hm).1; simpa using h3)
  rw [h2] at h1
  exact (sumT_perm hr h1.symm (zeroL_elem hr) (fun t ht' => by
    obtain ⟨m, hm, rfl⟩ := List.mem_map.1 ht'
    exact ht m (by have h3 := (List.mem_filter.1 hm).1; simpa using h3))).symm
/-- A map of the numbers below N onto themselves, one to one. -/
theorem range_perm {N : Nat} {sg : Nat → Nat} (h1 : ∀ m, m < N → sg m < N) (h2 : ∀ a b, a < N → b < N → sg a = sg b → a = b) : ((List.range N).map sg).Perm (List.range N) := by
  have hn : ((List.range N).map sg).Nodup := by
    rw [List.nodup_iff_pairwise_ne, List.pairwise_map]
    exact (List.pairwise_iff_getElem.2 fun i j hi hj hij e => by
      simp at hi hj
      have := h2 _ _ (by simp; omega) (by simp; omega) e
      simp at this
      omega)
  have hi : ((((List.range N).map sg).map fun m : Nat => (m : Int))).Nodup := by
    rw [List.nodup_iff_pairwise_ne, List.pairwise_map]
    exact (List.nodup_iff_pairwise_ne.1 hn).imp fun h e => h (Int.ofNat_inj.1 e)
  have hp := perm_of_nodup (xs := (List.range N).map fun m : Nat => (m : Int)) hi (fun x hx => by
    obtain ⟨m, hm, rfl⟩ := List.mem_map.1 hx
    obtain ⟨a, ha, rfl⟩ := List.mem_map.1 hm
    exact List.mem_map.2 ⟨sg a, List.mem_range.2 (h1 a (List.mem_range.1 ha)), rfl⟩) (by simp)
  have hq := hp.map Int.toNat
  rw [List.map_map, List.map_map, List.map_map] at hq
  have e1 : (List.range N).map (Int.toNat ∘ fun m : Nat => (m : Int)) = List.range N := by
    conv => rhs; rw [← List.map_id (List.range N)]
    apply List.map_congr_left
    intro m _
    simp
  have e2 : (List.range N).map (Int.toNat ∘ (fun m : Nat => (m : Int)) ∘ sg) = (List.range N).map sg := by
    apply List.map_congr_left
    intro m _
    simp
  first | (rw [e1] at hq; rw [← e2]; exact hq) | (simpa using hq)
end Go.Proofs.Ytfdjlahaiogabab
namespace Go.Proofs.Ytfdjlahaiogabab
set_option maxRecDepth 20000
open Go.RowKit

theorem via_comp {L A C ix : List Int} (h : ∀ n ∈ L, n ∈ A) : viaL L A (viaL A C ix) = viaL L C ix := by
  unfold viaL
  apply List.map_congr_left
  intro n hn
  exact getD_at (by rw [List.getElem?_map, at_idxOf (h n hn)]; rfl)
theorem via_id {J ix : List Int} (hn : J.Nodup) (hl : ix.length = J.length) : viaL J J ix = ix := by
  apply List.ext_getElem?
  intro i
  by_cases hi : i < J.length
  · have hm : J[i]? = some J[i] := List.getElem?_eq_getElem hi
    unfold viaL
    rw [List.getElem?_map, hm, List.getElem?_eq_getElem (show i < ix.length by omega)]
    show some (ix.getD (J.idxOf J[i]) 0) = _
    rw [idxOf_at hn hm, getD_at (List.getElem?_eq_getElem (show i < ix.length by omega))]
  · rw [List.getElem?_eq_none (by unfold viaL; rw [List.length_map]; omega), List.getElem?_eq_none (by omega)]
/-- The number of the same index when the labels stand otherwise. -/
structure Turned (J JD J' JD' : List Int) : Prop where
  a : SubAx J' JD' J JD
  b : SubAx J JD J' JD'
  pos : ∀ d ∈ JD, 1 ≤ d
  pos' : ∀ d ∈ JD', 1 ≤ d
theorem Turned.idx {J JD J' JD' : List Int} (h : Turned J JD J' JD') (n : Nat) : idxL JD' (offJ J' JD' J JD n : Int) = viaL J' J (idxL JD (n : Int)) := by
  have h1 := h.a.inx h.b.len (idxL_in h.pos (n : Int))
  have h2 := offP_range h.pos' h1 JD'.length (Nat.le_refl _)
  rw [← offI_is, List.take_of_length_le (Nat.le_refl _)] at h2
  have e : (offJ J' JD' J JD n : Int) = offI JD' (viaL J' J (idxL JD (n : Int))) := by unfold offJ; omega
  rw [e, idx_off h.pos' h1]
theorem Turned.back {J JD J' JD' : List Int} (h : Turned J JD J' JD') (n : Nat) : viaL J J' (idxL JD' (offJ J' JD' J JD n : Int)) = idxL JD (n : Int) := by
  rw [h.idx, via_comp h.b.sub, via_id h.b.nd (by rw [idxL_len, h.b.len])]
/-- A tensor's offset is the same. -/
theorem Turned.off {J JD J' JD' L D : List Int} (h : Turned J JD J' JD') (hL : ∀ n ∈ L, n ∈ J') (n : Nat) : offJ L D J' JD' (offJ J' JD' J JD n) = offJ L D J JD n := by
  unfold offJ
  have e := h.idx n
  unfold offJ at e
  rw [e, via_comp hL]
theorem Turned.size {J JD J' JD' : List Int} (h : Turned J JD J' JD') : prodL JD' = prodL JD := by
  have hp : J'.Perm J := (List.perm_ext_iff_of_nodup h.a.nd h.b.nd).2 fun n => ⟨h.a.sub n, h.b.sub n⟩
  have e : dimsVia J JD J' = JD' := by
    apply List.ext_getElem?
    intro i
    by_cases hi : i < J'.length
    · have hm : J'[i]? = some J'[i] := List.getElem?_eq_getElem hi
      have hj : i < JD'.length := by rw [← h.a.len]; exact hi
      unfold dimsVia
      rw [List.getElem?_map, hm, List.getElem?_eq_getElem hj]
      show some (JD.getD (J.idxOf J'[i]) 0) = _
      rw [← h.a.dim i _ hm, getD_at (List.getElem?_eq_getElem hj)]
    · rw [List.getElem?_eq_none (by rw [dimsVia_len]; omega), List.getElem?_eq_none (by rw [← h.a.len]; omega)]
  rw [← e]
  exact prodL_perm (dims_perm h.b.nd h.b.len hp)
theorem Turned.perm {J JD J' JD' : List Int} (h : Turned J JD J' JD') : ((List.range (prodL JD).toNat).map (offJ J' JD' J JD)).Perm (List.range (prodL JD).toNat) := by
  have hs := h.size
  refine range_perm (fun m _ => ?_) (fun x y hx hy e => ?_)
  · have h1 := (h.a.off h.b.len h.pos' h.pos h.b.nd m).2
    rw [hs] at h1
    omega
  · have h1 := h.back x
    rw [e, h.back y] at h1
    have h2 := off_idx h.pos (n := (x : Int)) (by omega) (by omega)
    have h3 := off_idx h.pos (n := (y : Int)) (by omega) (by omega)
    rw [← h1] at h2
    omega
/-- The sum at an index of the answer, with the labels of the join and of the answer in another order. -/
theorem acc_turn {k p q : Int} {J JD J' JD' K KD K' KD' : List Int} {tf tf' : Nat → List Int} (hr : ringB k p q = true) (h : Turned J JD J' JD') (g : Turned K KD K' KD') (hK : SubAx K KD J JD) (hK' : ∀ n ∈ K', n ∈ J') (ht : ∀ m, m < (prodL JD).toNat → ElemV k p q (tf m)) (he : ∀ m, m < (prodL JD).toNat → tf' (offJ J' JD' J JD m) = tf m) (o : Nat) (ho : o < (prodL KD).toNat) :
    accE k p q (offJ K' KD' J' JD') tf' (prodL JD).toNat (offJ K' KD' K KD o) = accE k p q (offJ K KD J JD) tf (prodL JD).toNat o := by
  refine accE_perm hr ht h.perm he (fun m _ => ?_)
  rw [h.off hK']
  -- the answer's offset in K' of an index of J: through K
  have e1 : offJ K' KD' J JD m = offJ K' KD' K KD (offJ K KD J JD m) := by
    have h1 := hK.inx h.b.len (idxL_in h.pos (m : Int))
    have h2 := offP_range g.pos h1 KD.length (Nat.le_refl _)
    rw [← offI_is, List.take_of_length_le (Nat.le_refl _)] at h2
    have e : (offJ K KD J JD m : Int) = offI KD (viaL K J (idxL JD (m : Int))) := by unfold offJ; omega
    show _ = (offI KD' (viaL K' K (idxL KD ((offJ K KD J JD m : Nat) : Int)))).toNat
    rw [e, idx_off g.pos h1, via_comp g.a.sub]
    rfl
  rw [e1]
  constructor
  · intro e
    have hm := (hK.off h.b.len g.pos h.pos h.b.nd m).2
    have h1 := g.back (offJ K KD J JD m)
    rw [e, g.back o] at h1
    have h2 := off_idx g.pos (n := ((offJ K KD J JD m : Nat) : Int)) (by omega) (by omega)
    have h3 := off_idx g.pos (n := (o : Int)) (by omega) (by omega)
    rw [← h1] at h2
    omega
  · intro e; rw [e]
end Go.Proofs.Ytfdjlahaiogabab
namespace Go.Proofs.Ytfdjlahaiogabab
set_option maxRecDepth 20000
open Go.RowKit

theorem FitV.symm {L D L' D' : List Int} (h : FitV L D L' D') (hn : L.Nodup) : FitV L' D' L D := fun j n hj hm hmL => by
  have h1 := at_idxOf hmL
  have h2 := (List.getElem?_eq_some_iff.1 h1).1
  have h3 := h (L'.idxOf n) n h2 h1 (List.mem_of_getElem? hm)
  rw [idxOf_at hn hm] at h3
  exact h3.symm
theorem join_mem {L L' : List Int} {n : Int} (h : n ∈ joinL L L') : n ∈ L ∨ n ∈ L' := by
  rcases List.mem_append.1 h with h | h
  · exact .inl h
  · exact .inr (rest_sub h).1
/-- The joins of two tensors in both orders. -/
theorem join_sub {L D L' D' : List Int} (hn : L.Nodup) (hl : L.length = D.length) (hn' : L'.Nodup) (hl' : L'.length = D'.length) (hf : FitV L D L' D') : SubAx (joinL L' L) (joinD L' D' L D) (joinL L L') (joinD L D L' D') :=
  ⟨join_nodup hn' hn, (joinD_len hl').symm, fun n h => (join_mem h).elim (fun h => join_sub_right n h) (fun h => join_sub_left n h), fun i n hi => by
    have e := idxOf_at (join_nodup hn' hn) hi
    rcases join_mem (List.mem_of_getElem? hi) with h | h
    · have h1 := (SubAx.left (L' := L) (D' := D) hn' hl').dim _ _ (at_idxOf h)
      have h2 := (SubAx.right hl hn' hl' hf).dim _ _ (at_idxOf h)
      rw [e] at h1
      rw [← h1, ← h2]
    · have h1 := (SubAx.right hl' hn hl (hf.symm hn)).dim _ _ (at_idxOf h)
      have h2 := (SubAx.left (L' := L') (D' := D') hn hl).dim _ _ (at_idxOf h)
      rw [e] at h1
      rw [← h1, ← h2]⟩
/-- What is kept of the same labels in another order. -/
theorem keep_sub2 {J JD J' JD' : List Int} (keep : List Int) (h : SubAx J' JD' J JD) (hn : J.Nodup) : SubAx (keepL J' keep) (keepD J' JD' keep) (keepL J keep) (keepD J JD keep) :=
  ⟨keep_nodup h.nd, by unfold keepD; rw [dimsVia_len], fun n hm => by
    unfold keepL at hm ⊢
    have h1 := List.mem_filter.1 hm
    exact List.mem_filter.2 ⟨h.sub n h1.1, h1.2⟩, fun i n hi => by
    have hm := List.mem_of_getElem? hi
    have hk : n ∈ keepL J keep := by
      unfold keepL at hm ⊢
      have h1 := List.mem_filter.1 hm
      exact List.mem_filter.2 ⟨h.sub n h1.1, h1.2⟩
    have h1 := (SubAx.keep keep h.nd (JD := JD')).dim i n hi
    have h2 := h.dim _ _ (at_idxOf (keep_sub n hm))
    have h3 := (SubAx.keep keep hn (JD := JD)).dim _ n (at_idxOf hk)
    rw [h1, h2, h3]⟩
theorem Turned.dims {J JD J' JD' : List Int} (h : Turned J JD J' JD') : dimsVia J JD J' = JD' := by
  apply List.ext_getElem?
  intro i
  by_cases hi : i < J'.length
  · have hm : J'[i]? = some J'[i] := List.getElem?_eq_getElem hi
    have hj : i < JD'.length := by rw [← h.a.len]; exact hi
    unfold dimsVia
    rw [List.getElem?_map, hm, List.getElem?_eq_getElem hj]
    show some (JD.getD (J.idxOf J'[i]) 0) = _
    rw [← h.a.dim i _ hm, getD_at (List.getElem?_eq_getElem hj)]
  · rw [List.getElem?_eq_none (by rw [dimsVia_len]; omega), List.getElem?_eq_none (by rw [← h.a.len]; omega)]
theorem Turned.labels {J JD J' JD' : List Int} (h : Turned J JD J' JD') : J'.Perm J :=
  (List.perm_ext_iff_of_nodup h.a.nd h.b.nd).2 fun n => ⟨h.a.sub n, h.b.sub n⟩
theorem Turned.symm {J JD J' JD' : List Int} (h : Turned J JD J' JD') : Turned J' JD' J JD := ⟨h.b, h.a, h.pos', h.pos⟩
/-- There and back. -/
theorem Turned.there {J JD J' JD' : List Int} (h : Turned J JD J' JD') {n : Nat} (hn : (n : Int) < prodL JD) : offJ J JD J' JD' (offJ J' JD' J JD n) = n := by
  have h1 := h.back n
  have h2 := off_idx h.pos (n := (n : Int)) (by omega) hn
  show (offI JD (viaL J J' (idxL JD' (offJ J' JD' J JD n : Int)))).toNat = n
  rw [h1, h2]
  omega
theorem join_turned {L D L' D' : List Int} (h : AxesV L D) (h' : AxesV L' D') (hf : FitV L D L' D') : Turned (joinL L L') (joinD L D L' D') (joinL L' L) (joinD L' D' L D) :=
  ⟨join_sub h.2.2.2.2 h.2.1 h'.2.2.2.2 h'.2.1 hf, join_sub h'.2.2.2.2 h'.2.1 h.2.2.2.2 h.2.1 (hf.symm h.2.2.2.2), fun d hd => ((joinD_ax h h').1 d hd).1, fun d hd => ((joinD_ax h' h).1 d hd).1⟩
theorem keepD_pos {J JD keep : List Int} (hl : J.length = JD.length) (h : ∀ d ∈ JD, 1 ≤ d ∧ d ≤ 8) : ∀ d ∈ keepD J JD keep, 1 ≤ d ∧ d ≤ 8 := by
  unfold keepD
  exact dimsVia_in hl keep_sub h
theorem keep_turned {J JD J' JD' : List Int} (keep : List Int) (h : Turned J JD J' JD') (hD : ∀ d ∈ JD, 1 ≤ d ∧ d ≤ 8) (hD' : ∀ d ∈ JD', 1 ≤ d ∧ d ≤ 8) : Turned (keepL J keep) (keepD J JD keep) (keepL J' keep) (keepD J' JD' keep) :=
  ⟨keep_sub2 keep h.a h.b.nd, keep_sub2 keep h.b h.a.nd, fun d hd => (keepD_pos h.b.len hD d hd).1, fun d hd => (keepD_pos h.a.len hD' d hd).1⟩
/-- The contraction with its tensors in the other order is the contraction with its axes in another order. -/
theorem pair_swap {k p q : Int} {L D X L' D' X' : List Int} (keep : List Int) {wd N1 N2 : Nat} (hr : ringB k p q = true) (hw : widthI k q = (wd : Int)) (fa : TenF k p q L D X wd N1) (fb : TenF k p q L' D' X' wd N2) (hf : FitV L D L' D') :
    Turned (keepL (joinL L L') keep) (keepD (joinL L L') (joinD L D L' D') keep) (keepL (joinL L' L) keep) (keepD (joinL L' L) (joinD L' D' L D) keep) ∧
    pairL k p q L' D' X' L D X keep = permDataL k q (keepL (joinL L L') keep) (keepD (joinL L L') (joinD L D L' D') keep) (pairL k p q L D X L' D' X' keep) (keepL (joinL L' L) keep) := by
  have T := join_turned fa.ax fb.ax hf
  have G := keep_turned keep T (joinD_ax fa.ax fb.ax).1 (joinD_ax fb.ax fa.ax).1
  refine ⟨G, ?_⟩
  have sa : SubAx L D (joinL L L') (joinD L D L' D') := SubAx.left fa.ax.2.2.2.2 fa.ax.2.1
  have sb : SubAx L' D' (joinL L L') (joinD L D L' D') := SubAx.right fa.ax.2.1 fb.ax.2.2.2.2 fb.ax.2.1 hf
  have hJ := (joinD_ax fa.ax fb.ax).2.2.2
  have pa : ∀ d ∈ D, 1 ≤ d := fun d hd => (fa.ax.2.2.2.1 d hd).1
  have pb : ∀ d ∈ D', 1 ≤ d := fun d hd => (fb.ax.2.2.2.1 d hd).1
  have la : ∀ m, offJ L D (joinL L L') (joinD L D L' D') m < N1 := fun m => by
    have h1 := (sa.off hJ pa T.pos T.b.nd m).2
    have h2 := fa.pr
    omega
  have lb : ∀ m, offJ L' D' (joinL L L') (joinD L D L' D') m < N2 := fun m => by
    have h1 := (sb.off hJ pb T.pos T.b.nd m).2
    have h2 := fb.pr
    omega
  have ht : ∀ m, m < (prodL (joinD L D L' D')).toNat → ElemV k p q (termJ k p wd L D X L' D' X' (joinL L L') (joinD L D L' D') m) := fun m _ => termJ_elem hr hw fa.lX fb.lX fa.wX fb.wX (la m) (lb m)
  have he : ∀ m, m < (prodL (joinD L D L' D')).toNat → termJ k p wd L' D' X' L D X (joinL L' L) (joinD L' D' L D) (offJ (joinL L' L) (joinD L' D' L D) (joinL L L') (joinD L D L' D') m) = termJ k p wd L D X L' D' X' (joinL L L') (joinD L D L' D') m := fun m _ => by
    unfold termJ
    rw [T.off join_sub_left, T.off join_sub_right]
    exact times_comm hr (getL_elem hw fb.lX fb.wX (lb m)) (getL_elem hw fa.lX fa.wX (la m))
  have hwt : (widthI k q).toNat = wd := by omega
  have hP := T.size
  have hQ := G.size
  have hK : SubAx (keepL (joinL L L') keep) (keepD (joinL L L') (joinD L D L' D') keep) (joinL L L') (joinD L D L' D') := SubAx.keep keep T.b.nd
  unfold permDataL permX
  rw [G.dims]
  unfold pairL accL
  rw [hwt, hP, hQ]
  show gatherL _ _ = gatherL _ _
  refine gather_congr fun n hn => ?_
  have hn2 : (n : Int) < prodL (keepD (joinL L' L) (joinD L' D' L D) keep) := by omega
  have h1 := G.symm.there hn2
  have h2 := (G.b.off G.a.len G.pos G.pos' G.a.nd n).2
  show _ = getL wd (accL k p q _ _ _ _) (offJ (keepL (joinL L L') keep) (keepD (joinL L L') (joinD L D L' D') keep) (keepL (joinL L' L) keep) (keepD (joinL L' L) (joinD L' D' L D) keep) n)
  rw [acc_get hr hw ht (Nat.le_refl _) (by omega), ← acc_turn hr T G hK keep_sub ht he _ (by omega), h1]
end Go.Proofs.Ytfdjlahaiogabab
namespace Go.Proofs.Ytfdjlahaiogabab
set_option maxRecDepth 20000
open Go.RowKit

theorem LabV.fit {n m m' : Nat} {L D L' D' : List Int} (h : LabV n m L D) (h' : LabV n m' L' D') : FitV L D L' D' := fun j x _ hm hmL => by
  rw [h'.dv j x hm]
  exact h.dv _ x (at_idxOf hmL)
theorem LabV.joinDim {n m m' : Nat} {L D L' D' : List Int} (h : LabV n m L D) (h' : LabV n m' L' D') : ∀ d ∈ joinD L D L' D', 1 ≤ d ∧ d ≤ 3 := fun d hd => by
  rcases List.mem_append.1 hd with h1 | h1
  · exact h.dm d h1
  · unfold dimsVia at h1
    obtain ⟨x, hx, rfl⟩ := List.mem_map.1 h1
    have h2 := at_idxOf (rest_sub hx).1
    have h3 := (List.getElem?_eq_some_iff.1 h2).1
    rw [getD_at (List.getElem?_eq_getElem (show L'.idxOf x < D'.length by rw [← h'.len]; exact h3))]
    exact h'.dm _ (List.getElem_mem _)
theorem pow3_le : ∀ {n : Nat}, n ≤ 6 → (3 : Int) ^ n ≤ 729 := fun {n} h => by
  rcases (by omega : n = 0 ∨ n = 1 ∨ n = 2 ∨ n = 3 ∨ n = 4 ∨ n = 5 ∨ n = 6) with e | e | e | e | e | e | e <;> rw [e] <;> decide
theorem keepD_dim {J JD keep : List Int} {t : Int} (hl : J.length = JD.length) (h : ∀ d ∈ JD, 1 ≤ d ∧ d ≤ t) : ∀ d ∈ keepD J JD keep, 1 ≤ d ∧ d ≤ t := fun d hd => by
  unfold keepD dimsVia at hd
  obtain ⟨x, hx, rfl⟩ := List.mem_map.1 hd
  have h3 := (List.getElem?_eq_some_iff.1 (at_idxOf (keep_sub x hx))).1
  rw [getD_at (List.getElem?_eq_getElem (show J.idxOf x < JD.length by omega))]
  exact h _ (List.getElem_mem _)
/-- What is kept of the join of two drawn tensors. -/
theorem LabV.pair {L D L' D' : List Int} (keep : List Int) (h : LabV 6 3 L D) (h' : LabV 6 3 L' D') : prodL (joinD L D L' D') ≤ 729 ∧ AxesV (keepL (joinL L L') keep) (keepD (joinL L L') (joinD L D L' D') keep) ∧ prodL (keepD (joinL L L') (joinD L D L' D') keep) ≤ 729 := by
  have hd := h.joinDim h'
  have hn := join_nodup h.nd h'.nd
  have hjl := joinD_len (L' := L') (D' := D') h.len
  have h6 : (joinL L L').length ≤ 6 := by
    have := join_len L L'
    have := h.most
    have := h'.most
    omega
  have hk6 := keep_len (joinL L L') keep
  have hkd := keepD_dim (keep := keep) hjl.symm hd
  have hkl : (keepD (joinL L L') (joinD L D L' D') keep).length = (keepL (joinL L L') keep).length := by unfold keepD; rw [dimsVia_len]
  refine ⟨Int.le_trans (prodL_le3 hd).2 (pow3_le (by omega)), ⟨by omega, hkl.symm, fun x hx => ?_, fun d hd2 => ?_, keep_nodup hn⟩, Int.le_trans (prodL_le3 hkd).2 (pow3_le (by omega))⟩
  · rcases join_mem (keep_sub x hx) with h1 | h1
    · have := h.rg x h1; omega
    · have := h'.rg x h1; omega
  · have := hkd d hd2; omega
theorem sizeI_of {L D : List Int} (h : AxesV L D) (hp : prodL D ≤ 4096) : sizeI L D = prodL D := by
  rcases sizeI_cases L D with ⟨-, h2⟩ | ⟨h2, -⟩
  · exact absurd ⟨axesB_true.2 h, hp⟩ h2
  · exact h2
theorem pairs_ok {k p q : Int} {L D X L' D' X' : List Int} (keep : List Int) (ht : tensorB k p q L D X = true) (ht' : tensorB k p q L' D' X' = true) (h : LabV 6 3 L D) (h' : LabV 6 3 L' D') : pairB k p q L D X L' D' X' keep = true := by
  obtain ⟨h1, h2, h3⟩ := h.pair keep h'
  have h4 := prodL_pos (D := keepD (joinL L L') (joinD L D L' D') keep) (fun d hd => (h2.2.2.2.1 d hd).1)
  unfold pairB pfB smallB
  rw [ht, ht', fitV_true.2 (h.fit h'), sizeI_of h2 (by omega)]
  simp only [Bool.true_and, Bool.and_eq_true, decide_eq_true_eq]
  exact ⟨by omega, by omega⟩
theorem gather_within {t : Int} {f : Nat → List Int} {N : Nat} (h : ∀ i, i < N → Within t (f i)) : Within t (gatherL f N) := fun x hx => by
  unfold gatherL at hx
  obtain ⟨n, hn, hx⟩ := List.mem_flatMap.1 hx
  exact h n (List.mem_range.1 hn) x hx
/-- The contraction of two tensors is a tensor. -/
theorem pair_ten {k p q : Int} {L D X L' D' X' keep : List Int} (h : pairB k p q L D X L' D' X' keep = true) : tensorB k p q (keepL (joinL L L') keep) (keepD (joinL L L') (joinD L D L' D') keep) (pairL k p q L D X L' D' X' keep) = true := by
  obtain ⟨h1, h2, h3, -, h5⟩ := pairB_parts h
  have hr := (tensorB_inv h1).1
  obtain ⟨wd, hw, -, -⟩ := width_pos hr
  have fa := TenF.of h1 hw
  have fb := TenF.of h2 hw
  have HJA := joinD_ax fa.ax fb.ax
  obtain ⟨ka, kp1, kp2, -⟩ := sizeI_axes h5
  have SJA : SubAx L D (joinL L L') (joinD L D L' D') := SubAx.left fa.ax.2.2.2.2 fa.ax.2.1
  have SJB : SubAx L' D' (joinL L L') (joinD L D L' D') := SubAx.right fa.ax.2.1 fb.ax.2.2.2.2 fb.ax.2.1 h3
  have hJ1 : ∀ d ∈ joinD L D L' D', 1 ≤ d := fun d hd => (HJA.1 d hd).1
  have ht : ∀ m, m < (prodL (joinD L D L' D')).toNat → ElemV k p q (termJ k p wd L D X L' D' X' (joinL L L') (joinD L D L' D') m) := fun n _ => termJ_elem hr hw fa.lX fb.lX fa.wX fb.wX (by have h := (SJA.off HJA.2.2.2 fa.dim hJ1 HJA.2.1 n).2; rw [fa.pr] at h; omega) (by have h := (SJB.off HJA.2.2.2 fb.dim hJ1 HJA.2.1 n).2; rw [fb.pr] at h; omega)
  refine (tensorB_of hr ka kp2 ?_ ?_).1
  · unfold pairL
    rw [hw, Int.toNat_natCast, acc_len hr hw ht (Nat.le_refl _), Int.natCast_mul]
    congr 1
    omega
  · unfold pairL accL
    rw [hw, Int.toNat_natCast]
    exact gather_within fun i _ => (accE_elem hr ht _ (Nat.le_refl _) i).2
/-- The size of the join in both orders; it is at least what is kept. -/
theorem join_size {L D L' D' : List Int} (keep : List Int) (h : LabV 6 3 L D) (h' : LabV 6 3 L' D') : joinSizeI L D L' D' = joinSizeI L' D' L D ∧ prodL (keepD (joinL L L') (joinD L D L' D') keep) ≤ joinSizeI L D L' D' := by
  obtain ⟨ha, hp1, hp2⟩ := h.axes (by omega) (by omega)
  obtain ⟨ha', hp1', hp2'⟩ := h'.axes (by omega) (by omega)
  have T := join_turned ha ha' (h.fit h')
  have e := T.size
  have c1 := (capW_is T.pos).1
  have c2 := (capW_is T.pos').1
  have hs1 := sizeI_of ha (by omega)
  have hs2 := sizeI_of ha' (by omega)
  have hb := (h.pair keep h').1
  have j1 : joinSizeI L D L' D' = capW (joinD L D L' D') := by
    unfold joinSizeI joinI
    rw [if_neg (by omega), if_pos (fitV_true.2 (h.fit h'))]
  have j2 : joinSizeI L' D' L D = capW (joinD L' D' L D) := by
    unfold joinSizeI joinI
    rw [if_neg (by omega), if_pos (fitV_true.2 (h'.fit h))]
  refine ⟨by rw [j1, j2, c1, c2, e], ?_⟩
  have hn := join_nodup h.nd h'.nd
  have hjl := (joinD_len (L' := L') (D' := D') h.len).symm
  have hds : (keepD (joinL L L') (joinD L D L' D') keep).Sublist (joinD L D L' D') := by
    have hsub : (keepL (joinL L L') keep).Sublist (joinL L L') := List.filter_sublist
    have h2 := hsub.map (fun n => (joinD L D L' D').getD ((joinL L L').idxOf n) 0)
    have h3 := dims_self hn hjl
    have h4 : (joinL L L').map (fun n => (joinD L D L' D').getD ((joinL L L').idxOf n) 0) = joinD L D L' D' := h3
    rw [h4] at h2
    exact h2
  have h9 := prodL_sub hds T.pos
  rw [j1, c1]
  omega
end Go.Proofs.Ytfdjlahaiogabab
