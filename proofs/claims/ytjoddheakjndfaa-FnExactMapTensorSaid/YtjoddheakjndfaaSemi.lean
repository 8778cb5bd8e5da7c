
/- Every ring is a commutative semiring; counts multiply. Plain mathematics. -/
import Derived.Test.YtjoddheakjndfaaPow2
namespace Go.Proofs.Ytjoddheakjndfaa
set_option maxRecDepth 20000
open Go

theorem or_nat {k p n a : Int} (hr : ringB k p n = true) (ha : 0 ≤ a ∧ a ≤ topI k p n) : a < 1073741824 := by have := ring_top hr; omega
theorem plusI_comm {k p n a b : Int} (hr : ringB k p n = true) (ha : 0 ≤ a ∧ a ≤ topI k p n) (hb : 0 ≤ b ∧ b ≤ topI k p n) : plusI k p a b = plusI k p b a := by
  have h1 := or_nat hr ha
  have h2 := or_nat hr hb
  unfold plusI
  by_cases c1 : k = 1 ∨ k = 6
  · rw [if_pos c1, if_pos c1, bits_i64_or a b ha.1 h1 hb.1 h2, bits_i64_or b a hb.1 h2 ha.1 h1, Nat.or_comm]
  · rw [if_neg c1, if_neg c1, Int.add_comm a b, Int.min_comm a b, Int.max_comm a b]
theorem plusI_assoc {k p n a b c : Int} (hr : ringB k p n = true) (ha : 0 ≤ a ∧ a ≤ topI k p n) (hb : 0 ≤ b ∧ b ≤ topI k p n) (hc : 0 ≤ c ∧ c ≤ topI k p n) : plusI k p (plusI k p a b) c = plusI k p a (plusI k p b c) := by
  have h1 := or_nat hr ha
  have h2 := or_nat hr hb
  have h3 := or_nat hr hc
  have e1 := plusI_range hr ha hb
  have e2 := plusI_range hr hb hc
  have h4 := or_nat hr e1
  have h5 := or_nat hr e2
  have g := ring_cases hr
  unfold plusI at *
  by_cases c1 : k = 1 ∨ k = 6
  · simp only [if_pos c1] at *
    rw [bits_i64_or _ c e1.1 h4 hc.1 h3, bits_i64_or a _ ha.1 h1 e2.1 h5, bits_i64_or a b ha.1 h1 hb.1 h2, bits_i64_or b c hb.1 h2 hc.1 h3]
    simp [Nat.or_assoc]
  · simp only [if_neg c1]
    by_cases c3 : k = 3
    · simp only [if_pos c3]; omega
    · simp only [if_neg c3]
      by_cases c4 : k = 4
      · simp only [if_pos c4]; omega
      · simp only [if_neg c4]
        by_cases c5 : k = 5
        · simp only [if_pos c5]; omega
        · simp only [if_neg c5]
          rw [Int.emod_add_emod, Int.add_emod_emod, Int.add_assoc]
theorem plusI_zero {k p n a : Int} (hr : ringB k p n = true) (ha : 0 ≤ a ∧ a ≤ topI k p n) : plusI k p a (if k = 4 then p else 0) = a := by
  have h1 := or_nat hr ha
  have g := ring_cases hr
  have ht : k = 3 ∨ k = 4 ∨ k = 5 → topI k p n = p := fun hk => by unfold topI; rw [if_neg (by omega), if_neg (by omega), if_neg (by omega)]
  unfold plusI
  by_cases c1 : k = 1 ∨ k = 6
  · rw [if_pos c1, if_neg (by omega), bits_i64_or a 0 ha.1 h1 (by omega) (by omega)]
    simp; omega
  · rw [if_neg c1]
    by_cases c3 : k = 3
    · have := ht (by omega); rw [if_pos c3, if_neg (by omega)]; omega
    · rw [if_neg c3]
      by_cases c4 : k = 4
      · have := ht (by omega); rw [if_pos c4, if_pos c4]; omega
      · rw [if_neg c4]
        by_cases c5 : k = 5
        · rw [if_pos c5, if_neg c4]; omega
        · rw [if_neg c5, if_neg c4]
          have hp : topI k p n = p - 1 := by unfold topI; rw [if_neg (by omega), if_neg (by omega), if_pos (by omega)]
          rw [Int.add_zero]
          exact Int.emod_eq_of_lt ha.1 (by omega)
theorem plusL_comm {k p n : Int} {xs ys : List Int} (hr : ringB k p n = true) (hx : ElemV k p n xs) (hy : ElemV k p n ys) : plusL k p xs ys = plusL k p ys xs := by
  have hl : ys.length = xs.length := by have := hx.1; have := hy.1; omega
  unfold plusL
  rw [hl]
  exact LL_congr fun i _ => plusI_comm hr (elem_at hr hx i) (elem_at hr hy i)
theorem plusL_assoc {k p n : Int} {xs ys zs : List Int} (hr : ringB k p n = true) (hx : ElemV k p n xs) (hy : ElemV k p n ys) (hz : ElemV k p n zs) : plusL k p (plusL k p xs ys) zs = plusL k p xs (plusL k p ys zs) := by
  have hl : ys.length = xs.length := by have := hx.1; have := hy.1; omega
  have e1 : plusL k p xs ys = LL xs.length fun i => plusI k p (xs.getD i 0) (ys.getD i 0) := rfl
  have e2 : plusL k p ys zs = LL xs.length fun i => plusI k p (ys.getD i 0) (zs.getD i 0) := by rw [← hl]; rfl
  rw [e1, e2]
  unfold plusL
  rw [LL_len]
  refine LL_congr fun i hi => ?_
  rw [LL_at hi, LL_at hi]
  exact plusI_assoc hr (elem_at hr hx i) (elem_at hr hy i) (elem_at hr hz i)
theorem zero_LL {k p n : Int} {m : Nat} (hm : (m : Int) = widthI k n) : zeroL k p n = LL m fun _ => if k = 4 then p else 0 := by
  unfold zeroL
  rw [← hm]
  refine LL_congr fun i hi => ?_
  by_cases h4 : k = 4
  · have hw : widthI k n = 1 := by rw [h4]; rfl
    have : (m : Int).toNat = m := Int.toNat_natCast m
    rw [if_pos ⟨by omega, h4⟩, if_pos h4]
  · rw [if_neg (fun e => h4 e.2), if_neg h4]
theorem plusL_zero {k p n : Int} {xs : List Int} (hr : ringB k p n = true) (hx : ElemV k p n xs) : plusL k p xs (zeroL k p n) = xs := by
  rw [zero_LL hx.1]
  refine Eq.trans ?_ (LL_of xs).symm
  unfold plusL
  refine LL_congr fun i hi => ?_
  rw [LL_at hi]
  exact plusI_zero hr (elem_at hr hx i)
theorem plusL_zero_left {k p n : Int} {xs : List Int} (hr : ringB k p n = true) (hx : ElemV k p n xs) : plusL k p (zeroL k p n) xs = xs := by
  rw [plusL_comm hr (zeroL_elem hr) hx, plusL_zero hr hx]

theorem conv_comm {m : Nat} {om : Bool} (hm : m ≤ 6) (h4 : om = true → m = 4) (X Y : Nat → Int) (c : Nat) (hc : c < m) : convC m om X Y c = convC m om Y X c := by
  cases om with
  | true =>
    obtain rfl := h4 rfl
    have h : c = 0 ∨ c = 1 ∨ c = 2 ∨ c = 3 := by omega
    rcases h with rfl | rfl | rfl | rfl <;> simp [convC, sumN, dC] <;> grind
  | false =>
    have h : m = 1 ∨ m = 2 ∨ m = 3 ∨ m = 4 ∨ m = 5 ∨ m = 6 := by omega
    rcases h with rfl | rfl | rfl | rfl | rfl | rfl
    · obtain rfl : c = 0 := by omega
      simp [convC, sumN, dC]; grind
    · have h : c = 0 ∨ c = 1 := by omega
      rcases h with rfl | rfl <;> simp [convC, sumN, dC] <;> grind
    · have h : c = 0 ∨ c = 1 ∨ c = 2 := by omega
      rcases h with rfl | rfl | rfl <;> simp [convC, sumN, dC] <;> grind
    · have h : c = 0 ∨ c = 1 ∨ c = 2 ∨ c = 3 := by omega
      rcases h with rfl | rfl | rfl | rfl <;> simp [convC, sumN, dC] <;> grind
    · have h : c = 0 ∨ c = 1 ∨ c = 2 ∨ c = 3 ∨ c = 4 := by omega
      rcases h with rfl | rfl | rfl | rfl | rfl <;> simp [convC, sumN, dC] <;> grind
    · have h : c = 0 ∨ c = 1 ∨ c = 2 ∨ c = 3 ∨ c = 4 ∨ c = 5 := by omega
      rcases h with rfl | rfl | rfl | rfl | rfl | rfl <;> simp [convC, sumN, dC] <;> grind
theorem sumN_add (n : Nat) (f g : Nat → Int) : sumN n (fun i => f i + g i) = sumN n f + sumN n g := by
  induction n with
  | zero => rfl
  | succ n ih => simp only [sumN]; rw [ih]; omega
theorem conv_add (m : Nat) (om : Bool) (X Y Z : Nat → Int) (c : Nat) : convC m om (fun i => X i + Y i) Z c = convC m om X Z c + convC m om Y Z c := by
  unfold convC
  rw [← sumN_add]
  refine sumN_congr fun i _ => ?_
  rw [← sumN_add]
  refine sumN_congr fun j _ => ?_
  unfold dC
  rw [Int.add_mul]
  split
  · rfl
  · split <;> omega
theorem times_comm {k p n : Int} {xs ys : List Int} (hr : ringB k p n = true) (hx : ElemV k p n xs) (hy : ElemV k p n ys) : timesL k p xs ys = timesL k p ys xs := by
  have hl : ys.length = xs.length := by have := hx.1; have := hy.1; omega
  by_cases h : high k
  · rw [times_high h, times_high h, hl]
    have ho := high_om hr hx.1
    exact LL_congr fun c hc => by rw [conv_comm ho.1 ho.2 _ _ c hc]
  · rw [times_low hr h, times_low hr h]
    have ha := elem_at hr hx 0
    have hb := elem_at hr hy 0
    generalize xs.getD 0 0 = a at ha
    generalize ys.getD 0 0 = b at hb
    have h1 := or_nat hr ha
    have h2 := or_nat hr hb
    refine congrArg (fun x => [x]) ?_
    unfold timesI
    by_cases c1 : k = 1 ∨ k = 6
    · rw [if_pos c1, if_pos c1, bits_i64_and a b ha.1 h1 hb.1 h2, bits_i64_and b a hb.1 h2 ha.1 h1, Nat.and_comm]
    · rw [if_neg c1, if_neg c1, Int.mul_comm a b, Int.add_comm a b, Int.min_comm a b]
theorem distrI {k p n a b c : Int} (hr : ringB k p n = true) (h : ¬ high k) (ha : 0 ≤ a ∧ a ≤ topI k p n) (hb : 0 ≤ b ∧ b ≤ topI k p n) (hc : 0 ≤ c ∧ c ≤ topI k p n) : timesI k p (plusI k p a b) c = plusI k p (timesI k p a c) (timesI k p b c) := by
  have h1 := or_nat hr ha
  have h2 := or_nat hr hb
  have h3 := or_nat hr hc
  have e1 := plusI_range hr ha hb
  have e2 := timesI_range hr h ha hc
  have e3 := timesI_range hr h hb hc
  have h4 := or_nat hr e1
  have h5 := or_nat hr e2
  have h6 := or_nat hr e3
  have g := ring_cases hr
  unfold high at h
  unfold timesI plusI at *
  by_cases c1 : k = 1 ∨ k = 6
  · simp only [if_pos c1] at *
    rw [bits_i64_and _ c e1.1 h4 hc.1 h3, bits_i64_or _ _ e2.1 h5 e3.1 h6, bits_i64_or a b ha.1 h1 hb.1 h2, bits_i64_and a c ha.1 h1 hc.1 h3, bits_i64_and b c hb.1 h2 hc.1 h3]
    simp only [Int.toNat_natCast]
    first | rw [Nat.and_or_distrib_right] | rw [Nat.or_and_distrib_right]
  · simp only [if_neg c1]
    by_cases c3 : k = 3
    · simp only [if_pos c3]
      rw [min_times (by omega) hc.1 (by omega), Int.add_mul]
      have m1 := Int.mul_nonneg ha.1 hc.1
      have m2 := Int.mul_nonneg hb.1 hc.1
      omega
    · simp only [if_neg c3]
      by_cases c4 : k = 4
      · simp only [if_pos c4]; omega
      · simp only [if_neg c4, if_pos (show k = 5 by omega)]; omega
theorem distr {k p n : Int} {xs ys zs : List Int} (hr : ringB k p n = true) (hx : ElemV k p n xs) (hy : ElemV k p n ys) (hz : ElemV k p n zs) : timesL k p (plusL k p xs ys) zs = plusL k p (timesL k p xs zs) (timesL k p ys zs) := by
  have hl : ys.length = xs.length := by have := hx.1; have := hy.1; omega
  by_cases h : high k
  · have hp : ∀ a b, plusI k p a b = (a + b) % p := fun a b => by unfold high at h; unfold plusI; rw [if_neg (by omega), if_neg (by omega), if_neg (by omega), if_neg (by omega)]
    rw [times_high h, times_high h, times_high h, hl, plus_LL]
    have e1 : plusL k p xs ys = LL xs.length fun i => plusI k p (xs.getD i 0) (ys.getD i 0) := rfl
    rw [e1, LL_len]
    refine LL_congr fun c hc => ?_
    rw [conv_congr (X' := fun i => (xs.getD i 0 + ys.getD i 0) % p) (Y' := fun i => zs.getD i 0) (fun i hi => by rw [LL_at hi, hp]) (fun _ _ => rfl), conv_mod_left, conv_add, hp, Int.emod_add_emod, Int.add_emod_emod]
  · have e : plusL k p xs ys = [plusI k p (xs.getD 0 0) (ys.getD 0 0)] := by
      have hw : xs.length = 1 := by have := hx.1; rw [low_width h] at this; omega
      unfold plusL; rw [hw]; rfl
    rw [times_low hr h, times_low hr h, times_low hr h, e]
    refine Eq.trans (congrArg (fun x => [x]) (distrI hr h (elem_at hr hx 0) (elem_at hr hy 0) (elem_at hr hz 0))) ?_
    unfold plusL
    rfl
theorem times_zero {k p n : Int} {xs : List Int} (hr : ringB k p n = true) (hx : ElemV k p n xs) : timesL k p xs (zeroL k p n) = zeroL k p n := by
  rw [zero_LL hx.1]
  by_cases h : high k
  · rw [times_high h]
    refine LL_congr fun c hc => ?_
    have h4 : ¬ k = 4 := by unfold high at h; omega
    rw [conv_congr (X' := fun i => xs.getD i 0) (Y' := fun _ => 0) (fun _ _ => rfl) (fun i hi => by rw [LL_at hi, if_neg h4]), if_neg h4]
    have : convC xs.length (k == 8) (fun i => xs.getD i 0) (fun _ => 0) c = 0 := by
      unfold convC
      have z : ∀ n : Nat, sumN n (fun _ => 0) = 0 := fun n => by
        induction n with
        | zero => rfl
        | succ n ih => simp only [sumN]; rw [ih]; rfl
      rw [sumN_congr (g := fun _ => 0) (fun i _ => by
        rw [sumN_congr (g := fun _ => 0) (fun j _ => by unfold dC; simp), z]), z]
    rw [this]; simp
  · have hw : xs.length = 1 := by have := hx.1; rw [low_width h] at this; omega
    rw [times_low hr h, hw]
    have ha := elem_at hr hx 0
    rw [LL_at (by omega)]
    generalize xs.getD 0 0 = a at ha
    have h1 := or_nat hr ha
    have g := ring_cases hr
    have ht : k = 3 ∨ k = 4 ∨ k = 5 → topI k p n = p := fun hk => by unfold topI; rw [if_neg (by omega), if_neg (by omega), if_neg (by omega)]
    unfold high at h
    show [_] = [_]
    refine congrArg (fun x => [x]) ?_
    show timesI k p a (if k = 4 then p else 0) = (if k = 4 then p else 0)
    unfold timesI
    by_cases c1 : k = 1 ∨ k = 6
    · rw [if_pos c1, if_neg (by omega), bits_i64_and a 0 ha.1 h1 (by omega) (by omega)]; simp
    · rw [if_neg c1]
      by_cases c3 : k = 3
      · rw [if_pos c3, if_neg (by omega), Int.mul_zero]; omega
      · rw [if_neg c3]
        by_cases c4 : k = 4
        · rw [if_pos c4, if_pos c4]; omega
        · rw [if_neg c4, if_neg c4]; omega
theorem cntI_range {k p n : Int} (hr : ringB k p n = true) (c : Nat) : 0 ≤ cntI k p n c ∧ cntI k p n c ≤ topI k p n := by
  have h := elem_at hr (count_elem hr c) 0
  have hw := ring_width hr
  rw [countL, LL_at (by omega)] at h
  exact h
theorem count_times {k p n : Int} (hr : ringB k p n = true) (a b : Nat) : timesL k p (countL k p n a) (countL k p n b) = countL k p n (a * b) := by
  have g := ring_cases hr
  have hw0 := ring_width hr
  have ht := ring_top hr
  obtain ⟨m, hm⟩ : ∃ m : Nat, (m : Int) = widthI k n := ⟨(widthI k n).toNat, by omega⟩
  have hmm : (widthI k n).toNat = m := by omega
  unfold countL
  rw [hmm]
  by_cases h : high k
  · rw [times_high h, LL_len]
    have hm6 : m ≤ 6 := by omega
    refine LL_congr fun c hc => ?_
    rw [conv_congr (X' := fun i => if i = 0 then cntI k p n a else 0) (Y' := fun i => if i = 0 then cntI k p n b else 0) (fun i hi => LL_at hi) (fun i hi => LL_at hi)]
    have e : convC m (k == 8) (fun i => if i = 0 then cntI k p n a else 0) (fun i => if i = 0 then cntI k p n b else 0) c = if c = 0 then cntI k p n a * cntI k p n b else 0 := by
      have hms : m = 1 ∨ m = 2 ∨ m = 3 ∨ m = 4 ∨ m = 5 ∨ m = 6 := by omega
      generalize cntI k p n a = A
      generalize cntI k p n b = B
      generalize (k == 8) = om
      rcases hms with rfl | rfl | rfl | rfl | rfl | rfl
      · obtain rfl : c = 0 := by omega
        cases om <;> simp [convC, sumN, dC]
      · have h : c = 0 ∨ c = 1 := by omega
        rcases h with rfl | rfl <;> cases om <;> simp [convC, sumN, dC]
      · have h : c = 0 ∨ c = 1 ∨ c = 2 := by omega
        rcases h with rfl | rfl | rfl <;> cases om <;> simp [convC, sumN, dC]
      · have h : c = 0 ∨ c = 1 ∨ c = 2 ∨ c = 3 := by omega
        rcases h with rfl | rfl | rfl | rfl <;> cases om <;> simp [convC, sumN, dC]
      · have h : c = 0 ∨ c = 1 ∨ c = 2 ∨ c = 3 ∨ c = 4 := by omega
        rcases h with rfl | rfl | rfl | rfl | rfl <;> cases om <;> simp [convC, sumN, dC]
      · have h : c = 0 ∨ c = 1 ∨ c = 2 ∨ c = 3 ∨ c = 4 ∨ c = 5 := by omega
        rcases h with rfl | rfl | rfl | rfl | rfl | rfl <;> cases om <;> simp [convC, sumN, dC]
    rw [e]
    have hc2 : ∀ q : Nat, cntI k p n q = (q : Int) % p := fun q => by
      unfold high at h
      unfold cntI
      rw [if_neg (by omega), if_neg (by omega), if_neg (by omega), if_neg (by omega)]
    by_cases h0 : c = 0
    · rw [if_pos h0, if_pos h0, hc2, hc2, hc2, ← Int.mul_emod]; simp
    · simp [h0]
  · have hm1 : m = 1 := by rw [low_width h] at hm; omega
    subst hm1
    rw [times_low hr h, LL_at (by omega), LL_at (by omega)]
    show [_] = [_]
    refine congrArg (fun x => [x]) ?_
    simp only [if_true]
    have ha := cntI_range hr a
    have hb := cntI_range hr b
    unfold high at h
    by_cases c1 : k = 1 ∨ k = 6
    · have e1 : ∀ q : Nat, cntI k p n q = if q = 0 then 0 else topI k p n := fun q => by
        rcases c1 with c1 | c1
        · unfold cntI topI; rw [if_pos c1, if_pos c1]
        · unfold cntI; rw [if_neg (by omega), if_neg (by omega), if_neg (by omega), if_pos (by omega)]
      have h1 := or_nat hr ha
      have h2 := or_nat hr hb
      unfold timesI
      rw [if_pos c1, bits_i64_and _ _ ha.1 h1 hb.1 h2, e1, e1, e1]
      by_cases a0 : a = 0
      · simp [a0]
      · by_cases b0 : b = 0
        · simp [b0]
        · have ab : ¬ a * b = 0 := Nat.mul_ne_zero a0 b0
          rw [if_neg a0, if_neg b0, if_neg ab, Nat.and_self]; omega
    · by_cases c3 : k = 3
      · have e1 : ∀ q : Nat, cntI k p n q = min (q : Int) p := fun q => by unfold cntI; rw [if_neg (by omega), if_pos c3]
        unfold timesI
        rw [if_neg c1, if_pos c3, e1, e1, e1, min_times (by omega) (by omega) (by omega), Int.mul_comm (a : Int) (min (b : Int) p), min_times (by omega) (by omega) (by omega), Int.mul_comm (b : Int) (a : Int)]
        simp
      · by_cases c4 : k = 4
        · have e1 : ∀ q : Nat, cntI k p n q = if q = 0 then p else 0 := fun q => by unfold cntI; rw [if_neg (by omega), if_neg (by omega), if_pos c4]
          unfold timesI
          rw [if_neg c1, if_neg c3, if_pos c4, e1, e1, e1]
          by_cases a0 : a = 0
          · simp [a0]; by_cases b0 : b = 0 <;> simp [b0] <;> omega
          · by_cases b0 : b = 0
            · simp [a0, b0]
            · have ab : ¬ a * b = 0 := Nat.mul_ne_zero a0 b0
              rw [if_neg a0, if_neg b0, if_neg ab]; omega
        · have e1 : ∀ q : Nat, cntI k p n q = if q = 0 then 0 else topI k p n := fun q => by unfold cntI; rw [if_neg (by omega), if_neg (by omega), if_neg (by omega), if_pos (by omega)]
          unfold timesI
          rw [if_neg c1, if_neg c3, if_neg c4, e1, e1, e1]
          by_cases a0 : a = 0
          · simp [a0]; by_cases b0 : b = 0 <;> simp [b0] <;> omega
          · by_cases b0 : b = 0
            · simp [a0, b0]; omega
            · have ab : ¬ a * b = 0 := Nat.mul_ne_zero a0 b0
              rw [if_neg a0, if_neg b0, if_neg ab]; omega
end Go.Proofs.Ytjoddheakjndfaa
