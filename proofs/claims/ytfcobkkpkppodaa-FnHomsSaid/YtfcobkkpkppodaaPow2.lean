
/- Products in a ring: elements stay elements, the one, associativity, powers. -/
import Derived.Test.YtfcobkkpkppodaaPow
namespace Go.Proofs.Ytfcobkkpkppodaa
set_option maxRecDepth 20000
open Go

theorem sumN_congr {n : Nat} {f g : Nat → Int} (h : ∀ i, i < n → f i = g i) : sumN n f = sumN n g := by
  induction n with
  | zero => rfl
  | succ n ih => simp only [sumN]; rw [ih (fun i hi => h i (by omega)), h n (by omega)]
theorem sumN_mod {n : Nat} {f g : Nat → Int} {p : Int} (h : ∀ i, f i % p = g i % p) : sumN n f % p = sumN n g % p := by
  induction n with
  | zero => rfl
  | succ n ih => simp only [sumN]; rw [Int.add_emod, ih, h n, ← Int.add_emod]
theorem conv_congr {m : Nat} {om : Bool} {X X' Y Y' : Nat → Int} (hx : ∀ i, i < m → X i = X' i) (hy : ∀ i, i < m → Y i = Y' i) (c : Nat) : convC m om X Y c = convC m om X' Y' c :=
  sumN_congr fun i hi => sumN_congr fun j hj => by unfold dC; rw [hx i hi, hy j hj]
theorem mul_mod_left (a b p : Int) : (a % p * b) % p = (a * b) % p := by rw [Int.mul_emod, Int.emod_emod, ← Int.mul_emod]
theorem mul_mod_right (a b p : Int) : (a * (b % p)) % p = (a * b) % p := by rw [Int.mul_emod, Int.emod_emod, ← Int.mul_emod]
theorem neg_mod {a b p : Int} (h : a % p = b % p) : (-a) % p = (-b) % p := by
  have h1 : p ∣ a - b := Int.dvd_of_emod_eq_zero (Int.emod_eq_emod_iff_emod_sub_eq_zero.1 h)
  refine Int.emod_eq_emod_iff_emod_sub_eq_zero.2 (Int.emod_eq_zero_of_dvd ?_)
  rw [show -a - -b = -(a - b) from by omega]
  exact Int.dvd_neg.2 h1
theorem conv_mod_left (m : Nat) (om : Bool) (X Y : Nat → Int) (p : Int) (c : Nat) : convC m om (fun i => X i % p) Y c % p = convC m om X Y c % p :=
  sumN_mod fun i => sumN_mod fun j => by
    unfold dC
    split
    · exact mul_mod_left _ _ _
    · split
      · exact neg_mod (mul_mod_left _ _ _)
      · rfl
theorem conv_mod_right (m : Nat) (om : Bool) (X Y : Nat → Int) (p : Int) (c : Nat) : convC m om X (fun i => Y i % p) c % p = convC m om X Y c % p :=
  sumN_mod fun i => sumN_mod fun j => by
    unfold dC
    split
    · exact mul_mod_right _ _ _
    · split
      · exact neg_mod (mul_mod_right _ _ _)
      · rfl
theorem conv_assoc {m : Nat} {om : Bool} (hm : m ≤ 6) (h4 : om = true → m = 4) (X Y Z : Nat → Int) (c : Nat) (hc : c < m) : convC m om (convC m om X Y) Z c = convC m om X (convC m om Y Z) c := by
  cases om with
  | true =>
    obtain rfl := h4 rfl
    have h : c = 0 ∨ c = 1 ∨ c = 2 ∨ c = 3 := by omega
    rcases h with rfl | rfl | rfl | rfl <;> simp [convC, sumN, dC] <;> grind
  | false =>
    have h : m = 0 ∨ m = 1 ∨ m = 2 ∨ m = 3 ∨ m = 4 ∨ m = 5 ∨ m = 6 := by omega
    rcases h with rfl | rfl | rfl | rfl | rfl | rfl | rfl
    · omega
    · obtain rfl : c = 0 := by omega
      simp [convC, sumN, dC]; grind
    · have h : c = 0 ∨ c = 1 := by omega
      rcases h with rfl | rfl <;> simp [convC, sumN, dC] <;> grind
    · have h : c = 0 ∨ c = 1 ∨ c = 2 := by omega
      rcases h with rfl | rfl | rfl <;> simp [convC, sumN, dC] <;> grind
    · have h : c = 0 ∨ c = 1 ∨ c = 2 ∨ c = 3 := by omega
      rcases h with rfl | rfl | rfl | rfl <;> simp [convC, sumN, dC] <;> grind
    · have h : c = 0 ∨ c = 1 ∨ c = 2 ∨ c = 3 ∨ c = 4 := by omega
      rcases h with rfl | rfl | rfl | rfl | rfl <;> simp [convC, sumN, dC] <;> grind
    · have h : c = 0 ∨ c = 1 ∨ c = 2 ∨ c = 3 ∨ c = 4 ∨ c = 5 := by omega
      rcases h with rfl | rfl | rfl | rfl | rfl | rfl <;> simp [convC, sumN, dC] <;> grind
theorem conv_one {m : Nat} {om : Bool} (hm : m ≤ 6) (X : Nat → Int) (c : Nat) (hc : c < m) : convC m om X (fun i => if i = 0 then 1 else 0) c = X c ∧ convC m om (fun i => if i = 0 then 1 else 0) X c = X c := by
  have h : m = 0 ∨ m = 1 ∨ m = 2 ∨ m = 3 ∨ m = 4 ∨ m = 5 ∨ m = 6 := by omega
  rcases h with rfl | rfl | rfl | rfl | rfl | rfl | rfl
  · omega
  · obtain rfl : c = 0 := by omega
    simp [convC, sumN, dC]
  · have h : c = 0 ∨ c = 1 := by omega
    rcases h with rfl | rfl <;> cases om <;> simp [convC, sumN, dC]
  · have h : c = 0 ∨ c = 1 ∨ c = 2 := by omega
    rcases h with rfl | rfl | rfl <;> cases om <;> simp [convC, sumN, dC]
  · have h : c = 0 ∨ c = 1 ∨ c = 2 ∨ c = 3 := by omega
    rcases h with rfl | rfl | rfl | rfl <;> cases om <;> simp [convC, sumN, dC]
  · have h : c = 0 ∨ c = 1 ∨ c = 2 ∨ c = 3 ∨ c = 4 := by omega
    rcases h with rfl | rfl | rfl | rfl | rfl <;> cases om <;> simp [convC, sumN, dC]
  · have h : c = 0 ∨ c = 1 ∨ c = 2 ∨ c = 3 ∨ c = 4 ∨ c = 5 := by omega
    rcases h with rfl | rfl | rfl | rfl | rfl | rfl <;> cases om <;> simp [convC, sumN, dC]

def high (k : Int) : Prop := k = 2 ∨ k = 7 ∨ k = 8
theorem times_high {k p : Int} (h : high k) (xs ys : List Int) : timesL k p xs ys = LL xs.length fun c => convC xs.length (k == 8) (fun i => xs.getD i 0) (fun i => ys.getD i 0) c % p := by
  unfold high at h
  unfold timesL
  rw [if_neg (by omega), if_neg (by omega), if_neg (by omega), if_neg (by omega)]
  rfl
/-- The product of two one-integer elements in the rings that are no polynomials. -/
def timesI (k p a b : Int) : Int := if k = 1 ∨ k = 6 then bits .and .i64 a b else if k = 3 then min (a * b) p else if k = 4 then min (a + b) p else min a b
theorem times_low {k p n : Int} (hr : ringB k p n = true) (h : ¬ high k) (xs ys : List Int) : timesL k p xs ys = [timesI k p (xs.getD 0 0) (ys.getD 0 0)] := by
  have h2 := ring_cases hr
  unfold high at h
  unfold timesL timesI
  by_cases h1 : k = 1 ∨ k = 6
  · rw [if_pos h1, if_pos h1]
  · rw [if_neg h1, if_neg h1]
    by_cases h3 : k = 3
    · rw [if_pos h3, if_pos h3]
    · rw [if_neg h3, if_neg h3]
      by_cases h4 : k = 4
      · rw [if_pos h4, if_pos h4]
      · rw [if_neg h4, if_neg h4, if_pos (by omega)]
theorem low_width {k n : Int} (h : ¬ high k) : widthI k n = 1 := by
  unfold high at h
  unfold widthI
  rw [if_neg (by omega), if_neg (by omega)]
theorem low_form {k p n : Int} {xs : List Int} (h : ¬ high k) (hx : ElemV k p n xs) : xs = [xs.getD 0 0] := by
  have h1 := hx.1
  rw [low_width h] at h1
  match xs, h1 with
  | [a], _ => rfl
theorem timesI_range {k p n a b : Int} (hr : ringB k p n = true) (h : ¬ high k) (ha : 0 ≤ a ∧ a ≤ topI k p n) (hb : 0 ≤ b ∧ b ≤ topI k p n) : 0 ≤ timesI k p a b ∧ timesI k p a b ≤ topI k p n := by
  have ht := ring_top hr
  have h2 := ring_cases hr
  unfold high at h
  have hp : k = 3 ∨ k = 4 ∨ k = 5 → topI k p n = p := fun hk => by unfold topI; rw [if_neg (by omega), if_neg (by omega), if_neg (by omega)]
  unfold timesI
  by_cases h1 : k = 1 ∨ k = 6
  · rw [if_pos h1]; exact and_small ha.1 ha.2 hb.1 hb.2 ht.2
  · rw [if_neg h1]
    have hm := Int.mul_nonneg ha.1 hb.1
    by_cases h3 : k = 3
    · rw [if_pos h3]; have := hp (by omega); omega
    · rw [if_neg h3]
      by_cases h4 : k = 4
      · rw [if_pos h4]; have := hp (by omega); omega
      · rw [if_neg h4]; omega
theorem timesL_elem {k p n : Int} {xs ys : List Int} (hr : ringB k p n = true) (hx : ElemV k p n xs) (hy : ElemV k p n ys) : ElemV k p n (timesL k p xs ys) := by
  by_cases h : high k
  · rw [times_high h]
    have h2 := ring_cases hr
    refine LL_elem hx.1 fun i _ => ?_
    have ht : topI k p n = p - 1 := by unfold topI; unfold high at h; rw [if_neg (by omega), if_neg (by omega), if_pos (by omega)]
    unfold high at h
    exact ⟨Int.emod_nonneg _ (by omega), by rw [ht]; have := Int.emod_lt_of_pos (convC xs.length (k == 8) (fun i => xs.getD i 0) (fun i => ys.getD i 0) i) (show 0 < p by omega); omega⟩
  · rw [times_low hr h]
    refine ⟨by rw [low_width h]; rfl, fun x hx' => ?_⟩
    rw [List.mem_singleton] at hx'
    subst hx'
    exact timesI_range hr h (elem_at hr hx 0) (elem_at hr hy 0)
theorem min_times {u c p : Int} (hu : 0 ≤ u) (hc : 0 ≤ c) (hp : 0 ≤ p) : min (min u p * c) p = min (u * c) p := by
  by_cases h : u ≤ p
  · rw [show min u p = u from by omega]
  · rw [show min u p = p from by omega]
    by_cases h0 : c = 0
    · subst h0; simp
    · have h1 : p * 1 ≤ p * c := Int.mul_le_mul_of_nonneg_left (by omega) hp
      have h2 : u * 1 ≤ u * c := Int.mul_le_mul_of_nonneg_left (by omega) hu
      omega
theorem timesI_assoc {k p n a b c : Int} (hr : ringB k p n = true) (ha : 0 ≤ a ∧ a ≤ topI k p n) (hb : 0 ≤ b ∧ b ≤ topI k p n) (hc : 0 ≤ c ∧ c ≤ topI k p n) : timesI k p (timesI k p a b) c = timesI k p a (timesI k p b c) := by
  have ht := ring_top hr
  have h2 := ring_cases hr
  unfold timesI
  by_cases h1 : k = 1 ∨ k = 6
  · simp only [if_pos h1]
    have e1 := and_small ha.1 ha.2 hb.1 hb.2 ht.2
    have e2 := and_small hb.1 hb.2 hc.1 hc.2 ht.2
    rw [bits_i64_and _ c e1.1 (by omega) hc.1 (by omega), bits_i64_and a _ ha.1 (by omega) e2.1 (by omega), bits_i64_and a b ha.1 (by omega) hb.1 (by omega), bits_i64_and b c hb.1 (by omega) hc.1 (by omega)]
    simp [Nat.and_assoc]
  · simp only [if_neg h1]
    by_cases h3 : k = 3
    · simp only [if_pos h3]
      rw [min_times (Int.mul_nonneg ha.1 hb.1) hc.1 (by omega), Int.mul_comm a (min (b * c) p), min_times (Int.mul_nonneg hb.1 hc.1) ha.1 (by omega)]
      rw [show b * c * a = a * b * c from by rw [Int.mul_comm (b * c) a, Int.mul_assoc]]
    · simp only [if_neg h3]
      by_cases h4 : k = 4
      · simp only [if_pos h4]; omega
      · simp only [if_neg h4]; omega
theorem high_om {k p n : Int} {m : Nat} (hr : ringB k p n = true) (hm : (m : Int) = widthI k n) : m ≤ 6 ∧ ((k == 8) = true → m = 4) := by
  have := ring_width hr
  refine ⟨by omega, fun h => ?_⟩
  have h8 : k = 8 := by simpa using h
  have hw : widthI k n = 4 := by rw [h8]; rfl
  omega
theorem times_assoc {k p n : Int} {xs ys zs : List Int} (hr : ringB k p n = true) (hx : ElemV k p n xs) (hy : ElemV k p n ys) (hz : ElemV k p n zs) : timesL k p (timesL k p xs ys) zs = timesL k p xs (timesL k p ys zs) := by
  by_cases h : high k
  · obtain ⟨m, hm⟩ : ∃ m, m = xs.length := ⟨_, rfl⟩
    have hw : (m : Int) = widthI k n := by rw [hm]; exact hx.1
    have ho := high_om hr hw
    have ly := elem_len hw hy
    simp only [times_high h, LL_len, ← hm, ly]
    refine LL_congr fun c hc => ?_
    rw [conv_congr (X' := fun i => convC m (k == 8) (fun i => xs.getD i 0) (fun i => ys.getD i 0) i % p) (Y' := fun i => zs.getD i 0) (fun i hi => LL_at hi) (fun _ _ => rfl), conv_mod_left]
    rw [conv_congr (X := fun i => xs.getD i 0) (X' := fun i => xs.getD i 0) (Y' := fun i => convC m (k == 8) (fun i => ys.getD i 0) (fun i => zs.getD i 0) i % p) (fun _ _ => rfl) (fun i hi => LL_at hi), conv_mod_right]
    rw [conv_assoc ho.1 ho.2 _ _ _ c hc]
  · rw [times_low hr h, times_low hr h, times_low hr h, times_low hr h]
    exact congrArg (fun x => [x]) (timesI_assoc hr (elem_at hr hx 0) (elem_at hr hy 0) (elem_at hr hz 0))
theorem one_high {k p n : Int} (h : high k) {m : Nat} (hm : (m : Int) = widthI k n) : oneL k p n = LL m fun i => if i = 0 then 1 else 0 := by
  unfold high at h
  unfold oneL
  rw [← hm]
  refine LL_congr fun i _ => ?_
  rw [if_neg (show ¬(k = 5 ∨ k = 6) by omega), if_neg (show ¬ k = 4 by omega)]
theorem one_low {k p n : Int} (h : ¬ high k) : oneL k p n = [if k = 5 ∨ k = 6 then topI k p n else if k = 4 then 0 else 1] := by
  unfold oneL
  rw [low_width h]
  rfl
theorem times_one {k p n : Int} {xs : List Int} (hr : ringB k p n = true) (hx : ElemV k p n xs) : timesL k p xs (oneL k p n) = xs ∧ timesL k p (oneL k p n) xs = xs := by
  have ht := ring_top hr
  have h2 := ring_cases hr
  by_cases h : high k
  · obtain ⟨m, hm⟩ : ∃ m, m = xs.length := ⟨_, rfl⟩
    have hw : (m : Int) = widthI k n := by rw [hm]; exact hx.1
    have ho := high_om hr hw
    have htp : topI k p n = p - 1 := by unfold topI; unfold high at h; rw [if_neg (by omega), if_neg (by omega), if_pos (by omega)]
    have key : ∀ c, c < m → xs.getD c 0 % p = xs.getD c 0 := fun c _ => by
      have := elem_at hr hx c
      exact Int.emod_eq_of_lt this.1 (by omega)
    have e : xs = LL m fun i => xs.getD i 0 := by rw [hm]; exact LL_of xs
    rw [times_high h, times_high h, one_high h hw, LL_len, ← hm]
    constructor
    · refine Eq.trans (LL_congr fun c hc => ?_) e.symm
      rw [conv_congr (X' := fun i => xs.getD i 0) (Y' := fun i => if i = 0 then 1 else 0) (fun _ _ => rfl) (fun i hi => LL_at hi), (conv_one ho.1 _ c hc).1, key c hc]
    · refine Eq.trans (LL_congr fun c hc => ?_) e.symm
      rw [conv_congr (X' := fun i => if i = 0 then 1 else 0) (Y' := fun i => xs.getD i 0) (fun i hi => LL_at hi) (fun _ _ => rfl), (conv_one ho.1 _ c hc).2, key c hc]
  · have e := low_form h hx
    have g := elem_at hr hx 0
    have key : ∀ u : Int, u = (if k = 5 ∨ k = 6 then topI k p n else if k = 4 then 0 else 1) → timesI k p (xs.getD 0 0) u = xs.getD 0 0 ∧ timesI k p u (xs.getD 0 0) = xs.getD 0 0 := by
      intro u hu
      generalize xs.getD 0 0 = a at g
      unfold high at h
      unfold timesI
      by_cases h1 : k = 1 ∨ k = 6
      · simp only [if_pos h1]
        rcases h1 with h1 | h1
        · have hu1 : u = 1 := by rw [hu, if_neg (by omega), if_neg (by omega)]
          have ht1 : topI k p n = 1 := by unfold topI; rw [if_pos h1]
          have ha : a = 0 ∨ a = 1 := by omega
          rcases ha with rfl | rfl <;> rw [hu1] <;> exact ⟨rfl, rfl⟩
        · have hu1 : u = topI k p n := by rw [hu, if_pos (by omega)]
          have htt : topI k p n = 2 ^ n.toNat - 1 := by unfold topI; rw [if_neg (by omega), if_pos h1]
          have hn : a.toNat &&& u.toNat = a.toNat := by
            have e2 : u.toNat = 2 ^ n.toNat - 1 := by
              rw [hu1, htt]
              have : ((2 : Int) ^ n.toNat) = ((2 ^ n.toNat : Nat) : Int) := by simp
              omega
            have e3 : a.toNat < 2 ^ n.toNat := by
              have : ((2 : Int) ^ n.toNat) = ((2 ^ n.toNat : Nat) : Int) := by simp
              omega
            rw [e2, Nat.and_two_pow_sub_one_eq_mod]
            exact Nat.mod_eq_of_lt e3
          rw [bits_i64_and a u g.1 (by omega) (by omega) (by omega), bits_i64_and u a (by omega) (by omega) g.1 (by omega), Nat.and_comm u.toNat, hn]
          omega
      · simp only [if_neg h1]
        have hp : k = 3 ∨ k = 4 ∨ k = 5 → topI k p n = p := fun hk => by unfold topI; rw [if_neg (by omega), if_neg (by omega), if_neg (by omega)]
        by_cases h3 : k = 3
        · have hu1 : u = 1 := by rw [hu, if_neg (by omega), if_neg (by omega)]
          have := hp (by omega)
          simp only [if_pos h3, hu1, Int.mul_one, Int.one_mul]; omega
        · simp only [if_neg h3]
          by_cases h4 : k = 4
          · have hu1 : u = 0 := by rw [hu, if_neg (by omega), if_pos h4]
            have := hp (by omega)
            simp only [if_pos h4]; omega
          · have hu1 : u = topI k p n := by rw [hu, if_pos (by omega)]
            simp only [if_neg h4]; omega
    rw [times_low hr h, times_low hr h, one_low h]
    obtain ⟨k1, k2⟩ := key _ rfl
    constructor
    · refine Eq.trans ?_ e.symm; exact congrArg (fun x => [x]) k1
    · refine Eq.trans ?_ e.symm; exact congrArg (fun x => [x]) k2

/-- The product of c times xs. -/
def powL (k p n : Int) (xs : List Int) (c : Nat) : List Int := match c with
  | 0 => oneL k p n
  | c + 1 => timesL k p (powL k p n xs c) xs
theorem pow_elem {k p n : Int} {xs : List Int} (hr : ringB k p n = true) (hx : ElemV k p n xs) (c : Nat) : ElemV k p n (powL k p n xs c) := by
  induction c with
  | zero => exact oneL_elem hr
  | succ c ih => exact timesL_elem hr ih hx
theorem pow_one {k p n : Int} {xs : List Int} (hr : ringB k p n = true) (hx : ElemV k p n xs) : powL k p n xs 1 = xs := (times_one hr hx).2
theorem pow_times {k p n : Int} {xs : List Int} (hr : ringB k p n = true) (hx : ElemV k p n xs) (a b : Nat) : timesL k p (powL k p n xs a) (powL k p n xs b) = powL k p n xs (a + b) := by
  induction b with
  | zero => exact (times_one hr (pow_elem hr hx a)).1
  | succ b ih =>
    show timesL k p (powL k p n xs a) (timesL k p (powL k p n xs b) xs) = timesL k p (powL k p n xs (a + b)) xs
    rw [← times_assoc hr (pow_elem hr hx a) (pow_elem hr hx b) hx, ih]
end Go.Proofs.Ytfcobkkpkppodaa
