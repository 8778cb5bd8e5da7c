
/- Products of polynomials as plain mathematics: coefficient by coefficient, step by step. -/
import Derived.Test.YtdheakjjnaifkaaRing
namespace Go.Proofs.Ytdheakjjnaifkaa
set_option maxRecDepth 20000
open Go

def sumN (n : Nat) (f : Nat → Int) : Int := match n with
  | 0 => 0
  | n + 1 => sumN n f + f n
/-- What the pair (i, j) brings to coefficient c: in w coefficients, with w^4 = -1 where om. -/
def dC (w : Nat) (om : Bool) (X Y : Nat → Int) (i j c : Nat) : Int := if i + j = c then X i * Y j else if om = true ∧ i + j = c + w then -(X i * Y j) else 0
def accC (w : Nat) (om : Bool) (X Y : Nat → Int) (i j c : Nat) : Int := sumN i (fun i' => sumN w fun j' => dC w om X Y i' j' c) + sumN j fun j' => dC w om X Y i j' c
def convC (w : Nat) (om : Bool) (X Y : Nat → Int) (c : Nat) : Int := sumN w fun i => sumN w fun j => dC w om X Y i j c
theorem acc_zero (w : Nat) (om : Bool) (X Y : Nat → Int) (c : Nat) : accC w om X Y 0 0 c = 0 := rfl
theorem acc_row (w : Nat) (om : Bool) (X Y : Nat → Int) (i c : Nat) : accC w om X Y (i + 1) 0 c = accC w om X Y i w c := by
  simp [accC, sumN]
theorem acc_end (w : Nat) (om : Bool) (X Y : Nat → Int) (c : Nat) : accC w om X Y w 0 c = convC w om X Y c := by
  simp [accC, sumN, convC]
theorem acc_step (w : Nat) (om : Bool) (X Y : Nat → Int) (i j c : Nat) : accC w om X Y i (j + 1) c = accC w om X Y i j c + dC w om X Y i j c := by
  simp [accC, sumN, Int.add_assoc]
theorem dC_at (w : Nat) (om : Bool) (X Y : Nat → Int) (i j : Nat) : dC w om X Y i j (i + j) = X i * Y j := by simp [dC]
theorem dC_wrap (w : Nat) (X Y : Nat → Int) {i j c : Nat} (h : i + j = c + w) (hc : c < w) : dC w true X Y i j c = -(X i * Y j) := by
  unfold dC
  rw [if_neg (by omega), if_pos ⟨rfl, h⟩]
theorem dC_off (w : Nat) (om : Bool) (X Y : Nat → Int) {i j c : Nat} (h : i + j ≠ c) (h2 : om = true → i + j ≠ c + w) : dC w om X Y i j c = 0 := by
  unfold dC
  rw [if_neg h, if_neg (fun g => h2 g.1 g.2)]
theorem sumN_bound (M : Int) (f : Nat → Int) (h : ∀ i, -M ≤ f i ∧ f i ≤ M) : ∀ n : Nat, -(n * M) ≤ sumN n f ∧ sumN n f ≤ n * M := by
  intro n
  induction n with
  | zero => simp [sumN]
  | succ n ih =>
    have h1 := h n
    have e : ((n + 1 : Nat) : Int) * M = n * M + M := by rw [Int.natCast_add, Int.add_mul]; simp
    rw [e]
    simp only [sumN]
    omega
theorem mul_small {a b : Int} (h1 : 0 ≤ a) (h2 : a ≤ 1048576) (h3 : 0 ≤ b) (h4 : b ≤ 1048576) : 0 ≤ a * b ∧ a * b ≤ 1099511627776 := by
  have e1 : 0 ≤ a * b := Int.mul_nonneg h1 h3
  have e2 : a * b ≤ 1048576 * 1048576 := Int.mul_le_mul h2 h4 h3 (by omega)
  omega
theorem dC_bound {w : Nat} {om : Bool} {X Y : Nat → Int} (hX : ∀ i, 0 ≤ X i ∧ X i ≤ 1048576) (hY : ∀ i, 0 ≤ Y i ∧ Y i ≤ 1048576) (i j c : Nat) : -1099511627776 ≤ dC w om X Y i j c ∧ dC w om X Y i j c ≤ 1099511627776 := by
  have h := mul_small (hX i).1 (hX i).2 (hY j).1 (hY j).2
  unfold dC
  split
  · omega
  · split <;> omega
theorem acc_bound {w : Nat} {om : Bool} {X Y : Nat → Int} (hX : ∀ i, 0 ≤ X i ∧ X i ≤ 1048576) (hY : ∀ i, 0 ≤ Y i ∧ Y i ≤ 1048576) {i j : Nat} (c : Nat) (hw : w ≤ 6) (hi : i ≤ 6) (hj : j ≤ 6) : -50000000000000 ≤ accC w om X Y i j c ∧ accC w om X Y i j c ≤ 50000000000000 := by
  have h1 := sumN_bound 1099511627776 (fun j' => dC w om X Y i j' c) (fun j' => dC_bound hX hY i j' c) j
  have h2 := sumN_bound (6 * 1099511627776) (fun i' => sumN w fun j' => dC w om X Y i' j' c) (fun i' => by
    have := sumN_bound 1099511627776 (fun j' => dC w om X Y i' j' c) (fun j' => dC_bound hX hY i' j' c) w
    omega) i
  unfold accC
  omega
theorem mapRange_set {w c : Nat} {f g : Nat → Int} {v : Int} (h1 : g c = v) (h2 : ∀ d, d < w → d ≠ c → g d = f d) : ((List.range w).map f).set c v = (List.range w).map g := by
  apply List.ext_getElem (by simp)
  intro i h3 h4
  simp only [List.getElem_set, List.getElem_map, List.getElem_range]
  have hi : i < w := by simpa using h4
  by_cases e : c = i
  · subst e; rw [if_pos rfl, h1]
  · rw [if_neg e, h2 i hi (fun x => e x.symm)]
theorem mapRange_congr {w : Nat} {f g : Nat → Int} (h : ∀ d, d < w → g d = f d) : (List.range w).map f = (List.range w).map g := by
  apply List.ext_getElem (by simp)
  intro i h3 h4
  have hi : i < w := by simpa using h4
  simp only [List.getElem_map, List.getElem_range]
  rw [h i hi]
/-- One step of the unreduced sums, as the list is written. -/
theorem acc_set_at {w i j : Nat} {om : Bool} {X Y : Nat → Int} (h : i + j < w) : ((List.range w).map (accC w om X Y i j)).set (i + j) (accC w om X Y i j (i + j) + X i * Y j) = (List.range w).map (accC w om X Y i (j + 1)) :=
  mapRange_set (by rw [acc_step, dC_at]) (fun d hd hne => by rw [acc_step, dC_off w om X Y (fun e => hne e.symm) (fun _ => by omega)]; simp)
theorem acc_set_wrap {w i j : Nat} {X Y : Nat → Int} (h : w ≤ i + j) (h2 : i + j < w + w) : ((List.range w).map (accC w true X Y i j)).set (i + j - w) (accC w true X Y i j (i + j - w) - X i * Y j) = (List.range w).map (accC w true X Y i (j + 1)) :=
  mapRange_set (by rw [acc_step, dC_wrap w X Y (by omega) (by omega)]; omega) (fun d hd hne => by rw [acc_step, dC_off w true X Y (by omega) (fun _ => by omega)]; simp)
theorem acc_set_none {w i j : Nat} {X Y : Nat → Int} (h : w ≤ i + j) : (List.range w).map (accC w false X Y i j) = (List.range w).map (accC w false X Y i (j + 1)) :=
  mapRange_congr (fun d hd => by rw [acc_step, dC_off w false X Y (by omega) (fun h => by cases h)]; simp)
/-- The same of the sums that are reduced at each step. -/
theorem red_set_at {w i j : Nat} {om : Bool} {X Y : Nat → Int} {p : Int} (h : i + j < w) : ((List.range w).map fun c => accC w om X Y i j c % p).set (i + j) ((accC w om X Y i j (i + j) % p + X i * Y j) % p) = (List.range w).map fun c => accC w om X Y i (j + 1) c % p :=
  mapRange_set (by rw [acc_step, dC_at, Int.emod_add_emod]) (fun d hd hne => by rw [acc_step, dC_off w om X Y (fun e => hne e.symm) (fun _ => by omega)]; simp)
theorem red_set_wrap {w i j : Nat} {X Y : Nat → Int} {p : Int} (h : w ≤ i + j) (h2 : i + j < w + w) : ((List.range w).map fun c => accC w true X Y i j c % p).set (i + j - w) ((accC w true X Y i j (i + j - w) % p + (p - X i) * Y j) % p) = (List.range w).map fun c => accC w true X Y i (j + 1) c % p :=
  mapRange_set (by
    rw [acc_step, dC_wrap w X Y (by omega) (by omega), Int.emod_add_emod, Int.sub_mul]
    rw [show accC w true X Y i j (i + j - w) + (p * Y j - X i * Y j) = (accC w true X Y i j (i + j - w) + -(X i * Y j)) + p * Y j from by omega, Int.add_mul_emod_self_left]) (fun d hd hne => by rw [acc_step, dC_off w true X Y (by omega) (fun _ => by omega)]; simp)
theorem red_set_none {w i j : Nat} {X Y : Nat → Int} {p : Int} (h : w ≤ i + j) : ((List.range w).map fun c => accC w false X Y i j c % p) = (List.range w).map fun c => accC w false X Y i (j + 1) c % p :=
  mapRange_congr (fun d hd => by rw [acc_step, dC_off w false X Y (by omega) (fun h => by cases h)]; simp)
theorem tmod_norm {x p : Int} (hp : 0 < p) : (x.tmod p + p) % p = x % p := by
  rw [Int.add_emod_right, Int.tmod_eq_emod]
  split
  · simp
  · have : (p.natAbs : Int) = p := by omega
    rw [this, Int.sub_emod_right, Int.emod_emod]
theorem tmod_range {x p : Int} (hp : 0 < p) : -p < x.tmod p ∧ x.tmod p < p := by
  have h1 := Int.emod_nonneg x (show p ≠ 0 by omega)
  have h2 := Int.emod_lt_of_pos x hp
  have e : (p.natAbs : Int) = p := by omega
  rw [Int.tmod_eq_emod]
  split
  · omega
  · rename_i h
    have : x % p ≠ 0 := fun e0 => h (.inr (Int.dvd_of_emod_eq_zero e0))
    omega

/-- The product of two elements. -/
def timesL (k p : Int) (xs ys : List Int) : List Int :=
  if k = 1 ∨ k = 6 then [bits .and .i64 (xs.getD 0 0) (ys.getD 0 0)] else if k = 3 then [min (xs.getD 0 0 * ys.getD 0 0) p] else if k = 4 then [min (xs.getD 0 0 + ys.getD 0 0) p]
  else if k = 5 then [min (xs.getD 0 0) (ys.getD 0 0)] else (List.range xs.length).map fun c => convC xs.length (k == 8) (fun i => xs.getD i 0) (fun i => ys.getD i 0) c % p
end Go.Proofs.Ytdheakjjnaifkaa
namespace Go.Proofs.Ytdheakjjnaifkaa
set_option maxRecDepth 20000
open Go

def LL (m : Nat) (f : Nat → Int) : List Int := (List.range m).map f
theorem LL_len (m : Nat) (f : Nat → Int) : (LL m f).length = m := by simp [LL]
theorem LL_at {m i : Nat} {f : Nat → Int} (h : i < m) : (LL m f).getD i 0 = f i := by simp [LL, List.getD_eq_getElem?_getD, h]
theorem LL_congr {m : Nat} {f g : Nat → Int} (h : ∀ i, i < m → f i = g i) : LL m f = LL m g := (mapRange_congr (fun d hd => (h d hd).symm))
theorem LL_of (xs : List Int) : xs = LL xs.length (fun i => xs.getD i 0) := by
  apply List.ext_getElem (by simp [LL])
  intro i h1 h2
  simp [LL, List.getD_eq_getElem?_getD, h1]
theorem LL_elem {k p n : Int} {m : Nat} {f : Nat → Int} (hm : (m : Int) = widthI k n) (h : ∀ i, i < m → 0 ≤ f i ∧ f i ≤ topI k p n) : ElemV k p n (LL m f) :=
  ⟨by rw [LL_len]; exact hm, fun x hx => by
    simp only [LL, List.mem_map, List.mem_range] at hx
    obtain ⟨i, hi, rfl⟩ := hx
    exact h i hi⟩
theorem elem_at {k p n : Int} {xs : List Int} (hr : ringB k p n = true) (h : ElemV k p n xs) (i : Nat) : 0 ≤ xs.getD i 0 ∧ xs.getD i 0 ≤ topI k p n := h.2.getD (by have := ring_top hr; omega) i
theorem elem_len {k p n : Int} {xs : List Int} {m : Nat} (hm : (m : Int) = widthI k n) (h : ElemV k p n xs) : xs.length = m := by have := h.1; omega
theorem plus_LL (k p : Int) (m : Nat) (f g : Nat → Int) : plusL k p (LL m f) (LL m g) = LL m fun i => plusI k p (f i) (g i) := by
  unfold plusL
  rw [LL_len]
  exact LL_congr fun i hi => by rw [LL_at hi, LL_at hi]
theorem or_small {a b t : Int} {n : Nat} (h1 : 0 ≤ a) (h2 : a ≤ 2 ^ n - 1) (h3 : 0 ≤ b) (h4 : b ≤ 2 ^ n - 1) (hn : n ≤ 20) (ht : t = 2 ^ n - 1) : 0 ≤ bits .or .i64 a b ∧ bits .or .i64 a b ≤ t := by
  have hp : (2 : Nat) ^ n ≤ 2 ^ 20 := Nat.pow_le_pow_right (by omega) hn
  have e : ((2 : Int) ^ n) = ((2 ^ n : Nat) : Int) := by simp
  rw [e] at h2 h4 ht
  rw [bits_i64_or a b h1 (by omega) h3 (by omega)]
  have := Nat.or_lt_two_pow (x := a.toNat) (y := b.toNat) (n := n) (by omega) (by omega)
  omega
theorem and_small {a b t : Int} (h1 : 0 ≤ a) (h2 : a ≤ t) (h3 : 0 ≤ b) (h4 : b ≤ t) (ht : t ≤ 1048576) : 0 ≤ bits .and .i64 a b ∧ bits .and .i64 a b ≤ t := by
  rw [bits_i64_and a b h1 (by omega) h3 (by omega)]
  have := Nat.and_le_left (n := a.toNat) (m := b.toNat)
  omega
theorem plusI_range {k p n a b : Int} (hr : ringB k p n = true) (ha : 0 ≤ a ∧ a ≤ topI k p n) (hb : 0 ≤ b ∧ b ≤ topI k p n) : 0 ≤ plusI k p a b ∧ plusI k p a b ≤ topI k p n := by
  unfold topI at *
  unfold plusI
  rcases ring_cases hr with ⟨rfl, g⟩ | ⟨rfl, g⟩ | ⟨rfl, g⟩ | ⟨rfl, g⟩ | ⟨rfl, g⟩ | ⟨rfl, g⟩ | ⟨rfl, g⟩ | ⟨rfl, g⟩ <;> simp at * <;> try omega
  · exact or_small (n := 1) ha.1 (by simpa using ha.2) hb.1 (by simpa using hb.2) (by omega) (by simp)
  · exact ⟨Int.emod_nonneg _ (by omega), by have := Int.emod_lt_of_pos (a + b) (show 0 < p by omega); omega⟩
  · exact or_small (n := n.toNat) ha.1 ha.2 hb.1 hb.2 (by omega) rfl
  · exact ⟨Int.emod_nonneg _ (by omega), by have := Int.emod_lt_of_pos (a + b) (show 0 < p by omega); omega⟩
  · exact ⟨Int.emod_nonneg _ (by omega), by have := Int.emod_lt_of_pos (a + b) (show 0 < p by omega); omega⟩
theorem plusL_elem {k p n : Int} {xs ys : List Int} (hr : ringB k p n = true) (hx : ElemV k p n xs) (hy : ElemV k p n ys) : ElemV k p n (plusL k p xs ys) :=
  LL_elem hx.1 fun i _ => plusI_range hr (elem_at hr hx i) (elem_at hr hy i)
theorem zeroL_elem {k p n : Int} (hr : ringB k p n = true) : ElemV k p n (zeroL k p n) :=
  LL_elem (by have := ring_width hr; omega) fun i _ => by
    have h1 := ring_top hr
    have h2 := ring_cases hr
    by_cases h : i = 0 ∧ k = 4
    · rw [if_pos h]
      unfold topI
      rw [if_neg (by omega), if_neg (by omega), if_neg (by omega)]
      omega
    · rw [if_neg h]; omega
theorem oneL_elem {k p n : Int} (hr : ringB k p n = true) : ElemV k p n (oneL k p n) :=
  LL_elem (by have := ring_width hr; omega) fun i _ => by
    have h1 := ring_top hr
    have h2 := ring_cases hr
    by_cases h : i = 0
    · rw [if_pos h]
      by_cases h5 : k = 5 ∨ k = 6
      · rw [if_pos h5]; omega
      · rw [if_neg h5]
        split <;> omega
    · rw [if_neg h]; omega

/-- The first integer of the sum of c ones. -/
def cntI (k p n : Int) (c : Nat) : Int :=
  if k = 1 then (if c = 0 then 0 else 1) else if k = 3 then min c p else if k = 4 then (if c = 0 then p else 0) else if k = 5 ∨ k = 6 then (if c = 0 then 0 else topI k p n) else (c : Int) % p
def countL (k p n : Int) (c : Nat) : List Int := LL (widthI k n).toNat fun i => if i = 0 then cntI k p n c else 0
theorem cnt_zero {k p n : Int} (hr : ringB k p n = true) : countL k p n 0 = zeroL k p n := by
  have h2 := ring_cases hr
  refine LL_congr fun i hi => ?_
  unfold cntI
  by_cases h : i = 0
  · simp only [h, if_true, true_and]
    rcases h2 with ⟨rfl, g⟩ | ⟨rfl, g⟩ | ⟨rfl, g⟩ | ⟨rfl, g⟩ | ⟨rfl, g⟩ | ⟨rfl, g⟩ | ⟨rfl, g⟩ | ⟨rfl, g⟩ <;> simp
    omega
  · rw [if_neg h, if_neg (fun e => h e.1)]
theorem cnt_one {k p n : Int} (hr : ringB k p n = true) : countL k p n 1 = oneL k p n := by
  have h2 := ring_cases hr
  refine LL_congr fun i hi => ?_
  unfold cntI
  by_cases h : i = 0
  · simp only [h, if_true]
    rcases h2 with ⟨rfl, g⟩ | ⟨rfl, g⟩ | ⟨rfl, g⟩ | ⟨rfl, g⟩ | ⟨rfl, g⟩ | ⟨rfl, g⟩ | ⟨rfl, g⟩ | ⟨rfl, g⟩ <;> simp <;> try omega
    all_goals exact Int.emod_eq_of_lt (by omega) (by omega)
  · rw [if_neg h, if_neg h]
theorem cnt_plus {k p n : Int} (hr : ringB k p n = true) (a b : Nat) : plusI k p (cntI k p n a) (cntI k p n b) = cntI k p n (a + b) := by
  have ht := ring_top hr
  unfold plusI cntI
  rcases ring_cases hr with ⟨rfl, g⟩ | ⟨rfl, g⟩ | ⟨rfl, g⟩ | ⟨rfl, g⟩ | ⟨rfl, g⟩ | ⟨rfl, g⟩ | ⟨rfl, g⟩ | ⟨rfl, g⟩ <;> simp
  · by_cases ha : a = 0 <;> by_cases hb : b = 0 <;> simp [ha, hb] <;> rfl
  · omega
  · by_cases ha : a = 0 <;> by_cases hb : b = 0 <;> simp [ha, hb] <;> omega
  · by_cases ha : a = 0 <;> by_cases hb : b = 0 <;> simp [ha, hb] <;> omega
  · by_cases ha : a = 0 <;> by_cases hb : b = 0 <;> simp only [ha, hb, if_true, if_false, and_true, and_false]
    · rfl
    · rw [bits_i64_or _ _ (by omega) (by omega) (by omega) (by omega)]; simp; omega
    · rw [bits_i64_or _ _ (by omega) (by omega) (by omega) (by omega)]; simp; omega
    · rw [bits_i64_or _ _ (by omega) (by omega) (by omega) (by omega)]; simp; omega
theorem count_plus {k p n : Int} (hr : ringB k p n = true) (a b : Nat) : plusL k p (countL k p n a) (countL k p n b) = countL k p n (a + b) := by
  unfold countL
  rw [plus_LL]
  refine LL_congr fun i hi => ?_
  by_cases h : i = 0
  · simp only [h, if_true]; exact cnt_plus hr a b
  · simp only [h, if_false]
    have hw : widthI k n ≠ 1 := fun e => by rw [e] at hi; simp at hi; exact h hi
    have : k = 7 ∨ k = 8 := by
      unfold widthI at hw
      by_cases h7 : k = 7
      · exact .inl h7
      · by_cases h8 : k = 8
        · exact .inr h8
        · simp [h7, h8] at hw
    unfold plusI
    rw [if_neg (by omega), if_neg (by omega), if_neg (by omega), if_neg (by omega)]
    simp
theorem count_elem {k p n : Int} (hr : ringB k p n = true) (c : Nat) : ElemV k p n (countL k p n c) := by
  induction c with
  | zero => rw [cnt_zero hr]; exact zeroL_elem hr
  | succ c ih => rw [← count_plus hr c 1, cnt_one hr]; exact plusL_elem hr ih (oneL_elem hr)
end Go.Proofs.Ytdheakjjnaifkaa
namespace Go.Proofs.Ytdheakjjnaifkaa
set_option maxRecDepth 20000
open Go

theorem sumN_congr {n : Nat} {f g : Nat → Int} (h : ∀ i, i < n → f i = g i) : sumN n f = sumN n g := by
  induction n with
  | zero => rfl
  | succ n ih => simp only [sumN]; rw [ih (fun i hi => h i (by omega)), h n (by omega)]
theorem sumN_mod {n : Nat} {f g : Nat → Int} {p : Int} (h : ∀ i, f i % p = g i % p) : sumN n f % p = sumN n g % p := by
  induction n with
  | zero => rfl
  | succ n ih => simp only [sumN]; rw [Int.add_emod, ih, h n, ← Int.add_emod]
theorem conv_congr {m : Nat} {om : Bool} {X X' Y Y' : Nat → Int} (hx : ∀ i, i < m → X i = X' i) (hy : ∀ i, i < m → Y i = Y' i) (c : Nat) : convC m om X Y c = convC m om X' Y' c :=
  sumN_congr fun i hi => sumN_congr fun j hj => by unfold dC; rw [hx i hi, hy j hj]
theorem mul_mod_left (a b p : Int) : (a % p * b) % p = (a * b) % p := by rw [Int.mul_emod, Int.emod_emod, ← Int.mul_emod]
theorem mul_mod_right (a b p : Int) : (a * (b % p)) % p = (a * b) % p := by rw [Int.mul_emod, Int.emod_emod, ← Int.mul_emod]
theorem neg_mod {a b p : Int} (h : a % p = b % p) : (-a) % p = (-b) % p := by
  have h1 : p ∣ a - b := Int.dvd_of_emod_eq_zero (Int.emod_eq_emod_iff_emod_sub_eq_zero.1 h)
  refine Int.emod_eq_emod_iff_emod_sub_eq_zero.2 (Int.emod_eq_zero_of_dvd ?_)
  rw [show -a - -b = -(a - b) from by omega]
  exact Int.dvd_neg.2 h1
theorem conv_mod_left (m : Nat) (om : Bool) (X Y : Nat → Int) (p : Int) (c : Nat) : convC m om (fun i => X i % p) Y c % p = convC m om X Y c % p :=
  sumN_mod fun i => sumN_mod fun j => by
    unfold dC
    split
    · exact mul_mod_left _ _ _
    · split
      · exact neg_mod (mul_mod_left _ _ _)
      · rfl
theorem conv_mod_right (m : Nat) (om : Bool) (X Y : Nat → Int) (p : Int) (c : Nat) : convC m om X (fun i => Y i % p) c % p = convC m om X Y c % p :=
  sumN_mod fun i => sumN_mod fun j => by
    unfold dC
    split
    · exact mul_mod_right _ _ _
    · split
      · exact neg_mod (mul_mod_right _ _ _)
      · rfl
theorem conv_assoc {m : Nat} {om : Bool} (hm : m ≤ 6) (h4 : om = true → m = 4) (X Y Z : Nat → Int) (c : Nat) (hc : c < m) : convC m om (convC m om X Y) Z c = convC m om X (convC m om Y Z) c := by
  cases om with
  | true =>
    obtain rfl := h4 rfl
    have h : c = 0 ∨ c = 1 ∨ c = 2 ∨ c = 3 := by omega
    rcases h with rfl | rfl | rfl | rfl <;> simp [convC, sumN, dC] <;> grind
  | false =>
    have h : m = 0 ∨ m = 1 ∨ m = 2 ∨ m = 3 ∨ m = 4 ∨ m = 5 ∨ m = 6 := by omega
    rcases h with rfl | rfl | rfl | rfl | rfl | rfl | rfl
    · omega
    · obtain rfl : c = 0 := by omega
      simp [convC, sumN, dC]; grind
    · have h : c = 0 ∨ c = 1 := by omega
      rcases h with rfl | rfl <;> simp [convC, sumN, dC] <;> grind
    · have h : c = 0 ∨ c = 1 ∨ c = 2 := by omega
      rcases h with rfl | rfl | rfl <;> simp [convC, sumN, dC] <;> grind
    · have h : c = 0 ∨ c = 1 ∨ c = 2 ∨ c = 3 := by omega
      rcases h with rfl | rfl | rfl | rfl <;> simp [convC, sumN, dC] <;> grind
    · have h : c = 0 ∨ c = 1 ∨ c = 2 ∨ c = 3 ∨ c = 4 := by omega
      rcases h with rfl | rfl | rfl | rfl | rfl <;> simp [convC, sumN, dC] <;> grind
    · have h : c = 0 ∨ c = 1 ∨ c = 2 ∨ c = 3 ∨ c = 4 ∨ c = 5 := by omega
      rcases h with rfl | rfl | rfl | rfl | rfl | rfl <;> simp [convC, sumN, dC] <;> grind
theorem conv_one {m : Nat} {om : Bool} (hm : m ≤ 6) (X : Nat → Int) (c : Nat) (hc : c < m) : convC m om X (fun i => if i = 0 then 1 else 0) c = X c ∧ convC m om (fun i => if i = 0 then 1 else 0) X c = X c := by
  have h : m = 0 ∨ m = 1 ∨ m = 2 ∨ m = 3 ∨ m = 4 ∨ m = 5 ∨ m = 6 := by omega
  rcases h with rfl | rfl | rfl | rfl | rfl | rfl | rfl
  · omega
  · obtain rfl : c = 0 := by omega
    simp [convC, sumN, dC]
  · have h : c = 0 ∨ c = 1 := by omega
    rcases h with rfl | rfl <;> cases om <;> simp [convC, sumN, dC]
  · have h : c = 0 ∨ c = 1 ∨ c = 2 := by omega
    rcases h with rfl | rfl | rfl <;> cases om <;> simp [convC, sumN, dC]
  · have h : c = 0 ∨ c = 1 ∨ c = 2 ∨ c = 3 := by omega
    rcases h with rfl | rfl | rfl | rfl <;> cases om <;> simp [convC, sumN, dC]
  · have h : c = 0 ∨ c = 1 ∨ c = 2 ∨ c = 3 ∨ c = 4 := by omega
    rcases h with rfl | rfl | rfl | rfl | rfl <;> cases om <;> simp [convC, sumN, dC]
  · have h : c = 0 ∨ c = 1 ∨ c = 2 ∨ c = 3 ∨ c = 4 ∨ c = 5 := by omega
    rcases h with rfl | rfl | rfl | rfl | rfl | rfl <;> cases om <;> simp [convC, sumN, dC]

def high (k : Int) : Prop := k = 2 ∨ k = 7 ∨ k = 8
theorem times_high {k p : Int} (h : high k) (xs ys : List Int) : timesL k p xs ys = LL xs.length fun c => convC xs.length (k == 8) (fun i => xs.getD i 0) (fun i => ys.getD i 0) c % p := by
  unfold high at h
  unfold timesL
  rw [if_neg (by omega), if_neg (by omega), if_neg (by omega), if_neg (by omega)]
  rfl
/-- The product of two one-integer elements in the rings that are no polynomials. -/
def timesI (k p a b : Int) : Int := if k = 1 ∨ k = 6 then bits .and .i64 a b else if k = 3 then min (a * b) p else if k = 4 then min (a + b) p else min a b
theorem times_low {k p n : Int} (hr : ringB k p n = true) (h : ¬ high k) (xs ys : List Int) : timesL k p xs ys = [timesI k p (xs.getD 0 0) (ys.getD 0 0)] := by
  have h2 := ring_cases hr
  unfold high at h
  unfold timesL timesI
  by_cases h1 : k = 1 ∨ k = 6
  · rw [if_pos h1, if_pos h1]
  · rw [if_neg h1, if_neg h1]
    by_cases h3 : k = 3
    · rw [if_pos h3, if_pos h3]
    · rw [if_neg h3, if_neg h3]
      by_cases h4 : k = 4
      · rw [if_pos h4, if_pos h4]
      · rw [if_neg h4, if_neg h4, if_pos (by omega)]
theorem low_width {k n : Int} (h : ¬ high k) : widthI k n = 1 := by
  unfold high at h
  unfold widthI
  rw [if_neg (by omega), if_neg (by omega)]
theorem low_form {k p n : Int} {xs : List Int} (h : ¬ high k) (hx : ElemV k p n xs) : xs = [xs.getD 0 0] := by
  have h1 := hx.1
  rw [low_width h] at h1
  match xs, h1 with
  | [a], _ => rfl
theorem timesI_range {k p n a b : Int} (hr : ringB k p n = true) (h : ¬ high k) (ha : 0 ≤ a ∧ a ≤ topI k p n) (hb : 0 ≤ b ∧ b ≤ topI k p n) : 0 ≤ timesI k p a b ∧ timesI k p a b ≤ topI k p n := by
  have ht := ring_top hr
  have h2 := ring_cases hr
  unfold high at h
  have hp : k = 3 ∨ k = 4 ∨ k = 5 → topI k p n = p := fun hk => by unfold topI; rw [if_neg (by omega), if_neg (by omega), if_neg (by omega)]
  unfold timesI
  by_cases h1 : k = 1 ∨ k = 6
  · rw [if_pos h1]; exact and_small ha.1 ha.2 hb.1 hb.2 ht.2
  · rw [if_neg h1]
    have hm := Int.mul_nonneg ha.1 hb.1
    by_cases h3 : k = 3
    · rw [if_pos h3]; have := hp (by omega); omega
    · rw [if_neg h3]
      by_cases h4 : k = 4
      · rw [if_pos h4]; have := hp (by omega); omega
      · rw [if_neg h4]; omega
theorem timesL_elem {k p n : Int} {xs ys : List Int} (hr : ringB k p n = true) (hx : ElemV k p n xs) (hy : ElemV k p n ys) : ElemV k p n (timesL k p xs ys) := by
  by_cases h : high k
  · rw [times_high h]
    have h2 := ring_cases hr
    refine LL_elem hx.1 fun i _ => ?_
    have ht : topI k p n = p - 1 := by unfold topI; unfold high at h; rw [if_neg (by omega), if_neg (by omega), if_pos (by omega)]
    unfold high at h
    exact ⟨Int.emod_nonneg _ (by omega), by rw [ht]; have := Int.emod_lt_of_pos (convC xs.length (k == 8) (fun i => xs.getD i 0) (fun i => ys.getD i 0) i) (show 0 < p by omega); omega⟩
  · rw [times_low hr h]
    refine ⟨by rw [low_width h]; rfl, fun x hx' => ?_⟩
    rw [List.mem_singleton] at hx'
    subst hx'
    exact timesI_range hr h (elem_at hr hx 0) (elem_at hr hy 0)
theorem min_times {u c p : Int} (hu : 0 ≤ u) (hc : 0 ≤ c) (hp : 0 ≤ p) : min (min u p * c) p = min (u * c) p := by
  by_cases h : u ≤ p
  · rw [show min u p = u from by omega]
  · rw [show min u p = p from by omega]
    by_cases h0 : c = 0
    · subst h0; simp
    · have h1 : p * 1 ≤ p * c := Int.mul_le_mul_of_nonneg_left (by omega) hp
      have h2 : u * 1 ≤ u * c := Int.mul_le_mul_of_nonneg_left (by omega) hu
      omega
theorem timesI_assoc {k p n a b c : Int} (hr : ringB k p n = true) (ha : 0 ≤ a ∧ a ≤ topI k p n) (hb : 0 ≤ b ∧ b ≤ topI k p n) (hc : 0 ≤ c ∧ c ≤ topI k p n) : timesI k p (timesI k p a b) c = timesI k p a (timesI k p b c) := by
  have ht := ring_top hr
  have h2 := ring_cases hr
  unfold timesI
  by_cases h1 : k = 1 ∨ k = 6
  · simp only [if_pos h1]
    have e1 := and_small ha.1 ha.2 hb.1 hb.2 ht.2
    have e2 := and_small hb.1 hb.2 hc.1 hc.2 ht.2
    rw [bits_i64_and _ c e1.1 (by omega) hc.1 (by omega), bits_i64_and a _ ha.1 (by omega) e2.1 (by omega), bits_i64_and a b ha.1 (by omega) hb.1 (by omega), bits_i64_and b c hb.1 (by omega) hc.1 (by omega)]
    simp [Nat.and_assoc]
  · simp only [if_neg h1]
    by_cases h3 : k = 3
    · simp only [if_pos h3]
      rw [min_times (Int.mul_nonneg ha.1 hb.1) hc.1 (by omega), Int.mul_comm a (min (b * c) p), min_times (Int.mul_nonneg hb.1 hc.1) ha.1 (by omega)]
      rw [show b * c * a = a * b * c from by rw [Int.mul_comm (b * c) a, Int.mul_assoc]]
    · simp only [if_neg h3]
      by_cases h4 : k = 4
      · simp only [if_pos h4]; omega
      · simp only [if_neg h4]; omega
theorem high_om {k p n : Int} {m : Nat} (hr : ringB k p n = true) (hm : (m : Int) = widthI k n) : m ≤ 6 ∧ ((k == 8) = true → m = 4) := by
  have := ring_width hr
  refine ⟨by omega, fun h => ?_⟩
  have h8 : k = 8 := by simpa using h
  have hw : widthI k n = 4 := by rw [h8]; rfl
  omega
theorem times_assoc {k p n : Int} {xs ys zs : List Int} (hr : ringB k p n = true) (hx : ElemV k p n xs) (hy : ElemV k p n ys) (hz : ElemV k p n zs) : timesL k p (timesL k p xs ys) zs = timesL k p xs (timesL k p ys zs) := by
  by_cases h : high k
  · obtain ⟨m, hm⟩ : ∃ m, m = xs.length := ⟨_, rfl⟩
    have hw : (m : Int) = widthI k n := by rw [hm]; exact hx.1
    have ho := high_om hr hw
    have ly := elem_len hw hy
    simp only [times_high h, LL_len, ← hm, ly]
    refine LL_congr fun c hc => ?_
    rw [conv_congr (X' := fun i => convC m (k == 8) (fun i => xs.getD i 0) (fun i => ys.getD i 0) i % p) (Y' := fun i => zs.getD i 0) (fun i hi => LL_at hi) (fun _ _ => rfl), conv_mod_left]
    rw [conv_congr (X := fun i => xs.getD i 0) (X' := fun i => xs.getD i 0) (Y' := fun i => convC m (k == 8) (fun i => ys.getD i 0) (fun i => zs.getD i 0) i % p) (fun _ _ => rfl) (fun i hi => LL_at hi), conv_mod_right]
    rw [conv_assoc ho.1 ho.2 _ _ _ c hc]
  · rw [times_low hr h, times_low hr h, times_low hr h, times_low hr h]
    exact congrArg (fun x => [x]) (timesI_assoc hr (elem_at hr hx 0) (elem_at hr hy 0) (elem_at hr hz 0))
theorem one_high {k p n : Int} (h : high k) {m : Nat} (hm : (m : Int) = widthI k n) : oneL k p n = LL m fun i => if i = 0 then 1 else 0 := by
  unfold high at h
  unfold oneL
  rw [← hm]
  refine LL_congr fun i _ => ?_
  rw [if_neg (show ¬(k = 5 ∨ k = 6) by omega), if_neg (show ¬ k = 4 by omega)]
theorem one_low {k p n : Int} (h : ¬ high k) : oneL k p n = [if k = 5 ∨ k = 6 then topI k p n else if k = 4 then 0 else 1] := by
  unfold oneL
  rw [low_width h]
  rfl
theorem times_one {k p n : Int} {xs : List Int} (hr : ringB k p n = true) (hx : ElemV k p n xs) : timesL k p xs (oneL k p n) = xs ∧ timesL k p (oneL k p n) xs = xs := by
  have ht := ring_top hr
  have h2 := ring_cases hr
  by_cases h : high k
  · obtain ⟨m, hm⟩ : ∃ m, m = xs.length := ⟨_, rfl⟩
    have hw : (m : Int) = widthI k n := by rw [hm]; exact hx.1
    have ho := high_om hr hw
    have htp : topI k p n = p - 1 := by unfold topI; unfold high at h; rw [if_neg (by omega), if_neg (by omega), if_pos (by omega)]
    have key : ∀ c, c < m → xs.getD c 0 % p = xs.getD c 0 := fun c _ => by
      have := elem_at hr hx c
      exact Int.emod_eq_of_lt this.1 (by omega)
    have e : xs = LL m fun i => xs.getD i 0 := by rw [hm]; exact LL_of xs
    rw [times_high h, times_high h, one_high h hw, LL_len, ← hm]
    constructor
    · refine Eq.trans (LL_congr fun c hc => ?_) e.symm
      rw [conv_congr (X' := fun i => xs.getD i 0) (Y' := fun i => if i = 0 then 1 else 0) (fun _ _ => rfl) (fun i hi => LL_at hi), (conv_one ho.1 _ c hc).1, key c hc]
    · refine Eq.trans (LL_congr fun c hc => ?_) e.symm
      rw [conv_congr (X' := fun i => if i = 0 then 1 else 0) (Y' := fun i => xs.getD i 0) (fun i hi => LL_at hi) (fun _ _ => rfl), (conv_one ho.1 _ c hc).2, key c hc]
  · have e := low_form h hx
    have g := elem_at hr hx 0
    have key : ∀ u : Int, u = (if k = 5 ∨ k = 6 then topI k p n else if k = 4 then 0 else 1) → timesI k p (xs.getD 0 0) u = xs.getD 0 0 ∧ timesI k p u (xs.getD 0 0) = xs.getD 0 0 := by
      intro u hu
      generalize xs.getD 0 0 = a at g
      unfold high at h
      unfold timesI
      by_cases h1 : k = 1 ∨ k = 6
      · simp only [if_pos h1]
        rcases h1 with h1 | h1
        · have hu1 : u = 1 := by rw [hu, if_neg (by omega), if_neg (by omega)]
          have ht1 : topI k p n = 1 := by unfold topI; rw [if_pos h1]
          have ha : a = 0 ∨ a = 1 := by omega
          rcases ha with rfl | rfl <;> rw [hu1] <;> exact ⟨rfl, rfl⟩
        · have hu1 : u = topI k p n := by rw [hu, if_pos (by omega)]
          have htt : topI k p n = 2 ^ n.toNat - 1 := by unfold topI; rw [if_neg (by omega), if_pos h1]
          have hn : a.toNat &&& u.toNat = a.toNat := by
            have e2 : u.toNat = 2 ^ n.toNat - 1 := by
              rw [hu1, htt]
              have : ((2 : Int) ^ n.toNat) = ((2 ^ n.toNat : Nat) : Int) := by simp
              omega
            have e3 : a.toNat < 2 ^ n.toNat := by
              have : ((2 : Int) ^ n.toNat) = ((2 ^ n.toNat : Nat) : Int) := by simp
              omega
            rw [e2, Nat.and_two_pow_sub_one_eq_mod]
            exact Nat.mod_eq_of_lt e3
          rw [bits_i64_and a u g.1 (by omega) (by omega) (by omega), bits_i64_and u a (by omega) (by omega) g.1 (by omega), Nat.and_comm u.toNat, hn]
          omega
      · simp only [if_neg h1]
        have hp : k = 3 ∨ k = 4 ∨ k = 5 → topI k p n = p := fun hk => by unfold topI; rw [if_neg (by omega), if_neg (by omega), if_neg (by omega)]
        by_cases h3 : k = 3
        · have hu1 : u = 1 := by rw [hu, if_neg (by omega), if_neg (by omega)]
          have := hp (by omega)
          simp only [if_pos h3, hu1, Int.mul_one, Int.one_mul]; omega
        · simp only [if_neg h3]
          by_cases h4 : k = 4
          · have hu1 : u = 0 := by rw [hu, if_neg (by omega), if_pos h4]
            have := hp (by omega)
            simp only [if_pos h4]; omega
          · have hu1 : u = topI k p n := by rw [hu, if_pos (by omega)]
            simp only [if_neg h4]; omega
    rw [times_low hr h, times_low hr h, one_low h]
    obtain ⟨k1, k2⟩ := key _ rfl
    constructor
    · refine Eq.trans ?_ e.symm; exact congrArg (fun x => [x]) k1
    · refine Eq.trans ?_ e.symm; exact congrArg (fun x => [x]) k2

/-- The product of c times xs. -/
def powL (k p n : Int) (xs : List Int) (c : Nat) : List Int := match c with
  | 0 => oneL k p n
  | c + 1 => timesL k p (powL k p n xs c) xs
theorem pow_elem {k p n : Int} {xs : List Int} (hr : ringB k p n = true) (hx : ElemV k p n xs) (c : Nat) : ElemV k p n (powL k p n xs c) := by
  induction c with
  | zero => exact oneL_elem hr
  | succ c ih => exact timesL_elem hr ih hx
theorem pow_one {k p n : Int} {xs : List Int} (hr : ringB k p n = true) (hx : ElemV k p n xs) : powL k p n xs 1 = xs := (times_one hr hx).2
theorem pow_times {k p n : Int} {xs : List Int} (hr : ringB k p n = true) (hx : ElemV k p n xs) (a b : Nat) : timesL k p (powL k p n xs a) (powL k p n xs b) = powL k p n xs (a + b) := by
  induction b with
  | zero => exact (times_one hr (pow_elem hr hx a)).1
  | succ b ih =>
    show timesL k p (powL k p n xs a) (timesL k p (powL k p n xs b) xs) = timesL k p (powL k p n xs (a + b)) xs
    rw [← times_assoc hr (pow_elem hr hx a) (pow_elem hr hx b) hx, ih]
end Go.Proofs.Ytdheakjjnaifkaa
