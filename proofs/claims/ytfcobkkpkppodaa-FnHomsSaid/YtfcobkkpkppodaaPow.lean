
/- Counts and powers in a ring, as plain mathematics: elements stay elements; products are associative. -/
import Derived.Test.YtfcobkkpkppodaaPoly
namespace Go.Proofs.Ytfcobkkpkppodaa
set_option maxRecDepth 20000
open Go

def LL (m : Nat) (f : Nat → Int) : List Int := (List.range m).map f
theorem LL_len (m : Nat) (f : Nat → Int) : (LL m f).length = m := by simp [LL]
theorem LL_at {m i : Nat} {f : Nat → Int} (h : i < m) : (LL m f).getD i 0 = f i := by simp [LL, List.getD_eq_getElem?_getD, h]
theorem LL_congr {m : Nat} {f g : Nat → Int} (h : ∀ i, i < m → f i = g i) : LL m f = LL m g := (mapRange_congr (fun d hd => (h d hd).symm))
theorem LL_of (xs : List Int) : xs = LL xs.length (fun i => xs.getD i 0) := by
  apply List.ext_getElem (by simp [LL])
  intro i h1 h2
  simp [LL, List.getD_eq_getElem?_getD, h1]
theorem LL_elem {k p n : Int} {m : Nat} {f : Nat → Int} (hm : (m : Int) = widthI k n) (h : ∀ i, i < m → 0 ≤ f i ∧ f i ≤ topI k p n) : ElemV k p n (LL m f) :=
  ⟨by rw [LL_len]; exact hm, fun x hx => by
    simp only [LL, List.mem_map, List.mem_range] at hx
    obtain ⟨i, hi, rfl⟩ := hx
    exact h i hi⟩
theorem elem_at {k p n : Int} {xs : List Int} (hr : ringB k p n = true) (h : ElemV k p n xs) (i : Nat) : 0 ≤ xs.getD i 0 ∧ xs.getD i 0 ≤ topI k p n := h.2.getD (by have := ring_top hr; omega) i
theorem elem_len {k p n : Int} {xs : List Int} {m : Nat} (hm : (m : Int) = widthI k n) (h : ElemV k p n xs) : xs.length = m := by have := h.1; omega
theorem plus_LL (k p : Int) (m : Nat) (f g : Nat → Int) : plusL k p (LL m f) (LL m g) = LL m fun i => plusI k p (f i) (g i) := by
  unfold plusL
  rw [LL_len]
  exact LL_congr fun i hi => by rw [LL_at hi, LL_at hi]
theorem or_small {a b t : Int} {n : Nat} (h1 : 0 ≤ a) (h2 : a ≤ 2 ^ n - 1) (h3 : 0 ≤ b) (h4 : b ≤ 2 ^ n - 1) (hn : n ≤ 20) (ht : t = 2 ^ n - 1) : 0 ≤ bits .or .i64 a b ∧ bits .or .i64 a b ≤ t := by
  have hp : (2 : Nat) ^ n ≤ 2 ^ 20 := Nat.pow_le_pow_right (by omega) hn
  have e : ((2 : Int) ^ n) = ((2 ^ n : Nat) : Int) := by simp
  rw [e] at h2 h4 ht
  rw [bits_i64_or a b h1 (by omega) h3 (by omega)]
  have := Nat.or_lt_two_pow (x := a.toNat) (y := b.toNat) (n := n) (by omega) (by omega)
  omega
theorem and_small {a b t : Int} (h1 : 0 ≤ a) (h2 : a ≤ t) (h3 : 0 ≤ b) (h4 : b ≤ t) (ht : t ≤ 1048576) : 0 ≤ bits .and .i64 a b ∧ bits .and .i64 a b ≤ t := by
  rw [bits_i64_and a b h1 (by omega) h3 (by omega)]
  have := Nat.and_le_left (n := a.toNat) (m := b.toNat)
  omega
theorem plusI_range {k p n a b : Int} (hr : ringB k p n = true) (ha : 0 ≤ a ∧ a ≤ topI k p n) (hb : 0 ≤ b ∧ b ≤ topI k p n) : 0 ≤ plusI k p a b ∧ plusI k p a b ≤ topI k p n := by
  unfold topI at *
  unfold plusI
  rcases ring_cases hr with ⟨rfl, g⟩ | ⟨rfl, g⟩ | ⟨rfl, g⟩ | ⟨rfl, g⟩ | ⟨rfl, g⟩ | ⟨rfl, g⟩ | ⟨rfl, g⟩ | ⟨rfl, g⟩ <;> simp at * <;> try omega
  · exact or_small (n := 1) ha.1 (by simpa using ha.2) hb.1 (by simpa using hb.2) (by omega) (by simp)
  · exact ⟨Int.emod_nonneg _ (by omega), by have := Int.emod_lt_of_pos (a + b) (show 0 < p by omega); omega⟩
  · exact or_small (n := n.toNat) ha.1 ha.2 hb.1 hb.2 (by omega) rfl
  · exact ⟨Int.emod_nonneg _ (by omega), by have := Int.emod_lt_of_pos (a + b) (show 0 < p by omega); omega⟩
  · exact ⟨Int.emod_nonneg _ (by omega), by have := Int.emod_lt_of_pos (a + b) (show 0 < p by omega); omega⟩
theorem plusL_elem {k p n : Int} {xs ys : List Int} (hr : ringB k p n = true) (hx : ElemV k p n xs) (hy : ElemV k p n ys) : ElemV k p n (plusL k p xs ys) :=
  LL_elem hx.1 fun i _ => plusI_range hr (elem_at hr hx i) (elem_at hr hy i)
theorem zeroL_elem {k p n : Int} (hr : ringB k p n = true) : ElemV k p n (zeroL k p n) :=
  LL_elem (by have := ring_width hr; omega) fun i _ => by
    have h1 := ring_top hr
    have h2 := ring_cases hr
    by_cases h : i = 0 ∧ k = 4
    · rw [if_pos h]
      unfold topI
      rw [if_neg (by omega), if_neg (by omega), if_neg (by omega)]
      omega
    · rw [if_neg h]; omega
theorem oneL_elem {k p n : Int} (hr : ringB k p n = true) : ElemV k p n (oneL k p n) :=
  LL_elem (by have := ring_width hr; omega) fun i _ => by
    have h1 := ring_top hr
    have h2 := ring_cases hr
    by_cases h : i = 0
    · rw [if_pos h]
      by_cases h5 : k = 5 ∨ k = 6
      · rw [if_pos h5]; omega
      · rw [if_neg h5]
        split <;> omega
    · rw [if_neg h]; omega

/-- The first integer of the sum of c ones. -/
def cntI (k p n : Int) (c : Nat) : Int :=
  if k = 1 then (if c = 0 then 0 else 1) else if k = 3 then min c p else if k = 4 then (if c = 0 then p else 0) else if k = 5 ∨ k = 6 then (if c = 0 then 0 else topI k p n) else (c : Int) % p
def countL (k p n : Int) (c : Nat) : List Int := LL (widthI k n).toNat fun i => if i = 0 then cntI k p n c else 0
theorem cnt_zero {k p n : Int} (hr : ringB k p n = true) : countL k p n 0 = zeroL k p n := by
  have h2 := ring_cases hr
  refine LL_congr fun i hi => ?_
  unfold cntI
  by_cases h : i = 0
  · simp only [h, if_true, true_and]
    rcases h2 with ⟨rfl, g⟩ | ⟨rfl, g⟩ | ⟨rfl, g⟩ | ⟨rfl, g⟩ | ⟨rfl, g⟩ | ⟨rfl, g⟩ | ⟨rfl, g⟩ | ⟨rfl, g⟩ <;> simp
    omega
  · rw [if_neg h, if_neg (fun e => h e.1)]
theorem cnt_one {k p n : Int} (hr : ringB k p n = true) : countL k p n 1 = oneL k p n := by
  have h2 := ring_cases hr
  refine LL_congr fun i hi => ?_
  unfold cntI
  by_cases h : i = 0
  · simp only [h, if_true]
    rcases h2 with ⟨rfl, g⟩ | ⟨rfl, g⟩ | ⟨rfl, g⟩ | ⟨rfl, g⟩ | ⟨rfl, g⟩ | ⟨rfl, g⟩ | ⟨rfl, g⟩ | ⟨rfl, g⟩ <;> simp <;> try omega
    all_goals exact Int.emod_eq_of_lt (by omega) (by omega)
  · rw [if_neg h, if_neg h]
theorem cnt_plus {k p n : Int} (hr : ringB k p n = true) (a b : Nat) : plusI k p (cntI k p n a) (cntI k p n b) = cntI k p n (a + b) := by
  have ht := ring_top hr
  unfold plusI cntI
  rcases ring_cases hr with ⟨rfl, g⟩ | ⟨rfl, g⟩ | ⟨rfl, g⟩ | ⟨rfl, g⟩ | ⟨rfl, g⟩ | ⟨rfl, g⟩ | ⟨rfl, g⟩ | ⟨rfl, g⟩ <;> simp
  · by_cases ha : a = 0 <;> by_cases hb : b = 0 <;> simp [ha, hb] <;> rfl
  · omega
  · by_cases ha : a = 0 <;> by_cases hb : b = 0 <;> simp [ha, hb] <;> omega
  · by_cases ha : a = 0 <;> by_cases hb : b = 0 <;> simp [ha, hb] <;> omega
  · by_cases ha : a = 0 <;> by_cases hb : b = 0 <;> simp only [ha, hb, if_true, if_false, and_true, and_false]
    · rfl
    · rw [bits_i64_or _ _ (by omega) (by omega) (by omega) (by omega)]; simp; omega
    · rw [bits_i64_or _ _ (by omega) (by omega) (by omega) (by omega)]; simp; omega
    · rw [bits_i64_or _ _ (by omega) (by omega) (by omega) (by omega)]; simp; omega
theorem count_plus {k p n : Int} (hr : ringB k p n = true) (a b : Nat) : plusL k p (countL k p n a) (countL k p n b) = countL k p n (a + b) := by
  unfold countL
  rw [plus_LL]
  refine LL_congr fun i hi => ?_
  by_cases h : i = 0
  · simp only [h, if_true]; exact cnt_plus hr a b
  · simp only [h, if_false]
    have hw : widthI k n ≠ 1 := fun e => by rw [e] at hi; simp at hi; exact h hi
    have : k = 7 ∨ k = 8 := by
      unfold widthI at hw
      by_cases h7 : k = 7
      · exact .inl h7
      · by_cases h8 : k = 8
        · exact .inr h8
        · simp [h7, h8] at hw
    unfold plusI
    rw [if_neg (by omega), if_neg (by omega), if_neg (by omega), if_neg (by omega)]
    simp
theorem count_elem {k p n : Int} (hr : ringB k p n = true) (c : Nat) : ElemV k p n (countL k p n c) := by
  induction c with
  | zero => rw [cnt_zero hr]; exact zeroL_elem hr
  | succ c ih => rw [← count_plus hr c 1, cnt_one hr]; exact plusL_elem hr ih (oneL_elem hr)
end Go.Proofs.Ytfcobkkpkppodaa
