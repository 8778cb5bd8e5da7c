
/- Products of polynomials as plain mathematics: coefficient by coefficient, step by step. -/
import Derived.Test.YtfcobkkpkppodaaRing
namespace Go.Proofs.Ytfcobkkpkppodaa
set_option maxRecDepth 20000
open Go

def sumN (n : Nat) (f : Nat → Int) : Int := match n with
  | 0 => 0
  | n + 1 => sumN n f + f n
/-- What the pair (i, j) brings to coefficient c: in w coefficients, with w^4 = -1 where om. -/
def dC (w : Nat) (om : Bool) (X Y : Nat → Int) (i j c : Nat) : Int := if i + j = c then X i * Y j else if om = true ∧ i + j = c + w then -(X i * Y j) else 0
def accC (w : Nat) (om : Bool) (X Y : Nat → Int) (i j c : Nat) : Int := sumN i (fun i' => sumN w fun j' => dC w om X Y i' j' c) + sumN j fun j' => dC w om X Y i j' c
def convC (w : Nat) (om : Bool) (X Y : Nat → Int) (c : Nat) : Int := sumN w fun i => sumN w fun j => dC w om X Y i j c
theorem acc_zero (w : Nat) (om : Bool) (X Y : Nat → Int) (c : Nat) : accC w om X Y 0 0 c = 0 := rfl
theorem acc_row (w : Nat) (om : Bool) (X Y : Nat → Int) (i c : Nat) : accC w om X Y (i + 1) 0 c = accC w om X Y i w c := by
  simp [accC, sumN]
theorem acc_end (w : Nat) (om : Bool) (X Y : Nat → Int) (c : Nat) : accC w om X Y w 0 c = convC w om X Y c := by
  simp [accC, sumN, convC]
theorem acc_step (w : Nat) (om : Bool) (X Y : Nat → Int) (i j c : Nat) : accC w om X Y i (j + 1) c = accC w om X Y i j c + dC w om X Y i j c := by
  simp [accC, sumN, Int.add_assoc]
theorem dC_at (w : Nat) (om : Bool) (X Y : Nat → Int) (i j : Nat) : dC w om X Y i j (i + j) = X i * Y j := by simp [dC]
theorem dC_wrap (w : Nat) (X Y : Nat → Int) {i j c : Nat} (h : i + j = c + w) (hc : c < w) : dC w true X Y i j c = -(X i * Y j) := by
  unfold dC
  rw [if_neg (by omega), if_pos ⟨rfl, h⟩]
theorem dC_off (w : Nat) (om : Bool) (X Y : Nat → Int) {i j c : Nat} (h : i + j ≠ c) (h2 : om = true → i + j ≠ c + w) : dC w om X Y i j c = 0 := by
  unfold dC
  rw [if_neg h, if_neg (fun g => h2 g.1 g.2)]
theorem sumN_bound (M : Int) (f : Nat → Int) (h : ∀ i, -M ≤ f i ∧ f i ≤ M) : ∀ n : Nat, -(n * M) ≤ sumN n f ∧ sumN n f ≤ n * M := by
  intro n
  induction n with
  | zero => simp [sumN]
  | succ n ih =>
    have h1 := h n
    have e : ((n + 1 : Nat) : Int) * M = n * M + M := by rw [Int.natCast_add, Int.add_mul]; simp
    rw [e]
    simp only [sumN]
    omega
theorem mul_small {a b : Int} (h1 : 0 ≤ a) (h2 : a ≤ 1048576) (h3 : 0 ≤ b) (h4 : b ≤ 1048576) : 0 ≤ a * b ∧ a * b ≤ 1099511627776 := by
  have e1 : 0 ≤ a * b := Int.mul_nonneg h1 h3
  have e2 : a * b ≤ 1048576 * 1048576 := Int.mul_le_mul h2 h4 h3 (by omega)
  omega
theorem dC_bound {w : Nat} {om : Bool} {X Y : Nat → Int} (hX : ∀ i, 0 ≤ X i ∧ X i ≤ 1048576) (hY : ∀ i, 0 ≤ Y i ∧ Y i ≤ 1048576) (i j c : Nat) : -1099511627776 ≤ dC w om X Y i j c ∧ dC w om X Y i j c ≤ 1099511627776 := by
  have h := mul_small (hX i).1 (hX i).2 (hY j).1 (hY j).2
  unfold dC
  split
  · omega
  · split <;> omega
theorem acc_bound {w : Nat} {om : Bool} {X Y : Nat → Int} (hX : ∀ i, 0 ≤ X i ∧ X i ≤ 1048576) (hY : ∀ i, 0 ≤ Y i ∧ Y i ≤ 1048576) {i j : Nat} (c : Nat) (hw : w ≤ 6) (hi : i ≤ 6) (hj : j ≤ 6) : -50000000000000 ≤ accC w om X Y i j c ∧ accC w om X Y i j c ≤ 50000000000000 := by
  have h1 := sumN_bound 1099511627776 (fun j' => dC w om X Y i j' c) (fun j' => dC_bound hX hY i j' c) j
  have h2 := sumN_bound (6 * 1099511627776) (fun i' => sumN w fun j' => dC w om X Y i' j' c) (fun i' => by
    have := sumN_bound 1099511627776 (fun j' => dC w om X Y i' j' c) (fun j' => dC_bound hX hY i' j' c) w
    omega) i
  unfold accC
  omega
theorem mapRange_set {w c : Nat} {f g : Nat → Int} {v : Int} (h1 : g c = v) (h2 : ∀ d, d < w → d ≠ c → g d = f d) : ((List.range w).map f).set c v = (List.range w).map g := by
  apply List.ext_getElem (by simp)
  intro i h3 h4
  simp only [List.getElem_set, List.getElem_map, List.getElem_range]
  have hi : i < w := by simpa using h4
  by_cases e : c = i
  · subst e; rw [if_pos rfl, h1]
  · rw [if_neg e, h2 i hi (fun x => e x.symm)]
theorem mapRange_congr {w : Nat} {f g : Nat → Int} (h : ∀ d, d < w → g d = f d) : (List.range w).map f = (List.range w).map g := by
  apply List.ext_getElem (by simp)
  intro i h3 h4
  have hi : i < w := by simpa using h4
  simp only [List.getElem_map, List.getElem_range]
  rw [h i hi]
/-- One step of the unreduced sums, as the list is written. -/
theorem acc_set_at {w i j : Nat} {om : Bool} {X Y : Nat → Int} (h : i + j < w) : ((List.range w).map (accC w om X Y i j)).set (i + j) (accC w om X Y i j (i + j) + X i * Y j) = (List.range w).map (accC w om X Y i (j + 1)) :=
  mapRange_set (by rw [acc_step, dC_at]) (fun d hd hne => by rw [acc_step, dC_off w om X Y (fun e => hne e.symm) (fun _ => by omega)]; simp)
theorem acc_set_wrap {w i j : Nat} {X Y : Nat → Int} (h : w ≤ i + j) (h2 : i + j < w + w) : ((List.range w).map (accC w true X Y i j)).set (i + j - w) (accC w true X Y i j (i + j - w) - X i * Y j) = (List.range w).map (accC w true X Y i (j + 1)) :=
  mapRange_set (by rw [acc_step, dC_wrap w X Y (by omega) (by omega)]; omega) (fun d hd hne => by rw [acc_step, dC_off w true X Y (by omega) (fun _ => by omega)]; simp)
theorem acc_set_none {w i j : Nat} {X Y : Nat → Int} (h : w ≤ i + j) : (List.range w).map (accC w false X Y i j) = (List.range w).map (accC w false X Y i (j + 1)) :=
  mapRange_congr (fun d hd => by rw [acc_step, dC_off w false X Y (by omega) (fun h => by cases h)]; simp)
/-- The same of the sums that are reduced at each step. -/
theorem red_set_at {w i j : Nat} {om : Bool} {X Y : Nat → Int} {p : Int} (h : i + j < w) : ((List.range w).map fun c => accC w om X Y i j c % p).set (i + j) ((accC w om X Y i j (i + j) % p + X i * Y j) % p) = (List.range w).map fun c => accC w om X Y i (j + 1) c % p :=
  mapRange_set (by rw [acc_step, dC_at, Int.emod_add_emod]) (fun d hd hne => by rw [acc_step, dC_off w om X Y (fun e => hne e.symm) (fun _ => by omega)]; simp)
theorem red_set_wrap {w i j : Nat} {X Y : Nat → Int} {p : Int} (h : w ≤ i + j) (h2 : i + j < w + w) : ((List.range w).map fun c => accC w true X Y i j c % p).set (i + j - w) ((accC w true X Y i j (i + j - w) % p + (p - X i) * Y j) % p) = (List.range w).map fun c => accC w true X Y i (j + 1) c % p :=
  mapRange_set (by
    rw [acc_step, dC_wrap w X Y (by omega) (by omega), Int.emod_add_emod, Int.sub_mul]
    rw [show accC w true X Y i j (i + j - w) + (p * Y j - X i * Y j) = (accC w true X Y i j (i + j - w) + -(X i * Y j)) + p * Y j from by omega, Int.add_mul_emod_self_left]) (fun d hd hne => by rw [acc_step, dC_off w true X Y (by omega) (fun _ => by omega)]; simp)
theorem red_set_none {w i j : Nat} {X Y : Nat → Int} {p : Int} (h : w ≤ i + j) : ((List.range w).map fun c => accC w false X Y i j c % p) = (List.range w).map fun c => accC w false X Y i (j + 1) c % p :=
  mapRange_congr (fun d hd => by rw [acc_step, dC_off w false X Y (by omega) (fun h => by cases h)]; simp)
theorem tmod_norm {x p : Int} (hp : 0 < p) : (x.tmod p + p) % p = x % p := by
  rw [Int.add_emod_right, Int.tmod_eq_emod]
  split
  · simp
  · have : (p.natAbs : Int) = p := by omega
    rw [this, Int.sub_emod_right, Int.emod_emod]
theorem tmod_range {x p : Int} (hp : 0 < p) : -p < x.tmod p ∧ x.tmod p < p := by
  have h1 := Int.emod_nonneg x (show p ≠ 0 by omega)
  have h2 := Int.emod_lt_of_pos x hp
  have e : (p.natAbs : Int) = p := by omega
  rw [Int.tmod_eq_emod]
  split
  · omega
  · rename_i h
    have : x % p ≠ 0 := fun e0 => h (.inr (Int.dvd_of_emod_eq_zero e0))
    omega

/-- The product of two elements. -/
def timesL (k p : Int) (xs ys : List Int) : List Int :=
  if k = 1 ∨ k = 6 then [bits .and .i64 (xs.getD 0 0) (ys.getD 0 0)] else if k = 3 then [min (xs.getD 0 0 * ys.getD 0 0) p] else if k = 4 then [min (xs.getD 0 0 + ys.getD 0 0) p]
  else if k = 5 then [min (xs.getD 0 0) (ys.getD 0 0)] else (List.range xs.length).map fun c => convC xs.length (k == 8) (fun i => xs.getD i 0) (fun i => ys.getD i 0) c % p
end Go.Proofs.Ytfcobkkpkppodaa
