
/- Homomorphisms keep zero, one, sums and products. -/
import Derived.Test.YtfdjlahaiogababImage2
import Derived.Test.YtfdjlahaiogababPairsMath
namespace Go.Proofs.Ytfdjlahaiogabab
set_option maxRecDepth 20000
open Go.RowKit

def zI (k p : Int) : Int := if k = 4 then p else 0
def oI (k p n : Int) : Int := if k = 5 ∨ k = 6 then topI k p n else if k = 4 then 0 else 1
/-- The map keeps elements, zero, one, sums and products. -/
structure HomP (fk fp fn tk tp tn : Int) (img : List Int → List Int) : Prop where
  elem : ∀ xs, ElemV fk fp fn xs → ElemV tk tp tn (img xs)
  zero : img (zeroL fk fp fn) = zeroL tk tp tn
  one : img (oneL fk fp fn) = oneL tk tp tn
  plus : ∀ xs ys, ElemV fk fp fn xs → ElemV fk fp fn ys → img (plusL fk fp xs ys) = plusL tk tp (img xs) (img ys)
  times : ∀ xs ys, ElemV fk fp fn xs → ElemV fk fp fn ys → img (timesL fk fp xs ys) = timesL tk tp (img xs) (img ys)
theorem zero_low {k p n : Int} (h : ¬ high k) : zeroL k p n = [zI k p] := by
  rw [zero_LL (m := 1) (by rw [low_width h]; rfl)]; rfl
theorem one_low2 {k p n : Int} (h : ¬ high k) : oneL k p n = [oI k p n] := one_low h
theorem plus_one (k p x y : Int) : plusL k p [x] [y] = [plusI k p x y] := by simp [plusL]
theorem elem_one {k p n x : Int} (h : ¬ high k) (hx : 0 ≤ x ∧ x ≤ topI k p n) : ElemV k p n [x] :=
  ⟨by rw [low_width h]; rfl, fun y hy => by rw [List.mem_singleton] at hy; subst hy; exact hx⟩
theorem elem_val {k p n : Int} {xs : List Int} (h : ¬ high k) (hx : ElemV k p n xs) : ∃ x, xs = [x] ∧ 0 ≤ x ∧ x ≤ topI k p n := by
  refine ⟨xs.getD 0 0, low_form h hx, ?_⟩
  have h1 := low_form h hx
  exact hx.2 _ (by rw [h1]; simp)
theorem times_one_low {k p n x y : Int} (hr : ringB k p n = true) (h : ¬ high k) : timesL k p [x] [y] = [timesI k p x y] := by rw [times_low hr h]; rfl
theorem hom_low {fk fp fn tk tp tn : Int} {img : List Int → List Int} (hf : ringB fk fp fn = true) (ht : ringB tk tp tn = true) (h1 : ¬ high fk) (h2 : ¬ high tk) (g : Int → Int) (hi : ∀ x, 0 ≤ x → x ≤ topI fk fp fn → img [x] = [g x])
    (hg : ∀ x, 0 ≤ x → x ≤ topI fk fp fn → 0 ≤ g x ∧ g x ≤ topI tk tp tn) (hz : g (zI fk fp) = zI tk tp) (ho : g (oI fk fp fn) = oI tk tp tn)
    (hp : ∀ x y, 0 ≤ x → x ≤ topI fk fp fn → 0 ≤ y → y ≤ topI fk fp fn → g (plusI fk fp x y) = plusI tk tp (g x) (g y))
    (hm : ∀ x y, 0 ≤ x → x ≤ topI fk fp fn → 0 ≤ y → y ≤ topI fk fp fn → g (timesI fk fp x y) = timesI tk tp (g x) (g y)) : HomP fk fp fn tk tp tn img := by
  have ez := zeroL_elem hf
  have eo := oneL_elem hf
  rw [zero_low h1] at ez
  rw [one_low2 h1] at eo
  have ez2 := ez.2 (zI fk fp) (by simp)
  have eo2 := eo.2 (oI fk fp fn) (by simp)
  refine ⟨fun xs hx => ?_, ?_, ?_, fun xs ys hx hy => ?_, fun xs ys hx hy => ?_⟩
  · obtain ⟨x, rfl, a, b⟩ := elem_val h1 hx
    rw [hi x a b]; exact elem_one h2 (hg x a b)
  · rw [zero_low h1, zero_low h2, hi _ ez2.1 ez2.2, hz]
  · rw [one_low2 h1, one_low2 h2, hi _ eo2.1 eo2.2, ho]
  · obtain ⟨x, rfl, a, b⟩ := elem_val h1 hx
    obtain ⟨y, rfl, c, d⟩ := elem_val h1 hy
    have e := plusI_range hf ⟨a, b⟩ ⟨c, d⟩
    rw [hi x a b, hi y c d, plus_one, plus_one, hi _ e.1 e.2, hp x y a b c d]
  · obtain ⟨x, rfl, a, b⟩ := elem_val h1 hx
    obtain ⟨y, rfl, c, d⟩ := elem_val h1 hy
    have e := timesI_range hf h1 ⟨a, b⟩ ⟨c, d⟩
    rw [hi x a b, hi y c d, times_one_low hf h1, times_one_low ht h2, hi _ e.1 e.2, hm x y a b c d]
def b01 (b : Bool) : Int := if b = true then 1 else 0
theorem b01_or (a b : Bool) : bits .or .i64 (b01 a) (b01 b) = b01 (a || b) := by cases a <;> cases b <;> decide
theorem b01_and (a b : Bool) : bits .and .i64 (b01 a) (b01 b) = b01 (a && b) := by cases a <;> cases b <;> decide
theorem low_of {k : Int} (h2 : k ≠ 2) (h7 : k ≠ 7) (h8 : k ≠ 8) : ¬ high k := by unfold high; omega
/-- A homomorphism to RBool is told by a test. -/
theorem hom_bit {fk fp fn tp tn : Int} {img : List Int → List Int} (hf : ringB fk fp fn = true) (ht : ringB 1 tp tn = true) (h1 : ¬ high fk) (t : Int → Bool) (hi : ∀ x, 0 ≤ x → x ≤ topI fk fp fn → img [x] = bitL (t x))
    (hz : t (zI fk fp) = false) (ho : t (oI fk fp fn) = true) (hp : ∀ x y, 0 ≤ x → x ≤ topI fk fp fn → 0 ≤ y → y ≤ topI fk fp fn → t (plusI fk fp x y) = (t x || t y))
    (hm : ∀ x y, 0 ≤ x → x ≤ topI fk fp fn → 0 ≤ y → y ≤ topI fk fp fn → t (timesI fk fp x y) = (t x && t y)) : HomP fk fp fn 1 tp tn img := by
  refine hom_low hf ht h1 (low_of (by decide) (by decide) (by decide)) (fun x => b01 (t x)) hi (fun x _ _ => ?_) ?_ ?_ (fun x y a b c d => ?_) (fun x y a b c d => ?_)
  · unfold b01 topI; split <;> simp
  · simp only [hz]; rfl
  · simp only [ho]; rfl
  · simp only [hp x y a b c d]
    show _ = bits .or .i64 _ _
    rw [b01_or]
  · simp only [hm x y a b c d]
    show _ = bits .and .i64 _ _
    rw [b01_and]
theorem and_one_test {z : Int} (h1 : 0 ≤ z) (h2 : z < 1073741824) : (bits .and .i64 z 1 == 1) = z.toNat.testBit 0 := by
  rw [bits_i64_and z 1 h1 h2 (by omega) (by omega), show (1 : Int).toNat = 1 from rfl, Nat.and_one_is_mod]
  rw [Bool.eq_iff_iff, beq_iff_eq, Nat.testBit_zero, decide_eq_true_eq]
  omega
theorem shift_test {x : Int} (c : Nat) (h1 : 0 ≤ x) (h2 : x < 1073741824) : (bits .and .i64 (x / 2 ^ c) 1 == 1) = x.toNat.testBit c := by
  obtain ⟨X, rfl⟩ := Int.eq_ofNat_of_zero_le h1
  have e : (X : Int) / 2 ^ c = ((X / 2 ^ c : Nat) : Int) := by simp
  have hle : X / 2 ^ c ≤ X := Nat.div_le_self _ _
  rw [e, and_one_test (Int.natCast_nonneg _) (by omega), Int.toNat_natCast, Int.toNat_natCast, Nat.testBit_div_two_pow]
  simp
theorem top6_nat (p n : Int) : (topI 6 p n).toNat = 2 ^ n.toNat - 1 := by
  have : topI 6 p n = ((2 ^ n.toNat - 1 : Nat) : Int) := by
    have h1 : 1 ≤ 2 ^ n.toNat := Nat.one_le_two_pow
    rw [Int.natCast_sub h1]; simp [topI]
  rw [this, Int.toNat_natCast]
/-- HBit. -/
theorem hom3 {fp fn tp tn ha : Int} (hf : ringB 6 fp fn = true) (ht : ringB 1 tp tn = true) (h1 : 0 ≤ ha) (h2 : ha < fn) : HomP 6 fp fn 1 tp tn (imageL 6 1 tp tn 3 ha) := by
  have hr := ring_cases hf
  have hl : ¬ high 6 := low_of (by decide) (by decide) (by decide)
  have hb : ∀ x, 0 ≤ x → x ≤ topI 6 fp fn → x < 1073741824 := fun x a b => or_nat hf ⟨a, b⟩
  refine hom_bit hf ht hl (fun x => x.toNat.testBit ha.toNat) (fun x a b => ?_) ?_ ?_ (fun x y a b c d => ?_) (fun x y a b c d => ?_)
  · simp [imageL, shift_test ha.toNat a (hb x a b)]
  · simp [zI]
  · show (topI 6 fp fn).toNat.testBit ha.toNat = true
    rw [top6_nat, Nat.testBit_two_pow_sub_one]
    simp; omega
  · show (bits .or .i64 x y).toNat.testBit _ = _
    rw [bits_i64_or x y a (hb x a b) c (hb y c d), Int.toNat_natCast, Nat.testBit_or]
  · show (bits .and .i64 x y).toNat.testBit _ = _
    rw [bits_i64_and x y a (hb x a b) c (hb y c d), Int.toNat_natCast, Nat.testBit_and]
/-- HLevel. -/
theorem hom4 {fp fn tp tn ha : Int} (hf : ringB 5 fp fn = true) (ht : ringB 1 tp tn = true) (h1 : 1 ≤ ha) (h2 : ha ≤ fp) : HomP 5 fp fn 1 tp tn (imageL 5 1 tp tn 4 ha) := by
  refine hom_bit hf ht (low_of (by decide) (by decide) (by decide)) (fun x => decide (ha ≤ x)) (fun x a b => by simp [imageL]) ?_ ?_ (fun x y a b c d => ?_) (fun x y a b c d => ?_)
  · simp [zI]; omega
  · simp [oI, topI]; omega
  · show decide (ha ≤ max x y) = _
    rw [Bool.eq_iff_iff]; simp; omega
  · show decide (ha ≤ min x y) = _
    rw [Bool.eq_iff_iff]; simp; omega
theorem mul_pos_iff {x y : Int} (h1 : 0 ≤ x) (h2 : 0 ≤ y) : 0 < x * y ↔ 0 < x ∧ 0 < y := by
  constructor
  · intro h
    by_cases a : x = 0
    · subst a; simp at h
    · by_cases b : y = 0
      · subst b; simp at h
      · omega
  · intro h; exact Int.mul_pos h.1 h.2
/-- HTrue of RCap. -/
theorem hom23 {fp fn tp tn : Int} (hf : ringB 3 fp fn = true) (ht : ringB 1 tp tn = true) : HomP 3 fp fn 1 tp tn (imageL 3 1 tp tn 2 0) := by
  have hr := ring_cases hf
  refine hom_bit hf ht (low_of (by decide) (by decide) (by decide)) (fun x => decide (0 < x)) (fun x a b => by simp [imageL]) ?_ ?_ (fun x y a b c d => ?_) (fun x y a b c d => ?_)
  · simp [zI]
  · simp [oI]
  · show decide (0 < min (x + y) fp) = _
    rw [Bool.eq_iff_iff]; simp; omega
  · show decide (0 < min (x * y) fp) = _
    have := mul_pos_iff a c
    rw [Bool.eq_iff_iff]; simp; omega
/-- HTrue of RMin. -/
theorem hom24 {fp fn tp tn : Int} (hf : ringB 4 fp fn = true) (ht : ringB 1 tp tn = true) : HomP 4 fp fn 1 tp tn (imageL 4 1 tp tn 2 0) := by
  have hr := ring_cases hf
  refine hom_bit hf ht (low_of (by decide) (by decide) (by decide)) (fun x => x == 0) (fun x a b => by simp [imageL]) ?_ ?_ (fun x y a b c d => ?_) (fun x y a b c d => ?_)
  · simp [zI]; omega
  · simp [oI]
  · show (min x y == 0) = _
    rw [Bool.eq_iff_iff]; simp; omega
  · show (min (x + y) fp == 0) = _
    rw [Bool.eq_iff_iff]; simp; omega
end Go.Proofs.Ytfdjlahaiogabab
namespace Go.Proofs.Ytfdjlahaiogabab
set_option maxRecDepth 20000
open Go.RowKit

theorem l3 : ¬ high 3 := low_of (by decide) (by decide) (by decide)
theorem l4 : ¬ high 4 := low_of (by decide) (by decide) (by decide)
theorem l5 : ¬ high 5 := low_of (by decide) (by decide) (by decide)
theorem l6 : ¬ high 6 := low_of (by decide) (by decide) (by decide)
theorem l1 : ¬ high 1 := low_of (by decide) (by decide) (by decide)
/-- HCut of RCap. -/
theorem hom73 {fp fn tp tn : Int} (hf : ringB 3 fp fn = true) (ht : ringB 3 tp tn = true) (h : tp ≤ fp) : HomP 3 fp fn 3 tp tn (imageL 3 3 tp tn 7 0) := by
  have r1 := ring_cases hf
  have r2 := ring_cases ht
  refine hom_low hf ht l3 l3 (fun x => min x tp) (fun x a b => by simp [imageL, cutL]) (fun x a b => by simp [topI]; omega) ?_ ?_ (fun x y a b c d => ?_) (fun x y a b c d => ?_)
  · simp [zI]; omega
  · simp [oI]; omega
  · show min (min (x + y) fp) tp = min (min x tp + min y tp) tp
    omega
  · show min (min (x * y) fp) tp = min (min x tp * min y tp) tp
    rw [min_times a (by omega) (by omega), Int.mul_comm x (min y tp), min_times c a (by omega), Int.mul_comm y x]
    omega
/-- HCut of RMin. -/
theorem hom74 {fp fn tp tn : Int} (hf : ringB 4 fp fn = true) (ht : ringB 4 tp tn = true) (h : tp ≤ fp) : HomP 4 fp fn 4 tp tn (imageL 4 4 tp tn 7 0) := by
  have r1 := ring_cases hf
  have r2 := ring_cases ht
  refine hom_low hf ht l4 l4 (fun x => min x tp) (fun x a b => by simp [imageL, cutL]) (fun x a b => by simp [topI]; omega) ?_ ?_ (fun x y a b c d => ?_) (fun x y a b c d => ?_)
  · simp [zI]; omega
  · simp [oI]; omega
  · show min (min x y) tp = min (min x tp) (min y tp)
    omega
  · show min (min (x + y) fp) tp = min (min x tp + min y tp) tp
    omega
/-- HCut of RWide. -/
theorem hom75 {fp fn tp tn : Int} (hf : ringB 5 fp fn = true) (ht : ringB 5 tp tn = true) (h : tp ≤ fp) : HomP 5 fp fn 5 tp tn (imageL 5 5 tp tn 7 0) := by
  have r1 := ring_cases hf
  have r2 := ring_cases ht
  refine hom_low hf ht l5 l5 (fun x => min x tp) (fun x a b => by simp [imageL, cutL]) (fun x a b => by simp [topI]; omega) ?_ ?_ (fun x y a b c d => ?_) (fun x y a b c d => ?_)
  · simp [zI]; omega
  · simp [oI, topI]; omega
  · show min (max x y) tp = max (min x tp) (min y tp)
    omega
  · show min (min x y) tp = min (min x tp) (min y tp)
    omega
/-- HCut of RSet. -/
theorem hom76 {fp fn tp tn : Int} (hf : ringB 6 fp fn = true) (ht : ringB 6 tp tn = true) (h : tn ≤ fn) : HomP 6 fp fn 6 tp tn (imageL 6 6 tp tn 7 0) := by
  have r1 := ring_cases hf
  have r2 := ring_cases ht
  have tt := ring_top ht
  have tf := ring_top hf
  have e1 := top6_nat tp tn
  have e2 := top6_nat fp fn
  have hb : ∀ x, 0 ≤ x → x ≤ topI 6 fp fn → x < 1073741824 := fun x a b => or_nat hf ⟨a, b⟩
  have key : ∀ x, 0 ≤ x → x ≤ topI 6 fp fn → bits .and .i64 x (topI 6 tp tn) = ((x.toNat &&& (2 ^ tn.toNat - 1) : Nat) : Int) := fun x a b => by
    rw [bits_i64_and x _ a (hb x a b) (by omega) (by omega), e1]
  refine hom_low hf ht l6 l6 (fun x => bits .and .i64 x (topI 6 tp tn)) (fun x a b => by simp [imageL, cutL]) (fun x a b => ?_) ?_ ?_ (fun x y a b c d => ?_) (fun x y a b c d => ?_)
  · rw [key x a b]
    have := @Nat.and_le_right x.toNat (2 ^ tn.toNat - 1)
    omega
  · show bits .and .i64 0 (topI 6 tp tn) = 0
    rw [key 0 (by omega) (by omega)]; simp
  · show bits .and .i64 (topI 6 fp fn) (topI 6 tp tn) = topI 6 tp tn
    rw [key _ (by omega) (by omega), e2]
    have h2 : (2 ^ fn.toNat - 1) &&& (2 ^ tn.toNat - 1) = 2 ^ tn.toNat - 1 := by
      apply Nat.eq_of_testBit_eq
      intro i
      rw [Nat.testBit_and, Nat.testBit_two_pow_sub_one, Nat.testBit_two_pow_sub_one, Bool.eq_iff_iff]
      simp; omega
    rw [h2]; omega
  · show bits .and .i64 (bits .or .i64 x y) (topI 6 tp tn) = bits .or .i64 (bits .and .i64 x (topI 6 tp tn)) (bits .and .i64 y (topI 6 tp tn))
    have e := plusI_range hf ⟨a, b⟩ ⟨c, d⟩
    have e3 : plusI 6 fp x y = bits .or .i64 x y := rfl
    rw [e3] at e
    have g1 := @Nat.and_le_right x.toNat (2 ^ tn.toNat - 1)
    have g2 := @Nat.and_le_right y.toNat (2 ^ tn.toNat - 1)
    rw [key _ e.1 e.2, key x a b, key y c d, bits_i64_or x y a (hb x a b) c (hb y c d), bits_i64_or _ _ (by omega) (by omega) (by omega) (by omega)]
    simp only [Int.toNat_natCast]
    congr 1
    apply Nat.eq_of_testBit_eq
    intro i
    simp only [Nat.testBit_and, Nat.testBit_or]
    cases x.toNat.testBit i <;> cases y.toNat.testBit i <;> simp
  · show bits .and .i64 (bits .and .i64 x y) (topI 6 tp tn) = bits .and .i64 (bits .and .i64 x (topI 6 tp tn)) (bits .and .i64 y (topI 6 tp tn))
    have e := timesI_range hf l6 ⟨a, b⟩ ⟨c, d⟩
    have e3 : timesI 6 fp x y = bits .and .i64 x y := rfl
    rw [e3] at e
    have g1 := @Nat.and_le_right x.toNat (2 ^ tn.toNat - 1)
    have g2 := @Nat.and_le_right y.toNat (2 ^ tn.toNat - 1)
    rw [key _ e.1 e.2, key x a b, key y c d, bits_i64_and x y a (hb x a b) c (hb y c d), bits_i64_and _ _ (by omega) (by omega) (by omega) (by omega)]
    simp only [Int.toNat_natCast]
    congr 1
    apply Nat.eq_of_testBit_eq
    intro i
    simp only [Nat.testBit_and]
    cases x.toNat.testBit i <;> cases y.toNat.testBit i <;> simp
theorem oI_range {k p n : Int} (hr : ringB k p n = true) (h : ¬ high k) : 0 ≤ oI k p n ∧ oI k p n ≤ topI k p n := by
  have e := oneL_elem hr
  rw [one_low2 h] at e
  exact e.2 _ (by simp)
theorem zI_range {k p n : Int} (hr : ringB k p n = true) (h : ¬ high k) : 0 ≤ zI k p ∧ zI k p ≤ topI k p n := by
  have e := zeroL_elem hr
  rw [zero_low h] at e
  exact e.2 _ (by simp)
theorem times_oI {k p n x : Int} (hr : ringB k p n = true) (h : ¬ high k) (hx : 0 ≤ x ∧ x ≤ topI k p n) : timesI k p x (oI k p n) = x := by
  have e := (times_one hr (elem_one h hx)).1
  rw [one_low2 h, times_one_low hr h] at e
  simpa using e
theorem times_zI {k p n x : Int} (hr : ringB k p n = true) (h : ¬ high k) (hx : 0 ≤ x ∧ x ≤ topI k p n) : timesI k p x (zI k p) = zI k p := by
  have e := times_zero hr (elem_one h hx)
  rw [zero_low h, times_one_low hr h] at e
  simpa using e
/-- HOne. -/
theorem hom8 {fp fn tk tp tn : Int} (hf : ringB 1 fp fn = true) (ht : ringB tk tp tn = true) (hk : tk = 4 ∨ tk = 5 ∨ tk = 6) : HomP 1 fp fn tk tp tn (imageL 1 tk tp tn 8 0) := by
  have hl : ¬ high tk := low_of (by omega) (by omega) (by omega)
  have ho := oI_range ht hl
  have hz := zI_range ht hl
  have c1 : ∀ x : Int, 0 ≤ x → x ≤ topI 1 fp fn → x = 0 ∨ x = 1 := fun x a b => by simp [topI] at b; omega
  have poo : plusI tk tp (oI tk tp tn) (oI tk tp tn) = oI tk tp tn := by
    rcases hk with rfl | rfl | rfl
    · simp [plusI, oI]
    · simp [plusI, oI]
    · show bits .or .i64 (topI 6 tp tn) (topI 6 tp tn) = topI 6 tp tn
      have tt := ring_top ht
      rw [bits_i64_or _ _ (by omega) (by omega) (by omega) (by omega), Nat.or_self]; omega
  refine hom_low hf ht l1 hl (fun x => if x = 0 then zI tk tp else oI tk tp tn) (fun x a b => ?_) (fun x a b => ?_) ?_ ?_ (fun x y a b c d => ?_) (fun x y a b c d => ?_)
  · rcases c1 x a b with rfl | rfl
    · simp [imageL, zero_low hl]
    · simp [imageL, one_low2 hl]
  · split
    · exact hz
    · exact ho
  · simp [zI]
  · simp [oI]
  · have e0 : bits .or .i64 0 0 = 0 := by decide
    have e1 : bits .or .i64 0 1 = 1 := by decide
    have e2 : bits .or .i64 1 0 = 1 := by decide
    have e3 : bits .or .i64 1 1 = 1 := by decide
    have pz : ∀ u, 0 ≤ u ∧ u ≤ topI tk tp tn → plusI tk tp u (zI tk tp) = u := fun u hu => plusI_zero ht hu
    rcases c1 x a b with rfl | rfl <;> rcases c1 y c d with rfl | rfl <;> simp only [plusI, true_or, if_true, e0, e1, e2, e3]
    · simpa [plusI] using (pz _ hz).symm
    · have := pz _ ho; rw [plusI_comm ht ho hz] at this; simpa [plusI] using this.symm
    · simpa [plusI] using (pz _ ho).symm
    · simpa [plusI] using poo.symm
  · have e0 : bits .and .i64 0 0 = 0 := by decide
    have e1 : bits .and .i64 0 1 = 0 := by decide
    have e2 : bits .and .i64 1 0 = 0 := by decide
    have e3 : bits .and .i64 1 1 = 1 := by decide
    rcases c1 x a b with rfl | rfl <;> rcases c1 y c d with rfl | rfl <;> simp only [timesI, true_or, if_true, e0, e1, e2, e3]
    · simpa [timesI] using (times_zI ht hl hz).symm
    · simpa [timesI] using (times_oI ht hl hz).symm
    · simpa [timesI] using (times_zI ht hl ho).symm
    · simpa [timesI] using (times_oI ht hl ho).symm
end Go.Proofs.Ytfdjlahaiogabab
namespace Go.Proofs.Ytfdjlahaiogabab
set_option maxRecDepth 20000
open Go.RowKit

theorem h2' : high 2 := .inl rfl
theorem h7' : high 7 := .inr (.inl rfl)
theorem h8' : high 8 := .inr (.inr rfl)
/-- HSame. -/
theorem hom1 {k p n : Int} (hr : ringB k p n = true) : HomP k p n k p n (imageL k k p n 1 0) := by
  have hi : ∀ xs, ElemV k p n xs → imageL k k p n 1 0 xs = xs := fun xs hx => by simp [imageL, ← hx.1]
  refine ⟨fun xs hx => ?_, hi _ (zeroL_elem hr), hi _ (oneL_elem hr), fun xs ys hx hy => ?_, fun xs ys hx hy => ?_⟩
  · rw [hi xs hx]; exact hx
  · rw [hi xs hx, hi ys hy, hi _ (plusL_elem hr hx hy)]
  · rw [hi xs hx, hi ys hy, hi _ (timesL_elem hr hx hy)]
theorem LL_take {m q : Nat} (h : q ≤ m) (f : Nat → Int) : (LL m f).take q = LL q f := by
  unfold LL
  rw [← List.map_take, List.take_range, Nat.min_eq_left h]
theorem conv_cut {m q : Nat} (hm : m ≤ 6) (hq : q ≤ m) (X Y : Nat → Int) (c : Nat) (hc : c < q) : convC m false X Y c = convC q false X Y c := by
  have h1 : m = 0 ∨ m = 1 ∨ m = 2 ∨ m = 3 ∨ m = 4 ∨ m = 5 ∨ m = 6 := by omega
  have h2 : q = 1 ∨ q = 2 ∨ q = 3 ∨ q = 4 ∨ q = 5 ∨ q = 6 := by omega
  have h3 : c = 0 ∨ c = 1 ∨ c = 2 ∨ c = 3 ∨ c = 4 ∨ c = 5 := by omega
  rcases h1 with rfl | rfl | rfl | rfl | rfl | rfl | rfl <;> rcases h2 with rfl | rfl | rfl | rfl | rfl | rfl <;> first
    | omega
    | (rcases h3 with rfl | rfl | rfl | rfl | rfl | rfl <;> first | omega | simp [convC, sumN, dC])
theorem plusI_high {k p : Int} (h : high k) (a b : Int) : plusI k p a b = (a + b) % p := by
  unfold high at h
  unfold plusI
  rw [if_neg (by omega), if_neg (by omega), if_neg (by omega), if_neg (by omega)]
theorem top_high {k p n : Int} (h : high k) : topI k p n = p - 1 := by
  unfold high at h
  unfold topI
  rw [if_neg (by omega), if_neg (by omega), if_pos (by omega)]
theorem zero_high {k p n : Int} (h : high k) {m : Nat} (hm : (m : Int) = widthI k n) : zeroL k p n = LL m fun _ => 0 := by
  rw [zero_LL hm]
  unfold high at h
  rw [if_neg (by omega)]
theorem times_LL {k p : Int} (h : high k) (m : Nat) (f g : Nat → Int) : timesL k p (LL m f) (LL m g) = LL m fun c => convC m (k == 8) f g c % p := by
  rw [times_high h, LL_len]
  refine LL_congr fun c _ => ?_
  rw [conv_congr (fun i hi => LL_at hi) (fun i hi => LL_at hi)]
theorem elem_LL {k p n : Int} {m : Nat} {xs : List Int} (hm : (m : Int) = widthI k n) (hx : ElemV k p n xs) : ∃ f, xs = LL m f ∧ ∀ i, i < m → 0 ≤ f i ∧ f i ≤ topI k p n := by
  have h1 := hx.1
  obtain rfl : m = xs.length := by omega
  refine ⟨fun i => xs.getD i 0, LL_of xs, fun i hi => ?_⟩
  have e : xs.getD i 0 = xs[i] := by rw [List.getD_eq_getElem?_getD, List.getElem?_eq_getElem hi]; rfl
  show 0 ≤ xs.getD i 0 ∧ xs.getD i 0 ≤ topI k p n
  rw [e]
  exact hx.2 _ (List.getElem_mem hi)
/-- From one ring of polynomials to a shorter one, and to the constants. -/
theorem hom_cut {fk p fn tk tn : Int} {img : List Int → List Int} {m q : Nat} (hf : ringB fk p fn = true) (_ht : ringB tk p tn = true) (h1 : high fk) (h2 : high tk) (n8 : fk ≠ 8) (n8' : tk ≠ 8) (hm : (m : Int) = widthI fk fn) (hq : (q : Int) = widthI tk tn) (hqm : q ≤ m) (hi : ∀ xs, img xs = xs.take q) : HomP fk p fn tk p tn img := by
  have hm6 : m ≤ 6 := by have := ring_width hf; omega
  have e8 : (fk == 8) = false := by simpa using n8
  have e8' : (tk == 8) = false := by simpa using n8'
  refine ⟨fun xs hx => ?_, ?_, ?_, fun xs ys hx hy => ?_, fun xs ys hx hy => ?_⟩
  · obtain ⟨f, rfl, hr⟩ := elem_LL hm hx
    rw [hi, LL_take hqm]
    refine LL_elem hq fun i hlt => ?_
    have := hr i (by omega)
    rw [top_high h1] at this
    rw [top_high h2]; exact this
  · rw [hi, zero_high h1 hm, zero_high h2 hq, LL_take hqm]
  · rw [hi, one_high h1 hm, one_high h2 hq, LL_take hqm]
  · obtain ⟨f, rfl, -⟩ := elem_LL hm hx
    obtain ⟨g, rfl, -⟩ := elem_LL hm hy
    rw [hi, hi, hi, plus_LL, LL_take hqm, LL_take hqm, LL_take hqm, plus_LL]
    refine LL_congr fun i _ => ?_
    rw [plusI_high h1, plusI_high h2]
  · obtain ⟨f, rfl, -⟩ := elem_LL hm hx
    obtain ⟨g, rfl, -⟩ := elem_LL hm hy
    rw [hi, hi, hi, times_LL h1, LL_take hqm, LL_take hqm, LL_take hqm, times_LL h2, e8, e8']
    exact LL_congr fun c hc => by rw [conv_cut hm6 hqm f g c hc]
/-- The value of four coefficients. -/
def polyV (a : Int) (f : Nat → Int) : Int := f 3 * (a * a * a) + f 2 * (a * a) + f 1 * a + f 0
theorem mod_part (u p : Int) : ∃ q, u % p = u - p * q := ⟨u / p, by rw [Int.emod_def]⟩
theorem mod_same {x y p z : Int} (h : x = y - p * z) : x % p = y % p := by rw [h, Int.sub_mul_emod_self_left]
theorem horn_poly (a p : Int) (f : Nat → Int) : hornV a p (LL 4 f).reverse = polyV a f % p := by
  have e : (LL 4 f).reverse = [f 3, f 2, f 1, f 0] := by simp [LL, List.range_succ]
  rw [e]
  show (((((((0 * a + f 3) % p) * a + f 2) % p) * a + f 1) % p) * a + f 0) % p = _
  obtain ⟨q1, e1⟩ := mod_part (0 * a + f 3) p
  rw [e1]
  obtain ⟨q2, e2⟩ := mod_part ((0 * a + f 3 - p * q1) * a + f 2) p
  rw [e2]
  obtain ⟨q3, e3⟩ := mod_part (((0 * a + f 3 - p * q1) * a + f 2 - p * q2) * a + f 1) p
  rw [e3]
  apply mod_same (z := q1 * (a * a * a) + q2 * (a * a) + q3 * a)
  unfold polyV
  grind
theorem poly_mod (a p : Int) (f : Nat → Int) : polyV a (fun i => f i % p) % p = polyV a f % p := by
  obtain ⟨q0, e0⟩ := mod_part (f 0) p
  obtain ⟨q1, e1⟩ := mod_part (f 1) p
  obtain ⟨q2, e2⟩ := mod_part (f 2) p
  obtain ⟨q3, e3⟩ := mod_part (f 3) p
  apply mod_same (z := q3 * (a * a * a) + q2 * (a * a) + q1 * a + q0)
  unfold polyV
  simp only [e0, e1, e2, e3]
  grind
theorem poly_add (a : Int) (f g : Nat → Int) : polyV a (fun i => f i + g i) = polyV a f + polyV a g := by unfold polyV; grind
theorem poly_conv (a : Int) (f g : Nat → Int) : ∃ z, polyV a (convC 4 true f g) = polyV a f * polyV a g - (a * a * (a * a) + 1) * z := by
  refine ⟨f 3 * g 3 * (a * a) + (f 2 * g 3 + f 3 * g 2) * a + (f 1 * g 3 + f 2 * g 2 + f 3 * g 1), ?_⟩
  unfold polyV
  simp [convC, sumN, dC]
  grind
theorem root_dvd {a p : Int} (h : RootV a p) : ∃ z, a * a * (a * a) + 1 = p * z := by
  obtain ⟨h1, h2, h3⟩ := h
  obtain ⟨q1, e1⟩ := mod_part (a * a) p
  obtain ⟨q2, e2⟩ := mod_part (a * a % p * (a * a % p)) p
  rw [e2, e1] at h3
  refine ⟨1 + q2 + 2 * q1 * (a * a) - p * q1 * q1, ?_⟩
  grind
theorem hornS (a p x : Int) : plusL 2 p [x % p] [a % p] = [(x + a) % p] := by
  rw [plus_one, plusI_high h2', Int.emod_add_emod, Int.add_emod_emod]
/-- HRoot. -/
theorem hom6 {p fn tn ha : Int} (_hf : ringB 8 p fn = true) (ht : ringB 2 p tn = true) (h : RootV ha p) : HomP 8 p fn 2 p tn (imageL 8 2 p tn 6 ha) := by
  have hr := ring_cases ht
  have hm : ((4 : Nat) : Int) = widthI 8 fn := rfl
  have hq : ((1 : Nat) : Int) = widthI 2 tn := rfl
  have hi : ∀ f, imageL 8 2 p tn 6 ha (LL 4 f) = LL 1 fun _ => polyV ha f % p := fun f => by
    have e : imageL 8 2 p tn 6 ha (LL 4 f) = [hornV ha p (LL 4 f).reverse] := by simp [imageL]
    rw [e, horn_poly]; rfl
  have ho : 1 % p = 1 := Int.emod_eq_of_lt (by omega) (by omega)
  obtain ⟨zr, er⟩ := root_dvd h
  refine ⟨fun xs hx => ?_, ?_, ?_, fun xs ys hx hy => ?_, fun xs ys hx hy => ?_⟩
  · obtain ⟨f, rfl, -⟩ := elem_LL hm hx
    rw [hi]
    refine LL_elem hq fun i _ => ?_
    rw [top_high h2']
    have h1 := Int.emod_nonneg (polyV ha f) (show p ≠ 0 by omega)
    have h2 := Int.emod_lt_of_pos (polyV ha f) (show 0 < p by omega)
    omega
  · rw [zero_high h8' hm, zero_high h2' hq, hi]
    exact LL_congr fun i _ => by simp [polyV]
  · rw [one_high h8' hm, one_high h2' hq, hi]
    exact LL_congr fun i hi => by obtain rfl : i = 0 := by omega
                                  simp [polyV, ho]
  · obtain ⟨f, rfl, -⟩ := elem_LL hm hx
    obtain ⟨g, rfl, -⟩ := elem_LL hm hy
    rw [hi, hi, plus_LL, plus_LL, hi]
    refine LL_congr fun i _ => ?_
    rw [plusI_high h2', Int.emod_add_emod, Int.add_emod_emod, ← poly_add, ← poly_mod ha p (fun i => f i + g i)]
    congr 2
  · obtain ⟨f, rfl, -⟩ := elem_LL hm hx
    obtain ⟨g, rfl, -⟩ := elem_LL hm hy
    rw [hi, hi, times_LL h8', times_LL h2', hi]
    refine LL_congr fun i hlt => ?_
    obtain rfl : i = 0 := by omega
    obtain ⟨z, ez⟩ := poly_conv ha f g
    have e1 : convC 1 ((2 : Int) == 8) (fun _ => polyV ha f % p) (fun _ => polyV ha g % p) 0 = polyV ha f % p * (polyV ha g % p) := by simp [convC, sumN, dC]
    have e2 : ((8 : Int) == 8) = true := rfl
    rw [e1, e2, poly_mod, mul_mod_left, mul_mod_right]
    apply mod_same (z := zr * z)
    rw [ez, er]
    grind
/-- Every valid homomorphism. -/
theorem hom_any {fk fp fn tk tp tn hk ha : Int} (hh : homB fk fp fn tk tp tn hk ha = true) : HomP fk fp fn tk tp tn (imageL fk tk tp tn hk ha) := by
  obtain ⟨hf, ht, hv⟩ := homB_parts hh
  have hrf := ring_cases hf
  have hrt := ring_cases ht
  rcases hv with ⟨rfl, rfl, rfl, q1, q2⟩ | ⟨rfl, rfl, rfl, q1, q2⟩ | ⟨rfl, rfl, rfl, rfl, q1⟩ | ⟨n3, n4, n6, rfl, hv⟩
  · exact hom3 hf ht q1 q2
  · exact hom4 hf ht q1 q2
  · exact hom6 hf ht (root_iff q1)
  · rcases hv with ⟨rfl, rfl, rfl, rfl⟩ | ⟨rfl, q1, rfl⟩ | ⟨rfl, rfl, rfl, rfl⟩ | ⟨rfl, rfl, hcut⟩ | ⟨rfl, rfl, q1⟩
    · exact hom1 hf
    · rcases q1 with rfl | rfl
      · exact hom23 hf ht
      · exact hom24 hf ht
    · obtain ⟨m, em⟩ := Int.eq_ofNat_of_zero_le (show 0 ≤ fn by omega)
      exact hom_cut (m := m) (q := 1) hf ht h7' h2' (by decide) (by decide) (by rw [em]; rfl) rfl (by omega) (fun xs => by simp [imageL, widthI])
    · unfold CutV at hcut
      rcases hcut with ⟨q1, q2⟩ | ⟨rfl, rfl, q2⟩ | ⟨rfl, q2⟩
      · rcases q1 with rfl | rfl | rfl
        · exact hom73 hf ht q2
        · exact hom74 hf ht q2
        · exact hom75 hf ht q2
      · obtain ⟨m, em⟩ := Int.eq_ofNat_of_zero_le (show 0 ≤ fn by omega)
        obtain ⟨q, eq⟩ := Int.eq_ofNat_of_zero_le (show 0 ≤ tn by omega)
        exact hom_cut (m := m) (q := q) hf ht h7' h7' (by decide) (by decide) (by rw [em]; rfl) (by rw [eq]; rfl) (by omega) (fun xs => by rw [eq]; simp [imageL, cutL])
      · exact hom76 hf ht q2
    · exact hom8 hf ht q1
end Go.Proofs.Ytfdjlahaiogabab
