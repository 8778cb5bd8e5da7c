/- Homomorphisms as plain mathematics; isRoot, isCut, connectsWithoutArg, connects. -/
import Derived.Test.YtjkajbbipgmdoaaRingFns
namespace Go.Proofs.Ytjkajbbipgmdoaa
open Go.RowKit

abbrev homV (k a : Int) : Value := .agg #[.int .i64 k, .int .i64 a]
abbrev homC (k a : Int) : Array Value := #[.int .i64 k, .int .i64 a]
/-- The fourth power of a is -1 modulo p, a from 1 to p - 1. -/
def RootV (a p : Int) : Prop := 1 ≤ a ∧ a < p ∧ (a * a % p) * (a * a % p) % p = p - 1
open Classical in
noncomputable def rootI (a p : Int) : Int := if RootV a p then 1 else 0
def CutV (fk fp fn tp tn : Int) : Prop := (fk = 3 ∨ fk = 4 ∨ fk = 5) ∧ tp ≤ fp ∨ fk = 7 ∧ tp = fp ∧ tn ≤ fn ∨ fk = 6 ∧ tn ≤ fn
def BareV (fk fp fn tk tp tn hk : Int) : Prop :=
  hk = 1 ∧ fk = tk ∧ fp = tp ∧ fn = tn ∨ hk = 2 ∧ (fk = 3 ∨ fk = 4) ∧ tk = 1 ∨ hk = 5 ∧ fk = 7 ∧ tk = 2 ∧ tp = fp ∨ hk = 7 ∧ tk = fk ∧ CutV fk fp fn tp tn ∨ hk = 8 ∧ fk = 1 ∧ (tk = 4 ∨ tk = 5 ∨ tk = 6)
def HomV (fk fp fn tk tp tn hk ha : Int) : Prop :=
  hk = 3 ∧ fk = 6 ∧ tk = 1 ∧ 0 ≤ ha ∧ ha < fn ∨ hk = 4 ∧ fk = 5 ∧ tk = 1 ∧ 1 ≤ ha ∧ ha ≤ fp ∨ hk = 6 ∧ fk = 8 ∧ tk = 2 ∧ tp = fp ∧ rootI ha fp = 1 ∨
    hk ≠ 3 ∧ hk ≠ 4 ∧ hk ≠ 6 ∧ ha = 0 ∧ BareV fk fp fn tk tp tn hk
instance (fk fp fn tp tn : Int) : Decidable (CutV fk fp fn tp tn) := by unfold CutV; infer_instance
instance (fk fp fn tk tp tn hk : Int) : Decidable (BareV fk fp fn tk tp tn hk) := by unfold BareV; infer_instance
noncomputable instance (fk fp fn tk tp tn hk ha : Int) : Decidable (HomV fk fp fn tk tp tn hk ha) := by unfold HomV; infer_instance
theorem rootI_cases (a p : Int) : rootI a p = 1 ∧ RootV a p ∨ rootI a p = 0 ∧ ¬ RootV a p := by
  unfold rootI
  by_cases h : RootV a p
  · exact .inl ⟨if_pos h, h⟩
  · exact .inr ⟨if_neg h, h⟩

theorem ret_bool {b : Bool} {P : Prop} [Decidable P] {w0 w : World} (h : b = true ↔ P) (hb : Below w0.heap.size w0 w) : Ending.returned (.bool b) = .returned (.bool (decide P)) ∧ Below w0.heap.size w0 w :=
  ⟨by rw [show b = decide P from by rw [Bool.eq_iff_iff]; simpa using h], hb⟩

set_option maxHeartbeats 800000 in
theorem is_cut (fk fp fn tk tp tn : Int) (w : World) :
    Calls Try.prog 96 #[ringV fk fp fn, ringV tk tp tn] w fun e w' => e = .returned (.bool (decide (CutV fk fp fn tp tn))) ∧ Below w.heap.size w w' := by
  go_enter Try.func96, Try.ntmps96
  go_wp2
  all_goals (go_ret; refine ret_bool ?_ (((Below.refl _ _).alloc (Nat.le_refl _) _).alloc (by simp) _))
  all_goals (unfold CutV; (try simp only [beq_eq_false_iff_ne, ne_eq, beq_iff_eq] at *); (try simp only [decide_eq_true_eq, Bool.false_eq_true, false_iff]); omega)

set_option maxHeartbeats 1600000 in

theorem bare (fk fp fn tk tp tn hk ha : Int) (w : World) :
    Calls Try.prog 93 #[homV hk ha, ringV fk fp fn, ringV tk tp tn] w fun e w' => e = .returned (.bool (decide (BareV fk fp fn tk tp tn hk))) ∧ Below w.heap.size w w' := by
  have hz : ((w.alloc (.cells (homC hk ha) 29)).alloc (.cells (ringC fk fp fn) 27)).heap.size = w.heap.size + 1 + 1 := by simp
  go_enter Try.func93, Try.ntmps93
  go_wp2_with (go_at_call 96; refine (is_cut fk fp fn fk tp tn _).mono ?_; rintro e w1 ⟨rfl, hb⟩)
  all_goals go_ret
  all_goals first
    | refine ret_bool ?_ ((((Below.refl _ _).alloc (Nat.le_refl _) _).alloc (by simp) _).alloc (by simp; omega) _)
    | refine ret_bool ?_ (((((Below.refl _ _).alloc (Nat.le_refl _) _).alloc (by simp) _).alloc (by simp; omega) _).trans (hb.mono (by simp; omega)))
  all_goals (unfold BareV; (try simp only [beq_eq_false_iff_ne, ne_eq, beq_iff_eq] at *); (try simp only [decide_eq_true_eq, Bool.or_eq_true, beq_iff_eq, Bool.false_eq_true, true_iff, false_iff]); unfold CutV; first | grind | omega)

theorem wrap_in {x : Int} (h : 0 ≤ x) (h2 : x ≤ 1100000000000) : IntKind.i64.wrap x = x := IntWalk.i64_in _ (by omega)
theorem mod_in (x p : Int) (h : 1 ≤ p) (h2 : p ≤ 1000003) : 0 ≤ x % p ∧ x % p ≤ 1000002 := by
  have h3 := Int.emod_nonneg x (show p ≠ 0 by omega)
  have h4 := Int.emod_lt_of_pos x (show 0 < p by omega)
  omega
theorem mul_in {a b : Int} (h1 : 0 ≤ a) (h2 : a ≤ 1000002) (h3 : 0 ≤ b) (h4 : b ≤ 1000002) : 0 ≤ a * b ∧ a * b ≤ 1000004000004 := by
  refine ⟨Int.mul_nonneg h1 h3, ?_⟩
  calc a * b ≤ 1000002 * 1000002 := Int.mul_le_mul h2 h4 h3 (by omega)
    _ = 1000004000004 := by decide
theorem root_iff {a p : Int} (h : rootI a p = 1) : RootV a p := by
  rcases rootI_cases a p with h1 | h1
  · exact h1.2
  · omega
set_option maxHeartbeats 800000 in
theorem is_root (a p : Int) (w : World) (hp : 2 ≤ p) (hp2 : p ≤ 1000003) :
    Calls Try.prog 92 #[.int .i64 a, .int .i64 p] w fun e w' => e = .returned (.bool (decide (rootI a p = 1))) ∧ w = w' := by
  by_cases h1 : a < 1
  · have hf : rootI a p = 0 := by rcases rootI_cases a p with h | h; (have := h.2.1; omega); exact h.1
    rw [hf]
    go_enter Try.func92, Try.ntmps92
    go_wp2
    go_ret
    exact ⟨rfl, rfl⟩
  by_cases h2 : p ≤ a
  · have hf : rootI a p = 0 := by rcases rootI_cases a p with h | h; (have := h.2.2.1; omega); exact h.1
    rw [hf]
    go_enter Try.func92, Try.ntmps92
    go_wp2
    go_ret
    exact ⟨rfl, rfl⟩
  obtain ⟨q, hq⟩ : ∃ q, q = a * a := ⟨_, rfl⟩
  obtain ⟨r, hr⟩ : ∃ r, r = q % p := ⟨_, rfl⟩
  obtain ⟨s, hs⟩ : ∃ s, s = r * r := ⟨_, rfl⟩
  obtain ⟨t, ht⟩ : ∃ t, t = s % p := ⟨_, rfl⟩
  have b1 := mul_in (a := a) (b := a) (by omega) (by omega) (by omega) (by omega)
  rw [← hq] at b1
  have b2 := mod_in q p (by omega) hp2
  rw [← hr] at b2
  have b3 := mul_in (a := r) (b := r) (by omega) (by omega) (by omega) (by omega)
  rw [← hs] at b3
  have w1 : IntKind.i64.wrap (a * a) = q := by rw [← hq]; exact wrap_in (by omega) (by omega)
  have w2 : q.tmod p = r := by rw [Int.tmod_eq_emod_of_nonneg (by omega), hr]
  have w3 : IntKind.i64.wrap (r * r) = s := by rw [← hs]; exact wrap_in (by omega) (by omega)
  have w4 : s.tmod p = t := by rw [Int.tmod_eq_emod_of_nonneg (by omega), ht]
  have w5 : IntKind.i64.wrap (p - 1) = p - 1 := wrap_in (by omega) (by omega)
  have HV : Hid ((t == p - 1) = decide (rootI a p = 1)) := Lib.hid (by
    rw [Bool.eq_iff_iff, beq_iff_eq, decide_eq_true_eq]
    have hv : RootV a p ↔ t = p - 1 := by unfold RootV; rw [← hq, ← hr, ← hs, ← ht]; omega
    rcases rootI_cases a p with h | h
    · rw [← hv]; exact ⟨fun _ => h.1, fun _ => h.2⟩
    · rw [← hv]; exact ⟨fun h3 => absurd h3 h.2, fun h3 => by omega⟩)
  have hp0 : ¬ p = 0 := by omega
  clear hq hr hs ht
  go_enter Try.func92, Try.ntmps92
  go_wp2
  go_ret
  exact ⟨by rw [← HV.out]; rfl, rfl⟩
end Go.Proofs.Ytjkajbbipgmdoaa
