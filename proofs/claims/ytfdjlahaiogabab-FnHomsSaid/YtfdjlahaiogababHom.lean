
/- Homomorphisms as plain mathematics; isRoot, isCut, connectsWithoutArg, connects. -/
import Derived.Test.YtfdjlahaiogababRing
namespace Go.Proofs.Ytfdjlahaiogabab
set_option maxRecDepth 20000
open Go.RowKit

abbrev homV (k a : Int) : Value := .agg #[.int .i64 k, .int .i64 a]
abbrev homC (k a : Int) : Array Value := #[.int .i64 k, .int .i64 a]
/-- The fourth power of a is -1 modulo p, a from 1 to p - 1. -/
def RootV (a p : Int) : Prop := 1 ≤ a ∧ a < p ∧ (a * a % p) * (a * a % p) % p = p - 1
open Classical in
noncomputable def rootI (a p : Int) : Int := if RootV a p then 1 else 0
def CutV (fk fp fn tp tn : Int) : Prop := (fk = 3 ∨ fk = 4 ∨ fk = 5) ∧ tp ≤ fp ∨ fk = 7 ∧ tp = fp ∧ tn ≤ fn ∨ fk = 6 ∧ tn ≤ fn
def BareV (fk fp fn tk tp tn hk : Int) : Prop :=
  hk = 1 ∧ fk = tk ∧ fp = tp ∧ fn = tn ∨ hk = 2 ∧ (fk = 3 ∨ fk = 4) ∧ tk = 1 ∨ hk = 5 ∧ fk = 7 ∧ tk = 2 ∧ tp = fp ∨ hk = 7 ∧ tk = fk ∧ CutV fk fp fn tp tn ∨ hk = 8 ∧ fk = 1 ∧ (tk = 4 ∨ tk = 5 ∨ tk = 6)
def HomV (fk fp fn tk tp tn hk ha : Int) : Prop :=
  hk = 3 ∧ fk = 6 ∧ tk = 1 ∧ 0 ≤ ha ∧ ha < fn ∨ hk = 4 ∧ fk = 5 ∧ tk = 1 ∧ 1 ≤ ha ∧ ha ≤ fp ∨ hk = 6 ∧ fk = 8 ∧ tk = 2 ∧ tp = fp ∧ rootI ha fp = 1 ∨
    hk ≠ 3 ∧ hk ≠ 4 ∧ hk ≠ 6 ∧ ha = 0 ∧ BareV fk fp fn tk tp tn hk
instance (fk fp fn tp tn : Int) : Decidable (CutV fk fp fn tp tn) := by unfold CutV; infer_instance
instance (fk fp fn tk tp tn hk : Int) : Decidable (BareV fk fp fn tk tp tn hk) := by unfold BareV; infer_instance
noncomputable instance (fk fp fn tk tp tn hk ha : Int) : Decidable (HomV fk fp fn tk tp tn hk ha) := by unfold HomV; infer_instance
theorem rootI_cases (a p : Int) : rootI a p = 1 ∧ RootV a p ∨ rootI a p = 0 ∧ ¬ RootV a p := by
  unfold rootI
  by_cases h : RootV a p
  · exact .inl ⟨if_pos h, h⟩
  · exact .inr ⟨if_neg h, h⟩

theorem ret_bool {b : Bool} {P : Prop} [Decidable P] {w0 w : World} (h : b = true ↔ P) (hb : Below w0.heap.size w0 w) : Ending.returned (.bool b) = .returned (.bool (decide P)) ∧ Below w0.heap.size w0 w :=
  ⟨by rw [show b = decide P from by rw [Bool.eq_iff_iff]; simpa using h], hb⟩

set_option maxHeartbeats 800000 in
theorem is_cut (fk fp fn tk tp tn : Int) (w : World) :
    Calls Try.prog 184 #[ringV fk fp fn, ringV tk tp tn] w fun e w' => e = .returned (.bool (decide (CutV fk fp fn tp tn))) ∧ Below w.heap.size w w' := by
  go_enter Try.func184, Try.ntmps184
  go_wp2
  all_goals (go_ret; refine ret_bool ?_ (((Below.refl _ _).alloc (Nat.le_refl _) _).alloc (by simp) _))
  all_goals (unfold CutV; (try simp only [beq_eq_false_iff_ne, ne_eq, beq_iff_eq] at *); (try simp only [decide_eq_true_eq, Bool.false_eq_true, false_iff]); omega)

set_option maxHeartbeats 1600000 in

theorem bare (fk fp fn tk tp tn hk ha : Int) (w : World) :
    Calls Try.prog 173 #[homV hk ha, ringV fk fp fn, ringV tk tp tn] w fun e w' => e = .returned (.bool (decide (BareV fk fp fn tk tp tn hk))) ∧ Below w.heap.size w w' := by
  have hz : ((w.alloc (.cells (homC hk ha) 45)).alloc (.cells (ringC fk fp fn) 31)).heap.size = w.heap.size + 1 + 1 := by simp
  go_enter Try.func173, Try.ntmps173
  go_wp2_with (go_at_call 184; refine (is_cut fk fp fn fk tp tn _).mono ?_; rintro e w1 ⟨rfl, hb⟩)
  all_goals go_ret
  all_goals first
    | refine ret_bool ?_ ((((Below.refl _ _).alloc (Nat.le_refl _) _).alloc (by simp) _).alloc (by simp; omega) _)
    | refine ret_bool ?_ (((((Below.refl _ _).alloc (Nat.le_refl _) _).alloc (by simp) _).alloc (by simp; omega) _).trans (hb.mono (by simp; omega)))
  all_goals (unfold BareV; (try simp only [beq_eq_false_iff_ne, ne_eq, beq_iff_eq] at *); (try simp only [decide_eq_true_eq, Bool.or_eq_true, beq_iff_eq, Bool.false_eq_true, true_iff, false_iff]); unfold CutV; first | grind | omega)

theorem wrap_in {x : Int} (h : 0 ≤ x) (h2 : x ≤ 1100000000000) : IntKind.i64.wrap x = x := IntWalk.i64_in _ (by omega)
theorem mod_in (x p : Int) (h : 1 ≤ p) (h2 : p ≤ 1000003) : 0 ≤ x % p ∧ x % p ≤ 1000002 := by
  have h3 := Int.emod_nonneg x (show p ≠ 0 by omega)
  have h4 := Int.emod_lt_of_pos x (show 0 < p by omega)
  omega
theorem mul_in {a b : Int} (h1 : 0 ≤ a) (h2 : a ≤ 1000002) (h3 : 0 ≤ b) (h4 : b ≤ 1000002) : 0 ≤ a * b ∧ a * b ≤ 1000004000004 := by
  refine ⟨Int.mul_nonneg h1 h3, ?_⟩
  calc a * b ≤ 1000002 * 1000002 := Int.mul_le_mul h2 h4 h3 (by omega)
    _ = 1000004000004 := by decide
theorem root_iff {a p : Int} (h : rootI a p = 1) : RootV a p := by
  rcases rootI_cases a p with h1 | h1
  · exact h1.2
  · omega
set_option maxHeartbeats 800000 in
theorem is_root (a p : Int) (w : World) (hp : 2 ≤ p) (hp2 : p ≤ 1000003) :
    Calls Try.prog 172 #[.int .i64 a, .int .i64 p] w fun e w' => e = .returned (.bool (decide (rootI a p = 1))) ∧ w = w' := by
  by_cases h1 : a < 1
  · have hf : rootI a p = 0 := by rcases rootI_cases a p with h | h; (have := h.2.1; omega); exact h.1
    rw [hf]
    go_enter Try.func172, Try.ntmps172
    go_wp2
    go_ret
    exact ⟨rfl, rfl⟩
  by_cases h2 : p ≤ a
  · have hf : rootI a p = 0 := by rcases rootI_cases a p with h | h; (have := h.2.2.1; omega); exact h.1
    rw [hf]
    go_enter Try.func172, Try.ntmps172
    go_wp2
    go_ret
    exact ⟨rfl, rfl⟩
  obtain ⟨q, hq⟩ : ∃ q, q = a * a := ⟨_, rfl⟩
  obtain ⟨r, hr⟩ : ∃ r, r = q % p := ⟨_, rfl⟩
  obtain ⟨s, hs⟩ : ∃ s, s = r * r := ⟨_, rfl⟩
  obtain ⟨t, ht⟩ : ∃ t, t = s % p := ⟨_, rfl⟩
  have b1 := mul_in (a := a) (b := a) (by omega) (by omega) (by omega) (by omega)
  rw [← hq] at b1
  have b2 := mod_in q p (by omega) hp2
  rw [← hr] at b2
  have b3 := mul_in (a := r) (b := r) (by omega) (by omega) (by omega) (by omega)
  rw [← hs] at b3
  have w1 : IntKind.i64.wrap (a * a) = q := by rw [← hq]; exact wrap_in (by omega) (by omega)
  have w2 : q.tmod p = r := by rw [Int.tmod_eq_emod_of_nonneg (by omega), hr]
  have w3 : IntKind.i64.wrap (r * r) = s := by rw [← hs]; exact wrap_in (by omega) (by omega)
  have w4 : s.tmod p = t := by rw [Int.tmod_eq_emod_of_nonneg (by omega), ht]
  have w5 : IntKind.i64.wrap (p - 1) = p - 1 := wrap_in (by omega) (by omega)
  have HV : Hid ((t == p - 1) = decide (rootI a p = 1)) := Lib.hid (by
    rw [Bool.eq_iff_iff, beq_iff_eq, decide_eq_true_eq]
    have hv : RootV a p ↔ t = p - 1 := by unfold RootV; rw [← hq, ← hr, ← hs, ← ht]; omega
    rcases rootI_cases a p with h | h
    · rw [← hv]; exact ⟨fun _ => h.1, fun _ => h.2⟩
    · rw [← hv]; exact ⟨fun h3 => absurd h3 h.2, fun h3 => by omega⟩)
  have hp0 : ¬ p = 0 := by omega
  clear hq hr hs ht
  go_enter Try.func172, Try.ntmps172
  go_wp2
  go_ret
  exact ⟨by rw [← HV.out]; rfl, rfl⟩
end Go.Proofs.Ytfdjlahaiogabab
namespace Go.Proofs.Ytfdjlahaiogabab
set_option maxRecDepth 20000
open Go.RowKit

set_option maxRecDepth 100000 in
set_option maxHeartbeats 800000 in
theorem conn3 (fk fp fn tk tp tn ha : Int) (w : World) :
    Calls Try.prog 142 #[homV 3 ha, ringV fk fp fn, ringV tk tp tn] w fun e w' => e = .returned (.bool (decide (HomV fk fp fn tk tp tn 3 ha))) ∧ Below w.heap.size w w' := by
  go_enter Try.func142, Try.ntmps142
  go_wp2
  all_goals go_ret
  all_goals refine ret_bool ?_ ((((Below.refl _ _).alloc (Nat.le_refl _) _).alloc (by simp) _).alloc (by simp; omega) _)
  all_goals (unfold HomV; grind)
set_option maxRecDepth 100000 in
set_option maxHeartbeats 800000 in
theorem conn4 (fk fp fn tk tp tn ha : Int) (w : World) :
    Calls Try.prog 142 #[homV 4 ha, ringV fk fp fn, ringV tk tp tn] w fun e w' => e = .returned (.bool (decide (HomV fk fp fn tk tp tn 4 ha))) ∧ Below w.heap.size w w' := by
  go_enter Try.func142, Try.ntmps142
  go_wp2
  all_goals go_ret
  all_goals refine ret_bool ?_ ((((Below.refl _ _).alloc (Nat.le_refl _) _).alloc (by simp) _).alloc (by simp; omega) _)
  all_goals (unfold HomV; grind)
set_option maxRecDepth 100000 in
set_option maxHeartbeats 800000 in
theorem conn6n (fk fp fn tk tp tn ha : Int) (w : World) (h : (fk == 8) = false) :
    Calls Try.prog 142 #[homV 6 ha, ringV fk fp fn, ringV tk tp tn] w fun e w' => e = .returned (.bool (decide (HomV fk fp fn tk tp tn 6 ha))) ∧ Below w.heap.size w w' := by
  go_enter Try.func142, Try.ntmps142
  go_wp2
  go_ret
  refine ret_bool ?_ ((((Below.refl _ _).alloc (Nat.le_refl _) _).alloc (by simp) _).alloc (by simp; omega) _)
  (unfold HomV; grind)
set_option maxRecDepth 100000 in
set_option maxHeartbeats 800000 in
theorem conn6y (fp fn tk tp tn ha : Int) (w : World) (h1 : 2 ≤ fp) (h2 : fp ≤ 1000003) :
    Calls Try.prog 142 #[homV 6 ha, ringV 8 fp fn, ringV tk tp tn] w fun e w' => e = .returned (.bool (decide (HomV 8 fp fn tk tp tn 6 ha))) ∧ Below w.heap.size w w' := by
  have H1 := Lib.hid h1
  have H2 := Lib.hid h2
  clear h1 h2
  go_enter Try.func142, Try.ntmps142
  go_wp2_with (go_at_call 172; refine (is_root ha fp _ H1.out H2.out).mono ?_; rintro e w1 ⟨rfl, rfl⟩)
  all_goals go_ret
  all_goals refine ret_bool ?_ ((((Below.refl _ _).alloc (Nat.le_refl _) _).alloc (by simp) _).alloc (by simp; omega) _)
  all_goals (unfold HomV; grind)
set_option maxRecDepth 100000 in
set_option maxHeartbeats 800000 in
theorem conn0 (fk fp fn tk tp tn hk ha : Int) (w : World) (h3 : (hk == 3) = false) (h4 : (hk == 4) = false) (h6 : (hk == 6) = false) :
    Calls Try.prog 142 #[homV hk ha, ringV fk fp fn, ringV tk tp tn] w fun e w' => e = .returned (.bool (decide (HomV fk fp fn tk tp tn hk ha))) ∧ Below w.heap.size w w' := by
  go_enter Try.func142, Try.ntmps142
  go_wp2_with (go_at_call 173; refine (bare fk fp fn tk tp tn hk 0 _).mono ?_; rintro e w1 ⟨rfl, hb⟩)
  all_goals go_ret
  all_goals first
    | refine ret_bool ?_ ((((Below.refl _ _).alloc (Nat.le_refl _) _).alloc (by simp) _).alloc (by simp; omega) _)
    | refine ret_bool ?_ (((((Below.refl _ _).alloc (Nat.le_refl _) _).alloc (by simp) _).alloc (by simp; omega) _).trans (hb.mono (by simp; omega)))
  all_goals (unfold HomV; grind)
theorem connects_impl (fk fp fn tk tp tn hk ha : Int) (w : World) (hf : ringB fk fp fn = true) :
    Calls Try.prog 142 #[homV hk ha, ringV fk fp fn, ringV tk tp tn] w fun e w' => e = .returned (.bool (decide (HomV fk fp fn tk tp tn hk ha))) ∧ Below w.heap.size w w' := by
  have hc := ring_cases hf
  by_cases h3 : hk = 3
  · subst h3; exact conn3 fk fp fn tk tp tn ha w
  by_cases h4 : hk = 4
  · subst h4; exact conn4 fk fp fn tk tp tn ha w
  by_cases h6 : hk = 6
  · subst h6
    by_cases h8 : fk = 8
    · subst h8; exact conn6y fp fn tk tp tn ha w (by omega) (by omega)
    · exact conn6n fk fp fn tk tp tn ha w (by simpa using h8)
  exact conn0 fk fp fn tk tp tn hk ha w (by simpa using h3) (by simpa using h4) (by simpa using h6)
end Go.Proofs.Ytfdjlahaiogabab
namespace Go.Proofs.Ytfdjlahaiogabab
set_option maxRecDepth 20000
open Go.RowKit

noncomputable def homB (fk fp fn tk tp tn hk ha : Int) : Bool := ringB fk fp fn && (ringB tk tp tn && decide (HomV fk fp fn tk tp tn hk ha))
/-- The block b holds a checked homomorphism of these fields. -/
structure Box8 (w : World) (b : Nat) (fk fp fn tk tp tn hk ha : Int) : Prop where
  c0 : w.cell? ⟨b, 0, none⟩ = some (.int .i64 fk)
  c1 : w.cell? ⟨b, 1, none⟩ = some (.int .i64 fp)
  c2 : w.cell? ⟨b, 2, none⟩ = some (.int .i64 fn)
  c3 : w.cell? ⟨b, 3, none⟩ = some (.int .i64 tk)
  c4 : w.cell? ⟨b, 4, none⟩ = some (.int .i64 tp)
  c5 : w.cell? ⟨b, 5, none⟩ = some (.int .i64 tn)
  c6 : w.cell? ⟨b, 6, none⟩ = some (.int .i64 hk)
  c7 : w.cell? ⟨b, 7, none⟩ = some (.int .i64 ha)
theorem Box8.below {w w' : World} {b B : Nat} {fk fp fn tk tp tn hk ha : Int} (h : Box8 w b fk fp fn tk tp tn hk ha) (hb : Below B w w') (hlt : b < B) : Box8 w' b fk fp fn tk tp tn hk ha :=
  ⟨(hb.cell (p := ⟨b, 0, none⟩) hlt).trans h.c0, (hb.cell (p := ⟨b, 1, none⟩) hlt).trans h.c1, (hb.cell (p := ⟨b, 2, none⟩) hlt).trans h.c2, (hb.cell (p := ⟨b, 3, none⟩) hlt).trans h.c3, (hb.cell (p := ⟨b, 4, none⟩) hlt).trans h.c4, (hb.cell (p := ⟨b, 5, none⟩) hlt).trans h.c5, (hb.cell (p := ⟨b, 6, none⟩) hlt).trans h.c6, (hb.cell (p := ⟨b, 7, none⟩) hlt).trans h.c7⟩
theorem Box8.new (w : World) (fk fp fn tk tp tn hk ha : Int) (T : TypeId) : Box8 (w.alloc (.cells #[.int .i64 fk, .int .i64 fp, .int .i64 fn, .int .i64 tk, .int .i64 tp, .int .i64 tn, .int .i64 hk, .int .i64 ha] T)) w.heap.size fk fp fn tk tp tn hk ha :=
  ⟨by rw [World.cell?_alloc_new]; rfl, by rw [World.cell?_alloc_new]; rfl, by rw [World.cell?_alloc_new]; rfl, by rw [World.cell?_alloc_new]; rfl, by rw [World.cell?_alloc_new]; rfl, by rw [World.cell?_alloc_new]; rfl, by rw [World.cell?_alloc_new]; rfl, by rw [World.cell?_alloc_new]; rfl⟩
/-- The three boxes of the parameters, and what is kept along the calls. -/
structure Inv3 (w0 w : World) (b : Nat) (fk fp fn tk tp tn hk ha : Int) : Prop where
  bel : Below w0.heap.size w0 w
  hb : w0.heap.size ≤ b
  lt : b + 2 < w.heap.size
  fr : BoxAt w b fk fp fn
  to : BoxAt w (b + 1) tk tp tn
  h0 : w.cell? ⟨b + 1 + 1, 0, none⟩ = some (.int .i64 hk)
  h1 : w.cell? ⟨b + 1 + 1, 1, none⟩ = some (.int .i64 ha)
theorem Inv3.box (w : World) (fk fp fn tk tp tn hk ha : Int) (T T2 : TypeId) : Inv3 w (((w.alloc (.cells (ringC fk fp fn) T)).alloc (.cells (ringC tk tp tn) T)).alloc (.cells (homC hk ha) T2)) w.heap.size fk fp fn tk tp tn hk ha := by
  have hb1 := (Below.refl w.heap.size w).alloc (Nat.le_refl _) (.cells (ringC fk fp fn) T)
  have hb2 := (Below.refl (w.alloc (.cells (ringC fk fp fn) T)).heap.size (w.alloc (.cells (ringC fk fp fn) T))).alloc (Nat.le_refl _) (.cells (ringC tk tp tn) T)
  have hb3 := (Below.refl ((w.alloc (.cells (ringC fk fp fn) T)).alloc (.cells (ringC tk tp tn) T)).heap.size ((w.alloc (.cells (ringC fk fp fn) T)).alloc (.cells (ringC tk tp tn) T))).alloc (Nat.le_refl _) (.cells (homC hk ha) T2)
  refine ⟨hb1.trans ((hb2.mono (by simp)).trans (hb3.mono (by simp; omega))), Nat.le_refl _, by simp, ?_, ?_, ?_, ?_⟩
  · exact ((BoxAt.new w fk fp fn T).below hb2 (by simp)).below hb3 (by simp; omega)
  · have h := (BoxAt.new (w.alloc (.cells (ringC fk fp fn) T)) tk tp tn T).below hb3 (by simp)
    rw [World.size_alloc] at h
    exact h
  · have h : (((w.alloc (.cells (ringC fk fp fn) T)).alloc (.cells (ringC tk tp tn) T)).alloc (.cells (homC hk ha) T2)).cell? ⟨((w.alloc (.cells (ringC fk fp fn) T)).alloc (.cells (ringC tk tp tn) T)).heap.size, 0, none⟩ = some (.int .i64 hk) := by rw [World.cell?_alloc_new]; rfl
    rw [World.size_alloc, World.size_alloc] at h
    exact h
  · have h : (((w.alloc (.cells (ringC fk fp fn) T)).alloc (.cells (ringC tk tp tn) T)).alloc (.cells (homC hk ha) T2)).cell? ⟨((w.alloc (.cells (ringC fk fp fn) T)).alloc (.cells (ringC tk tp tn) T)).heap.size, 1, none⟩ = some (.int .i64 ha) := by rw [World.cell?_alloc_new]; rfl
    rw [World.size_alloc, World.size_alloc] at h
    exact h
theorem Inv3.step {w0 w w1 : World} {b : Nat} {fk fp fn tk tp tn hk ha : Int} (h : Inv3 w0 w b fk fp fn tk tp tn hk ha) (hb : Below w.heap.size w w1) : Inv3 w0 w1 b fk fp fn tk tp tn hk ha := by
  have h1 := h.lt
  exact ⟨h.bel.trans (hb.mono h.bel.size), h.hb, Nat.lt_of_lt_of_le h1 hb.size, h.fr.below hb (by omega), h.to.below hb (by omega), (hb.cell (p := ⟨b + 1 + 1, 0, none⟩) (by simpa using h1)).trans h.h0, (hb.cell (p := ⟨b + 1 + 1, 1, none⟩) (by simpa using h1)).trans h.h1⟩
theorem Inv3.cells {w0 w : World} {b : Nat} {fk fp fn tk tp tn hk ha : Int} (h : Inv3 w0 w b fk fp fn tk tp tn hk ha) : w.cell? ⟨b, 0, none⟩ = some (.int .i64 fk) ∧ w.cell? ⟨b, 1, none⟩ = some (.int .i64 fp) ∧ w.cell? ⟨b, 2, none⟩ = some (.int .i64 fn) ∧
    w.cell? ⟨b + 1, 0, none⟩ = some (.int .i64 tk) ∧ w.cell? ⟨b + 1, 1, none⟩ = some (.int .i64 tp) ∧ w.cell? ⟨b + 1, 2, none⟩ = some (.int .i64 tn) ∧ w.cell? ⟨b + 1 + 1, 0, none⟩ = some (.int .i64 hk) ∧ w.cell? ⟨b + 1 + 1, 1, none⟩ = some (.int .i64 ha) :=
  ⟨h.fr.1, h.fr.2.1, h.fr.2.2, h.to.1, h.to.2.1, h.to.2.2, h.h0, h.h1⟩
/-- A call that keeps what lay: the boxes are carried across. -/
theorem Inv3.call {P : Program} {f : FuncId} {args : Array Value} {w0 w : World} {b : Nat} {fk fp fn tk tp tn hk ha : Int} {R : Ending → Prop} (h : Hid (Inv3 w0 w b fk fp fn tk tp tn hk ha)) (hc : Calls P f args w fun e w' => R e ∧ Below w.heap.size w w') :
    Calls P f args w fun e w' => R e ∧ Hid (Inv3 w0 w' b fk fp fn tk tp tn hk ha) ∧ w'.cell? ⟨b, 0, none⟩ = some (.int .i64 fk) ∧ w'.cell? ⟨b, 1, none⟩ = some (.int .i64 fp) ∧ w'.cell? ⟨b, 2, none⟩ = some (.int .i64 fn) ∧
    w'.cell? ⟨b + 1, 0, none⟩ = some (.int .i64 tk) ∧ w'.cell? ⟨b + 1, 1, none⟩ = some (.int .i64 tp) ∧ w'.cell? ⟨b + 1, 2, none⟩ = some (.int .i64 tn) ∧ w'.cell? ⟨b + 1 + 1, 0, none⟩ = some (.int .i64 hk) ∧ w'.cell? ⟨b + 1 + 1, 1, none⟩ = some (.int .i64 ha) :=
  hc.mono fun _ _ ⟨h1, h2⟩ => ⟨h1, Lib.hid (h.out.step h2), (h.out.step h2).cells⟩

def CheckPost (ok : Bool) (fk fp fn tk tp tn hk ha : Int) (w : World) (e : Ending) (w' : World) : Prop :=
  Below w.heap.size w w' ∧ if ok = true then ∃ b, e = .returned (.pointer (some ⟨b, 0, none⟩)) ∧ w.heap.size ≤ b ∧ b < w'.heap.size ∧ Box8 w' b fk fp fn tk tp tn hk ha else e = .returned (.pointer none)

set_option maxHeartbeats 800000 in
theorem check_from (fk fp fn tk tp tn hk ha : Int) (w : World) (hf : ringB fk fp fn = false) :
    Calls Try.prog 91 #[ringV fk fp fn, ringV tk tp tn, homV hk ha] w fun e w' => Below w.heap.size w w' ∧ e = .returned (.pointer none) := by
  have HF := Lib.hid hf
  clear hf
  go_enter Try.func91, Try.ntmps91
  go_wp2_with fail
  refine (Inv3.call (Lib.hid (Inv3.box w fk fp fn tk tp tn hk ha _ _)) (ring_ok_impl fk fp fn _)).mono ?_
  rw [HF.out]
  rintro e w1 ⟨rfl, HV1, c0, c1, c2, d0, d1, d2, e0, e1⟩
  go_wp2
  go_ret
  exact ⟨HV1.out.bel, rfl⟩
set_option maxHeartbeats 800000 in
theorem check_to (fk fp fn tk tp tn hk ha : Int) (w : World) (hf : ringB fk fp fn = true) (ht : ringB tk tp tn = false) :
    Calls Try.prog 91 #[ringV fk fp fn, ringV tk tp tn, homV hk ha] w fun e w' => Below w.heap.size w w' ∧ e = .returned (.pointer none) := by
  have HF := Lib.hid hf
  have HT := Lib.hid ht
  clear hf ht
  go_enter Try.func91, Try.ntmps91
  go_wp2_with fail
  refine (Inv3.call (Lib.hid (Inv3.box w fk fp fn tk tp tn hk ha _ _)) (ring_ok_impl fk fp fn _)).mono ?_
  rw [HF.out]
  rintro e w1 ⟨rfl, HV1, c0, c1, c2, d0, d1, d2, e0, e1⟩
  go_wp2_with fail
  refine (Inv3.call HV1 (ring_ok_impl tk tp tn _)).mono ?_
  rw [HT.out]
  clear c0 c1 c2 d0 d1 d2 e0 e1
  rintro e w2 ⟨rfl, HV2, c0, c1, c2, d0, d1, d2, e0, e1⟩
  go_wp2
  go_ret
  exact ⟨HV2.out.bel, rfl⟩
set_option maxHeartbeats 800000 in
theorem check_hom (fk fp fn tk tp tn hk ha : Int) (w : World) (hf : ringB fk fp fn = true) (ht : ringB tk tp tn = true) :
    Calls Try.prog 91 #[ringV fk fp fn, ringV tk tp tn, homV hk ha] w (CheckPost (decide (HomV fk fp fn tk tp tn hk ha)) fk fp fn tk tp tn hk ha w) := by
  obtain ⟨ok, hok⟩ : ∃ ok, ok = decide (HomV fk fp fn tk tp tn hk ha) := ⟨_, rfl⟩
  rw [← hok]
  have HF := Lib.hid hf
  have HT := Lib.hid ht
  have HO := Lib.hid hok
  clear hf ht hok
  go_enter Try.func91, Try.ntmps91
  go_wp2_with fail
  refine (Inv3.call (Lib.hid (Inv3.box w fk fp fn tk tp tn hk ha _ _)) (ring_ok_impl fk fp fn _)).mono ?_
  rw [HF.out]
  rintro e w1 ⟨rfl, HV1, c0, c1, c2, d0, d1, d2, e0, e1⟩
  go_wp2_with fail
  refine (Inv3.call HV1 (ring_ok_impl tk tp tn _)).mono ?_
  rw [HT.out]
  clear c0 c1 c2 d0 d1 d2 e0 e1
  rintro e w2 ⟨rfl, HV2, c0, c1, c2, d0, d1, d2, e0, e1⟩
  go_wp2_with fail
  refine (Inv3.call HV2 (connects_impl fk fp fn tk tp tn hk ha _ HF.out)).mono ?_
  rw [← HO.out]
  clear c0 c1 c2 d0 d1 d2 e0 e1
  rintro e w3 ⟨rfl, HV3, c0, c1, c2, d0, d1, d2, e0, e1⟩
  cases ok with
  | false =>
    go_wp2
    go_ret
    exact ⟨HV3.out.bel, rfl⟩
  | true =>
    go_wp2
    go_ret
    refine ⟨HV3.out.bel.alloc HV3.out.bel.size _, ?_⟩
    rw [if_pos rfl]
    exact ⟨w3.heap.size, rfl, HV3.out.bel.size, by simp, Box8.new w3 fk fp fn tk tp tn hk ha _⟩
/-- impl.checkHom. -/
theorem check_any (fk fp fn tk tp tn hk ha : Int) (w : World) :
    Calls Try.prog 91 #[ringV fk fp fn, ringV tk tp tn, homV hk ha] w (CheckPost (homB fk fp fn tk tp tn hk ha) fk fp fn tk tp tn hk ha w) := by
  cases hf : ringB fk fp fn with
  | false =>
    have e : homB fk fp fn tk tp tn hk ha = false := by simp [homB, hf]
    rw [e]
    exact (check_from fk fp fn tk tp tn hk ha w hf).mono fun _ _ ⟨h1, h2⟩ => ⟨h1, by rw [if_neg (by simp)]; exact h2⟩
  | true =>
    cases ht : ringB tk tp tn with
    | false =>
      have e : homB fk fp fn tk tp tn hk ha = false := by simp [homB, ht]
      rw [e]
      exact (check_to fk fp fn tk tp tn hk ha w hf ht).mono fun _ _ ⟨h1, h2⟩ => ⟨h1, by rw [if_neg (by simp)]; exact h2⟩
    | true =>
      have e : homB fk fp fn tk tp tn hk ha = decide (HomV fk fp fn tk tp tn hk ha) := by simp [homB, hf, ht]
      rw [e]
      exact check_hom fk fp fn tk tp tn hk ha w hf ht
set_option maxHeartbeats 800000 in
/-- impl.HomOk. -/
theorem hom_ok_impl (fk fp fn tk tp tn hk ha : Int) (w : World) :
    Calls Try.prog 72 #[ringV fk fp fn, ringV tk tp tn, homV hk ha] w fun e w' => e = .returned (.bool (homB fk fp fn tk tp tn hk ha)) ∧ Below w.heap.size w w' := by
  have H0 := Lib.hid (Inv3.box w fk fp fn tk tp tn hk ha 31 45)
  obtain ⟨ok, hok⟩ : ∃ ok, ok = homB fk fp fn tk tp tn hk ha := ⟨_, rfl⟩
  rw [← hok]
  have HO := Lib.hid hok
  clear hok
  go_enter Try.func72, Try.ntmps72
  go_wp2_with fail
  refine (check_any fk fp fn tk tp tn hk ha _).mono ?_
  rw [← HO.out]
  rintro e w1 ⟨hb, h1⟩
  have HB := Lib.hid (H0.out.bel.trans (hb.mono H0.out.bel.size))
  clear hb
  cases ok with
  | false =>
    obtain rfl : e = .returned (.pointer none) := by simpa using h1
    go_wp2
    go_ret
    exact ⟨rfl, HB.out⟩
  | true =>
    rw [if_pos rfl] at h1
    obtain ⟨b, rfl, h2, h3, h4⟩ := h1
    clear h2 h3 h4
    go_wp2
    go_ret
    exact ⟨rfl, HB.out⟩
end Go.Proofs.Ytfdjlahaiogabab
