/- connects, checkHom, HomOk of impl. -/
import Derived.Test.YtjkajbbipgmdoaaHom
namespace Go.Proofs.Ytjkajbbipgmdoaa
open Go.RowKit

set_option maxRecDepth 100000 in
set_option maxHeartbeats 800000 in
theorem conn3 (fk fp fn tk tp tn ha : Int) (w : World) :
    Calls Try.prog 77 #[homV 3 ha, ringV fk fp fn, ringV tk tp tn] w fun e w' => e = .returned (.bool (decide (HomV fk fp fn tk tp tn 3 ha))) ∧ Below w.heap.size w w' := by
  go_enter Try.func77, Try.ntmps77
  go_wp2
  all_goals go_ret
  all_goals refine ret_bool ?_ ((((Below.refl _ _).alloc (Nat.le_refl _) _).alloc (by simp) _).alloc (by simp; omega) _)
  all_goals (unfold HomV; grind)
set_option maxRecDepth 100000 in
set_option maxHeartbeats 800000 in
theorem conn4 (fk fp fn tk tp tn ha : Int) (w : World) :
    Calls Try.prog 77 #[homV 4 ha, ringV fk fp fn, ringV tk tp tn] w fun e w' => e = .returned (.bool (decide (HomV fk fp fn tk tp tn 4 ha))) ∧ Below w.heap.size w w' := by
  go_enter Try.func77, Try.ntmps77
  go_wp2
  all_goals go_ret
  all_goals refine ret_bool ?_ ((((Below.refl _ _).alloc (Nat.le_refl _) _).alloc (by simp) _).alloc (by simp; omega) _)
  all_goals (unfold HomV; grind)
set_option maxRecDepth 100000 in
set_option maxHeartbeats 800000 in
theorem conn6n (fk fp fn tk tp tn ha : Int) (w : World) (h : (fk == 8) = false) :
    Calls Try.prog 77 #[homV 6 ha, ringV fk fp fn, ringV tk tp tn] w fun e w' => e = .returned (.bool (decide (HomV fk fp fn tk tp tn 6 ha))) ∧ Below w.heap.size w w' := by
  go_enter Try.func77, Try.ntmps77
  go_wp2
  go_ret
  refine ret_bool ?_ ((((Below.refl _ _).alloc (Nat.le_refl _) _).alloc (by simp) _).alloc (by simp; omega) _)
  (unfold HomV; grind)
set_option maxRecDepth 100000 in
set_option maxHeartbeats 800000 in
theorem conn6y (fp fn tk tp tn ha : Int) (w : World) (h1 : 2 ≤ fp) (h2 : fp ≤ 1000003) :
    Calls Try.prog 77 #[homV 6 ha, ringV 8 fp fn, ringV tk tp tn] w fun e w' => e = .returned (.bool (decide (HomV 8 fp fn tk tp tn 6 ha))) ∧ Below w.heap.size w w' := by
  have H1 := Lib.hid h1
  have H2 := Lib.hid h2
  clear h1 h2
  go_enter Try.func77, Try.ntmps77
  go_wp2_with (go_at_call 92; refine (is_root ha fp _ H1.out H2.out).mono ?_; rintro e w1 ⟨rfl, rfl⟩)
  all_goals go_ret
  all_goals refine ret_bool ?_ ((((Below.refl _ _).alloc (Nat.le_refl _) _).alloc (by simp) _).alloc (by simp; omega) _)
  all_goals (unfold HomV; grind)
set_option maxRecDepth 100000 in
set_option maxHeartbeats 800000 in
theorem conn0 (fk fp fn tk tp tn hk ha : Int) (w : World) (h3 : (hk == 3) = false) (h4 : (hk == 4) = false) (h6 : (hk == 6) = false) :
    Calls Try.prog 77 #[homV hk ha, ringV fk fp fn, ringV tk tp tn] w fun e w' => e = .returned (.bool (decide (HomV fk fp fn tk tp tn hk ha))) ∧ Below w.heap.size w w' := by
  go_enter Try.func77, Try.ntmps77
  go_wp2_with (go_at_call 93; refine (bare fk fp fn tk tp tn hk 0 _).mono ?_; rintro e w1 ⟨rfl, hb⟩)
  all_goals go_ret
  all_goals first
    | refine ret_bool ?_ ((((Below.refl _ _).alloc (Nat.le_refl _) _).alloc (by simp) _).alloc (by simp; omega) _)
    | refine ret_bool ?_ (((((Below.refl _ _).alloc (Nat.le_refl _) _).alloc (by simp) _).alloc (by simp; omega) _).trans (hb.mono (by simp; omega)))
  all_goals (unfold HomV; grind)
theorem connects_impl (fk fp fn tk tp tn hk ha : Int) (w : World) (hf : ringB fk fp fn = true) :
    Calls Try.prog 77 #[homV hk ha, ringV fk fp fn, ringV tk tp tn] w fun e w' => e = .returned (.bool (decide (HomV fk fp fn tk tp tn hk ha))) ∧ Below w.heap.size w w' := by
  have hc := ring_cases hf
  by_cases h3 : hk = 3
  · subst h3; exact conn3 fk fp fn tk tp tn ha w
  by_cases h4 : hk = 4
  · subst h4; exact conn4 fk fp fn tk tp tn ha w
  by_cases h6 : hk = 6
  · subst h6
    by_cases h8 : fk = 8
    · subst h8; exact conn6y fp fn tk tp tn ha w (by omega) (by omega)
    · exact conn6n fk fp fn tk tp tn ha w (by simpa using h8)
  exact conn0 fk fp fn tk tp tn hk ha w (by simpa using h3) (by simpa using h4) (by simpa using h6)
end Go.Proofs.Ytjkajbbipgmdoaa
