
/- spec.HomOk. -/
import Derived.Test.YtfdjlahaiogababHom
import Derived.Deep.QuietTactic
import Derived.BigQuiet
import Derived.Test.YtfdjlahaiogababElem
namespace Go.Proofs.Ytfdjlahaiogabab
set_option maxRecDepth 20000
open Go.RowKit


set_option maxRecDepth 100000 in
set_option maxHeartbeats 1600000 in
theorem spec_h3 (fk fp fn tk tp tn ha : Int) (w : World) (hf : ringB fk fp fn = true) (ht : ringB tk tp tn = true)  :
    Calls Try.prog 89 #[ringV fk fp fn, ringV tk tp tn, homV 3 ha] w fun e w' => e = .returned (.bool (decide (HomV fk fp fn tk tp tn 3 ha))) ∧ Below w.heap.size w w' := by
  have HF := Lib.hid hf
  have HT := Lib.hid ht
  clear hf ht
  have hw : IntKind.i64.wrap (fn - 1) = fn - 1 := IntWalk.i64_in _ (by have := ring_cases HF.out; omega)
  go_enter Try.func89, Try.ntmps89
  go_wp2_with fail
  refine (Inv3.call (Lib.hid (Inv3.box w fk fp fn tk tp tn 3 ha _ _)) (ring_ok_spec fk fp fn _)).mono ?_
  rw [HF.out]
  rintro e w1 ⟨rfl, HV1, c0, c1, c2, d0, d1, d2, e0, e1⟩
  go_wp2_with fail
  refine (Inv3.call HV1 (ring_ok_spec tk tp tn _)).mono ?_
  rw [HT.out]
  clear c0 c1 c2 d0 d1 d2 e0 e1
  rintro e w2 ⟨rfl, HV2, c0, c1, c2, d0, d1, d2, e0, e1⟩
  go_wp2_with (go_at_call 138; refine (l01_in _ _ _ _).mono ?_; rintro e w3 ⟨rfl, rfl⟩)
  all_goals go_ret
  all_goals refine ret_bool ?_ HV2.out.bel
  all_goals (unfold HomV; (try unfold inB); grind)

set_option maxRecDepth 100000 in
set_option maxHeartbeats 1600000 in
theorem spec_h4 (fk fp fn tk tp tn ha : Int) (w : World) (hf : ringB fk fp fn = true) (ht : ringB tk tp tn = true)  :
    Calls Try.prog 89 #[ringV fk fp fn, ringV tk tp tn, homV 4 ha] w fun e w' => e = .returned (.bool (decide (HomV fk fp fn tk tp tn 4 ha))) ∧ Below w.heap.size w w' := by
  have HF := Lib.hid hf
  have HT := Lib.hid ht
  clear hf ht
  go_enter Try.func89, Try.ntmps89
  go_wp2_with fail
  refine (Inv3.call (Lib.hid (Inv3.box w fk fp fn tk tp tn 4 ha _ _)) (ring_ok_spec fk fp fn _)).mono ?_
  rw [HF.out]
  rintro e w1 ⟨rfl, HV1, c0, c1, c2, d0, d1, d2, e0, e1⟩
  go_wp2_with fail
  refine (Inv3.call HV1 (ring_ok_spec tk tp tn _)).mono ?_
  rw [HT.out]
  clear c0 c1 c2 d0 d1 d2 e0 e1
  rintro e w2 ⟨rfl, HV2, c0, c1, c2, d0, d1, d2, e0, e1⟩
  go_wp2_with (go_at_call 138; refine (l01_in _ _ _ _).mono ?_; rintro e w3 ⟨rfl, rfl⟩)
  all_goals go_ret
  all_goals refine ret_bool ?_ HV2.out.bel
  all_goals (unfold HomV; (try unfold inB); grind)

set_option maxRecDepth 100000 in
set_option maxHeartbeats 1600000 in
theorem spec_ha (fk fp fn tk tp tn hk ha : Int) (w : World) (hf : ringB fk fp fn = true) (ht : ringB tk tp tn = true) (h3 : (hk == 3) = false) (h4 : (hk == 4) = false) (h6 : (hk == 6) = false) (h0 : (ha == 0) = false) :
    Calls Try.prog 89 #[ringV fk fp fn, ringV tk tp tn, homV hk ha] w fun e w' => e = .returned (.bool (decide (HomV fk fp fn tk tp tn hk ha))) ∧ Below w.heap.size w w' := by
  have HF := Lib.hid hf
  have HT := Lib.hid ht
  clear hf ht
  go_enter Try.func89, Try.ntmps89
  go_wp2_with fail
  refine (Inv3.call (Lib.hid (Inv3.box w fk fp fn tk tp tn hk ha _ _)) (ring_ok_spec fk fp fn _)).mono ?_
  rw [HF.out]
  rintro e w1 ⟨rfl, HV1, c0, c1, c2, d0, d1, d2, e0, e1⟩
  go_wp2_with fail
  refine (Inv3.call HV1 (ring_ok_spec tk tp tn _)).mono ?_
  rw [HT.out]
  clear c0 c1 c2 d0 d1 d2 e0 e1
  rintro e w2 ⟨rfl, HV2, c0, c1, c2, d0, d1, d2, e0, e1⟩
  go_wp2
  all_goals go_ret
  all_goals refine ret_bool ?_ HV2.out.bel
  all_goals (unfold HomV; (try unfold BareV CutV); grind)

set_option maxRecDepth 100000 in
set_option maxHeartbeats 1600000 in
theorem spec_h1 (fk fp fn tk tp tn : Int) (w : World) (hf : ringB fk fp fn = true) (ht : ringB tk tp tn = true)  :
    Calls Try.prog 89 #[ringV fk fp fn, ringV tk tp tn, homV 1 0] w fun e w' => e = .returned (.bool (decide (HomV fk fp fn tk tp tn 1 0))) ∧ Below w.heap.size w w' := by
  have HF := Lib.hid hf
  have HT := Lib.hid ht
  clear hf ht
  go_enter Try.func89, Try.ntmps89
  go_wp2_with fail
  refine (Inv3.call (Lib.hid (Inv3.box w fk fp fn tk tp tn 1 0 _ _)) (ring_ok_spec fk fp fn _)).mono ?_
  rw [HF.out]
  rintro e w1 ⟨rfl, HV1, c0, c1, c2, d0, d1, d2, e0, e1⟩
  go_wp2_with fail
  refine (Inv3.call HV1 (ring_ok_spec tk tp tn _)).mono ?_
  rw [HT.out]
  clear c0 c1 c2 d0 d1 d2 e0 e1
  rintro e w2 ⟨rfl, HV2, c0, c1, c2, d0, d1, d2, e0, e1⟩
  go_wp2
  all_goals go_ret
  all_goals refine ret_bool ?_ HV2.out.bel
  all_goals (unfold HomV; (try unfold BareV CutV); grind)

set_option maxRecDepth 100000 in
set_option maxHeartbeats 1600000 in
theorem spec_h2 (fk fp fn tk tp tn : Int) (w : World) (hf : ringB fk fp fn = true) (ht : ringB tk tp tn = true)  :
    Calls Try.prog 89 #[ringV fk fp fn, ringV tk tp tn, homV 2 0] w fun e w' => e = .returned (.bool (decide (HomV fk fp fn tk tp tn 2 0))) ∧ Below w.heap.size w w' := by
  have HF := Lib.hid hf
  have HT := Lib.hid ht
  clear hf ht
  go_enter Try.func89, Try.ntmps89
  go_wp2_with fail
  refine (Inv3.call (Lib.hid (Inv3.box w fk fp fn tk tp tn 2 0 _ _)) (ring_ok_spec fk fp fn _)).mono ?_
  rw [HF.out]
  rintro e w1 ⟨rfl, HV1, c0, c1, c2, d0, d1, d2, e0, e1⟩
  go_wp2_with fail
  refine (Inv3.call HV1 (ring_ok_spec tk tp tn _)).mono ?_
  rw [HT.out]
  clear c0 c1 c2 d0 d1 d2 e0 e1
  rintro e w2 ⟨rfl, HV2, c0, c1, c2, d0, d1, d2, e0, e1⟩
  go_wp2
  all_goals go_ret
  all_goals refine ret_bool ?_ HV2.out.bel
  all_goals (unfold HomV; (try unfold BareV CutV); grind)

set_option maxRecDepth 100000 in
set_option maxHeartbeats 1600000 in
theorem spec_h5 (fk fp fn tk tp tn : Int) (w : World) (hf : ringB fk fp fn = true) (ht : ringB tk tp tn = true)  :
    Calls Try.prog 89 #[ringV fk fp fn, ringV tk tp tn, homV 5 0] w fun e w' => e = .returned (.bool (decide (HomV fk fp fn tk tp tn 5 0))) ∧ Below w.heap.size w w' := by
  have HF := Lib.hid hf
  have HT := Lib.hid ht
  clear hf ht
  go_enter Try.func89, Try.ntmps89
  go_wp2_with fail
  refine (Inv3.call (Lib.hid (Inv3.box w fk fp fn tk tp tn 5 0 _ _)) (ring_ok_spec fk fp fn _)).mono ?_
  rw [HF.out]
  rintro e w1 ⟨rfl, HV1, c0, c1, c2, d0, d1, d2, e0, e1⟩
  go_wp2_with fail
  refine (Inv3.call HV1 (ring_ok_spec tk tp tn _)).mono ?_
  rw [HT.out]
  clear c0 c1 c2 d0 d1 d2 e0 e1
  rintro e w2 ⟨rfl, HV2, c0, c1, c2, d0, d1, d2, e0, e1⟩
  go_wp2
  all_goals go_ret
  all_goals refine ret_bool ?_ HV2.out.bel
  all_goals (unfold HomV; (try unfold BareV CutV); grind)

set_option maxRecDepth 100000 in
set_option maxHeartbeats 1600000 in
theorem spec_h8 (fk fp fn tk tp tn : Int) (w : World) (hf : ringB fk fp fn = true) (ht : ringB tk tp tn = true)  :
    Calls Try.prog 89 #[ringV fk fp fn, ringV tk tp tn, homV 8 0] w fun e w' => e = .returned (.bool (decide (HomV fk fp fn tk tp tn 8 0))) ∧ Below w.heap.size w w' := by
  have HF := Lib.hid hf
  have HT := Lib.hid ht
  clear hf ht
  go_enter Try.func89, Try.ntmps89
  go_wp2_with fail
  refine (Inv3.call (Lib.hid (Inv3.box w fk fp fn tk tp tn 8 0 _ _)) (ring_ok_spec fk fp fn _)).mono ?_
  rw [HF.out]
  rintro e w1 ⟨rfl, HV1, c0, c1, c2, d0, d1, d2, e0, e1⟩
  go_wp2_with fail
  refine (Inv3.call HV1 (ring_ok_spec tk tp tn _)).mono ?_
  rw [HT.out]
  clear c0 c1 c2 d0 d1 d2 e0 e1
  rintro e w2 ⟨rfl, HV2, c0, c1, c2, d0, d1, d2, e0, e1⟩
  go_wp2
  all_goals go_ret
  all_goals refine ret_bool ?_ HV2.out.bel
  all_goals (unfold HomV; (try unfold BareV CutV); grind)

set_option maxRecDepth 100000 in
set_option maxHeartbeats 1600000 in
theorem spec_ho (fk fp fn tk tp tn hk : Int) (w : World) (hf : ringB fk fp fn = true) (ht : ringB tk tp tn = true) (h3 : (hk == 3) = false) (h4 : (hk == 4) = false) (h6 : (hk == 6) = false) (h1 : (hk == 1) = false) (h2 : (hk == 2) = false) (h5 : (hk == 5) = false) (h7 : (hk == 7) = false) (h8 : (hk == 8) = false) :
    Calls Try.prog 89 #[ringV fk fp fn, ringV tk tp tn, homV hk 0] w fun e w' => e = .returned (.bool (decide (HomV fk fp fn tk tp tn hk 0))) ∧ Below w.heap.size w w' := by
  have HF := Lib.hid hf
  have HT := Lib.hid ht
  clear hf ht
  go_enter Try.func89, Try.ntmps89
  go_wp2_with fail
  refine (Inv3.call (Lib.hid (Inv3.box w fk fp fn tk tp tn hk 0 _ _)) (ring_ok_spec fk fp fn _)).mono ?_
  rw [HF.out]
  rintro e w1 ⟨rfl, HV1, c0, c1, c2, d0, d1, d2, e0, e1⟩
  go_wp2_with fail
  refine (Inv3.call HV1 (ring_ok_spec tk tp tn _)).mono ?_
  rw [HT.out]
  clear c0 c1 c2 d0 d1 d2 e0 e1
  rintro e w2 ⟨rfl, HV2, c0, c1, c2, d0, d1, d2, e0, e1⟩
  go_wp2
  all_goals go_ret
  all_goals refine ret_bool ?_ HV2.out.bel
  all_goals (unfold HomV; (try unfold BareV CutV); grind)

set_option maxRecDepth 100000 in
set_option maxHeartbeats 1600000 in
theorem spec_h7 (fk fp fn tk tp tn : Int) (w : World) (hf : ringB fk fp fn = true) (ht : ringB tk tp tn = true)  :
    Calls Try.prog 89 #[ringV fk fp fn, ringV tk tp tn, homV 7 0] w fun e w' => e = .returned (.bool (decide (HomV fk fp fn tk tp tn 7 0))) ∧ Below w.heap.size w w' := by
  have HF := Lib.hid hf
  have HT := Lib.hid ht
  clear hf ht
  go_enter Try.func89, Try.ntmps89
  go_wp2_with fail
  refine (Inv3.call (Lib.hid (Inv3.box w fk fp fn tk tp tn 7 0 _ _)) (ring_ok_spec fk fp fn _)).mono ?_
  rw [HF.out]
  rintro e w1 ⟨rfl, HV1, c0, c1, c2, d0, d1, d2, e0, e1⟩
  go_wp2_with fail
  refine (Inv3.call HV1 (ring_ok_spec tk tp tn _)).mono ?_
  rw [HT.out]
  clear c0 c1 c2 d0 d1 d2 e0 e1
  rintro e w2 ⟨rfl, HV2, c0, c1, c2, d0, d1, d2, e0, e1⟩
  go_wp2
  all_goals go_ret
  all_goals refine ret_bool ?_ HV2.out.bel
  all_goals (have q1 := ring_cases HF.out; have q2 := ring_cases HT.out; unfold HomV BareV CutV; grind)

end Go.Proofs.Ytfdjlahaiogabab
namespace Go.Proofs.Ytfdjlahaiogabab
set_option maxRecDepth 20000
open Go.RowKit

theorem mod_l (x y p : Int) : (x % p) * y % p = x * y % p := by rw [Int.mul_emod, Int.emod_emod_of_dvd _ (Int.dvd_refl p), ← Int.mul_emod]
theorem root_pow (a p : Int) : (a * a % p) * (a * a % p) % p = a * a % p * a % p * a % p := by
  rw [mod_l (a * a % p * a) a p, mod_l (a * a) (a * a % p) p, Int.mul_comm (a * a) (a * a % p), Int.mul_assoc]

theorem l01_true (n a b : Int) (r : Bool) (w : World) (h : inB n a b = r) :
    Calls Try.prog 138 #[.int .i64 n, .int .i64 a, .int .i64 b] w fun e w' => e = .returned (.bool r) ∧ w' = w := by
  rw [← h]; exact (l01_in n a b w).mono fun _ _ ⟨h1, h2⟩ => ⟨h1, h2.symm⟩

set_option maxRecDepth 100000 in
set_option maxHeartbeats 1600000 in
theorem spec_h6a (fk fp fn tk tp tn ha : Int) (w : World) (hf : ringB fk fp fn = true) (ht : ringB tk tp tn = true) (h1 : (fk == 8) = false) :
    Calls Try.prog 89 #[ringV fk fp fn, ringV tk tp tn, homV 6 ha] w fun e w' => e = .returned (.bool (decide (HomV fk fp fn tk tp tn 6 ha))) ∧ Below w.heap.size w w' := by
  have HF := Lib.hid hf
  have HT := Lib.hid ht
  clear hf ht
  go_enter Try.func89, Try.ntmps89
  go_wp2_with fail
  refine (Inv3.call (Lib.hid (Inv3.box w fk fp fn tk tp tn 6 ha _ _)) (ring_ok_spec fk fp fn _)).mono ?_
  rw [HF.out]
  rintro e w1 ⟨rfl, HV1, c0, c1, c2, d0, d1, d2, e0, e1⟩
  go_wp2_with fail
  refine (Inv3.call HV1 (ring_ok_spec tk tp tn _)).mono ?_
  rw [HT.out]
  clear c0 c1 c2 d0 d1 d2 e0 e1
  rintro e w2 ⟨rfl, HV2, c0, c1, c2, d0, d1, d2, e0, e1⟩
  go_wp2_with fail
  go_quiet (fail)
  go_wp2
  all_goals go_ret
  all_goals refine ret_bool ?_ (below_drewN HV2.out.bel _)
  all_goals (unfold HomV; (try unfold BareV CutV); grind)

set_option maxRecDepth 100000 in
set_option maxHeartbeats 1600000 in
theorem spec_h6b (fp fn tk tp tn ha : Int) (w : World) (hf : ringB 8 fp fn = true) (ht : ringB tk tp tn = true) (h1 : (tk == 2) = false) :
    Calls Try.prog 89 #[ringV 8 fp fn, ringV tk tp tn, homV 6 ha] w fun e w' => e = .returned (.bool (decide (HomV 8 fp fn tk tp tn 6 ha))) ∧ Below w.heap.size w w' := by
  have HF := Lib.hid hf
  have HT := Lib.hid ht
  clear hf ht
  go_enter Try.func89, Try.ntmps89
  go_wp2_with fail
  refine (Inv3.call (Lib.hid (Inv3.box w 8 fp fn tk tp tn 6 ha _ _)) (ring_ok_spec 8 fp fn _)).mono ?_
  rw [HF.out]
  rintro e w1 ⟨rfl, HV1, c0, c1, c2, d0, d1, d2, e0, e1⟩
  go_wp2_with fail
  refine (Inv3.call HV1 (ring_ok_spec tk tp tn _)).mono ?_
  rw [HT.out]
  clear c0 c1 c2 d0 d1 d2 e0 e1
  rintro e w2 ⟨rfl, HV2, c0, c1, c2, d0, d1, d2, e0, e1⟩
  go_wp2_with fail
  go_quiet (fail)
  go_wp2
  all_goals go_ret
  all_goals refine ret_bool ?_ (below_drewN HV2.out.bel _)
  all_goals (unfold HomV; (try unfold BareV CutV); grind)

set_option maxRecDepth 100000 in
set_option maxHeartbeats 1600000 in
theorem spec_h6c (fp fn tp tn ha : Int) (w : World) (hf : ringB 8 fp fn = true) (ht : ringB 2 tp tn = true) (h1 : (fp == tp) = false) :
    Calls Try.prog 89 #[ringV 8 fp fn, ringV 2 tp tn, homV 6 ha] w fun e w' => e = .returned (.bool (decide (HomV 8 fp fn 2 tp tn 6 ha))) ∧ Below w.heap.size w w' := by
  have HF := Lib.hid hf
  have HT := Lib.hid ht
  clear hf ht
  go_enter Try.func89, Try.ntmps89
  go_wp2_with fail
  refine (Inv3.call (Lib.hid (Inv3.box w 8 fp fn 2 tp tn 6 ha _ _)) (ring_ok_spec 8 fp fn _)).mono ?_
  rw [HF.out]
  rintro e w1 ⟨rfl, HV1, c0, c1, c2, d0, d1, d2, e0, e1⟩
  go_wp2_with fail
  refine (Inv3.call HV1 (ring_ok_spec 2 tp tn _)).mono ?_
  rw [HT.out]
  clear c0 c1 c2 d0 d1 d2 e0 e1
  rintro e w2 ⟨rfl, HV2, c0, c1, c2, d0, d1, d2, e0, e1⟩
  go_wp2_with fail
  go_quiet (fail)
  go_wp2
  all_goals go_ret
  all_goals refine ret_bool ?_ (below_drewN HV2.out.bel _)
  all_goals (unfold HomV; (try unfold BareV CutV); grind)

set_option maxRecDepth 100000 in
set_option maxHeartbeats 1600000 in
theorem spec_h6d (fp fn tn ha : Int) (w : World) (hf : ringB 8 fp fn = true) (ht : ringB 2 fp tn = true) (h1 : inB ha 1 (fp - 1) = false) :
    Calls Try.prog 89 #[ringV 8 fp fn, ringV 2 fp tn, homV 6 ha] w fun e w' => e = .returned (.bool (decide (HomV 8 fp fn 2 fp tn 6 ha))) ∧ Below w.heap.size w w' := by
  have HF := Lib.hid hf
  have HT := Lib.hid ht
  clear hf ht
  have hw : IntKind.i64.wrap (fp - 1) = fp - 1 := IntWalk.i64_in _ (by have := ring_cases HF.out; omega)
  have HI : Hid (inB ha 1 (fp - 1) = false) := Lib.hid h1
  clear h1
  go_enter Try.func89, Try.ntmps89
  go_wp2_with fail
  refine (Inv3.call (Lib.hid (Inv3.box w 8 fp fn 2 fp tn 6 ha _ _)) (ring_ok_spec 8 fp fn _)).mono ?_
  rw [HF.out]
  rintro e w1 ⟨rfl, HV1, c0, c1, c2, d0, d1, d2, e0, e1⟩
  go_wp2_with fail
  refine (Inv3.call HV1 (ring_ok_spec 2 fp tn _)).mono ?_
  rw [HT.out]
  clear c0 c1 c2 d0 d1 d2 e0 e1
  rintro e w2 ⟨rfl, HV2, c0, c1, c2, d0, d1, d2, e0, e1⟩
  go_wp2_with fail
  go_quiet ((go_at_call 138; refine Calls.quiet_of_same (l01_true ha 1 (fp - 1) false _ HI.out)))
  go_wp2
  all_goals go_ret
  all_goals refine ret_bool ?_ (below_drewN HV2.out.bel _)
  all_goals (have q := rootI_cases ha fp; have q2 := HI.out; unfold HomV; unfold RootV at q; unfold inB at q2; grind)

set_option maxRecDepth 100000 in
set_option maxHeartbeats 1600000 in
theorem spec_h6e (fp fn tn ha : Int) (w : World) (hf : ringB 8 fp fn = true) (ht : ringB 2 fp tn = true) (h1 : inB ha 1 (fp - 1) = true) :
    Calls Try.prog 89 #[ringV 8 fp fn, ringV 2 fp tn, homV 6 ha] w fun e w' => e = .returned (.bool (decide (HomV 8 fp fn 2 fp tn 6 ha))) ∧ Below w.heap.size w w' := by
  have HF := Lib.hid hf
  have HT := Lib.hid ht
  clear hf ht
  have hw : IntKind.i64.wrap (fp - 1) = fp - 1 := IntWalk.i64_in _ (by have := ring_cases HF.out; omega)
  have HI : Hid (inB ha 1 (fp - 1) = true) := Lib.hid h1
  clear h1
  obtain ⟨q, hq⟩ : ∃ q, q = ha * ha := ⟨_, rfl⟩
  obtain ⟨r, hr⟩ : ∃ r, r = q % fp := ⟨_, rfl⟩
  obtain ⟨s, hs⟩ : ∃ s, s = r * ha := ⟨_, rfl⟩
  obtain ⟨t, ht⟩ : ∃ t, t = s % fp := ⟨_, rfl⟩
  obtain ⟨u, hu⟩ : ∃ u, u = t * ha := ⟨_, rfl⟩
  obtain ⟨v, hv⟩ : ∃ v, v = u % fp := ⟨_, rfl⟩
  have b0 := inB_true.1 HI.out
  have hp := ring_cases HF.out
  have b1 := mul_in (a := ha) (b := ha) (by omega) (by omega) (by omega) (by omega)
  rw [← hq] at b1
  have b2 := mod_in q fp (by omega) (by omega)
  rw [← hr] at b2
  have b3 := mul_in (a := r) (b := ha) (by omega) (by omega) (by omega) (by omega)
  rw [← hs] at b3
  have b4 := mod_in s fp (by omega) (by omega)
  rw [← ht] at b4
  have b5 := mul_in (a := t) (b := ha) (by omega) (by omega) (by omega) (by omega)
  rw [← hu] at b5
  have w1 : IntKind.i64.wrap (ha * ha) = q := by rw [← hq]; exact wrap_in (by omega) (by omega)
  have w2 : q.tmod fp = r := by rw [Int.tmod_eq_emod_of_nonneg (by omega), hr]
  have w3 : IntKind.i64.wrap (r * ha) = s := by rw [← hs]; exact wrap_in (by omega) (by omega)
  have w4 : s.tmod fp = t := by rw [Int.tmod_eq_emod_of_nonneg (by omega), ht]
  have w5 : IntKind.i64.wrap (t * ha) = u := by rw [← hu]; exact wrap_in (by omega) (by omega)
  have w6 : u.tmod fp = v := by rw [Int.tmod_eq_emod_of_nonneg (by omega), hv]
  have hp0 : ¬ fp = 0 := by omega
  have HV : Hid ((v == fp - 1) = decide (rootI ha fp = 1)) := Lib.hid (by
    rw [Bool.eq_iff_iff, beq_iff_eq, decide_eq_true_eq]
    have hv : RootV ha fp ↔ v = fp - 1 := by unfold RootV; rw [root_pow, ← hq, ← hr, ← hs, ← ht, ← hu, ← hv]; omega
    rcases rootI_cases ha fp with h | h
    · rw [← hv]; exact ⟨fun _ => h.1, fun _ => h.2⟩
    · rw [← hv]; exact ⟨fun h3 => absurd h3 h.2, fun h3 => by omega⟩)
  clear hq hr hs ht hu hv b0 hp b1 b2 b3 b4 b5
  go_enter Try.func89, Try.ntmps89
  go_wp2_with fail
  refine (Inv3.call (Lib.hid (Inv3.box w 8 fp fn 2 fp tn 6 ha _ _)) (ring_ok_spec 8 fp fn _)).mono ?_
  rw [HF.out]
  rintro e w1 ⟨rfl, HV1, c0, c1, c2, d0, d1, d2, e0, e1⟩
  go_wp2_with fail
  refine (Inv3.call HV1 (ring_ok_spec 2 fp tn _)).mono ?_
  rw [HT.out]
  clear c0 c1 c2 d0 d1 d2 e0 e1
  rintro e w2 ⟨rfl, HV2, c0, c1, c2, d0, d1, d2, e0, e1⟩
  go_wp2_with fail
  go_quiet ((go_at_call 138; refine Calls.quiet_of_same (l01_true ha 1 (fp - 1) true _ HI.out)))
  go_wp2
  all_goals go_ret
  all_goals refine ret_bool ?_ (below_drewN HV2.out.bel _)
  all_goals (rw [HV.out]; unfold HomV; grind)

end Go.Proofs.Ytfdjlahaiogabab
