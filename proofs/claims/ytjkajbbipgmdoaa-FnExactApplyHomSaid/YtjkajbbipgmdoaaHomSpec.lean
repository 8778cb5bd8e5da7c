/- spec.HomOk. -/
import Derived.Test.YtjkajbbipgmdoaaHom3
import Derived.Deep.QuietTactic
import Derived.BigQuiet
namespace Go.Proofs.Ytjkajbbipgmdoaa
open Go.RowKit


set_option maxRecDepth 100000 in
set_option maxHeartbeats 1600000 in
theorem spec_h3 (fk fp fn tk tp tn ha : Int) (w : World) (hf : ringB fk fp fn = true) (ht : ringB tk tp tn = true)  :
    Calls Try.prog 17 #[ringV fk fp fn, ringV tk tp tn, homV 3 ha] w fun e w' => e = .returned (.bool (decide (HomV fk fp fn tk tp tn 3 ha))) ∧ Below w.heap.size w w' := by
  have HF := Lib.hid hf
  have HT := Lib.hid ht
  clear hf ht
  have hw : IntKind.i64.wrap (fn - 1) = fn - 1 := IntWalk.i64_in _ (by have := ring_cases HF.out; omega)
  go_enter Try.func17, Try.ntmps17
  go_wp2_with fail
  refine (Inv3.call (Lib.hid (Inv3.box w fk fp fn tk tp tn 3 ha _ _)) (ring_ok_spec fk fp fn _)).mono ?_
  rw [HF.out]
  rintro e w1 ⟨rfl, HV1, c0, c1, c2, d0, d1, d2, e0, e1⟩
  go_wp2_with fail
  refine (Inv3.call HV1 (ring_ok_spec tk tp tn _)).mono ?_
  rw [HT.out]
  clear c0 c1 c2 d0 d1 d2 e0 e1
  rintro e w2 ⟨rfl, HV2, c0, c1, c2, d0, d1, d2, e0, e1⟩
  go_wp2_with (go_at_call 56; refine (l01_in _ _ _ _).mono ?_; rintro e w3 ⟨rfl, rfl⟩)
  all_goals go_ret
  all_goals refine ret_bool ?_ HV2.out.bel
  all_goals (unfold HomV; (try unfold inB); grind)

set_option maxRecDepth 100000 in
set_option maxHeartbeats 1600000 in
theorem spec_h4 (fk fp fn tk tp tn ha : Int) (w : World) (hf : ringB fk fp fn = true) (ht : ringB tk tp tn = true)  :
    Calls Try.prog 17 #[ringV fk fp fn, ringV tk tp tn, homV 4 ha] w fun e w' => e = .returned (.bool (decide (HomV fk fp fn tk tp tn 4 ha))) ∧ Below w.heap.size w w' := by
  have HF := Lib.hid hf
  have HT := Lib.hid ht
  clear hf ht
  go_enter Try.func17, Try.ntmps17
  go_wp2_with fail
  refine (Inv3.call (Lib.hid (Inv3.box w fk fp fn tk tp tn 4 ha _ _)) (ring_ok_spec fk fp fn _)).mono ?_
  rw [HF.out]
  rintro e w1 ⟨rfl, HV1, c0, c1, c2, d0, d1, d2, e0, e1⟩
  go_wp2_with fail
  refine (Inv3.call HV1 (ring_ok_spec tk tp tn _)).mono ?_
  rw [HT.out]
  clear c0 c1 c2 d0 d1 d2 e0 e1
  rintro e w2 ⟨rfl, HV2, c0, c1, c2, d0, d1, d2, e0, e1⟩
  go_wp2_with (go_at_call 56; refine (l01_in _ _ _ _).mono ?_; rintro e w3 ⟨rfl, rfl⟩)
  all_goals go_ret
  all_goals refine ret_bool ?_ HV2.out.bel
  all_goals (unfold HomV; (try unfold inB); grind)

set_option maxRecDepth 100000 in
set_option maxHeartbeats 1600000 in
theorem spec_ha (fk fp fn tk tp tn hk ha : Int) (w : World) (hf : ringB fk fp fn = true) (ht : ringB tk tp tn = true) (h3 : (hk == 3) = false) (h4 : (hk == 4) = false) (h6 : (hk == 6) = false) (h0 : (ha == 0) = false) :
    Calls Try.prog 17 #[ringV fk fp fn, ringV tk tp tn, homV hk ha] w fun e w' => e = .returned (.bool (decide (HomV fk fp fn tk tp tn hk ha))) ∧ Below w.heap.size w w' := by
  have HF := Lib.hid hf
  have HT := Lib.hid ht
  clear hf ht
  go_enter Try.func17, Try.ntmps17
  go_wp2_with fail
  refine (Inv3.call (Lib.hid (Inv3.box w fk fp fn tk tp tn hk ha _ _)) (ring_ok_spec fk fp fn _)).mono ?_
  rw [HF.out]
  rintro e w1 ⟨rfl, HV1, c0, c1, c2, d0, d1, d2, e0, e1⟩
  go_wp2_with fail
  refine (Inv3.call HV1 (ring_ok_spec tk tp tn _)).mono ?_
  rw [HT.out]
  clear c0 c1 c2 d0 d1 d2 e0 e1
  rintro e w2 ⟨rfl, HV2, c0, c1, c2, d0, d1, d2, e0, e1⟩
  go_wp2
  all_goals go_ret
  all_goals refine ret_bool ?_ HV2.out.bel
  all_goals (unfold HomV; (try unfold BareV CutV); grind)

set_option maxRecDepth 100000 in
set_option maxHeartbeats 1600000 in
theorem spec_h1 (fk fp fn tk tp tn : Int) (w : World) (hf : ringB fk fp fn = true) (ht : ringB tk tp tn = true)  :
    Calls Try.prog 17 #[ringV fk fp fn, ringV tk tp tn, homV 1 0] w fun e w' => e = .returned (.bool (decide (HomV fk fp fn tk tp tn 1 0))) ∧ Below w.heap.size w w' := by
  have HF := Lib.hid hf
  have HT := Lib.hid ht
  clear hf ht
  go_enter Try.func17, Try.ntmps17
  go_wp2_with fail
  refine (Inv3.call (Lib.hid (Inv3.box w fk fp fn tk tp tn 1 0 _ _)) (ring_ok_spec fk fp fn _)).mono ?_
  rw [HF.out]
  rintro e w1 ⟨rfl, HV1, c0, c1, c2, d0, d1, d2, e0, e1⟩
  go_wp2_with fail
  refine (Inv3.call HV1 (ring_ok_spec tk tp tn _)).mono ?_
  rw [HT.out]
  clear c0 c1 c2 d0 d1 d2 e0 e1
  rintro e w2 ⟨rfl, HV2, c0, c1, c2, d0, d1, d2, e0, e1⟩
  go_wp2
  all_goals go_ret
  all_goals refine ret_bool ?_ HV2.out.bel
  all_goals (unfold HomV; (try unfold BareV CutV); grind)

set_option maxRecDepth 100000 in
set_option maxHeartbeats 1600000 in
theorem spec_h2 (fk fp fn tk tp tn : Int) (w : World) (hf : ringB fk fp fn = true) (ht : ringB tk tp tn = true)  :
    Calls Try.prog 17 #[ringV fk fp fn, ringV tk tp tn, homV 2 0] w fun e w' => e = .returned (.bool (decide (HomV fk fp fn tk tp tn 2 0))) ∧ Below w.heap.size w w' := by
  have HF := Lib.hid hf
  have HT := Lib.hid ht
  clear hf ht
  go_enter Try.func17, Try.ntmps17
  go_wp2_with fail
  refine (Inv3.call (Lib.hid (Inv3.box w fk fp fn tk tp tn 2 0 _ _)) (ring_ok_spec fk fp fn _)).mono ?_
  rw [HF.out]
  rintro e w1 ⟨rfl, HV1, c0, c1, c2, d0, d1, d2, e0, e1⟩
  go_wp2_with fail
  refine (Inv3.call HV1 (ring_ok_spec tk tp tn _)).mono ?_
  rw [HT.out]
  clear c0 c1 c2 d0 d1 d2 e0 e1
  rintro e w2 ⟨rfl, HV2, c0, c1, c2, d0, d1, d2, e0, e1⟩
  go_wp2
  all_goals go_ret
  all_goals refine ret_bool ?_ HV2.out.bel
  all_goals (unfold HomV; (try unfold BareV CutV); grind)

set_option maxRecDepth 100000 in
set_option maxHeartbeats 1600000 in
theorem spec_h5 (fk fp fn tk tp tn : Int) (w : World) (hf : ringB fk fp fn = true) (ht : ringB tk tp tn = true)  :
    Calls Try.prog 17 #[ringV fk fp fn, ringV tk tp tn, homV 5 0] w fun e w' => e = .returned (.bool (decide (HomV fk fp fn tk tp tn 5 0))) ∧ Below w.heap.size w w' := by
  have HF := Lib.hid hf
  have HT := Lib.hid ht
  clear hf ht
  go_enter Try.func17, Try.ntmps17
  go_wp2_with fail
  refine (Inv3.call (Lib.hid (Inv3.box w fk fp fn tk tp tn 5 0 _ _)) (ring_ok_spec fk fp fn _)).mono ?_
  rw [HF.out]
  rintro e w1 ⟨rfl, HV1, c0, c1, c2, d0, d1, d2, e0, e1⟩
  go_wp2_with fail
  refine (Inv3.call HV1 (ring_ok_spec tk tp tn _)).mono ?_
  rw [HT.out]
  clear c0 c1 c2 d0 d1 d2 e0 e1
  rintro e w2 ⟨rfl, HV2, c0, c1, c2, d0, d1, d2, e0, e1⟩
  go_wp2
  all_goals go_ret
  all_goals refine ret_bool ?_ HV2.out.bel
  all_goals (unfold HomV; (try unfold BareV CutV); grind)

set_option maxRecDepth 100000 in
set_option maxHeartbeats 1600000 in
theorem spec_h8 (fk fp fn tk tp tn : Int) (w : World) (hf : ringB fk fp fn = true) (ht : ringB tk tp tn = true)  :
    Calls Try.prog 17 #[ringV fk fp fn, ringV tk tp tn, homV 8 0] w fun e w' => e = .returned (.bool (decide (HomV fk fp fn tk tp tn 8 0))) ∧ Below w.heap.size w w' := by
  have HF := Lib.hid hf
  have HT := Lib.hid ht
  clear hf ht
  go_enter Try.func17, Try.ntmps17
  go_wp2_with fail
  refine (Inv3.call (Lib.hid (Inv3.box w fk fp fn tk tp tn 8 0 _ _)) (ring_ok_spec fk fp fn _)).mono ?_
  rw [HF.out]
  rintro e w1 ⟨rfl, HV1, c0, c1, c2, d0, d1, d2, e0, e1⟩
  go_wp2_with fail
  refine (Inv3.call HV1 (ring_ok_spec tk tp tn _)).mono ?_
  rw [HT.out]
  clear c0 c1 c2 d0 d1 d2 e0 e1
  rintro e w2 ⟨rfl, HV2, c0, c1, c2, d0, d1, d2, e0, e1⟩
  go_wp2
  all_goals go_ret
  all_goals refine ret_bool ?_ HV2.out.bel
  all_goals (unfold HomV; (try unfold BareV CutV); grind)

set_option maxRecDepth 100000 in
set_option maxHeartbeats 1600000 in
theorem spec_ho (fk fp fn tk tp tn hk : Int) (w : World) (hf : ringB fk fp fn = true) (ht : ringB tk tp tn = true) (h3 : (hk == 3) = false) (h4 : (hk == 4) = false) (h6 : (hk == 6) = false) (h1 : (hk == 1) = false) (h2 : (hk == 2) = false) (h5 : (hk == 5) = false) (h7 : (hk == 7) = false) (h8 : (hk == 8) = false) :
    Calls Try.prog 17 #[ringV fk fp fn, ringV tk tp tn, homV hk 0] w fun e w' => e = .returned (.bool (decide (HomV fk fp fn tk tp tn hk 0))) ∧ Below w.heap.size w w' := by
  have HF := Lib.hid hf
  have HT := Lib.hid ht
  clear hf ht
  go_enter Try.func17, Try.ntmps17
  go_wp2_with fail
  refine (Inv3.call (Lib.hid (Inv3.box w fk fp fn tk tp tn hk 0 _ _)) (ring_ok_spec fk fp fn _)).mono ?_
  rw [HF.out]
  rintro e w1 ⟨rfl, HV1, c0, c1, c2, d0, d1, d2, e0, e1⟩
  go_wp2_with fail
  refine (Inv3.call HV1 (ring_ok_spec tk tp tn _)).mono ?_
  rw [HT.out]
  clear c0 c1 c2 d0 d1 d2 e0 e1
  rintro e w2 ⟨rfl, HV2, c0, c1, c2, d0, d1, d2, e0, e1⟩
  go_wp2
  all_goals go_ret
  all_goals refine ret_bool ?_ HV2.out.bel
  all_goals (unfold HomV; (try unfold BareV CutV); grind)

set_option maxRecDepth 100000 in
set_option maxHeartbeats 1600000 in
theorem spec_h7 (fk fp fn tk tp tn : Int) (w : World) (hf : ringB fk fp fn = true) (ht : ringB tk tp tn = true)  :
    Calls Try.prog 17 #[ringV fk fp fn, ringV tk tp tn, homV 7 0] w fun e w' => e = .returned (.bool (decide (HomV fk fp fn tk tp tn 7 0))) ∧ Below w.heap.size w w' := by
  have HF := Lib.hid hf
  have HT := Lib.hid ht
  clear hf ht
  go_enter Try.func17, Try.ntmps17
  go_wp2_with fail
  refine (Inv3.call (Lib.hid (Inv3.box w fk fp fn tk tp tn 7 0 _ _)) (ring_ok_spec fk fp fn _)).mono ?_
  rw [HF.out]
  rintro e w1 ⟨rfl, HV1, c0, c1, c2, d0, d1, d2, e0, e1⟩
  go_wp2_with fail
  refine (Inv3.call HV1 (ring_ok_spec tk tp tn _)).mono ?_
  rw [HT.out]
  clear c0 c1 c2 d0 d1 d2 e0 e1
  rintro e w2 ⟨rfl, HV2, c0, c1, c2, d0, d1, d2, e0, e1⟩
  go_wp2
  all_goals go_ret
  all_goals refine ret_bool ?_ HV2.out.bel
  all_goals (have q1 := ring_cases HF.out; have q2 := ring_cases HT.out; unfold HomV BareV CutV; grind)

end Go.Proofs.Ytjkajbbipgmdoaa
