/- The law FnExactHomOk, walked. -/
import Derived.Test.YtjkajbbipgmdoaaHomLaw
import Derived.Test.YtjkajbbipgmdoaaLawKit
import Derived.Deep.RegionHeld3
namespace Go.Proofs.Ytjkajbbipgmdoaa
open Go.RowKit

set_option maxHeartbeats 3200000 in
theorem law_hom_ok_small (fk fp fn : Int) (tk tp tn : Int) (hk ha : Int) (w : World)   :
    Calls Try.prog 3 #[ringV fk fp fn, ringV tk tp tn, homV hk ha] w fun e w' => e = .returned (.bool true) ∧ Below w.heap.size w w' := by
  obtain ⟨R, hR⟩ : ∃ R : Bool, R = homB fk fp fn tk tp tn hk ha := ⟨_, rfl⟩
  have hbb : (R != R) = false := by cases R <;> rfl
  have HR := Lib.hid hR
  clear hR
  have F0 : Hid (Below w.heap.size w (((w.alloc (.cells #[.int .i64 fk, .int .i64 fp, .int .i64 fn] 23)).alloc (.cells #[.int .i64 tk, .int .i64 tp, .int .i64 tn] 23)).alloc (.cells #[.int .i64 hk, .int .i64 ha] 25))) := Lib.hid ((((Below.refl _ _).alloc (Nat.le_refl _) _).alloc (by simp; try omega) _).alloc (by simp; try omega) _)
  have Xf0 : Hid (BoxAt (((w.alloc (.cells #[.int .i64 fk, .int .i64 fp, .int .i64 fn] 23)).alloc (.cells #[.int .i64 tk, .int .i64 tp, .int .i64 tn] 23)).alloc (.cells #[.int .i64 hk, .int .i64 ha] 25)) (w.heap.size) fk fp fn) := Lib.hid (by have h := (BoxAt.new w fk fp fn 23).below (((Below.refl _ _).alloc (Nat.le_refl _) (.cells #[.int .i64 tk, .int .i64 tp, .int .i64 tn] 23)).alloc (by simp) (.cells #[.int .i64 hk, .int .i64 ha] 25)) (by simp); exact h)
  have Xt0 : Hid (BoxAt (((w.alloc (.cells #[.int .i64 fk, .int .i64 fp, .int .i64 fn] 23)).alloc (.cells #[.int .i64 tk, .int .i64 tp, .int .i64 tn] 23)).alloc (.cells #[.int .i64 hk, .int .i64 ha] 25)) (w.heap.size + 1) tk tp tn) := Lib.hid (by have h := (BoxAt.new (w.alloc (.cells #[.int .i64 fk, .int .i64 fp, .int .i64 fn] 23)) tk tp tn 23).below ((Below.refl _ _).alloc (Nat.le_refl _) (.cells #[.int .i64 hk, .int .i64 ha] 25)) (by simp); rw [World.size_alloc] at h; exact h)
  have Xh0 : Hid (HomAt (((w.alloc (.cells #[.int .i64 fk, .int .i64 fp, .int .i64 fn] 23)).alloc (.cells #[.int .i64 tk, .int .i64 tp, .int .i64 tn] 23)).alloc (.cells #[.int .i64 hk, .int .i64 ha] 25)) (w.heap.size + 1 + 1) hk ha) := Lib.hid (by have h := HomAt.new ((w.alloc (.cells #[.int .i64 fk, .int .i64 fp, .int .i64 fn] 23)).alloc (.cells #[.int .i64 tk, .int .i64 tp, .int .i64 tn] 23)) hk ha 25; rw [World.size_alloc, World.size_alloc] at h; exact h)
  have Z0 : Hid (w.heap.size + 3 ≤ (((w.alloc (.cells #[.int .i64 fk, .int .i64 fp, .int .i64 fn] 23)).alloc (.cells #[.int .i64 tk, .int .i64 tp, .int .i64 tn] 23)).alloc (.cells #[.int .i64 hk, .int .i64 ha] 25)).heap.size) := Lib.hid (by simp)
  go_enter Try.func3, Try.ntmps3
  go_wp2
  generalize hW : ((w.alloc (.cells #[.int .i64 fk, .int .i64 fp, .int .i64 fn] 23)).alloc (.cells #[.int .i64 tk, .int .i64 tp, .int .i64 tn] 23)).alloc (.cells #[.int .i64 hk, .int .i64 ha] 25) = w0 at F0 Z0 Xf0 Xt0 Xh0 ⊢
  clear hW
  have hb := (Below.refl w0.heap.size w0).drew
  have Z1 : Hid (w0.heap.size ≤ w0.drew.heap.size) := Lib.hid hb.size
  have F1 := Lib.hid (F0.out.trans (hb.mono F0.out.size))
  have Xf1 := Lib.hid (Xf0.out.below hb (by have q0 := Z0.out; have q1 := Z1.out; omega))
  have Xt1 := Lib.hid (Xt0.out.below hb (by have q0 := Z0.out; have q1 := Z1.out; omega))
  have Xh1 := Lib.hid (Xh0.out.below hb (by have q0 := Z0.out; have q1 := Z1.out; omega))
  clear hb
  obtain ⟨cf0, cf1, cf2⟩ := Xf1.out
  obtain ⟨ct0, ct1, ct2⟩ := Xt1.out
  obtain ⟨ch0, ch1⟩ := Xh1.out
  have AR1 := Lib.hid True.intro
  have AR2 := Lib.hid True.intro
  have AR3 := Lib.hid True.intro
  have AR4 := Lib.hid True.intro
  go_region_held3 (fun w' => w'.cell? ⟨w.heap.size, 0, none⟩ = some (.int .i64 fk) ∧ w'.cell? ⟨w.heap.size, 1, none⟩ = some (.int .i64 fp) ∧ w'.cell? ⟨w.heap.size, 2, none⟩ = some (.int .i64 fn) ∧ w'.cell? ⟨w.heap.size + 1, 0, none⟩ = some (.int .i64 tk) ∧ w'.cell? ⟨w.heap.size + 1, 1, none⟩ = some (.int .i64 tp) ∧ w'.cell? ⟨w.heap.size + 1, 2, none⟩ = some (.int .i64 tn) ∧ w'.cell? ⟨w.heap.size + 1 + 1, 0, none⟩ = some (.int .i64 hk) ∧ w'.cell? ⟨w.heap.size + 1 + 1, 1, none⟩ = some (.int .i64 ha)) (first | exact ⟨cf0, cf1, cf2, ct0, ct1, ct2, ch0, ch1⟩) (first
    | (go_at_call 18; have AR := AR1; clear AR AR1; refine (to_ring fk fp fn _).mono ?_; rintro e w2 ⟨rfl, hb⟩; have Z2 : Hid (w0.drew.heap.size ≤ w2.heap.size) := Lib.hid hb.size; have F2 := Lib.hid (F1.out.trans (hb.mono F1.out.size)); have Xf2 := Lib.hid (Xf1.out.below hb (by have q0 := Z0.out; have q1 := Z1.out; have q2 := Z2.out; omega)); have Xt2 := Lib.hid (Xt1.out.below hb (by have q0 := Z0.out; have q1 := Z1.out; have q2 := Z2.out; omega)); have Xh2 := Lib.hid (Xh1.out.below hb (by have q0 := Z0.out; have q1 := Z1.out; have q2 := Z2.out; omega)); clear hb; clear cf0 cf1 cf2 ct0 ct1 ct2 ch0 ch1; obtain ⟨cf0, cf1, cf2⟩ := Xf2.out; obtain ⟨ct0, ct1, ct2⟩ := Xt2.out; obtain ⟨ch0, ch1⟩ := Xh2.out)
    | (go_at_call 18; have AR := AR2; clear AR AR2; refine (to_ring tk tp tn _).mono ?_; rintro e w3 ⟨rfl, hb⟩; have Z3 : Hid (w2.heap.size ≤ w3.heap.size) := Lib.hid hb.size; have F3 := Lib.hid (F2.out.trans (hb.mono F2.out.size)); have Xf3 := Lib.hid (Xf2.out.below hb (by have q0 := Z0.out; have q1 := Z1.out; have q2 := Z2.out; have q3 := Z3.out; omega)); have Xt3 := Lib.hid (Xt2.out.below hb (by have q0 := Z0.out; have q1 := Z1.out; have q2 := Z2.out; have q3 := Z3.out; omega)); have Xh3 := Lib.hid (Xh2.out.below hb (by have q0 := Z0.out; have q1 := Z1.out; have q2 := Z2.out; have q3 := Z3.out; omega)); clear hb; clear cf0 cf1 cf2 ct0 ct1 ct2 ch0 ch1; obtain ⟨cf0, cf1, cf2⟩ := Xf3.out; obtain ⟨ct0, ct1, ct2⟩ := Xt3.out; obtain ⟨ch0, ch1⟩ := Xh3.out)
    | (go_at_call 19; have AR := AR3; clear AR AR3; refine (to_hom hk ha _).mono ?_; rintro e w4 ⟨rfl, hb⟩; have Z4 : Hid (w3.heap.size ≤ w4.heap.size) := Lib.hid hb.size; have F4 := Lib.hid (F3.out.trans (hb.mono F3.out.size)); have Xf4 := Lib.hid (Xf3.out.below hb (by have q0 := Z0.out; have q1 := Z1.out; have q2 := Z2.out; have q3 := Z3.out; have q4 := Z4.out; omega)); have Xt4 := Lib.hid (Xt3.out.below hb (by have q0 := Z0.out; have q1 := Z1.out; have q2 := Z2.out; have q3 := Z3.out; have q4 := Z4.out; omega)); have Xh4 := Lib.hid (Xh3.out.below hb (by have q0 := Z0.out; have q1 := Z1.out; have q2 := Z2.out; have q3 := Z3.out; have q4 := Z4.out; omega)); clear hb; clear cf0 cf1 cf2 ct0 ct1 ct2 ch0 ch1; obtain ⟨cf0, cf1, cf2⟩ := Xf4.out; obtain ⟨ct0, ct1, ct2⟩ := Xt4.out; obtain ⟨ch0, ch1⟩ := Xh4.out)
    | (go_at_call 17; have AR := AR4; clear AR AR4; refine (hom_ok_spec fk fp fn tk tp tn hk ha _).mono ?_; rw [← HR.out]; rintro e w5 ⟨rfl, hb⟩; have Z5 : Hid (w4.heap.size ≤ w5.heap.size) := Lib.hid hb.size; have F5 := Lib.hid (F4.out.trans (hb.mono F4.out.size)); have Xf5 := Lib.hid (Xf4.out.below hb (by have q0 := Z0.out; have q1 := Z1.out; have q2 := Z2.out; have q3 := Z3.out; have q4 := Z4.out; have q5 := Z5.out; omega)); have Xt5 := Lib.hid (Xt4.out.below hb (by have q0 := Z0.out; have q1 := Z1.out; have q2 := Z2.out; have q3 := Z3.out; have q4 := Z4.out; have q5 := Z5.out; omega)); have Xh5 := Lib.hid (Xh4.out.below hb (by have q0 := Z0.out; have q1 := Z1.out; have q2 := Z2.out; have q3 := Z3.out; have q4 := Z4.out; have q5 := Z5.out; omega)); clear hb; clear cf0 cf1 cf2 ct0 ct1 ct2 ch0 ch1; obtain ⟨cf0, cf1, cf2⟩ := Xf5.out; obtain ⟨ct0, ct1, ct2⟩ := Xt5.out; obtain ⟨ch0, ch1⟩ := Xh5.out))
  go_wp2
  have hb := (Below.refl w5.heap.size w5).drew
  have Z6 : Hid (w5.heap.size ≤ w5.drew.heap.size) := Lib.hid hb.size
  have F6 := Lib.hid (F5.out.trans (hb.mono F5.out.size))
  have Xf6 := Lib.hid (Xf5.out.below hb (by have q0 := Z0.out; have q1 := Z1.out; have q2 := Z2.out; have q3 := Z3.out; have q4 := Z4.out; have q5 := Z5.out; have q6 := Z6.out; omega))
  have Xt6 := Lib.hid (Xt5.out.below hb (by have q0 := Z0.out; have q1 := Z1.out; have q2 := Z2.out; have q3 := Z3.out; have q4 := Z4.out; have q5 := Z5.out; have q6 := Z6.out; omega))
  have Xh6 := Lib.hid (Xh5.out.below hb (by have q0 := Z0.out; have q1 := Z1.out; have q2 := Z2.out; have q3 := Z3.out; have q4 := Z4.out; have q5 := Z5.out; have q6 := Z6.out; omega))
  clear hb
  clear cf0 cf1 cf2 ct0 ct1 ct2 ch0 ch1
  obtain ⟨cf0, cf1, cf2⟩ := Xf6.out
  obtain ⟨ct0, ct1, ct2⟩ := Xt6.out
  obtain ⟨ch0, ch1⟩ := Xh6.out
  have AR1 := Lib.hid True.intro
  have AR2 := Lib.hid True.intro
  have AR3 := Lib.hid True.intro
  have AR4 := Lib.hid True.intro
  go_region_held3 (fun w' => w'.cell? ⟨w.heap.size, 0, none⟩ = some (.int .i64 fk) ∧ w'.cell? ⟨w.heap.size, 1, none⟩ = some (.int .i64 fp) ∧ w'.cell? ⟨w.heap.size, 2, none⟩ = some (.int .i64 fn) ∧ w'.cell? ⟨w.heap.size + 1, 0, none⟩ = some (.int .i64 tk) ∧ w'.cell? ⟨w.heap.size + 1, 1, none⟩ = some (.int .i64 tp) ∧ w'.cell? ⟨w.heap.size + 1, 2, none⟩ = some (.int .i64 tn) ∧ w'.cell? ⟨w.heap.size + 1 + 1, 0, none⟩ = some (.int .i64 hk) ∧ w'.cell? ⟨w.heap.size + 1 + 1, 1, none⟩ = some (.int .i64 ha)) (first | exact ⟨cf0, cf1, cf2, ct0, ct1, ct2, ch0, ch1⟩) (first
    | (go_at_call 18; have AR := AR1; clear AR AR1; refine (to_ring fk fp fn _).mono ?_; rintro e w7 ⟨rfl, hb⟩; have Z7 : Hid (w5.drew.heap.size ≤ w7.heap.size) := Lib.hid hb.size; have F7 := Lib.hid (F6.out.trans (hb.mono F6.out.size)); have Xf7 := Lib.hid (Xf6.out.below hb (by have q0 := Z0.out; have q1 := Z1.out; have q2 := Z2.out; have q3 := Z3.out; have q4 := Z4.out; have q5 := Z5.out; have q6 := Z6.out; have q7 := Z7.out; omega)); have Xt7 := Lib.hid (Xt6.out.below hb (by have q0 := Z0.out; have q1 := Z1.out; have q2 := Z2.out; have q3 := Z3.out; have q4 := Z4.out; have q5 := Z5.out; have q6 := Z6.out; have q7 := Z7.out; omega)); have Xh7 := Lib.hid (Xh6.out.below hb (by have q0 := Z0.out; have q1 := Z1.out; have q2 := Z2.out; have q3 := Z3.out; have q4 := Z4.out; have q5 := Z5.out; have q6 := Z6.out; have q7 := Z7.out; omega)); clear hb; clear cf0 cf1 cf2 ct0 ct1 ct2 ch0 ch1; obtain ⟨cf0, cf1, cf2⟩ := Xf7.out; obtain ⟨ct0, ct1, ct2⟩ := Xt7.out; obtain ⟨ch0, ch1⟩ := Xh7.out)
    | (go_at_call 18; have AR := AR2; clear AR AR2; refine (to_ring tk tp tn _).mono ?_; rintro e w8 ⟨rfl, hb⟩; have Z8 : Hid (w7.heap.size ≤ w8.heap.size) := Lib.hid hb.size; have F8 := Lib.hid (F7.out.trans (hb.mono F7.out.size)); have Xf8 := Lib.hid (Xf7.out.below hb (by have q0 := Z0.out; have q1 := Z1.out; have q2 := Z2.out; have q3 := Z3.out; have q4 := Z4.out; have q5 := Z5.out; have q6 := Z6.out; have q7 := Z7.out; have q8 := Z8.out; omega)); have Xt8 := Lib.hid (Xt7.out.below hb (by have q0 := Z0.out; have q1 := Z1.out; have q2 := Z2.out; have q3 := Z3.out; have q4 := Z4.out; have q5 := Z5.out; have q6 := Z6.out; have q7 := Z7.out; have q8 := Z8.out; omega)); have Xh8 := Lib.hid (Xh7.out.below hb (by have q0 := Z0.out; have q1 := Z1.out; have q2 := Z2.out; have q3 := Z3.out; have q4 := Z4.out; have q5 := Z5.out; have q6 := Z6.out; have q7 := Z7.out; have q8 := Z8.out; omega)); clear hb; clear cf0 cf1 cf2 ct0 ct1 ct2 ch0 ch1; obtain ⟨cf0, cf1, cf2⟩ := Xf8.out; obtain ⟨ct0, ct1, ct2⟩ := Xt8.out; obtain ⟨ch0, ch1⟩ := Xh8.out)
    | (go_at_call 19; have AR := AR3; clear AR AR3; refine (to_hom hk ha _).mono ?_; rintro e w9 ⟨rfl, hb⟩; have Z9 : Hid (w8.heap.size ≤ w9.heap.size) := Lib.hid hb.size; have F9 := Lib.hid (F8.out.trans (hb.mono F8.out.size)); have Xf9 := Lib.hid (Xf8.out.below hb (by have q0 := Z0.out; have q1 := Z1.out; have q2 := Z2.out; have q3 := Z3.out; have q4 := Z4.out; have q5 := Z5.out; have q6 := Z6.out; have q7 := Z7.out; have q8 := Z8.out; have q9 := Z9.out; omega)); have Xt9 := Lib.hid (Xt8.out.below hb (by have q0 := Z0.out; have q1 := Z1.out; have q2 := Z2.out; have q3 := Z3.out; have q4 := Z4.out; have q5 := Z5.out; have q6 := Z6.out; have q7 := Z7.out; have q8 := Z8.out; have q9 := Z9.out; omega)); have Xh9 := Lib.hid (Xh8.out.below hb (by have q0 := Z0.out; have q1 := Z1.out; have q2 := Z2.out; have q3 := Z3.out; have q4 := Z4.out; have q5 := Z5.out; have q6 := Z6.out; have q7 := Z7.out; have q8 := Z8.out; have q9 := Z9.out; omega)); clear hb; clear cf0 cf1 cf2 ct0 ct1 ct2 ch0 ch1; obtain ⟨cf0, cf1, cf2⟩ := Xf9.out; obtain ⟨ct0, ct1, ct2⟩ := Xt9.out; obtain ⟨ch0, ch1⟩ := Xh9.out)
    | (go_at_call 20; have AR := AR4; clear AR AR4; refine (hom_ok_impl fk fp fn tk tp tn hk ha _).mono ?_; rw [← HR.out]; rintro e w10 ⟨rfl, hb⟩; have Z10 : Hid (w9.heap.size ≤ w10.heap.size) := Lib.hid hb.size; have F10 := Lib.hid (F9.out.trans (hb.mono F9.out.size)); have Xf10 := Lib.hid (Xf9.out.below hb (by have q0 := Z0.out; have q1 := Z1.out; have q2 := Z2.out; have q3 := Z3.out; have q4 := Z4.out; have q5 := Z5.out; have q6 := Z6.out; have q7 := Z7.out; have q8 := Z8.out; have q9 := Z9.out; have q10 := Z10.out; omega)); have Xt10 := Lib.hid (Xt9.out.below hb (by have q0 := Z0.out; have q1 := Z1.out; have q2 := Z2.out; have q3 := Z3.out; have q4 := Z4.out; have q5 := Z5.out; have q6 := Z6.out; have q7 := Z7.out; have q8 := Z8.out; have q9 := Z9.out; have q10 := Z10.out; omega)); have Xh10 := Lib.hid (Xh9.out.below hb (by have q0 := Z0.out; have q1 := Z1.out; have q2 := Z2.out; have q3 := Z3.out; have q4 := Z4.out; have q5 := Z5.out; have q6 := Z6.out; have q7 := Z7.out; have q8 := Z8.out; have q9 := Z9.out; have q10 := Z10.out; omega)); clear hb; clear cf0 cf1 cf2 ct0 ct1 ct2 ch0 ch1; obtain ⟨cf0, cf1, cf2⟩ := Xf10.out; obtain ⟨ct0, ct1, ct2⟩ := Xt10.out; obtain ⟨ch0, ch1⟩ := Xh10.out))
  clear cf0 cf1 cf2 ct0 ct1 ct2 ch0 ch1
  go_wp2
  go_ret
  exact ⟨rfl, F10.out⟩

theorem law_hom_ok (fk fp fn : Int) (tk tp tn : Int) (hk ha : Int) (w : World)   :
    Calls Try.prog 3 #[ringV fk fp fn, ringV tk tp tn, homV hk ha] w fun e w' => e = .returned (.bool true) ∧ Below w.heap.size w w' := by
  exact law_hom_ok_small fk fp fn tk tp tn hk ha w  
end Go.Proofs.Ytjkajbbipgmdoaa
