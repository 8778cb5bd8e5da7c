
/- The law FnExactApplyHom, walked. -/
import Derived.Test.YtfcobkkpkppodaaApplyHom
import Derived.Test.YtfcobkkpkppodaaLawKit
import Derived.Deep.RegionHeld3
namespace Go.Proofs.Ytfcobkkpkppodaa
set_option maxRecDepth 20000
open Go.RowKit

set_option maxHeartbeats 400000 in
theorem law_apply_hom_big0 (fk fp fn : Int) (tk tp tn : Int) (hk ha : Int) (axs : Option Addr) (nxs cxs : Nat) (w : World)  (hb : 1048576 < nxs) (hc : nxs ≤ 281474976710656) :
    Calls Try.prog 12 #[ringV fk fp fn, ringV tk tp tn, homV hk ha, .slice axs nxs cxs] w fun e w' => e = .returned (.bool true) ∧ Below w.heap.size w w' := by
  go_enter Try.func12, Try.ntmps12
  go_wp2
  go_ret
  exact ⟨rfl, (((Below.refl _ _).alloc (Nat.le_refl _) _).alloc (by simp; try omega) _).alloc (by simp; try omega) _⟩

set_option maxHeartbeats 3200000 in
theorem law_apply_hom_small (fk fp fn : Int) (tk tp tn : Int) (hk ha : Int) (axs : Option Addr) (nxs cxs : Nat) (w : World) (xs : List Int) (Lxs : Hid (xs.length = nxs)) (sxs : nxs ≤ 1048576) (Rxs : Hid (Rd w.heap.size w (.slice axs nxs cxs) (ints xs)))  :
    Calls Try.prog 12 #[ringV fk fp fn, ringV tk tp tn, homV hk ha, .slice axs nxs cxs] w fun e w' => e = .returned (.bool true) ∧ Below w.heap.size w w' := by
  obtain ⟨R, hR⟩ : ∃ R : List Int, R = applyL fk fp fn tk tp tn hk ha xs := ⟨_, rfl⟩
  have Bxs : Hid (xs.length ≤ 1048576) := Lib.hid (by rw [Lxs.out]; exact sxs)
  have HL : Hid (R.length ≤ 17592186044416) := Lib.hid (by rw [hR]; exact Nat.le_trans (apply_len _ _ _ _ _ _ _ _ _) (by omega))
  have HR := Lib.hid hR
  clear hR
  have F0 : Hid (Below w.heap.size w (((w.alloc (.cells #[.int .i64 fk, .int .i64 fp, .int .i64 fn] 23)).alloc (.cells #[.int .i64 tk, .int .i64 tp, .int .i64 tn] 23)).alloc (.cells #[.int .i64 hk, .int .i64 ha] 47))) := Lib.hid ((((Below.refl _ _).alloc (Nat.le_refl _) _).alloc (by simp; try omega) _).alloc (by simp; try omega) _)
  have Xf0 : Hid (BoxAt (((w.alloc (.cells #[.int .i64 fk, .int .i64 fp, .int .i64 fn] 23)).alloc (.cells #[.int .i64 tk, .int .i64 tp, .int .i64 tn] 23)).alloc (.cells #[.int .i64 hk, .int .i64 ha] 47)) (w.heap.size) fk fp fn) := Lib.hid (by have h := (BoxAt.new w fk fp fn 23).below (((Below.refl _ _).alloc (Nat.le_refl _) (.cells #[.int .i64 tk, .int .i64 tp, .int .i64 tn] 23)).alloc (by simp) (.cells #[.int .i64 hk, .int .i64 ha] 47)) (by simp); exact h)
  have Xt0 : Hid (BoxAt (((w.alloc (.cells #[.int .i64 fk, .int .i64 fp, .int .i64 fn] 23)).alloc (.cells #[.int .i64 tk, .int .i64 tp, .int .i64 tn] 23)).alloc (.cells #[.int .i64 hk, .int .i64 ha] 47)) (w.heap.size + 1) tk tp tn) := Lib.hid (by have h := (BoxAt.new (w.alloc (.cells #[.int .i64 fk, .int .i64 fp, .int .i64 fn] 23)) tk tp tn 23).below ((Below.refl _ _).alloc (Nat.le_refl _) (.cells #[.int .i64 hk, .int .i64 ha] 47)) (by simp); rw [World.size_alloc] at h; exact h)
  have Xh0 : Hid (HomAt (((w.alloc (.cells #[.int .i64 fk, .int .i64 fp, .int .i64 fn] 23)).alloc (.cells #[.int .i64 tk, .int .i64 tp, .int .i64 tn] 23)).alloc (.cells #[.int .i64 hk, .int .i64 ha] 47)) (w.heap.size + 1 + 1) hk ha) := Lib.hid (by have h := HomAt.new ((w.alloc (.cells #[.int .i64 fk, .int .i64 fp, .int .i64 fn] 23)).alloc (.cells #[.int .i64 tk, .int .i64 tp, .int .i64 tn] 23)) hk ha 47; rw [World.size_alloc, World.size_alloc] at h; exact h)
  have Rxs0 : Hid (Rd w.heap.size (((w.alloc (.cells #[.int .i64 fk, .int .i64 fp, .int .i64 fn] 23)).alloc (.cells #[.int .i64 tk, .int .i64 tp, .int .i64 tn] 23)).alloc (.cells #[.int .i64 hk, .int .i64 ha] 47)) (.slice axs nxs cxs) (ints xs)) := Lib.hid (Rxs.out.below F0.out (Nat.le_refl _))
  have Z0 : Hid (w.heap.size + 3 ≤ (((w.alloc (.cells #[.int .i64 fk, .int .i64 fp, .int .i64 fn] 23)).alloc (.cells #[.int .i64 tk, .int .i64 tp, .int .i64 tn] 23)).alloc (.cells #[.int .i64 hk, .int .i64 ha] 47)).heap.size) := Lib.hid (by simp)
  go_enter Try.func12, Try.ntmps12
  go_wp2
  generalize hW : ((w.alloc (.cells #[.int .i64 fk, .int .i64 fp, .int .i64 fn] 23)).alloc (.cells #[.int .i64 tk, .int .i64 tp, .int .i64 tn] 23)).alloc (.cells #[.int .i64 hk, .int .i64 ha] 47) = w0 at F0 Z0 Xf0 Xt0 Xh0 Rxs0 ⊢
  clear hW
  have hb := (Below.refl w0.heap.size w0).drew
  have Z1 : Hid (w0.heap.size ≤ w0.drew.heap.size) := Lib.hid hb.size
  have F1 := Lib.hid (F0.out.trans (hb.mono F0.out.size))
  have Xf1 := Lib.hid (Xf0.out.below hb (by have q0 := Z0.out; have q1 := Z1.out; omega))
  have Xt1 := Lib.hid (Xt0.out.below hb (by have q0 := Z0.out; have q1 := Z1.out; omega))
  have Xh1 := Lib.hid (Xh0.out.below hb (by have q0 := Z0.out; have q1 := Z1.out; omega))
  have Rxs1 := Lib.hid (Rxs0.out.below hb F0.out.size)
  clear hb
  obtain ⟨cf0, cf1, cf2⟩ := Xf1.out
  obtain ⟨ct0, ct1, ct2⟩ := Xt1.out
  obtain ⟨ch0, ch1⟩ := Xh1.out
  have AR1 := Lib.hid True.intro
  have AR2 := Lib.hid True.intro
  have AR3 := Lib.hid True.intro
  have AR4 := Lib.hid True.intro
  have AR5 := Lib.hid True.intro
  go_region_held3 (fun w' => w'.cell? ⟨w.heap.size, 0, none⟩ = some (.int .i64 fk) ∧ w'.cell? ⟨w.heap.size, 1, none⟩ = some (.int .i64 fp) ∧ w'.cell? ⟨w.heap.size, 2, none⟩ = some (.int .i64 fn) ∧ w'.cell? ⟨w.heap.size + 1, 0, none⟩ = some (.int .i64 tk) ∧ w'.cell? ⟨w.heap.size + 1, 1, none⟩ = some (.int .i64 tp) ∧ w'.cell? ⟨w.heap.size + 1, 2, none⟩ = some (.int .i64 tn) ∧ w'.cell? ⟨w.heap.size + 1 + 1, 0, none⟩ = some (.int .i64 hk) ∧ w'.cell? ⟨w.heap.size + 1 + 1, 1, none⟩ = some (.int .i64 ha)) (first | exact ⟨cf0, cf1, cf2, ct0, ct1, ct2, ch0, ch1⟩) (first
    | (go_at_call 17; have AR := AR1; clear AR AR1; refine (to_ring fk fp fn _).mono ?_; rintro e w2 ⟨rfl, hb⟩; have Z2 : Hid (w0.drew.heap.size ≤ w2.heap.size) := Lib.hid hb.size; have F2 := Lib.hid (F1.out.trans (hb.mono F1.out.size)); have Xf2 := Lib.hid (Xf1.out.below hb (by have q0 := Z0.out; have q1 := Z1.out; have q2 := Z2.out; omega)); have Xt2 := Lib.hid (Xt1.out.below hb (by have q0 := Z0.out; have q1 := Z1.out; have q2 := Z2.out; omega)); have Xh2 := Lib.hid (Xh1.out.below hb (by have q0 := Z0.out; have q1 := Z1.out; have q2 := Z2.out; omega)); have Rxs2 := Lib.hid (Rxs1.out.below hb F1.out.size); clear hb; clear cf0 cf1 cf2 ct0 ct1 ct2 ch0 ch1; obtain ⟨cf0, cf1, cf2⟩ := Xf2.out; obtain ⟨ct0, ct1, ct2⟩ := Xt2.out; obtain ⟨ch0, ch1⟩ := Xh2.out)
    | (go_at_call 17; have AR := AR2; clear AR AR2; refine (to_ring tk tp tn _).mono ?_; rintro e w3 ⟨rfl, hb⟩; have Z3 : Hid (w2.heap.size ≤ w3.heap.size) := Lib.hid hb.size; have F3 := Lib.hid (F2.out.trans (hb.mono F2.out.size)); have Xf3 := Lib.hid (Xf2.out.below hb (by have q0 := Z0.out; have q1 := Z1.out; have q2 := Z2.out; have q3 := Z3.out; omega)); have Xt3 := Lib.hid (Xt2.out.below hb (by have q0 := Z0.out; have q1 := Z1.out; have q2 := Z2.out; have q3 := Z3.out; omega)); have Xh3 := Lib.hid (Xh2.out.below hb (by have q0 := Z0.out; have q1 := Z1.out; have q2 := Z2.out; have q3 := Z3.out; omega)); have Rxs3 := Lib.hid (Rxs2.out.below hb F2.out.size); clear hb; clear cf0 cf1 cf2 ct0 ct1 ct2 ch0 ch1; obtain ⟨cf0, cf1, cf2⟩ := Xf3.out; obtain ⟨ct0, ct1, ct2⟩ := Xt3.out; obtain ⟨ch0, ch1⟩ := Xh3.out)
    | (go_at_call 42; have AR := AR3; clear AR AR3; refine (to_hom hk ha _).mono ?_; rintro e w4 ⟨rfl, hb⟩; have Z4 : Hid (w3.heap.size ≤ w4.heap.size) := Lib.hid hb.size; have F4 := Lib.hid (F3.out.trans (hb.mono F3.out.size)); have Xf4 := Lib.hid (Xf3.out.below hb (by have q0 := Z0.out; have q1 := Z1.out; have q2 := Z2.out; have q3 := Z3.out; have q4 := Z4.out; omega)); have Xt4 := Lib.hid (Xt3.out.below hb (by have q0 := Z0.out; have q1 := Z1.out; have q2 := Z2.out; have q3 := Z3.out; have q4 := Z4.out; omega)); have Xh4 := Lib.hid (Xh3.out.below hb (by have q0 := Z0.out; have q1 := Z1.out; have q2 := Z2.out; have q3 := Z3.out; have q4 := Z4.out; omega)); have Rxs4 := Lib.hid (Rxs3.out.below hb F3.out.size); clear hb; clear cf0 cf1 cf2 ct0 ct1 ct2 ch0 ch1; obtain ⟨cf0, cf1, cf2⟩ := Xf4.out; obtain ⟨ct0, ct1, ct2⟩ := Xt4.out; obtain ⟨ch0, ch1⟩ := Xh4.out)
    | (go_at_call 18; have AR := AR4; clear AR AR4; refine (to_row Rxs4.out F4.out.size (by have := Bxs.out; omega)).mono ?_; rintro e w5 ⟨vsxs, rfl, ho, hb⟩; have Z5 : Hid (w4.heap.size ≤ w5.heap.size) := Lib.hid hb.size; have F5 := Lib.hid (F4.out.trans (hb.mono F4.out.size)); have Xf5 := Lib.hid (Xf4.out.below hb (by have q0 := Z0.out; have q1 := Z1.out; have q2 := Z2.out; have q3 := Z3.out; have q4 := Z4.out; have q5 := Z5.out; omega)); have Xt5 := Lib.hid (Xt4.out.below hb (by have q0 := Z0.out; have q1 := Z1.out; have q2 := Z2.out; have q3 := Z3.out; have q4 := Z4.out; have q5 := Z5.out; omega)); have Xh5 := Lib.hid (Xh4.out.below hb (by have q0 := Z0.out; have q1 := Z1.out; have q2 := Z2.out; have q3 := Z3.out; have q4 := Z4.out; have q5 := Z5.out; omega)); have Rxs5 := Lib.hid (Rxs4.out.below hb F4.out.size); clear hb; have Osxs5 := Lib.hid ho; clear ho; clear cf0 cf1 cf2 ct0 ct1 ct2 ch0 ch1; obtain ⟨cf0, cf1, cf2⟩ := Xf5.out; obtain ⟨ct0, ct1, ct2⟩ := Xt5.out; obtain ⟨ch0, ch1⟩ := Xh5.out)
    | (go_at_call 44; have AR := AR5; clear AR AR5; refine (apply_spec (fk := fk) (fp := fp) (fn := fn) (tk := tk) (tp := tp) (tn := tn) (hk := hk) (ha := ha) (Osxs5.out.rd.mono Osxs5.out.2.2) (Nat.le_refl _) (by have := Bxs.out; omega)).mono ?_; rw [← HR.out]; rintro e w6 ⟨vW, rfl, ho, hb⟩; have Z6 : Hid (w5.heap.size ≤ w6.heap.size) := Lib.hid hb.size; have F6 := Lib.hid (F5.out.trans (hb.mono F5.out.size)); have Xf6 := Lib.hid (Xf5.out.below hb (by have q0 := Z0.out; have q1 := Z1.out; have q2 := Z2.out; have q3 := Z3.out; have q4 := Z4.out; have q5 := Z5.out; have q6 := Z6.out; omega)); have Xt6 := Lib.hid (Xt5.out.below hb (by have q0 := Z0.out; have q1 := Z1.out; have q2 := Z2.out; have q3 := Z3.out; have q4 := Z4.out; have q5 := Z5.out; have q6 := Z6.out; omega)); have Xh6 := Lib.hid (Xh5.out.below hb (by have q0 := Z0.out; have q1 := Z1.out; have q2 := Z2.out; have q3 := Z3.out; have q4 := Z4.out; have q5 := Z5.out; have q6 := Z6.out; omega)); have Rxs6 := Lib.hid (Rxs5.out.below hb F5.out.size); have Osxs6 := Lib.hid (Osxs5.out.below hb (Nat.le_refl _)); clear hb; have OW6 := Lib.hid ho; clear ho; clear cf0 cf1 cf2 ct0 ct1 ct2 ch0 ch1; obtain ⟨cf0, cf1, cf2⟩ := Xf6.out; obtain ⟨ct0, ct1, ct2⟩ := Xt6.out; obtain ⟨ch0, ch1⟩ := Xh6.out))
  clear cf0 cf1 cf2 ct0 ct1 ct2 ch0 ch1
  obtain ⟨cf0, cf1, cf2⟩ := Xf6.out
  obtain ⟨ct0, ct1, ct2⟩ := Xt6.out
  obtain ⟨ch0, ch1⟩ := Xh6.out
  go_wp2_with fail
  refine (to_row Rxs6.out F6.out.size (by have := Bxs.out; omega)).mono ?_
  rintro e w7 ⟨vxxs, rfl, ho, hb⟩
  have Z7 : Hid (w6.heap.size ≤ w7.heap.size) := Lib.hid hb.size
  have F7 := Lib.hid (F6.out.trans (hb.mono F6.out.size))
  have Xf7 := Lib.hid (Xf6.out.below hb (by have q0 := Z0.out; have q1 := Z1.out; have q2 := Z2.out; have q3 := Z3.out; have q4 := Z4.out; have q5 := Z5.out; have q6 := Z6.out; have q7 := Z7.out; omega))
  have Xt7 := Lib.hid (Xt6.out.below hb (by have q0 := Z0.out; have q1 := Z1.out; have q2 := Z2.out; have q3 := Z3.out; have q4 := Z4.out; have q5 := Z5.out; have q6 := Z6.out; have q7 := Z7.out; omega))
  have Xh7 := Lib.hid (Xh6.out.below hb (by have q0 := Z0.out; have q1 := Z1.out; have q2 := Z2.out; have q3 := Z3.out; have q4 := Z4.out; have q5 := Z5.out; have q6 := Z6.out; have q7 := Z7.out; omega))
  have Rxs7 := Lib.hid (Rxs6.out.below hb F6.out.size)
  have OW7 := Lib.hid (OW6.out.below hb (Nat.le_refl _))
  clear hb
  have Oxxs7 := Lib.hid ho
  clear ho
  go_wp2
  have hb := (Below.refl w7.heap.size w7).drew
  have Z8 : Hid (w7.heap.size ≤ w7.drew.heap.size) := Lib.hid hb.size
  have F8 := Lib.hid (F7.out.trans (hb.mono F7.out.size))
  have Xf8 := Lib.hid (Xf7.out.below hb (by have q0 := Z0.out; have q1 := Z1.out; have q2 := Z2.out; have q3 := Z3.out; have q4 := Z4.out; have q5 := Z5.out; have q6 := Z6.out; have q7 := Z7.out; have q8 := Z8.out; omega))
  have Xt8 := Lib.hid (Xt7.out.below hb (by have q0 := Z0.out; have q1 := Z1.out; have q2 := Z2.out; have q3 := Z3.out; have q4 := Z4.out; have q5 := Z5.out; have q6 := Z6.out; have q7 := Z7.out; have q8 := Z8.out; omega))
  have Xh8 := Lib.hid (Xh7.out.below hb (by have q0 := Z0.out; have q1 := Z1.out; have q2 := Z2.out; have q3 := Z3.out; have q4 := Z4.out; have q5 := Z5.out; have q6 := Z6.out; have q7 := Z7.out; have q8 := Z8.out; omega))
  have Rxs8 := Lib.hid (Rxs7.out.below hb F7.out.size)
  have OW8 := Lib.hid (OW7.out.below hb (Nat.le_refl _))
  have Oxxs8 := Lib.hid (Oxxs7.out.below hb (Nat.le_refl _))
  clear hb
  clear cf0 cf1 cf2 ct0 ct1 ct2 ch0 ch1
  obtain ⟨cf0, cf1, cf2⟩ := Xf8.out
  obtain ⟨ct0, ct1, ct2⟩ := Xt8.out
  obtain ⟨ch0, ch1⟩ := Xh8.out
  have AR1 := Lib.hid True.intro
  have AR2 := Lib.hid True.intro
  have AR3 := Lib.hid True.intro
  have AR4 := Lib.hid True.intro
  go_region_held3 (fun w' => w'.cell? ⟨w.heap.size, 0, none⟩ = some (.int .i64 fk) ∧ w'.cell? ⟨w.heap.size, 1, none⟩ = some (.int .i64 fp) ∧ w'.cell? ⟨w.heap.size, 2, none⟩ = some (.int .i64 fn) ∧ w'.cell? ⟨w.heap.size + 1, 0, none⟩ = some (.int .i64 tk) ∧ w'.cell? ⟨w.heap.size + 1, 1, none⟩ = some (.int .i64 tp) ∧ w'.cell? ⟨w.heap.size + 1, 2, none⟩ = some (.int .i64 tn) ∧ w'.cell? ⟨w.heap.size + 1 + 1, 0, none⟩ = some (.int .i64 hk) ∧ w'.cell? ⟨w.heap.size + 1 + 1, 1, none⟩ = some (.int .i64 ha)) (first | exact ⟨cf0, cf1, cf2, ct0, ct1, ct2, ch0, ch1⟩) (first
    | (go_at_call 17; have AR := AR1; clear AR AR1; refine (to_ring fk fp fn _).mono ?_; rintro e w9 ⟨rfl, hb⟩; have Z9 : Hid (w7.drew.heap.size ≤ w9.heap.size) := Lib.hid hb.size; have F9 := Lib.hid (F8.out.trans (hb.mono F8.out.size)); have Xf9 := Lib.hid (Xf8.out.below hb (by have q0 := Z0.out; have q1 := Z1.out; have q2 := Z2.out; have q3 := Z3.out; have q4 := Z4.out; have q5 := Z5.out; have q6 := Z6.out; have q7 := Z7.out; have q8 := Z8.out; have q9 := Z9.out; omega)); have Xt9 := Lib.hid (Xt8.out.below hb (by have q0 := Z0.out; have q1 := Z1.out; have q2 := Z2.out; have q3 := Z3.out; have q4 := Z4.out; have q5 := Z5.out; have q6 := Z6.out; have q7 := Z7.out; have q8 := Z8.out; have q9 := Z9.out; omega)); have Xh9 := Lib.hid (Xh8.out.below hb (by have q0 := Z0.out; have q1 := Z1.out; have q2 := Z2.out; have q3 := Z3.out; have q4 := Z4.out; have q5 := Z5.out; have q6 := Z6.out; have q7 := Z7.out; have q8 := Z8.out; have q9 := Z9.out; omega)); have Rxs9 := Lib.hid (Rxs8.out.below hb F8.out.size); have OW9 := Lib.hid (OW8.out.below hb (Nat.le_refl _)); have Oxxs9 := Lib.hid (Oxxs8.out.below hb (Nat.le_refl _)); clear hb; clear cf0 cf1 cf2 ct0 ct1 ct2 ch0 ch1; obtain ⟨cf0, cf1, cf2⟩ := Xf9.out; obtain ⟨ct0, ct1, ct2⟩ := Xt9.out; obtain ⟨ch0, ch1⟩ := Xh9.out)
    | (go_at_call 17; have AR := AR2; clear AR AR2; refine (to_ring tk tp tn _).mono ?_; rintro e w10 ⟨rfl, hb⟩; have Z10 : Hid (w9.heap.size ≤ w10.heap.size) := Lib.hid hb.size; have F10 := Lib.hid (F9.out.trans (hb.mono F9.out.size)); have Xf10 := Lib.hid (Xf9.out.below hb (by have q0 := Z0.out; have q1 := Z1.out; have q2 := Z2.out; have q3 := Z3.out; have q4 := Z4.out; have q5 := Z5.out; have q6 := Z6.out; have q7 := Z7.out; have q8 := Z8.out; have q9 := Z9.out; have q10 := Z10.out; omega)); have Xt10 := Lib.hid (Xt9.out.below hb (by have q0 := Z0.out; have q1 := Z1.out; have q2 := Z2.out; have q3 := Z3.out; have q4 := Z4.out; have q5 := Z5.out; have q6 := Z6.out; have q7 := Z7.out; have q8 := Z8.out; have q9 := Z9.out; have q10 := Z10.out; omega)); have Xh10 := Lib.hid (Xh9.out.below hb (by have q0 := Z0.out; have q1 := Z1.out; have q2 := Z2.out; have q3 := Z3.out; have q4 := Z4.out; have q5 := Z5.out; have q6 := Z6.out; have q7 := Z7.out; have q8 := Z8.out; have q9 := Z9.out; have q10 := Z10.out; omega)); have Rxs10 := Lib.hid (Rxs9.out.below hb F9.out.size); have OW10 := Lib.hid (OW9.out.below hb (Nat.le_refl _)); have Oxxs10 := Lib.hid (Oxxs9.out.below hb (Nat.le_refl _)); clear hb; clear cf0 cf1 cf2 ct0 ct1 ct2 ch0 ch1; obtain ⟨cf0, cf1, cf2⟩ := Xf10.out; obtain ⟨ct0, ct1, ct2⟩ := Xt10.out; obtain ⟨ch0, ch1⟩ := Xh10.out)
    | (go_at_call 42; have AR := AR3; clear AR AR3; refine (to_hom hk ha _).mono ?_; rintro e w11 ⟨rfl, hb⟩; have Z11 : Hid (w10.heap.size ≤ w11.heap.size) := Lib.hid hb.size; have F11 := Lib.hid (F10.out.trans (hb.mono F10.out.size)); have Xf11 := Lib.hid (Xf10.out.below hb (by have q0 := Z0.out; have q1 := Z1.out; have q2 := Z2.out; have q3 := Z3.out; have q4 := Z4.out; have q5 := Z5.out; have q6 := Z6.out; have q7 := Z7.out; have q8 := Z8.out; have q9 := Z9.out; have q10 := Z10.out; have q11 := Z11.out; omega)); have Xt11 := Lib.hid (Xt10.out.below hb (by have q0 := Z0.out; have q1 := Z1.out; have q2 := Z2.out; have q3 := Z3.out; have q4 := Z4.out; have q5 := Z5.out; have q6 := Z6.out; have q7 := Z7.out; have q8 := Z8.out; have q9 := Z9.out; have q10 := Z10.out; have q11 := Z11.out; omega)); have Xh11 := Lib.hid (Xh10.out.below hb (by have q0 := Z0.out; have q1 := Z1.out; have q2 := Z2.out; have q3 := Z3.out; have q4 := Z4.out; have q5 := Z5.out; have q6 := Z6.out; have q7 := Z7.out; have q8 := Z8.out; have q9 := Z9.out; have q10 := Z10.out; have q11 := Z11.out; omega)); have Rxs11 := Lib.hid (Rxs10.out.below hb F10.out.size); have OW11 := Lib.hid (OW10.out.below hb (Nat.le_refl _)); have Oxxs11 := Lib.hid (Oxxs10.out.below hb (Nat.le_refl _)); clear hb; clear cf0 cf1 cf2 ct0 ct1 ct2 ch0 ch1; obtain ⟨cf0, cf1, cf2⟩ := Xf11.out; obtain ⟨ct0, ct1, ct2⟩ := Xt11.out; obtain ⟨ch0, ch1⟩ := Xh11.out)
    | (go_at_call 45; have AR := AR4; clear AR AR4; refine (apply_impl (fk := fk) (fp := fp) (fn := fn) (tk := tk) (tp := tp) (tn := tn) (hk := hk) (ha := ha) (Oxxs11.out.rd.mono Oxxs11.out.2.2) (Nat.le_refl _) (by have := Bxs.out; omega)).mono ?_; rw [← HR.out]; rintro e w12 ⟨vG, rfl, ho, hb⟩; have Z12 : Hid (w11.heap.size ≤ w12.heap.size) := Lib.hid hb.size; have F12 := Lib.hid (F11.out.trans (hb.mono F11.out.size)); have Xf12 := Lib.hid (Xf11.out.below hb (by have q0 := Z0.out; have q1 := Z1.out; have q2 := Z2.out; have q3 := Z3.out; have q4 := Z4.out; have q5 := Z5.out; have q6 := Z6.out; have q7 := Z7.out; have q8 := Z8.out; have q9 := Z9.out; have q10 := Z10.out; have q11 := Z11.out; have q12 := Z12.out; omega)); have Xt12 := Lib.hid (Xt11.out.below hb (by have q0 := Z0.out; have q1 := Z1.out; have q2 := Z2.out; have q3 := Z3.out; have q4 := Z4.out; have q5 := Z5.out; have q6 := Z6.out; have q7 := Z7.out; have q8 := Z8.out; have q9 := Z9.out; have q10 := Z10.out; have q11 := Z11.out; have q12 := Z12.out; omega)); have Xh12 := Lib.hid (Xh11.out.below hb (by have q0 := Z0.out; have q1 := Z1.out; have q2 := Z2.out; have q3 := Z3.out; have q4 := Z4.out; have q5 := Z5.out; have q6 := Z6.out; have q7 := Z7.out; have q8 := Z8.out; have q9 := Z9.out; have q10 := Z10.out; have q11 := Z11.out; have q12 := Z12.out; omega)); have Rxs12 := Lib.hid (Rxs11.out.below hb F11.out.size); have OW12 := Lib.hid (OW11.out.below hb (Nat.le_refl _)); have Oxxs12 := Lib.hid (Oxxs11.out.below hb (Nat.le_refl _)); clear hb; have OG12 := Lib.hid ho; clear ho; clear cf0 cf1 cf2 ct0 ct1 ct2 ch0 ch1; obtain ⟨cf0, cf1, cf2⟩ := Xf12.out; obtain ⟨ct0, ct1, ct2⟩ := Xt12.out; obtain ⟨ch0, ch1⟩ := Xh12.out))
  clear cf0 cf1 cf2 ct0 ct1 ct2 ch0 ch1
  obtain ⟨cf0, cf1, cf2⟩ := Xf12.out
  obtain ⟨ct0, ct1, ct2⟩ := Xt12.out
  obtain ⟨ch0, ch1⟩ := Xh12.out
  go_wp2_with fail
  refine (eq_rows OG12.out.rd OW12.out.rd rfl (by have := HL.out; omega)).mono ?_
  rintro e w13 ⟨rfl, hb⟩
  have Z13 : Hid (w12.heap.size ≤ w13.heap.size) := Lib.hid hb.size
  have F13 := Lib.hid (F12.out.trans (hb.mono F12.out.size))
  have Xf13 := Lib.hid (Xf12.out.below hb (by have q0 := Z0.out; have q1 := Z1.out; have q2 := Z2.out; have q3 := Z3.out; have q4 := Z4.out; have q5 := Z5.out; have q6 := Z6.out; have q7 := Z7.out; have q8 := Z8.out; have q9 := Z9.out; have q10 := Z10.out; have q11 := Z11.out; have q12 := Z12.out; have q13 := Z13.out; omega))
  have Xt13 := Lib.hid (Xt12.out.below hb (by have q0 := Z0.out; have q1 := Z1.out; have q2 := Z2.out; have q3 := Z3.out; have q4 := Z4.out; have q5 := Z5.out; have q6 := Z6.out; have q7 := Z7.out; have q8 := Z8.out; have q9 := Z9.out; have q10 := Z10.out; have q11 := Z11.out; have q12 := Z12.out; have q13 := Z13.out; omega))
  have Xh13 := Lib.hid (Xh12.out.below hb (by have q0 := Z0.out; have q1 := Z1.out; have q2 := Z2.out; have q3 := Z3.out; have q4 := Z4.out; have q5 := Z5.out; have q6 := Z6.out; have q7 := Z7.out; have q8 := Z8.out; have q9 := Z9.out; have q10 := Z10.out; have q11 := Z11.out; have q12 := Z12.out; have q13 := Z13.out; omega))
  have Rxs13 := Lib.hid (Rxs12.out.below hb F12.out.size)
  have OW13 := Lib.hid (OW12.out.below hb (Nat.le_refl _))
  have Oxxs13 := Lib.hid (Oxxs12.out.below hb (Nat.le_refl _))
  have OG13 := Lib.hid (OG12.out.below hb (Nat.le_refl _))
  clear hb
  clear cf0 cf1 cf2 ct0 ct1 ct2 ch0 ch1
  obtain ⟨cf0, cf1, cf2⟩ := Xf13.out
  obtain ⟨ct0, ct1, ct2⟩ := Xt13.out
  obtain ⟨ch0, ch1⟩ := Xh13.out
  go_wp2_with fail
  refine (to_row Rxs13.out F13.out.size (by have := Bxs.out; omega)).mono ?_
  rintro e w14 ⟨vtxs, rfl, ho, hb⟩
  have Z14 : Hid (w13.heap.size ≤ w14.heap.size) := Lib.hid hb.size
  have F14 := Lib.hid (F13.out.trans (hb.mono F13.out.size))
  have Xf14 := Lib.hid (Xf13.out.below hb (by have q0 := Z0.out; have q1 := Z1.out; have q2 := Z2.out; have q3 := Z3.out; have q4 := Z4.out; have q5 := Z5.out; have q6 := Z6.out; have q7 := Z7.out; have q8 := Z8.out; have q9 := Z9.out; have q10 := Z10.out; have q11 := Z11.out; have q12 := Z12.out; have q13 := Z13.out; have q14 := Z14.out; omega))
  have Xt14 := Lib.hid (Xt13.out.below hb (by have q0 := Z0.out; have q1 := Z1.out; have q2 := Z2.out; have q3 := Z3.out; have q4 := Z4.out; have q5 := Z5.out; have q6 := Z6.out; have q7 := Z7.out; have q8 := Z8.out; have q9 := Z9.out; have q10 := Z10.out; have q11 := Z11.out; have q12 := Z12.out; have q13 := Z13.out; have q14 := Z14.out; omega))
  have Xh14 := Lib.hid (Xh13.out.below hb (by have q0 := Z0.out; have q1 := Z1.out; have q2 := Z2.out; have q3 := Z3.out; have q4 := Z4.out; have q5 := Z5.out; have q6 := Z6.out; have q7 := Z7.out; have q8 := Z8.out; have q9 := Z9.out; have q10 := Z10.out; have q11 := Z11.out; have q12 := Z12.out; have q13 := Z13.out; have q14 := Z14.out; omega))
  have Rxs14 := Lib.hid (Rxs13.out.below hb F13.out.size)
  have OW14 := Lib.hid (OW13.out.below hb (Nat.le_refl _))
  have Oxxs14 := Lib.hid (Oxxs13.out.below hb (Nat.le_refl _))
  have OG14 := Lib.hid (OG13.out.below hb (Nat.le_refl _))
  clear hb
  have Otxs14 := Lib.hid ho
  clear ho
  clear cf0 cf1 cf2 ct0 ct1 ct2 ch0 ch1
  obtain ⟨cf0, cf1, cf2⟩ := Xf14.out
  obtain ⟨ct0, ct1, ct2⟩ := Xt14.out
  obtain ⟨ch0, ch1⟩ := Xh14.out
  go_wp2_with fail
  refine (eq_rows Oxxs14.out.rd Otxs14.out.rd rfl (by have := Bxs.out; omega)).mono ?_
  rintro e w15 ⟨rfl, hb⟩
  have Z15 : Hid (w14.heap.size ≤ w15.heap.size) := Lib.hid hb.size
  have F15 := Lib.hid (F14.out.trans (hb.mono F14.out.size))
  have Xf15 := Lib.hid (Xf14.out.below hb (by have q0 := Z0.out; have q1 := Z1.out; have q2 := Z2.out; have q3 := Z3.out; have q4 := Z4.out; have q5 := Z5.out; have q6 := Z6.out; have q7 := Z7.out; have q8 := Z8.out; have q9 := Z9.out; have q10 := Z10.out; have q11 := Z11.out; have q12 := Z12.out; have q13 := Z13.out; have q14 := Z14.out; have q15 := Z15.out; omega))
  have Xt15 := Lib.hid (Xt14.out.below hb (by have q0 := Z0.out; have q1 := Z1.out; have q2 := Z2.out; have q3 := Z3.out; have q4 := Z4.out; have q5 := Z5.out; have q6 := Z6.out; have q7 := Z7.out; have q8 := Z8.out; have q9 := Z9.out; have q10 := Z10.out; have q11 := Z11.out; have q12 := Z12.out; have q13 := Z13.out; have q14 := Z14.out; have q15 := Z15.out; omega))
  have Xh15 := Lib.hid (Xh14.out.below hb (by have q0 := Z0.out; have q1 := Z1.out; have q2 := Z2.out; have q3 := Z3.out; have q4 := Z4.out; have q5 := Z5.out; have q6 := Z6.out; have q7 := Z7.out; have q8 := Z8.out; have q9 := Z9.out; have q10 := Z10.out; have q11 := Z11.out; have q12 := Z12.out; have q13 := Z13.out; have q14 := Z14.out; have q15 := Z15.out; omega))
  have Rxs15 := Lib.hid (Rxs14.out.below hb F14.out.size)
  have OW15 := Lib.hid (OW14.out.below hb (Nat.le_refl _))
  have Oxxs15 := Lib.hid (Oxxs14.out.below hb (Nat.le_refl _))
  have OG15 := Lib.hid (OG14.out.below hb (Nat.le_refl _))
  have Otxs15 := Lib.hid (Otxs14.out.below hb (Nat.le_refl _))
  clear hb
  obtain ⟨m0, hm⟩ : ∃ m : Nat, m = 1 + xs.length := ⟨_, rfl⟩
  have M0 : Hid (m0 = 1 + xs.length) := Lib.hid hm
  have m0b : m0 ≤ 1048577 := by have := Bxs.out; omega
  clear hm
  clear cf0 cf1 cf2 ct0 ct1 ct2 ch0 ch1
  obtain ⟨cf0, cf1, cf2⟩ := Xf15.out
  obtain ⟨ct0, ct1, ct2⟩ := Xt15.out
  obtain ⟨ch0, ch1⟩ := Xh15.out
  go_wp2_with fail
  refine (marks_from 1 rfl Oxxs15.out (by have := Bxs.out; omega) (by omega)).mono ?_
  rw [← M0.out]
  rintro e w16 ⟨rfl, ho, hg⟩
  have Z16 : Hid (w15.heap.size ≤ w16.heap.size) := Lib.hid hg.size
  have G : ∀ g, _ = some g → _ := Oxxs15.out.lo
  have G2 := Oxxs15.out.2.1
  have F16 := Lib.hid (F15.out.grown hg F15.out.size (fun g eg => by have := G g eg; have q0 := Z0.out; have q1 := Z1.out; have q2 := Z2.out; have q3 := Z3.out; have q4 := Z4.out; have q5 := Z5.out; have q6 := Z6.out; have q7 := Z7.out; have q8 := Z8.out; have q9 := Z9.out; have q10 := Z10.out; have q11 := Z11.out; have q12 := Z12.out; have q13 := Z13.out; have q14 := Z14.out; have q15 := Z15.out; omega))
  have Xf16 := Lib.hid (Xf15.out.grown hg (by have q0 := Z0.out; have q1 := Z1.out; have q2 := Z2.out; have q3 := Z3.out; have q4 := Z4.out; have q5 := Z5.out; have q6 := Z6.out; have q7 := Z7.out; have q8 := Z8.out; have q9 := Z9.out; have q10 := Z10.out; have q11 := Z11.out; have q12 := Z12.out; have q13 := Z13.out; have q14 := Z14.out; have q15 := Z15.out; omega) (fun g eg => by have := G g eg; have q0 := Z0.out; have q1 := Z1.out; have q2 := Z2.out; have q3 := Z3.out; have q4 := Z4.out; have q5 := Z5.out; have q6 := Z6.out; have q7 := Z7.out; have q8 := Z8.out; have q9 := Z9.out; have q10 := Z10.out; have q11 := Z11.out; have q12 := Z12.out; have q13 := Z13.out; have q14 := Z14.out; have q15 := Z15.out; omega))
  have Xt16 := Lib.hid (Xt15.out.grown hg (by have q0 := Z0.out; have q1 := Z1.out; have q2 := Z2.out; have q3 := Z3.out; have q4 := Z4.out; have q5 := Z5.out; have q6 := Z6.out; have q7 := Z7.out; have q8 := Z8.out; have q9 := Z9.out; have q10 := Z10.out; have q11 := Z11.out; have q12 := Z12.out; have q13 := Z13.out; have q14 := Z14.out; have q15 := Z15.out; omega) (fun g eg => by have := G g eg; have q0 := Z0.out; have q1 := Z1.out; have q2 := Z2.out; have q3 := Z3.out; have q4 := Z4.out; have q5 := Z5.out; have q6 := Z6.out; have q7 := Z7.out; have q8 := Z8.out; have q9 := Z9.out; have q10 := Z10.out; have q11 := Z11.out; have q12 := Z12.out; have q13 := Z13.out; have q14 := Z14.out; have q15 := Z15.out; omega))
  have Xh16 := Lib.hid (Xh15.out.grown hg (by have q0 := Z0.out; have q1 := Z1.out; have q2 := Z2.out; have q3 := Z3.out; have q4 := Z4.out; have q5 := Z5.out; have q6 := Z6.out; have q7 := Z7.out; have q8 := Z8.out; have q9 := Z9.out; have q10 := Z10.out; have q11 := Z11.out; have q12 := Z12.out; have q13 := Z13.out; have q14 := Z14.out; have q15 := Z15.out; omega) (fun g eg => by have := G g eg; have q0 := Z0.out; have q1 := Z1.out; have q2 := Z2.out; have q3 := Z3.out; have q4 := Z4.out; have q5 := Z5.out; have q6 := Z6.out; have q7 := Z7.out; have q8 := Z8.out; have q9 := Z9.out; have q10 := Z10.out; have q11 := Z11.out; have q12 := Z12.out; have q13 := Z13.out; have q14 := Z14.out; have q15 := Z15.out; omega))
  have Rxs16 := Lib.hid (Rxs15.out.kept hg F15.out.size (fun g eg => by have := G g eg; have q0 := Z0.out; have q1 := Z1.out; have q2 := Z2.out; have q3 := Z3.out; have q4 := Z4.out; have q5 := Z5.out; have q6 := Z6.out; have q7 := Z7.out; have q8 := Z8.out; have q9 := Z9.out; have q10 := Z10.out; have q11 := Z11.out; have q12 := Z12.out; have q13 := Z13.out; have q14 := Z14.out; have q15 := Z15.out; omega))
  have OW16 := Lib.hid (OW15.out.kept hg (fun g eg => by have := G g eg; have := G2 g eg; have q0 := Z0.out; have q1 := Z1.out; have q2 := Z2.out; have q3 := Z3.out; have q4 := Z4.out; have q5 := Z5.out; have q6 := Z6.out; have q7 := Z7.out; have q8 := Z8.out; have q9 := Z9.out; have q10 := Z10.out; have q11 := Z11.out; have q12 := Z12.out; have q13 := Z13.out; have q14 := Z14.out; have q15 := Z15.out; omega))
  have OG16 := Lib.hid (OG15.out.kept hg (fun g eg => by have := G g eg; have := G2 g eg; have q0 := Z0.out; have q1 := Z1.out; have q2 := Z2.out; have q3 := Z3.out; have q4 := Z4.out; have q5 := Z5.out; have q6 := Z6.out; have q7 := Z7.out; have q8 := Z8.out; have q9 := Z9.out; have q10 := Z10.out; have q11 := Z11.out; have q12 := Z12.out; have q13 := Z13.out; have q14 := Z14.out; have q15 := Z15.out; omega))
  have Oxxs16 := Lib.hid ho
  clear hg ho G G2
  clear cf0 cf1 cf2 ct0 ct1 ct2 ch0 ch1
  obtain ⟨cf0, cf1, cf2⟩ := Xf16.out
  obtain ⟨ct0, ct1, ct2⟩ := Xt16.out
  obtain ⟨ch0, ch1⟩ := Xh16.out
  go_wp2_with fail
  refine (eq_rows OG16.out.rd OW16.out.rd rfl (by have := HL.out; omega)).mono ?_
  rintro e w17 ⟨rfl, hb⟩
  have Z17 : Hid (w16.heap.size ≤ w17.heap.size) := Lib.hid hb.size
  have F17 := Lib.hid (F16.out.trans (hb.mono F16.out.size))
  have Xf17 := Lib.hid (Xf16.out.below hb (by have q0 := Z0.out; have q1 := Z1.out; have q2 := Z2.out; have q3 := Z3.out; have q4 := Z4.out; have q5 := Z5.out; have q6 := Z6.out; have q7 := Z7.out; have q8 := Z8.out; have q9 := Z9.out; have q10 := Z10.out; have q11 := Z11.out; have q12 := Z12.out; have q13 := Z13.out; have q14 := Z14.out; have q15 := Z15.out; have q16 := Z16.out; have q17 := Z17.out; omega))
  have Xt17 := Lib.hid (Xt16.out.below hb (by have q0 := Z0.out; have q1 := Z1.out; have q2 := Z2.out; have q3 := Z3.out; have q4 := Z4.out; have q5 := Z5.out; have q6 := Z6.out; have q7 := Z7.out; have q8 := Z8.out; have q9 := Z9.out; have q10 := Z10.out; have q11 := Z11.out; have q12 := Z12.out; have q13 := Z13.out; have q14 := Z14.out; have q15 := Z15.out; have q16 := Z16.out; have q17 := Z17.out; omega))
  have Xh17 := Lib.hid (Xh16.out.below hb (by have q0 := Z0.out; have q1 := Z1.out; have q2 := Z2.out; have q3 := Z3.out; have q4 := Z4.out; have q5 := Z5.out; have q6 := Z6.out; have q7 := Z7.out; have q8 := Z8.out; have q9 := Z9.out; have q10 := Z10.out; have q11 := Z11.out; have q12 := Z12.out; have q13 := Z13.out; have q14 := Z14.out; have q15 := Z15.out; have q16 := Z16.out; have q17 := Z17.out; omega))
  have Rxs17 := Lib.hid (Rxs16.out.below hb F16.out.size)
  have OW17 := Lib.hid (OW16.out.below hb (Nat.le_refl _))
  have Oxxs17 := Lib.hid (Oxxs16.out.below hb (Nat.le_refl _))
  have OG17 := Lib.hid (OG16.out.below hb (Nat.le_refl _))
  clear hb
  obtain ⟨mg, hm⟩ : ∃ m : Nat, m = 1 + R.length := ⟨_, rfl⟩
  have MG : Hid (mg = 1 + R.length) := Lib.hid hm
  have mgb : mg ≤ 17592186044417 := by have := HL.out; omega
  clear hm
  clear cf0 cf1 cf2 ct0 ct1 ct2 ch0 ch1
  obtain ⟨cf0, cf1, cf2⟩ := Xf17.out
  obtain ⟨ct0, ct1, ct2⟩ := Xt17.out
  obtain ⟨ch0, ch1⟩ := Xh17.out
  go_wp2_with fail
  refine (marks_from 1 rfl OG17.out (by have := HL.out; omega) (by omega)).mono ?_
  rw [← MG.out]
  rintro e w18 ⟨rfl, ho, hg⟩
  have Z18 : Hid (w17.heap.size ≤ w18.heap.size) := Lib.hid hg.size
  have G : ∀ g, _ = some g → _ := OG17.out.lo
  have G2 := OG17.out.2.1
  have F18 := Lib.hid (F17.out.grown hg F17.out.size (fun g eg => by have := G g eg; have q0 := Z0.out; have q1 := Z1.out; have q2 := Z2.out; have q3 := Z3.out; have q4 := Z4.out; have q5 := Z5.out; have q6 := Z6.out; have q7 := Z7.out; have q8 := Z8.out; have q9 := Z9.out; have q10 := Z10.out; have q11 := Z11.out; have q12 := Z12.out; have q13 := Z13.out; have q14 := Z14.out; have q15 := Z15.out; have q16 := Z16.out; have q17 := Z17.out; omega))
  have Xf18 := Lib.hid (Xf17.out.grown hg (by have q0 := Z0.out; have q1 := Z1.out; have q2 := Z2.out; have q3 := Z3.out; have q4 := Z4.out; have q5 := Z5.out; have q6 := Z6.out; have q7 := Z7.out; have q8 := Z8.out; have q9 := Z9.out; have q10 := Z10.out; have q11 := Z11.out; have q12 := Z12.out; have q13 := Z13.out; have q14 := Z14.out; have q15 := Z15.out; have q16 := Z16.out; have q17 := Z17.out; omega) (fun g eg => by have := G g eg; have q0 := Z0.out; have q1 := Z1.out; have q2 := Z2.out; have q3 := Z3.out; have q4 := Z4.out; have q5 := Z5.out; have q6 := Z6.out; have q7 := Z7.out; have q8 := Z8.out; have q9 := Z9.out; have q10 := Z10.out; have q11 := Z11.out; have q12 := Z12.out; have q13 := Z13.out; have q14 := Z14.out; have q15 := Z15.out; have q16 := Z16.out; have q17 := Z17.out; omega))
  have Xt18 := Lib.hid (Xt17.out.grown hg (by have q0 := Z0.out; have q1 := Z1.out; have q2 := Z2.out; have q3 := Z3.out; have q4 := Z4.out; have q5 := Z5.out; have q6 := Z6.out; have q7 := Z7.out; have q8 := Z8.out; have q9 := Z9.out; have q10 := Z10.out; have q11 := Z11.out; have q12 := Z12.out; have q13 := Z13.out; have q14 := Z14.out; have q15 := Z15.out; have q16 := Z16.out; have q17 := Z17.out; omega) (fun g eg => by have := G g eg; have q0 := Z0.out; have q1 := Z1.out; have q2 := Z2.out; have q3 := Z3.out; have q4 := Z4.out; have q5 := Z5.out; have q6 := Z6.out; have q7 := Z7.out; have q8 := Z8.out; have q9 := Z9.out; have q10 := Z10.out; have q11 := Z11.out; have q12 := Z12.out; have q13 := Z13.out; have q14 := Z14.out; have q15 := Z15.out; have q16 := Z16.out; have q17 := Z17.out; omega))
  have Xh18 := Lib.hid (Xh17.out.grown hg (by have q0 := Z0.out; have q1 := Z1.out; have q2 := Z2.out; have q3 := Z3.out; have q4 := Z4.out; have q5 := Z5.out; have q6 := Z6.out; have q7 := Z7.out; have q8 := Z8.out; have q9 := Z9.out; have q10 := Z10.out; have q11 := Z11.out; have q12 := Z12.out; have q13 := Z13.out; have q14 := Z14.out; have q15 := Z15.out; have q16 := Z16.out; have q17 := Z17.out; omega) (fun g eg => by have := G g eg; have q0 := Z0.out; have q1 := Z1.out; have q2 := Z2.out; have q3 := Z3.out; have q4 := Z4.out; have q5 := Z5.out; have q6 := Z6.out; have q7 := Z7.out; have q8 := Z8.out; have q9 := Z9.out; have q10 := Z10.out; have q11 := Z11.out; have q12 := Z12.out; have q13 := Z13.out; have q14 := Z14.out; have q15 := Z15.out; have q16 := Z16.out; have q17 := Z17.out; omega))
  have Rxs18 := Lib.hid (Rxs17.out.kept hg F17.out.size (fun g eg => by have := G g eg; have q0 := Z0.out; have q1 := Z1.out; have q2 := Z2.out; have q3 := Z3.out; have q4 := Z4.out; have q5 := Z5.out; have q6 := Z6.out; have q7 := Z7.out; have q8 := Z8.out; have q9 := Z9.out; have q10 := Z10.out; have q11 := Z11.out; have q12 := Z12.out; have q13 := Z13.out; have q14 := Z14.out; have q15 := Z15.out; have q16 := Z16.out; have q17 := Z17.out; omega))
  have OW18 := Lib.hid (OW17.out.kept hg (fun g eg => by have := G g eg; have := G2 g eg; have q0 := Z0.out; have q1 := Z1.out; have q2 := Z2.out; have q3 := Z3.out; have q4 := Z4.out; have q5 := Z5.out; have q6 := Z6.out; have q7 := Z7.out; have q8 := Z8.out; have q9 := Z9.out; have q10 := Z10.out; have q11 := Z11.out; have q12 := Z12.out; have q13 := Z13.out; have q14 := Z14.out; have q15 := Z15.out; have q16 := Z16.out; have q17 := Z17.out; omega))
  have OG18 := Lib.hid ho
  clear hg ho G G2
  clear cf0 cf1 cf2 ct0 ct1 ct2 ch0 ch1
  obtain ⟨cf0, cf1, cf2⟩ := Xf18.out
  obtain ⟨ct0, ct1, ct2⟩ := Xt18.out
  obtain ⟨ch0, ch1⟩ := Xh18.out
  go_wp2_with fail
  refine (helds_from 1 rfl OG18.out.rd (by have := HL.out; omega) (by omega)).mono ?_
  rw [← MG.out]
  rintro e w19 ⟨rfl, rfl⟩
  go_wp2
  have hb := (Below.refl w18.heap.size w18).drew
  have Z19 : Hid (w18.heap.size ≤ w18.drew.heap.size) := Lib.hid hb.size
  have F19 := Lib.hid (F18.out.trans (hb.mono F18.out.size))
  have Xf19 := Lib.hid (Xf18.out.below hb (by have q0 := Z0.out; have q1 := Z1.out; have q2 := Z2.out; have q3 := Z3.out; have q4 := Z4.out; have q5 := Z5.out; have q6 := Z6.out; have q7 := Z7.out; have q8 := Z8.out; have q9 := Z9.out; have q10 := Z10.out; have q11 := Z11.out; have q12 := Z12.out; have q13 := Z13.out; have q14 := Z14.out; have q15 := Z15.out; have q16 := Z16.out; have q17 := Z17.out; have q18 := Z18.out; have q19 := Z19.out; omega))
  have Xt19 := Lib.hid (Xt18.out.below hb (by have q0 := Z0.out; have q1 := Z1.out; have q2 := Z2.out; have q3 := Z3.out; have q4 := Z4.out; have q5 := Z5.out; have q6 := Z6.out; have q7 := Z7.out; have q8 := Z8.out; have q9 := Z9.out; have q10 := Z10.out; have q11 := Z11.out; have q12 := Z12.out; have q13 := Z13.out; have q14 := Z14.out; have q15 := Z15.out; have q16 := Z16.out; have q17 := Z17.out; have q18 := Z18.out; have q19 := Z19.out; omega))
  have Xh19 := Lib.hid (Xh18.out.below hb (by have q0 := Z0.out; have q1 := Z1.out; have q2 := Z2.out; have q3 := Z3.out; have q4 := Z4.out; have q5 := Z5.out; have q6 := Z6.out; have q7 := Z7.out; have q8 := Z8.out; have q9 := Z9.out; have q10 := Z10.out; have q11 := Z11.out; have q12 := Z12.out; have q13 := Z13.out; have q14 := Z14.out; have q15 := Z15.out; have q16 := Z16.out; have q17 := Z17.out; have q18 := Z18.out; have q19 := Z19.out; omega))
  have Rxs19 := Lib.hid (Rxs18.out.below hb F18.out.size)
  have OW19 := Lib.hid (OW18.out.below hb (Nat.le_refl _))
  have OG19 := Lib.hid (OG18.out.below hb (Nat.le_refl _))
  clear hb
  clear cf0 cf1 cf2 ct0 ct1 ct2 ch0 ch1
  obtain ⟨cf0, cf1, cf2⟩ := Xf19.out
  obtain ⟨ct0, ct1, ct2⟩ := Xt19.out
  obtain ⟨ch0, ch1⟩ := Xh19.out
  have AR1 := Lib.hid True.intro
  have AR2 := Lib.hid True.intro
  have AR3 := Lib.hid True.intro
  have AR4 := Lib.hid True.intro
  have AR5 := Lib.hid True.intro
  go_region_held3 (fun w' => w'.cell? ⟨w.heap.size, 0, none⟩ = some (.int .i64 fk) ∧ w'.cell? ⟨w.heap.size, 1, none⟩ = some (.int .i64 fp) ∧ w'.cell? ⟨w.heap.size, 2, none⟩ = some (.int .i64 fn) ∧ w'.cell? ⟨w.heap.size + 1, 0, none⟩ = some (.int .i64 tk) ∧ w'.cell? ⟨w.heap.size + 1, 1, none⟩ = some (.int .i64 tp) ∧ w'.cell? ⟨w.heap.size + 1, 2, none⟩ = some (.int .i64 tn) ∧ w'.cell? ⟨w.heap.size + 1 + 1, 0, none⟩ = some (.int .i64 hk) ∧ w'.cell? ⟨w.heap.size + 1 + 1, 1, none⟩ = some (.int .i64 ha)) (first | exact ⟨cf0, cf1, cf2, ct0, ct1, ct2, ch0, ch1⟩) (first
    | (go_at_call 17; have AR := AR1; clear AR AR1; refine (to_ring fk fp fn _).mono ?_; rintro e w20 ⟨rfl, hb⟩; have Z20 : Hid (w18.drew.heap.size ≤ w20.heap.size) := Lib.hid hb.size; have F20 := Lib.hid (F19.out.trans (hb.mono F19.out.size)); have Xf20 := Lib.hid (Xf19.out.below hb (by have q0 := Z0.out; have q1 := Z1.out; have q2 := Z2.out; have q3 := Z3.out; have q4 := Z4.out; have q5 := Z5.out; have q6 := Z6.out; have q7 := Z7.out; have q8 := Z8.out; have q9 := Z9.out; have q10 := Z10.out; have q11 := Z11.out; have q12 := Z12.out; have q13 := Z13.out; have q14 := Z14.out; have q15 := Z15.out; have q16 := Z16.out; have q17 := Z17.out; have q18 := Z18.out; have q19 := Z19.out; have q20 := Z20.out; omega)); have Xt20 := Lib.hid (Xt19.out.below hb (by have q0 := Z0.out; have q1 := Z1.out; have q2 := Z2.out; have q3 := Z3.out; have q4 := Z4.out; have q5 := Z5.out; have q6 := Z6.out; have q7 := Z7.out; have q8 := Z8.out; have q9 := Z9.out; have q10 := Z10.out; have q11 := Z11.out; have q12 := Z12.out; have q13 := Z13.out; have q14 := Z14.out; have q15 := Z15.out; have q16 := Z16.out; have q17 := Z17.out; have q18 := Z18.out; have q19 := Z19.out; have q20 := Z20.out; omega)); have Xh20 := Lib.hid (Xh19.out.below hb (by have q0 := Z0.out; have q1 := Z1.out; have q2 := Z2.out; have q3 := Z3.out; have q4 := Z4.out; have q5 := Z5.out; have q6 := Z6.out; have q7 := Z7.out; have q8 := Z8.out; have q9 := Z9.out; have q10 := Z10.out; have q11 := Z11.out; have q12 := Z12.out; have q13 := Z13.out; have q14 := Z14.out; have q15 := Z15.out; have q16 := Z16.out; have q17 := Z17.out; have q18 := Z18.out; have q19 := Z19.out; have q20 := Z20.out; omega)); have Rxs20 := Lib.hid (Rxs19.out.below hb F19.out.size); have OW20 := Lib.hid (OW19.out.below hb (Nat.le_refl _)); have OG20 := Lib.hid (OG19.out.below hb (Nat.le_refl _)); clear hb; clear cf0 cf1 cf2 ct0 ct1 ct2 ch0 ch1; obtain ⟨cf0, cf1, cf2⟩ := Xf20.out; obtain ⟨ct0, ct1, ct2⟩ := Xt20.out; obtain ⟨ch0, ch1⟩ := Xh20.out)
    | (go_at_call 17; have AR := AR2; clear AR AR2; refine (to_ring tk tp tn _).mono ?_; rintro e w21 ⟨rfl, hb⟩; have Z21 : Hid (w20.heap.size ≤ w21.heap.size) := Lib.hid hb.size; have F21 := Lib.hid (F20.out.trans (hb.mono F20.out.size)); have Xf21 := Lib.hid (Xf20.out.below hb (by have q0 := Z0.out; have q1 := Z1.out; have q2 := Z2.out; have q3 := Z3.out; have q4 := Z4.out; have q5 := Z5.out; have q6 := Z6.out; have q7 := Z7.out; have q8 := Z8.out; have q9 := Z9.out; have q10 := Z10.out; have q11 := Z11.out; have q12 := Z12.out; have q13 := Z13.out; have q14 := Z14.out; have q15 := Z15.out; have q16 := Z16.out; have q17 := Z17.out; have q18 := Z18.out; have q19 := Z19.out; have q20 := Z20.out; have q21 := Z21.out; omega)); have Xt21 := Lib.hid (Xt20.out.below hb (by have q0 := Z0.out; have q1 := Z1.out; have q2 := Z2.out; have q3 := Z3.out; have q4 := Z4.out; have q5 := Z5.out; have q6 := Z6.out; have q7 := Z7.out; have q8 := Z8.out; have q9 := Z9.out; have q10 := Z10.out; have q11 := Z11.out; have q12 := Z12.out; have q13 := Z13.out; have q14 := Z14.out; have q15 := Z15.out; have q16 := Z16.out; have q17 := Z17.out; have q18 := Z18.out; have q19 := Z19.out; have q20 := Z20.out; have q21 := Z21.out; omega)); have Xh21 := Lib.hid (Xh20.out.below hb (by have q0 := Z0.out; have q1 := Z1.out; have q2 := Z2.out; have q3 := Z3.out; have q4 := Z4.out; have q5 := Z5.out; have q6 := Z6.out; have q7 := Z7.out; have q8 := Z8.out; have q9 := Z9.out; have q10 := Z10.out; have q11 := Z11.out; have q12 := Z12.out; have q13 := Z13.out; have q14 := Z14.out; have q15 := Z15.out; have q16 := Z16.out; have q17 := Z17.out; have q18 := Z18.out; have q19 := Z19.out; have q20 := Z20.out; have q21 := Z21.out; omega)); have Rxs21 := Lib.hid (Rxs20.out.below hb F20.out.size); have OW21 := Lib.hid (OW20.out.below hb (Nat.le_refl _)); have OG21 := Lib.hid (OG20.out.below hb (Nat.le_refl _)); clear hb; clear cf0 cf1 cf2 ct0 ct1 ct2 ch0 ch1; obtain ⟨cf0, cf1, cf2⟩ := Xf21.out; obtain ⟨ct0, ct1, ct2⟩ := Xt21.out; obtain ⟨ch0, ch1⟩ := Xh21.out)
    | (go_at_call 42; have AR := AR3; clear AR AR3; refine (to_hom hk ha _).mono ?_; rintro e w22 ⟨rfl, hb⟩; have Z22 : Hid (w21.heap.size ≤ w22.heap.size) := Lib.hid hb.size; have F22 := Lib.hid (F21.out.trans (hb.mono F21.out.size)); have Xf22 := Lib.hid (Xf21.out.below hb (by have q0 := Z0.out; have q1 := Z1.out; have q2 := Z2.out; have q3 := Z3.out; have q4 := Z4.out; have q5 := Z5.out; have q6 := Z6.out; have q7 := Z7.out; have q8 := Z8.out; have q9 := Z9.out; have q10 := Z10.out; have q11 := Z11.out; have q12 := Z12.out; have q13 := Z13.out; have q14 := Z14.out; have q15 := Z15.out; have q16 := Z16.out; have q17 := Z17.out; have q18 := Z18.out; have q19 := Z19.out; have q20 := Z20.out; have q21 := Z21.out; have q22 := Z22.out; omega)); have Xt22 := Lib.hid (Xt21.out.below hb (by have q0 := Z0.out; have q1 := Z1.out; have q2 := Z2.out; have q3 := Z3.out; have q4 := Z4.out; have q5 := Z5.out; have q6 := Z6.out; have q7 := Z7.out; have q8 := Z8.out; have q9 := Z9.out; have q10 := Z10.out; have q11 := Z11.out; have q12 := Z12.out; have q13 := Z13.out; have q14 := Z14.out; have q15 := Z15.out; have q16 := Z16.out; have q17 := Z17.out; have q18 := Z18.out; have q19 := Z19.out; have q20 := Z20.out; have q21 := Z21.out; have q22 := Z22.out; omega)); have Xh22 := Lib.hid (Xh21.out.below hb (by have q0 := Z0.out; have q1 := Z1.out; have q2 := Z2.out; have q3 := Z3.out; have q4 := Z4.out; have q5 := Z5.out; have q6 := Z6.out; have q7 := Z7.out; have q8 := Z8.out; have q9 := Z9.out; have q10 := Z10.out; have q11 := Z11.out; have q12 := Z12.out; have q13 := Z13.out; have q14 := Z14.out; have q15 := Z15.out; have q16 := Z16.out; have q17 := Z17.out; have q18 := Z18.out; have q19 := Z19.out; have q20 := Z20.out; have q21 := Z21.out; have q22 := Z22.out; omega)); have Rxs22 := Lib.hid (Rxs21.out.below hb F21.out.size); have OW22 := Lib.hid (OW21.out.below hb (Nat.le_refl _)); have OG22 := Lib.hid (OG21.out.below hb (Nat.le_refl _)); clear hb; clear cf0 cf1 cf2 ct0 ct1 ct2 ch0 ch1; obtain ⟨cf0, cf1, cf2⟩ := Xf22.out; obtain ⟨ct0, ct1, ct2⟩ := Xt22.out; obtain ⟨ch0, ch1⟩ := Xh22.out)
    | (go_at_call 18; have AR := AR4; clear AR AR4; refine (to_row Rxs22.out F22.out.size (by have := Bxs.out; omega)).mono ?_; rintro e w23 ⟨vhxs, rfl, ho, hb⟩; have Z23 : Hid (w22.heap.size ≤ w23.heap.size) := Lib.hid hb.size; have F23 := Lib.hid (F22.out.trans (hb.mono F22.out.size)); have Xf23 := Lib.hid (Xf22.out.below hb (by have q0 := Z0.out; have q1 := Z1.out; have q2 := Z2.out; have q3 := Z3.out; have q4 := Z4.out; have q5 := Z5.out; have q6 := Z6.out; have q7 := Z7.out; have q8 := Z8.out; have q9 := Z9.out; have q10 := Z10.out; have q11 := Z11.out; have q12 := Z12.out; have q13 := Z13.out; have q14 := Z14.out; have q15 := Z15.out; have q16 := Z16.out; have q17 := Z17.out; have q18 := Z18.out; have q19 := Z19.out; have q20 := Z20.out; have q21 := Z21.out; have q22 := Z22.out; have q23 := Z23.out; omega)); have Xt23 := Lib.hid (Xt22.out.below hb (by have q0 := Z0.out; have q1 := Z1.out; have q2 := Z2.out; have q3 := Z3.out; have q4 := Z4.out; have q5 := Z5.out; have q6 := Z6.out; have q7 := Z7.out; have q8 := Z8.out; have q9 := Z9.out; have q10 := Z10.out; have q11 := Z11.out; have q12 := Z12.out; have q13 := Z13.out; have q14 := Z14.out; have q15 := Z15.out; have q16 := Z16.out; have q17 := Z17.out; have q18 := Z18.out; have q19 := Z19.out; have q20 := Z20.out; have q21 := Z21.out; have q22 := Z22.out; have q23 := Z23.out; omega)); have Xh23 := Lib.hid (Xh22.out.below hb (by have q0 := Z0.out; have q1 := Z1.out; have q2 := Z2.out; have q3 := Z3.out; have q4 := Z4.out; have q5 := Z5.out; have q6 := Z6.out; have q7 := Z7.out; have q8 := Z8.out; have q9 := Z9.out; have q10 := Z10.out; have q11 := Z11.out; have q12 := Z12.out; have q13 := Z13.out; have q14 := Z14.out; have q15 := Z15.out; have q16 := Z16.out; have q17 := Z17.out; have q18 := Z18.out; have q19 := Z19.out; have q20 := Z20.out; have q21 := Z21.out; have q22 := Z22.out; have q23 := Z23.out; omega)); have Rxs23 := Lib.hid (Rxs22.out.below hb F22.out.size); have OW23 := Lib.hid (OW22.out.below hb (Nat.le_refl _)); have OG23 := Lib.hid (OG22.out.below hb (Nat.le_refl _)); clear hb; have Ohxs23 := Lib.hid ho; clear ho; clear cf0 cf1 cf2 ct0 ct1 ct2 ch0 ch1; obtain ⟨cf0, cf1, cf2⟩ := Xf23.out; obtain ⟨ct0, ct1, ct2⟩ := Xt23.out; obtain ⟨ch0, ch1⟩ := Xh23.out)
    | (go_at_call 45; have AR := AR5; clear AR AR5; refine (apply_impl (fk := fk) (fp := fp) (fn := fn) (tk := tk) (tp := tp) (tn := tn) (hk := hk) (ha := ha) (Ohxs23.out.rd.mono Ohxs23.out.2.2) (Nat.le_refl _) (by have := Bxs.out; omega)).mono ?_; rw [← HR.out]; rintro e w24 ⟨vH, rfl, ho, hb⟩; have Z24 : Hid (w23.heap.size ≤ w24.heap.size) := Lib.hid hb.size; have F24 := Lib.hid (F23.out.trans (hb.mono F23.out.size)); have Xf24 := Lib.hid (Xf23.out.below hb (by have q0 := Z0.out; have q1 := Z1.out; have q2 := Z2.out; have q3 := Z3.out; have q4 := Z4.out; have q5 := Z5.out; have q6 := Z6.out; have q7 := Z7.out; have q8 := Z8.out; have q9 := Z9.out; have q10 := Z10.out; have q11 := Z11.out; have q12 := Z12.out; have q13 := Z13.out; have q14 := Z14.out; have q15 := Z15.out; have q16 := Z16.out; have q17 := Z17.out; have q18 := Z18.out; have q19 := Z19.out; have q20 := Z20.out; have q21 := Z21.out; have q22 := Z22.out; have q23 := Z23.out; have q24 := Z24.out; omega)); have Xt24 := Lib.hid (Xt23.out.below hb (by have q0 := Z0.out; have q1 := Z1.out; have q2 := Z2.out; have q3 := Z3.out; have q4 := Z4.out; have q5 := Z5.out; have q6 := Z6.out; have q7 := Z7.out; have q8 := Z8.out; have q9 := Z9.out; have q10 := Z10.out; have q11 := Z11.out; have q12 := Z12.out; have q13 := Z13.out; have q14 := Z14.out; have q15 := Z15.out; have q16 := Z16.out; have q17 := Z17.out; have q18 := Z18.out; have q19 := Z19.out; have q20 := Z20.out; have q21 := Z21.out; have q22 := Z22.out; have q23 := Z23.out; have q24 := Z24.out; omega)); have Xh24 := Lib.hid (Xh23.out.below hb (by have q0 := Z0.out; have q1 := Z1.out; have q2 := Z2.out; have q3 := Z3.out; have q4 := Z4.out; have q5 := Z5.out; have q6 := Z6.out; have q7 := Z7.out; have q8 := Z8.out; have q9 := Z9.out; have q10 := Z10.out; have q11 := Z11.out; have q12 := Z12.out; have q13 := Z13.out; have q14 := Z14.out; have q15 := Z15.out; have q16 := Z16.out; have q17 := Z17.out; have q18 := Z18.out; have q19 := Z19.out; have q20 := Z20.out; have q21 := Z21.out; have q22 := Z22.out; have q23 := Z23.out; have q24 := Z24.out; omega)); have Rxs24 := Lib.hid (Rxs23.out.below hb F23.out.size); have OW24 := Lib.hid (OW23.out.below hb (Nat.le_refl _)); have OG24 := Lib.hid (OG23.out.below hb (Nat.le_refl _)); have Ohxs24 := Lib.hid (Ohxs23.out.below hb (Nat.le_refl _)); clear hb; have OH24 := Lib.hid ho; clear ho; clear cf0 cf1 cf2 ct0 ct1 ct2 ch0 ch1; obtain ⟨cf0, cf1, cf2⟩ := Xf24.out; obtain ⟨ct0, ct1, ct2⟩ := Xt24.out; obtain ⟨ch0, ch1⟩ := Xh24.out))
  clear cf0 cf1 cf2 ct0 ct1 ct2 ch0 ch1
  obtain ⟨cf0, cf1, cf2⟩ := Xf24.out
  obtain ⟨ct0, ct1, ct2⟩ := Xt24.out
  obtain ⟨ch0, ch1⟩ := Xh24.out
  go_wp2_with fail
  refine (eq_rows OH24.out.rd OW24.out.rd rfl (by have := HL.out; omega)).mono ?_
  rintro e w25 ⟨rfl, hb⟩
  have Z25 : Hid (w24.heap.size ≤ w25.heap.size) := Lib.hid hb.size
  have F25 := Lib.hid (F24.out.trans (hb.mono F24.out.size))
  have Xf25 := Lib.hid (Xf24.out.below hb (by have q0 := Z0.out; have q1 := Z1.out; have q2 := Z2.out; have q3 := Z3.out; have q4 := Z4.out; have q5 := Z5.out; have q6 := Z6.out; have q7 := Z7.out; have q8 := Z8.out; have q9 := Z9.out; have q10 := Z10.out; have q11 := Z11.out; have q12 := Z12.out; have q13 := Z13.out; have q14 := Z14.out; have q15 := Z15.out; have q16 := Z16.out; have q17 := Z17.out; have q18 := Z18.out; have q19 := Z19.out; have q20 := Z20.out; have q21 := Z21.out; have q22 := Z22.out; have q23 := Z23.out; have q24 := Z24.out; have q25 := Z25.out; omega))
  have Xt25 := Lib.hid (Xt24.out.below hb (by have q0 := Z0.out; have q1 := Z1.out; have q2 := Z2.out; have q3 := Z3.out; have q4 := Z4.out; have q5 := Z5.out; have q6 := Z6.out; have q7 := Z7.out; have q8 := Z8.out; have q9 := Z9.out; have q10 := Z10.out; have q11 := Z11.out; have q12 := Z12.out; have q13 := Z13.out; have q14 := Z14.out; have q15 := Z15.out; have q16 := Z16.out; have q17 := Z17.out; have q18 := Z18.out; have q19 := Z19.out; have q20 := Z20.out; have q21 := Z21.out; have q22 := Z22.out; have q23 := Z23.out; have q24 := Z24.out; have q25 := Z25.out; omega))
  have Xh25 := Lib.hid (Xh24.out.below hb (by have q0 := Z0.out; have q1 := Z1.out; have q2 := Z2.out; have q3 := Z3.out; have q4 := Z4.out; have q5 := Z5.out; have q6 := Z6.out; have q7 := Z7.out; have q8 := Z8.out; have q9 := Z9.out; have q10 := Z10.out; have q11 := Z11.out; have q12 := Z12.out; have q13 := Z13.out; have q14 := Z14.out; have q15 := Z15.out; have q16 := Z16.out; have q17 := Z17.out; have q18 := Z18.out; have q19 := Z19.out; have q20 := Z20.out; have q21 := Z21.out; have q22 := Z22.out; have q23 := Z23.out; have q24 := Z24.out; have q25 := Z25.out; omega))
  have Rxs25 := Lib.hid (Rxs24.out.below hb F24.out.size)
  have OW25 := Lib.hid (OW24.out.below hb (Nat.le_refl _))
  have OG25 := Lib.hid (OG24.out.below hb (Nat.le_refl _))
  have OH25 := Lib.hid (OH24.out.below hb (Nat.le_refl _))
  clear hb
  clear cf0 cf1 cf2 ct0 ct1 ct2 ch0 ch1
  obtain ⟨cf0, cf1, cf2⟩ := Xf25.out
  obtain ⟨ct0, ct1, ct2⟩ := Xt25.out
  obtain ⟨ch0, ch1⟩ := Xh25.out
  go_wp2_with fail
  refine (helds_from 1 rfl OG25.out.rd (by have := HL.out; omega) (by omega)).mono ?_
  rw [← MG.out]
  rintro e w26 ⟨rfl, rfl⟩
  clear cf0 cf1 cf2 ct0 ct1 ct2 ch0 ch1
  go_wp2
  go_ret
  exact ⟨rfl, F25.out⟩

theorem law_apply_hom (fk fp fn : Int) (tk tp tn : Int) (hk ha : Int) {vxs : Value} (w : World) {xs : List Int} (hxs : Rd w.heap.size w vxs (ints xs)) (lxs : xs.length ≤ 281474976710656)  :
    Calls Try.prog 12 #[ringV fk fp fn, ringV tk tp tn, homV hk ha, vxs] w fun e w' => e = .returned (.bool true) ∧ Below w.heap.size w w' := by
  obtain ⟨axs, cxs, rfl, -⟩ := ints_form hxs
  by_cases sxs : xs.length ≤ 1048576
  case neg => exact law_apply_hom_big0 fk fp fn tk tp tn hk ha axs _ cxs w  (by omega) lxs
  exact law_apply_hom_small fk fp fn tk tp tn hk ha axs _ cxs w xs (Lib.hid rfl) sxs (Lib.hid hxs) 
end Go.Proofs.Ytfcobkkpkppodaa
