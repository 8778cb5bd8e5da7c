
/- The law FnExactPowElem, walked. -/
import Derived.Test.YtfcobkkpkppodaaPowElem
import Derived.Test.YtfcobkkpkppodaaLawKit
namespace Go.Proofs.Ytfcobkkpkppodaa
set_option maxRecDepth 20000
open Go.RowKit

set_option maxHeartbeats 400000 in
theorem law_pow_elem_big0 (rk rp rn : Int) (axs : Option Addr) (nxs cxs : Nat) (n : Int) (w : World)  (hb : 1048576 < nxs) (hc : nxs ≤ 281474976710656) :
    Calls Try.prog 10 #[ringV rk rp rn, .slice axs nxs cxs, .int .i64 n] w fun e w' => e = .returned (.bool true) ∧ Below w.heap.size w w' := by
  go_enter Try.func10, Try.ntmps10
  go_wp2
  go_ret
  exact ⟨rfl, (Below.refl _ _).alloc (Nat.le_refl _) _⟩

set_option maxHeartbeats 3200000 in
theorem law_pow_elem_small (rk rp rn : Int) (axs : Option Addr) (nxs cxs : Nat) (n : Int) (w : World) (xs : List Int) (Lxs : Hid (xs.length = nxs)) (sxs : nxs ≤ 1048576) (Rxs : Hid (Rd w.heap.size w (.slice axs nxs cxs) (ints xs)))  :
    Calls Try.prog 10 #[ringV rk rp rn, .slice axs nxs cxs, .int .i64 n] w fun e w' => e = .returned (.bool true) ∧ Below w.heap.size w w' := by
  obtain ⟨R, hR⟩ : ∃ R : List Int, R = powElemL rk rp rn xs n := ⟨_, rfl⟩
  have Bxs : Hid (xs.length ≤ 1048576) := Lib.hid (by rw [Lxs.out]; exact sxs)
  have HL : Hid (R.length ≤ 17592186044416) := Lib.hid (by rw [hR]; exact Nat.le_trans (powElem_len _ _ _ _ _) (by omega))
  have HR := Lib.hid hR
  clear hR
  have F0 : Hid (Below w.heap.size w (w.alloc (.cells #[.int .i64 rk, .int .i64 rp, .int .i64 rn] 23))) := Lib.hid ((Below.refl _ _).alloc (Nat.le_refl _) _)
  have Xr0 : Hid (BoxAt (w.alloc (.cells #[.int .i64 rk, .int .i64 rp, .int .i64 rn] 23)) w.heap.size rk rp rn) := Lib.hid (BoxAt.new w rk rp rn 23)
  have Rxs0 : Hid (Rd w.heap.size (w.alloc (.cells #[.int .i64 rk, .int .i64 rp, .int .i64 rn] 23)) (.slice axs nxs cxs) (ints xs)) := Lib.hid (Rxs.out.below F0.out (Nat.le_refl _))
  have Z0 : Hid (w.heap.size + 1 ≤ (w.alloc (.cells #[.int .i64 rk, .int .i64 rp, .int .i64 rn] 23)).heap.size) := Lib.hid (by simp)
  go_enter Try.func10, Try.ntmps10
  obtain ⟨cr0, cr1, cr2⟩ := Xr0.out
  go_wp2_with fail
  refine (to_ring rk rp rn _).mono ?_
  rintro e w1 ⟨rfl, hb⟩
  have Z1 : Hid ((w.alloc (.cells #[.int .i64 rk, .int .i64 rp, .int .i64 rn] 23)).heap.size ≤ w1.heap.size) := Lib.hid hb.size
  have F1 := Lib.hid (F0.out.trans (hb.mono F0.out.size))
  have Xr1 := Lib.hid (Xr0.out.below hb (by have q0 := Z0.out; have q1 := Z1.out; omega))
  have Rxs1 := Lib.hid (Rxs0.out.below hb F0.out.size)
  clear hb
  clear cr0 cr1 cr2
  obtain ⟨cr0, cr1, cr2⟩ := Xr1.out
  go_wp2_with fail
  refine (to_row Rxs1.out F1.out.size (by have := Bxs.out; omega)).mono ?_
  rintro e w2 ⟨vsxs, rfl, ho, hb⟩
  have Z2 : Hid (w1.heap.size ≤ w2.heap.size) := Lib.hid hb.size
  have F2 := Lib.hid (F1.out.trans (hb.mono F1.out.size))
  have Xr2 := Lib.hid (Xr1.out.below hb (by have q0 := Z0.out; have q1 := Z1.out; have q2 := Z2.out; omega))
  have Rxs2 := Lib.hid (Rxs1.out.below hb F1.out.size)
  clear hb
  have Osxs2 := Lib.hid ho
  clear ho
  clear cr0 cr1 cr2
  obtain ⟨cr0, cr1, cr2⟩ := Xr2.out
  go_wp2_with fail
  refine (pow_spec (Osxs2.out.rd.mono Osxs2.out.2.2) (Nat.le_refl _) (by have := Bxs.out; omega)).mono ?_
  rw [← HR.out]
  rintro e w3 ⟨vW, rfl, ho, hb⟩
  have Z3 : Hid (w2.heap.size ≤ w3.heap.size) := Lib.hid hb.size
  have F3 := Lib.hid (F2.out.trans (hb.mono F2.out.size))
  have Xr3 := Lib.hid (Xr2.out.below hb (by have q0 := Z0.out; have q1 := Z1.out; have q2 := Z2.out; have q3 := Z3.out; omega))
  have Rxs3 := Lib.hid (Rxs2.out.below hb F2.out.size)
  have Osxs3 := Lib.hid (Osxs2.out.below hb (Nat.le_refl _))
  clear hb
  have OW3 := Lib.hid ho
  clear ho
  clear cr0 cr1 cr2
  obtain ⟨cr0, cr1, cr2⟩ := Xr3.out
  go_wp2_with fail
  refine (to_row Rxs3.out F3.out.size (by have := Bxs.out; omega)).mono ?_
  rintro e w4 ⟨vxxs, rfl, ho, hb⟩
  have Z4 : Hid (w3.heap.size ≤ w4.heap.size) := Lib.hid hb.size
  have F4 := Lib.hid (F3.out.trans (hb.mono F3.out.size))
  have Xr4 := Lib.hid (Xr3.out.below hb (by have q0 := Z0.out; have q1 := Z1.out; have q2 := Z2.out; have q3 := Z3.out; have q4 := Z4.out; omega))
  have Rxs4 := Lib.hid (Rxs3.out.below hb F3.out.size)
  have OW4 := Lib.hid (OW3.out.below hb (Nat.le_refl _))
  clear hb
  have Oxxs4 := Lib.hid ho
  clear ho
  clear cr0 cr1 cr2
  obtain ⟨cr0, cr1, cr2⟩ := Xr4.out
  go_wp2_with fail
  refine (to_ring rk rp rn _).mono ?_
  rintro e w5 ⟨rfl, hb⟩
  have Z5 : Hid (w4.heap.size ≤ w5.heap.size) := Lib.hid hb.size
  have F5 := Lib.hid (F4.out.trans (hb.mono F4.out.size))
  have Xr5 := Lib.hid (Xr4.out.below hb (by have q0 := Z0.out; have q1 := Z1.out; have q2 := Z2.out; have q3 := Z3.out; have q4 := Z4.out; have q5 := Z5.out; omega))
  have Rxs5 := Lib.hid (Rxs4.out.below hb F4.out.size)
  have OW5 := Lib.hid (OW4.out.below hb (Nat.le_refl _))
  have Oxxs5 := Lib.hid (Oxxs4.out.below hb (Nat.le_refl _))
  clear hb
  clear cr0 cr1 cr2
  obtain ⟨cr0, cr1, cr2⟩ := Xr5.out
  go_wp2_with fail
  refine (pow_impl (Oxxs5.out.rd.mono Oxxs5.out.2.2) (Nat.le_refl _) (by have := Bxs.out; omega)).mono ?_
  rw [← HR.out]
  rintro e w6 ⟨vG, rfl, ho, hb⟩
  have Z6 : Hid (w5.heap.size ≤ w6.heap.size) := Lib.hid hb.size
  have F6 := Lib.hid (F5.out.trans (hb.mono F5.out.size))
  have Xr6 := Lib.hid (Xr5.out.below hb (by have q0 := Z0.out; have q1 := Z1.out; have q2 := Z2.out; have q3 := Z3.out; have q4 := Z4.out; have q5 := Z5.out; have q6 := Z6.out; omega))
  have Rxs6 := Lib.hid (Rxs5.out.below hb F5.out.size)
  have OW6 := Lib.hid (OW5.out.below hb (Nat.le_refl _))
  have Oxxs6 := Lib.hid (Oxxs5.out.below hb (Nat.le_refl _))
  clear hb
  have OG6 := Lib.hid ho
  clear ho
  clear cr0 cr1 cr2
  obtain ⟨cr0, cr1, cr2⟩ := Xr6.out
  go_wp2_with fail
  refine (eq_rows OG6.out.rd OW6.out.rd rfl (by have := HL.out; omega)).mono ?_
  rintro e w7 ⟨rfl, hb⟩
  have Z7 : Hid (w6.heap.size ≤ w7.heap.size) := Lib.hid hb.size
  have F7 := Lib.hid (F6.out.trans (hb.mono F6.out.size))
  have Xr7 := Lib.hid (Xr6.out.below hb (by have q0 := Z0.out; have q1 := Z1.out; have q2 := Z2.out; have q3 := Z3.out; have q4 := Z4.out; have q5 := Z5.out; have q6 := Z6.out; have q7 := Z7.out; omega))
  have Rxs7 := Lib.hid (Rxs6.out.below hb F6.out.size)
  have OW7 := Lib.hid (OW6.out.below hb (Nat.le_refl _))
  have Oxxs7 := Lib.hid (Oxxs6.out.below hb (Nat.le_refl _))
  have OG7 := Lib.hid (OG6.out.below hb (Nat.le_refl _))
  clear hb
  clear cr0 cr1 cr2
  obtain ⟨cr0, cr1, cr2⟩ := Xr7.out
  go_wp2_with fail
  refine (to_row Rxs7.out F7.out.size (by have := Bxs.out; omega)).mono ?_
  rintro e w8 ⟨vtxs, rfl, ho, hb⟩
  have Z8 : Hid (w7.heap.size ≤ w8.heap.size) := Lib.hid hb.size
  have F8 := Lib.hid (F7.out.trans (hb.mono F7.out.size))
  have Xr8 := Lib.hid (Xr7.out.below hb (by have q0 := Z0.out; have q1 := Z1.out; have q2 := Z2.out; have q3 := Z3.out; have q4 := Z4.out; have q5 := Z5.out; have q6 := Z6.out; have q7 := Z7.out; have q8 := Z8.out; omega))
  have Rxs8 := Lib.hid (Rxs7.out.below hb F7.out.size)
  have OW8 := Lib.hid (OW7.out.below hb (Nat.le_refl _))
  have Oxxs8 := Lib.hid (Oxxs7.out.below hb (Nat.le_refl _))
  have OG8 := Lib.hid (OG7.out.below hb (Nat.le_refl _))
  clear hb
  have Otxs8 := Lib.hid ho
  clear ho
  clear cr0 cr1 cr2
  obtain ⟨cr0, cr1, cr2⟩ := Xr8.out
  go_wp2_with fail
  refine (eq_rows Oxxs8.out.rd Otxs8.out.rd rfl (by have := Bxs.out; omega)).mono ?_
  rintro e w9 ⟨rfl, hb⟩
  have Z9 : Hid (w8.heap.size ≤ w9.heap.size) := Lib.hid hb.size
  have F9 := Lib.hid (F8.out.trans (hb.mono F8.out.size))
  have Xr9 := Lib.hid (Xr8.out.below hb (by have q0 := Z0.out; have q1 := Z1.out; have q2 := Z2.out; have q3 := Z3.out; have q4 := Z4.out; have q5 := Z5.out; have q6 := Z6.out; have q7 := Z7.out; have q8 := Z8.out; have q9 := Z9.out; omega))
  have Rxs9 := Lib.hid (Rxs8.out.below hb F8.out.size)
  have OW9 := Lib.hid (OW8.out.below hb (Nat.le_refl _))
  have Oxxs9 := Lib.hid (Oxxs8.out.below hb (Nat.le_refl _))
  have OG9 := Lib.hid (OG8.out.below hb (Nat.le_refl _))
  have Otxs9 := Lib.hid (Otxs8.out.below hb (Nat.le_refl _))
  clear hb
  obtain ⟨m0, hm⟩ : ∃ m : Nat, m = 1 + xs.length := ⟨_, rfl⟩
  have M0 : Hid (m0 = 1 + xs.length) := Lib.hid hm
  have m0b : m0 ≤ 1048577 := by have := Bxs.out; omega
  clear hm
  clear cr0 cr1 cr2
  obtain ⟨cr0, cr1, cr2⟩ := Xr9.out
  go_wp2_with fail
  refine (marks_from 1 rfl Oxxs9.out (by have := Bxs.out; omega) (by omega)).mono ?_
  rw [← M0.out]
  rintro e w10 ⟨rfl, ho, hg⟩
  have Z10 : Hid (w9.heap.size ≤ w10.heap.size) := Lib.hid hg.size
  have G : ∀ g, _ = some g → _ := Oxxs9.out.lo
  have G2 := Oxxs9.out.2.1
  have F10 := Lib.hid (F9.out.grown hg F9.out.size (fun g eg => by have := G g eg; have q0 := Z0.out; have q1 := Z1.out; have q2 := Z2.out; have q3 := Z3.out; have q4 := Z4.out; have q5 := Z5.out; have q6 := Z6.out; have q7 := Z7.out; have q8 := Z8.out; have q9 := Z9.out; omega))
  have Xr10 := Lib.hid (Xr9.out.grown hg (by have q0 := Z0.out; have q1 := Z1.out; have q2 := Z2.out; have q3 := Z3.out; have q4 := Z4.out; have q5 := Z5.out; have q6 := Z6.out; have q7 := Z7.out; have q8 := Z8.out; have q9 := Z9.out; omega) (fun g eg => by have := G g eg; have q0 := Z0.out; have q1 := Z1.out; have q2 := Z2.out; have q3 := Z3.out; have q4 := Z4.out; have q5 := Z5.out; have q6 := Z6.out; have q7 := Z7.out; have q8 := Z8.out; have q9 := Z9.out; omega))
  have Rxs10 := Lib.hid (Rxs9.out.kept hg F9.out.size (fun g eg => by have := G g eg; have q0 := Z0.out; have q1 := Z1.out; have q2 := Z2.out; have q3 := Z3.out; have q4 := Z4.out; have q5 := Z5.out; have q6 := Z6.out; have q7 := Z7.out; have q8 := Z8.out; have q9 := Z9.out; omega))
  have OW10 := Lib.hid (OW9.out.kept hg (fun g eg => by have := G g eg; have := G2 g eg; have q0 := Z0.out; have q1 := Z1.out; have q2 := Z2.out; have q3 := Z3.out; have q4 := Z4.out; have q5 := Z5.out; have q6 := Z6.out; have q7 := Z7.out; have q8 := Z8.out; have q9 := Z9.out; omega))
  have OG10 := Lib.hid (OG9.out.kept hg (fun g eg => by have := G g eg; have := G2 g eg; have q0 := Z0.out; have q1 := Z1.out; have q2 := Z2.out; have q3 := Z3.out; have q4 := Z4.out; have q5 := Z5.out; have q6 := Z6.out; have q7 := Z7.out; have q8 := Z8.out; have q9 := Z9.out; omega))
  have Oxxs10 := Lib.hid ho
  clear hg ho G G2
  clear cr0 cr1 cr2
  obtain ⟨cr0, cr1, cr2⟩ := Xr10.out
  go_wp2_with fail
  refine (eq_rows OG10.out.rd OW10.out.rd rfl (by have := HL.out; omega)).mono ?_
  rintro e w11 ⟨rfl, hb⟩
  have Z11 : Hid (w10.heap.size ≤ w11.heap.size) := Lib.hid hb.size
  have F11 := Lib.hid (F10.out.trans (hb.mono F10.out.size))
  have Xr11 := Lib.hid (Xr10.out.below hb (by have q0 := Z0.out; have q1 := Z1.out; have q2 := Z2.out; have q3 := Z3.out; have q4 := Z4.out; have q5 := Z5.out; have q6 := Z6.out; have q7 := Z7.out; have q8 := Z8.out; have q9 := Z9.out; have q10 := Z10.out; have q11 := Z11.out; omega))
  have Rxs11 := Lib.hid (Rxs10.out.below hb F10.out.size)
  have OW11 := Lib.hid (OW10.out.below hb (Nat.le_refl _))
  have Oxxs11 := Lib.hid (Oxxs10.out.below hb (Nat.le_refl _))
  have OG11 := Lib.hid (OG10.out.below hb (Nat.le_refl _))
  clear hb
  obtain ⟨mg, hm⟩ : ∃ m : Nat, m = 1 + R.length := ⟨_, rfl⟩
  have MG : Hid (mg = 1 + R.length) := Lib.hid hm
  have mgb : mg ≤ 17592186044417 := by have := HL.out; omega
  clear hm
  clear cr0 cr1 cr2
  obtain ⟨cr0, cr1, cr2⟩ := Xr11.out
  go_wp2_with fail
  refine (marks_from 1 rfl OG11.out (by have := HL.out; omega) (by omega)).mono ?_
  rw [← MG.out]
  rintro e w12 ⟨rfl, ho, hg⟩
  have Z12 : Hid (w11.heap.size ≤ w12.heap.size) := Lib.hid hg.size
  have G : ∀ g, _ = some g → _ := OG11.out.lo
  have G2 := OG11.out.2.1
  have F12 := Lib.hid (F11.out.grown hg F11.out.size (fun g eg => by have := G g eg; have q0 := Z0.out; have q1 := Z1.out; have q2 := Z2.out; have q3 := Z3.out; have q4 := Z4.out; have q5 := Z5.out; have q6 := Z6.out; have q7 := Z7.out; have q8 := Z8.out; have q9 := Z9.out; have q10 := Z10.out; have q11 := Z11.out; omega))
  have Xr12 := Lib.hid (Xr11.out.grown hg (by have q0 := Z0.out; have q1 := Z1.out; have q2 := Z2.out; have q3 := Z3.out; have q4 := Z4.out; have q5 := Z5.out; have q6 := Z6.out; have q7 := Z7.out; have q8 := Z8.out; have q9 := Z9.out; have q10 := Z10.out; have q11 := Z11.out; omega) (fun g eg => by have := G g eg; have q0 := Z0.out; have q1 := Z1.out; have q2 := Z2.out; have q3 := Z3.out; have q4 := Z4.out; have q5 := Z5.out; have q6 := Z6.out; have q7 := Z7.out; have q8 := Z8.out; have q9 := Z9.out; have q10 := Z10.out; have q11 := Z11.out; omega))
  have Rxs12 := Lib.hid (Rxs11.out.kept hg F11.out.size (fun g eg => by have := G g eg; have q0 := Z0.out; have q1 := Z1.out; have q2 := Z2.out; have q3 := Z3.out; have q4 := Z4.out; have q5 := Z5.out; have q6 := Z6.out; have q7 := Z7.out; have q8 := Z8.out; have q9 := Z9.out; have q10 := Z10.out; have q11 := Z11.out; omega))
  have OW12 := Lib.hid (OW11.out.kept hg (fun g eg => by have := G g eg; have := G2 g eg; have q0 := Z0.out; have q1 := Z1.out; have q2 := Z2.out; have q3 := Z3.out; have q4 := Z4.out; have q5 := Z5.out; have q6 := Z6.out; have q7 := Z7.out; have q8 := Z8.out; have q9 := Z9.out; have q10 := Z10.out; have q11 := Z11.out; omega))
  have OG12 := Lib.hid ho
  clear hg ho G G2
  clear cr0 cr1 cr2
  obtain ⟨cr0, cr1, cr2⟩ := Xr12.out
  go_wp2_with fail
  refine (helds_from 1 rfl OG12.out.rd (by have := HL.out; omega) (by omega)).mono ?_
  rw [← MG.out]
  rintro e w13 ⟨rfl, rfl⟩
  clear cr0 cr1 cr2
  obtain ⟨cr0, cr1, cr2⟩ := Xr12.out
  go_wp2_with fail
  refine (to_ring rk rp rn _).mono ?_
  rintro e w13 ⟨rfl, hb⟩
  have Z13 : Hid (w12.heap.size ≤ w13.heap.size) := Lib.hid hb.size
  have F13 := Lib.hid (F12.out.trans (hb.mono F12.out.size))
  have Xr13 := Lib.hid (Xr12.out.below hb (by have q0 := Z0.out; have q1 := Z1.out; have q2 := Z2.out; have q3 := Z3.out; have q4 := Z4.out; have q5 := Z5.out; have q6 := Z6.out; have q7 := Z7.out; have q8 := Z8.out; have q9 := Z9.out; have q10 := Z10.out; have q11 := Z11.out; have q12 := Z12.out; have q13 := Z13.out; omega))
  have Rxs13 := Lib.hid (Rxs12.out.below hb F12.out.size)
  have OW13 := Lib.hid (OW12.out.below hb (Nat.le_refl _))
  have OG13 := Lib.hid (OG12.out.below hb (Nat.le_refl _))
  clear hb
  clear cr0 cr1 cr2
  obtain ⟨cr0, cr1, cr2⟩ := Xr13.out
  go_wp2_with fail
  refine (to_row Rxs13.out F13.out.size (by have := Bxs.out; omega)).mono ?_
  rintro e w14 ⟨vhxs, rfl, ho, hb⟩
  have Z14 : Hid (w13.heap.size ≤ w14.heap.size) := Lib.hid hb.size
  have F14 := Lib.hid (F13.out.trans (hb.mono F13.out.size))
  have Xr14 := Lib.hid (Xr13.out.below hb (by have q0 := Z0.out; have q1 := Z1.out; have q2 := Z2.out; have q3 := Z3.out; have q4 := Z4.out; have q5 := Z5.out; have q6 := Z6.out; have q7 := Z7.out; have q8 := Z8.out; have q9 := Z9.out; have q10 := Z10.out; have q11 := Z11.out; have q12 := Z12.out; have q13 := Z13.out; have q14 := Z14.out; omega))
  have Rxs14 := Lib.hid (Rxs13.out.below hb F13.out.size)
  have OW14 := Lib.hid (OW13.out.below hb (Nat.le_refl _))
  have OG14 := Lib.hid (OG13.out.below hb (Nat.le_refl _))
  clear hb
  have Ohxs14 := Lib.hid ho
  clear ho
  clear cr0 cr1 cr2
  obtain ⟨cr0, cr1, cr2⟩ := Xr14.out
  go_wp2_with fail
  refine (pow_impl (Ohxs14.out.rd.mono Ohxs14.out.2.2) (Nat.le_refl _) (by have := Bxs.out; omega)).mono ?_
  rw [← HR.out]
  rintro e w15 ⟨vH, rfl, ho, hb⟩
  have Z15 : Hid (w14.heap.size ≤ w15.heap.size) := Lib.hid hb.size
  have F15 := Lib.hid (F14.out.trans (hb.mono F14.out.size))
  have Xr15 := Lib.hid (Xr14.out.below hb (by have q0 := Z0.out; have q1 := Z1.out; have q2 := Z2.out; have q3 := Z3.out; have q4 := Z4.out; have q5 := Z5.out; have q6 := Z6.out; have q7 := Z7.out; have q8 := Z8.out; have q9 := Z9.out; have q10 := Z10.out; have q11 := Z11.out; have q12 := Z12.out; have q13 := Z13.out; have q14 := Z14.out; have q15 := Z15.out; omega))
  have Rxs15 := Lib.hid (Rxs14.out.below hb F14.out.size)
  have OW15 := Lib.hid (OW14.out.below hb (Nat.le_refl _))
  have OG15 := Lib.hid (OG14.out.below hb (Nat.le_refl _))
  have Ohxs15 := Lib.hid (Ohxs14.out.below hb (Nat.le_refl _))
  clear hb
  have OH15 := Lib.hid ho
  clear ho
  clear cr0 cr1 cr2
  obtain ⟨cr0, cr1, cr2⟩ := Xr15.out
  go_wp2_with fail
  refine (eq_rows OH15.out.rd OW15.out.rd rfl (by have := HL.out; omega)).mono ?_
  rintro e w16 ⟨rfl, hb⟩
  have Z16 : Hid (w15.heap.size ≤ w16.heap.size) := Lib.hid hb.size
  have F16 := Lib.hid (F15.out.trans (hb.mono F15.out.size))
  have Xr16 := Lib.hid (Xr15.out.below hb (by have q0 := Z0.out; have q1 := Z1.out; have q2 := Z2.out; have q3 := Z3.out; have q4 := Z4.out; have q5 := Z5.out; have q6 := Z6.out; have q7 := Z7.out; have q8 := Z8.out; have q9 := Z9.out; have q10 := Z10.out; have q11 := Z11.out; have q12 := Z12.out; have q13 := Z13.out; have q14 := Z14.out; have q15 := Z15.out; have q16 := Z16.out; omega))
  have Rxs16 := Lib.hid (Rxs15.out.below hb F15.out.size)
  have OW16 := Lib.hid (OW15.out.below hb (Nat.le_refl _))
  have OG16 := Lib.hid (OG15.out.below hb (Nat.le_refl _))
  have OH16 := Lib.hid (OH15.out.below hb (Nat.le_refl _))
  clear hb
  clear cr0 cr1 cr2
  obtain ⟨cr0, cr1, cr2⟩ := Xr16.out
  go_wp2_with fail
  refine (helds_from 1 rfl OG16.out.rd (by have := HL.out; omega) (by omega)).mono ?_
  rw [← MG.out]
  rintro e w17 ⟨rfl, rfl⟩
  clear cr0 cr1 cr2
  go_wp2
  go_ret
  exact ⟨rfl, F16.out⟩

theorem law_pow_elem (rk rp rn : Int) {vxs : Value} (n : Int) (w : World) {xs : List Int} (hxs : Rd w.heap.size w vxs (ints xs)) (lxs : xs.length ≤ 281474976710656)  :
    Calls Try.prog 10 #[ringV rk rp rn, vxs, .int .i64 n] w fun e w' => e = .returned (.bool true) ∧ Below w.heap.size w w' := by
  obtain ⟨axs, cxs, rfl, -⟩ := ints_form hxs
  by_cases sxs : xs.length ≤ 1048576
  case neg => exact law_pow_elem_big0 rk rp rn axs _ cxs n w  (by omega) lxs
  exact law_pow_elem_small rk rp rn axs _ cxs n w xs (Lib.hid rfl) sxs (Lib.hid hxs) 
end Go.Proofs.Ytfcobkkpkppodaa
