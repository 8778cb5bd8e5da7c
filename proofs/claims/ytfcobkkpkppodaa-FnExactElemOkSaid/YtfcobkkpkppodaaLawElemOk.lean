
/- The law FnExactElemOk, walked. -/
import Derived.Test.YtfcobkkpkppodaaElemOk
import Derived.Test.YtfcobkkpkppodaaLawKit
namespace Go.Proofs.Ytfcobkkpkppodaa
set_option maxRecDepth 20000
open Go.RowKit

set_option maxHeartbeats 400000 in
theorem law_elem_ok_big0 (rk rp rn : Int) (axs : Option Addr) (nxs cxs : Nat) (w : World)  (hb : 1048576 < nxs) (hc : nxs ≤ 281474976710656) :
    Calls Try.prog 3 #[ringV rk rp rn, .slice axs nxs cxs] w fun e w' => e = .returned (.bool true) ∧ Below w.heap.size w w' := by
  go_enter Try.func3, Try.ntmps3
  go_wp2
  go_ret
  exact ⟨rfl, (Below.refl _ _).alloc (Nat.le_refl _) _⟩

set_option maxHeartbeats 3200000 in
theorem law_elem_ok_small (rk rp rn : Int) (axs : Option Addr) (nxs cxs : Nat) (w : World) (xs : List Int) (Lxs : Hid (xs.length = nxs)) (sxs : nxs ≤ 1048576) (Rxs : Hid (Rd w.heap.size w (.slice axs nxs cxs) (ints xs)))  :
    Calls Try.prog 3 #[ringV rk rp rn, .slice axs nxs cxs] w fun e w' => e = .returned (.bool true) ∧ Below w.heap.size w w' := by
  obtain ⟨R, hR⟩ : ∃ R : Bool, R = okElemB rk rp rn xs := ⟨_, rfl⟩
  have Bxs : Hid (xs.length ≤ 1048576) := Lib.hid (by rw [Lxs.out]; exact sxs)
  have hbb : (R != R) = false := by cases R <;> rfl
  have HR := Lib.hid hR
  clear hR
  have F0 : Hid (Below w.heap.size w (w.alloc (.cells #[.int .i64 rk, .int .i64 rp, .int .i64 rn] 23))) := Lib.hid ((Below.refl _ _).alloc (Nat.le_refl _) _)
  have Xr0 : Hid (BoxAt (w.alloc (.cells #[.int .i64 rk, .int .i64 rp, .int .i64 rn] 23)) w.heap.size rk rp rn) := Lib.hid (BoxAt.new w rk rp rn 23)
  have Rxs0 : Hid (Rd w.heap.size (w.alloc (.cells #[.int .i64 rk, .int .i64 rp, .int .i64 rn] 23)) (.slice axs nxs cxs) (ints xs)) := Lib.hid (Rxs.out.below F0.out (Nat.le_refl _))
  have Z0 : Hid (w.heap.size + 1 ≤ (w.alloc (.cells #[.int .i64 rk, .int .i64 rp, .int .i64 rn] 23)).heap.size) := Lib.hid (by simp)
  go_enter Try.func3, Try.ntmps3
  obtain ⟨cr0, cr1, cr2⟩ := Xr0.out
  go_wp2_with fail
  refine (to_ring rk rp rn _).mono ?_
  rintro e w1 ⟨rfl, hb⟩
  have Z1 : Hid ((w.alloc (.cells #[.int .i64 rk, .int .i64 rp, .int .i64 rn] 23)).heap.size ≤ w1.heap.size) := Lib.hid hb.size
  have F1 := Lib.hid (F0.out.trans (hb.mono F0.out.size))
  have Xr1 := Lib.hid (Xr0.out.below hb (by have q0 := Z0.out; have q1 := Z1.out; omega))
  have Rxs1 := Lib.hid (Rxs0.out.below hb F0.out.size)
  clear hb
  clear cr0 cr1 cr2
  obtain ⟨cr0, cr1, cr2⟩ := Xr1.out
  go_wp2_with fail
  refine (to_row Rxs1.out F1.out.size (by have := Bxs.out; omega)).mono ?_
  rintro e w2 ⟨vsxs, rfl, ho, hb⟩
  have Z2 : Hid (w1.heap.size ≤ w2.heap.size) := Lib.hid hb.size
  have F2 := Lib.hid (F1.out.trans (hb.mono F1.out.size))
  have Xr2 := Lib.hid (Xr1.out.below hb (by have q0 := Z0.out; have q1 := Z1.out; have q2 := Z2.out; omega))
  have Rxs2 := Lib.hid (Rxs1.out.below hb F1.out.size)
  clear hb
  have Osxs2 := Lib.hid ho
  clear ho
  clear cr0 cr1 cr2
  obtain ⟨cr0, cr1, cr2⟩ := Xr2.out
  go_wp2_with fail
  refine (elem_ok_spec Osxs2.out.rd Osxs2.out.2.2 (by have := Bxs.out; omega)).mono ?_
  rw [← HR.out]
  rintro e w3 ⟨rfl, hb⟩
  have Z3 : Hid (w2.heap.size ≤ w3.heap.size) := Lib.hid hb.size
  have F3 := Lib.hid (F2.out.trans (hb.mono F2.out.size))
  have Xr3 := Lib.hid (Xr2.out.below hb (by have q0 := Z0.out; have q1 := Z1.out; have q2 := Z2.out; have q3 := Z3.out; omega))
  have Rxs3 := Lib.hid (Rxs2.out.below hb F2.out.size)
  have Osxs3 := Lib.hid (Osxs2.out.below hb (Nat.le_refl _))
  clear hb
  clear cr0 cr1 cr2
  obtain ⟨cr0, cr1, cr2⟩ := Xr3.out
  go_wp2_with fail
  refine (to_row Rxs3.out F3.out.size (by have := Bxs.out; omega)).mono ?_
  rintro e w4 ⟨vxxs, rfl, ho, hb⟩
  have Z4 : Hid (w3.heap.size ≤ w4.heap.size) := Lib.hid hb.size
  have F4 := Lib.hid (F3.out.trans (hb.mono F3.out.size))
  have Xr4 := Lib.hid (Xr3.out.below hb (by have q0 := Z0.out; have q1 := Z1.out; have q2 := Z2.out; have q3 := Z3.out; have q4 := Z4.out; omega))
  have Rxs4 := Lib.hid (Rxs3.out.below hb F3.out.size)
  clear hb
  have Oxxs4 := Lib.hid ho
  clear ho
  clear cr0 cr1 cr2
  obtain ⟨cr0, cr1, cr2⟩ := Xr4.out
  go_wp2_with fail
  refine (to_ring rk rp rn _).mono ?_
  rintro e w5 ⟨rfl, hb⟩
  have Z5 : Hid (w4.heap.size ≤ w5.heap.size) := Lib.hid hb.size
  have F5 := Lib.hid (F4.out.trans (hb.mono F4.out.size))
  have Xr5 := Lib.hid (Xr4.out.below hb (by have q0 := Z0.out; have q1 := Z1.out; have q2 := Z2.out; have q3 := Z3.out; have q4 := Z4.out; have q5 := Z5.out; omega))
  have Rxs5 := Lib.hid (Rxs4.out.below hb F4.out.size)
  have Oxxs5 := Lib.hid (Oxxs4.out.below hb (Nat.le_refl _))
  clear hb
  clear cr0 cr1 cr2
  obtain ⟨cr0, cr1, cr2⟩ := Xr5.out
  go_wp2_with fail
  refine (elem_ok_impl Oxxs5.out.rd Oxxs5.out.2.2 (by have := Bxs.out; omega)).mono ?_
  rw [← HR.out]
  rintro e w6 ⟨rfl, hb⟩
  have Z6 : Hid (w5.heap.size ≤ w6.heap.size) := Lib.hid hb.size
  have F6 := Lib.hid (F5.out.trans (hb.mono F5.out.size))
  have Xr6 := Lib.hid (Xr5.out.below hb (by have q0 := Z0.out; have q1 := Z1.out; have q2 := Z2.out; have q3 := Z3.out; have q4 := Z4.out; have q5 := Z5.out; have q6 := Z6.out; omega))
  have Rxs6 := Lib.hid (Rxs5.out.below hb F5.out.size)
  have Oxxs6 := Lib.hid (Oxxs5.out.below hb (Nat.le_refl _))
  clear hb
  clear cr0 cr1 cr2
  obtain ⟨cr0, cr1, cr2⟩ := Xr6.out
  go_wp2_with fail
  refine (to_row Rxs6.out F6.out.size (by have := Bxs.out; omega)).mono ?_
  rintro e w7 ⟨vtxs, rfl, ho, hb⟩
  have Z7 : Hid (w6.heap.size ≤ w7.heap.size) := Lib.hid hb.size
  have F7 := Lib.hid (F6.out.trans (hb.mono F6.out.size))
  have Xr7 := Lib.hid (Xr6.out.below hb (by have q0 := Z0.out; have q1 := Z1.out; have q2 := Z2.out; have q3 := Z3.out; have q4 := Z4.out; have q5 := Z5.out; have q6 := Z6.out; have q7 := Z7.out; omega))
  have Rxs7 := Lib.hid (Rxs6.out.below hb F6.out.size)
  have Oxxs7 := Lib.hid (Oxxs6.out.below hb (Nat.le_refl _))
  clear hb
  have Otxs7 := Lib.hid ho
  clear ho
  clear cr0 cr1 cr2
  obtain ⟨cr0, cr1, cr2⟩ := Xr7.out
  go_wp2_with fail
  refine (eq_rows Oxxs7.out.rd Otxs7.out.rd rfl (by have := Bxs.out; omega)).mono ?_
  rintro e w8 ⟨rfl, hb⟩
  have Z8 : Hid (w7.heap.size ≤ w8.heap.size) := Lib.hid hb.size
  have F8 := Lib.hid (F7.out.trans (hb.mono F7.out.size))
  have Xr8 := Lib.hid (Xr7.out.below hb (by have q0 := Z0.out; have q1 := Z1.out; have q2 := Z2.out; have q3 := Z3.out; have q4 := Z4.out; have q5 := Z5.out; have q6 := Z6.out; have q7 := Z7.out; have q8 := Z8.out; omega))
  have Rxs8 := Lib.hid (Rxs7.out.below hb F7.out.size)
  have Oxxs8 := Lib.hid (Oxxs7.out.below hb (Nat.le_refl _))
  have Otxs8 := Lib.hid (Otxs7.out.below hb (Nat.le_refl _))
  clear hb
  clear cr0 cr1 cr2
  go_wp2
  go_ret
  exact ⟨rfl, F8.out⟩

theorem law_elem_ok (rk rp rn : Int) {vxs : Value} (w : World) {xs : List Int} (hxs : Rd w.heap.size w vxs (ints xs)) (lxs : xs.length ≤ 281474976710656)  :
    Calls Try.prog 3 #[ringV rk rp rn, vxs] w fun e w' => e = .returned (.bool true) ∧ Below w.heap.size w w' := by
  obtain ⟨axs, cxs, rfl, -⟩ := ints_form hxs
  by_cases sxs : xs.length ≤ 1048576
  case neg => exact law_elem_ok_big0 rk rp rn axs _ cxs w  (by omega) lxs
  exact law_elem_ok_small rk rp rn axs _ cxs w xs (Lib.hid rfl) sxs (Lib.hid hxs) 
end Go.Proofs.Ytfcobkkpkppodaa
