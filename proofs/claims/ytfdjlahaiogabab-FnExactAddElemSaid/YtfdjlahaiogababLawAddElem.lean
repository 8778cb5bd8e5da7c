
/- The law FnExactAddElem, walked. -/
import Derived.Test.YtfdjlahaiogababTimesOne
import Derived.Test.YtfdjlahaiogababLawKit
namespace Go.Proofs.Ytfdjlahaiogabab
set_option maxRecDepth 20000
open Go.RowKit

set_option maxHeartbeats 400000 in
theorem law_add_elem_big0 (rk rp rn : Int) (axs : Option Addr) (nxs cxs : Nat) (ays : Option Addr) (nys cys : Nat) (w : World)  (hb : 1048576 < nxs) (hc : nxs ≤ 281474976710656) :
    Calls Try.prog 11 #[ringV rk rp rn, .slice axs nxs cxs, .slice ays nys cys] w fun e w' => e = .returned (.bool true) ∧ Below w.heap.size w w' := by
  go_enter Try.func11, Try.ntmps11
  go_wp2
  go_ret
  exact ⟨rfl, (Below.refl _ _).alloc (Nat.le_refl _) _⟩

set_option maxHeartbeats 400000 in
theorem law_add_elem_big1 (rk rp rn : Int) (axs : Option Addr) (nxs cxs : Nat) (ays : Option Addr) (nys cys : Nat) (w : World) (sxs : nxs ≤ 1048576) (hb : 1048576 < nys) (hc : nys ≤ 281474976710656) :
    Calls Try.prog 11 #[ringV rk rp rn, .slice axs nxs cxs, .slice ays nys cys] w fun e w' => e = .returned (.bool true) ∧ Below w.heap.size w w' := by
  go_enter Try.func11, Try.ntmps11
  go_wp2
  go_ret
  exact ⟨rfl, (Below.refl _ _).alloc (Nat.le_refl _) _⟩

set_option maxHeartbeats 3200000 in
theorem law_add_elem_small (rk rp rn : Int) (axs : Option Addr) (nxs cxs : Nat) (ays : Option Addr) (nys cys : Nat) (w : World) (xs : List Int) (Lxs : Hid (xs.length = nxs)) (sxs : nxs ≤ 1048576) (Rxs : Hid (Rd w.heap.size w (.slice axs nxs cxs) (ints xs))) (ys : List Int) (Lys : Hid (ys.length = nys)) (sys : nys ≤ 1048576) (Rys : Hid (Rd w.heap.size w (.slice ays nys cys) (ints ys)))  :
    Calls Try.prog 11 #[ringV rk rp rn, .slice axs nxs cxs, .slice ays nys cys] w fun e w' => e = .returned (.bool true) ∧ Below w.heap.size w w' := by
  obtain ⟨R, hR⟩ : ∃ R : List Int, R = addElemL rk rp rn xs ys := ⟨_, rfl⟩
  have Bxs : Hid (xs.length ≤ 1048576) := Lib.hid (by rw [Lxs.out]; exact sxs)
  have Bys : Hid (ys.length ≤ 1048576) := Lib.hid (by rw [Lys.out]; exact sys)
  have HL : Hid (R.length ≤ 17592186044416) := Lib.hid (by rw [hR]; exact Nat.le_trans (addElem_len _ _ _ _ _) (by omega))
  have HR := Lib.hid hR
  clear hR
  have F0 : Hid (Below w.heap.size w (w.alloc (.cells #[.int .i64 rk, .int .i64 rp, .int .i64 rn] 23))) := Lib.hid ((Below.refl _ _).alloc (Nat.le_refl _) _)
  have Xr0 : Hid (BoxAt (w.alloc (.cells #[.int .i64 rk, .int .i64 rp, .int .i64 rn] 23)) w.heap.size rk rp rn) := Lib.hid (BoxAt.new w rk rp rn 23)
  have Rxs0 : Hid (Rd w.heap.size (w.alloc (.cells #[.int .i64 rk, .int .i64 rp, .int .i64 rn] 23)) (.slice axs nxs cxs) (ints xs)) := Lib.hid (Rxs.out.below F0.out (Nat.le_refl _))
  have Rys0 : Hid (Rd w.heap.size (w.alloc (.cells #[.int .i64 rk, .int .i64 rp, .int .i64 rn] 23)) (.slice ays nys cys) (ints ys)) := Lib.hid (Rys.out.below F0.out (Nat.le_refl _))
  have Z0 : Hid (w.heap.size + 1 ≤ (w.alloc (.cells #[.int .i64 rk, .int .i64 rp, .int .i64 rn] 23)).heap.size) := Lib.hid (by simp)
  go_enter Try.func11, Try.ntmps11
  obtain ⟨cr0, cr1, cr2⟩ := Xr0.out
  go_wp2_with fail
  refine (to_ring rk rp rn _).mono ?_
  rintro e w1 ⟨rfl, hb⟩
  have Z1 : Hid ((w.alloc (.cells #[.int .i64 rk, .int .i64 rp, .int .i64 rn] 23)).heap.size ≤ w1.heap.size) := Lib.hid hb.size
  have F1 := Lib.hid (F0.out.trans (hb.mono F0.out.size))
  have Xr1 := Lib.hid (Xr0.out.below hb (by have q0 := Z0.out; have q1 := Z1.out; omega))
  have Rxs1 := Lib.hid (Rxs0.out.below hb F0.out.size)
  have Rys1 := Lib.hid (Rys0.out.below hb F0.out.size)
  clear hb
  clear cr0 cr1 cr2
  obtain ⟨cr0, cr1, cr2⟩ := Xr1.out
  go_wp2_with fail
  refine (to_row Rxs1.out F1.out.size (by have := Bxs.out; omega)).mono ?_
  rintro e w2 ⟨vsxs, rfl, ho, hb⟩
  have Z2 : Hid (w1.heap.size ≤ w2.heap.size) := Lib.hid hb.size
  have F2 := Lib.hid (F1.out.trans (hb.mono F1.out.size))
  have Xr2 := Lib.hid (Xr1.out.below hb (by have q0 := Z0.out; have q1 := Z1.out; have q2 := Z2.out; omega))
  have Rxs2 := Lib.hid (Rxs1.out.below hb F1.out.size)
  have Rys2 := Lib.hid (Rys1.out.below hb F1.out.size)
  clear hb
  have Osxs2 := Lib.hid ho
  clear ho
  clear cr0 cr1 cr2
  obtain ⟨cr0, cr1, cr2⟩ := Xr2.out
  go_wp2_with fail
  refine (to_row Rys2.out F2.out.size (by have := Bys.out; omega)).mono ?_
  rintro e w3 ⟨vsys, rfl, ho, hb⟩
  have Z3 : Hid (w2.heap.size ≤ w3.heap.size) := Lib.hid hb.size
  have F3 := Lib.hid (F2.out.trans (hb.mono F2.out.size))
  have Xr3 := Lib.hid (Xr2.out.below hb (by have q0 := Z0.out; have q1 := Z1.out; have q2 := Z2.out; have q3 := Z3.out; omega))
  have Rxs3 := Lib.hid (Rxs2.out.below hb F2.out.size)
  have Rys3 := Lib.hid (Rys2.out.below hb F2.out.size)
  have Osxs3 := Lib.hid (Osxs2.out.below hb (Nat.le_refl _))
  clear hb
  have Osys3 := Lib.hid ho
  clear ho
  clear cr0 cr1 cr2
  obtain ⟨cr0, cr1, cr2⟩ := Xr3.out
  go_wp2_with fail
  refine (add_elem_spec (Osxs3.out.rd.mono Osxs3.out.2.2) (Osys3.out.rd.mono Osys3.out.2.2) (Nat.le_refl _) (by have := Bxs.out; omega) (by have := Bys.out; omega)).mono ?_
  rw [← HR.out]
  rintro e w4 ⟨vW, rfl, ho, hb⟩
  have Z4 : Hid (w3.heap.size ≤ w4.heap.size) := Lib.hid hb.size
  have F4 := Lib.hid (F3.out.trans (hb.mono F3.out.size))
  have Xr4 := Lib.hid (Xr3.out.below hb (by have q0 := Z0.out; have q1 := Z1.out; have q2 := Z2.out; have q3 := Z3.out; have q4 := Z4.out; omega))
  have Rxs4 := Lib.hid (Rxs3.out.below hb F3.out.size)
  have Rys4 := Lib.hid (Rys3.out.below hb F3.out.size)
  have Osxs4 := Lib.hid (Osxs3.out.below hb (Nat.le_refl _))
  have Osys4 := Lib.hid (Osys3.out.below hb (Nat.le_refl _))
  clear hb
  have OW4 := Lib.hid ho
  clear ho
  clear cr0 cr1 cr2
  obtain ⟨cr0, cr1, cr2⟩ := Xr4.out
  go_wp2_with fail
  refine (to_row Rxs4.out F4.out.size (by have := Bxs.out; omega)).mono ?_
  rintro e w5 ⟨vxxs, rfl, ho, hb⟩
  have Z5 : Hid (w4.heap.size ≤ w5.heap.size) := Lib.hid hb.size
  have F5 := Lib.hid (F4.out.trans (hb.mono F4.out.size))
  have Xr5 := Lib.hid (Xr4.out.below hb (by have q0 := Z0.out; have q1 := Z1.out; have q2 := Z2.out; have q3 := Z3.out; have q4 := Z4.out; have q5 := Z5.out; omega))
  have Rxs5 := Lib.hid (Rxs4.out.below hb F4.out.size)
  have Rys5 := Lib.hid (Rys4.out.below hb F4.out.size)
  have OW5 := Lib.hid (OW4.out.below hb (Nat.le_refl _))
  clear hb
  have Oxxs5 := Lib.hid ho
  clear ho
  clear cr0 cr1 cr2
  obtain ⟨cr0, cr1, cr2⟩ := Xr5.out
  go_wp2_with fail
  refine (to_row Rys5.out F5.out.size (by have := Bys.out; omega)).mono ?_
  rintro e w6 ⟨vxys, rfl, ho, hb⟩
  have Z6 : Hid (w5.heap.size ≤ w6.heap.size) := Lib.hid hb.size
  have F6 := Lib.hid (F5.out.trans (hb.mono F5.out.size))
  have Xr6 := Lib.hid (Xr5.out.below hb (by have q0 := Z0.out; have q1 := Z1.out; have q2 := Z2.out; have q3 := Z3.out; have q4 := Z4.out; have q5 := Z5.out; have q6 := Z6.out; omega))
  have Rxs6 := Lib.hid (Rxs5.out.below hb F5.out.size)
  have Rys6 := Lib.hid (Rys5.out.below hb F5.out.size)
  have OW6 := Lib.hid (OW5.out.below hb (Nat.le_refl _))
  have Oxxs6 := Lib.hid (Oxxs5.out.below hb (Nat.le_refl _))
  clear hb
  have Oxys6 := Lib.hid ho
  clear ho
  clear cr0 cr1 cr2
  obtain ⟨cr0, cr1, cr2⟩ := Xr6.out
  go_wp2_with fail
  refine (to_ring rk rp rn _).mono ?_
  rintro e w7 ⟨rfl, hb⟩
  have Z7 : Hid (w6.heap.size ≤ w7.heap.size) := Lib.hid hb.size
  have F7 := Lib.hid (F6.out.trans (hb.mono F6.out.size))
  have Xr7 := Lib.hid (Xr6.out.below hb (by have q0 := Z0.out; have q1 := Z1.out; have q2 := Z2.out; have q3 := Z3.out; have q4 := Z4.out; have q5 := Z5.out; have q6 := Z6.out; have q7 := Z7.out; omega))
  have Rxs7 := Lib.hid (Rxs6.out.below hb F6.out.size)
  have Rys7 := Lib.hid (Rys6.out.below hb F6.out.size)
  have OW7 := Lib.hid (OW6.out.below hb (Nat.le_refl _))
  have Oxxs7 := Lib.hid (Oxxs6.out.below hb (Nat.le_refl _))
  have Oxys7 := Lib.hid (Oxys6.out.below hb (Nat.le_refl _))
  clear hb
  clear cr0 cr1 cr2
  obtain ⟨cr0, cr1, cr2⟩ := Xr7.out
  go_wp2_with fail
  refine (add_elem_impl (Oxxs7.out.rd.mono Oxxs7.out.2.2) (Oxys7.out.rd.mono Oxys7.out.2.2) (Nat.le_refl _) (by have := Bxs.out; omega) (by have := Bys.out; omega)).mono ?_
  rw [← HR.out]
  rintro e w8 ⟨vG, rfl, ho, hb⟩
  have Z8 : Hid (w7.heap.size ≤ w8.heap.size) := Lib.hid hb.size
  have F8 := Lib.hid (F7.out.trans (hb.mono F7.out.size))
  have Xr8 := Lib.hid (Xr7.out.below hb (by have q0 := Z0.out; have q1 := Z1.out; have q2 := Z2.out; have q3 := Z3.out; have q4 := Z4.out; have q5 := Z5.out; have q6 := Z6.out; have q7 := Z7.out; have q8 := Z8.out; omega))
  have Rxs8 := Lib.hid (Rxs7.out.below hb F7.out.size)
  have Rys8 := Lib.hid (Rys7.out.below hb F7.out.size)
  have OW8 := Lib.hid (OW7.out.below hb (Nat.le_refl _))
  have Oxxs8 := Lib.hid (Oxxs7.out.below hb (Nat.le_refl _))
  have Oxys8 := Lib.hid (Oxys7.out.below hb (Nat.le_refl _))
  clear hb
  have OG8 := Lib.hid ho
  clear ho
  clear cr0 cr1 cr2
  obtain ⟨cr0, cr1, cr2⟩ := Xr8.out
  go_wp2_with fail
  refine (eq_rows OG8.out.rd OW8.out.rd rfl (by have := HL.out; omega)).mono ?_
  rintro e w9 ⟨rfl, hb⟩
  have Z9 : Hid (w8.heap.size ≤ w9.heap.size) := Lib.hid hb.size
  have F9 := Lib.hid (F8.out.trans (hb.mono F8.out.size))
  have Xr9 := Lib.hid (Xr8.out.below hb (by have q0 := Z0.out; have q1 := Z1.out; have q2 := Z2.out; have q3 := Z3.out; have q4 := Z4.out; have q5 := Z5.out; have q6 := Z6.out; have q7 := Z7.out; have q8 := Z8.out; have q9 := Z9.out; omega))
  have Rxs9 := Lib.hid (Rxs8.out.below hb F8.out.size)
  have Rys9 := Lib.hid (Rys8.out.below hb F8.out.size)
  have OW9 := Lib.hid (OW8.out.below hb (Nat.le_refl _))
  have Oxxs9 := Lib.hid (Oxxs8.out.below hb (Nat.le_refl _))
  have Oxys9 := Lib.hid (Oxys8.out.below hb (Nat.le_refl _))
  have OG9 := Lib.hid (OG8.out.below hb (Nat.le_refl _))
  clear hb
  clear cr0 cr1 cr2
  obtain ⟨cr0, cr1, cr2⟩ := Xr9.out
  go_wp2_with fail
  refine (to_row Rxs9.out F9.out.size (by have := Bxs.out; omega)).mono ?_
  rintro e w10 ⟨vtxs, rfl, ho, hb⟩
  have Z10 : Hid (w9.heap.size ≤ w10.heap.size) := Lib.hid hb.size
  have F10 := Lib.hid (F9.out.trans (hb.mono F9.out.size))
  have Xr10 := Lib.hid (Xr9.out.below hb (by have q0 := Z0.out; have q1 := Z1.out; have q2 := Z2.out; have q3 := Z3.out; have q4 := Z4.out; have q5 := Z5.out; have q6 := Z6.out; have q7 := Z7.out; have q8 := Z8.out; have q9 := Z9.out; have q10 := Z10.out; omega))
  have Rxs10 := Lib.hid (Rxs9.out.below hb F9.out.size)
  have Rys10 := Lib.hid (Rys9.out.below hb F9.out.size)
  have OW10 := Lib.hid (OW9.out.below hb (Nat.le_refl _))
  have Oxxs10 := Lib.hid (Oxxs9.out.below hb (Nat.le_refl _))
  have Oxys10 := Lib.hid (Oxys9.out.below hb (Nat.le_refl _))
  have OG10 := Lib.hid (OG9.out.below hb (Nat.le_refl _))
  clear hb
  have Otxs10 := Lib.hid ho
  clear ho
  clear cr0 cr1 cr2
  obtain ⟨cr0, cr1, cr2⟩ := Xr10.out
  go_wp2_with fail
  refine (eq_rows Oxxs10.out.rd Otxs10.out.rd rfl (by have := Bxs.out; omega)).mono ?_
  rintro e w11 ⟨rfl, hb⟩
  have Z11 : Hid (w10.heap.size ≤ w11.heap.size) := Lib.hid hb.size
  have F11 := Lib.hid (F10.out.trans (hb.mono F10.out.size))
  have Xr11 := Lib.hid (Xr10.out.below hb (by have q0 := Z0.out; have q1 := Z1.out; have q2 := Z2.out; have q3 := Z3.out; have q4 := Z4.out; have q5 := Z5.out; have q6 := Z6.out; have q7 := Z7.out; have q8 := Z8.out; have q9 := Z9.out; have q10 := Z10.out; have q11 := Z11.out; omega))
  have Rxs11 := Lib.hid (Rxs10.out.below hb F10.out.size)
  have Rys11 := Lib.hid (Rys10.out.below hb F10.out.size)
  have OW11 := Lib.hid (OW10.out.below hb (Nat.le_refl _))
  have Oxxs11 := Lib.hid (Oxxs10.out.below hb (Nat.le_refl _))
  have Oxys11 := Lib.hid (Oxys10.out.below hb (Nat.le_refl _))
  have OG11 := Lib.hid (OG10.out.below hb (Nat.le_refl _))
  have Otxs11 := Lib.hid (Otxs10.out.below hb (Nat.le_refl _))
  clear hb
  clear cr0 cr1 cr2
  obtain ⟨cr0, cr1, cr2⟩ := Xr11.out
  go_wp2_with fail
  refine (to_row Rys11.out F11.out.size (by have := Bys.out; omega)).mono ?_
  rintro e w12 ⟨vtys, rfl, ho, hb⟩
  have Z12 : Hid (w11.heap.size ≤ w12.heap.size) := Lib.hid hb.size
  have F12 := Lib.hid (F11.out.trans (hb.mono F11.out.size))
  have Xr12 := Lib.hid (Xr11.out.below hb (by have q0 := Z0.out; have q1 := Z1.out; have q2 := Z2.out; have q3 := Z3.out; have q4 := Z4.out; have q5 := Z5.out; have q6 := Z6.out; have q7 := Z7.out; have q8 := Z8.out; have q9 := Z9.out; have q10 := Z10.out; have q11 := Z11.out; have q12 := Z12.out; omega))
  have Rxs12 := Lib.hid (Rxs11.out.below hb F11.out.size)
  have Rys12 := Lib.hid (Rys11.out.below hb F11.out.size)
  have OW12 := Lib.hid (OW11.out.below hb (Nat.le_refl _))
  have Oxxs12 := Lib.hid (Oxxs11.out.below hb (Nat.le_refl _))
  have Oxys12 := Lib.hid (Oxys11.out.below hb (Nat.le_refl _))
  have OG12 := Lib.hid (OG11.out.below hb (Nat.le_refl _))
  clear hb
  have Otys12 := Lib.hid ho
  clear ho
  clear cr0 cr1 cr2
  obtain ⟨cr0, cr1, cr2⟩ := Xr12.out
  go_wp2_with fail
  refine (eq_rows Oxys12.out.rd Otys12.out.rd rfl (by have := Bys.out; omega)).mono ?_
  rintro e w13 ⟨rfl, hb⟩
  have Z13 : Hid (w12.heap.size ≤ w13.heap.size) := Lib.hid hb.size
  have F13 := Lib.hid (F12.out.trans (hb.mono F12.out.size))
  have Xr13 := Lib.hid (Xr12.out.below hb (by have q0 := Z0.out; have q1 := Z1.out; have q2 := Z2.out; have q3 := Z3.out; have q4 := Z4.out; have q5 := Z5.out; have q6 := Z6.out; have q7 := Z7.out; have q8 := Z8.out; have q9 := Z9.out; have q10 := Z10.out; have q11 := Z11.out; have q12 := Z12.out; have q13 := Z13.out; omega))
  have Rxs13 := Lib.hid (Rxs12.out.below hb F12.out.size)
  have Rys13 := Lib.hid (Rys12.out.below hb F12.out.size)
  have OW13 := Lib.hid (OW12.out.below hb (Nat.le_refl _))
  have Oxxs13 := Lib.hid (Oxxs12.out.below hb (Nat.le_refl _))
  have Oxys13 := Lib.hid (Oxys12.out.below hb (Nat.le_refl _))
  have OG13 := Lib.hid (OG12.out.below hb (Nat.le_refl _))
  have Otys13 := Lib.hid (Otys12.out.below hb (Nat.le_refl _))
  clear hb
  obtain ⟨m0, hm⟩ : ∃ m : Nat, m = 1 + xs.length := ⟨_, rfl⟩
  have M0 : Hid (m0 = 1 + xs.length) := Lib.hid hm
  have m0b : m0 ≤ 1048577 := by have := Bxs.out; omega
  clear hm
  clear cr0 cr1 cr2
  obtain ⟨cr0, cr1, cr2⟩ := Xr13.out
  go_wp2_with fail
  refine (marks_from 1 rfl Oxxs13.out (by have := Bxs.out; omega) (by omega)).mono ?_
  rw [← M0.out]
  rintro e w14 ⟨rfl, ho, hg⟩
  have Z14 : Hid (w13.heap.size ≤ w14.heap.size) := Lib.hid hg.size
  have G : ∀ g, _ = some g → _ := Oxxs13.out.lo
  have G2 := Oxxs13.out.2.1
  have F14 := Lib.hid (F13.out.grown hg F13.out.size (fun g eg => by have := G g eg; have q0 := Z0.out; have q1 := Z1.out; have q2 := Z2.out; have q3 := Z3.out; have q4 := Z4.out; have q5 := Z5.out; have q6 := Z6.out; have q7 := Z7.out; have q8 := Z8.out; have q9 := Z9.out; have q10 := Z10.out; have q11 := Z11.out; have q12 := Z12.out; have q13 := Z13.out; omega))
  have Xr14 := Lib.hid (Xr13.out.grown hg (by have q0 := Z0.out; have q1 := Z1.out; have q2 := Z2.out; have q3 := Z3.out; have q4 := Z4.out; have q5 := Z5.out; have q6 := Z6.out; have q7 := Z7.out; have q8 := Z8.out; have q9 := Z9.out; have q10 := Z10.out; have q11 := Z11.out; have q12 := Z12.out; have q13 := Z13.out; omega) (fun g eg => by have := G g eg; have q0 := Z0.out; have q1 := Z1.out; have q2 := Z2.out; have q3 := Z3.out; have q4 := Z4.out; have q5 := Z5.out; have q6 := Z6.out; have q7 := Z7.out; have q8 := Z8.out; have q9 := Z9.out; have q10 := Z10.out; have q11 := Z11.out; have q12 := Z12.out; have q13 := Z13.out; omega))
  have Rxs14 := Lib.hid (Rxs13.out.kept hg F13.out.size (fun g eg => by have := G g eg; have q0 := Z0.out; have q1 := Z1.out; have q2 := Z2.out; have q3 := Z3.out; have q4 := Z4.out; have q5 := Z5.out; have q6 := Z6.out; have q7 := Z7.out; have q8 := Z8.out; have q9 := Z9.out; have q10 := Z10.out; have q11 := Z11.out; have q12 := Z12.out; have q13 := Z13.out; omega))
  have Rys14 := Lib.hid (Rys13.out.kept hg F13.out.size (fun g eg => by have := G g eg; have q0 := Z0.out; have q1 := Z1.out; have q2 := Z2.out; have q3 := Z3.out; have q4 := Z4.out; have q5 := Z5.out; have q6 := Z6.out; have q7 := Z7.out; have q8 := Z8.out; have q9 := Z9.out; have q10 := Z10.out; have q11 := Z11.out; have q12 := Z12.out; have q13 := Z13.out; omega))
  have OW14 := Lib.hid (OW13.out.kept hg (fun g eg => by have := G g eg; have := G2 g eg; have q0 := Z0.out; have q1 := Z1.out; have q2 := Z2.out; have q3 := Z3.out; have q4 := Z4.out; have q5 := Z5.out; have q6 := Z6.out; have q7 := Z7.out; have q8 := Z8.out; have q9 := Z9.out; have q10 := Z10.out; have q11 := Z11.out; have q12 := Z12.out; have q13 := Z13.out; omega))
  have Oxys14 := Lib.hid (Oxys13.out.kept hg (fun g eg => by have := G g eg; have := G2 g eg; have q0 := Z0.out; have q1 := Z1.out; have q2 := Z2.out; have q3 := Z3.out; have q4 := Z4.out; have q5 := Z5.out; have q6 := Z6.out; have q7 := Z7.out; have q8 := Z8.out; have q9 := Z9.out; have q10 := Z10.out; have q11 := Z11.out; have q12 := Z12.out; have q13 := Z13.out; omega))
  have OG14 := Lib.hid (OG13.out.kept hg (fun g eg => by have := G g eg; have := G2 g eg; have q0 := Z0.out; have q1 := Z1.out; have q2 := Z2.out; have q3 := Z3.out; have q4 := Z4.out; have q5 := Z5.out; have q6 := Z6.out; have q7 := Z7.out; have q8 := Z8.out; have q9 := Z9.out; have q10 := Z10.out; have q11 := Z11.out; have q12 := Z12.out; have q13 := Z13.out; omega))
  have Oxxs14 := Lib.hid ho
  clear hg ho G G2
  obtain ⟨m1, hm⟩ : ∃ m : Nat, m = m0 + ys.length := ⟨_, rfl⟩
  have M1 : Hid (m1 = m0 + ys.length) := Lib.hid hm
  have m1b : m1 ≤ 2097153 := by have := Bys.out; omega
  clear hm
  clear cr0 cr1 cr2
  obtain ⟨cr0, cr1, cr2⟩ := Xr14.out
  go_wp2_with fail
  refine (marks_from m0 rfl Oxys14.out (by have := Bys.out; omega) (by omega)).mono ?_
  rw [← M1.out]
  rintro e w15 ⟨rfl, ho, hg⟩
  have Z15 : Hid (w14.heap.size ≤ w15.heap.size) := Lib.hid hg.size
  have G : ∀ g, _ = some g → _ := Oxys14.out.lo
  have G2 := Oxys14.out.2.1
  have F15 := Lib.hid (F14.out.grown hg F14.out.size (fun g eg => by have := G g eg; have q0 := Z0.out; have q1 := Z1.out; have q2 := Z2.out; have q3 := Z3.out; have q4 := Z4.out; have q5 := Z5.out; have q6 := Z6.out; have q7 := Z7.out; have q8 := Z8.out; have q9 := Z9.out; have q10 := Z10.out; have q11 := Z11.out; have q12 := Z12.out; have q13 := Z13.out; have q14 := Z14.out; omega))
  have Xr15 := Lib.hid (Xr14.out.grown hg (by have q0 := Z0.out; have q1 := Z1.out; have q2 := Z2.out; have q3 := Z3.out; have q4 := Z4.out; have q5 := Z5.out; have q6 := Z6.out; have q7 := Z7.out; have q8 := Z8.out; have q9 := Z9.out; have q10 := Z10.out; have q11 := Z11.out; have q12 := Z12.out; have q13 := Z13.out; have q14 := Z14.out; omega) (fun g eg => by have := G g eg; have q0 := Z0.out; have q1 := Z1.out; have q2 := Z2.out; have q3 := Z3.out; have q4 := Z4.out; have q5 := Z5.out; have q6 := Z6.out; have q7 := Z7.out; have q8 := Z8.out; have q9 := Z9.out; have q10 := Z10.out; have q11 := Z11.out; have q12 := Z12.out; have q13 := Z13.out; have q14 := Z14.out; omega))
  have Rxs15 := Lib.hid (Rxs14.out.kept hg F14.out.size (fun g eg => by have := G g eg; have q0 := Z0.out; have q1 := Z1.out; have q2 := Z2.out; have q3 := Z3.out; have q4 := Z4.out; have q5 := Z5.out; have q6 := Z6.out; have q7 := Z7.out; have q8 := Z8.out; have q9 := Z9.out; have q10 := Z10.out; have q11 := Z11.out; have q12 := Z12.out; have q13 := Z13.out; have q14 := Z14.out; omega))
  have Rys15 := Lib.hid (Rys14.out.kept hg F14.out.size (fun g eg => by have := G g eg; have q0 := Z0.out; have q1 := Z1.out; have q2 := Z2.out; have q3 := Z3.out; have q4 := Z4.out; have q5 := Z5.out; have q6 := Z6.out; have q7 := Z7.out; have q8 := Z8.out; have q9 := Z9.out; have q10 := Z10.out; have q11 := Z11.out; have q12 := Z12.out; have q13 := Z13.out; have q14 := Z14.out; omega))
  have OW15 := Lib.hid (OW14.out.kept hg (fun g eg => by have := G g eg; have := G2 g eg; have q0 := Z0.out; have q1 := Z1.out; have q2 := Z2.out; have q3 := Z3.out; have q4 := Z4.out; have q5 := Z5.out; have q6 := Z6.out; have q7 := Z7.out; have q8 := Z8.out; have q9 := Z9.out; have q10 := Z10.out; have q11 := Z11.out; have q12 := Z12.out; have q13 := Z13.out; have q14 := Z14.out; omega))
  have Oxxs15 := Lib.hid (Oxxs14.out.kept hg (fun g eg => by have := G g eg; have := G2 g eg; have q0 := Z0.out; have q1 := Z1.out; have q2 := Z2.out; have q3 := Z3.out; have q4 := Z4.out; have q5 := Z5.out; have q6 := Z6.out; have q7 := Z7.out; have q8 := Z8.out; have q9 := Z9.out; have q10 := Z10.out; have q11 := Z11.out; have q12 := Z12.out; have q13 := Z13.out; have q14 := Z14.out; omega))
  have OG15 := Lib.hid (OG14.out.kept hg (fun g eg => by have := G g eg; have := G2 g eg; have q0 := Z0.out; have q1 := Z1.out; have q2 := Z2.out; have q3 := Z3.out; have q4 := Z4.out; have q5 := Z5.out; have q6 := Z6.out; have q7 := Z7.out; have q8 := Z8.out; have q9 := Z9.out; have q10 := Z10.out; have q11 := Z11.out; have q12 := Z12.out; have q13 := Z13.out; have q14 := Z14.out; omega))
  have Oxys15 := Lib.hid ho
  clear hg ho G G2
  clear cr0 cr1 cr2
  obtain ⟨cr0, cr1, cr2⟩ := Xr15.out
  go_wp2_with fail
  refine (eq_rows OG15.out.rd OW15.out.rd rfl (by have := HL.out; omega)).mono ?_
  rintro e w16 ⟨rfl, hb⟩
  have Z16 : Hid (w15.heap.size ≤ w16.heap.size) := Lib.hid hb.size
  have F16 := Lib.hid (F15.out.trans (hb.mono F15.out.size))
  have Xr16 := Lib.hid (Xr15.out.below hb (by have q0 := Z0.out; have q1 := Z1.out; have q2 := Z2.out; have q3 := Z3.out; have q4 := Z4.out; have q5 := Z5.out; have q6 := Z6.out; have q7 := Z7.out; have q8 := Z8.out; have q9 := Z9.out; have q10 := Z10.out; have q11 := Z11.out; have q12 := Z12.out; have q13 := Z13.out; have q14 := Z14.out; have q15 := Z15.out; have q16 := Z16.out; omega))
  have Rxs16 := Lib.hid (Rxs15.out.below hb F15.out.size)
  have Rys16 := Lib.hid (Rys15.out.below hb F15.out.size)
  have OW16 := Lib.hid (OW15.out.below hb (Nat.le_refl _))
  have Oxxs16 := Lib.hid (Oxxs15.out.below hb (Nat.le_refl _))
  have Oxys16 := Lib.hid (Oxys15.out.below hb (Nat.le_refl _))
  have OG16 := Lib.hid (OG15.out.below hb (Nat.le_refl _))
  clear hb
  obtain ⟨mg, hm⟩ : ∃ m : Nat, m = 1 + R.length := ⟨_, rfl⟩
  have MG : Hid (mg = 1 + R.length) := Lib.hid hm
  have mgb : mg ≤ 17592186044417 := by have := HL.out; omega
  clear hm
  clear cr0 cr1 cr2
  obtain ⟨cr0, cr1, cr2⟩ := Xr16.out
  go_wp2_with fail
  refine (marks_from 1 rfl OG16.out (by have := HL.out; omega) (by omega)).mono ?_
  rw [← MG.out]
  rintro e w17 ⟨rfl, ho, hg⟩
  have Z17 : Hid (w16.heap.size ≤ w17.heap.size) := Lib.hid hg.size
  have G : ∀ g, _ = some g → _ := OG16.out.lo
  have G2 := OG16.out.2.1
  have F17 := Lib.hid (F16.out.grown hg F16.out.size (fun g eg => by have := G g eg; have q0 := Z0.out; have q1 := Z1.out; have q2 := Z2.out; have q3 := Z3.out; have q4 := Z4.out; have q5 := Z5.out; have q6 := Z6.out; have q7 := Z7.out; have q8 := Z8.out; have q9 := Z9.out; have q10 := Z10.out; have q11 := Z11.out; have q12 := Z12.out; have q13 := Z13.out; have q14 := Z14.out; have q15 := Z15.out; have q16 := Z16.out; omega))
  have Xr17 := Lib.hid (Xr16.out.grown hg (by have q0 := Z0.out; have q1 := Z1.out; have q2 := Z2.out; have q3 := Z3.out; have q4 := Z4.out; have q5 := Z5.out; have q6 := Z6.out; have q7 := Z7.out; have q8 := Z8.out; have q9 := Z9.out; have q10 := Z10.out; have q11 := Z11.out; have q12 := Z12.out; have q13 := Z13.out; have q14 := Z14.out; have q15 := Z15.out; have q16 := Z16.out; omega) (fun g eg => by have := G g eg; have q0 := Z0.out; have q1 := Z1.out; have q2 := Z2.out; have q3 := Z3.out; have q4 := Z4.out; have q5 := Z5.out; have q6 := Z6.out; have q7 := Z7.out; have q8 := Z8.out; have q9 := Z9.out; have q10 := Z10.out; have q11 := Z11.out; have q12 := Z12.out; have q13 := Z13.out; have q14 := Z14.out; have q15 := Z15.out; have q16 := Z16.out; omega))
  have Rxs17 := Lib.hid (Rxs16.out.kept hg F16.out.size (fun g eg => by have := G g eg; have q0 := Z0.out; have q1 := Z1.out; have q2 := Z2.out; have q3 := Z3.out; have q4 := Z4.out; have q5 := Z5.out; have q6 := Z6.out; have q7 := Z7.out; have q8 := Z8.out; have q9 := Z9.out; have q10 := Z10.out; have q11 := Z11.out; have q12 := Z12.out; have q13 := Z13.out; have q14 := Z14.out; have q15 := Z15.out; have q16 := Z16.out; omega))
  have Rys17 := Lib.hid (Rys16.out.kept hg F16.out.size (fun g eg => by have := G g eg; have q0 := Z0.out; have q1 := Z1.out; have q2 := Z2.out; have q3 := Z3.out; have q4 := Z4.out; have q5 := Z5.out; have q6 := Z6.out; have q7 := Z7.out; have q8 := Z8.out; have q9 := Z9.out; have q10 := Z10.out; have q11 := Z11.out; have q12 := Z12.out; have q13 := Z13.out; have q14 := Z14.out; have q15 := Z15.out; have q16 := Z16.out; omega))
  have OW17 := Lib.hid (OW16.out.kept hg (fun g eg => by have := G g eg; have := G2 g eg; have q0 := Z0.out; have q1 := Z1.out; have q2 := Z2.out; have q3 := Z3.out; have q4 := Z4.out; have q5 := Z5.out; have q6 := Z6.out; have q7 := Z7.out; have q8 := Z8.out; have q9 := Z9.out; have q10 := Z10.out; have q11 := Z11.out; have q12 := Z12.out; have q13 := Z13.out; have q14 := Z14.out; have q15 := Z15.out; have q16 := Z16.out; omega))
  have OG17 := Lib.hid ho
  clear hg ho G G2
  clear cr0 cr1 cr2
  obtain ⟨cr0, cr1, cr2⟩ := Xr17.out
  go_wp2_with fail
  refine (helds_from 1 rfl OG17.out.rd (by have := HL.out; omega) (by omega)).mono ?_
  rw [← MG.out]
  rintro e w18 ⟨rfl, rfl⟩
  clear cr0 cr1 cr2
  obtain ⟨cr0, cr1, cr2⟩ := Xr17.out
  go_wp2_with fail
  refine (to_ring rk rp rn _).mono ?_
  rintro e w18 ⟨rfl, hb⟩
  have Z18 : Hid (w17.heap.size ≤ w18.heap.size) := Lib.hid hb.size
  have F18 := Lib.hid (F17.out.trans (hb.mono F17.out.size))
  have Xr18 := Lib.hid (Xr17.out.below hb (by have q0 := Z0.out; have q1 := Z1.out; have q2 := Z2.out; have q3 := Z3.out; have q4 := Z4.out; have q5 := Z5.out; have q6 := Z6.out; have q7 := Z7.out; have q8 := Z8.out; have q9 := Z9.out; have q10 := Z10.out; have q11 := Z11.out; have q12 := Z12.out; have q13 := Z13.out; have q14 := Z14.out; have q15 := Z15.out; have q16 := Z16.out; have q17 := Z17.out; have q18 := Z18.out; omega))
  have Rxs18 := Lib.hid (Rxs17.out.below hb F17.out.size)
  have Rys18 := Lib.hid (Rys17.out.below hb F17.out.size)
  have OW18 := Lib.hid (OW17.out.below hb (Nat.le_refl _))
  have OG18 := Lib.hid (OG17.out.below hb (Nat.le_refl _))
  clear hb
  clear cr0 cr1 cr2
  obtain ⟨cr0, cr1, cr2⟩ := Xr18.out
  go_wp2_with fail
  refine (to_row Rxs18.out F18.out.size (by have := Bxs.out; omega)).mono ?_
  rintro e w19 ⟨vhxs, rfl, ho, hb⟩
  have Z19 : Hid (w18.heap.size ≤ w19.heap.size) := Lib.hid hb.size
  have F19 := Lib.hid (F18.out.trans (hb.mono F18.out.size))
  have Xr19 := Lib.hid (Xr18.out.below hb (by have q0 := Z0.out; have q1 := Z1.out; have q2 := Z2.out; have q3 := Z3.out; have q4 := Z4.out; have q5 := Z5.out; have q6 := Z6.out; have q7 := Z7.out; have q8 := Z8.out; have q9 := Z9.out; have q10 := Z10.out; have q11 := Z11.out; have q12 := Z12.out; have q13 := Z13.out; have q14 := Z14.out; have q15 := Z15.out; have q16 := Z16.out; have q17 := Z17.out; have q18 := Z18.out; have q19 := Z19.out; omega))
  have Rxs19 := Lib.hid (Rxs18.out.below hb F18.out.size)
  have Rys19 := Lib.hid (Rys18.out.below hb F18.out.size)
  have OW19 := Lib.hid (OW18.out.below hb (Nat.le_refl _))
  have OG19 := Lib.hid (OG18.out.below hb (Nat.le_refl _))
  clear hb
  have Ohxs19 := Lib.hid ho
  clear ho
  clear cr0 cr1 cr2
  obtain ⟨cr0, cr1, cr2⟩ := Xr19.out
  go_wp2_with fail
  refine (to_row Rys19.out F19.out.size (by have := Bys.out; omega)).mono ?_
  rintro e w20 ⟨vhys, rfl, ho, hb⟩
  have Z20 : Hid (w19.heap.size ≤ w20.heap.size) := Lib.hid hb.size
  have F20 := Lib.hid (F19.out.trans (hb.mono F19.out.size))
  have Xr20 := Lib.hid (Xr19.out.below hb (by have q0 := Z0.out; have q1 := Z1.out; have q2 := Z2.out; have q3 := Z3.out; have q4 := Z4.out; have q5 := Z5.out; have q6 := Z6.out; have q7 := Z7.out; have q8 := Z8.out; have q9 := Z9.out; have q10 := Z10.out; have q11 := Z11.out; have q12 := Z12.out; have q13 := Z13.out; have q14 := Z14.out; have q15 := Z15.out; have q16 := Z16.out; have q17 := Z17.out; have q18 := Z18.out; have q19 := Z19.out; have q20 := Z20.out; omega))
  have Rxs20 := Lib.hid (Rxs19.out.below hb F19.out.size)
  have Rys20 := Lib.hid (Rys19.out.below hb F19.out.size)
  have OW20 := Lib.hid (OW19.out.below hb (Nat.le_refl _))
  have OG20 := Lib.hid (OG19.out.below hb (Nat.le_refl _))
  have Ohxs20 := Lib.hid (Ohxs19.out.below hb (Nat.le_refl _))
  clear hb
  have Ohys20 := Lib.hid ho
  clear ho
  clear cr0 cr1 cr2
  obtain ⟨cr0, cr1, cr2⟩ := Xr20.out
  go_wp2_with fail
  refine (add_elem_impl (Ohxs20.out.rd.mono Ohxs20.out.2.2) (Ohys20.out.rd.mono Ohys20.out.2.2) (Nat.le_refl _) (by have := Bxs.out; omega) (by have := Bys.out; omega)).mono ?_
  rw [← HR.out]
  rintro e w21 ⟨vH, rfl, ho, hb⟩
  have Z21 : Hid (w20.heap.size ≤ w21.heap.size) := Lib.hid hb.size
  have F21 := Lib.hid (F20.out.trans (hb.mono F20.out.size))
  have Xr21 := Lib.hid (Xr20.out.below hb (by have q0 := Z0.out; have q1 := Z1.out; have q2 := Z2.out; have q3 := Z3.out; have q4 := Z4.out; have q5 := Z5.out; have q6 := Z6.out; have q7 := Z7.out; have q8 := Z8.out; have q9 := Z9.out; have q10 := Z10.out; have q11 := Z11.out; have q12 := Z12.out; have q13 := Z13.out; have q14 := Z14.out; have q15 := Z15.out; have q16 := Z16.out; have q17 := Z17.out; have q18 := Z18.out; have q19 := Z19.out; have q20 := Z20.out; have q21 := Z21.out; omega))
  have Rxs21 := Lib.hid (Rxs20.out.below hb F20.out.size)
  have Rys21 := Lib.hid (Rys20.out.below hb F20.out.size)
  have OW21 := Lib.hid (OW20.out.below hb (Nat.le_refl _))
  have OG21 := Lib.hid (OG20.out.below hb (Nat.le_refl _))
  have Ohxs21 := Lib.hid (Ohxs20.out.below hb (Nat.le_refl _))
  have Ohys21 := Lib.hid (Ohys20.out.below hb (Nat.le_refl _))
  clear hb
  have OH21 := Lib.hid ho
  clear ho
  clear cr0 cr1 cr2
  obtain ⟨cr0, cr1, cr2⟩ := Xr21.out
  go_wp2_with fail
  refine (eq_rows OH21.out.rd OW21.out.rd rfl (by have := HL.out; omega)).mono ?_
  rintro e w22 ⟨rfl, hb⟩
  have Z22 : Hid (w21.heap.size ≤ w22.heap.size) := Lib.hid hb.size
  have F22 := Lib.hid (F21.out.trans (hb.mono F21.out.size))
  have Xr22 := Lib.hid (Xr21.out.below hb (by have q0 := Z0.out; have q1 := Z1.out; have q2 := Z2.out; have q3 := Z3.out; have q4 := Z4.out; have q5 := Z5.out; have q6 := Z6.out; have q7 := Z7.out; have q8 := Z8.out; have q9 := Z9.out; have q10 := Z10.out; have q11 := Z11.out; have q12 := Z12.out; have q13 := Z13.out; have q14 := Z14.out; have q15 := Z15.out; have q16 := Z16.out; have q17 := Z17.out; have q18 := Z18.out; have q19 := Z19.out; have q20 := Z20.out; have q21 := Z21.out; have q22 := Z22.out; omega))
  have Rxs22 := Lib.hid (Rxs21.out.below hb F21.out.size)
  have Rys22 := Lib.hid (Rys21.out.below hb F21.out.size)
  have OW22 := Lib.hid (OW21.out.below hb (Nat.le_refl _))
  have OG22 := Lib.hid (OG21.out.below hb (Nat.le_refl _))
  have OH22 := Lib.hid (OH21.out.below hb (Nat.le_refl _))
  clear hb
  clear cr0 cr1 cr2
  obtain ⟨cr0, cr1, cr2⟩ := Xr22.out
  go_wp2_with fail
  refine (helds_from 1 rfl OG22.out.rd (by have := HL.out; omega) (by omega)).mono ?_
  rw [← MG.out]
  rintro e w23 ⟨rfl, rfl⟩
  clear cr0 cr1 cr2
  go_wp2
  go_ret
  exact ⟨rfl, F22.out⟩

theorem law_add_elem (rk rp rn : Int) {vxs : Value} {vys : Value} (w : World) {xs : List Int} (hxs : Rd w.heap.size w vxs (ints xs)) (lxs : xs.length ≤ 281474976710656) {ys : List Int} (hys : Rd w.heap.size w vys (ints ys)) (lys : ys.length ≤ 281474976710656)  :
    Calls Try.prog 11 #[ringV rk rp rn, vxs, vys] w fun e w' => e = .returned (.bool true) ∧ Below w.heap.size w w' := by
  obtain ⟨axs, cxs, rfl, -⟩ := ints_form hxs
  obtain ⟨ays, cys, rfl, -⟩ := ints_form hys
  by_cases sxs : xs.length ≤ 1048576
  case neg => exact law_add_elem_big0 rk rp rn axs _ cxs ays _ cys w  (by omega) lxs
  by_cases sys : ys.length ≤ 1048576
  case neg => exact law_add_elem_big1 rk rp rn axs _ cxs ays _ cys w sxs (by omega) lys
  exact law_add_elem_small rk rp rn axs _ cxs ays _ cys w xs (Lib.hid rfl) sxs (Lib.hid hxs) ys (Lib.hid rfl) sys (Lib.hid hys) 
end Go.Proofs.Ytfdjlahaiogabab
