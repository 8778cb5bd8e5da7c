
/- The law FnExactSumElems, walked. -/
import Derived.Test.YtfdjlahaiogababSum
import Derived.Test.YtfdjlahaiogababLawKit
import Derived.Test.YtfdjlahaiogababNested2
namespace Go.Proofs.Ytfdjlahaiogabab
set_option maxRecDepth 20000
open Go.RowKit

set_option maxHeartbeats 3200000 in
theorem law_sum_elems_small (rk rp rn : Int) (vl : Value) (w : World) (l : List (List Int)) (Rl : Hid (RdRows w.heap.size w vl l)) (hnl : l.length ≤ 281474976710656) (hll : ∀ xs ∈ l, xs.length ≤ 281474976710656)  :
    Calls Try.prog 12 #[ringV rk rp rn, vl] w fun e w' => e = .returned (.bool true) ∧ Below w.heap.size w w' := by
  obtain ⟨R, hR⟩ : ∃ R : List Int, R = sumElemsL rk rp rn l := ⟨_, rfl⟩
  have HNl := Lib.hid hnl
  have HLl := Lib.hid hll
  clear hnl hll
  have HR := Lib.hid hR
  clear hR
  have F0 : Hid (Below w.heap.size w (w.alloc (.cells #[.int .i64 rk, .int .i64 rp, .int .i64 rn] 23))) := Lib.hid ((Below.refl _ _).alloc (Nat.le_refl _) _)
  have Xr0 : Hid (BoxAt (w.alloc (.cells #[.int .i64 rk, .int .i64 rp, .int .i64 rn] 23)) w.heap.size rk rp rn) := Lib.hid (BoxAt.new w rk rp rn 23)
  have Rl0 : Hid (RdRows w.heap.size (w.alloc (.cells #[.int .i64 rk, .int .i64 rp, .int .i64 rn] 23)) vl l) := Lib.hid (Rl.out.below F0.out (Nat.le_refl _))
  have HL : Hid (R.length ≤ 17592186044416) := Lib.hid (by rw [HR.out]; exact Nat.le_trans (sumElems_len _ _ _ _) (by omega))
  have Z0 : Hid (w.heap.size + 1 ≤ (w.alloc (.cells #[.int .i64 rk, .int .i64 rp, .int .i64 rn] 23)).heap.size) := Lib.hid (by simp)
  go_enter Try.func12, Try.ntmps12
  obtain ⟨cr0, cr1, cr2⟩ := Xr0.out
  go_wp2_with fail
  refine (sz_rows 1048576 Rl0.out (by omega) (by omega) HNl.out HLl.out).mono ?_
  rintro e wz ⟨r, rfl, rfl, hr1, hr2, hr3⟩
  have HR3 := Lib.hid hr3
  clear hr3
  by_cases hneg : r < 0
  case pos =>
    go_wp2
    go_ret
    exact ⟨rfl, F0.out⟩
  have BT : Hid ((l.length : Int) + totL l ≤ 1048576) := Lib.hid (HR3.out (by omega))
  have BNl : Hid (l.length ≤ 1048576 ∧ ∀ xs ∈ l, xs.length ≤ 17592186044416) := Lib.hid ⟨by have := BT.out; omega, fun xs hx => by
    obtain ⟨i, hi⟩ := List.getElem?_of_mem hx
    have := tot_at hi
    have := BT.out
    omega⟩
  clear cr0 cr1 cr2
  obtain ⟨cr0, cr1, cr2⟩ := Xr0.out
  go_wp2_with fail
  refine (to_ring rk rp rn _).mono ?_
  rintro e w1 ⟨rfl, hb⟩
  have Z1 : Hid ((w.alloc (.cells #[.int .i64 rk, .int .i64 rp, .int .i64 rn] 23)).heap.size ≤ w1.heap.size) := Lib.hid hb.size
  have F1 := Lib.hid (F0.out.trans (hb.mono F0.out.size))
  have Xr1 := Lib.hid (Xr0.out.below hb (by have q0 := Z0.out; have q1 := Z1.out; omega))
  have Rl1 := Lib.hid (Rl0.out.below hb F0.out.size)
  clear hb
  clear cr0 cr1 cr2
  obtain ⟨cr0, cr1, cr2⟩ := Xr1.out
  go_wp2_with fail
  refine (to_nested Rl1.out F1.out.size BNl.out.1 BNl.out.2).mono ?_
  rintro e w2 ⟨vsl, rfl, ho, hb⟩
  have Z2 : Hid (w1.heap.size ≤ w2.heap.size) := Lib.hid hb.size
  have F2 := Lib.hid (F1.out.trans (hb.mono F1.out.size))
  have Xr2 := Lib.hid (Xr1.out.below hb (by have q0 := Z0.out; have q1 := Z1.out; have q2 := Z2.out; omega))
  have Rl2 := Lib.hid (Rl1.out.below hb F1.out.size)
  clear hb
  have Osl2 := Lib.hid ho
  clear ho
  clear cr0 cr1 cr2
  obtain ⟨cr0, cr1, cr2⟩ := Xr2.out
  go_wp2_with fail
  refine (sum_spec (RdRows.mono Osl2.out.rd Osl2.out.hi) (Nat.le_refl _) HNl.out HLl.out).mono ?_
  rw [← HR.out]
  rintro e w3 ⟨vW, rfl, ho, hb⟩
  have Z3 : Hid (w2.heap.size ≤ w3.heap.size) := Lib.hid hb.size
  have F3 := Lib.hid (F2.out.trans (hb.mono F2.out.size))
  have Xr3 := Lib.hid (Xr2.out.below hb (by have q0 := Z0.out; have q1 := Z1.out; have q2 := Z2.out; have q3 := Z3.out; omega))
  have Rl3 := Lib.hid (Rl2.out.below hb F2.out.size)
  have Osl3 := Lib.hid (Osl2.out.below hb)
  clear hb
  have OW3 := Lib.hid ho
  clear ho
  clear cr0 cr1 cr2
  obtain ⟨cr0, cr1, cr2⟩ := Xr3.out
  go_wp2_with fail
  refine (to_nested Rl3.out F3.out.size BNl.out.1 BNl.out.2).mono ?_
  rintro e w4 ⟨vxl, rfl, ho, hb⟩
  have Z4 : Hid (w3.heap.size ≤ w4.heap.size) := Lib.hid hb.size
  have F4 := Lib.hid (F3.out.trans (hb.mono F3.out.size))
  have Xr4 := Lib.hid (Xr3.out.below hb (by have q0 := Z0.out; have q1 := Z1.out; have q2 := Z2.out; have q3 := Z3.out; have q4 := Z4.out; omega))
  have Rl4 := Lib.hid (Rl3.out.below hb F3.out.size)
  have OW4 := Lib.hid (OW3.out.below hb (Nat.le_refl _))
  clear hb
  have Oxl4 := Lib.hid ho
  clear ho
  clear cr0 cr1 cr2
  obtain ⟨cr0, cr1, cr2⟩ := Xr4.out
  go_wp2_with fail
  refine (to_ring rk rp rn _).mono ?_
  rintro e w5 ⟨rfl, hb⟩
  have Z5 : Hid (w4.heap.size ≤ w5.heap.size) := Lib.hid hb.size
  have F5 := Lib.hid (F4.out.trans (hb.mono F4.out.size))
  have Xr5 := Lib.hid (Xr4.out.below hb (by have q0 := Z0.out; have q1 := Z1.out; have q2 := Z2.out; have q3 := Z3.out; have q4 := Z4.out; have q5 := Z5.out; omega))
  have Rl5 := Lib.hid (Rl4.out.below hb F4.out.size)
  have OW5 := Lib.hid (OW4.out.below hb (Nat.le_refl _))
  have Oxl5 := Lib.hid (Oxl4.out.below hb)
  clear hb
  clear cr0 cr1 cr2
  obtain ⟨cr0, cr1, cr2⟩ := Xr5.out
  go_wp2_with fail
  refine (sum_impl (RdRows.mono Oxl5.out.rd Oxl5.out.hi) (Nat.le_refl _) HNl.out HLl.out).mono ?_
  rw [← HR.out]
  rintro e w6 ⟨vG, rfl, ho, hb⟩
  have Z6 : Hid (w5.heap.size ≤ w6.heap.size) := Lib.hid hb.size
  have F6 := Lib.hid (F5.out.trans (hb.mono F5.out.size))
  have Xr6 := Lib.hid (Xr5.out.below hb (by have q0 := Z0.out; have q1 := Z1.out; have q2 := Z2.out; have q3 := Z3.out; have q4 := Z4.out; have q5 := Z5.out; have q6 := Z6.out; omega))
  have Rl6 := Lib.hid (Rl5.out.below hb F5.out.size)
  have OW6 := Lib.hid (OW5.out.below hb (Nat.le_refl _))
  have Oxl6 := Lib.hid (Oxl5.out.below hb)
  clear hb
  have OG6 := Lib.hid ho
  clear ho
  clear cr0 cr1 cr2
  obtain ⟨cr0, cr1, cr2⟩ := Xr6.out
  go_wp2_with fail
  refine (eq_rows OG6.out.rd OW6.out.rd rfl (by have := HL.out; omega)).mono ?_
  rintro e w7 ⟨rfl, hb⟩
  have Z7 : Hid (w6.heap.size ≤ w7.heap.size) := Lib.hid hb.size
  have F7 := Lib.hid (F6.out.trans (hb.mono F6.out.size))
  have Xr7 := Lib.hid (Xr6.out.below hb (by have q0 := Z0.out; have q1 := Z1.out; have q2 := Z2.out; have q3 := Z3.out; have q4 := Z4.out; have q5 := Z5.out; have q6 := Z6.out; have q7 := Z7.out; omega))
  have Rl7 := Lib.hid (Rl6.out.below hb F6.out.size)
  have OW7 := Lib.hid (OW6.out.below hb (Nat.le_refl _))
  have Oxl7 := Lib.hid (Oxl6.out.below hb)
  have OG7 := Lib.hid (OG6.out.below hb (Nat.le_refl _))
  clear hb
  clear cr0 cr1 cr2
  obtain ⟨cr0, cr1, cr2⟩ := Xr7.out
  go_wp2_with fail
  refine (to_nested Rl7.out F7.out.size BNl.out.1 BNl.out.2).mono ?_
  rintro e w8 ⟨vtl, rfl, ho, hb⟩
  have Z8 : Hid (w7.heap.size ≤ w8.heap.size) := Lib.hid hb.size
  have F8 := Lib.hid (F7.out.trans (hb.mono F7.out.size))
  have Xr8 := Lib.hid (Xr7.out.below hb (by have q0 := Z0.out; have q1 := Z1.out; have q2 := Z2.out; have q3 := Z3.out; have q4 := Z4.out; have q5 := Z5.out; have q6 := Z6.out; have q7 := Z7.out; have q8 := Z8.out; omega))
  have Rl8 := Lib.hid (Rl7.out.below hb F7.out.size)
  have OW8 := Lib.hid (OW7.out.below hb (Nat.le_refl _))
  have Oxl8 := Lib.hid (Oxl7.out.below hb)
  have OG8 := Lib.hid (OG7.out.below hb (Nat.le_refl _))
  clear hb
  have Otl8 := Lib.hid ho
  clear ho
  clear cr0 cr1 cr2
  obtain ⟨cr0, cr1, cr2⟩ := Xr8.out
  go_wp2_with fail
  refine (eq_nested Oxl8.out.rd Otl8.out.rd HNl.out HLl.out).mono ?_
  rintro e w9 ⟨rfl, hb⟩
  have Z9 : Hid (w8.heap.size ≤ w9.heap.size) := Lib.hid hb.size
  have F9 := Lib.hid (F8.out.trans (hb.mono F8.out.size))
  have Xr9 := Lib.hid (Xr8.out.below hb (by have q0 := Z0.out; have q1 := Z1.out; have q2 := Z2.out; have q3 := Z3.out; have q4 := Z4.out; have q5 := Z5.out; have q6 := Z6.out; have q7 := Z7.out; have q8 := Z8.out; have q9 := Z9.out; omega))
  have Rl9 := Lib.hid (Rl8.out.below hb F8.out.size)
  have OW9 := Lib.hid (OW8.out.below hb (Nat.le_refl _))
  have Oxl9 := Lib.hid (Oxl8.out.below hb)
  have OG9 := Lib.hid (OG8.out.below hb (Nat.le_refl _))
  have Otl9 := Lib.hid (Otl8.out.below hb)
  clear hb
  obtain ⟨m0, hm⟩ : ∃ m : Nat, m = 1 + totL l := ⟨_, rfl⟩
  have M0 : Hid (m0 = 1 + totL l) := Lib.hid hm
  have m0b : m0 ≤ 1048577 := by have := BT.out; omega
  clear hm
  clear cr0 cr1 cr2
  obtain ⟨cr0, cr1, cr2⟩ := Xr9.out
  go_wp2_with fail
  refine (mark_nested 1 rfl Oxl9.out BNl.out.1 (by have := BT.out; omega) (by omega)).mono ?_
  rintro e w10 ⟨he, ho⟩
  rw [← M0.out] at he
  subst he
  have Z10 : Hid (w9.heap.size ≤ w10.heap.size) := Lib.hid ho.2.2.2.1
  have F10 := Lib.hid (ho.below F9.out (by have q0 := Z0.out; have q1 := Z1.out; have q2 := Z2.out; have q3 := Z3.out; have q4 := Z4.out; have q5 := Z5.out; have q6 := Z6.out; have q7 := Z7.out; have q8 := Z8.out; have q9 := Z9.out; omega) F9.out.size)
  have Xr10 := Lib.hid (ho.box Xr9.out (by have q0 := Z0.out; have q1 := Z1.out; have q2 := Z2.out; have q3 := Z3.out; have q4 := Z4.out; have q5 := Z5.out; have q6 := Z6.out; have q7 := Z7.out; have q8 := Z8.out; have q9 := Z9.out; omega) (.inl (by have q0 := Z0.out; have q1 := Z1.out; have q2 := Z2.out; have q3 := Z3.out; have q4 := Z4.out; have q5 := Z5.out; have q6 := Z6.out; have q7 := Z7.out; have q8 := Z8.out; have q9 := Z9.out; omega)))
  have Rl10 := Lib.hid (ho.rows Rl9.out (by have q0 := Z0.out; have q1 := Z1.out; have q2 := Z2.out; have q3 := Z3.out; have q4 := Z4.out; have q5 := Z5.out; have q6 := Z6.out; have q7 := Z7.out; have q8 := Z8.out; have q9 := Z9.out; omega) F9.out.size)
  have OW10 := Lib.hid (ho.own OW9.out (by have q0 := Z0.out; have q1 := Z1.out; have q2 := Z2.out; have q3 := Z3.out; have q4 := Z4.out; have q5 := Z5.out; have q6 := Z6.out; have q7 := Z7.out; have q8 := Z8.out; have q9 := Z9.out; omega))
  have OG10 := Lib.hid (ho.own OG9.out (by have q0 := Z0.out; have q1 := Z1.out; have q2 := Z2.out; have q3 := Z3.out; have q4 := Z4.out; have q5 := Z5.out; have q6 := Z6.out; have q7 := Z7.out; have q8 := Z8.out; have q9 := Z9.out; omega))
  clear ho
  clear cr0 cr1 cr2
  obtain ⟨cr0, cr1, cr2⟩ := Xr10.out
  go_wp2_with fail
  refine (eq_rows OG10.out.rd OW10.out.rd rfl (by have := HL.out; omega)).mono ?_
  rintro e w11 ⟨rfl, hb⟩
  have Z11 : Hid (w10.heap.size ≤ w11.heap.size) := Lib.hid hb.size
  have F11 := Lib.hid (F10.out.trans (hb.mono F10.out.size))
  have Xr11 := Lib.hid (Xr10.out.below hb (by have q0 := Z0.out; have q1 := Z1.out; have q2 := Z2.out; have q3 := Z3.out; have q4 := Z4.out; have q5 := Z5.out; have q6 := Z6.out; have q7 := Z7.out; have q8 := Z8.out; have q9 := Z9.out; have q10 := Z10.out; have q11 := Z11.out; omega))
  have Rl11 := Lib.hid (Rl10.out.below hb F10.out.size)
  have OW11 := Lib.hid (OW10.out.below hb (Nat.le_refl _))
  have OG11 := Lib.hid (OG10.out.below hb (Nat.le_refl _))
  clear hb
  obtain ⟨mg, hm⟩ : ∃ m : Nat, m = 1 + R.length := ⟨_, rfl⟩
  have MG : Hid (mg = 1 + R.length) := Lib.hid hm
  have mgb : mg ≤ 17592186044417 := by have := HL.out; omega
  clear hm
  clear cr0 cr1 cr2
  obtain ⟨cr0, cr1, cr2⟩ := Xr11.out
  go_wp2_with fail
  refine (marks_from 1 rfl OG11.out (by have := HL.out; omega) (by omega)).mono ?_
  rw [← MG.out]
  rintro e w12 ⟨rfl, ho, hg⟩
  have Z12 : Hid (w11.heap.size ≤ w12.heap.size) := Lib.hid hg.size
  have G : ∀ g, _ = some g → _ := OG11.out.lo
  have G2 := OG11.out.2.1
  have F12 := Lib.hid (F11.out.grown hg F11.out.size (fun g eg => by have := G g eg; have q0 := Z0.out; have q1 := Z1.out; have q2 := Z2.out; have q3 := Z3.out; have q4 := Z4.out; have q5 := Z5.out; have q6 := Z6.out; have q7 := Z7.out; have q8 := Z8.out; have q9 := Z9.out; have q10 := Z10.out; have q11 := Z11.out; omega))
  have Xr12 := Lib.hid (Xr11.out.grown hg (by have q0 := Z0.out; have q1 := Z1.out; have q2 := Z2.out; have q3 := Z3.out; have q4 := Z4.out; have q5 := Z5.out; have q6 := Z6.out; have q7 := Z7.out; have q8 := Z8.out; have q9 := Z9.out; have q10 := Z10.out; have q11 := Z11.out; omega) (fun g eg => by have := G g eg; have q0 := Z0.out; have q1 := Z1.out; have q2 := Z2.out; have q3 := Z3.out; have q4 := Z4.out; have q5 := Z5.out; have q6 := Z6.out; have q7 := Z7.out; have q8 := Z8.out; have q9 := Z9.out; have q10 := Z10.out; have q11 := Z11.out; omega))
  have Rl12 := Lib.hid ((KeptOut.of hg (fun g eg => ⟨G g eg, G2 g eg⟩)).rows Rl11.out (by have q0 := Z0.out; have q1 := Z1.out; have q2 := Z2.out; have q3 := Z3.out; have q4 := Z4.out; have q5 := Z5.out; have q6 := Z6.out; have q7 := Z7.out; have q8 := Z8.out; have q9 := Z9.out; have q10 := Z10.out; have q11 := Z11.out; omega) F11.out.size)
  have OW12 := Lib.hid (OW11.out.kept hg (fun g eg => by have := G g eg; have := G2 g eg; have q0 := Z0.out; have q1 := Z1.out; have q2 := Z2.out; have q3 := Z3.out; have q4 := Z4.out; have q5 := Z5.out; have q6 := Z6.out; have q7 := Z7.out; have q8 := Z8.out; have q9 := Z9.out; have q10 := Z10.out; have q11 := Z11.out; omega))
  have OG12 := Lib.hid ho
  clear hg ho G G2
  clear cr0 cr1 cr2
  obtain ⟨cr0, cr1, cr2⟩ := Xr12.out
  go_wp2_with fail
  refine (helds_from 1 rfl OG12.out.rd (by have := HL.out; omega) (by omega)).mono ?_
  rw [← MG.out]
  rintro e w13 ⟨rfl, rfl⟩
  clear cr0 cr1 cr2
  obtain ⟨cr0, cr1, cr2⟩ := Xr12.out
  go_wp2_with fail
  refine (to_ring rk rp rn _).mono ?_
  rintro e w13 ⟨rfl, hb⟩
  have Z13 : Hid (w12.heap.size ≤ w13.heap.size) := Lib.hid hb.size
  have F13 := Lib.hid (F12.out.trans (hb.mono F12.out.size))
  have Xr13 := Lib.hid (Xr12.out.below hb (by have q0 := Z0.out; have q1 := Z1.out; have q2 := Z2.out; have q3 := Z3.out; have q4 := Z4.out; have q5 := Z5.out; have q6 := Z6.out; have q7 := Z7.out; have q8 := Z8.out; have q9 := Z9.out; have q10 := Z10.out; have q11 := Z11.out; have q12 := Z12.out; have q13 := Z13.out; omega))
  have Rl13 := Lib.hid (Rl12.out.below hb F12.out.size)
  have OW13 := Lib.hid (OW12.out.below hb (Nat.le_refl _))
  have OG13 := Lib.hid (OG12.out.below hb (Nat.le_refl _))
  clear hb
  clear cr0 cr1 cr2
  obtain ⟨cr0, cr1, cr2⟩ := Xr13.out
  go_wp2_with fail
  refine (to_nested Rl13.out F13.out.size BNl.out.1 BNl.out.2).mono ?_
  rintro e w14 ⟨vhl, rfl, ho, hb⟩
  have Z14 : Hid (w13.heap.size ≤ w14.heap.size) := Lib.hid hb.size
  have F14 := Lib.hid (F13.out.trans (hb.mono F13.out.size))
  have Xr14 := Lib.hid (Xr13.out.below hb (by have q0 := Z0.out; have q1 := Z1.out; have q2 := Z2.out; have q3 := Z3.out; have q4 := Z4.out; have q5 := Z5.out; have q6 := Z6.out; have q7 := Z7.out; have q8 := Z8.out; have q9 := Z9.out; have q10 := Z10.out; have q11 := Z11.out; have q12 := Z12.out; have q13 := Z13.out; have q14 := Z14.out; omega))
  have Rl14 := Lib.hid (Rl13.out.below hb F13.out.size)
  have OW14 := Lib.hid (OW13.out.below hb (Nat.le_refl _))
  have OG14 := Lib.hid (OG13.out.below hb (Nat.le_refl _))
  clear hb
  have Ohl14 := Lib.hid ho
  clear ho
  clear cr0 cr1 cr2
  obtain ⟨cr0, cr1, cr2⟩ := Xr14.out
  go_wp2_with fail
  refine (sum_impl (RdRows.mono Ohl14.out.rd Ohl14.out.hi) (Nat.le_refl _) HNl.out HLl.out).mono ?_
  rw [← HR.out]
  rintro e w15 ⟨vH, rfl, ho, hb⟩
  have Z15 : Hid (w14.heap.size ≤ w15.heap.size) := Lib.hid hb.size
  have F15 := Lib.hid (F14.out.trans (hb.mono F14.out.size))
  have Xr15 := Lib.hid (Xr14.out.below hb (by have q0 := Z0.out; have q1 := Z1.out; have q2 := Z2.out; have q3 := Z3.out; have q4 := Z4.out; have q5 := Z5.out; have q6 := Z6.out; have q7 := Z7.out; have q8 := Z8.out; have q9 := Z9.out; have q10 := Z10.out; have q11 := Z11.out; have q12 := Z12.out; have q13 := Z13.out; have q14 := Z14.out; have q15 := Z15.out; omega))
  have Rl15 := Lib.hid (Rl14.out.below hb F14.out.size)
  have OW15 := Lib.hid (OW14.out.below hb (Nat.le_refl _))
  have OG15 := Lib.hid (OG14.out.below hb (Nat.le_refl _))
  have Ohl15 := Lib.hid (Ohl14.out.below hb)
  clear hb
  have OH15 := Lib.hid ho
  clear ho
  clear cr0 cr1 cr2
  obtain ⟨cr0, cr1, cr2⟩ := Xr15.out
  go_wp2_with fail
  refine (eq_rows OH15.out.rd OW15.out.rd rfl (by have := HL.out; omega)).mono ?_
  rintro e w16 ⟨rfl, hb⟩
  have Z16 : Hid (w15.heap.size ≤ w16.heap.size) := Lib.hid hb.size
  have F16 := Lib.hid (F15.out.trans (hb.mono F15.out.size))
  have Xr16 := Lib.hid (Xr15.out.below hb (by have q0 := Z0.out; have q1 := Z1.out; have q2 := Z2.out; have q3 := Z3.out; have q4 := Z4.out; have q5 := Z5.out; have q6 := Z6.out; have q7 := Z7.out; have q8 := Z8.out; have q9 := Z9.out; have q10 := Z10.out; have q11 := Z11.out; have q12 := Z12.out; have q13 := Z13.out; have q14 := Z14.out; have q15 := Z15.out; have q16 := Z16.out; omega))
  have Rl16 := Lib.hid (Rl15.out.below hb F15.out.size)
  have OW16 := Lib.hid (OW15.out.below hb (Nat.le_refl _))
  have OG16 := Lib.hid (OG15.out.below hb (Nat.le_refl _))
  have OH16 := Lib.hid (OH15.out.below hb (Nat.le_refl _))
  clear hb
  clear cr0 cr1 cr2
  obtain ⟨cr0, cr1, cr2⟩ := Xr16.out
  go_wp2_with fail
  refine (helds_from 1 rfl OG16.out.rd (by have := HL.out; omega) (by omega)).mono ?_
  rw [← MG.out]
  rintro e w17 ⟨rfl, rfl⟩
  clear cr0 cr1 cr2
  go_wp2
  go_ret
  exact ⟨rfl, F16.out⟩

theorem law_sum_elems (rk rp rn : Int) {vl : Value} (w : World) {l : List (List Int)} (hl : RdRows w.heap.size w vl l) (nl : l.length ≤ 281474976710656) (ll : ∀ xs ∈ l, xs.length ≤ 281474976710656)  :
    Calls Try.prog 12 #[ringV rk rp rn, vl] w fun e w' => e = .returned (.bool true) ∧ Below w.heap.size w w' := by
  exact law_sum_elems_small rk rp rn vl w l (Lib.hid hl) nl ll 
end Go.Proofs.Ytfdjlahaiogabab
