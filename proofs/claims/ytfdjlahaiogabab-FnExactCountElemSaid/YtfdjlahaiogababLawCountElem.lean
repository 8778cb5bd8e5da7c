
/- The law FnExactCountElem, walked. -/
import Derived.Test.YtfdjlahaiogababCount2
import Derived.Test.YtfdjlahaiogababLawKit
namespace Go.Proofs.Ytfdjlahaiogabab
set_option maxRecDepth 20000
open Go.RowKit

set_option maxHeartbeats 3200000 in
theorem law_count_elem_small (rk rp rn : Int) (n : Int) (w : World)  (hn : n ≤ 9223372036854775807) :
    Calls Try.prog 13 #[ringV rk rp rn, .int .i64 n] w fun e w' => e = .returned (.bool true) ∧ Below w.heap.size w w' := by
  obtain ⟨R, hR⟩ : ∃ R : List Int, R = countElemL rk rp rn n := ⟨_, rfl⟩
  have HL : Hid (R.length ≤ 17592186044416) := Lib.hid (by rw [hR]; exact Nat.le_trans (countElem_len _ _ _ _) (by omega))
  have HR := Lib.hid hR
  clear hR
  have F0 : Hid (Below w.heap.size w (w.alloc (.cells #[.int .i64 rk, .int .i64 rp, .int .i64 rn] 23))) := Lib.hid ((Below.refl _ _).alloc (Nat.le_refl _) _)
  have Xr0 : Hid (BoxAt (w.alloc (.cells #[.int .i64 rk, .int .i64 rp, .int .i64 rn] 23)) w.heap.size rk rp rn) := Lib.hid (BoxAt.new w rk rp rn 23)
  have Z0 : Hid (w.heap.size + 1 ≤ (w.alloc (.cells #[.int .i64 rk, .int .i64 rp, .int .i64 rn] 23)).heap.size) := Lib.hid (by simp)
  go_enter Try.func13, Try.ntmps13
  obtain ⟨cr0, cr1, cr2⟩ := Xr0.out
  go_wp2_with fail
  refine (to_ring rk rp rn _).mono ?_
  rintro e w1 ⟨rfl, hb⟩
  have Z1 : Hid ((w.alloc (.cells #[.int .i64 rk, .int .i64 rp, .int .i64 rn] 23)).heap.size ≤ w1.heap.size) := Lib.hid hb.size
  have F1 := Lib.hid (F0.out.trans (hb.mono F0.out.size))
  have Xr1 := Lib.hid (Xr0.out.below hb (by have q0 := Z0.out; have q1 := Z1.out; omega))
  clear hb
  clear cr0 cr1 cr2
  obtain ⟨cr0, cr1, cr2⟩ := Xr1.out
  go_wp2_with fail
  refine (count_spec rk rp rn n _ hn).mono ?_
  rw [← HR.out]
  rintro e w2 ⟨vW, rfl, ho, hb⟩
  have Z2 : Hid (w1.heap.size ≤ w2.heap.size) := Lib.hid hb.size
  have F2 := Lib.hid (F1.out.trans (hb.mono F1.out.size))
  have Xr2 := Lib.hid (Xr1.out.below hb (by have q0 := Z0.out; have q1 := Z1.out; have q2 := Z2.out; omega))
  clear hb
  have OW2 := Lib.hid ho
  clear ho
  clear cr0 cr1 cr2
  obtain ⟨cr0, cr1, cr2⟩ := Xr2.out
  go_wp2_with fail
  refine (to_ring rk rp rn _).mono ?_
  rintro e w3 ⟨rfl, hb⟩
  have Z3 : Hid (w2.heap.size ≤ w3.heap.size) := Lib.hid hb.size
  have F3 := Lib.hid (F2.out.trans (hb.mono F2.out.size))
  have Xr3 := Lib.hid (Xr2.out.below hb (by have q0 := Z0.out; have q1 := Z1.out; have q2 := Z2.out; have q3 := Z3.out; omega))
  have OW3 := Lib.hid (OW2.out.below hb (Nat.le_refl _))
  clear hb
  clear cr0 cr1 cr2
  obtain ⟨cr0, cr1, cr2⟩ := Xr3.out
  go_wp2_with fail
  refine (count_impl rk rp rn n _ hn).mono ?_
  rw [← HR.out]
  rintro e w4 ⟨vG, rfl, ho, hb⟩
  have Z4 : Hid (w3.heap.size ≤ w4.heap.size) := Lib.hid hb.size
  have F4 := Lib.hid (F3.out.trans (hb.mono F3.out.size))
  have Xr4 := Lib.hid (Xr3.out.below hb (by have q0 := Z0.out; have q1 := Z1.out; have q2 := Z2.out; have q3 := Z3.out; have q4 := Z4.out; omega))
  have OW4 := Lib.hid (OW3.out.below hb (Nat.le_refl _))
  clear hb
  have OG4 := Lib.hid ho
  clear ho
  clear cr0 cr1 cr2
  obtain ⟨cr0, cr1, cr2⟩ := Xr4.out
  go_wp2_with fail
  refine (eq_rows OG4.out.rd OW4.out.rd rfl (by have := HL.out; omega)).mono ?_
  rintro e w5 ⟨rfl, hb⟩
  have Z5 : Hid (w4.heap.size ≤ w5.heap.size) := Lib.hid hb.size
  have F5 := Lib.hid (F4.out.trans (hb.mono F4.out.size))
  have Xr5 := Lib.hid (Xr4.out.below hb (by have q0 := Z0.out; have q1 := Z1.out; have q2 := Z2.out; have q3 := Z3.out; have q4 := Z4.out; have q5 := Z5.out; omega))
  have OW5 := Lib.hid (OW4.out.below hb (Nat.le_refl _))
  have OG5 := Lib.hid (OG4.out.below hb (Nat.le_refl _))
  clear hb
  obtain ⟨mg, hm⟩ : ∃ m : Nat, m = 1 + R.length := ⟨_, rfl⟩
  have MG : Hid (mg = 1 + R.length) := Lib.hid hm
  have mgb : mg ≤ 17592186044417 := by have := HL.out; omega
  clear hm
  clear cr0 cr1 cr2
  obtain ⟨cr0, cr1, cr2⟩ := Xr5.out
  go_wp2_with fail
  refine (marks_from 1 rfl OG5.out (by have := HL.out; omega) (by omega)).mono ?_
  rw [← MG.out]
  rintro e w6 ⟨rfl, ho, hg⟩
  have Z6 : Hid (w5.heap.size ≤ w6.heap.size) := Lib.hid hg.size
  have G : ∀ g, _ = some g → _ := OG5.out.lo
  have G2 := OG5.out.2.1
  have F6 := Lib.hid (F5.out.grown hg F5.out.size (fun g eg => by have := G g eg; have q0 := Z0.out; have q1 := Z1.out; have q2 := Z2.out; have q3 := Z3.out; have q4 := Z4.out; have q5 := Z5.out; omega))
  have Xr6 := Lib.hid (Xr5.out.grown hg (by have q0 := Z0.out; have q1 := Z1.out; have q2 := Z2.out; have q3 := Z3.out; have q4 := Z4.out; have q5 := Z5.out; omega) (fun g eg => by have := G g eg; have q0 := Z0.out; have q1 := Z1.out; have q2 := Z2.out; have q3 := Z3.out; have q4 := Z4.out; have q5 := Z5.out; omega))
  have OW6 := Lib.hid (OW5.out.kept hg (fun g eg => by have := G g eg; have := G2 g eg; have q0 := Z0.out; have q1 := Z1.out; have q2 := Z2.out; have q3 := Z3.out; have q4 := Z4.out; have q5 := Z5.out; omega))
  have OG6 := Lib.hid ho
  clear hg ho G G2
  clear cr0 cr1 cr2
  obtain ⟨cr0, cr1, cr2⟩ := Xr6.out
  go_wp2_with fail
  refine (helds_from 1 rfl OG6.out.rd (by have := HL.out; omega) (by omega)).mono ?_
  rw [← MG.out]
  rintro e w7 ⟨rfl, rfl⟩
  clear cr0 cr1 cr2
  obtain ⟨cr0, cr1, cr2⟩ := Xr6.out
  go_wp2_with fail
  refine (to_ring rk rp rn _).mono ?_
  rintro e w7 ⟨rfl, hb⟩
  have Z7 : Hid (w6.heap.size ≤ w7.heap.size) := Lib.hid hb.size
  have F7 := Lib.hid (F6.out.trans (hb.mono F6.out.size))
  have Xr7 := Lib.hid (Xr6.out.below hb (by have q0 := Z0.out; have q1 := Z1.out; have q2 := Z2.out; have q3 := Z3.out; have q4 := Z4.out; have q5 := Z5.out; have q6 := Z6.out; have q7 := Z7.out; omega))
  have OW7 := Lib.hid (OW6.out.below hb (Nat.le_refl _))
  have OG7 := Lib.hid (OG6.out.below hb (Nat.le_refl _))
  clear hb
  clear cr0 cr1 cr2
  obtain ⟨cr0, cr1, cr2⟩ := Xr7.out
  go_wp2_with fail
  refine (count_impl rk rp rn n _ hn).mono ?_
  rw [← HR.out]
  rintro e w8 ⟨vH, rfl, ho, hb⟩
  have Z8 : Hid (w7.heap.size ≤ w8.heap.size) := Lib.hid hb.size
  have F8 := Lib.hid (F7.out.trans (hb.mono F7.out.size))
  have Xr8 := Lib.hid (Xr7.out.below hb (by have q0 := Z0.out; have q1 := Z1.out; have q2 := Z2.out; have q3 := Z3.out; have q4 := Z4.out; have q5 := Z5.out; have q6 := Z6.out; have q7 := Z7.out; have q8 := Z8.out; omega))
  have OW8 := Lib.hid (OW7.out.below hb (Nat.le_refl _))
  have OG8 := Lib.hid (OG7.out.below hb (Nat.le_refl _))
  clear hb
  have OH8 := Lib.hid ho
  clear ho
  clear cr0 cr1 cr2
  obtain ⟨cr0, cr1, cr2⟩ := Xr8.out
  go_wp2_with fail
  refine (eq_rows OH8.out.rd OW8.out.rd rfl (by have := HL.out; omega)).mono ?_
  rintro e w9 ⟨rfl, hb⟩
  have Z9 : Hid (w8.heap.size ≤ w9.heap.size) := Lib.hid hb.size
  have F9 := Lib.hid (F8.out.trans (hb.mono F8.out.size))
  have Xr9 := Lib.hid (Xr8.out.below hb (by have q0 := Z0.out; have q1 := Z1.out; have q2 := Z2.out; have q3 := Z3.out; have q4 := Z4.out; have q5 := Z5.out; have q6 := Z6.out; have q7 := Z7.out; have q8 := Z8.out; have q9 := Z9.out; omega))
  have OW9 := Lib.hid (OW8.out.below hb (Nat.le_refl _))
  have OG9 := Lib.hid (OG8.out.below hb (Nat.le_refl _))
  have OH9 := Lib.hid (OH8.out.below hb (Nat.le_refl _))
  clear hb
  clear cr0 cr1 cr2
  obtain ⟨cr0, cr1, cr2⟩ := Xr9.out
  go_wp2_with fail
  refine (helds_from 1 rfl OG9.out.rd (by have := HL.out; omega) (by omega)).mono ?_
  rw [← MG.out]
  rintro e w10 ⟨rfl, rfl⟩
  clear cr0 cr1 cr2
  go_wp2
  go_ret
  exact ⟨rfl, F9.out⟩

theorem law_count_elem (rk rp rn : Int) (n : Int) (w : World)  (hn : n ≤ 9223372036854775807) :
    Calls Try.prog 13 #[ringV rk rp rn, .int .i64 n] w fun e w' => e = .returned (.bool true) ∧ Below w.heap.size w w' := by
  exact law_count_elem_small rk rp rn n w  hn
end Go.Proofs.Ytfdjlahaiogabab
