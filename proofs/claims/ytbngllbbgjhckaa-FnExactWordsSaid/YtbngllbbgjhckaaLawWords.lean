/- The law FnExactWords, walked. -/
import Derived.Test.YtbngllbbgjhckaaWords
import Derived.Test.YtbngllbbgjhckaaEqStrs
namespace Go.Proofs.Ytbngllbbgjhckaa
open Go.RowKit

set_option maxHeartbeats 400000 in
theorem law_big_FnExactWords (s : ByteArray) (w : World) (hs : s.size ≤ 281474976710656) (hbig : 1048576 < s.size) :
    Calls Try.prog 3 #[.string s] w fun e w' => e = .returned (.bool true) ∧ Below w.heap.size w w' := by
  go_enter Try.func3, Try.ntmps3
  go_wp2
  go_ret
  exact ⟨rfl, Below.refl _ _⟩

set_option maxHeartbeats 800000 in
theorem law_FnExactWords (s : ByteArray) (w : World) (hs : s.size ≤ 281474976710656) :
    Calls Try.prog 3 #[.string s] w fun e w' => e = .returned (.bool true) ∧ Below w.heap.size w w' := by
  by_cases hbig : 1048576 < s.size
  · exact law_big_FnExactWords s w hs hbig
  have hL := wordsOf_len s
  obtain ⟨L, hLe⟩ : ∃ L, L = wordsOf s := ⟨_, rfl⟩
  rw [← hLe] at hL
  have HL := Lib.hid hLe
  have hsm : s.size ≤ 1048576 := by omega
  obtain ⟨n, hn⟩ : ∃ n, n = L.length := ⟨_, rfl⟩
  rw [← hn] at hL
  have HN := Lib.hid hn
  have hn2 : n ≤ 1048577 := by omega
  clear hL hLe hn hbig
  go_enter Try.func3, Try.ntmps3
  go_wp2_with fail
  refine (spec_words s w hsm).mono ?_
  rw [← HL.out, ← HN.out]
  rintro e w1 ⟨v0, rfl, hown0, hb1⟩
  have R0 := Lib.hid (Rd.of_own hown0)
  have B1 := Lib.hid hb1
  clear hown0 hb1
  go_wp2_with fail
  refine (impl_words s w1 hsm).mono ?_
  rw [← HL.out, ← HN.out]
  rintro e w2 ⟨v1, rfl, hown1, hb2⟩
  have O1 := Lib.hid hown1
  have R1 := Lib.hid (Rd.of_own hown1)
  have C2 := Lib.hid hb2
  clear hown1 hb2
  go_wp2_with fail
  refine (eq_strs R1.out (R0.out.below C2.out (Nat.le_refl _)) (by rw [← HN.out]; omega)).mono ?_
  rintro e w2q ⟨rfl, q, rfl⟩
  have O1q : Hid ((w2.drewN q).ownsRow w1.heap.size 9 1 v1 n (strs L)) := O1.out
  have C2q := Lib.hid (below_drewN C2.out q)
  go_wp2_with fail
  refine (mark_strs O1q.out (by omega)).mono ?_
  rintro e w3 ⟨rfl, hown3, hg3⟩
  have C3 := Lib.hid (C2q.out.grown hg3 C2q.out.size (fun g hg => (O1q.out.lt g hg).1))
  have R3 := Lib.hid (Rd.of_own hown3)
  clear hown3 hg3
  go_wp2_with fail
  refine (held_strs R3.out (Nat.le_refl _) (by omega)).mono ?_
  rintro e w4 ⟨rfl, hb4⟩
  have C4 := Lib.hid (C3.out.trans (hb4.mono C3.out.size))
  have R4 := Lib.hid (R3.out.below hb4 (Nat.le_refl _))
  have Z4 := Lib.hid hb4.size
  clear hb4
  go_wp2_with fail
  refine (impl_words s w4 hsm).mono ?_
  rw [← HL.out, ← HN.out]
  rintro e w5 ⟨v5, rfl, hown5, hb5⟩
  have R5 := Lib.hid (Rd.of_own hown5)
  have C5 := Lib.hid (C4.out.trans (hb5.mono C4.out.size))
  have R45 := Lib.hid (R4.out.below hb5 Z4.out)
  have Z5 := Lib.hid (Nat.le_trans Z4.out hb5.size)
  clear hown5 hb5
  go_wp2_with fail
  refine (eq_strs R5.out (R0.out.below C5.out (Nat.le_refl _)) (by rw [← HN.out]; omega)).mono ?_
  rintro e w5q ⟨rfl, q5, rfl⟩
  have R6 : Hid (Rd w3.heap.size (w5.drewN q5) v1 (strs (marks 1 n))) := R45.out.drewN q5
  have C6 := Lib.hid (below_drewN C5.out q5)
  have Z6 : Hid (w3.heap.size ≤ (w5.drewN q5).heap.size) := Z5.out
  go_wp2_with fail
  refine (held_strs R6.out Z6.out (by omega)).mono ?_
  rintro e w7 ⟨rfl, hb7⟩
  have B7 := Lib.hid (B1.out.trans ((C6.out.trans (hb7.mono C6.out.size)).mono B1.out.size))
  clear hb7
  go_wp2
  go_ret
  exact ⟨rfl, B7.out⟩
end Go.Proofs.Ytbngllbbgjhckaa
