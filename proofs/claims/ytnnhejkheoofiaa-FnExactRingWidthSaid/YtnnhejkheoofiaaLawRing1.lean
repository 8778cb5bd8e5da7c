/- The laws of IsPrime, RingOk and RingWidth, walked. -/
import Derived.Test.YtnnhejkheoofiaaRingFns
namespace Go.Proofs.Ytnnhejkheoofiaa
open Go.RowKit

set_option maxHeartbeats 400000 in
theorem law_is_prime (n : Int) (w : World) :
    Calls Try.prog 3 #[.int .i64 n] w fun e w' => e = .returned (.bool true) ∧ Below w.heap.size w w' := by
  obtain ⟨b, hb⟩ : ∃ b, b = primeB n := ⟨_, rfl⟩
  have HB := Lib.hid hb
  clear hb
  have hbb : (b != b) = false := by cases b <;> rfl
  go_enter Try.func3, Try.ntmps3
  go_wp2_with fail
  refine (prime_spec n _).mono ?_
  rw [← HB.out]
  rintro e w1 ⟨rfl, rfl⟩
  go_wp2_with fail
  refine (prime_impl n _).mono ?_
  rw [← HB.out]
  rintro e w2 ⟨rfl, rfl⟩
  go_wp2
  go_ret
  exact ⟨rfl, Below.refl _ _⟩

set_option maxHeartbeats 400000 in
theorem law_ring_ok (k p n : Int) (w : World) :
    Calls Try.prog 4 #[ringV k p n] w fun e w' => e = .returned (.bool true) ∧ Below w.heap.size w w' := by
  obtain ⟨b, hb⟩ : ∃ b, b = ringB k p n := ⟨_, rfl⟩
  have HB := Lib.hid hb
  clear hb
  have hbb : (b != b) = false := by cases b <;> rfl
  go_enter Try.func4, Try.ntmps4
  go_wp2_with fail
  refine (to_ring k p n _).mono ?_
  rintro e w1 ⟨rfl, hb1⟩
  obtain ⟨⟨c0, c1, c2⟩, hB, hz⟩ := BoxAt.kept hb1
  have B1 := Lib.hid hB
  clear hb1 hB
  go_wp2_with fail
  refine (ring_ok_spec k p n _).mono ?_
  rw [← HB.out]
  rintro e w2 ⟨rfl, hb2⟩
  obtain ⟨d0, d1, d2⟩ := BoxAt.below ⟨c0, c1, c2⟩ hb2 hz
  have B2 := Lib.hid (B1.out.trans (hb2.mono (Nat.le_of_lt hz)))
  have hz2 := Nat.lt_of_lt_of_le hz hb2.size
  clear hb2 c0 c1 c2
  go_wp2_with fail
  refine (to_ring k p n _).mono ?_
  rintro e w3 ⟨rfl, hb3⟩
  have B3 := Lib.hid (B2.out.trans (hb3.mono (Nat.le_of_lt hz2)))
  clear hb3
  go_wp2_with fail
  refine (ring_ok_impl k p n _).mono ?_
  rw [← HB.out]
  rintro e w4 ⟨rfl, hb4⟩
  have B4 := Lib.hid (B3.out.trans (hb4.mono B3.out.size))
  clear hb4
  go_wp2
  go_ret
  exact ⟨rfl, B4.out⟩

set_option maxHeartbeats 400000 in
theorem law_ring_width (k p n : Int) (w : World) :
    Calls Try.prog 5 #[ringV k p n] w fun e w' => e = .returned (.bool true) ∧ Below w.heap.size w w' := by
  obtain ⟨b, hb⟩ : ∃ b, b = ringWidthI k p n := ⟨_, rfl⟩
  have HB := Lib.hid hb
  clear hb
  go_enter Try.func5, Try.ntmps5
  go_wp2_with fail
  refine (to_ring k p n _).mono ?_
  rintro e w1 ⟨rfl, hb1⟩
  obtain ⟨⟨c0, c1, c2⟩, hB, hz⟩ := BoxAt.kept hb1
  have B1 := Lib.hid hB
  clear hb1 hB
  go_wp2_with fail
  refine (ring_width_spec k p n _).mono ?_
  rw [← HB.out]
  rintro e w2 ⟨rfl, hb2⟩
  obtain ⟨d0, d1, d2⟩ := BoxAt.below ⟨c0, c1, c2⟩ hb2 hz
  have B2 := Lib.hid (B1.out.trans (hb2.mono (Nat.le_of_lt hz)))
  have hz2 := Nat.lt_of_lt_of_le hz hb2.size
  clear hb2 c0 c1 c2
  go_wp2_with fail
  refine (to_ring k p n _).mono ?_
  rintro e w3 ⟨rfl, hb3⟩
  have B3 := Lib.hid (B2.out.trans (hb3.mono (Nat.le_of_lt hz2)))
  clear hb3
  go_wp2_with fail
  refine (ring_width_impl k p n _).mono ?_
  rw [← HB.out]
  rintro e w4 ⟨rfl, hb4⟩
  have B4 := Lib.hid (B3.out.trans (hb4.mono B3.out.size))
  clear hb4
  go_wp2
  go_ret
  exact ⟨rfl, B4.out⟩
end Go.Proofs.Ytnnhejkheoofiaa
