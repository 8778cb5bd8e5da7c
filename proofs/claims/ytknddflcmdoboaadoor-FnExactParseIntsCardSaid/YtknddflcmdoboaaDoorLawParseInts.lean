
/- The law FnExactParseInts, walked. -/
import Derived.Test.YtknddflcmdoboaaDoorParseInts
import Derived.Test.YtknddflcmdoboaaDoorEqInts
import Derived.Test.YtknddflcmdoboaaDoorMarkInts
namespace Go.Proofs.YtknddflcmdoboaaDoor
set_option maxRecDepth 20000
open Go.RowKit

set_option maxHeartbeats 400000 in
theorem law_parses_big (s : ByteArray) (w : World) (hs : s.size ≤ 281474976710656) (hbig : 1048576 < s.size) :
    Calls Tryd.prog 5 #[.string s] w fun e w' => e = .returned (.bool true) ∧ Below w.heap.size w w' := by
  go_enter Tryd.func5, Tryd.ntmps5
  go_wp2
  go_ret
  exact ⟨rfl, Below.refl _ _⟩

set_option maxHeartbeats 1600000 in
theorem law_parses (s : ByteArray) (w : World) (hs : s.size ≤ 281474976710656) (hv : LibVars w) :
    Calls Tryd.prog 5 #[.string s] w fun e w' => e = .returned (.bool true) ∧ Below w.heap.size w w' := by
  by_cases hbig : 1048576 < s.size
  · exact law_parses_big s w hs hbig
  have hsm : s.size ≤ 1048576 := by omega
  have HV := Lib.hid hv
  clear hbig hv
  go_enter Tryd.func5, Tryd.ntmps5
  go_wp2_with fail
  refine (spec_parses s w hsm).mono ?_
  rintro e w1 ⟨v0, L, b, rfl, hpi, hown0, hb1⟩
  have hL := hpi.len
  obtain ⟨n, hn⟩ : ∃ n, n = L.length := ⟨_, rfl⟩
  rw [← hn] at hL hown0
  have HN := Lib.hid hn
  have hn2 : n ≤ 1048577 := by omega
  have HPI := Lib.hid hpi
  have R0 := Lib.hid (Rd.of_own hown0)
  have B1 := Lib.hid hb1
  have HV1 := Lib.hid (HV.out.below hb1)
  clear hown0 hb1 hn hL hpi
  go_wp2_with fail
  refine (impl_parses s w1 hsm HV1.out).mono ?_
  rintro e w2 ⟨v1, L1, b1, rfl, hpi1, hown1, hb2⟩
  obtain ⟨rfl, rfl⟩ := hpi1.unique HPI.out
  rw [← HN.out] at hown1
  have O1 := Lib.hid hown1
  have R1 := Lib.hid (Rd.of_own hown1)
  have C2 := Lib.hid hb2
  have HV2 := Lib.hid (HV1.out.below hb2)
  clear hown1 hb2 hpi1
  go_wp2_with fail
  refine (eq_ints R1.out (R0.out.below C2.out (Nat.le_refl _)) (by rw [← HN.out]; omega)).mono ?_
  rintro e w2q ⟨rfl, q, rfl⟩
  have O1q : Hid ((w2.drewN q).ownsRow w1.heap.size 3 1 v1 n (ints L1)) := O1.out
  have C2q := Lib.hid (below_drewN C2.out q)
  have hbb : (b1 != b1) = false := by cases b1 <;> rfl
  go_wp2_with fail
  refine (mark_ints O1q.out (by omega)).mono ?_
  rintro e w3 ⟨rfl, hown3, hg3⟩
  have C3 := Lib.hid (C2q.out.grown hg3 C2q.out.size (fun g hg => (O1q.out.lt g hg).1))
  have R3 := Lib.hid (Rd.of_own hown3)
  have HV3 := Lib.hid (HV1.out.below C3.out)
  clear hown3 hg3
  go_wp2_with fail
  refine (held_ints R3.out (by omega)).mono ?_
  rintro e w4 ⟨rfl, rfl⟩
  go_wp2_with fail
  refine (impl_parses s w3 hsm HV3.out).mono ?_
  rintro e w5 ⟨v5, L5, b5, rfl, hpi5, hown5, hb5⟩
  obtain ⟨rfl, rfl⟩ := hpi5.unique HPI.out
  have R5 := Lib.hid (Rd.of_own hown5)
  have C5 := Lib.hid (C3.out.trans (hb5.mono C3.out.size))
  have R45 := Lib.hid (R3.out.below hb5 (Nat.le_refl _))
  clear hown5 hb5 hpi5
  go_wp2_with fail
  refine (eq_ints R5.out (R0.out.below C5.out (Nat.le_refl _)) (by rw [← HN.out]; omega)).mono ?_
  rintro e w5q ⟨rfl, q5, rfl⟩
  have R6 : Hid (Rd w3.heap.size (w5.drewN q5) v1 (ints (imarks n))) := R45.out.drewN q5
  have B6 := Lib.hid (B1.out.trans ((below_drewN C5.out q5).mono B1.out.size))
  go_wp2_with fail
  refine (held_ints R6.out (by omega)).mono ?_
  rintro e w7 ⟨rfl, rfl⟩
  go_wp2
  go_ret
  exact ⟨rfl, B6.out⟩
end Go.Proofs.YtknddflcmdoboaaDoor
