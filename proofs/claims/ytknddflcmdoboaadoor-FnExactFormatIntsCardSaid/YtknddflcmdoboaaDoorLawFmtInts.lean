
/- The law FnExactFormatInts, walked. -/
import Derived.Test.YtknddflcmdoboaaDoorFmtInts
import Derived.Test.YtknddflcmdoboaaDoorEqInts
import Derived.Test.YtknddflcmdoboaaDoorToInts
namespace Go.Proofs.YtknddflcmdoboaaDoor
set_option maxRecDepth 20000
open Go.RowKit

set_option maxHeartbeats 400000 in
theorem law_fmts_big (a : Option Addr) (n cap : Nat) (w : World) (hn : n ≤ 281474976710656) (hbig : 1048576 < n) :
    Calls Tryd.prog 4 #[.slice a n cap] w fun e w' => e = .returned (.bool true) ∧ Below w.heap.size w w' := by
  go_enter Tryd.func4, Tryd.ntmps4
  go_wp2
  go_ret
  exact ⟨rfl, Below.refl _ _⟩

set_option maxHeartbeats 400000 in
theorem law_fmts_small (a : Option Addr) (n cap : Nat) (xs : List Int) (w : World) (hx : xs.length = n) (hn : n ≤ 1048576) (hI : allI xs) (hr : Rd w.heap.size w (.slice a n cap) (ints xs)) (htab : Lib.TabIs Tryd.prog w "internal/strconv.uint64pow10" .u64 Lib.pow10Tab) :
    Calls Tryd.prog 4 #[.slice a n cap] w fun e w' => e = .returned (.bool true) ∧ Below w.heap.size w w' := by
  have hg := tab_size htab
  have HT := Lib.hid htab
  have HN := Lib.hid hx
  have HI := Lib.hid hI
  have HR := Lib.hid hr
  clear htab hx hI hr
  go_enter Tryd.func4, Tryd.ntmps4
  go_wp2_with fail
  refine (to_ints HR.out (Nat.le_refl _) (by rw [HN.out]; omega)).mono ?_
  rintro e w1 ⟨r1, rfl, hown1, hb1⟩
  have R1 := Lib.hid (Rd.of_own hown1)
  have B1 := Lib.hid hb1
  have HR1 := Lib.hid (HR.out.below hb1 (Nat.le_refl _))
  clear hown1 hb1
  go_wp2_with fail
  refine (spec_fmts R1.out (Nat.le_refl _) (by rw [HN.out]; omega) HI.out).mono ?_
  rintro e w2 ⟨rfl, hb2⟩
  have B2 := Lib.hid (B1.out.trans (hb2.mono B1.out.size))
  have HR2 := Lib.hid (HR1.out.below hb2 B1.out.size)
  clear hb2
  go_wp2_with fail
  refine (to_ints HR2.out B2.out.size (by rw [HN.out]; omega)).mono ?_
  rintro e w3 ⟨r3, rfl, hown3, hb3⟩
  have R3 := Lib.hid (Rd.of_own hown3)
  have B3 := Lib.hid (B2.out.trans (hb3.mono B2.out.size))
  have HR3 := Lib.hid (HR2.out.below hb3 B2.out.size)
  clear hown3 hb3
  have HT3 := Lib.hid (tab_below B3.out hg HT.out)
  go_wp2_with fail
  refine (impl_fmts R3.out (Nat.le_refl _) (by rw [HN.out]; omega) HI.out HT3.out).mono ?_
  rintro e w4 ⟨rfl, hb4⟩
  have B4 := Lib.hid (B3.out.trans (hb4.mono B3.out.size))
  have R4 := Lib.hid (R3.out.below hb4 (Nat.le_refl _))
  have Z4 := Lib.hid hb4.size
  have HR4 := Lib.hid (HR3.out.below hb4 B3.out.size)
  clear hb4
  go_wp2_with fail
  refine (to_ints HR4.out B4.out.size (by rw [HN.out]; omega)).mono ?_
  rintro e w5 ⟨r5, rfl, hown5, hb5⟩
  have R5 := Lib.hid (Rd.of_own hown5)
  have B5 := Lib.hid (B4.out.trans (hb5.mono B4.out.size))
  have R45 := Lib.hid (R4.out.below hb5 Z4.out)
  clear hown5 hb5
  go_wp2_with fail
  refine (eq_ints R45.out R5.out (by rw [HN.out]; omega)).mono ?_
  rintro e w6 ⟨rfl, q, rfl⟩
  go_wp2
  go_ret
  exact ⟨rfl, below_drewN B5.out q⟩

theorem law_fmts {v : Value} {xs : List Int} {w : World} (hI : allI xs) (hl : xs.length ≤ 281474976710656) (hr : Rd w.heap.size w v (ints xs)) (htab : Lib.TabIs Tryd.prog w "internal/strconv.uint64pow10" .u64 Lib.pow10Tab) :
    Calls Tryd.prog 4 #[v] w fun e w' => e = .returned (.bool true) ∧ Below w.heap.size w w' := by
  obtain ⟨a, cap, rfl, -⟩ := ints_full_of hr (Nat.le_refl _)
  by_cases hn : xs.length ≤ 1048576
  · exact law_fmts_small a _ cap xs w rfl hn hI hr htab
  · exact law_fmts_big a _ cap w hl (by omega)
end Go.Proofs.YtknddflcmdoboaaDoor
