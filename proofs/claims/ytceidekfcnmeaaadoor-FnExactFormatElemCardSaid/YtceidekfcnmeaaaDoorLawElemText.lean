
/- The laws FnExactFormatRing, FnExactParseRing, FnExactFormatElem, FnExactParseElem, walked. -/
import Derived.Test.YtceidekfcnmeaaaDoorElemText
import Derived.Test.YtceidekfcnmeaaaDoorLawKit
import Derived.Test.YtceidekfcnmeaaaDoorMarkInts
namespace Go.Proofs.YtceidekfcnmeaaaDoor
set_option maxRecDepth 20000
open Go.RowKit

theorem same_str (l : List UInt8) : (l != l) = false := by simp
set_option maxHeartbeats 400000 in
theorem law_fmt_elem_big (k p n : Int) (a : Option Addr) (m cap : Nat) (w : World) (hn : m ≤ 281474976710656) (hbig : 1048576 < m) :
    Calls Tryd.prog 3 #[ringV k p n, .slice a m cap] w fun e w' => e = .returned (.bool true) ∧ Below w.heap.size w w' := by
  go_enter Tryd.func3, Tryd.ntmps3
  go_wp2
  go_ret
  exact ⟨rfl, (Below.refl _ _).alloc (Nat.le_refl _) _⟩
set_option maxHeartbeats 1600000 in
theorem law_fmt_elem_small (k p n : Int) (a : Option Addr) (m cap : Nat) (xs : List Int) (w : World) (hx : xs.length = m) (hn : m ≤ 1048576) (hI : allI xs) (hr : Rd w.heap.size w (.slice a m cap) (ints xs)) (htab : Lib.TabIs Tryd.prog w "internal/strconv.uint64pow10" .u64 Lib.pow10Tab) :
    Calls Tryd.prog 3 #[ringV k p n, .slice a m cap] w fun e w' => e = .returned (.bool true) ∧ Below w.heap.size w w' := by
  have hg := tab_size htab
  have HT := Lib.hid htab
  have HG := Lib.hid hg
  have I0 := Lib.hid (Inv.box w k p n 23)
  have R0 := Lib.hid (hr.below I0.out.1 (Nat.le_refl _))
  have HN := Lib.hid (show xs.length ≤ 1048576 by omega)
  have HI := Lib.hid hI
  obtain ⟨t, ht⟩ : ∃ t, t = fmtElem k p n xs := ⟨_, rfl⟩
  have HR := Lib.hid ht
  have hq : (t == t) = true := by simp
  clear htab hg ht hx hI hr
  go_enter Tryd.func3, Tryd.ntmps3
  go_wp2_with fail
  refine (to_ring k p n _).mono ?_
  rintro e w1 ⟨rfl, hb⟩
  have I1 := Lib.hid (I0.out.step hb)
  have R1 := Lib.hid (R0.out.below hb I0.out.1.size)
  clear hb
  go_wp2_with fail
  refine (to_ints R1.out I1.out.1.size (by have := HN.out; omega)).mono ?_
  rintro e w2 ⟨v2, rfl, hown, hb⟩
  have I2 := Lib.hid (I1.out.step hb)
  have R2 := Lib.hid (R1.out.below hb I1.out.1.size)
  have O2 := Lib.hid (Rd.of_own hown)
  clear hb hown
  go_wp2_with fail
  refine (fmt_elem_spec O2.out (Nat.le_refl _) HN.out HI.out).mono ?_
  rw [← HR.out]
  rintro e w3 ⟨rfl, hb⟩
  have I3 := Lib.hid (I2.out.step hb)
  have R3 := Lib.hid (R2.out.below hb I2.out.1.size)
  clear hb
  go_wp2_with fail
  refine (to_ints R3.out I3.out.1.size (by have := HN.out; omega)).mono ?_
  rintro e w4 ⟨v4, rfl, hown, hb⟩
  have I4 := Lib.hid (I3.out.step hb)
  have R4 := Lib.hid (R3.out.below hb I3.out.1.size)
  have O4 := Lib.hid (Rd.of_own hown)
  clear hb hown
  obtain ⟨c0, c1, c2⟩ := I4.out.cells
  go_wp2_with fail
  refine (to_ring k p n _).mono ?_
  rintro e w5 ⟨rfl, hb⟩
  have I5 := Lib.hid (I4.out.step hb)
  have R5 := Lib.hid (R4.out.below hb I4.out.1.size)
  have O5 := Lib.hid (O4.out.below hb (Nat.le_refl _))
  have Z5 := Lib.hid hb.size
  clear hb c0 c1 c2
  go_wp2_with fail
  refine (fmt_elem_impl O5.out Z5.out HN.out HI.out (tab_below I5.out.1 HG.out HT.out)).mono ?_
  rw [← HR.out]
  rintro e w6 ⟨rfl, hb⟩
  have I6 := Lib.hid (I5.out.step hb)
  have R6 := Lib.hid (R5.out.below hb I5.out.1.size)
  have O6 := Lib.hid (O5.out.below hb Z5.out)
  have Z6 := Lib.hid (Nat.le_trans Z5.out hb.size)
  clear hb
  go_wp2_with fail
  refine (to_ints R6.out I6.out.1.size (by have := HN.out; omega)).mono ?_
  rintro e w7 ⟨v7, rfl, hown, hb⟩
  have I7 := Lib.hid (I6.out.step hb)
  have O7 := Lib.hid (O6.out.below hb Z6.out)
  have P7 := Lib.hid (Rd.of_own hown)
  clear hb hown
  go_wp2_with fail
  refine (eq_ints O7.out P7.out (by have := HN.out; omega)).mono ?_
  rintro e w8 ⟨rfl, q, rfl⟩
  go_wp2
  go_ret
  exact ⟨rfl, below_drewN I7.out.1 q⟩
theorem law_fmt_elem (k p n : Int) {v : Value} {xs : List Int} {w : World} (hI : allI xs) (hl : xs.length ≤ 281474976710656) (hr : Rd w.heap.size w v (ints xs)) (htab : Lib.TabIs Tryd.prog w "internal/strconv.uint64pow10" .u64 Lib.pow10Tab) :
    Calls Tryd.prog 3 #[ringV k p n, v] w fun e w' => e = .returned (.bool true) ∧ Below w.heap.size w w' := by
  obtain ⟨a, cap, rfl, -⟩ := ints_full_of hr (Nat.le_refl _)
  by_cases hn : xs.length ≤ 1048576
  · exact law_fmt_elem_small k p n a _ cap xs w rfl hn hI hr htab
  · exact law_fmt_elem_big k p n a _ cap w hl (by omega)

end Go.Proofs.YtceidekfcnmeaaaDoor
