
/- The laws FnExactFormatRing, FnExactParseRing, FnExactFormatElem, FnExactParseElem, walked. -/
import Derived.Test.YtghhlknfeogadaaDoorSpecRing
import Derived.Test.YtghhlknfeogadaaDoorSpecElem
import Derived.Test.YtghhlknfeogadaaDoorEqInts
import Derived.Test.YtghhlknfeogadaaDoorMarkInts
namespace Go.Proofs.YtghhlknfeogadaaDoor
set_option maxRecDepth 20000
set_option maxRecDepth 20000
open Go.RowKit

theorem same_str (l : List UInt8) : (l != l) = false := by simp
set_option maxHeartbeats 800000 in
theorem law_fmt_ring (k p n : Int) (w : World) (htab : Lib.TabIs Tryd.prog w "internal/strconv.uint64pow10" .u64 Lib.pow10Tab) :
    Calls Tryd.prog 5 #[ringV k p n] w fun e w' => e = .returned (.bool true) ∧ Below w.heap.size w w' := by
  have hg := tab_size htab
  have HT := Lib.hid htab
  have HG := Lib.hid hg
  have I0 := Lib.hid (Inv.box w k p n 32)
  obtain ⟨t, ht⟩ : ∃ t, t = fmtRing k p n := ⟨_, rfl⟩
  have HR := Lib.hid ht
  have hq : (t == t) = true := by simp
  clear htab hg ht
  go_enter Tryd.func5, Tryd.ntmps5
  go_wp2_with fail
  refine (Inv.call I0 (to_ring k p n _)).mono ?_
  rintro e w1 ⟨rfl, I1, c0, c1, c2⟩
  go_wp2_with fail
  refine (Inv.call I1 (fmt_ring_spec k p n _)).mono ?_
  rw [← HR.out]
  clear c0 c1 c2
  rintro e w2 ⟨rfl, I2, c0, c1, c2⟩
  go_wp2_with fail
  refine (Inv.call I2 (to_ring k p n _)).mono ?_
  clear c0 c1 c2
  rintro e w3 ⟨rfl, I3, c0, c1, c2⟩
  go_wp2_with fail
  refine (fmt_ring_impl k p n _ (tab_below I3.out.1 HG.out HT.out)).mono ?_
  rw [← HR.out]
  clear c0 c1 c2
  rintro e w4 ⟨rfl, hb⟩
  have I4 := Lib.hid (I3.out.step hb)
  clear hb
  go_wp2
  go_ret
  exact ⟨rfl, I4.out.1⟩

set_option maxHeartbeats 400000 in
theorem eq_ring (k p n : Int) (w : World) : Calls Tryd.prog 22 #[ringV k p n, ringV k p n] w fun e w' => e = .returned (.bool true) ∧ Below w.heap.size w w' := by
  go_enter Tryd.func22, Tryd.ntmps22
  go_wp2
  go_ret
  exact ⟨rfl, ((Below.refl _ _).alloc (Nat.le_refl _) _).alloc (by simp) _⟩
set_option maxHeartbeats 400000 in
theorem law_parse_ring_big (s : ByteArray) (w : World) (hs : s.size ≤ 281474976710656) (hbig : 1048576 < s.size) :
    Calls Tryd.prog 6 #[.string s] w fun e w' => e = .returned (.bool true) ∧ Below w.heap.size w w' := by
  go_enter Tryd.func6, Tryd.ntmps6
  go_wp2
  go_ret
  exact ⟨rfl, Below.refl _ _⟩
set_option maxHeartbeats 800000 in
theorem law_parse_ring (s : ByteArray) (w : World) (hs : s.size ≤ 281474976710656) (hv : LibVars w) :
    Calls Tryd.prog 6 #[.string s] w fun e w' => e = .returned (.bool true) ∧ Below w.heap.size w w' := by
  by_cases hbig : 1048576 < s.size
  · exact law_parse_ring_big s w hs hbig
  have hsm : s.size ≤ 1048576 := by omega
  have HV := Lib.hid hv
  clear hbig hv
  go_enter Tryd.func6, Tryd.ntmps6
  go_wp2_with fail
  refine (parse_ring_spec s w hsm).mono ?_
  rintro e w1 ⟨k, p, n, b, rfl, ha, hb1⟩
  have HA := Lib.hid ha
  have I1 : Hid (Inv w (w1.alloc (.cells (ringC k p n) 34)) w1.heap.size k p n) := ⟨hb1.alloc hb1.size _, BoxAt.new w1 k p n _, by simp⟩
  clear ha hb1
  go_wp2_with fail
  refine (parse_ring_impl s _ hsm (HV.out.below I1.out.1)).mono ?_
  rintro e w2 ⟨k2, p2, n2, b2, rfl, ha2, hb2⟩
  obtain ⟨rfl, rfl, rfl, rfl⟩ := HA.out.unique ha2
  have I2 := Lib.hid (I1.out.step hb2)
  have hbb : (b != b) = false := by cases b <;> rfl
  have I3 : Hid (Inv w (w2.alloc (.cells (ringC k p n) 34)) w2.heap.size k p n) := ⟨I2.out.1.alloc I2.out.1.size _, BoxAt.new w2 k p n _, by simp⟩
  obtain ⟨c0, c1, c2⟩ := I2.out.cells
  have hlt := I2.out.2.2
  clear ha2 hb2
  go_wp2_with fail
  refine (eq_ring k p n _).mono ?_
  rintro e w3 ⟨rfl, hb3⟩
  have I4 := Lib.hid (I3.out.step hb3)
  clear hb3 c0 c1 c2
  go_wp2
  go_ret
  exact ⟨rfl, I4.out.1⟩

set_option maxHeartbeats 400000 in
theorem law_fmt_elem_big (k p n : Int) (a : Option Addr) (m cap : Nat) (w : World) (hn : m ≤ 281474976710656) (hbig : 1048576 < m) :
    Calls Tryd.prog 7 #[ringV k p n, .slice a m cap] w fun e w' => e = .returned (.bool true) ∧ Below w.heap.size w w' := by
  go_enter Tryd.func7, Tryd.ntmps7
  go_wp2
  go_ret
  exact ⟨rfl, (Below.refl _ _).alloc (Nat.le_refl _) _⟩
set_option maxHeartbeats 1600000 in
theorem law_fmt_elem_small (k p n : Int) (a : Option Addr) (m cap : Nat) (xs : List Int) (w : World) (hx : xs.length = m) (hn : m ≤ 1048576) (hI : allI xs) (hr : Rd w.heap.size w (.slice a m cap) (ints xs)) (htab : Lib.TabIs Tryd.prog w "internal/strconv.uint64pow10" .u64 Lib.pow10Tab) :
    Calls Tryd.prog 7 #[ringV k p n, .slice a m cap] w fun e w' => e = .returned (.bool true) ∧ Below w.heap.size w w' := by
  have hg := tab_size htab
  have HT := Lib.hid htab
  have HG := Lib.hid hg
  have I0 := Lib.hid (Inv.box w k p n 32)
  have R0 := Lib.hid (hr.below I0.out.1 (Nat.le_refl _))
  have HN := Lib.hid (show xs.length ≤ 1048576 by omega)
  have HI := Lib.hid hI
  obtain ⟨t, ht⟩ : ∃ t, t = fmtElem k p n xs := ⟨_, rfl⟩
  have HR := Lib.hid ht
  have hq : (t == t) = true := by simp
  clear htab hg ht hx hI hr
  go_enter Tryd.func7, Tryd.ntmps7
  go_wp2_with fail
  refine (to_ring k p n _).mono ?_
  rintro e w1 ⟨rfl, hb⟩
  have I1 := Lib.hid (I0.out.step hb)
  have R1 := Lib.hid (R0.out.below hb I0.out.1.size)
  clear hb
  go_wp2_with fail
  refine (to_ints R1.out I1.out.1.size (by have := HN.out; omega)).mono ?_
  rintro e w2 ⟨v2, rfl, hown, hb⟩
  have I2 := Lib.hid (I1.out.step hb)
  have R2 := Lib.hid (R1.out.below hb I1.out.1.size)
  have O2 := Lib.hid (Rd.of_own hown)
  clear hb hown
  go_wp2_with fail
  refine (fmt_elem_spec O2.out (Nat.le_refl _) HN.out HI.out).mono ?_
  rw [← HR.out]
  rintro e w3 ⟨rfl, hb⟩
  have I3 := Lib.hid (I2.out.step hb)
  have R3 := Lib.hid (R2.out.below hb I2.out.1.size)
  clear hb
  go_wp2_with fail
  refine (to_ints R3.out I3.out.1.size (by have := HN.out; omega)).mono ?_
  rintro e w4 ⟨v4, rfl, hown, hb⟩
  have I4 := Lib.hid (I3.out.step hb)
  have R4 := Lib.hid (R3.out.below hb I3.out.1.size)
  have O4 := Lib.hid (Rd.of_own hown)
  clear hb hown
  obtain ⟨c0, c1, c2⟩ := I4.out.cells
  go_wp2_with fail
  refine (to_ring k p n _).mono ?_
  rintro e w5 ⟨rfl, hb⟩
  have I5 := Lib.hid (I4.out.step hb)
  have R5 := Lib.hid (R4.out.below hb I4.out.1.size)
  have O5 := Lib.hid (O4.out.below hb (Nat.le_refl _))
  have Z5 := Lib.hid hb.size
  clear hb c0 c1 c2
  go_wp2_with fail
  refine (fmt_elem_impl O5.out Z5.out HN.out HI.out (tab_below I5.out.1 HG.out HT.out)).mono ?_
  rw [← HR.out]
  rintro e w6 ⟨rfl, hb⟩
  have I6 := Lib.hid (I5.out.step hb)
  have R6 := Lib.hid (R5.out.below hb I5.out.1.size)
  have O6 := Lib.hid (O5.out.below hb Z5.out)
  have Z6 := Lib.hid (Nat.le_trans Z5.out hb.size)
  clear hb
  go_wp2_with fail
  refine (to_ints R6.out I6.out.1.size (by have := HN.out; omega)).mono ?_
  rintro e w7 ⟨v7, rfl, hown, hb⟩
  have I7 := Lib.hid (I6.out.step hb)
  have O7 := Lib.hid (O6.out.below hb Z6.out)
  have P7 := Lib.hid (Rd.of_own hown)
  clear hb hown
  go_wp2_with fail
  refine (eq_ints O7.out P7.out (by have := HN.out; omega)).mono ?_
  rintro e w8 ⟨rfl, q, rfl⟩
  go_wp2
  go_ret
  exact ⟨rfl, below_drewN I7.out.1 q⟩
theorem law_fmt_elem (k p n : Int) {v : Value} {xs : List Int} {w : World} (hI : allI xs) (hl : xs.length ≤ 281474976710656) (hr : Rd w.heap.size w v (ints xs)) (htab : Lib.TabIs Tryd.prog w "internal/strconv.uint64pow10" .u64 Lib.pow10Tab) :
    Calls Tryd.prog 7 #[ringV k p n, v] w fun e w' => e = .returned (.bool true) ∧ Below w.heap.size w w' := by
  obtain ⟨a, cap, rfl, -⟩ := ints_full_of hr (Nat.le_refl _)
  by_cases hn : xs.length ≤ 1048576
  · exact law_fmt_elem_small k p n a _ cap xs w rfl hn hI hr htab
  · exact law_fmt_elem_big k p n a _ cap w hl (by omega)

set_option maxHeartbeats 400000 in
theorem law_parse_elem_big (k p n : Int) (s : ByteArray) (w : World) (hs : s.size ≤ 281474976710656) (hbig : 1048576 < s.size) :
    Calls Tryd.prog 8 #[ringV k p n, .string s] w fun e w' => e = .returned (.bool true) ∧ Below w.heap.size w w' := by
  go_enter Tryd.func8, Tryd.ntmps8
  go_wp2
  go_ret
  exact ⟨rfl, (Below.refl _ _).alloc (Nat.le_refl _) _⟩
set_option maxHeartbeats 1600000 in
theorem law_parse_elem (k p n : Int) (s : ByteArray) (w : World) (hs : s.size ≤ 281474976710656) (hv : LibVars w) :
    Calls Tryd.prog 8 #[ringV k p n, .string s] w fun e w' => e = .returned (.bool true) ∧ Below w.heap.size w w' := by
  by_cases hbig : 1048576 < s.size
  · exact law_parse_elem_big k p n s w hs hbig
  have hsm : s.size ≤ 1048576 := by omega
  have HV := Lib.hid hv
  have I0 := Lib.hid (Inv.box w k p n 32)
  clear hbig hv
  go_enter Tryd.func8, Tryd.ntmps8
  go_wp2_with fail
  refine (Inv.call I0 (to_ring k p n _)).mono ?_
  rintro e w1 ⟨rfl, I1, c0, c1, c2⟩
  go_wp2_with fail
  refine (parse_elem_spec k p n s w1 hsm).mono ?_
  rintro e w2 ⟨v0, L, b, rfl, hpi, hown0, hb⟩
  have hL := hpi.len
  obtain ⟨m, hm⟩ : ∃ m, m = L.length := ⟨_, rfl⟩
  rw [← hm] at hL hown0
  have HM := Lib.hid hm
  have hm2 : m ≤ 1048577 := by omega
  have HPI := Lib.hid hpi
  have R2 := Lib.hid (Rd.of_own hown0)
  have I2 := Lib.hid (I1.out.step hb)
  clear hown0 hb hm hL hpi c0 c1 c2
  obtain ⟨c0, c1, c2⟩ := I2.out.cells
  go_wp2_with fail
  refine (to_ring k p n _).mono ?_
  rintro e w3 ⟨rfl, hb⟩
  have I3 := Lib.hid (I2.out.step hb)
  have R3 := Lib.hid (R2.out.below hb (Nat.le_refl _))
  have Z3 := Lib.hid hb.size
  clear hb c0 c1 c2
  go_wp2_with fail
  refine (parse_elem_impl k p n s w3 hsm (HV.out.below I3.out.1)).mono ?_
  rintro e w4 ⟨v4, L4, b4, rfl, hpi4, hown4, hb⟩
  obtain ⟨rfl, rfl⟩ := HPI.out.unique hpi4
  rw [← HM.out] at hown4
  have O4 := Lib.hid hown4
  have R4 := Lib.hid (Rd.of_own hown4)
  have C4 := Lib.hid hb
  have I4 := Lib.hid (I3.out.step hb)
  have S4 := Lib.hid (R3.out.below hb Z3.out)
  clear hown4 hb hpi4
  go_wp2_with fail
  refine (eq_ints R4.out S4.out (by rw [← HM.out]; omega)).mono ?_
  rintro e w4q ⟨rfl, q, rfl⟩
  have O4q : Hid ((w4.drewN q).ownsRow w3.heap.size 3 1 v4 m (ints L)) := O4.out
  have C4q := Lib.hid (below_drewN C4.out q)
  have hbb : (b != b) = false := by cases b <;> rfl
  go_wp2_with fail
  refine (mark_ints O4q.out (by omega)).mono ?_
  rintro e w5 ⟨rfl, hown5, hg5⟩
  have C5 := Lib.hid (C4q.out.grown hg5 C4q.out.size (fun g hg => (O4q.out.lt g hg).1))
  have R5 := Lib.hid (Rd.of_own hown5)
  have I5 := Lib.hid (I3.out.step C5.out)
  clear hown5 hg5
  go_wp2_with fail
  refine (held_ints R5.out (by omega)).mono ?_
  rintro e w6 ⟨rfl, rfl⟩
  obtain ⟨c0, c1, c2⟩ := I5.out.cells
  go_wp2_with fail
  refine (to_ring k p n _).mono ?_
  rintro e w7 ⟨rfl, hb⟩
  have I7 := Lib.hid (I5.out.step hb)
  have R7 := Lib.hid (R5.out.below hb (Nat.le_refl _))
  have C7 := Lib.hid (C5.out.trans (hb.mono C5.out.size))
  have Z7 := Lib.hid hb.size
  clear hb c0 c1 c2
  go_wp2_with fail
  refine (parse_elem_impl k p n s w7 hsm (HV.out.below I7.out.1)).mono ?_
  rintro e w8 ⟨v8, L8, b8, rfl, hpi8, hown8, hb⟩
  obtain ⟨rfl, rfl⟩ := HPI.out.unique hpi8
  have R8 := Lib.hid (Rd.of_own hown8)
  have I8 := Lib.hid (I7.out.step hb)
  have S8 := Lib.hid (R7.out.below hb Z7.out)
  have C8 := Lib.hid (C7.out.trans (hb.mono C7.out.size))
  clear hown8 hb hpi8
  go_wp2_with fail
  refine (eq_ints R8.out (R3.out.below C8.out Z3.out) (by rw [← HM.out]; omega)).mono ?_
  rintro e w8q ⟨rfl, q8, rfl⟩
  have S9 : Hid (Rd w5.heap.size (w8.drewN q8) v4 (ints (imarks m))) := S8.out.drewN q8
  have I9 := Lib.hid (I8.out.drewN q8)
  go_wp2_with fail
  refine (held_ints S9.out (by omega)).mono ?_
  rintro e w9 ⟨rfl, rfl⟩
  go_wp2
  go_ret
  exact ⟨rfl, I9.out.1⟩
end Go.Proofs.YtghhlknfeogadaaDoor
