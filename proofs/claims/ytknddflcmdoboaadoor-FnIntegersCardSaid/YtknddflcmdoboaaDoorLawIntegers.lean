
/- The law FnIntegers, walked. -/
import Derived.Test.YtknddflcmdoboaaDoorIntFacts
import Derived.Test.YtknddflcmdoboaaDoorMakeSize
import Derived.Test.YtknddflcmdoboaaDoorIntsSame
import Derived.Test.YtknddflcmdoboaaDoorJoin
namespace Go.Proofs.YtknddflcmdoboaaDoor
set_option maxRecDepth 20000
open Go.RowKit

set_option maxHeartbeats 400000 in
theorem law_integers_big (a : Option Addr) (n c : Nat) (w : World) (hb : 1048576 < n) (hc : n ≤ 281474976710656) :
    Calls Tryd.prog 3 #[.slice a n c] w fun e w' => e = .returned (.bool true) ∧ Below w.heap.size w w' := by
  go_enter Tryd.func3, Tryd.ntmps3
  go_wp2
  go_ret
  exact ⟨rfl, Below.refl _ _⟩
theorem tdiv7 {v : Int} (h1 : -65535 ≤ v) (h2 : v ≤ 65535 * 65535) : -65535 ≤ v.tdiv 7 ∧ v.tdiv 7 ≤ 65535 * 65535 := by
  by_cases h : 0 ≤ v
  · rw [Int.tdiv_eq_ediv_of_nonneg h]; omega
  · have e : v.tdiv 7 = -((-v) / 7) := by
      rw [← Int.tdiv_eq_ediv_of_nonneg (by omega), Int.neg_tdiv, Int.neg_neg]
    rw [e]; omega
theorem strs_form {B : Nat} {v : Value} {ss : List ByteArray} {w : World} (h : Rd B w v (strs ss)) : ∃ a cap, v = .slice a ss.length cap := by
  rcases h.strs_cases with ⟨rfl, a, ca, rfl⟩ | ⟨b, off, ca, rfl, hlt, -, hc⟩
  · exact ⟨a, ca, rfl⟩
  · exact ⟨_, ca, rfl⟩
set_option maxRecDepth 100000 in
set_option maxHeartbeats 3200000 in
theorem law_integers_small (a : Option Addr) (n c : Nat) (bs : List UInt8) (w : World) (hn : bs.length = n) (hs : n ≤ 1048576) (hr : Rd w.heap.size w (.slice a n c) (bytes8 bs)) (hv : LibVars w) :
    Calls Tryd.prog 3 #[.slice a n c] w fun e w' => e = .returned (.bool true) ∧ Below w.heap.size w w' := by
  have HR := Lib.hid hr
  have HN := Lib.hid (show bs.length ≤ 1048576 by omega)
  have HV := Lib.hid hv
  clear hr hn hv
  go_enter Tryd.func3, Tryd.ntmps3
  go_wp2_with fail
  refine (make_num 0 (by omega) HR.out HN.out).mono ?_
  rintro e w1 ⟨x, rfl, hx, hb⟩
  have B1 := Lib.hid hb
  have HR1 := Lib.hid ((HR.out.below hb (Nat.le_refl _)).mono hb.size)
  clear hb
  go_wp2_with fail
  refine (make_num 2 (by omega) HR1.out HN.out).mono ?_
  rintro e w2 ⟨y, rfl, hy, hb⟩
  have B2 := Lib.hid (B1.out.trans (hb.mono B1.out.size))
  have HR2 := Lib.hid ((HR1.out.below hb (Nat.le_refl _)).mono hb.size)
  clear hb
  obtain ⟨q, hq⟩ : ∃ q : Int, q = (x : Int) * (y : Int) := ⟨_, rfl⟩
  have hq2 : 0 ≤ q ∧ q ≤ 65535 * 65535 := by rw [hq]; exact ⟨Int.mul_nonneg (by omega) (by omega), Int.mul_le_mul (by omega) (by omega) (by omega) (by omega)⟩
  have hw1 : IntKind.i64.wrap ((x : Int) * (y : Int)) = q := by rw [← hq]; exact IntWalk.i64_in _ (by omega)
  clear hq
  go_wp2_with fail
  refine (make_num 4 (by omega) HR2.out HN.out).mono ?_
  rintro e w3 ⟨z, rfl, hz, hb⟩
  have B3 := Lib.hid (B2.out.trans (hb.mono B2.out.size))
  have HV3 := Lib.hid (HV.out.below B3.out)
  clear hb
  obtain ⟨v, hvv⟩ : ∃ v : Int, v = q - (z : Int) := ⟨_, rfl⟩
  have hv1 : -65535 ≤ v ∧ v ≤ 65535 * 65535 := by omega
  have hw2 : IntKind.i64.wrap (q - (z : Int)) = v := by rw [← hvv]; exact IntWalk.i64_in _ (by omega)
  have hw3 : IntKind.i64.wrap (-v) = -v := IntWalk.i64_in _ (by omega)
  obtain ⟨d, hd⟩ : ∃ d : Int, d = v.tdiv 7 := ⟨_, rfl⟩
  have hd1 : -65535 ≤ d ∧ d ≤ 65535 * 65535 := by rw [hd]; exact tdiv7 hv1.1 hv1.2
  have hw4 : IntKind.i64.wrap (v.tdiv 7) = d := by rw [← hd]; exact IntWalk.i64_in _ (by omega)
  have I1 : Hid (inI v) := Lib.hid ⟨by omega, by omega⟩
  have I2 : Hid (inI (-v)) := Lib.hid ⟨by omega, by omega⟩
  have I3 : Hid (inI d) := Lib.hid ⟨by omega, by omega⟩
  clear hvv hd hx hy hz hq2
  have R4 : Hid (Rd (w3.alloc (.cells #[.int .i64 v, .int .i64 (-v), .int .i64 d] 3)).heap.size (w3.alloc (.cells #[.int .i64 v, .int .i64 (-v), .int .i64 d] 3)) (.slice (some ⟨w3.heap.size, 0, none⟩) 3 3) (ints [v, -v, d])) := Lib.hid (Rd.of_own (World.ownsRow_lit (base := w3.heap.size) (e := 3) (size := 1) w3 #[.int .i64 v, .int .i64 (-v), .int .i64 d] 3 (Nat.le_refl _) (by unfold maxLen; omega) rfl))
  have B4 := Lib.hid (B3.out.alloc B3.out.size (.cells #[.int .i64 v, .int .i64 (-v), .int .i64 d] 3))
  have HV4 := Lib.hid (HV.out.below B4.out)
  have HA : Hid (allI [v, -v, d]) := Lib.hid (fun u hu => by
    simp only [List.mem_cons, List.not_mem_nil, or_false] at hu
    rcases hu with rfl | rfl | rfl
    · exact I1.out
    · exact I2.out
    · exact I3.out)
  obtain ⟨S, hS⟩ : ∃ S : ByteArray, S = ⟨(joinL [32] (texts [v, -v, d])).toArray⟩ := ⟨_, rfl⟩
  have HS := Lib.hid hS
  have HSZ : Hid (S.size ≤ 62) := Lib.hid (by rw [hS]; exact joinL_small 32 v (-v) d I1.out I2.out I3.out)
  obtain ⟨L, hL⟩ : ∃ L : ByteArray, L = ⟨(joinL [10] (texts [v, -v, d])).toArray⟩ := ⟨_, rfl⟩
  have HL := Lib.hid hL
  have HLZ : Hid (L.size ≤ 62) := Lib.hid (by rw [hL]; exact joinL_small 10 v (-v) d I1.out I2.out I3.out)
  clear hS hL
  go_wp2_with fail
  refine (impl_fmt v _ I1.out.1 I1.out.2 HV4.out.tab).mono ?_
  rintro e w5 ⟨rfl, hb⟩
  have B5 := Lib.hid (B4.out.trans (hb.mono B4.out.size))
  have R5 := Lib.hid ((R4.out.below hb (Nat.le_refl _)).mono hb.size)
  have HV5 := Lib.hid (HV.out.below B5.out)
  clear hb
  go_wp2_with fail
  refine (impl_parse_yes v _ I1.out HV5.out).mono ?_
  rintro e w6 ⟨rfl, hb⟩
  have B6 := Lib.hid (B5.out.trans (hb.mono B5.out.size))
  have R6 := Lib.hid ((R5.out.below hb (Nat.le_refl _)).mono hb.size)
  have HV6 := Lib.hid (HV.out.below B6.out)
  clear hb
  go_wp2_with fail
  refine (impl_fmts R6.out (Nat.le_refl _) (by simp) HA.out HV6.out.tab).mono ?_
  rw [← HS.out]
  rintro e w7 ⟨rfl, hb⟩
  have B7 := Lib.hid (B6.out.trans (hb.mono B6.out.size))
  have R7 := Lib.hid ((R6.out.below hb (Nat.le_refl _)).mono hb.size)
  have HV7 := Lib.hid (HV.out.below B7.out)
  clear hb
  go_wp2_with fail
  refine (impl_parses S _ (by have := HSZ.out; omega) HV7.out).mono ?_
  rintro e w8 ⟨vk, zs, fine, rfl, hpi, ho, hb⟩
  obtain ⟨rfl, rfl⟩ := hpi.unique (HS.out ▸ pi3 v (-v) d I1.out I2.out I3.out)
  have K8 := Lib.hid (Rd.of_own ho)
  have B8 := Lib.hid (B7.out.trans (hb.mono B7.out.size))
  have R8 := Lib.hid ((R7.out.below hb (Nat.le_refl _)).mono hb.size)
  have HV8 := Lib.hid (HV.out.below B8.out)
  clear hpi ho hb
  go_wp2_with fail
  refine (impl_fmts R8.out (Nat.le_refl _) (by simp) HA.out HV8.out.tab).mono ?_
  rw [← HS.out]
  rintro e w9 ⟨rfl, hb⟩
  have B9 := Lib.hid (B8.out.trans (hb.mono B8.out.size))
  have R9 := Lib.hid ((R8.out.below hb (Nat.le_refl _)).mono hb.size)
  have K9 := Lib.hid ((K8.out.below hb (Nat.le_refl _)).mono hb.size)
  have HV9 := Lib.hid (HV.out.below B9.out)
  clear hb
  have hz1 : ¬ 9223372036854775807 < 2 + S.size := by have := HSZ.out; omega
  have hz2 : ¬ 9223372036854775807 < 2 + S.size + 1 := by have := HSZ.out; omega
  have HW : Hid (wordsOf ({ data := #[32, 32] } ++ S ++ { data := #[32] }) = texts [v, -v, d]) := Lib.hid (words3 v (-v) d _ (by rw [HS.out]; simp))
  have HWZ : Hid (({ data := #[32, 32] } ++ S ++ { data := #[32] } : ByteArray).size ≤ 1048576) := Lib.hid (by
    have h1 := HSZ.out
    have e1 : ({ data := #[32, 32] } : ByteArray).size = 2 := rfl
    have e2 : ({ data := #[32] } : ByteArray).size = 1 := rfl
    rw [ByteArray.size_append, ByteArray.size_append, e1, e2]; omega)
  go_wp2_with fail
  refine (impl_words _ _ HWZ.out).mono ?_
  rw [HW.out]
  rintro e w10 ⟨vw, rfl, ho, hb⟩
  have W10 := Lib.hid (Rd.of_own ho)
  obtain ⟨aw, cw, rfl⟩ := strs_form W10.out
  have B10 := Lib.hid (B9.out.trans (hb.mono B9.out.size))
  have R10 := Lib.hid ((R9.out.below hb (Nat.le_refl _)).mono hb.size)
  have K10 := Lib.hid ((K9.out.below hb (Nat.le_refl _)).mono hb.size)
  have HV10 := Lib.hid (HV.out.below B10.out)
  have ht3 : (texts [v, -v, d]).length = 3 := rfl
  clear ho hb hz1 hz2
  rw [ht3] at W10 ⊢
  go_wp2_with fail
  refine (ints_same K10.out R10.out (by simp)).mono ?_
  rintro e w11 ⟨rfl, rfl⟩
  go_wp2_with fail
  refine (impl_join { data := #[32] } W10.out (Nat.le_refl _) (by rw [ht3]; omega) (Nat.le_trans (joinL_small 32 v (-v) d I1.out I2.out I3.out) (by omega))).mono ?_
  rw [show (⟨(joinL ({ data := #[32] } : ByteArray).data.toList (texts [v, -v, d])).toArray⟩ : ByteArray) = S from HS.out.symm]
  rintro e w12 ⟨rfl, hb⟩
  have B12 := Lib.hid (B10.out.trans (hb.mono B10.out.size))
  have R12 := Lib.hid ((R10.out.below hb (Nat.le_refl _)).mono hb.size)
  have W12 := Lib.hid ((W10.out.below hb (Nat.le_refl _)).mono hb.size)
  have HV12 := Lib.hid (HV.out.below B12.out)
  clear hb
  go_wp2_with fail
  refine (impl_fmts R12.out (Nat.le_refl _) (by simp) HA.out HV12.out.tab).mono ?_
  rw [← HS.out]
  rintro e w13 ⟨rfl, hb⟩
  have B13 := Lib.hid (B12.out.trans (hb.mono B12.out.size))
  have W13 := Lib.hid ((W12.out.below hb (Nat.le_refl _)).mono hb.size)
  clear hb
  go_wp2_with fail
  refine (impl_join { data := #[10] } W13.out (Nat.le_refl _) (by rw [ht3]; omega) (Nat.le_trans (joinL_small 10 v (-v) d I1.out I2.out I3.out) (by omega))).mono ?_
  rw [show (⟨(joinL ({ data := #[10] } : ByteArray).data.toList (texts [v, -v, d])).toArray⟩ : ByteArray) = L from HL.out.symm]
  rintro e w14 ⟨rfl, hb⟩
  have B14 := Lib.hid (B13.out.trans (hb.mono B13.out.size))
  clear hb
  go_wp2_with fail
  refine (impl_lines L _ (by have := HLZ.out; omega)).mono ?_
  rintro e w15 ⟨vl, rfl, ho, hb⟩
  have hl3 : (linesOf L).length = 3 := by rw [HL.out]; exact lines3 v (-v) d
  obtain ⟨al, cl, rfl⟩ := strs_form (Rd.of_own ho)
  have B15 := Lib.hid (B14.out.trans (hb.mono B14.out.size))
  rw [hl3]
  clear ho hb hl3
  go_wp2
  go_ret
  exact ⟨rfl, B15.out⟩

theorem law_integers {v : Value} {bs : List UInt8} {w : World} (hr : Rd w.heap.size w v (bytes8 bs)) (hl : bs.length ≤ 281474976710656) (hv : LibVars w) :
    Calls Tryd.prog 3 #[v] w fun e w' => e = .returned (.bool true) ∧ Below w.heap.size w w' := by
  obtain ⟨a, cap, rfl, -⟩ := bytes_cell hr
  by_cases hs : bs.length ≤ 1048576
  · exact law_integers_small a _ cap bs w rfl hs hr hv
  · exact law_integers_big a _ cap w (by omega) hl
end Go.Proofs.YtknddflcmdoboaaDoor
