/- The law FnExactJoin, walked. -/
import Derived.Test.YtbngllbbgjhckaaJoin
import Derived.Test.YtbngllbbgjhckaaEqStrs
import Derived.Test.YtbngllbbgjhckaaToStrs
import Derived.Test.YtbngllbbgjhckaaSzStrs
namespace Go.Proofs.Ytbngllbbgjhckaa
open Go.RowKit

theorem joinL_bound (b : List UInt8) (ss : List ByteArray) : (joinL b ss).length ≤ ss.length * b.length + (flat ss).length := by
  have hr : ∀ r : List ByteArray, (r.map fun y => b ++ y.data.toList).flatten.length ≤ r.length * b.length + (flat r).length := by
    intro r
    induction r with
    | nil => simp
    | cons y r ih =>
      have e : flat (y :: r) = y.data.toList ++ flat r := by simp [flat]
      rw [e]
      simp only [List.map_cons, List.flatten_cons, List.length_append, List.length_cons, Nat.succ_mul] at ih ⊢
      omega
  cases ss with
  | nil => simp [joinL]
  | cons x r =>
    have h := hr r
    have e : flat (x :: r) = x.data.toList ++ flat r := by simp [flat]
    rw [e]
    simp only [joinL, List.length_append, List.length_cons, Nat.succ_mul] at h ⊢
    omega
theorem join_fits {b : ByteArray} {ss : List ByteArray} (hb : b.size ≤ 1048576) (hs : ss.length + (flat ss).length ≤ 1048576) : (joinL b.data.toList ss).length ≤ 70368744177664 := by
  have h := joinL_bound b.data.toList ss
  have e : b.data.toList.length = b.size := by simp
  rw [e] at h
  have : ss.length * b.size ≤ 1048576 * 1048576 := Nat.mul_le_mul (by omega) hb
  omega

set_option maxHeartbeats 400000 in
theorem law_join_by (v : Value) (by' : ByteArray) (w : World) (hb : by'.size ≤ 281474976710656) (hbig : 1048576 < by'.size) :
    Calls Try.prog 5 #[v, .string by'] w fun e w' => e = .returned (.bool true) ∧ Below w.heap.size w w' := by
  go_enter Try.func5, Try.ntmps5
  go_wp2
  go_ret
  exact ⟨rfl, Below.refl _ _⟩

set_option maxHeartbeats 800000 in
theorem law_join (v : Value) (ss : List ByteArray) (by' : ByteArray) (w : World) (hb : by'.size ≤ 281474976710656) (hr : Rd w.heap.size w v (strs ss)) (hn : ss.length ≤ 8796093022208) (hm : ∀ s ∈ ss, s.size ≤ 9223372036854775807) :
    Calls Try.prog 5 #[v, .string by'] w fun e w' => e = .returned (.bool true) ∧ Below w.heap.size w w' := by
  by_cases hbig : 1048576 < by'.size
  · exact law_join_by v by' w hb hbig
  have HR := Lib.hid hr
  have HM := Lib.hid hm
  have HL := Lib.hid hn
  clear hr hm hn
  go_enter Try.func5, Try.ntmps5
  go_wp2_with fail
  refine (sz_strs HR.out (by have := HL.out; omega) HM.out).mono ?_
  rintro e w0 ⟨⟨r, rfl, h1, h2, h3⟩, rfl⟩
  have H3 := Lib.hid h3
  clear h3
  by_cases hneg : r < 0
  · go_wp2
    go_ret
    exact ⟨rfl, Below.refl _ _⟩
  have hfit := join_fits (by omega : by'.size ≤ 1048576) (H3.out (by omega))
  have HF := Lib.hid hfit
  have HS := Lib.hid (H3.out (by omega))
  clear hfit
  go_wp2_with fail
  refine (to_strs HR.out (Nat.le_refl _) HL.out).mono ?_
  rintro e w1 ⟨r1, rfl, hown1, hb1⟩
  have R1 := Lib.hid (Rd.of_own hown1)
  have B1 := Lib.hid hb1
  have HR1 := Lib.hid (HR.out.below hb1 (Nat.le_refl _))
  clear hown1 hb1
  go_wp2_with fail
  refine (spec_join by' R1.out (by have := HS.out; omega) HF.out).mono ?_
  rintro e w2 ⟨rfl, rfl⟩
  go_wp2_with fail
  refine (to_strs HR1.out B1.out.size HL.out).mono ?_
  rintro e w3 ⟨r3, rfl, hown3, hb3⟩
  have R3 := Lib.hid (Rd.of_own hown3)
  have B3 := Lib.hid (B1.out.trans (hb3.mono B1.out.size))
  have HR3 := Lib.hid (HR1.out.below hb3 B1.out.size)
  clear hown3 hb3
  go_wp2_with fail
  refine (impl_join by' R3.out (Nat.le_refl _) (by have := HS.out; omega) HF.out).mono ?_
  rintro e w4 ⟨rfl, hb4⟩
  have B4 := Lib.hid (B3.out.trans (hb4.mono B3.out.size))
  have R4 := Lib.hid (R3.out.below hb4 (Nat.le_refl _))
  have Z4 := Lib.hid hb4.size
  have HR4 := Lib.hid (HR3.out.below hb4 B3.out.size)
  clear hb4
  go_wp2_with fail
  refine (to_strs HR4.out B4.out.size HL.out).mono ?_
  rintro e w5 ⟨r5, rfl, hown5, hb5⟩
  have R5 := Lib.hid (Rd.of_own hown5)
  have B5 := Lib.hid (B4.out.trans (hb5.mono B4.out.size))
  have R45 := Lib.hid (R4.out.below hb5 Z4.out)
  clear hown5 hb5
  go_wp2_with fail
  refine (eq_strs R45.out R5.out (by have := HL.out; omega)).mono ?_
  rintro e w6 ⟨rfl, q, rfl⟩
  go_wp2
  go_ret
  exact ⟨rfl, below_drewN B5.out q⟩
end Go.Proofs.Ytbngllbbgjhckaa
