
/- laws.ints and laws.same on what reads the same (the same two theorems as in AssocKit: never import both). -/
import Derived.Test.YtceidekfcnmeaaaGreatDoorLawKit
import Derived.Test.YtceidekfcnmeaaaGreatDoorTensorOk
import Derived.Test.YtceidekfcnmeaaaGreatDoorPermSpec
import Derived.Test.YtceidekfcnmeaaaGreatDoorOpen
import Derived.Lib.Hide
namespace Go.Proofs.YtceidekfcnmeaaaGreatDoor
set_option maxRecDepth 20000
open Go.RowKit

set_option maxHeartbeats 800000 in
theorem ints_same {B B' : Nat} {va vb : Value} {xs : List Int} {w : World} (ha : Rd B w va (ints xs)) (hb : Rd B' w vb (ints xs)) (hn : xs.length ≤ 281474976710656) :
    Calls Tryz.prog 13 #[va, vb] w fun e w' => e = .returned (.bool true) ∧ w = w' := by
  obtain ⟨a, ca, rfl, hca⟩ := ints_form ha
  obtain ⟨b, cb, rfl, hcb⟩ := ints_form hb
  obtain ⟨n, hnn⟩ : ∃ n, n = xs.length := ⟨_, rfl⟩
  rw [← hnn] at hn ⊢
  have HN := Lib.hid hnn.symm
  have HA := Lib.hid hca
  have HBB := Lib.hid hcb
  clear ha hb hca hcb hnn
  go_enter Tryz.func13, Tryz.ntmps13
  go_wp2
  go_loop [9] (fun i => ∃ j : Nat, j ≤ n ∧ i = .int .i64 j) (fun i => n - (intOf i).toNat)
  case atStart => exact ⟨0, by omega, rfl⟩
  case round =>
    obtain ⟨j, hj, rfl⟩ := hrel
    by_cases hlt : j < n
    · obtain ⟨ba, oa, rfl, -, hc1⟩ := HA.out (by rw [HN.out]; omega)
      obtain ⟨bb, ob, rfl, -, hc2⟩ := HBB.out (by rw [HN.out]; omega)
      obtain ⟨x, e1, X1⟩ := ints_cell HN.out hc1 hlt
      obtain ⟨y, e2, Y1⟩ := ints_cell HN.out hc2 hlt
      obtain rfl : x = y := Option.some.inj (X1.out.symm.trans Y1.out)
      have hge : decide (n ≤ j) = false := by simp; omega
      clear hc1 hc2
      go_wp2
      go_round
      case rel => exact ⟨j + 1, by omega, by go_num⟩
      case measure => simp [intOf]; omega
    · obtain rfl : j = n := by omega
      go_wp2
      go_ret
      exact ⟨rfl, rfl⟩

set_option maxHeartbeats 800000 in
theorem same_yes {B B' : Nat} {lv dv xv lu du xu : Value} {L D X : List Int} {w : World} (ha : RdT B w lv dv xv L D X) (hb : RdT B' w lu du xu L D X) (hB : B ≤ w.heap.size) (hB' : B' ≤ w.heap.size) (hn : LenT L D X) :
    Calls Tryz.prog 14 #[tenV lv dv xv, tenV lu du xu] w fun e w' => e = .returned (.bool true) ∧ Below w.heap.size w w' := by
  have hbel : Below w.heap.size w ((w.alloc (.cells #[lv, dv, xv] 29)).alloc (.cells #[lu, du, xu] 29)) := ((Below.refl _ _).alloc (Nat.le_refl _) _).alloc (by simp) _
  have HA := Lib.hid (ha.below hbel hB)
  have HU := Lib.hid (hb.below hbel hB')
  have E1 := Lib.hid (ints_same HA.out.l HU.out.l hn.l)
  have E2 := Lib.hid (ints_same HA.out.d HU.out.d hn.d)
  have E3 := Lib.hid (ints_same HA.out.x HU.out.x hn.x)
  have HBL := Lib.hid hbel
  obtain ⟨al, cl, rfl, -⟩ := ints_form ha.l
  obtain ⟨ad, cd, rfl, -⟩ := ints_form ha.d
  obtain ⟨ax, cx, rfl, -⟩ := ints_form ha.x
  obtain ⟨bl, kl, rfl, -⟩ := ints_form hb.l
  obtain ⟨bd, kd, rfl, -⟩ := ints_form hb.d
  obtain ⟨bx, kx, rfl, -⟩ := ints_form hb.x
  clear ha hb hB hB' hn hbel HA HU
  go_enter Tryz.func14, Tryz.ntmps14
  go_wp2_with fail
  refine E1.out.mono ?_
  rintro e w1 ⟨rfl, rfl⟩
  go_wp2_with fail
  refine E2.out.mono ?_
  rintro e w1 ⟨rfl, rfl⟩
  go_wp2_with fail
  refine E3.out.mono ?_
  rintro e w1 ⟨rfl, rfl⟩
  go_wp2
  go_ret
  exact ⟨rfl, HBL.out⟩
theorem own_slice {w : World} {lo hi : Nat} {v : Value} {xs : List Int} (h : Own w lo hi v xs) : ∃ a n c, v = .slice a n c := by
  obtain ⟨a, c, e, -⟩ := ints_form h.rd
  exact ⟨a, _, c, e⟩
theorem tenlen {k p q : Int} {L D X : List Int} (h : tensorB k p q L D X = true) : LenT L D X := by
  have h1 := ten_lens h
  exact ⟨by omega, by omega, by omega⟩
theorem tenints {k p q : Int} {L D X : List Int} (h : tensorB k p q L D X = true) : allI L := fun z hz => by
  have := (tensor_axes h).2.2.1 z hz
  exact ⟨by omega, by omega⟩
end Go.Proofs.YtceidekfcnmeaaaGreatDoor
