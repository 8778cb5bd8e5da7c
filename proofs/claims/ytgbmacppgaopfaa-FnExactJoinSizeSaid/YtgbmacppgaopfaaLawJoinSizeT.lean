
/- The law FnExactJoinSize, walked. -/
import Derived.Test.YtgbmacppgaopfaaSpecW
import Derived.Test.YtgbmacppgaopfaaSizeJoin
import Derived.Test.YtgbmacppgaopfaaBx
import Derived.Deep.RegionHeld3
import Derived.Deep.DeepCutAuto
namespace Go.Proofs.Ytgbmacppgaopfaa
set_option maxRecDepth 20000
open Go.RowKit

set_option maxHeartbeats 64000000 in
theorem law_join_size_small   (atL : Option Addr) (ctL : Nat) (tL : List Int) (atD : Option Addr) (ctD : Nat) (tD : List Int) (atX : Option Addr) (ctX : Nat) (tX : List Int) (auL : Option Addr) (cuL : Nat) (uL : List Int) (auD : Option Addr) (cuD : Nat) (uD : List Int) (auX : Option Addr) (cuX : Nat) (uX : List Int) (w : World) (RtL : Hid (Rd w.heap.size w (.slice atL tL.length ctL) (ints tL))) (RtD : Hid (Rd w.heap.size w (.slice atD tD.length ctD) (ints tD))) (RtX : Hid (Rd w.heap.size w (.slice atX tX.length ctX) (ints tX))) (RuL : Hid (Rd w.heap.size w (.slice auL uL.length cuL) (ints uL))) (RuD : Hid (Rd w.heap.size w (.slice auD uD.length cuD) (ints uD))) (RuX : Hid (Rd w.heap.size w (.slice auX uX.length cuX) (ints uX)))  (ztL : tL.length ≤ 281474976710656) (ztD : tD.length ≤ 281474976710656) (ztX : tX.length ≤ 281474976710656) (zuL : uL.length ≤ 281474976710656) (zuD : uD.length ≤ 281474976710656) (zuX : uX.length ≤ 281474976710656) (hI : allI tL) (hJ : allI uL) :
    Calls Try.prog 10 #[tenV (.slice atL tL.length ctL) (.slice atD tD.length ctD) (.slice atX tX.length ctX), tenV (.slice auL uL.length cuL) (.slice auD uD.length cuD) (.slice auX uX.length cuX)] w fun e w' => e = .returned (.bool true) ∧ Below w.heap.size w w' := by
  obtain ⟨R, hR⟩ : ∃ R : Int, R = joinSizeI tL tD uL uD := ⟨_, rfl⟩
  have HR := Lib.hid hR
  clear hR
  have HhI := Lib.hid hI
  clear hI
  have HhJ := Lib.hid hJ
  clear hJ
  have BtL : Hid (tL.length ≤ 281474976710656) := Lib.hid (by omega)
  have BtD : Hid (tD.length ≤ 281474976710656) := Lib.hid (by omega)
  have BtX : Hid (tX.length ≤ 281474976710656) := Lib.hid (by omega)
  have BuL : Hid (uL.length ≤ 281474976710656) := Lib.hid (by omega)
  have BuD : Hid (uD.length ≤ 281474976710656) := Lib.hid (by omega)
  have BuX : Hid (uX.length ≤ 281474976710656) := Lib.hid (by omega)
  have E0 := Lib.hid (St.start w (R := [(.slice atL tL.length ctL, tL), (.slice atD tD.length ctD, tD), (.slice atX tX.length ctX, tX), (.slice auL uL.length cuL, uL), (.slice auD uD.length cuD, uD), (.slice auX uX.length cuX, uX)]) (by intro r hr; simp only [List.mem_cons, List.not_mem_nil, or_false] at hr; rcases hr with rfl | rfl | rfl | rfl | rfl | rfl <;> first | exact RtL.out | exact RtD.out | exact RtX.out | exact RuL.out | exact RuD.out | exact RuX.out))
  have E0 := Lib.hid (E0.out.box3 (.slice atL tL.length ctL) (.slice atD tD.length ctD) (.slice atX tX.length ctX) 47)
  have E0 := Lib.hid (E0.out.box3 (.slice auL uL.length cuL) (.slice auD uD.length cuD) (.slice auX uX.length cuX) 47)
  simp only [World.size_alloc] at E0
  clear RtL RtD RtX RuL RuD RuX
  go_enter Try.func10, Try.ntmps10
  obtain ⟨-, -, -, c00, c01, c02, -⟩ := E0.out.cells
  go_wp2_with fail
  refine (sz_ten_full atL tL.length ctL atD tD.length ctD atX tX.length ctX 1048576 _ (by omega) (by omega) BtL.out BtD.out BtX.out).mono ?_
  rintro e w1 ⟨z, rfl, hz, hb⟩
  have E1 := Lib.hid (E0.out.step hb)
  clear hb
  rcases hz with rfl | ⟨hz0, hz1⟩
  case inl => go_wp2; go_ret; exact ⟨rfl, E1.out.bel⟩
  have qz : ¬ z < 0 := by omega
  have hzb : z ≤ 1048576 := by omega
  have BtL : Hid (tL.length ≤ 1048576) := Lib.hid (by omega)
  have BtD : Hid (tD.length ≤ 1048576) := Lib.hid (by omega)
  have BtX : Hid (tX.length ≤ 1048576) := Lib.hid (by omega)
  clear hz1
  clear c00 c01 c02
  obtain ⟨c10, c11, c12, -, -, -, -⟩ := E1.out.cells
  go_wp2_with fail
  refine (sz_ten_full auL uL.length cuL auD uD.length cuD auX uX.length cuX z _ (by omega) (by omega) BuL.out BuD.out BuX.out).mono ?_
  rintro e w2 ⟨za, rfl, hz, hb⟩
  have E2 := Lib.hid (E1.out.step hb)
  clear hb
  rcases hz with rfl | ⟨hza0, hz1⟩
  case inl => go_wp2; go_ret; exact ⟨rfl, E2.out.bel⟩
  have qza : ¬ za < 0 := by omega
  have hzab : za ≤ 1048576 := by omega
  have BuL : Hid (uL.length ≤ 1048576) := Lib.hid (by omega)
  have BuD : Hid (uD.length ≤ 1048576) := Lib.hid (by omega)
  have BuX : Hid (uX.length ≤ 1048576) := Lib.hid (by omega)
  clear hz1
  have E2d := Lib.hid E2.out.drew
  clear c10 c11 c12
  obtain ⟨c10, c11, c12, c00, c01, c02, -⟩ := E2.out.cells
  go_wp2
  have tk8_0 : True := trivial
  have tk8_1 : True := trivial
  have tk8_2 : True := trivial
  go_region_held3 (fun w' => w'.cell? ⟨w.heap.size + 1, 0, none⟩ = some (.slice auL uL.length cuL) ∧ w'.cell? ⟨w.heap.size + 1, 1, none⟩ = some (.slice auD uD.length cuD) ∧ w'.cell? ⟨w.heap.size + 1, 2, none⟩ = some (.slice auX uX.length cuX) ∧ w'.cell? ⟨w.heap.size, 0, none⟩ = some (.slice atL tL.length ctL) ∧ w'.cell? ⟨w.heap.size, 1, none⟩ = some (.slice atD tD.length ctD) ∧ w'.cell? ⟨w.heap.size, 2, none⟩ = some (.slice atX tX.length ctX)) (first | exact ⟨c10, c11, c12, c00, c01, c02⟩) (first
    | (go_at_call 37; have _t := tk8_0; refine (to_ten ⟨((E2d.out.rdAt 0 rfl).mono E2d.out.bel.size), ((E2d.out.rdAt 1 rfl).mono E2d.out.bel.size), ((E2d.out.rdAt 2 rfl).mono E2d.out.bel.size)⟩ (Nat.le_refl _) (by have := BtL.out; omega) (by have := BtD.out; omega) (by have := BtX.out; omega)).mono ?_; rintro e w3 ⟨v0, v1, v2, rfl, ho, hb⟩; obtain ⟨b0, d0, rfl, -⟩ := ints_form ho.rows.1.rd; obtain ⟨b1, d1, rfl, -⟩ := ints_form ho.rows.2.1.rd; obtain ⟨b2, d2, rfl, -⟩ := ints_form ho.rows.2.2.rd; have E3 := Lib.hid (E2d.out.grp hb ho); clear hb ho; obtain ⟨c10, c11, c12, c00, c01, c02, -⟩ := E3.out.cells; clear tk8_0)
    | (go_at_call 37; have _t := tk8_1; refine (to_ten ⟨((E3.out.rdAt 3 rfl).mono E3.out.bel.size), ((E3.out.rdAt 4 rfl).mono E3.out.bel.size), ((E3.out.rdAt 5 rfl).mono E3.out.bel.size)⟩ (Nat.le_refl _) (by have := BuL.out; omega) (by have := BuD.out; omega) (by have := BuX.out; omega)).mono ?_; rintro e w4 ⟨v0, v1, v2, rfl, ho, hb⟩; obtain ⟨b3, d3, rfl, -⟩ := ints_form ho.rows.1.rd; obtain ⟨b4, d4, rfl, -⟩ := ints_form ho.rows.2.1.rd; obtain ⟨b5, d5, rfl, -⟩ := ints_form ho.rows.2.2.rd; have E4 := Lib.hid (E3.out.grp hb ho); clear hb ho; obtain ⟨c10, c11, c12, c00, c01, c02, -⟩ := E4.out.cells; clear tk8_1)
    | (go_at_call 44; have _t := tk8_2; refine (join_size_spec ⟨(E4.out.rowAt 1 0 rfl rfl), (E4.out.rowAt 1 1 rfl rfl), (E4.out.rowAt 1 2 rfl rfl)⟩ ⟨(E4.out.rowAt 0 0 rfl rfl), (E4.out.rowAt 0 1 rfl rfl), (E4.out.rowAt 0 2 rfl rfl)⟩ (Nat.le_refl _) (Nat.le_refl _) ⟨(by have := BtL.out; omega), (by have := BtD.out; omega), (by have := BtX.out; omega)⟩ ⟨(by have := BuL.out; omega), (by have := BuD.out; omega), (by have := BuX.out; omega)⟩).mono ?_; rw [← HR.out]; rintro e w5 ⟨rfl, hb⟩; have E5 := Lib.hid (E4.out.step hb); clear hb; obtain ⟨c10, c11, c12, c00, c01, c02, -⟩ := E5.out.cells; clear tk8_2))
  obtain ⟨-, -, -, c00, c01, c02, -⟩ := E5.out.cells
  go_wp2_with fail
  refine (to_ten ⟨((E5.out.rdAt 0 rfl).mono E5.out.bel.size), ((E5.out.rdAt 1 rfl).mono E5.out.bel.size), ((E5.out.rdAt 2 rfl).mono E5.out.bel.size)⟩ (Nat.le_refl _) (by have := BtL.out; omega) (by have := BtD.out; omega) (by have := BtX.out; omega)).mono ?_
  rintro e w6 ⟨v0, v1, v2, rfl, ho, hb⟩
  obtain ⟨b6, d6, rfl, -⟩ := ints_form ho.rows.1.rd
  obtain ⟨b7, d7, rfl, -⟩ := ints_form ho.rows.2.1.rd
  obtain ⟨b8, d8, rfl, -⟩ := ints_form ho.rows.2.2.rd
  have E6 := Lib.hid (E5.out.grp hb ho)
  clear hb ho
  have E7 := Lib.hid (E6.out.box3 (.slice b6 tL.length d6) (.slice b7 tD.length d7) (.slice b8 tX.length d8) 49)
  clear c00 c01 c02
  obtain ⟨-, -, -, c10, c11, c12, -, -, -, -⟩ := E7.out.cells
  go_wp2_with fail
  refine (to_ten ⟨((E7.out.rdAt 3 rfl).mono E7.out.bel.size), ((E7.out.rdAt 4 rfl).mono E7.out.bel.size), ((E7.out.rdAt 5 rfl).mono E7.out.bel.size)⟩ (Nat.le_refl _) (by have := BuL.out; omega) (by have := BuD.out; omega) (by have := BuX.out; omega)).mono ?_
  rintro e w7 ⟨v0, v1, v2, rfl, ho, hb⟩
  obtain ⟨b9, d9, rfl, -⟩ := ints_form ho.rows.1.rd
  obtain ⟨b10, d10, rfl, -⟩ := ints_form ho.rows.2.1.rd
  obtain ⟨b11, d11, rfl, -⟩ := ints_form ho.rows.2.2.rd
  have E8 := Lib.hid (E7.out.grp hb ho)
  clear hb ho
  have E9 := Lib.hid (E8.out.box3 (.slice b9 uL.length d9) (.slice b10 uD.length d10) (.slice b11 uX.length d11) 49)
  clear c10 c11 c12
  obtain ⟨c30, c31, c32, c20, c21, c22, -, -, -, -, -, -, -⟩ := E9.out.cells
  go_wp2_with fail
  refine (join_size_impl ⟨(E9.out.rowAt 1 0 rfl rfl), (E9.out.rowAt 1 1 rfl rfl), (E9.out.rowAt 1 2 rfl rfl)⟩ ⟨(E9.out.rowAt 0 0 rfl rfl), (E9.out.rowAt 0 1 rfl rfl), (E9.out.rowAt 0 2 rfl rfl)⟩ (Nat.le_refl _) (Nat.le_refl _) ⟨(by have := BtL.out; omega), (by have := BtD.out; omega), (by have := BtX.out; omega)⟩ ⟨(by have := BuL.out; omega), (by have := BuD.out; omega), (by have := BuX.out; omega)⟩ HhI.out HhJ.out).mono ?_
  rw [← HR.out]
  rintro e w8 ⟨rfl, hb⟩
  have E10 := Lib.hid (E9.out.step hb)
  clear hb
  have E10d := Lib.hid E10.out.drew
  clear c30 c31 c32 c20 c21 c22
  obtain ⟨-, -, -, c20, c21, c22, -, -, -, c00, c01, c02, -⟩ := E10.out.cells
  go_wp2
  have tk14_0 : True := trivial
  have tk14_1 : True := trivial
  go_region_held3 (fun w' => w'.cell? ⟨w6.heap.size, 0, none⟩ = some (.slice b6 tL.length d6) ∧ w'.cell? ⟨w6.heap.size, 1, none⟩ = some (.slice b7 tD.length d7) ∧ w'.cell? ⟨w6.heap.size, 2, none⟩ = some (.slice b8 tX.length d8) ∧ w'.cell? ⟨w.heap.size, 0, none⟩ = some (.slice atL tL.length ctL) ∧ w'.cell? ⟨w.heap.size, 1, none⟩ = some (.slice atD tD.length ctD) ∧ w'.cell? ⟨w.heap.size, 2, none⟩ = some (.slice atX tX.length ctX)) (first | exact ⟨c20, c21, c22, c00, c01, c02⟩) (first
    | (go_at_call 37; have _t := tk14_0; refine (to_ten ⟨((E10d.out.rdAt 0 rfl).mono E10d.out.bel.size), ((E10d.out.rdAt 1 rfl).mono E10d.out.bel.size), ((E10d.out.rdAt 2 rfl).mono E10d.out.bel.size)⟩ (Nat.le_refl _) (by have := BtL.out; omega) (by have := BtD.out; omega) (by have := BtX.out; omega)).mono ?_; rintro e w9 ⟨v0, v1, v2, rfl, ho, hb⟩; obtain ⟨b12, d12, rfl, -⟩ := ints_form ho.rows.1.rd; obtain ⟨b13, d13, rfl, -⟩ := ints_form ho.rows.2.1.rd; obtain ⟨b14, d14, rfl, -⟩ := ints_form ho.rows.2.2.rd; have E11 := Lib.hid (E10d.out.grp hb ho); clear hb ho; obtain ⟨-, -, -, c20, c21, c22, -, -, -, c00, c01, c02, -⟩ := E11.out.cells; clear tk14_0)
    | (go_at_call 39; have _t := tk14_1; refine (eq_ten ⟨(E11.out.rowAt 2 0 rfl rfl), (E11.out.rowAt 2 1 rfl rfl), (E11.out.rowAt 2 2 rfl rfl)⟩ ⟨(E11.out.rowAt 0 0 rfl rfl), (E11.out.rowAt 0 1 rfl rfl), (E11.out.rowAt 0 2 rfl rfl)⟩ (Nat.le_refl _) (Nat.le_refl _) ⟨(by have := BtL.out; omega), (by have := BtD.out; omega), (by have := BtX.out; omega)⟩).mono ?_; rintro e w10 ⟨rfl, hb⟩; have E12 := Lib.hid (E11.out.step hb); clear hb; obtain ⟨-, -, -, c20, c21, c22, -, -, -, c00, c01, c02, -⟩ := E12.out.cells; clear tk14_1))
  have E12d := Lib.hid E12.out.drew
  obtain ⟨c30, c31, c32, -, -, -, c10, c11, c12, -, -, -, -⟩ := E12.out.cells
  go_wp2
  have tk16_0 : True := trivial
  have tk16_1 : True := trivial
  go_region_held3 (fun w' => w'.cell? ⟨w7.heap.size, 0, none⟩ = some (.slice b9 uL.length d9) ∧ w'.cell? ⟨w7.heap.size, 1, none⟩ = some (.slice b10 uD.length d10) ∧ w'.cell? ⟨w7.heap.size, 2, none⟩ = some (.slice b11 uX.length d11) ∧ w'.cell? ⟨w.heap.size + 1, 0, none⟩ = some (.slice auL uL.length cuL) ∧ w'.cell? ⟨w.heap.size + 1, 1, none⟩ = some (.slice auD uD.length cuD) ∧ w'.cell? ⟨w.heap.size + 1, 2, none⟩ = some (.slice auX uX.length cuX)) (first | exact ⟨c30, c31, c32, c10, c11, c12⟩) (first
    | (go_at_call 37; have _t := tk16_0; refine (to_ten ⟨((E12d.out.rdAt 3 rfl).mono E12d.out.bel.size), ((E12d.out.rdAt 4 rfl).mono E12d.out.bel.size), ((E12d.out.rdAt 5 rfl).mono E12d.out.bel.size)⟩ (Nat.le_refl _) (by have := BuL.out; omega) (by have := BuD.out; omega) (by have := BuX.out; omega)).mono ?_; rintro e w11 ⟨v0, v1, v2, rfl, ho, hb⟩; obtain ⟨b15, d15, rfl, -⟩ := ints_form ho.rows.1.rd; obtain ⟨b16, d16, rfl, -⟩ := ints_form ho.rows.2.1.rd; obtain ⟨b17, d17, rfl, -⟩ := ints_form ho.rows.2.2.rd; have E13 := Lib.hid (E12d.out.grp hb ho); clear hb ho; obtain ⟨c30, c31, c32, -, -, -, c10, c11, c12, -, -, -, -⟩ := E13.out.cells; clear tk16_0)
    | (go_at_call 39; have _t := tk16_1; refine (eq_ten ⟨(E13.out.rowAt 2 0 rfl rfl), (E13.out.rowAt 2 1 rfl rfl), (E13.out.rowAt 2 2 rfl rfl)⟩ ⟨(E13.out.rowAt 0 0 rfl rfl), (E13.out.rowAt 0 1 rfl rfl), (E13.out.rowAt 0 2 rfl rfl)⟩ (Nat.le_refl _) (Nat.le_refl _) ⟨(by have := BuL.out; omega), (by have := BuD.out; omega), (by have := BuX.out; omega)⟩).mono ?_; rintro e w12 ⟨rfl, hb⟩; have E14 := Lib.hid (E13.out.step hb); clear hb; obtain ⟨c30, c31, c32, -, -, -, c10, c11, c12, -, -, -, -⟩ := E14.out.cells; clear tk16_1))
  go_wp2
  go_ret
  exact ⟨rfl, E14.out.bel⟩

theorem law_join_size   {vtL : Value} {tL : List Int} {vtD : Value} {tD : List Int} {vtX : Value} {tX : List Int} {vuL : Value} {uL : List Int} {vuD : Value} {uD : List Int} {vuX : Value} {uX : List Int} (w : World) (htL : Rd w.heap.size w vtL (ints tL)) (ltL : tL.length ≤ 281474976710656) (htD : Rd w.heap.size w vtD (ints tD)) (ltD : tD.length ≤ 281474976710656) (htX : Rd w.heap.size w vtX (ints tX)) (ltX : tX.length ≤ 281474976710656) (huL : Rd w.heap.size w vuL (ints uL)) (luL : uL.length ≤ 281474976710656) (huD : Rd w.heap.size w vuD (ints uD)) (luD : uD.length ≤ 281474976710656) (huX : Rd w.heap.size w vuX (ints uX)) (luX : uX.length ≤ 281474976710656) (hI : allI tL) (hJ : allI uL) :
    Calls Try.prog 10 #[tenV vtL vtD vtX, tenV vuL vuD vuX] w fun e w' => e = .returned (.bool true) ∧ Below w.heap.size w w' := by
  obtain ⟨atL, ctL, rfl, -⟩ := ints_form htL
  obtain ⟨atD, ctD, rfl, -⟩ := ints_form htD
  obtain ⟨atX, ctX, rfl, -⟩ := ints_form htX
  obtain ⟨auL, cuL, rfl, -⟩ := ints_form huL
  obtain ⟨auD, cuD, rfl, -⟩ := ints_form huD
  obtain ⟨auX, cuX, rfl, -⟩ := ints_form huX
  exact law_join_size_small   atL ctL tL atD ctD tD atX ctX tX auL cuL uL auD cuD uD auX cuX uX w (Lib.hid htL) (Lib.hid htD) (Lib.hid htX) (Lib.hid huL) (Lib.hid huD) (Lib.hid huX)  ltL ltD ltX luL luD luX hI hJ
end Go.Proofs.Ytgbmacppgaopfaa
