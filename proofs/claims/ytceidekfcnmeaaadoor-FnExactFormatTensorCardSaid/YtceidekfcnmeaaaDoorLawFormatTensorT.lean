
/- The law FnExactFormatTensor, walked. -/
import Derived.Test.YtceidekfcnmeaaaDoorFmtTenSpec
import Derived.Test.YtceidekfcnmeaaaDoorFmtTenImpl
import Derived.Test.YtceidekfcnmeaaaDoorBx
import Derived.Deep.RegionHeld3
import Derived.Deep.DeepCutAuto
namespace Go.Proofs.YtceidekfcnmeaaaDoor
set_option maxRecDepth 20000
open Go.RowKit

set_option maxHeartbeats 64000000 in
theorem law_format_tensor_small (rk rp rn : Int)  (atL : Option Addr) (ctL : Nat) (tL : List Int) (atD : Option Addr) (ctD : Nat) (tD : List Int) (atX : Option Addr) (ctX : Nat) (tX : List Int) (w : World) (RtL : Hid (Rd w.heap.size w (.slice atL tL.length ctL) (ints tL))) (RtD : Hid (Rd w.heap.size w (.slice atD tD.length ctD) (ints tD))) (RtX : Hid (Rd w.heap.size w (.slice atX tX.length ctX) (ints tX)))  (ztL : tL.length ≤ 281474976710656) (ztD : tD.length ≤ 281474976710656) (ztX : tX.length ≤ 281474976710656) (hI : allI tL) (hJ : allI tD) (hK : allI tX) (htab : Lib.TabIs Tryd.prog w "internal/strconv.uint64pow10" .u64 Lib.pow10Tab) :
    Calls Tryd.prog 4 #[ringV rk rp rn, tenV (.slice atL tL.length ctL) (.slice atD tD.length ctD) (.slice atX tX.length ctX)] w fun e w' => e = .returned (.bool true) ∧ Below w.heap.size w w' := by
  obtain ⟨R, hR⟩ : ∃ R : List UInt8, R = fmtTen rk rp rn tL tD tX := ⟨_, rfl⟩
  have HR := Lib.hid hR
  clear hR
  have hbb : (R == R) = true := by simp
  have HhI := Lib.hid hI
  clear hI
  have HhJ := Lib.hid hJ
  clear hJ
  have HhK := Lib.hid hK
  clear hK
  have Hhtab := Lib.hid htab
  clear htab
  have BtL : Hid (tL.length ≤ 281474976710656) := Lib.hid (by omega)
  have BtD : Hid (tD.length ≤ 281474976710656) := Lib.hid (by omega)
  have BtX : Hid (tX.length ≤ 281474976710656) := Lib.hid (by omega)
  have E0 := Lib.hid (St.start w (R := [(.slice atL tL.length ctL, tL), (.slice atD tD.length ctD, tD), (.slice atX tX.length ctX, tX)]) (by intro r hr; simp only [List.mem_cons, List.not_mem_nil, or_false] at hr; rcases hr with rfl | rfl | rfl <;> first | exact RtL.out | exact RtD.out | exact RtX.out))
  have E0 := Lib.hid (E0.out.box3 (.int .i64 rk) (.int .i64 rp) (.int .i64 rn) 23)
  have E0 := Lib.hid (E0.out.box3 (.slice atL tL.length ctL) (.slice atD tD.length ctD) (.slice atX tX.length ctX) 32)
  simp only [World.size_alloc] at E0
  clear RtL RtD RtX
  go_enter Tryd.func4, Tryd.ntmps4
  obtain ⟨c10, c11, c12, -, -, -, -⟩ := E0.out.cells
  go_wp2_with fail
  refine (sz_ten_full atL tL.length ctL atD tD.length ctD atX tX.length ctX 1048576 _ (by omega) (by omega) BtL.out BtD.out BtX.out).mono ?_
  rintro e w1 ⟨z, rfl, hz, hb⟩
  have E1 := Lib.hid (E0.out.step hb)
  clear hb
  rcases hz with rfl | ⟨hz0, hz1⟩
  case inl => go_wp2; go_ret; exact ⟨rfl, E1.out.bel⟩
  have qz : ¬ z < 0 := by omega
  have hzb : z ≤ 1048576 := by omega
  have BtL : Hid (tL.length ≤ 1048576) := Lib.hid (by omega)
  have BtD : Hid (tD.length ≤ 1048576) := Lib.hid (by omega)
  have BtX : Hid (tX.length ≤ 1048576) := Lib.hid (by omega)
  clear hz1
  have E1d := Lib.hid E1.out.drew
  clear c10 c11 c12
  obtain ⟨c10, c11, c12, c00, c01, c02, -⟩ := E1.out.cells
  go_wp2
  have tk5_0 : True := trivial
  have tk5_1 : True := trivial
  have tk5_2 : True := trivial
  go_region_held3 (fun w' => w'.cell? ⟨w.heap.size + 1, 0, none⟩ = some (.slice atL tL.length ctL) ∧ w'.cell? ⟨w.heap.size + 1, 1, none⟩ = some (.slice atD tD.length ctD) ∧ w'.cell? ⟨w.heap.size + 1, 2, none⟩ = some (.slice atX tX.length ctX) ∧ w'.cell? ⟨w.heap.size, 0, none⟩ = some (.int .i64 rk) ∧ w'.cell? ⟨w.heap.size, 1, none⟩ = some (.int .i64 rp) ∧ w'.cell? ⟨w.heap.size, 2, none⟩ = some (.int .i64 rn)) (first | exact ⟨c10, c11, c12, c00, c01, c02⟩) (first
    | (go_at_call 7; have _t := tk5_0; refine (to_ring rk rp rn _).mono ?_; rintro e w2 ⟨rfl, hb⟩; have E2 := Lib.hid (E1d.out.step hb); clear hb; obtain ⟨c10, c11, c12, c00, c01, c02, -⟩ := E2.out.cells; clear tk5_0)
    | (go_at_call 13; have _t := tk5_1; refine (to_ten ⟨((E2.out.rdAt 0 rfl).mono E2.out.bel.size), ((E2.out.rdAt 1 rfl).mono E2.out.bel.size), ((E2.out.rdAt 2 rfl).mono E2.out.bel.size)⟩ (Nat.le_refl _) (by have := BtL.out; omega) (by have := BtD.out; omega) (by have := BtX.out; omega)).mono ?_; rintro e w3 ⟨v0, v1, v2, rfl, ho, hb⟩; obtain ⟨b0, d0, rfl, -⟩ := ints_form ho.rows.1.rd; obtain ⟨b1, d1, rfl, -⟩ := ints_form ho.rows.2.1.rd; obtain ⟨b2, d2, rfl, -⟩ := ints_form ho.rows.2.2.rd; have E3 := Lib.hid (E2.out.grp hb ho); clear hb ho; obtain ⟨c10, c11, c12, c00, c01, c02, -⟩ := E3.out.cells; clear tk5_1)
    | (go_at_call 12; have _t := tk5_2; refine (fmt_ten_spec ⟨(E3.out.rowAt 0 0 rfl rfl), (E3.out.rowAt 0 1 rfl rfl), (E3.out.rowAt 0 2 rfl rfl)⟩ (Nat.le_refl _) ⟨(by have := BtL.out; omega), (by have := BtD.out; omega), (by have := BtX.out; omega)⟩ HhI.out HhJ.out HhK.out).mono ?_; rw [← HR.out]; rintro e w4 ⟨rfl, hb⟩; have E4 := Lib.hid (E3.out.step hb); clear hb; obtain ⟨c10, c11, c12, c00, c01, c02, -⟩ := E4.out.cells; clear tk5_2))
  obtain ⟨c10, c11, c12, -, -, -, -⟩ := E4.out.cells
  go_wp2_with fail
  refine (to_ten ⟨((E4.out.rdAt 0 rfl).mono E4.out.bel.size), ((E4.out.rdAt 1 rfl).mono E4.out.bel.size), ((E4.out.rdAt 2 rfl).mono E4.out.bel.size)⟩ (Nat.le_refl _) (by have := BtL.out; omega) (by have := BtD.out; omega) (by have := BtX.out; omega)).mono ?_
  rintro e w5 ⟨v0, v1, v2, rfl, ho, hb⟩
  obtain ⟨b3, d3, rfl, -⟩ := ints_form ho.rows.1.rd
  obtain ⟨b4, d4, rfl, -⟩ := ints_form ho.rows.2.1.rd
  obtain ⟨b5, d5, rfl, -⟩ := ints_form ho.rows.2.2.rd
  have E5 := Lib.hid (E4.out.grp hb ho)
  clear hb ho
  have E6 := Lib.hid (E5.out.box3 (.slice b3 tL.length d3) (.slice b4 tD.length d4) (.slice b5 tX.length d5) 35)
  have E6d := Lib.hid E6.out.drew
  clear c10 c11 c12
  obtain ⟨c20, c21, c22, -, -, -, c00, c01, c02, -⟩ := E6.out.cells
  go_wp2
  have tk7_0 : True := trivial
  have tk7_1 : True := trivial
  go_region_held3 (fun w' => w'.cell? ⟨w5.heap.size, 0, none⟩ = some (.slice b3 tL.length d3) ∧ w'.cell? ⟨w5.heap.size, 1, none⟩ = some (.slice b4 tD.length d4) ∧ w'.cell? ⟨w5.heap.size, 2, none⟩ = some (.slice b5 tX.length d5) ∧ w'.cell? ⟨w.heap.size, 0, none⟩ = some (.int .i64 rk) ∧ w'.cell? ⟨w.heap.size, 1, none⟩ = some (.int .i64 rp) ∧ w'.cell? ⟨w.heap.size, 2, none⟩ = some (.int .i64 rn)) (first | exact ⟨c20, c21, c22, c00, c01, c02⟩) (first
    | (go_at_call 7; have _t := tk7_0; refine (to_ring rk rp rn _).mono ?_; rintro e w6 ⟨rfl, hb⟩; have E7 := Lib.hid (E6d.out.step hb); clear hb; obtain ⟨c20, c21, c22, -, -, -, c00, c01, c02, -⟩ := E7.out.cells; clear tk7_0)
    | (go_at_call 14; have _t := tk7_1; refine (fmt_ten_impl ⟨(E7.out.rowAt 0 0 rfl rfl), (E7.out.rowAt 0 1 rfl rfl), (E7.out.rowAt 0 2 rfl rfl)⟩ (Nat.le_refl _) ⟨(by have := BtL.out; omega), (by have := BtD.out; omega), (by have := BtX.out; omega)⟩ HhI.out HhJ.out HhK.out (tab_below E7.out.bel (tab_size Hhtab.out) Hhtab.out)).mono ?_; rw [← HR.out]; rintro e w7 ⟨rfl, hb⟩; have E8 := Lib.hid (E7.out.step hb); clear hb; obtain ⟨c20, c21, c22, -, -, -, c00, c01, c02, -⟩ := E8.out.cells; clear tk7_1))
  have E8d := Lib.hid E8.out.drew
  obtain ⟨c20, c21, c22, c10, c11, c12, -, -, -, -⟩ := E8.out.cells
  go_wp2
  have tk10_0 : True := trivial
  have tk10_1 : True := trivial
  go_region_held3 (fun w' => w'.cell? ⟨w5.heap.size, 0, none⟩ = some (.slice b3 tL.length d3) ∧ w'.cell? ⟨w5.heap.size, 1, none⟩ = some (.slice b4 tD.length d4) ∧ w'.cell? ⟨w5.heap.size, 2, none⟩ = some (.slice b5 tX.length d5) ∧ w'.cell? ⟨w.heap.size + 1, 0, none⟩ = some (.slice atL tL.length ctL) ∧ w'.cell? ⟨w.heap.size + 1, 1, none⟩ = some (.slice atD tD.length ctD) ∧ w'.cell? ⟨w.heap.size + 1, 2, none⟩ = some (.slice atX tX.length ctX)) (first | exact ⟨c20, c21, c22, c10, c11, c12⟩) (first
    | (go_at_call 13; have _t := tk10_0; refine (to_ten ⟨((E8d.out.rdAt 0 rfl).mono E8d.out.bel.size), ((E8d.out.rdAt 1 rfl).mono E8d.out.bel.size), ((E8d.out.rdAt 2 rfl).mono E8d.out.bel.size)⟩ (Nat.le_refl _) (by have := BtL.out; omega) (by have := BtD.out; omega) (by have := BtX.out; omega)).mono ?_; rintro e w8 ⟨v0, v1, v2, rfl, ho, hb⟩; obtain ⟨b6, d6, rfl, -⟩ := ints_form ho.rows.1.rd; obtain ⟨b7, d7, rfl, -⟩ := ints_form ho.rows.2.1.rd; obtain ⟨b8, d8, rfl, -⟩ := ints_form ho.rows.2.2.rd; have E9 := Lib.hid (E8d.out.grp hb ho); clear hb ho; obtain ⟨c20, c21, c22, c10, c11, c12, -, -, -, -⟩ := E9.out.cells; clear tk10_0)
    | (go_at_call 15; have _t := tk10_1; refine (eq_ten ⟨(E9.out.rowAt 1 0 rfl rfl), (E9.out.rowAt 1 1 rfl rfl), (E9.out.rowAt 1 2 rfl rfl)⟩ ⟨(E9.out.rowAt 0 0 rfl rfl), (E9.out.rowAt 0 1 rfl rfl), (E9.out.rowAt 0 2 rfl rfl)⟩ (Nat.le_refl _) (Nat.le_refl _) ⟨(by have := BtL.out; omega), (by have := BtD.out; omega), (by have := BtX.out; omega)⟩).mono ?_; rintro e w9 ⟨rfl, hb⟩; have E10 := Lib.hid (E9.out.step hb); clear hb; obtain ⟨c20, c21, c22, c10, c11, c12, -, -, -, -⟩ := E10.out.cells; clear tk10_1))
  go_wp2
  go_ret
  exact ⟨rfl, E10.out.bel⟩

theorem law_format_tensor (rk rp rn : Int)  {vtL : Value} {tL : List Int} {vtD : Value} {tD : List Int} {vtX : Value} {tX : List Int} (w : World) (htL : Rd w.heap.size w vtL (ints tL)) (ltL : tL.length ≤ 281474976710656) (htD : Rd w.heap.size w vtD (ints tD)) (ltD : tD.length ≤ 281474976710656) (htX : Rd w.heap.size w vtX (ints tX)) (ltX : tX.length ≤ 281474976710656) (hI : allI tL) (hJ : allI tD) (hK : allI tX) (htab : Lib.TabIs Tryd.prog w "internal/strconv.uint64pow10" .u64 Lib.pow10Tab) :
    Calls Tryd.prog 4 #[ringV rk rp rn, tenV vtL vtD vtX] w fun e w' => e = .returned (.bool true) ∧ Below w.heap.size w w' := by
  obtain ⟨atL, ctL, rfl, -⟩ := ints_form htL
  obtain ⟨atD, ctD, rfl, -⟩ := ints_form htD
  obtain ⟨atX, ctX, rfl, -⟩ := ints_form htX
  exact law_format_tensor_small rk rp rn  atL ctL tL atD ctD tD atX ctX tX w (Lib.hid htL) (Lib.hid htD) (Lib.hid htX)  ltL ltD ltX hI hJ hK htab
end Go.Proofs.YtceidekfcnmeaaaDoor
