
/- The law FnExactElemAt, walked. -/
import Derived.Test.YtlmhnlepdfdceaaElemAt
import Derived.Test.YtlmhnlepdfdceaaElemImpl
import Derived.Test.YtlmhnlepdfdceaaBx
import Derived.Deep.RegionHeld3
import Derived.Deep.DeepCutAuto
namespace Go.Proofs.Ytlmhnlepdfdceaa
set_option maxRecDepth 20000
set_option maxRecDepth 20000
open Go.RowKit

set_option maxHeartbeats 400000 in
theorem law_elem_at_big0 (rk rp rn : Int)   (atL : Option Addr) (ctL : Nat) (tL : List Int) (atD : Option Addr) (ctD : Nat) (tD : List Int) (atX : Option Addr) (ctX : Nat) (tX : List Int) (ax : Option Addr) (cx : Nat) (x : List Int) (w : World)  (hb : 1048576 < x.length) (hc : x.length ≤ 281474976710656) :
    Calls Try.prog 7 #[ringV rk rp rn, tenV (.slice atL tL.length ctL) (.slice atD tD.length ctD) (.slice atX tX.length ctX), .slice ax x.length cx] w fun e w' => e = .returned (.bool true) ∧ Below w.heap.size w w' := by
  go_enter Try.func7, Try.ntmps7
  go_wp2
  go_ret
  exact ⟨rfl, ((Below.refl _ _).alloc (Nat.le_refl _) _).alloc (by simp; try omega) _⟩

set_option maxHeartbeats 6400000 in
theorem law_elem_at_small (rk rp rn : Int)   (atL : Option Addr) (ctL : Nat) (tL : List Int) (atD : Option Addr) (ctD : Nat) (tD : List Int) (atX : Option Addr) (ctX : Nat) (tX : List Int) (ax : Option Addr) (cx : Nat) (x : List Int) (w : World) (RtL : Hid (Rd w.heap.size w (.slice atL tL.length ctL) (ints tL))) (RtD : Hid (Rd w.heap.size w (.slice atD tD.length ctD) (ints tD))) (RtX : Hid (Rd w.heap.size w (.slice atX tX.length ctX) (ints tX))) (Rx : Hid (Rd w.heap.size w (.slice ax x.length cx) (ints x))) (sx : x.length ≤ 1048576) (ztL : tL.length ≤ 281474976710656) (ztD : tD.length ≤ 281474976710656) (ztX : tX.length ≤ 281474976710656) (hI : allI tL) :
    Calls Try.prog 7 #[ringV rk rp rn, tenV (.slice atL tL.length ctL) (.slice atD tD.length ctD) (.slice atX tX.length ctX), .slice ax x.length cx] w fun e w' => e = .returned (.bool true) ∧ Below w.heap.size w w' := by
  obtain ⟨G, hG⟩ : ∃ G : List Int, G = elemAtL rk rp rn tL tD tX x := ⟨_, rfl⟩
  have HGL : Hid (G.length ≤ 17592186044416) := Lib.hid (by rw [hG]; exact Nat.le_trans (elemAtL_len _ _ _ _ _ _ _) (by omega))
  have HG := Lib.hid hG
  clear hG
  have HhI := Lib.hid hI
  clear hI
  have BtL : Hid (tL.length ≤ 281474976710656) := Lib.hid (by omega)
  have BtD : Hid (tD.length ≤ 281474976710656) := Lib.hid (by omega)
  have BtX : Hid (tX.length ≤ 281474976710656) := Lib.hid (by omega)
  have Bx : Hid (x.length ≤ 281474976710656) := Lib.hid (by omega)
  have E0 := Lib.hid (St.start w (R := [(.slice atL tL.length ctL, tL), (.slice atD tD.length ctD, tD), (.slice atX tX.length ctX, tX), (.slice ax x.length cx, x)]) (by intro r hr; simp only [List.mem_cons, List.not_mem_nil, or_false] at hr; rcases hr with rfl | rfl | rfl | rfl <;> first | exact RtL.out | exact RtD.out | exact RtX.out | exact Rx.out))
  have E0 := Lib.hid (E0.out.box3 (.int .i64 rk) (.int .i64 rp) (.int .i64 rn) 32)
  have E0 := Lib.hid (E0.out.box3 (.slice atL tL.length ctL) (.slice atD tD.length ctD) (.slice atX tX.length ctX) 24)
  simp only [World.size_alloc] at E0
  clear RtL RtD RtX Rx
  go_enter Try.func7, Try.ntmps7
  obtain ⟨c10, c11, c12, -, -, -, -⟩ := E0.out.cells
  go_wp2_with fail
  refine (sz_ten_full atL tL.length ctL atD tD.length ctD atX tX.length ctX 1048576 _ (by omega) (by omega) BtL.out BtD.out BtX.out).mono ?_
  rintro e w1 ⟨z, rfl, hz, hb⟩
  have E1 := Lib.hid (E0.out.step hb)
  clear hb
  rcases hz with rfl | ⟨hz0, hz1⟩
  case inl => go_wp2; go_ret; exact ⟨rfl, E1.out.bel⟩
  have qz : ¬ z < 0 := by omega
  have BtL : Hid (tL.length ≤ 1048576) := Lib.hid (by omega)
  have BtD : Hid (tD.length ≤ 1048576) := Lib.hid (by omega)
  have BtX : Hid (tX.length ≤ 1048576) := Lib.hid (by omega)
  clear hz1
  have E1d := Lib.hid E1.out.drew
  clear c10 c11 c12
  obtain ⟨c10, c11, c12, c00, c01, c02, -⟩ := E1.out.cells
  go_wp2
  have tk7_0 : True := trivial
  have tk7_1 : True := trivial
  have tk7_2 : True := trivial
  have tk7_3 : True := trivial
  go_region_held3 (fun w' => w'.cell? ⟨w.heap.size + 1, 0, none⟩ = some (.slice atL tL.length ctL) ∧ w'.cell? ⟨w.heap.size + 1, 1, none⟩ = some (.slice atD tD.length ctD) ∧ w'.cell? ⟨w.heap.size + 1, 2, none⟩ = some (.slice atX tX.length ctX) ∧ w'.cell? ⟨w.heap.size, 0, none⟩ = some (.int .i64 rk) ∧ w'.cell? ⟨w.heap.size, 1, none⟩ = some (.int .i64 rp) ∧ w'.cell? ⟨w.heap.size, 2, none⟩ = some (.int .i64 rn)) (first | exact ⟨c10, c11, c12, c00, c01, c02⟩) (first
    | (go_at_call 17; have _t := tk7_0; refine (to_ring rk rp rn _).mono ?_; rintro e w2 ⟨rfl, hb⟩; have E2 := Lib.hid (E1d.out.step hb); clear hb; obtain ⟨c10, c11, c12, c00, c01, c02, -⟩ := E2.out.cells; clear tk7_0)
    | (go_at_call 13; have _t := tk7_1; refine (to_ten ⟨((E2.out.rdAt 0 rfl).mono E2.out.bel.size), ((E2.out.rdAt 1 rfl).mono E2.out.bel.size), ((E2.out.rdAt 2 rfl).mono E2.out.bel.size)⟩ (Nat.le_refl _) (by have := BtL.out; omega) (by have := BtD.out; omega) (by have := BtX.out; omega)).mono ?_; rintro e w3 ⟨v0, v1, v2, rfl, ho, hb⟩; obtain ⟨b0, d0, rfl, -⟩ := ints_form ho.rows.1.rd; obtain ⟨b1, d1, rfl, -⟩ := ints_form ho.rows.2.1.rd; obtain ⟨b2, d2, rfl, -⟩ := ints_form ho.rows.2.2.rd; have E3 := Lib.hid (E2.out.grp hb ho); clear hb ho; obtain ⟨c10, c11, c12, c00, c01, c02, -⟩ := E3.out.cells; clear tk7_1)
    | (go_at_call 20; have _t := tk7_2; refine (to_row ((E3.out.rdAt 3 rfl).mono E3.out.bel.size) (Nat.le_refl _) (by have := Bx.out; omega)).mono ?_; rintro e w4 ⟨v, rfl, ho, hb⟩; obtain ⟨b3, d3, rfl, -⟩ := ints_form ho.rd; have E4 := Lib.hid (E3.out.grp hb (OwnG.one ho)); clear hb ho; obtain ⟨c10, c11, c12, c00, c01, c02, -⟩ := E4.out.cells; clear tk7_2)
    | (go_at_call 28; have _t := tk7_3; refine (elem_at_spec ⟨(E4.out.rowAt 1 0 rfl rfl), (E4.out.rowAt 1 1 rfl rfl), (E4.out.rowAt 1 2 rfl rfl)⟩ (E4.out.rowAt 0 0 rfl rfl) (Nat.le_refl _) ⟨(by have := BtL.out; omega), (by have := BtD.out; omega), (by have := BtX.out; omega)⟩ (by have := Bx.out; omega)).mono ?_; rw [← HG.out]; rintro e w5 ⟨v, rfl, ho, hb⟩; obtain ⟨b4, d4, rfl, -⟩ := ints_form ho.rd; have E5 := Lib.hid (E4.out.grp hb (OwnG.one ho)); clear hb ho; obtain ⟨c10, c11, c12, c00, c01, c02, -⟩ := E5.out.cells; clear tk7_3))
  obtain ⟨c10, c11, c12, -, -, -, -⟩ := E5.out.cells
  go_wp2_with fail
  refine (to_ten ⟨((E5.out.rdAt 0 rfl).mono E5.out.bel.size), ((E5.out.rdAt 1 rfl).mono E5.out.bel.size), ((E5.out.rdAt 2 rfl).mono E5.out.bel.size)⟩ (Nat.le_refl _) (by have := BtL.out; omega) (by have := BtD.out; omega) (by have := BtX.out; omega)).mono ?_
  rintro e w6 ⟨v0, v1, v2, rfl, ho, hb⟩
  obtain ⟨b5, d5, rfl, -⟩ := ints_form ho.rows.1.rd
  obtain ⟨b6, d6, rfl, -⟩ := ints_form ho.rows.2.1.rd
  obtain ⟨b7, d7, rfl, -⟩ := ints_form ho.rows.2.2.rd
  have E6 := Lib.hid (E5.out.grp hb ho)
  clear hb ho
  have E7 := Lib.hid (E6.out.box3 (.slice b5 tL.length d5) (.slice b6 tD.length d6) (.slice b7 tX.length d7) 27)
  clear c10 c11 c12
  go_wp2_with fail
  refine (to_row ((E7.out.rdAt 3 rfl).mono E7.out.bel.size) (Nat.le_refl _) (by have := Bx.out; omega)).mono ?_
  rintro e w7 ⟨v, rfl, ho, hb⟩
  obtain ⟨b8, d8, rfl, -⟩ := ints_form ho.rd
  have E8 := Lib.hid (E7.out.grp hb (OwnG.one ho))
  clear hb ho
  have E8d := Lib.hid E8.out.drew
  obtain ⟨c20, c21, c22, -, -, -, c00, c01, c02, -⟩ := E8.out.cells
  go_wp2
  have tk10_0 : True := trivial
  have tk10_1 : True := trivial
  go_region_held3 (fun w' => w'.cell? ⟨w6.heap.size, 0, none⟩ = some (.slice b5 tL.length d5) ∧ w'.cell? ⟨w6.heap.size, 1, none⟩ = some (.slice b6 tD.length d6) ∧ w'.cell? ⟨w6.heap.size, 2, none⟩ = some (.slice b7 tX.length d7) ∧ w'.cell? ⟨w.heap.size, 0, none⟩ = some (.int .i64 rk) ∧ w'.cell? ⟨w.heap.size, 1, none⟩ = some (.int .i64 rp) ∧ w'.cell? ⟨w.heap.size, 2, none⟩ = some (.int .i64 rn)) (first | exact ⟨c20, c21, c22, c00, c01, c02⟩) (first
    | (go_at_call 17; have _t := tk10_0; refine (to_ring rk rp rn _).mono ?_; rintro e w8 ⟨rfl, hb⟩; have E9 := Lib.hid (E8d.out.step hb); clear hb; obtain ⟨c20, c21, c22, -, -, -, c00, c01, c02, -⟩ := E9.out.cells; clear tk10_0)
    | (go_at_call 29; have _t := tk10_1; refine (elem_at_impl ⟨(E9.out.rowAt 1 0 rfl rfl), (E9.out.rowAt 1 1 rfl rfl), (E9.out.rowAt 1 2 rfl rfl)⟩ (E9.out.rowAt 0 0 rfl rfl) (Nat.le_refl _) ⟨(by have := BtL.out; omega), (by have := BtD.out; omega), (by have := BtX.out; omega)⟩ (by have := Bx.out; omega) HhI.out).mono ?_; rw [← HG.out]; rintro e w9 ⟨v, rfl, ho, hb⟩; obtain ⟨b9, d9, rfl, -⟩ := ints_form ho.rd; have E10 := Lib.hid (E9.out.grp hb (OwnG.one ho)); clear hb ho; obtain ⟨c20, c21, c22, -, -, -, c00, c01, c02, -⟩ := E10.out.cells; clear tk10_1))
  go_wp2_with fail
  refine (eq_rows (E10.out.rowAt 0 0 rfl rfl) (E10.out.rowAt 3 0 rfl rfl) rfl (by have := HGL.out; omega)).mono ?_
  rintro e w10 ⟨rfl, hb⟩
  have E11 := Lib.hid (E10.out.step hb)
  clear hb
  have E11d := Lib.hid E11.out.drew
  obtain ⟨c20, c21, c22, c10, c11, c12, -, -, -, -⟩ := E11.out.cells
  go_wp2
  have tk13_0 : True := trivial
  have tk13_1 : True := trivial
  go_region_held3 (fun w' => w'.cell? ⟨w6.heap.size, 0, none⟩ = some (.slice b5 tL.length d5) ∧ w'.cell? ⟨w6.heap.size, 1, none⟩ = some (.slice b6 tD.length d6) ∧ w'.cell? ⟨w6.heap.size, 2, none⟩ = some (.slice b7 tX.length d7) ∧ w'.cell? ⟨w.heap.size + 1, 0, none⟩ = some (.slice atL tL.length ctL) ∧ w'.cell? ⟨w.heap.size + 1, 1, none⟩ = some (.slice atD tD.length ctD) ∧ w'.cell? ⟨w.heap.size + 1, 2, none⟩ = some (.slice atX tX.length ctX)) (first | exact ⟨c20, c21, c22, c10, c11, c12⟩) (first
    | (go_at_call 13; have _t := tk13_0; refine (to_ten ⟨((E11d.out.rdAt 0 rfl).mono E11d.out.bel.size), ((E11d.out.rdAt 1 rfl).mono E11d.out.bel.size), ((E11d.out.rdAt 2 rfl).mono E11d.out.bel.size)⟩ (Nat.le_refl _) (by have := BtL.out; omega) (by have := BtD.out; omega) (by have := BtX.out; omega)).mono ?_; rintro e w11 ⟨v0, v1, v2, rfl, ho, hb⟩; obtain ⟨b10, d10, rfl, -⟩ := ints_form ho.rows.1.rd; obtain ⟨b11, d11, rfl, -⟩ := ints_form ho.rows.2.1.rd; obtain ⟨b12, d12, rfl, -⟩ := ints_form ho.rows.2.2.rd; have E12 := Lib.hid (E11d.out.grp hb ho); clear hb ho; obtain ⟨c20, c21, c22, c10, c11, c12, -, -, -, -⟩ := E12.out.cells; clear tk13_0)
    | (go_at_call 15; have _t := tk13_1; refine (eq_ten ⟨(E12.out.rowAt 3 0 rfl rfl), (E12.out.rowAt 3 1 rfl rfl), (E12.out.rowAt 3 2 rfl rfl)⟩ ⟨(E12.out.rowAt 0 0 rfl rfl), (E12.out.rowAt 0 1 rfl rfl), (E12.out.rowAt 0 2 rfl rfl)⟩ (Nat.le_refl _) (Nat.le_refl _) ⟨(by have := BtL.out; omega), (by have := BtD.out; omega), (by have := BtX.out; omega)⟩).mono ?_; rintro e w12 ⟨rfl, hb⟩; have E13 := Lib.hid (E12.out.step hb); clear hb; obtain ⟨c20, c21, c22, c10, c11, c12, -, -, -, -⟩ := E13.out.cells; clear tk13_1))
  go_wp2_with fail
  refine (to_row ((E13.out.rdAt 3 rfl).mono E13.out.bel.size) (Nat.le_refl _) (by have := Bx.out; omega)).mono ?_
  rintro e w13 ⟨v, rfl, ho, hb⟩
  obtain ⟨b13, d13, rfl, -⟩ := ints_form ho.rd
  have E14 := Lib.hid (E13.out.grp hb (OwnG.one ho))
  clear hb ho
  go_wp2_with fail
  refine (eq_rows (E14.out.rowAt 3 0 rfl rfl) (E14.out.rowAt 0 0 rfl rfl) rfl (by have := Bx.out; omega)).mono ?_
  rintro e w14 ⟨rfl, hb⟩
  have E15 := Lib.hid (E14.out.step hb)
  clear hb
  obtain ⟨c20, c21, c22, -, -, -, -, -, -, -⟩ := E15.out.cells
  go_wp2_with fail
  obtain ⟨m0, hm⟩ : ∃ m : Nat, m = 1 + tL.length + tD.length + tX.length := ⟨_, rfl⟩
  have M0 := Lib.hid hm
  have m0b : m0 ≤ 3145729 := by have := BtL.out; have := BtD.out; have := BtX.out; omega
  clear hm
  refine (marks_ten 1 rfl (E15.out.grpAt 4 rfl) (by have := BtL.out; omega) (by have := BtD.out; omega) (by have := BtX.out; omega) (by omega)).mono ?_
  rw [← M0.out]
  rintro e w15 ⟨rfl, ho, hk⟩
  have E16 := Lib.hid (E15.out.mark 4 rfl hk ho)
  clear ho hk
  clear c20 c21 c22
  go_wp2_with fail
  obtain ⟨m1, hm⟩ : ∃ m : Nat, m = m0 + x.length := ⟨_, rfl⟩
  have M1 := Lib.hid hm
  have m1b : m1 ≤ 4194305 := by have := Bx.out; omega
  clear hm
  refine (marks_row m0 rfl (E16.out.grpAt 3 rfl) (by have := Bx.out; omega) (by omega)).mono ?_
  rw [← M1.out]
  rintro e w16 ⟨rfl, ho, hk⟩
  have E17 := Lib.hid (E16.out.mark 3 rfl hk ho)
  clear ho hk
  go_wp2_with fail
  refine (eq_rows (E17.out.rowAt 2 0 rfl rfl) (E17.out.rowAt 5 0 rfl rfl) rfl (by have := HGL.out; omega)).mono ?_
  rintro e w17 ⟨rfl, hb⟩
  have E18 := Lib.hid (E17.out.step hb)
  clear hb
  go_wp2_with fail
  obtain ⟨m2, hm⟩ : ∃ m : Nat, m = 1 + G.length := ⟨_, rfl⟩
  have M2 := Lib.hid hm
  have m2b : m2 ≤ 17592186044417 := by have := HGL.out; omega
  clear hm
  refine (marks_row 1 rfl (E18.out.grpAt 2 rfl) (by have := HGL.out; omega) (by omega)).mono ?_
  rw [← M2.out]
  rintro e w18 ⟨rfl, ho, hk⟩
  have E19 := Lib.hid (E18.out.mark 2 rfl hk ho)
  clear ho hk
  go_wp2_with fail
  refine (helds_row 1 rfl (E19.out.rowAt 2 0 rfl rfl) (by have := HGL.out; omega) (by omega)).mono ?_
  rw [← M2.out]
  rintro e w19 ⟨rfl, hb⟩
  have E20 := Lib.hid (E19.out.step hb)
  clear hb
  have E20d := Lib.hid E20.out.drew
  obtain ⟨-, -, -, c10, c11, c12, c00, c01, c02, -⟩ := E20.out.cells
  go_wp2
  have tk30_0 : True := trivial
  have tk30_1 : True := trivial
  have tk30_2 : True := trivial
  have tk30_3 : True := trivial
  go_region_held3 (fun w' => w'.cell? ⟨w.heap.size + 1, 0, none⟩ = some (.slice atL tL.length ctL) ∧ w'.cell? ⟨w.heap.size + 1, 1, none⟩ = some (.slice atD tD.length ctD) ∧ w'.cell? ⟨w.heap.size + 1, 2, none⟩ = some (.slice atX tX.length ctX) ∧ w'.cell? ⟨w.heap.size, 0, none⟩ = some (.int .i64 rk) ∧ w'.cell? ⟨w.heap.size, 1, none⟩ = some (.int .i64 rp) ∧ w'.cell? ⟨w.heap.size, 2, none⟩ = some (.int .i64 rn)) (first | exact ⟨c10, c11, c12, c00, c01, c02⟩) (first
    | (go_at_call 17; have _t := tk30_0; refine (to_ring rk rp rn _).mono ?_; rintro e w20 ⟨rfl, hb⟩; have E21 := Lib.hid (E20d.out.step hb); clear hb; obtain ⟨-, -, -, c10, c11, c12, c00, c01, c02, -⟩ := E21.out.cells; clear tk30_0)
    | (go_at_call 13; have _t := tk30_1; refine (to_ten ⟨((E21.out.rdAt 0 rfl).mono E21.out.bel.size), ((E21.out.rdAt 1 rfl).mono E21.out.bel.size), ((E21.out.rdAt 2 rfl).mono E21.out.bel.size)⟩ (Nat.le_refl _) (by have := BtL.out; omega) (by have := BtD.out; omega) (by have := BtX.out; omega)).mono ?_; rintro e w21 ⟨v0, v1, v2, rfl, ho, hb⟩; obtain ⟨b14, d14, rfl, -⟩ := ints_form ho.rows.1.rd; obtain ⟨b15, d15, rfl, -⟩ := ints_form ho.rows.2.1.rd; obtain ⟨b16, d16, rfl, -⟩ := ints_form ho.rows.2.2.rd; have E22 := Lib.hid (E21.out.grp hb ho); clear hb ho; obtain ⟨-, -, -, c10, c11, c12, c00, c01, c02, -⟩ := E22.out.cells; clear tk30_1)
    | (go_at_call 20; have _t := tk30_2; refine (to_row ((E22.out.rdAt 3 rfl).mono E22.out.bel.size) (Nat.le_refl _) (by have := Bx.out; omega)).mono ?_; rintro e w22 ⟨v, rfl, ho, hb⟩; obtain ⟨b17, d17, rfl, -⟩ := ints_form ho.rd; have E23 := Lib.hid (E22.out.grp hb (OwnG.one ho)); clear hb ho; obtain ⟨-, -, -, c10, c11, c12, c00, c01, c02, -⟩ := E23.out.cells; clear tk30_2)
    | (go_at_call 29; have _t := tk30_3; refine (elem_at_impl ⟨(E23.out.rowAt 1 0 rfl rfl), (E23.out.rowAt 1 1 rfl rfl), (E23.out.rowAt 1 2 rfl rfl)⟩ (E23.out.rowAt 0 0 rfl rfl) (Nat.le_refl _) ⟨(by have := BtL.out; omega), (by have := BtD.out; omega), (by have := BtX.out; omega)⟩ (by have := Bx.out; omega) HhI.out).mono ?_; rw [← HG.out]; rintro e w23 ⟨v, rfl, ho, hb⟩; obtain ⟨b18, d18, rfl, -⟩ := ints_form ho.rd; have E24 := Lib.hid (E23.out.grp hb (OwnG.one ho)); clear hb ho; obtain ⟨-, -, -, c10, c11, c12, c00, c01, c02, -⟩ := E24.out.cells; clear tk30_3))
  go_wp2_with fail
  refine (eq_rows (E24.out.rowAt 0 0 rfl rfl) (E24.out.rowAt 8 0 rfl rfl) rfl (by have := HGL.out; omega)).mono ?_
  rintro e w24 ⟨rfl, hb⟩
  have E25 := Lib.hid (E24.out.step hb)
  clear hb
  go_wp2_with fail
  refine (helds_row 1 rfl (E25.out.rowAt 5 0 rfl rfl) (by have := HGL.out; omega) (by omega)).mono ?_
  rw [← M2.out]
  rintro e w25 ⟨rfl, hb⟩
  have E26 := Lib.hid (E25.out.step hb)
  clear hb
  go_wp2
  go_ret
  exact ⟨rfl, E26.out.bel⟩

theorem law_elem_at (rk rp rn : Int)   {vtL : Value} {tL : List Int} {vtD : Value} {tD : List Int} {vtX : Value} {tX : List Int} {vx : Value} {x : List Int} (w : World) (htL : Rd w.heap.size w vtL (ints tL)) (ltL : tL.length ≤ 281474976710656) (htD : Rd w.heap.size w vtD (ints tD)) (ltD : tD.length ≤ 281474976710656) (htX : Rd w.heap.size w vtX (ints tX)) (ltX : tX.length ≤ 281474976710656) (hx : Rd w.heap.size w vx (ints x)) (lx : x.length ≤ 281474976710656) (hI : allI tL) :
    Calls Try.prog 7 #[ringV rk rp rn, tenV vtL vtD vtX, vx] w fun e w' => e = .returned (.bool true) ∧ Below w.heap.size w w' := by
  obtain ⟨atL, ctL, rfl, -⟩ := ints_form htL
  obtain ⟨atD, ctD, rfl, -⟩ := ints_form htD
  obtain ⟨atX, ctX, rfl, -⟩ := ints_form htX
  obtain ⟨ax, cx, rfl, -⟩ := ints_form hx
  by_cases sx : x.length ≤ 1048576
  case neg => exact law_elem_at_big0 rk rp rn   atL ctL tL atD ctD tD atX ctX tX ax cx x w  (by omega) lx
  exact law_elem_at_small rk rp rn   atL ctL tL atD ctD tD atX ctX tX ax cx x w (Lib.hid htL) (Lib.hid htD) (Lib.hid htX) (Lib.hid hx) sx ltL ltD ltX hI
end Go.Proofs.Ytlmhnlepdfdceaa
