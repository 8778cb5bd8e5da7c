
/- The law FnExactIndexAt, walked. -/
import Derived.Test.YtlmhnlepdfdceaaIndex
import Derived.Test.YtlmhnlepdfdceaaIndexImpl
import Derived.Test.YtlmhnlepdfdceaaBx
import Derived.Deep.RegionHeld3
import Derived.Deep.DeepCutAuto
namespace Go.Proofs.Ytlmhnlepdfdceaa
set_option maxRecDepth 20000
set_option maxRecDepth 20000
open Go.RowKit

set_option maxHeartbeats 6400000 in
theorem law_index_at_small  (n : Int) (atL : Option Addr) (ctL : Nat) (tL : List Int) (atD : Option Addr) (ctD : Nat) (tD : List Int) (atX : Option Addr) (ctX : Nat) (tX : List Int) (w : World) (RtL : Hid (Rd w.heap.size w (.slice atL tL.length ctL) (ints tL))) (RtD : Hid (Rd w.heap.size w (.slice atD tD.length ctD) (ints tD))) (RtX : Hid (Rd w.heap.size w (.slice atX tX.length ctX) (ints tX)))  (ztL : tL.length ≤ 281474976710656) (ztD : tD.length ≤ 281474976710656) (ztX : tX.length ≤ 281474976710656) (hn1 : -9223372036854775808 ≤ n) (hn2 : n ≤ 9223372036854775807) (hI : allI tL) :
    Calls Try.prog 6 #[tenV (.slice atL tL.length ctL) (.slice atD tD.length ctD) (.slice atX tX.length ctX), .int .i64 n] w fun e w' => e = .returned (.bool true) ∧ Below w.heap.size w w' := by
  obtain ⟨G, hG⟩ : ∃ G : List Int, G = indexAtL tL tD n := ⟨_, rfl⟩
  have HGL : Hid (G.length ≤ 17592186044416) := Lib.hid (by rw [hG]; exact Nat.le_trans (indexAtL_len _ _ _) (by omega))
  have HG := Lib.hid hG
  clear hG
  obtain ⟨ok, hok⟩ : ∃ b : Bool, b = inSize tL tD n := ⟨_, rfl⟩
  have HOK := Lib.hid hok
  clear hok
  have hbb : (ok != ok) = false := by cases ok <;> rfl
  have HhI := Lib.hid hI
  clear hI
  have BtL : Hid (tL.length ≤ 281474976710656) := Lib.hid (by omega)
  have BtD : Hid (tD.length ≤ 281474976710656) := Lib.hid (by omega)
  have BtX : Hid (tX.length ≤ 281474976710656) := Lib.hid (by omega)
  have E0 := Lib.hid (St.start w (R := [(.slice atL tL.length ctL, tL), (.slice atD tD.length ctD, tD), (.slice atX tX.length ctX, tX)]) (by intro r hr; simp only [List.mem_cons, List.not_mem_nil, or_false] at hr; rcases hr with rfl | rfl | rfl <;> first | exact RtL.out | exact RtD.out | exact RtX.out))
  have E0 := Lib.hid (E0.out.box3 (.slice atL tL.length ctL) (.slice atD tD.length ctD) (.slice atX tX.length ctX) 24)
  clear RtL RtD RtX
  go_enter Try.func6, Try.ntmps6
  obtain ⟨c00, c01, c02, -⟩ := E0.out.cells
  go_wp2_with fail
  refine (sz_ten_full atL tL.length ctL atD tD.length ctD atX tX.length ctX 1048576 _ (by omega) (by omega) BtL.out BtD.out BtX.out).mono ?_
  rintro e w1 ⟨z, rfl, hz, hb⟩
  have E1 := Lib.hid (E0.out.step hb)
  clear hb
  rcases hz with rfl | ⟨hz0, hz1⟩
  case inl => go_wp2; go_ret; exact ⟨rfl, E1.out.bel⟩
  have qz : ¬ z < 0 := by omega
  have BtL : Hid (tL.length ≤ 1048576) := Lib.hid (by omega)
  have BtD : Hid (tD.length ≤ 1048576) := Lib.hid (by omega)
  have BtX : Hid (tX.length ≤ 1048576) := Lib.hid (by omega)
  clear hz1
  clear c00 c01 c02
  obtain ⟨c00, c01, c02, -⟩ := E1.out.cells
  go_wp2_with fail
  refine (to_ten ⟨((E1.out.rdAt 0 rfl).mono E1.out.bel.size), ((E1.out.rdAt 1 rfl).mono E1.out.bel.size), ((E1.out.rdAt 2 rfl).mono E1.out.bel.size)⟩ (Nat.le_refl _) (by have := BtL.out; omega) (by have := BtD.out; omega) (by have := BtX.out; omega)).mono ?_
  rintro e w2 ⟨v0, v1, v2, rfl, ho, hb⟩
  obtain ⟨b0, d0, rfl, -⟩ := ints_form ho.rows.1.rd
  obtain ⟨b1, d1, rfl, -⟩ := ints_form ho.rows.2.1.rd
  obtain ⟨b2, d2, rfl, -⟩ := ints_form ho.rows.2.2.rd
  have E2 := Lib.hid (E1.out.grp hb ho)
  clear hb ho
  clear c00 c01 c02
  obtain ⟨c00, c01, c02, -⟩ := E2.out.cells
  go_wp2_with fail
  refine (index_at_spec n ⟨(E2.out.rowAt 0 0 rfl rfl), (E2.out.rowAt 0 1 rfl rfl), (E2.out.rowAt 0 2 rfl rfl)⟩ (Nat.le_refl _) ⟨(by have := BtL.out; omega), (by have := BtD.out; omega), (by have := BtX.out; omega)⟩ hn1 hn2).mono ?_
  rw [← HG.out, ← HOK.out]
  rintro e w3 ⟨v, rfl, ho, hb⟩
  obtain ⟨b3, d3, rfl, -⟩ := ints_form ho.rd
  have E3 := Lib.hid (E2.out.grp hb (OwnG.one ho))
  clear hb ho
  clear c00 c01 c02
  obtain ⟨c00, c01, c02, -⟩ := E3.out.cells
  go_wp2_with fail
  refine (to_ten ⟨((E3.out.rdAt 0 rfl).mono E3.out.bel.size), ((E3.out.rdAt 1 rfl).mono E3.out.bel.size), ((E3.out.rdAt 2 rfl).mono E3.out.bel.size)⟩ (Nat.le_refl _) (by have := BtL.out; omega) (by have := BtD.out; omega) (by have := BtX.out; omega)).mono ?_
  rintro e w4 ⟨v0, v1, v2, rfl, ho, hb⟩
  obtain ⟨b4, d4, rfl, -⟩ := ints_form ho.rows.1.rd
  obtain ⟨b5, d5, rfl, -⟩ := ints_form ho.rows.2.1.rd
  obtain ⟨b6, d6, rfl, -⟩ := ints_form ho.rows.2.2.rd
  have E4 := Lib.hid (E3.out.grp hb ho)
  clear hb ho
  have E5 := Lib.hid (E4.out.box3 (.slice b4 tL.length d4) (.slice b5 tD.length d5) (.slice b6 tX.length d6) 27)
  clear c00 c01 c02
  obtain ⟨c10, c11, c12, -, -, -, -⟩ := E5.out.cells
  go_wp2_with fail
  refine (index_at_impl n ⟨(E5.out.rowAt 0 0 rfl rfl), (E5.out.rowAt 0 1 rfl rfl), (E5.out.rowAt 0 2 rfl rfl)⟩ (Nat.le_refl _) ⟨(by have := BtL.out; omega), (by have := BtD.out; omega), (by have := BtX.out; omega)⟩ HhI.out).mono ?_
  rw [← HG.out, ← HOK.out]
  rintro e w5 ⟨v, rfl, ho, hb⟩
  obtain ⟨b7, d7, rfl, -⟩ := ints_form ho.rd
  have E6 := Lib.hid (E5.out.grp hb (OwnG.one ho))
  clear hb ho
  clear c10 c11 c12
  go_wp2_with fail
  refine (eq_rows (E6.out.rowAt 0 0 rfl rfl) (E6.out.rowAt 2 0 rfl rfl) rfl (by have := HGL.out; omega)).mono ?_
  rintro e w6 ⟨rfl, hb⟩
  have E7 := Lib.hid (E6.out.step hb)
  clear hb
  have E7d := Lib.hid E7.out.drew
  obtain ⟨c10, c11, c12, c00, c01, c02, -⟩ := E7.out.cells
  go_wp2
  have tk10_0 : True := trivial
  have tk10_1 : True := trivial
  go_region_held3 (fun w' => w'.cell? ⟨w4.heap.size, 0, none⟩ = some (.slice b4 tL.length d4) ∧ w'.cell? ⟨w4.heap.size, 1, none⟩ = some (.slice b5 tD.length d5) ∧ w'.cell? ⟨w4.heap.size, 2, none⟩ = some (.slice b6 tX.length d6) ∧ w'.cell? ⟨w.heap.size, 0, none⟩ = some (.slice atL tL.length ctL) ∧ w'.cell? ⟨w.heap.size, 1, none⟩ = some (.slice atD tD.length ctD) ∧ w'.cell? ⟨w.heap.size, 2, none⟩ = some (.slice atX tX.length ctX)) (first | exact ⟨c10, c11, c12, c00, c01, c02⟩) (first
    | (go_at_call 13; have _t := tk10_0; refine (to_ten ⟨((E7d.out.rdAt 0 rfl).mono E7d.out.bel.size), ((E7d.out.rdAt 1 rfl).mono E7d.out.bel.size), ((E7d.out.rdAt 2 rfl).mono E7d.out.bel.size)⟩ (Nat.le_refl _) (by have := BtL.out; omega) (by have := BtD.out; omega) (by have := BtX.out; omega)).mono ?_; rintro e w7 ⟨v0, v1, v2, rfl, ho, hb⟩; obtain ⟨b8, d8, rfl, -⟩ := ints_form ho.rows.1.rd; obtain ⟨b9, d9, rfl, -⟩ := ints_form ho.rows.2.1.rd; obtain ⟨b10, d10, rfl, -⟩ := ints_form ho.rows.2.2.rd; have E8 := Lib.hid (E7d.out.grp hb ho); clear hb ho; obtain ⟨c10, c11, c12, c00, c01, c02, -⟩ := E8.out.cells; clear tk10_0)
    | (go_at_call 15; have _t := tk10_1; refine (eq_ten ⟨(E8.out.rowAt 2 0 rfl rfl), (E8.out.rowAt 2 1 rfl rfl), (E8.out.rowAt 2 2 rfl rfl)⟩ ⟨(E8.out.rowAt 0 0 rfl rfl), (E8.out.rowAt 0 1 rfl rfl), (E8.out.rowAt 0 2 rfl rfl)⟩ (Nat.le_refl _) (Nat.le_refl _) ⟨(by have := BtL.out; omega), (by have := BtD.out; omega), (by have := BtX.out; omega)⟩).mono ?_; rintro e w8 ⟨rfl, hb⟩; have E9 := Lib.hid (E8.out.step hb); clear hb; obtain ⟨c10, c11, c12, c00, c01, c02, -⟩ := E9.out.cells; clear tk10_1))
  obtain ⟨c10, c11, c12, -, -, -, -⟩ := E9.out.cells
  go_wp2_with fail
  obtain ⟨m0, hm⟩ : ∃ m : Nat, m = 1 + tL.length + tD.length + tX.length := ⟨_, rfl⟩
  have M0 := Lib.hid hm
  have m0b : m0 ≤ 3145729 := by have := BtL.out; have := BtD.out; have := BtX.out; omega
  clear hm
  refine (marks_ten 1 rfl (E9.out.grpAt 2 rfl) (by have := BtL.out; omega) (by have := BtD.out; omega) (by have := BtX.out; omega) (by omega)).mono ?_
  rw [← M0.out]
  rintro e w9 ⟨rfl, ho, hk⟩
  have E10 := Lib.hid (E9.out.mark 2 rfl hk ho)
  clear ho hk
  clear c10 c11 c12
  go_wp2_with fail
  refine (eq_rows (E10.out.rowAt 1 0 rfl rfl) (E10.out.rowAt 3 0 rfl rfl) rfl (by have := HGL.out; omega)).mono ?_
  rintro e w10 ⟨rfl, hb⟩
  have E11 := Lib.hid (E10.out.step hb)
  clear hb
  go_wp2_with fail
  obtain ⟨m1, hm⟩ : ∃ m : Nat, m = 1 + G.length := ⟨_, rfl⟩
  have M1 := Lib.hid hm
  have m1b : m1 ≤ 17592186044417 := by have := HGL.out; omega
  clear hm
  refine (marks_row 1 rfl (E11.out.grpAt 1 rfl) (by have := HGL.out; omega) (by omega)).mono ?_
  rw [← M1.out]
  rintro e w11 ⟨rfl, ho, hk⟩
  have E12 := Lib.hid (E11.out.mark 1 rfl hk ho)
  clear ho hk
  go_wp2_with fail
  refine (helds_row 1 rfl (E12.out.rowAt 1 0 rfl rfl) (by have := HGL.out; omega) (by omega)).mono ?_
  rw [← M1.out]
  rintro e w12 ⟨rfl, hb⟩
  have E13 := Lib.hid (E12.out.step hb)
  clear hb
  obtain ⟨-, -, -, c00, c01, c02, -⟩ := E13.out.cells
  go_wp2_with fail
  refine (to_ten ⟨((E13.out.rdAt 0 rfl).mono E13.out.bel.size), ((E13.out.rdAt 1 rfl).mono E13.out.bel.size), ((E13.out.rdAt 2 rfl).mono E13.out.bel.size)⟩ (Nat.le_refl _) (by have := BtL.out; omega) (by have := BtD.out; omega) (by have := BtX.out; omega)).mono ?_
  rintro e w13 ⟨v0, v1, v2, rfl, ho, hb⟩
  obtain ⟨b11, d11, rfl, -⟩ := ints_form ho.rows.1.rd
  obtain ⟨b12, d12, rfl, -⟩ := ints_form ho.rows.2.1.rd
  obtain ⟨b13, d13, rfl, -⟩ := ints_form ho.rows.2.2.rd
  have E14 := Lib.hid (E13.out.grp hb ho)
  clear hb ho
  clear c00 c01 c02
  obtain ⟨-, -, -, c00, c01, c02, -⟩ := E14.out.cells
  go_wp2_with fail
  refine (index_at_impl n ⟨(E14.out.rowAt 0 0 rfl rfl), (E14.out.rowAt 0 1 rfl rfl), (E14.out.rowAt 0 2 rfl rfl)⟩ (Nat.le_refl _) ⟨(by have := BtL.out; omega), (by have := BtD.out; omega), (by have := BtX.out; omega)⟩ HhI.out).mono ?_
  rw [← HG.out, ← HOK.out]
  rintro e w14 ⟨v, rfl, ho, hb⟩
  obtain ⟨b14, d14, rfl, -⟩ := ints_form ho.rd
  have E15 := Lib.hid (E14.out.grp hb (OwnG.one ho))
  clear hb ho
  clear c00 c01 c02
  go_wp2_with fail
  refine (eq_rows (E15.out.rowAt 0 0 rfl rfl) (E15.out.rowAt 5 0 rfl rfl) rfl (by have := HGL.out; omega)).mono ?_
  rintro e w15 ⟨rfl, hb⟩
  have E16 := Lib.hid (E15.out.step hb)
  clear hb
  go_wp2_with fail
  refine (helds_row 1 rfl (E16.out.rowAt 3 0 rfl rfl) (by have := HGL.out; omega) (by omega)).mono ?_
  rw [← M1.out]
  rintro e w16 ⟨rfl, hb⟩
  have E17 := Lib.hid (E16.out.step hb)
  clear hb
  go_wp2
  go_ret
  exact ⟨rfl, E17.out.bel⟩

theorem law_index_at  (n : Int) {vtL : Value} {tL : List Int} {vtD : Value} {tD : List Int} {vtX : Value} {tX : List Int} (w : World) (htL : Rd w.heap.size w vtL (ints tL)) (ltL : tL.length ≤ 281474976710656) (htD : Rd w.heap.size w vtD (ints tD)) (ltD : tD.length ≤ 281474976710656) (htX : Rd w.heap.size w vtX (ints tX)) (ltX : tX.length ≤ 281474976710656) (hn1 : -9223372036854775808 ≤ n) (hn2 : n ≤ 9223372036854775807) (hI : allI tL) :
    Calls Try.prog 6 #[tenV vtL vtD vtX, .int .i64 n] w fun e w' => e = .returned (.bool true) ∧ Below w.heap.size w w' := by
  obtain ⟨atL, ctL, rfl, -⟩ := ints_form htL
  obtain ⟨atD, ctD, rfl, -⟩ := ints_form htD
  obtain ⟨atX, ctX, rfl, -⟩ := ints_form htX
  exact law_index_at_small  n atL ctL tL atD ctD tD atX ctX tX w (Lib.hid htL) (Lib.hid htD) (Lib.hid htX)  ltL ltD ltX hn1 hn2 hI
end Go.Proofs.Ytlmhnlepdfdceaa
