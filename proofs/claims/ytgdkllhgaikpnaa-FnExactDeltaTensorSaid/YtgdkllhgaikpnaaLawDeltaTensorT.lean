
/- The law FnExactDeltaTensor, walked. -/
import Derived.Test.YtgdkllhgaikpnaaDeltaSpec
import Derived.Test.YtgdkllhgaikpnaaDeltaImpl
import Derived.Test.YtgdkllhgaikpnaaBx
import Derived.Deep.RegionHeld3
import Derived.Deep.DeepCutAuto
namespace Go.Proofs.Ytgdkllhgaikpnaa
set_option maxRecDepth 20000
open Go.RowKit

set_option maxHeartbeats 400000 in
theorem law_delta_tensor_big0 (rk rp rn : Int)  (ia : Int) (al : Option Addr) (cl : Nat) (l : List Int) (w : World)  (hb : 1048576 < l.length) (hc : l.length ≤ 281474976710656) :
    Calls Try.prog 6 #[ringV rk rp rn, .slice al l.length cl, .int .i64 ia] w fun e w' => e = .returned (.bool true) ∧ Below w.heap.size w w' := by
  go_enter Try.func6, Try.ntmps6
  go_wp2
  go_ret
  exact ⟨rfl, (Below.refl _ _).alloc (Nat.le_refl _) _⟩

set_option maxHeartbeats 64000000 in
theorem law_delta_tensor_small (rk rp rn : Int)  (ia : Int) (al : Option Addr) (cl : Nat) (l : List Int) (w : World) (Rl : Hid (Rd w.heap.size w (.slice al l.length cl) (ints l))) (sl : l.length ≤ 1048576)  (hI : allI l) :
    Calls Try.prog 6 #[ringV rk rp rn, .slice al l.length cl, .int .i64 ia] w fun e w' => e = .returned (.bool true) ∧ Below w.heap.size w w' := by
  obtain ⟨GL, hGL⟩ : ∃ G : List Int, G = if deltaB rk rp rn l ia = true then l else [] := ⟨_, rfl⟩
  have HGLL : Hid (GL.length ≤ 17592186044416) := Lib.hid (by rw [hGL]; exact if_len (by omega))
  have HGL := Lib.hid hGL
  clear hGL
  obtain ⟨GD, hGD⟩ : ∃ G : List Int, G = if deltaB rk rp rn l ia = true then List.replicate l.length ia else [] := ⟨_, rfl⟩
  have HGLD : Hid (GD.length ≤ 17592186044416) := Lib.hid (by rw [hGD]; exact if_len (by rw [List.length_replicate]; omega))
  have HGD := Lib.hid hGD
  clear hGD
  obtain ⟨GX, hGX⟩ : ∃ G : List Int, G = if deltaB rk rp rn l ia = true then deltaL rk rp rn l.length ia else [] := ⟨_, rfl⟩
  have HGLX : Hid (GX.length ≤ 17592186044416) := Lib.hid (by rw [hGX]; exact Nat.le_trans (delta_len _ _ _ _ _) (by omega))
  have HGX := Lib.hid hGX
  clear hGX
  obtain ⟨ok, hok⟩ : ∃ b : Bool, b = deltaB rk rp rn l ia := ⟨_, rfl⟩
  have HOK := Lib.hid hok
  clear hok
  have hbb : (ok != ok) = false := by cases ok <;> rfl
  have HhI := Lib.hid hI
  clear hI
  have Bl : Hid (l.length ≤ 281474976710656) := Lib.hid (by omega)
  have E0 := Lib.hid (St.start w (R := [(.slice al l.length cl, l)]) (by intro r hr; simp only [List.mem_cons, List.not_mem_nil, or_false] at hr; subst hr; exact Rl.out))
  have E0 := Lib.hid (E0.out.box3 (.int .i64 rk) (.int .i64 rp) (.int .i64 rn) 23)
  clear Rl
  go_enter Try.func6, Try.ntmps6
  obtain ⟨c00, c01, c02, -⟩ := E0.out.cells
  go_wp2_with fail
  refine (to_ring rk rp rn _).mono ?_
  rintro e w1 ⟨rfl, hb⟩
  have E1 := Lib.hid (E0.out.step hb)
  clear hb
  clear c00 c01 c02
  obtain ⟨c00, c01, c02, -⟩ := E1.out.cells
  go_wp2_with fail
  refine (to_row ((E1.out.rdAt 0 rfl).mono E1.out.bel.size) (Nat.le_refl _) (by have := Bl.out; omega)).mono ?_
  rintro e w2 ⟨v, rfl, ho, hb⟩
  obtain ⟨b0, d0, rfl, -⟩ := ints_form ho.rd
  have E2 := Lib.hid (E1.out.grp hb (OwnG.one ho))
  clear hb ho
  clear c00 c01 c02
  obtain ⟨c00, c01, c02, -⟩ := E2.out.cells
  go_wp2_with fail
  refine (delta_tensor_spec (E2.out.rowAt 0 0 rfl rfl) (Nat.le_refl _) sl).mono ?_
  rw [← HGL.out, ← HGD.out, ← HGX.out, ← HOK.out]
  rintro e w3 ⟨v0, v1, v2, rfl, ho, hb⟩
  obtain ⟨b1, d1, rfl, -⟩ := ints_form ho.rows.1.rd
  obtain ⟨b2, d2, rfl, -⟩ := ints_form ho.rows.2.1.rd
  obtain ⟨b3, d3, rfl, -⟩ := ints_form ho.rows.2.2.rd
  have E3 := Lib.hid (E2.out.grp hb ho)
  clear hb ho
  have E4 := Lib.hid (E3.out.box3 (.slice b1 GL.length d1) (.slice b2 GD.length d2) (.slice b3 GX.length d3) 28)
  clear c00 c01 c02
  go_wp2_with fail
  refine (to_row ((E4.out.rdAt 0 rfl).mono E4.out.bel.size) (Nat.le_refl _) (by have := Bl.out; omega)).mono ?_
  rintro e w4 ⟨v, rfl, ho, hb⟩
  obtain ⟨b4, d4, rfl, -⟩ := ints_form ho.rd
  have E5 := Lib.hid (E4.out.grp hb (OwnG.one ho))
  clear hb ho
  obtain ⟨-, -, -, c00, c01, c02, -⟩ := E5.out.cells
  go_wp2_with fail
  refine (to_ring rk rp rn _).mono ?_
  rintro e w5 ⟨rfl, hb⟩
  have E6 := Lib.hid (E5.out.step hb)
  clear hb
  clear c00 c01 c02
  obtain ⟨-, -, -, c00, c01, c02, -⟩ := E6.out.cells
  go_wp2_with fail
  refine (delta_tensor_impl (E6.out.rowAt 0 0 rfl rfl) (Nat.le_refl _) sl HhI.out).mono ?_
  rw [← HGL.out, ← HGD.out, ← HGX.out, ← HOK.out]
  rintro e w6 ⟨v0, v1, v2, rfl, ho, hb⟩
  obtain ⟨b5, d5, rfl, -⟩ := ints_form ho.rows.1.rd
  obtain ⟨b6, d6, rfl, -⟩ := ints_form ho.rows.2.1.rd
  obtain ⟨b7, d7, rfl, -⟩ := ints_form ho.rows.2.2.rd
  have E7 := Lib.hid (E6.out.grp hb ho)
  clear hb ho
  have E8 := Lib.hid (E7.out.box3 (.slice b5 GL.length d5) (.slice b6 GD.length d6) (.slice b7 GX.length d7) 28)
  clear c00 c01 c02
  obtain ⟨c20, c21, c22, c10, c11, c12, -, -, -, -⟩ := E8.out.cells
  go_wp2_with fail
  refine (eq_ten ⟨(E8.out.rowAt 0 0 rfl rfl), (E8.out.rowAt 0 1 rfl rfl), (E8.out.rowAt 0 2 rfl rfl)⟩ ⟨(E8.out.rowAt 2 0 rfl rfl), (E8.out.rowAt 2 1 rfl rfl), (E8.out.rowAt 2 2 rfl rfl)⟩ (Nat.le_refl _) (Nat.le_refl _) ⟨(by have := HGLL.out; omega), (by have := HGLD.out; omega), (by have := HGLX.out; omega)⟩).mono ?_
  rintro e w7 ⟨rfl, hb⟩
  have E9 := Lib.hid (E8.out.step hb)
  clear hb
  clear c20 c21 c22 c10 c11 c12
  go_wp2_with fail
  refine (to_row ((E9.out.rdAt 0 rfl).mono E9.out.bel.size) (Nat.le_refl _) (by have := Bl.out; omega)).mono ?_
  rintro e w8 ⟨v, rfl, ho, hb⟩
  obtain ⟨b8, d8, rfl, -⟩ := ints_form ho.rd
  have E10 := Lib.hid (E9.out.grp hb (OwnG.one ho))
  clear hb ho
  go_wp2_with fail
  refine (eq_rows (E10.out.rowAt 2 0 rfl rfl) (E10.out.rowAt 0 0 rfl rfl) rfl (by have := Bl.out; omega)).mono ?_
  rintro e w9 ⟨rfl, hb⟩
  have E11 := Lib.hid (E10.out.step hb)
  clear hb
  go_wp2_with fail
  obtain ⟨m0, hm⟩ : ∃ m : Nat, m = 1 + l.length := ⟨_, rfl⟩
  have M0 := Lib.hid hm
  have m0b : m0 ≤ 1048577 := by have := Bl.out; omega
  clear hm
  refine (marks_row 1 rfl (E11.out.grpAt 2 rfl) (by have := Bl.out; omega) (by omega)).mono ?_
  rw [← M0.out]
  rintro e w10 ⟨rfl, ho, hk⟩
  have E12 := Lib.hid (E11.out.mark 2 rfl hk ho)
  clear ho hk
  obtain ⟨c20, c21, c22, c10, c11, c12, -, -, -, -⟩ := E12.out.cells
  go_wp2_with fail
  refine (eq_ten ⟨(E12.out.rowAt 1 0 rfl rfl), (E12.out.rowAt 1 1 rfl rfl), (E12.out.rowAt 1 2 rfl rfl)⟩ ⟨(E12.out.rowAt 3 0 rfl rfl), (E12.out.rowAt 3 1 rfl rfl), (E12.out.rowAt 3 2 rfl rfl)⟩ (Nat.le_refl _) (Nat.le_refl _) ⟨(by have := HGLL.out; omega), (by have := HGLD.out; omega), (by have := HGLX.out; omega)⟩).mono ?_
  rintro e w11 ⟨rfl, hb⟩
  have E13 := Lib.hid (E12.out.step hb)
  clear hb
  clear c20 c21 c22 c10 c11 c12
  obtain ⟨c20, c21, c22, -, -, -, -, -, -, -⟩ := E13.out.cells
  go_wp2_with fail
  obtain ⟨m1, hm⟩ : ∃ m : Nat, m = 1 + GL.length + GD.length + GX.length := ⟨_, rfl⟩
  have M1 := Lib.hid hm
  have m1b : m1 ≤ 52776558133249 := by have := HGLL.out; have := HGLD.out; have := HGLX.out; omega
  clear hm
  refine (marks_ten 1 rfl (E13.out.grpAt 1 rfl) (by have := HGLL.out; omega) (by have := HGLD.out; omega) (by have := HGLX.out; omega) (by omega)).mono ?_
  rw [← M1.out]
  rintro e w12 ⟨rfl, ho, hk⟩
  have E14 := Lib.hid (E13.out.mark 1 rfl hk ho)
  clear ho hk
  clear c20 c21 c22
  obtain ⟨c20, c21, c22, -, -, -, -, -, -, -⟩ := E14.out.cells
  go_wp2_with fail
  refine (helds_ten (s := 1) rfl ⟨(E14.out.rowAt 1 0 rfl rfl), (E14.out.rowAt 1 1 rfl rfl), (E14.out.rowAt 1 2 rfl rfl)⟩ (Nat.le_refl _) (by have := HGLL.out; omega) (by have := HGLD.out; omega) (by have := HGLX.out; omega) (by omega)).mono ?_
  rw [← M1.out]
  rintro e w13 ⟨rfl, hb⟩
  have E15 := Lib.hid (E14.out.step hb)
  clear hb
  clear c20 c21 c22
  obtain ⟨-, -, -, -, -, -, c00, c01, c02, -⟩ := E15.out.cells
  go_wp2_with fail
  refine (to_ring rk rp rn _).mono ?_
  rintro e w14 ⟨rfl, hb⟩
  have E16 := Lib.hid (E15.out.step hb)
  clear hb
  clear c00 c01 c02
  obtain ⟨-, -, -, -, -, -, c00, c01, c02, -⟩ := E16.out.cells
  go_wp2_with fail
  refine (to_row ((E16.out.rdAt 0 rfl).mono E16.out.bel.size) (Nat.le_refl _) (by have := Bl.out; omega)).mono ?_
  rintro e w15 ⟨v, rfl, ho, hb⟩
  obtain ⟨b9, d9, rfl, -⟩ := ints_form ho.rd
  have E17 := Lib.hid (E16.out.grp hb (OwnG.one ho))
  clear hb ho
  clear c00 c01 c02
  obtain ⟨-, -, -, -, -, -, c00, c01, c02, -⟩ := E17.out.cells
  go_wp2_with fail
  refine (delta_tensor_impl (E17.out.rowAt 0 0 rfl rfl) (Nat.le_refl _) sl HhI.out).mono ?_
  rw [← HGL.out, ← HGD.out, ← HGX.out, ← HOK.out]
  rintro e w16 ⟨v0, v1, v2, rfl, ho, hb⟩
  obtain ⟨b10, d10, rfl, -⟩ := ints_form ho.rows.1.rd
  obtain ⟨b11, d11, rfl, -⟩ := ints_form ho.rows.2.1.rd
  obtain ⟨b12, d12, rfl, -⟩ := ints_form ho.rows.2.2.rd
  have E18 := Lib.hid (E17.out.grp hb ho)
  clear hb ho
  have E19 := Lib.hid (E18.out.box3 (.slice b10 GL.length d10) (.slice b11 GD.length d11) (.slice b12 GX.length d12) 28)
  clear c00 c01 c02
  obtain ⟨c30, c31, c32, -, -, -, c10, c11, c12, -, -, -, -⟩ := E19.out.cells
  go_wp2_with fail
  refine (eq_ten ⟨(E19.out.rowAt 0 0 rfl rfl), (E19.out.rowAt 0 1 rfl rfl), (E19.out.rowAt 0 2 rfl rfl)⟩ ⟨(E19.out.rowAt 5 0 rfl rfl), (E19.out.rowAt 5 1 rfl rfl), (E19.out.rowAt 5 2 rfl rfl)⟩ (Nat.le_refl _) (Nat.le_refl _) ⟨(by have := HGLL.out; omega), (by have := HGLD.out; omega), (by have := HGLX.out; omega)⟩).mono ?_
  rintro e w17 ⟨rfl, hb⟩
  have E20 := Lib.hid (E19.out.step hb)
  clear hb
  clear c30 c31 c32 c10 c11 c12
  obtain ⟨-, -, -, c20, c21, c22, -, -, -, -, -, -, -⟩ := E20.out.cells
  go_wp2_with fail
  refine (helds_ten (s := 1) rfl ⟨(E20.out.rowAt 3 0 rfl rfl), (E20.out.rowAt 3 1 rfl rfl), (E20.out.rowAt 3 2 rfl rfl)⟩ (Nat.le_refl _) (by have := HGLL.out; omega) (by have := HGLD.out; omega) (by have := HGLX.out; omega) (by omega)).mono ?_
  rw [← M1.out]
  rintro e w18 ⟨rfl, hb⟩
  have E21 := Lib.hid (E20.out.step hb)
  clear hb
  clear c20 c21 c22
  go_wp2
  go_ret
  exact ⟨rfl, E21.out.bel⟩

theorem law_delta_tensor (rk rp rn : Int)  (ia : Int) {vl : Value} {l : List Int} (w : World) (hl : Rd w.heap.size w vl (ints l)) (ll : l.length ≤ 281474976710656) (hI : allI l) :
    Calls Try.prog 6 #[ringV rk rp rn, vl, .int .i64 ia] w fun e w' => e = .returned (.bool true) ∧ Below w.heap.size w w' := by
  obtain ⟨al, cl, rfl, -⟩ := ints_form hl
  by_cases sl : l.length ≤ 1048576
  case neg => exact law_delta_tensor_big0 rk rp rn  ia al cl l w  (by omega) ll
  exact law_delta_tensor_small rk rp rn  ia al cl l w (Lib.hid hl) sl  hI
end Go.Proofs.Ytgdkllhgaikpnaa
