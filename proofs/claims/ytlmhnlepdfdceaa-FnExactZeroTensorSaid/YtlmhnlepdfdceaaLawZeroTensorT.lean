
/- The law FnExactZeroTensor, walked. -/
import Derived.Test.YtlmhnlepdfdceaaZeroTensor
import Derived.Test.YtlmhnlepdfdceaaZeroImpl
import Derived.Test.YtlmhnlepdfdceaaBx
import Derived.Deep.RegionHeld3
import Derived.Deep.DeepCutAuto
namespace Go.Proofs.Ytlmhnlepdfdceaa
set_option maxRecDepth 20000
set_option maxRecDepth 20000
open Go.RowKit

set_option maxHeartbeats 400000 in
theorem law_zero_tensor_big0 (rk rp rn : Int)   (al : Option Addr) (cl : Nat) (l : List Int) (au : Option Addr) (cu : Nat) (u : List Int) (w : World)  (hb : 1048576 < l.length) (hc : l.length ≤ 281474976710656) :
    Calls Try.prog 9 #[ringV rk rp rn, .slice al l.length cl, .slice au u.length cu] w fun e w' => e = .returned (.bool true) ∧ Below w.heap.size w w' := by
  go_enter Try.func9, Try.ntmps9
  go_wp2
  go_ret
  exact ⟨rfl, (Below.refl _ _).alloc (Nat.le_refl _) _⟩

set_option maxHeartbeats 400000 in
theorem law_zero_tensor_big1 (rk rp rn : Int)   (al : Option Addr) (cl : Nat) (l : List Int) (au : Option Addr) (cu : Nat) (u : List Int) (w : World) (sl : l.length ≤ 1048576) (hb : 1048576 < u.length) (hc : u.length ≤ 281474976710656) :
    Calls Try.prog 9 #[ringV rk rp rn, .slice al l.length cl, .slice au u.length cu] w fun e w' => e = .returned (.bool true) ∧ Below w.heap.size w w' := by
  go_enter Try.func9, Try.ntmps9
  go_wp2
  go_ret
  exact ⟨rfl, (Below.refl _ _).alloc (Nat.le_refl _) _⟩

set_option maxHeartbeats 6400000 in
theorem law_zero_tensor_small (rk rp rn : Int)   (al : Option Addr) (cl : Nat) (l : List Int) (au : Option Addr) (cu : Nat) (u : List Int) (w : World) (Rl : Hid (Rd w.heap.size w (.slice al l.length cl) (ints l))) (Ru : Hid (Rd w.heap.size w (.slice au u.length cu) (ints u))) (sl : l.length ≤ 1048576) (su : u.length ≤ 1048576)  (hI : allI l) :
    Calls Try.prog 9 #[ringV rk rp rn, .slice al l.length cl, .slice au u.length cu] w fun e w' => e = .returned (.bool true) ∧ Below w.heap.size w w' := by
  obtain ⟨GL, hGL⟩ : ∃ G : List Int, G = if zeroTenB rk rp rn l u = true then l else [] := ⟨_, rfl⟩
  have HGLL : Hid (GL.length ≤ 17592186044416) := Lib.hid (by rw [hGL]; exact if_len (by omega))
  have HGL := Lib.hid hGL
  clear hGL
  obtain ⟨GD, hGD⟩ : ∃ G : List Int, G = if zeroTenB rk rp rn l u = true then u else [] := ⟨_, rfl⟩
  have HGLD : Hid (GD.length ≤ 17592186044416) := Lib.hid (by rw [hGD]; exact if_len (by omega))
  have HGD := Lib.hid hGD
  clear hGD
  obtain ⟨GX, hGX⟩ : ∃ G : List Int, G = if zeroTenB rk rp rn l u = true then zeroTenL rk rp rn u else [] := ⟨_, rfl⟩
  have HGLX : Hid (GX.length ≤ 17592186044416) := Lib.hid (by rw [hGX]; exact Nat.le_trans (zero_if_len _ _ _ _ _) (by omega))
  have HGX := Lib.hid hGX
  clear hGX
  obtain ⟨ok, hok⟩ : ∃ b : Bool, b = zeroTenB rk rp rn l u := ⟨_, rfl⟩
  have HOK := Lib.hid hok
  clear hok
  have hbb : (ok != ok) = false := by cases ok <;> rfl
  have HhI := Lib.hid hI
  clear hI
  have Bl : Hid (l.length ≤ 281474976710656) := Lib.hid (by omega)
  have Bu : Hid (u.length ≤ 281474976710656) := Lib.hid (by omega)
  have E0 := Lib.hid (St.start w (R := [(.slice al l.length cl, l), (.slice au u.length cu, u)]) (by intro r hr; simp only [List.mem_cons, List.not_mem_nil, or_false] at hr; rcases hr with rfl | rfl <;> first | exact Rl.out | exact Ru.out))
  have E0 := Lib.hid (E0.out.box3 (.int .i64 rk) (.int .i64 rp) (.int .i64 rn) 32)
  clear Rl Ru
  go_enter Try.func9, Try.ntmps9
  obtain ⟨c00, c01, c02, -⟩ := E0.out.cells
  go_wp2_with fail
  refine (to_ring rk rp rn _).mono ?_
  rintro e w1 ⟨rfl, hb⟩
  have E1 := Lib.hid (E0.out.step hb)
  clear hb
  clear c00 c01 c02
  obtain ⟨c00, c01, c02, -⟩ := E1.out.cells
  go_wp2_with fail
  refine (to_row ((E1.out.rdAt 0 rfl).mono E1.out.bel.size) (Nat.le_refl _) (by have := Bl.out; omega)).mono ?_
  rintro e w2 ⟨v, rfl, ho, hb⟩
  obtain ⟨b0, d0, rfl, -⟩ := ints_form ho.rd
  have E2 := Lib.hid (E1.out.grp hb (OwnG.one ho))
  clear hb ho
  clear c00 c01 c02
  obtain ⟨c00, c01, c02, -⟩ := E2.out.cells
  go_wp2_with fail
  refine (to_row ((E2.out.rdAt 1 rfl).mono E2.out.bel.size) (Nat.le_refl _) (by have := Bu.out; omega)).mono ?_
  rintro e w3 ⟨v, rfl, ho, hb⟩
  obtain ⟨b1, d1, rfl, -⟩ := ints_form ho.rd
  have E3 := Lib.hid (E2.out.grp hb (OwnG.one ho))
  clear hb ho
  clear c00 c01 c02
  obtain ⟨c00, c01, c02, -⟩ := E3.out.cells
  go_wp2_with fail
  refine (zero_tensor_spec (E3.out.rowAt 1 0 rfl rfl) (E3.out.rowAt 0 0 rfl rfl) (Nat.le_refl _) (by have := Bl.out; omega) (by have := Bu.out; omega)).mono ?_
  rw [← HGL.out, ← HGD.out, ← HGX.out, ← HOK.out]
  rintro e w4 ⟨v0, v1, v2, rfl, ho, hb⟩
  obtain ⟨b2, d2, rfl, -⟩ := ints_form ho.rows.1.rd
  obtain ⟨b3, d3, rfl, -⟩ := ints_form ho.rows.2.1.rd
  obtain ⟨b4, d4, rfl, -⟩ := ints_form ho.rows.2.2.rd
  have E4 := Lib.hid (E3.out.grp hb ho)
  clear hb ho
  have E5 := Lib.hid (E4.out.box3 (.slice b2 GL.length d2) (.slice b3 GD.length d3) (.slice b4 GX.length d4) 27)
  clear c00 c01 c02
  go_wp2_with fail
  refine (to_row ((E5.out.rdAt 0 rfl).mono E5.out.bel.size) (Nat.le_refl _) (by have := Bl.out; omega)).mono ?_
  rintro e w5 ⟨v, rfl, ho, hb⟩
  obtain ⟨b5, d5, rfl, -⟩ := ints_form ho.rd
  have E6 := Lib.hid (E5.out.grp hb (OwnG.one ho))
  clear hb ho
  go_wp2_with fail
  refine (to_row ((E6.out.rdAt 1 rfl).mono E6.out.bel.size) (Nat.le_refl _) (by have := Bu.out; omega)).mono ?_
  rintro e w6 ⟨v, rfl, ho, hb⟩
  obtain ⟨b6, d6, rfl, -⟩ := ints_form ho.rd
  have E7 := Lib.hid (E6.out.grp hb (OwnG.one ho))
  clear hb ho
  obtain ⟨-, -, -, c00, c01, c02, -⟩ := E7.out.cells
  go_wp2_with fail
  refine (to_ring rk rp rn _).mono ?_
  rintro e w7 ⟨rfl, hb⟩
  have E8 := Lib.hid (E7.out.step hb)
  clear hb
  clear c00 c01 c02
  obtain ⟨-, -, -, c00, c01, c02, -⟩ := E8.out.cells
  go_wp2_with fail
  refine (zero_tensor_impl (E8.out.rowAt 1 0 rfl rfl) (E8.out.rowAt 0 0 rfl rfl) (Nat.le_refl _) (by have := Bl.out; omega) (by have := Bu.out; omega) HhI.out).mono ?_
  rw [← HGL.out, ← HGD.out, ← HGX.out, ← HOK.out]
  rintro e w8 ⟨v0, v1, v2, rfl, ho, hb⟩
  obtain ⟨b7, d7, rfl, -⟩ := ints_form ho.rows.1.rd
  obtain ⟨b8, d8, rfl, -⟩ := ints_form ho.rows.2.1.rd
  obtain ⟨b9, d9, rfl, -⟩ := ints_form ho.rows.2.2.rd
  have E9 := Lib.hid (E8.out.grp hb ho)
  clear hb ho
  have E10 := Lib.hid (E9.out.box3 (.slice b7 GL.length d7) (.slice b8 GD.length d8) (.slice b9 GX.length d9) 27)
  clear c00 c01 c02
  obtain ⟨c20, c21, c22, c10, c11, c12, -, -, -, -⟩ := E10.out.cells
  go_wp2_with fail
  refine (eq_ten ⟨(E10.out.rowAt 0 0 rfl rfl), (E10.out.rowAt 0 1 rfl rfl), (E10.out.rowAt 0 2 rfl rfl)⟩ ⟨(E10.out.rowAt 3 0 rfl rfl), (E10.out.rowAt 3 1 rfl rfl), (E10.out.rowAt 3 2 rfl rfl)⟩ (Nat.le_refl _) (Nat.le_refl _) ⟨(by have := HGLL.out; omega), (by have := HGLD.out; omega), (by have := HGLX.out; omega)⟩).mono ?_
  rintro e w9 ⟨rfl, hb⟩
  have E11 := Lib.hid (E10.out.step hb)
  clear hb
  clear c20 c21 c22 c10 c11 c12
  go_wp2_with fail
  refine (to_row ((E11.out.rdAt 0 rfl).mono E11.out.bel.size) (Nat.le_refl _) (by have := Bl.out; omega)).mono ?_
  rintro e w10 ⟨v, rfl, ho, hb⟩
  obtain ⟨b10, d10, rfl, -⟩ := ints_form ho.rd
  have E12 := Lib.hid (E11.out.grp hb (OwnG.one ho))
  clear hb ho
  go_wp2_with fail
  refine (eq_rows (E12.out.rowAt 3 0 rfl rfl) (E12.out.rowAt 0 0 rfl rfl) rfl (by have := Bl.out; omega)).mono ?_
  rintro e w11 ⟨rfl, hb⟩
  have E13 := Lib.hid (E12.out.step hb)
  clear hb
  go_wp2_with fail
  refine (to_row ((E13.out.rdAt 1 rfl).mono E13.out.bel.size) (Nat.le_refl _) (by have := Bu.out; omega)).mono ?_
  rintro e w12 ⟨v, rfl, ho, hb⟩
  obtain ⟨b11, d11, rfl, -⟩ := ints_form ho.rd
  have E14 := Lib.hid (E13.out.grp hb (OwnG.one ho))
  clear hb ho
  go_wp2_with fail
  refine (eq_rows (E14.out.rowAt 3 0 rfl rfl) (E14.out.rowAt 0 0 rfl rfl) rfl (by have := Bu.out; omega)).mono ?_
  rintro e w13 ⟨rfl, hb⟩
  have E15 := Lib.hid (E14.out.step hb)
  clear hb
  go_wp2_with fail
  obtain ⟨m0, hm⟩ : ∃ m : Nat, m = 1 + l.length := ⟨_, rfl⟩
  have M0 := Lib.hid hm
  have m0b : m0 ≤ 1048577 := by have := Bl.out; omega
  clear hm
  refine (marks_row 1 rfl (E15.out.grpAt 4 rfl) (by have := Bl.out; omega) (by omega)).mono ?_
  rw [← M0.out]
  rintro e w14 ⟨rfl, ho, hk⟩
  have E16 := Lib.hid (E15.out.mark 4 rfl hk ho)
  clear ho hk
  go_wp2_with fail
  obtain ⟨m1, hm⟩ : ∃ m : Nat, m = m0 + u.length := ⟨_, rfl⟩
  have M1 := Lib.hid hm
  have m1b : m1 ≤ 2097153 := by have := Bu.out; omega
  clear hm
  refine (marks_row m0 rfl (E16.out.grpAt 3 rfl) (by have := Bu.out; omega) (by omega)).mono ?_
  rw [← M1.out]
  rintro e w15 ⟨rfl, ho, hk⟩
  have E17 := Lib.hid (E16.out.mark 3 rfl hk ho)
  clear ho hk
  obtain ⟨c20, c21, c22, c10, c11, c12, -, -, -, -⟩ := E17.out.cells
  go_wp2_with fail
  refine (eq_ten ⟨(E17.out.rowAt 2 0 rfl rfl), (E17.out.rowAt 2 1 rfl rfl), (E17.out.rowAt 2 2 rfl rfl)⟩ ⟨(E17.out.rowAt 5 0 rfl rfl), (E17.out.rowAt 5 1 rfl rfl), (E17.out.rowAt 5 2 rfl rfl)⟩ (Nat.le_refl _) (Nat.le_refl _) ⟨(by have := HGLL.out; omega), (by have := HGLD.out; omega), (by have := HGLX.out; omega)⟩).mono ?_
  rintro e w16 ⟨rfl, hb⟩
  have E18 := Lib.hid (E17.out.step hb)
  clear hb
  clear c20 c21 c22 c10 c11 c12
  obtain ⟨c20, c21, c22, -, -, -, -, -, -, -⟩ := E18.out.cells
  go_wp2_with fail
  obtain ⟨m2, hm⟩ : ∃ m : Nat, m = 1 + GL.length + GD.length + GX.length := ⟨_, rfl⟩
  have M2 := Lib.hid hm
  have m2b : m2 ≤ 52776558133249 := by have := HGLL.out; have := HGLD.out; have := HGLX.out; omega
  clear hm
  refine (marks_ten 1 rfl (E18.out.grpAt 2 rfl) (by have := HGLL.out; omega) (by have := HGLD.out; omega) (by have := HGLX.out; omega) (by omega)).mono ?_
  rw [← M2.out]
  rintro e w17 ⟨rfl, ho, hk⟩
  have E19 := Lib.hid (E18.out.mark 2 rfl hk ho)
  clear ho hk
  clear c20 c21 c22
  obtain ⟨c20, c21, c22, -, -, -, -, -, -, -⟩ := E19.out.cells
  go_wp2_with fail
  refine (helds_ten (s := 1) rfl ⟨(E19.out.rowAt 2 0 rfl rfl), (E19.out.rowAt 2 1 rfl rfl), (E19.out.rowAt 2 2 rfl rfl)⟩ (Nat.le_refl _) (by have := HGLL.out; omega) (by have := HGLD.out; omega) (by have := HGLX.out; omega) (by omega)).mono ?_
  rw [← M2.out]
  rintro e w18 ⟨rfl, hb⟩
  have E20 := Lib.hid (E19.out.step hb)
  clear hb
  clear c20 c21 c22
  obtain ⟨-, -, -, -, -, -, c00, c01, c02, -⟩ := E20.out.cells
  go_wp2_with fail
  refine (to_ring rk rp rn _).mono ?_
  rintro e w19 ⟨rfl, hb⟩
  have E21 := Lib.hid (E20.out.step hb)
  clear hb
  clear c00 c01 c02
  obtain ⟨-, -, -, -, -, -, c00, c01, c02, -⟩ := E21.out.cells
  go_wp2_with fail
  refine (to_row ((E21.out.rdAt 0 rfl).mono E21.out.bel.size) (Nat.le_refl _) (by have := Bl.out; omega)).mono ?_
  rintro e w20 ⟨v, rfl, ho, hb⟩
  obtain ⟨b12, d12, rfl, -⟩ := ints_form ho.rd
  have E22 := Lib.hid (E21.out.grp hb (OwnG.one ho))
  clear hb ho
  clear c00 c01 c02
  obtain ⟨-, -, -, -, -, -, c00, c01, c02, -⟩ := E22.out.cells
  go_wp2_with fail
  refine (to_row ((E22.out.rdAt 1 rfl).mono E22.out.bel.size) (Nat.le_refl _) (by have := Bu.out; omega)).mono ?_
  rintro e w21 ⟨v, rfl, ho, hb⟩
  obtain ⟨b13, d13, rfl, -⟩ := ints_form ho.rd
  have E23 := Lib.hid (E22.out.grp hb (OwnG.one ho))
  clear hb ho
  clear c00 c01 c02
  obtain ⟨-, -, -, -, -, -, c00, c01, c02, -⟩ := E23.out.cells
  go_wp2_with fail
  refine (zero_tensor_impl (E23.out.rowAt 1 0 rfl rfl) (E23.out.rowAt 0 0 rfl rfl) (Nat.le_refl _) (by have := Bl.out; omega) (by have := Bu.out; omega) HhI.out).mono ?_
  rw [← HGL.out, ← HGD.out, ← HGX.out, ← HOK.out]
  rintro e w22 ⟨v0, v1, v2, rfl, ho, hb⟩
  obtain ⟨b14, d14, rfl, -⟩ := ints_form ho.rows.1.rd
  obtain ⟨b15, d15, rfl, -⟩ := ints_form ho.rows.2.1.rd
  obtain ⟨b16, d16, rfl, -⟩ := ints_form ho.rows.2.2.rd
  have E24 := Lib.hid (E23.out.grp hb ho)
  clear hb ho
  have E25 := Lib.hid (E24.out.box3 (.slice b14 GL.length d14) (.slice b15 GD.length d15) (.slice b16 GX.length d16) 27)
  clear c00 c01 c02
  obtain ⟨c30, c31, c32, -, -, -, c10, c11, c12, -, -, -, -⟩ := E25.out.cells
  go_wp2_with fail
  refine (eq_ten ⟨(E25.out.rowAt 0 0 rfl rfl), (E25.out.rowAt 0 1 rfl rfl), (E25.out.rowAt 0 2 rfl rfl)⟩ ⟨(E25.out.rowAt 8 0 rfl rfl), (E25.out.rowAt 8 1 rfl rfl), (E25.out.rowAt 8 2 rfl rfl)⟩ (Nat.le_refl _) (Nat.le_refl _) ⟨(by have := HGLL.out; omega), (by have := HGLD.out; omega), (by have := HGLX.out; omega)⟩).mono ?_
  rintro e w23 ⟨rfl, hb⟩
  have E26 := Lib.hid (E25.out.step hb)
  clear hb
  clear c30 c31 c32 c10 c11 c12
  obtain ⟨-, -, -, c20, c21, c22, -, -, -, -, -, -, -⟩ := E26.out.cells
  go_wp2_with fail
  refine (helds_ten (s := 1) rfl ⟨(E26.out.rowAt 5 0 rfl rfl), (E26.out.rowAt 5 1 rfl rfl), (E26.out.rowAt 5 2 rfl rfl)⟩ (Nat.le_refl _) (by have := HGLL.out; omega) (by have := HGLD.out; omega) (by have := HGLX.out; omega) (by omega)).mono ?_
  rw [← M2.out]
  rintro e w24 ⟨rfl, hb⟩
  have E27 := Lib.hid (E26.out.step hb)
  clear hb
  clear c20 c21 c22
  go_wp2
  go_ret
  exact ⟨rfl, E27.out.bel⟩

theorem law_zero_tensor (rk rp rn : Int)   {vl : Value} {l : List Int} {vu : Value} {u : List Int} (w : World) (hl : Rd w.heap.size w vl (ints l)) (ll : l.length ≤ 281474976710656) (hu : Rd w.heap.size w vu (ints u)) (lu : u.length ≤ 281474976710656) (hI : allI l) :
    Calls Try.prog 9 #[ringV rk rp rn, vl, vu] w fun e w' => e = .returned (.bool true) ∧ Below w.heap.size w w' := by
  obtain ⟨al, cl, rfl, -⟩ := ints_form hl
  obtain ⟨au, cu, rfl, -⟩ := ints_form hu
  by_cases sl : l.length ≤ 1048576
  case neg => exact law_zero_tensor_big0 rk rp rn   al cl l au cu u w  (by omega) ll
  by_cases su : u.length ≤ 1048576
  case neg => exact law_zero_tensor_big1 rk rp rn   al cl l au cu u w sl (by omega) lu
  exact law_zero_tensor_small rk rp rn   al cl l au cu u w (Lib.hid hl) (Lib.hid hu) sl su  hI
end Go.Proofs.Ytlmhnlepdfdceaa
