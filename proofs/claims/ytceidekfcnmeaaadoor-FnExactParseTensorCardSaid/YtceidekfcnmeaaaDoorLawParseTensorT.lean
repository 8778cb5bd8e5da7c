
/- The law FnExactParseTensor, walked. -/
import Derived.Test.YtceidekfcnmeaaaDoorParTenSpec
import Derived.Test.YtceidekfcnmeaaaDoorParTenImpl
import Derived.Test.YtceidekfcnmeaaaDoorBx
import Derived.Deep.RegionHeld3
import Derived.Deep.DeepCutAuto
namespace Go.Proofs.YtceidekfcnmeaaaDoor
set_option maxRecDepth 20000
open Go.RowKit

set_option maxHeartbeats 64000000 in
theorem law_parse_tensor_small (rk rp rn : Int) (s : ByteArray)  (w : World)    (ss : s.size ≤ 1048576) (hv : LibVars w) :
    Calls Tryd.prog 5 #[ringV rk rp rn, .string s] w fun e w' => e = .returned (.bool true) ∧ Below w.heap.size w w' := by
  obtain ⟨GL, hGL⟩ : ∃ G : List Int, G = if parB rk rp rn s = true then parL s else [] := ⟨_, rfl⟩
  have HGLL : Hid (GL.length ≤ 17592186044416) := Lib.hid (by rw [hGL]; exact par_if_len (par_len s).2.1 ss)
  have HGL := Lib.hid hGL
  clear hGL
  obtain ⟨GD, hGD⟩ : ∃ G : List Int, G = if parB rk rp rn s = true then parD s else [] := ⟨_, rfl⟩
  have HGLD : Hid (GD.length ≤ 17592186044416) := Lib.hid (by rw [hGD]; exact par_if_len (par_len s).2.2.1 ss)
  have HGD := Lib.hid hGD
  clear hGD
  obtain ⟨GX, hGX⟩ : ∃ G : List Int, G = if parB rk rp rn s = true then parX s else [] := ⟨_, rfl⟩
  have HGLX : Hid (GX.length ≤ 17592186044416) := Lib.hid (by rw [hGX]; exact par_if_len (par_len s).2.2.2 ss)
  have HGX := Lib.hid hGX
  clear hGX
  obtain ⟨ok, hok⟩ : ∃ b : Bool, b = parB rk rp rn s := ⟨_, rfl⟩
  have HOK := Lib.hid hok
  clear hok
  have hbb : (ok != ok) = false := by cases ok <;> rfl
  have Hhv := Lib.hid hv
  clear hv
  have E0 := Lib.hid (St.start w (R := []) (fun r hr => by cases hr))
  have E0 := Lib.hid (E0.out.box3 (.int .i64 rk) (.int .i64 rp) (.int .i64 rn) 23)
  go_enter Tryd.func5, Tryd.ntmps5
  obtain ⟨c00, c01, c02, -⟩ := E0.out.cells
  go_wp2_with fail
  refine (to_ring rk rp rn _).mono ?_
  rintro e w1 ⟨rfl, hb⟩
  have E1 := Lib.hid (E0.out.step hb)
  clear hb
  clear c00 c01 c02
  obtain ⟨c00, c01, c02, -⟩ := E1.out.cells
  go_wp2_with fail
  refine (par_law_spec rk rp rn s _ ss).mono ?_
  rw [← HGL.out, ← HGD.out, ← HGX.out, ← HOK.out]
  rintro e w2 ⟨v0, v1, v2, rfl, ho, hb⟩
  obtain ⟨b0, d0, rfl, -⟩ := ints_form ho.rows.1.rd
  obtain ⟨b1, d1, rfl, -⟩ := ints_form ho.rows.2.1.rd
  obtain ⟨b2, d2, rfl, -⟩ := ints_form ho.rows.2.2.rd
  have E2 := Lib.hid (E1.out.grp hb ho)
  clear hb ho
  have E3 := Lib.hid (E2.out.box3 (.slice b0 GL.length d0) (.slice b1 GD.length d1) (.slice b2 GX.length d2) 35)
  clear c00 c01 c02
  obtain ⟨-, -, -, c00, c01, c02, -⟩ := E3.out.cells
  go_wp2_with fail
  refine (to_ring rk rp rn _).mono ?_
  rintro e w3 ⟨rfl, hb⟩
  have E4 := Lib.hid (E3.out.step hb)
  clear hb
  clear c00 c01 c02
  obtain ⟨-, -, -, c00, c01, c02, -⟩ := E4.out.cells
  go_wp2_with fail
  refine (par_law_impl rk rp rn s _ ss (Hhv.out.below E4.out.bel)).mono ?_
  rw [← HGL.out, ← HGD.out, ← HGX.out, ← HOK.out]
  rintro e w4 ⟨v0, v1, v2, rfl, ho, hb⟩
  obtain ⟨b3, d3, rfl, -⟩ := ints_form ho.rows.1.rd
  obtain ⟨b4, d4, rfl, -⟩ := ints_form ho.rows.2.1.rd
  obtain ⟨b5, d5, rfl, -⟩ := ints_form ho.rows.2.2.rd
  have E5 := Lib.hid (E4.out.grp hb ho)
  clear hb ho
  have E6 := Lib.hid (E5.out.box3 (.slice b3 GL.length d3) (.slice b4 GD.length d4) (.slice b5 GX.length d5) 35)
  clear c00 c01 c02
  obtain ⟨c20, c21, c22, c10, c11, c12, -, -, -, -⟩ := E6.out.cells
  go_wp2_with fail
  refine (eq_ten ⟨(E6.out.rowAt 0 0 rfl rfl), (E6.out.rowAt 0 1 rfl rfl), (E6.out.rowAt 0 2 rfl rfl)⟩ ⟨(E6.out.rowAt 1 0 rfl rfl), (E6.out.rowAt 1 1 rfl rfl), (E6.out.rowAt 1 2 rfl rfl)⟩ (Nat.le_refl _) (Nat.le_refl _) ⟨(by have := HGLL.out; omega), (by have := HGLD.out; omega), (by have := HGLX.out; omega)⟩).mono ?_
  rintro e w5 ⟨rfl, hb⟩
  have E7 := Lib.hid (E6.out.step hb)
  clear hb
  clear c20 c21 c22 c10 c11 c12
  obtain ⟨c20, c21, c22, -, -, -, -, -, -, -⟩ := E7.out.cells
  go_wp2_with fail
  obtain ⟨m0, hm⟩ : ∃ m : Nat, m = 1 + GL.length + GD.length + GX.length := ⟨_, rfl⟩
  have M0 := Lib.hid hm
  have m0b : m0 ≤ 52776558133249 := by have := HGLL.out; have := HGLD.out; have := HGLX.out; omega
  clear hm
  refine (marks_ten 1 rfl (E7.out.grpAt 0 rfl) (by have := HGLL.out; omega) (by have := HGLD.out; omega) (by have := HGLX.out; omega) (by omega)).mono ?_
  rw [← M0.out]
  rintro e w6 ⟨rfl, ho, hk⟩
  have E8 := Lib.hid (E7.out.mark 0 rfl hk ho)
  clear ho hk
  clear c20 c21 c22
  obtain ⟨c20, c21, c22, -, -, -, -, -, -, -⟩ := E8.out.cells
  go_wp2_with fail
  refine (helds_ten (s := 1) rfl ⟨(E8.out.rowAt 0 0 rfl rfl), (E8.out.rowAt 0 1 rfl rfl), (E8.out.rowAt 0 2 rfl rfl)⟩ (Nat.le_refl _) (by have := HGLL.out; omega) (by have := HGLD.out; omega) (by have := HGLX.out; omega) (by omega)).mono ?_
  rw [← M0.out]
  rintro e w7 ⟨rfl, hb⟩
  have E9 := Lib.hid (E8.out.step hb)
  clear hb
  clear c20 c21 c22
  obtain ⟨-, -, -, -, -, -, c00, c01, c02, -⟩ := E9.out.cells
  go_wp2_with fail
  refine (to_ring rk rp rn _).mono ?_
  rintro e w8 ⟨rfl, hb⟩
  have E10 := Lib.hid (E9.out.step hb)
  clear hb
  clear c00 c01 c02
  obtain ⟨-, -, -, -, -, -, c00, c01, c02, -⟩ := E10.out.cells
  go_wp2_with fail
  refine (par_law_impl rk rp rn s _ ss (Hhv.out.below E10.out.bel)).mono ?_
  rw [← HGL.out, ← HGD.out, ← HGX.out, ← HOK.out]
  rintro e w9 ⟨v0, v1, v2, rfl, ho, hb⟩
  obtain ⟨b6, d6, rfl, -⟩ := ints_form ho.rows.1.rd
  obtain ⟨b7, d7, rfl, -⟩ := ints_form ho.rows.2.1.rd
  obtain ⟨b8, d8, rfl, -⟩ := ints_form ho.rows.2.2.rd
  have E11 := Lib.hid (E10.out.grp hb ho)
  clear hb ho
  have E12 := Lib.hid (E11.out.box3 (.slice b6 GL.length d6) (.slice b7 GD.length d7) (.slice b8 GX.length d8) 35)
  clear c00 c01 c02
  obtain ⟨c30, c31, c32, -, -, -, c10, c11, c12, -, -, -, -⟩ := E12.out.cells
  go_wp2_with fail
  refine (eq_ten ⟨(E12.out.rowAt 0 0 rfl rfl), (E12.out.rowAt 0 1 rfl rfl), (E12.out.rowAt 0 2 rfl rfl)⟩ ⟨(E12.out.rowAt 2 0 rfl rfl), (E12.out.rowAt 2 1 rfl rfl), (E12.out.rowAt 2 2 rfl rfl)⟩ (Nat.le_refl _) (Nat.le_refl _) ⟨(by have := HGLL.out; omega), (by have := HGLD.out; omega), (by have := HGLX.out; omega)⟩).mono ?_
  rintro e w10 ⟨rfl, hb⟩
  have E13 := Lib.hid (E12.out.step hb)
  clear hb
  clear c30 c31 c32 c10 c11 c12
  obtain ⟨-, -, -, c20, c21, c22, -, -, -, -, -, -, -⟩ := E13.out.cells
  go_wp2_with fail
  refine (helds_ten (s := 1) rfl ⟨(E13.out.rowAt 1 0 rfl rfl), (E13.out.rowAt 1 1 rfl rfl), (E13.out.rowAt 1 2 rfl rfl)⟩ (Nat.le_refl _) (by have := HGLL.out; omega) (by have := HGLD.out; omega) (by have := HGLX.out; omega) (by omega)).mono ?_
  rw [← M0.out]
  rintro e w11 ⟨rfl, hb⟩
  have E14 := Lib.hid (E13.out.step hb)
  clear hb
  clear c20 c21 c22
  go_wp2
  go_ret
  exact ⟨rfl, E14.out.bel⟩

theorem law_parse_tensor (rk rp rn : Int) (s : ByteArray)  (w : World)  (ss : s.size ≤ 1048576) (hv : LibVars w) :
    Calls Tryd.prog 5 #[ringV rk rp rn, .string s] w fun e w' => e = .returned (.bool true) ∧ Below w.heap.size w w' := by
  exact law_parse_tensor_small rk rp rn s  w    ss hv
set_option maxHeartbeats 400000 in
theorem law_parse_tensor_big (rk rp rn : Int) (s : ByteArray) (w : World) (hs : s.size ≤ 281474976710656) (hbig : 1048576 < s.size) :
    Calls Tryd.prog 5 #[ringV rk rp rn, .string s] w fun e w' => e = .returned (.bool true) ∧ Below w.heap.size w w' := by
  go_enter Tryd.func5, Tryd.ntmps5
  go_wp2
  go_ret
  exact ⟨rfl, (Below.refl _ _).alloc (Nat.le_refl _) _⟩
theorem law_parse_tensor_all (rk rp rn : Int) (s : ByteArray) (w : World) (hs : s.size ≤ 281474976710656) (hv : LibVars w) :
    Calls Tryd.prog 5 #[ringV rk rp rn, .string s] w fun e w' => e = .returned (.bool true) ∧ Below w.heap.size w w' := by
  by_cases hbig : 1048576 < s.size
  · exact law_parse_tensor_big rk rp rn s w hs hbig
  · exact law_parse_tensor rk rp rn s w (by omega) hv
end Go.Proofs.YtceidekfcnmeaaaDoor
