
/- The law FnExactStackTensors, walked. -/
import Derived.Test.YtceidekfcnmeaaaStackAll
import Derived.Test.YtceidekfcnmeaaaTensMark
import Derived.Test.YtceidekfcnmeaaaTensEq
namespace Go.Proofs.Ytceidekfcnmeaaa
set_option maxRecDepth 20000
open Go.RowKit

set_option maxHeartbeats 16000000 in
theorem law_stack (rk rp rn b : Int) {va : Value} {ts : List TenE} (w : World) (ha : RdTs w.heap.size w va ts) (hl : ts.length ≤ 281474976710656 ∧ ∀ t ∈ ts, t.1.length ≤ 17592186044416 ∧ t.2.1.length ≤ 17592186044416 ∧ t.2.2.length ≤ 17592186044416) (hI : ∀ t ∈ ts, allI t.1) (hb : inI b) :
    Calls Try.prog 3 #[ringV rk rp rn, va, .int .i64 b] w fun e w' => e = .returned (.bool true) ∧ Below w.heap.size w w' := by
  have HLT : Hid (∀ t ∈ ts, LenT t.1 t.2.1 t.2.2) := Lib.hid (fun t ht => ⟨by have := hl.2 t ht; omega, by have := hl.2 t ht; omega, by have := hl.2 t ht; omega⟩)
  have HII := Lib.hid hI
  have HBI := Lib.hid hb
  have HLL := Lib.hid hl
  obtain ⟨GL, hGL⟩ : ∃ G : List Int, G = if stackB rk rp rn ts b = true then (headT ts).1 ++ [b] else [] := ⟨_, rfl⟩
  have HGLL : Hid (GL.length ≤ 12) := Lib.hid (by rw [hGL]; exact stack_len_L _ _ _ _ _)
  have HGL := Lib.hid hGL
  obtain ⟨GD, hGD⟩ : ∃ G : List Int, G = if stackB rk rp rn ts b = true then (headT ts).2.1 ++ [(ts.length : Int)] else [] := ⟨_, rfl⟩
  have HGLD : Hid (GD.length ≤ 12) := Lib.hid (by rw [hGD]; exact stack_len_D _ _ _ _ _)
  have HGD := Lib.hid hGD
  obtain ⟨GX, hGX⟩ : ∃ G : List Int, G = if stackB rk rp rn ts b = true then stackX rk rn ts (headT ts).1 (headT ts).2.1 else [] := ⟨_, rfl⟩
  have HGLX : Hid (GX.length ≤ 24576) := Lib.hid (by rw [hGX]; exact stack_len_X _ _ _ _ _)
  have HGX := Lib.hid hGX
  obtain ⟨ok, hok⟩ : ∃ x : Bool, x = stackB rk rp rn ts b := ⟨_, rfl⟩
  have HOK := Lib.hid hok
  have hbb : (ok != ok) = false := by cases ok <;> rfl
  clear hI hb hGL hGD hGX hok
  have E0 := Lib.hid ((St.start w (R := []) (fun r hr => by cases hr)).box3 (.int .i64 rk) (.int .i64 rp) (.int .i64 rn) 23)
  have HSZ := Lib.hid (sz_tens 1048576 (ha.below E0.out.bel (Nat.le_refl _)) E0.out.bel.size (by omega) (by omega) hl.1 (fun t ht => ⟨by have := hl.2 t ht; omega, by have := hl.2 t ht; omega, by have := hl.2 t ht; omega⟩))
  clear hl
  go_enter Try.func3, Try.ntmps3
  go_wp2_with fail
  refine HSZ.out.mono ?_
  clear HSZ
  rintro e w0 ⟨z, rfl, hb, hz1, hz2, hz3⟩
  replace E0 := Lib.hid (E0.out.step hb)
  clear hb
  by_cases hz : z < 0
  · go_wp2
    go_ret
    exact ⟨rfl, E0.out.bel⟩
  have hq := hz3 (by omega)
  have HB : Hid (ts.length ≤ 1048576 ∧ (∀ t ∈ ts, t.1.length ≤ 17592186044416 ∧ t.2.1.length ≤ 17592186044416 ∧ t.2.2.length ≤ 17592186044416) ∧ (∀ t ∈ ts, t.1.length ≤ 1048576 ∧ t.2.1.length ≤ 1048576 ∧ t.2.2.length ≤ 1048576) ∧ totT ts ≤ 1048576) := Lib.hid ⟨by omega, HLL.out.2, fun t ht => by have h := wt_le ht; unfold wtT at h; omega, by omega⟩
  clear hz1 hz2 hz3 hq
  obtain ⟨c00, c01, c02, -⟩ := E0.out.cells
  go_wp2_with fail
  refine (to_ring rk rp rn _).mono ?_
  clear c00 c01 c02
  rintro e w1 ⟨rfl, hb⟩
  have E1 := Lib.hid (E0.out.step hb)
  clear hb
  obtain ⟨c00, c01, c02, -⟩ := E1.out.cells
  go_wp2_with fail
  refine (to_tens (ha.below E1.out.bel (Nat.le_refl _)) E1.out.bel.size HB.out.1 HB.out.2.1).mono ?_
  clear c00 c01 c02
  rintro e w2 ⟨vs, rfl, ho, hb⟩
  have E2 := Lib.hid (E1.out.grp hb (noRows _ _ _))
  have Xvs := Lib.hid ho
  clear ho hb
  obtain ⟨c00, c01, c02, -⟩ := E2.out.cells
  go_wp2_with fail
  refine (stack_spec Xvs.out.rd (Nat.le_refl _) HLT.out).mono ?_
  rw [← HGL.out, ← HGD.out, ← HGX.out, ← HOK.out]
  clear c00 c01 c02
  rintro e w3 ⟨v0, v1, v2, rfl, ho, hb⟩
  obtain ⟨ap0, ac0, rfl, -⟩ := ints_form ho.rows.1.rd
  obtain ⟨ap1, ac1, rfl, -⟩ := ints_form ho.rows.2.1.rd
  obtain ⟨ap2, ac2, rfl, -⟩ := ints_form ho.rows.2.2.rd
  have E3 := Lib.hid (E2.out.grp hb ho)
  replace Xvs := Lib.hid (Xvs.out.below hb)
  clear ho hb
  have E4 := Lib.hid (E3.out.box3 (.slice ap0 GL.length ac0) (.slice ap1 GD.length ac1) (.slice ap2 GX.length ac2) 28)
  replace Xvs := Lib.hid (Xvs.out.below ((Below.refl _ _).alloc (Nat.le_refl _) (.cells #[.slice ap0 GL.length ac0, .slice ap1 GD.length ac1, .slice ap2 GX.length ac2] 28)))
  obtain ⟨c10, c11, c12, c00, c01, c02, -⟩ := E4.out.cells
  go_wp2_with fail
  refine (to_tens (ha.below E4.out.bel (Nat.le_refl _)) E4.out.bel.size HB.out.1 HB.out.2.1).mono ?_
  clear c10 c11 c12 c00 c01 c02
  rintro e w4 ⟨vx, rfl, ho, hb⟩
  have E5 := Lib.hid (E4.out.grp hb (noRows _ _ _))
  replace Xvs := Lib.hid (Xvs.out.below hb)
  have Xvx := Lib.hid ho
  clear ho hb
  obtain ⟨c10, c11, c12, c00, c01, c02, -⟩ := E5.out.cells
  go_wp2_with fail
  refine (to_ring rk rp rn _).mono ?_
  clear c10 c11 c12 c00 c01 c02
  rintro e w5 ⟨rfl, hb⟩
  have E6 := Lib.hid (E5.out.step hb)
  replace Xvs := Lib.hid (Xvs.out.below hb)
  replace Xvx := Lib.hid (Xvx.out.below hb)
  clear hb
  obtain ⟨c10, c11, c12, c00, c01, c02, -⟩ := E6.out.cells
  go_wp2_with fail
  refine (stack_impl (k := rk) (p := rp) (q := rn) (b := b) Xvx.out.rd (by obtain ⟨_, _, _, _, _, _, _, h⟩ := Xvx.out; exact h) HB.out.1 HB.out.2.2.1 HII.out HBI.out).mono ?_
  rw [← HGL.out, ← HGD.out, ← HGX.out, ← HOK.out]
  clear c10 c11 c12 c00 c01 c02
  rintro e w6 ⟨v0, v1, v2, rfl, ho, hb⟩
  obtain ⟨gp0, gc0, rfl, -⟩ := ints_form ho.rows.1.rd
  obtain ⟨gp1, gc1, rfl, -⟩ := ints_form ho.rows.2.1.rd
  obtain ⟨gp2, gc2, rfl, -⟩ := ints_form ho.rows.2.2.rd
  have E7 := Lib.hid (E6.out.grp hb ho)
  replace Xvs := Lib.hid (Xvs.out.below hb)
  replace Xvx := Lib.hid (Xvx.out.below hb)
  clear ho hb
  have E8 := Lib.hid (E7.out.box3 (.slice gp0 GL.length gc0) (.slice gp1 GD.length gc1) (.slice gp2 GX.length gc2) 28)
  replace Xvs := Lib.hid (Xvs.out.below ((Below.refl _ _).alloc (Nat.le_refl _) (.cells #[.slice gp0 GL.length gc0, .slice gp1 GD.length gc1, .slice gp2 GX.length gc2] 28)))
  replace Xvx := Lib.hid (Xvx.out.below ((Below.refl _ _).alloc (Nat.le_refl _) (.cells #[.slice gp0 GL.length gc0, .slice gp1 GD.length gc1, .slice gp2 GX.length gc2] 28)))
  obtain ⟨c20, c21, c22, c10, c11, c12, c00, c01, c02, -⟩ := E8.out.cells
  go_wp2_with fail
  refine (eq_ten ⟨E8.out.rowAt 0 0 rfl rfl, E8.out.rowAt 0 1 rfl rfl, E8.out.rowAt 0 2 rfl rfl⟩ ⟨E8.out.rowAt 2 0 rfl rfl, E8.out.rowAt 2 1 rfl rfl, E8.out.rowAt 2 2 rfl rfl⟩ (Nat.le_refl _) (Nat.le_refl _) ⟨by have := HGLL.out; omega, by have := HGLD.out; omega, by have := HGLX.out; omega⟩).mono ?_
  clear c20 c21 c22 c10 c11 c12 c00 c01 c02
  rintro e w7 ⟨rfl, hb⟩
  have E9 := Lib.hid (E8.out.step hb)
  replace Xvs := Lib.hid (Xvs.out.below hb)
  replace Xvx := Lib.hid (Xvx.out.below hb)
  clear hb
  obtain ⟨c20, c21, c22, c10, c11, c12, c00, c01, c02, -⟩ := E9.out.cells
  go_wp2_with fail
  refine (to_tens (ha.below E9.out.bel (Nat.le_refl _)) E9.out.bel.size HB.out.1 HB.out.2.1).mono ?_
  clear c20 c21 c22 c10 c11 c12 c00 c01 c02
  rintro e w8 ⟨vy, rfl, ho, hb⟩
  have E10 := Lib.hid (E9.out.grp hb (noRows _ _ _))
  replace Xvs := Lib.hid (Xvs.out.below hb)
  replace Xvx := Lib.hid (Xvx.out.below hb)
  have Xvy := Lib.hid ho
  clear ho hb
  obtain ⟨c20, c21, c22, c10, c11, c12, c00, c01, c02, -⟩ := E10.out.cells
  go_wp2_with fail
  refine (eq_tens Xvx.out.rd Xvy.out.rd (by obtain ⟨_, _, _, _, _, _, _, h⟩ := Xvx.out; exact h) (Nat.le_refl _) (by have := HB.out.1; omega) HLT.out).mono ?_
  clear c20 c21 c22 c10 c11 c12 c00 c01 c02
  rintro e w9 ⟨rfl, hb⟩
  have E11 := Lib.hid (E10.out.step hb)
  replace Xvs := Lib.hid (Xvs.out.below hb)
  replace Xvx := Lib.hid (Xvx.out.below hb)
  replace Xvy := Lib.hid (Xvy.out.below hb)
  clear hb
  obtain ⟨c20, c21, c22, c10, c11, c12, c00, c01, c02, -⟩ := E11.out.cells
  go_wp2_with fail
  refine (mark_tens 1 rfl Xvx.out HB.out.1 (by have := HB.out.2.2.2; omega)).mono ?_
  clear c20 c21 c22 c10 c11 c12 c00 c01 c02
  rintro e w10 ⟨rfl, hk⟩
  have E12 := Lib.hid (E11.out.mark 2 rfl hk (noRows _ _ _))
  clear hk Xvx Xvy Xvs
  have qm : ¬ ((1 + totT ts : Nat) : Int) < 0 := by omega
  obtain ⟨c20, c21, c22, c10, c11, c12, c00, c01, c02, -⟩ := E12.out.cells
  go_wp2_with fail
  refine (eq_ten ⟨E12.out.rowAt 1 0 rfl rfl, E12.out.rowAt 1 1 rfl rfl, E12.out.rowAt 1 2 rfl rfl⟩ ⟨E12.out.rowAt 3 0 rfl rfl, E12.out.rowAt 3 1 rfl rfl, E12.out.rowAt 3 2 rfl rfl⟩ (Nat.le_refl _) (Nat.le_refl _) ⟨by have := HGLL.out; omega, by have := HGLD.out; omega, by have := HGLX.out; omega⟩).mono ?_
  clear c20 c21 c22 c10 c11 c12 c00 c01 c02
  rintro e w11 ⟨rfl, hb⟩
  have E13 := Lib.hid (E12.out.step hb)
  clear hb
  obtain ⟨c20, c21, c22, c10, c11, c12, c00, c01, c02, -⟩ := E13.out.cells
  go_wp2_with fail
  refine (marks_ten 1 rfl (E13.out.grpAt 1 rfl) (by have := HGLL.out; omega) (by have := HGLD.out; omega) (by have := HGLX.out; omega) (by omega)).mono ?_
  clear c20 c21 c22 c10 c11 c12 c00 c01 c02
  rintro e w12 ⟨rfl, ho, hk⟩
  have E14 := Lib.hid (E13.out.mark 1 rfl hk ho)
  clear ho hk
  obtain ⟨c20, c21, c22, c10, c11, c12, c00, c01, c02, -⟩ := E14.out.cells
  go_wp2_with fail
  refine (helds_ten (s := 1) rfl ⟨E14.out.rowAt 1 0 rfl rfl, E14.out.rowAt 1 1 rfl rfl, E14.out.rowAt 1 2 rfl rfl⟩ (Nat.le_refl _) (by have := HGLL.out; omega) (by have := HGLD.out; omega) (by have := HGLX.out; omega) (by omega)).mono ?_
  clear c20 c21 c22 c10 c11 c12 c00 c01 c02
  rintro e w13 ⟨rfl, hb⟩
  have E15 := Lib.hid (E14.out.step hb)
  clear hb
  have qn : ¬ ((1 + GL.length + GD.length + GX.length : Nat) : Int) < 0 := by omega
  obtain ⟨c20, c21, c22, c10, c11, c12, c00, c01, c02, -⟩ := E15.out.cells
  go_wp2_with fail
  refine (to_ring rk rp rn _).mono ?_
  clear c20 c21 c22 c10 c11 c12 c00 c01 c02
  rintro e w14 ⟨rfl, hb⟩
  have E16 := Lib.hid (E15.out.step hb)
  clear hb
  obtain ⟨c20, c21, c22, c10, c11, c12, c00, c01, c02, -⟩ := E16.out.cells
  go_wp2_with fail
  refine (to_tens (ha.below E16.out.bel (Nat.le_refl _)) E16.out.bel.size HB.out.1 HB.out.2.1).mono ?_
  clear c20 c21 c22 c10 c11 c12 c00 c01 c02
  rintro e w15 ⟨vz, rfl, ho, hb⟩
  have E17 := Lib.hid (E16.out.grp hb (noRows _ _ _))
  have Xvz := Lib.hid ho
  clear ho hb
  obtain ⟨c20, c21, c22, c10, c11, c12, c00, c01, c02, -⟩ := E17.out.cells
  go_wp2_with fail
  refine (stack_impl (k := rk) (p := rp) (q := rn) (b := b) Xvz.out.rd (Nat.le_refl _) HB.out.1 HB.out.2.2.1 HII.out HBI.out).mono ?_
  rw [← HGL.out, ← HGD.out, ← HGX.out, ← HOK.out]
  clear c20 c21 c22 c10 c11 c12 c00 c01 c02
  rintro e w16 ⟨v0, v1, v2, rfl, ho, hb⟩
  obtain ⟨hp0, hc0, rfl, -⟩ := ints_form ho.rows.1.rd
  obtain ⟨hp1, hc1, rfl, -⟩ := ints_form ho.rows.2.1.rd
  obtain ⟨hp2, hc2, rfl, -⟩ := ints_form ho.rows.2.2.rd
  have E18 := Lib.hid (E17.out.grp hb ho)
  replace Xvz := Lib.hid (Xvz.out.below hb)
  clear ho hb
  have E19 := Lib.hid (E18.out.box3 (.slice hp0 GL.length hc0) (.slice hp1 GD.length hc1) (.slice hp2 GX.length hc2) 28)
  replace Xvz := Lib.hid (Xvz.out.below ((Below.refl _ _).alloc (Nat.le_refl _) (.cells #[.slice hp0 GL.length hc0, .slice hp1 GD.length hc1, .slice hp2 GX.length hc2] 28)))
  obtain ⟨c30, c31, c32, c20, c21, c22, c10, c11, c12, c00, c01, c02, -⟩ := E19.out.cells
  go_wp2_with fail
  refine (eq_ten ⟨E19.out.rowAt 0 0 rfl rfl, E19.out.rowAt 0 1 rfl rfl, E19.out.rowAt 0 2 rfl rfl⟩ ⟨E19.out.rowAt 5 0 rfl rfl, E19.out.rowAt 5 1 rfl rfl, E19.out.rowAt 5 2 rfl rfl⟩ (Nat.le_refl _) (Nat.le_refl _) ⟨by have := HGLL.out; omega, by have := HGLD.out; omega, by have := HGLX.out; omega⟩).mono ?_
  clear c30 c31 c32 c20 c21 c22 c10 c11 c12 c00 c01 c02
  rintro e w17 ⟨rfl, hb⟩
  have E20 := Lib.hid (E19.out.step hb)
  replace Xvz := Lib.hid (Xvz.out.below hb)
  clear hb
  obtain ⟨c30, c31, c32, c20, c21, c22, c10, c11, c12, c00, c01, c02, -⟩ := E20.out.cells
  go_wp2_with fail
  refine (helds_ten (s := 1) rfl ⟨E20.out.rowAt 3 0 rfl rfl, E20.out.rowAt 3 1 rfl rfl, E20.out.rowAt 3 2 rfl rfl⟩ (Nat.le_refl _) (by have := HGLL.out; omega) (by have := HGLD.out; omega) (by have := HGLX.out; omega) (by omega)).mono ?_
  clear c30 c31 c32 c20 c21 c22 c10 c11 c12 c00 c01 c02
  rintro e w18 ⟨rfl, hb⟩
  have E21 := Lib.hid (E20.out.step hb)
  clear hb
  go_wp2
  go_ret
  exact ⟨rfl, E21.out.bel⟩
end Go.Proofs.Ytceidekfcnmeaaa
