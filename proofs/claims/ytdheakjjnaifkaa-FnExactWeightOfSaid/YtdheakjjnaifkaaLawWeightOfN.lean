
/- The law FnExactWeightOf, walked. -/
import Derived.Test.YtdheakjjnaifkaaNetKit
import Derived.Test.YtdheakjjnaifkaaWeightImpl
import Derived.Test.YtdheakjjnaifkaaWeightSpec
namespace Go.Proofs.Ytdheakjjnaifkaa
set_option maxRecDepth 20000
open Go.RowKit

set_option maxHeartbeats 16000000 in
theorem law_weight_of {k p q : Int} {tv ov : Value} {ts : List TenE} {O : List Int} (w : World) {vV : Value} {V : List Int} (hV : Rd w.heap.size w vV (ints V)) (lV : V.length ≤ 17592186044416) (iV : allI V) (ha : RdTs w.heap.size w tv ts) (hoo : Rd w.heap.size w ov (ints O)) (hn : LenN ts O) (hI : ∀ t ∈ ts, allI t.1) (hJ : allI O) :
    Calls Try.prog 7 #[netV k p q tv ov, vV] w fun e w' => e = .returned (.bool true) ∧ Below w.heap.size w w' := by
  obtain ⟨a, ca, rfl⟩ := ha.form
  obtain ⟨ao, co, rfl, -⟩ := ints_form hoo
  obtain ⟨aV, cV, rfl, -⟩ := ints_form hV
  have HLN := Lib.hid hn
  have HII := Lib.hid hI
  have HJJ := Lib.hid hJ
  have HV := Lib.hid hV
  have HVV := Lib.hid iV
  have E0 := Lib.hid ((St.start w (R := [(.slice aV V.length cV, V)]) (fun r hr => by simp only [List.mem_cons, List.not_mem_nil, or_false] at hr; subst hr; exact hV)).box5 (.int .i64 k) (.int .i64 p) (.int .i64 q) (.slice a ts.length ca) (.slice ao O.length co) 27)
  have HSZ := Lib.hid (sz_network (k := k) (p := p) (q := q) 1048576 (ha.below E0.out.bel (Nat.le_refl _)) (hoo.below E0.out.bel (Nat.le_refl _)) E0.out.bel.size (by omega) (by omega) hn)
  clear hn hI hJ
  by_cases hbig : 1048576 < V.length
  · have hd : decide ((1048576 : Int) < (V.length : Int)) = true := by simp; omega
    have hd2 : (1048576 : Int) < (V.length : Int) := by omega
    go_enter Try.func7, Try.ntmps7
    go_wp2
    go_ret
    exact ⟨rfl, E0.out.bel⟩
  have hd : decide ((1048576 : Int) < (V.length : Int)) = false := by simp; omega
  have hd2 : ¬ (1048576 : Int) < (V.length : Int) := by omega
  go_enter Try.func7, Try.ntmps7
  obtain ⟨c00, c01, c02, c03, c04, -⟩ := E0.out.cells
  go_wp2_with fail
  refine HSZ.out.mono ?_
  clear HSZ c00 c01 c02 c03 c04
  rintro e w0 ⟨z, rfl, hb, hz1, hz2, hz3⟩
  replace E0 := Lib.hid (E0.out.step hb)
  clear hb
  by_cases hz : z < 0
  · go_wp2
    go_ret
    exact ⟨rfl, E0.out.bel⟩
  have hq := hz3 (by omega)
  have HB : Hid (ts.length ≤ 1048576 ∧ totT ts ≤ 1048576 ∧ O.length ≤ 1048576 ∧ V.length ≤ 1048576) := Lib.hid ⟨by omega, by omega, by omega, by omega⟩
  have HLT : Hid (LenTs ts) := Lib.hid ⟨by omega, fun t ht => ⟨by have := HLN.out.2.1 t ht; omega, by have := HLN.out.2.1 t ht; omega, by have := HLN.out.2.1 t ht; omega⟩⟩
  obtain ⟨R, hR⟩ : ∃ R : List Int, R = (weightL k p q ts O V) := ⟨_, rfl⟩
  have HYL : Hid (R.length ≤ 24576) := Lib.hid (by rw [hR]; exact weightL_len k p q ts O V)
  have HY := Lib.hid hR
  clear hR
  clear hz1 hz2 hz3 hq
  obtain ⟨c00, c01, c02, c03, c04, -⟩ := E0.out.cells
  go_wp2_with fail
  refine (to_network (ha.below E0.out.bel (Nat.le_refl _)) (hoo.below E0.out.bel (Nat.le_refl _)) E0.out.bel.size E0.out.bel.size HLN.out HB.out.1).mono ?_
  clear c00 c01 c02 c03 c04
  rintro e w1 ⟨vt, vo, rfl, hq, hb⟩
  have X0 := Lib.hid hq
  obtain ⟨at0, ct0, rfl⟩ := X0.out.tens.form
  obtain ⟨ao0, do0, rfl, -⟩ := ints_form X0.out.opens
  have E1 := Lib.hid (E0.out.grp hb (noRows _ _ _))
  clear hq hb
  obtain ⟨c00, c01, c02, c03, c04, -⟩ := E1.out.cells
  go_wp2_with fail
  refine (to_row (E1.out.rdAt 0 rfl) E1.out.bel.size (by have := HB.out.2.2.2; omega)).mono ?_
  clear c00 c01 c02 c03 c04
  rintro e w2 ⟨vv, rfl, hq, hb⟩
  obtain ⟨ai1, ci1, rfl, -⟩ := ints_form hq.rd
  have E2 := Lib.hid (E1.out.grp hb (OwnG.one hq))
  replace X0 := Lib.hid (X0.out.below hb)
  clear hq hb
  obtain ⟨c00, c01, c02, c03, c04, -⟩ := E2.out.cells
  go_wp2_with fail
  refine (weight_of_spec (k := k) (p := p) (q := q) (X0.out.tens) (X0.out.opens) X0.out.cap (Nat.le_refl _) (Nat.le_refl _) HLT.out HB.out.2.2.1 (E2.out.rowAt 0 0 rfl rfl) (Nat.le_refl _) HB.out.2.2.2).mono ?_
  rw [← HY.out]
  clear c00 c01 c02 c03 c04
  rintro e w3 ⟨vr, rfl, hq, hb⟩
  obtain ⟨apa, cpa, rfl, -⟩ := ints_form hq.rd
  have E3 := Lib.hid (E2.out.grp hb (OwnG.one hq))
  replace X0 := Lib.hid (X0.out.below hb)
  clear hq hb
  clear X0
  obtain ⟨c00, c01, c02, c03, c04, -⟩ := E3.out.cells
  go_wp2_with fail
  refine (to_network (ha.below E3.out.bel (Nat.le_refl _)) (hoo.below E3.out.bel (Nat.le_refl _)) E3.out.bel.size E3.out.bel.size HLN.out HB.out.1).mono ?_
  clear c00 c01 c02 c03 c04
  rintro e w4 ⟨vt, vo, rfl, hq, hb⟩
  have X2 := Lib.hid hq
  obtain ⟨at2, ct2, rfl⟩ := X2.out.tens.form
  obtain ⟨ao2, do2, rfl, -⟩ := ints_form X2.out.opens
  have E4 := Lib.hid (E3.out.grp hb (noRows _ _ _))
  clear hq hb
  have E5 := Lib.hid (E4.out.box5 (.int .i64 k) (.int .i64 p) (.int .i64 q) (.slice at2 ts.length ct2) (.slice ao2 O.length do2) 33)
  replace X2 := Lib.hid (X2.out.below ((Below.refl _ _).alloc (Nat.le_refl _) (.cells #[.int .i64 k, .int .i64 p, .int .i64 q, .slice at2 ts.length ct2, .slice ao2 O.length do2] 33)))
  obtain ⟨c10, c11, c12, c13, c14, c00, c01, c02, c03, c04, -⟩ := E5.out.cells
  go_wp2_with fail
  refine (to_row (E5.out.rdAt 0 rfl) E5.out.bel.size (by have := HB.out.2.2.2; omega)).mono ?_
  clear c10 c11 c12 c13 c14 c00 c01 c02 c03 c04
  rintro e w5 ⟨vv, rfl, hq, hb⟩
  obtain ⟨ai3, ci3, rfl, -⟩ := ints_form hq.rd
  have E6 := Lib.hid (E5.out.grp hb (OwnG.one hq))
  replace X2 := Lib.hid (X2.out.below hb)
  clear hq hb
  obtain ⟨c10, c11, c12, c13, c14, c00, c01, c02, c03, c04, -⟩ := E6.out.cells
  go_wp2_with fail
  refine (weight_of_full (k := k) (p := p) (q := q) (X2.out.tens) (X2.out.opens) (Nat.le_refl _) rfl HLT.out HII.out rfl HB.out.2.2.1 HJJ.out (E6.out.rowAt 0 0 rfl rfl) HB.out.2.2.2 HVV.out).mono ?_
  rw [← HY.out]
  clear c10 c11 c12 c13 c14 c00 c01 c02 c03 c04
  rintro e w6 ⟨vr, rfl, hq, hb⟩
  obtain ⟨apg, cpg, rfl, -⟩ := ints_form hq.rd
  have E7 := Lib.hid (E6.out.grp hb (OwnG.one hq))
  replace X2 := Lib.hid (X2.out.below hb)
  clear hq hb
  obtain ⟨c10, c11, c12, c13, c14, c00, c01, c02, c03, c04, -⟩ := E7.out.cells
  go_wp2_with fail
  refine (eq_rows (E7.out.rowAt 0 0 rfl rfl) (E7.out.rowAt 3 0 rfl rfl) rfl (by have := HYL.out; omega)).mono ?_
  clear c10 c11 c12 c13 c14 c00 c01 c02 c03 c04
  rintro e w7 ⟨rfl, hb⟩
  have E8 := Lib.hid (E7.out.step hb)
  replace X2 := Lib.hid (X2.out.below hb)
  clear hb
  have E8d := Lib.hid E8.out.drew
  have Xd := Lib.hid (X2.out.below (Below.drew (Below.refl _ _)))
  obtain ⟨c10, c11, c12, c13, c14, c00, c01, c02, c03, c04, -⟩ := E8.out.cells
  go_wp2
  have tk0 : True := trivial
  have tk1 : True := trivial
  go_region_held3 (fun w' => w'.cell? ⟨w4.heap.size, 0, none⟩ = some (.int .i64 k) ∧ w'.cell? ⟨w4.heap.size, 1, none⟩ = some (.int .i64 p) ∧ w'.cell? ⟨w4.heap.size, 2, none⟩ = some (.int .i64 q) ∧ w'.cell? ⟨w4.heap.size, 3, none⟩ = some (.slice at2 ts.length ct2) ∧ w'.cell? ⟨w4.heap.size, 4, none⟩ = some (.slice ao2 O.length do2) ∧ w'.cell? ⟨w.heap.size, 0, none⟩ = some (.int .i64 k) ∧ w'.cell? ⟨w.heap.size, 1, none⟩ = some (.int .i64 p) ∧ w'.cell? ⟨w.heap.size, 2, none⟩ = some (.int .i64 q) ∧ w'.cell? ⟨w.heap.size, 3, none⟩ = some (.slice a ts.length ca) ∧ w'.cell? ⟨w.heap.size, 4, none⟩ = some (.slice ao O.length co)) (first | exact ⟨c10, c11, c12, c13, c14, c00, c01, c02, c03, c04⟩) (first
    | (go_at_call 14; have _t := tk0; refine (to_network (ha.below E8d.out.bel (Nat.le_refl _)) (hoo.below E8d.out.bel (Nat.le_refl _)) E8d.out.bel.size E8d.out.bel.size HLN.out HB.out.1).mono ?_; rintro e w8 ⟨vt, vo, rfl, hq, hb⟩; have X4 := Lib.hid hq; obtain ⟨at4, ct4, rfl⟩ := X4.out.tens.form; obtain ⟨ao4, do4, rfl, -⟩ := ints_form X4.out.opens; have E9 := Lib.hid (E8d.out.grp hb (noRows _ _ _)); have Xe := Lib.hid (Xd.out.below hb); clear hq hb; obtain ⟨c10, c11, c12, c13, c14, c00, c01, c02, c03, c04, -⟩ := E9.out.cells; clear tk0)
    | (go_at_call 16; have _t := tk1; refine (eq_network Xe.out.tens Xe.out.opens X4.out.tens X4.out.opens (Nat.le_refl _) (Nat.le_refl _) HLN.out).mono ?_; rintro e w9 ⟨rfl, hb⟩; have E10 := Lib.hid (E9.out.step hb); have Xf := Lib.hid (Xe.out.below hb); clear hb; obtain ⟨c10, c11, c12, c13, c14, c00, c01, c02, c03, c04, -⟩ := E10.out.cells; clear tk1))
  clear X2 Xd Xe X4
  clear c10 c11 c12 c13 c14 c00 c01 c02 c03 c04
  obtain ⟨c10, c11, c12, c13, c14, c00, c01, c02, c03, c04, -⟩ := E10.out.cells
  go_wp2_with fail
  refine (to_row (E10.out.rdAt 0 rfl) E10.out.bel.size (by have := HB.out.2.2.2; omega)).mono ?_
  clear c10 c11 c12 c13 c14 c00 c01 c02 c03 c04
  rintro e w10 ⟨vv, rfl, hq, hb⟩
  obtain ⟨ai5, ci5, rfl, -⟩ := ints_form hq.rd
  have E11 := Lib.hid (E10.out.grp hb (OwnG.one hq))
  replace Xf := Lib.hid (Xf.out.below hb)
  clear hq hb
  obtain ⟨c10, c11, c12, c13, c14, c00, c01, c02, c03, c04, -⟩ := E11.out.cells
  go_wp2_with fail
  refine (eq_rows (E11.out.rowAt 3 0 rfl rfl) (E11.out.rowAt 0 0 rfl rfl) rfl (by have := HB.out.2.2.2; omega)).mono ?_
  clear c10 c11 c12 c13 c14 c00 c01 c02 c03 c04
  rintro e w11 ⟨rfl, hb⟩
  have E12 := Lib.hid (E11.out.step hb)
  replace Xf := Lib.hid (Xf.out.below hb)
  clear hb
  obtain ⟨c10, c11, c12, c13, c14, c00, c01, c02, c03, c04, -⟩ := E12.out.cells
  go_wp2_with fail
  refine (mark_network 1 rfl Xf.out HB.out.1 (by have := HB.out.2.1; have := HB.out.2.2.1; omega)).mono ?_
  clear c10 c11 c12 c13 c14 c00 c01 c02 c03 c04
  rintro e w12 ⟨rfl, hk⟩
  have E13 := Lib.hid (E12.out.mark 4 rfl hk (noRows _ _ _))
  clear hk Xf
  obtain ⟨c10, c11, c12, c13, c14, c00, c01, c02, c03, c04, -⟩ := E13.out.cells
  go_wp2_with fail
  refine (marks_row (1 + totT ts + O.length) rfl (E13.out.grpAt 3 rfl) (by have := HB.out.2.2.2; omega) (by have := HB.out.2.1; have := HB.out.2.2.1; omega)).mono ?_
  clear c10 c11 c12 c13 c14 c00 c01 c02 c03 c04
  rintro e w13 ⟨rfl, hq, hk⟩
  have E14 := Lib.hid (E13.out.mark 3 rfl hk hq)
  clear hq hk
  have qm : ¬ ((1 + totT ts + O.length + V.length : Nat) : Int) < 0 := by omega
  obtain ⟨c10, c11, c12, c13, c14, c00, c01, c02, c03, c04, -⟩ := E14.out.cells
  go_wp2_with fail
  refine (eq_rows (E14.out.rowAt 2 0 rfl rfl) (E14.out.rowAt 5 0 rfl rfl) rfl (by have := HYL.out; omega)).mono ?_
  clear c10 c11 c12 c13 c14 c00 c01 c02 c03 c04
  rintro e w14 ⟨rfl, hb⟩
  have E15 := Lib.hid (E14.out.step hb)
  clear hb
  obtain ⟨c10, c11, c12, c13, c14, c00, c01, c02, c03, c04, -⟩ := E15.out.cells
  go_wp2_with fail
  refine (marks_row 1 rfl (E15.out.grpAt 2 rfl) (by have := HYL.out; omega) (by omega)).mono ?_
  clear c10 c11 c12 c13 c14 c00 c01 c02 c03 c04
  rintro e w15 ⟨rfl, hq, hk⟩
  have E16 := Lib.hid (E15.out.mark 2 rfl hk hq)
  clear hq hk
  obtain ⟨c10, c11, c12, c13, c14, c00, c01, c02, c03, c04, -⟩ := E16.out.cells
  go_wp2_with fail
  refine (helds_row (n := R.length) 1 rfl (E16.out.rowAt 2 0 rfl rfl) (by have := HYL.out; omega) (by omega)).mono ?_
  clear c10 c11 c12 c13 c14 c00 c01 c02 c03 c04
  rintro e w16 ⟨rfl, hb⟩
  have E17 := Lib.hid (E16.out.step hb)
  clear hb
  have qn : ¬ ((1 + R.length : Nat) : Int) < 0 := by omega
  obtain ⟨c10, c11, c12, c13, c14, c00, c01, c02, c03, c04, -⟩ := E17.out.cells
  go_wp2_with fail
  refine (to_network (ha.below E17.out.bel (Nat.le_refl _)) (hoo.below E17.out.bel (Nat.le_refl _)) E17.out.bel.size E17.out.bel.size HLN.out HB.out.1).mono ?_
  clear c10 c11 c12 c13 c14 c00 c01 c02 c03 c04
  rintro e w17 ⟨vt, vo, rfl, hq, hb⟩
  have X6 := Lib.hid hq
  obtain ⟨at6, ct6, rfl⟩ := X6.out.tens.form
  obtain ⟨ao6, do6, rfl, -⟩ := ints_form X6.out.opens
  have E18 := Lib.hid (E17.out.grp hb (noRows _ _ _))
  clear hq hb
  obtain ⟨c10, c11, c12, c13, c14, c00, c01, c02, c03, c04, -⟩ := E18.out.cells
  go_wp2_with fail
  refine (to_row (E18.out.rdAt 0 rfl) E18.out.bel.size (by have := HB.out.2.2.2; omega)).mono ?_
  clear c10 c11 c12 c13 c14 c00 c01 c02 c03 c04
  rintro e w18 ⟨vv, rfl, hq, hb⟩
  obtain ⟨ai7, ci7, rfl, -⟩ := ints_form hq.rd
  have E19 := Lib.hid (E18.out.grp hb (OwnG.one hq))
  replace X6 := Lib.hid (X6.out.below hb)
  clear hq hb
  obtain ⟨c10, c11, c12, c13, c14, c00, c01, c02, c03, c04, -⟩ := E19.out.cells
  go_wp2_with fail
  refine (weight_of_full (k := k) (p := p) (q := q) (X6.out.tens) (X6.out.opens) (Nat.le_refl _) rfl HLT.out HII.out rfl HB.out.2.2.1 HJJ.out (E19.out.rowAt 0 0 rfl rfl) HB.out.2.2.2 HVV.out).mono ?_
  rw [← HY.out]
  clear c10 c11 c12 c13 c14 c00 c01 c02 c03 c04
  rintro e w19 ⟨vr, rfl, hq, hb⟩
  obtain ⟨aph, cph, rfl, -⟩ := ints_form hq.rd
  have E20 := Lib.hid (E19.out.grp hb (OwnG.one hq))
  replace X6 := Lib.hid (X6.out.below hb)
  clear hq hb
  clear X6
  obtain ⟨c10, c11, c12, c13, c14, c00, c01, c02, c03, c04, -⟩ := E20.out.cells
  go_wp2_with fail
  refine (eq_rows (E20.out.rowAt 0 0 rfl rfl) (E20.out.rowAt 8 0 rfl rfl) rfl (by have := HYL.out; omega)).mono ?_
  clear c10 c11 c12 c13 c14 c00 c01 c02 c03 c04
  rintro e w20 ⟨rfl, hb⟩
  have E21 := Lib.hid (E20.out.step hb)
  clear hb
  obtain ⟨c10, c11, c12, c13, c14, c00, c01, c02, c03, c04, -⟩ := E21.out.cells
  go_wp2_with fail
  refine (helds_row (n := R.length) 1 rfl (E21.out.rowAt 5 0 rfl rfl) (by have := HYL.out; omega) (by omega)).mono ?_
  clear c10 c11 c12 c13 c14 c00 c01 c02 c03 c04
  rintro e w21 ⟨rfl, hb⟩
  have E22 := Lib.hid (E21.out.step hb)
  clear hb
  go_wp2
  go_ret
  exact ⟨rfl, E22.out.bel⟩
end Go.Proofs.Ytdheakjjnaifkaa
