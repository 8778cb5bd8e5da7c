
/- The law FnExactPartsOf, walked. -/
import Derived.Test.YtdheakjjnaifkaaNetKit
import Derived.Test.YtdheakjjnaifkaaSSImpl
import Derived.Test.YtdheakjjnaifkaaSSKit
namespace Go.Proofs.Ytdheakjjnaifkaa
set_option maxRecDepth 20000
open Go.RowKit

theorem partsR_len (k p q : Int) (ts : List TenE) (O : List Int) : (partsR k p q ts O).length ≤ 12 ∧ ∀ xs ∈ partsR k p q ts O, xs.length ≤ 12 := by
  by_cases h : NetOk k p q ts O
  · rw [parts_yes h]
    have h1 := h.2.1
    refine ⟨by have := partsL_len ts; omega, fun xs hx => ?_⟩
    obtain ⟨r, -, rfl⟩ := List.mem_map.1 hx
    have := partL_len ts r
    omega
  · rw [parts_no h]; exact ⟨by simp, fun xs hx => by cases hx⟩
theorem totU_bound : ∀ {us : List RowE}, (∀ r ∈ us, r.2.length ≤ 12) → totU us ≤ 12 * us.length := by
  intro us
  induction us with
  | nil => intro _; simp [totU]
  | cons r us ih =>
    intro h
    have h1 := ih fun q hq => h q (List.mem_cons_of_mem _ hq)
    have h2 := h r List.mem_cons_self
    have e : totU (r :: us) = r.2.length + totU us := by simp [totU]
    simp only [List.length_cons]
    omega
theorem parts_tot {us : List RowE} {R : List (List Int)} (hu : us.map (·.2) = R) (h : R.length ≤ 12 ∧ ∀ xs ∈ R, xs.length ≤ 12) : us.length ≤ 12 ∧ totU us ≤ 1048576 := by
  subst hu
  have h1 : us.length ≤ 12 := by simpa using h.1
  have h2 := totU_bound (us := us) fun r hr => h.2 r.2 (List.mem_map.2 ⟨r, hr, rfl⟩)
  exact ⟨h1, by omega⟩
set_option maxHeartbeats 16000000 in
theorem law_parts_of {k p q : Int} {tv ov : Value} {ts : List TenE} {O : List Int} (w : World) (ha : RdTs w.heap.size w tv ts) (hoo : Rd w.heap.size w ov (ints O)) (hn : LenN ts O) (hI : ∀ t ∈ ts, allI t.1) (hJ : allI O) :
    Calls Try.prog 9 #[netV k p q tv ov] w fun e w' => e = .returned (.bool true) ∧ Below w.heap.size w w' := by
  obtain ⟨a, ca, rfl⟩ := ha.form
  obtain ⟨ao, co, rfl, -⟩ := ints_form hoo
  have HLN := Lib.hid hn
  have HII := Lib.hid hI
  have HJJ := Lib.hid hJ
  have E0 := Lib.hid ((St.start w (R := []) (fun r hr => by cases hr)).box5 (.int .i64 k) (.int .i64 p) (.int .i64 q) (.slice a ts.length ca) (.slice ao O.length co) 27)
  have HSZ := Lib.hid (sz_network (k := k) (p := p) (q := q) 1048576 (ha.below E0.out.bel (Nat.le_refl _)) (hoo.below E0.out.bel (Nat.le_refl _)) E0.out.bel.size (by omega) (by omega) hn)
  clear hn hI hJ
  go_enter Try.func9, Try.ntmps9
  obtain ⟨c00, c01, c02, c03, c04, -⟩ := E0.out.cells
  go_wp2_with fail
  refine HSZ.out.mono ?_
  clear HSZ c00 c01 c02 c03 c04
  rintro e w0 ⟨z, rfl, hb, hz1, hz2, hz3⟩
  replace E0 := Lib.hid (E0.out.step hb)
  clear hb
  by_cases hz : z < 0
  · go_wp2
    go_ret
    exact ⟨rfl, E0.out.bel⟩
  have hq := hz3 (by omega)
  have HB : Hid (ts.length ≤ 1048576 ∧ totT ts ≤ 1048576 ∧ O.length ≤ 1048576 ∧ True) := Lib.hid ⟨by omega, by omega, by omega, trivial⟩
  have HLT : Hid (LenTs ts) := Lib.hid ⟨by omega, fun t ht => ⟨by have := HLN.out.2.1 t ht; omega, by have := HLN.out.2.1 t ht; omega, by have := HLN.out.2.1 t ht; omega⟩⟩
  obtain ⟨R, hR⟩ : ∃ R : List (List Int), R = partsR k p q ts O := ⟨_, rfl⟩
  have HYL : Hid (R.length ≤ 12 ∧ ∀ xs ∈ R, xs.length ≤ 12) := Lib.hid (by rw [hR]; exact partsR_len k p q ts O)
  have HY := Lib.hid hR
  clear hR
  clear hz1 hz2 hz3 hq
  obtain ⟨c00, c01, c02, c03, c04, -⟩ := E0.out.cells
  go_wp2_with fail
  refine (to_network (ha.below E0.out.bel (Nat.le_refl _)) (hoo.below E0.out.bel (Nat.le_refl _)) E0.out.bel.size E0.out.bel.size HLN.out HB.out.1).mono ?_
  clear c00 c01 c02 c03 c04
  rintro e w1 ⟨vt, vo, rfl, hq, hb⟩
  have X0 := Lib.hid hq
  obtain ⟨at0, ct0, rfl⟩ := X0.out.tens.form
  obtain ⟨ao0, do0, rfl, -⟩ := ints_form X0.out.opens
  have E1 := Lib.hid (E0.out.grp hb (noRows _ _ _))
  clear hq hb
  obtain ⟨c00, c01, c02, c03, c04, -⟩ := E1.out.cells
  go_wp2_with fail
  refine (parts_of_spec (k := k) (p := p) (q := q) (X0.out.tens) (X0.out.opens) X0.out.cap (Nat.le_refl _) (Nat.le_refl _) HLT.out HB.out.2.2.1).mono ?_
  rw [← HY.out]
  clear c00 c01 c02 c03 c04
  rintro e w2 ⟨va, usa, rfl, hu, hq, hb⟩
  have Ua := Lib.hid hu
  have E2 := Lib.hid (E1.out.grp hb (noRows _ _ _))
  replace X0 := Lib.hid (X0.out.below hb)
  have Sa := Lib.hid hq
  clear hu hq hb
  clear X0
  obtain ⟨c00, c01, c02, c03, c04, -⟩ := E2.out.cells
  go_wp2_with fail
  refine (to_network (ha.below E2.out.bel (Nat.le_refl _)) (hoo.below E2.out.bel (Nat.le_refl _)) E2.out.bel.size E2.out.bel.size HLN.out HB.out.1).mono ?_
  clear c00 c01 c02 c03 c04
  rintro e w3 ⟨vt, vo, rfl, hq, hb⟩
  have X1 := Lib.hid hq
  obtain ⟨at1, ct1, rfl⟩ := X1.out.tens.form
  obtain ⟨ao1, do1, rfl, -⟩ := ints_form X1.out.opens
  have E3 := Lib.hid (E2.out.grp hb (noRows _ _ _))
  replace Sa := Lib.hid (Sa.out.below hb)
  clear hq hb
  have E4 := Lib.hid (E3.out.box5 (.int .i64 k) (.int .i64 p) (.int .i64 q) (.slice at1 ts.length ct1) (.slice ao1 O.length do1) 33)
  replace X1 := Lib.hid (X1.out.below ((Below.refl _ _).alloc (Nat.le_refl _) (.cells #[.int .i64 k, .int .i64 p, .int .i64 q, .slice at1 ts.length ct1, .slice ao1 O.length do1] 33)))
  replace Sa := Lib.hid (Sa.out.below ((Below.refl _ _).alloc (Nat.le_refl _) (.cells #[.int .i64 k, .int .i64 p, .int .i64 q, .slice at1 ts.length ct1, .slice ao1 O.length do1] 33)))
  obtain ⟨c10, c11, c12, c13, c14, c00, c01, c02, c03, c04, -⟩ := E4.out.cells
  go_wp2_with fail
  refine (parts_of_full (k := k) (p := p) (q := q) (X1.out.tens) (X1.out.opens) (Nat.le_refl _) rfl HLT.out HII.out rfl HB.out.2.2.1 HJJ.out).mono ?_
  rw [← HY.out]
  clear c10 c11 c12 c13 c14 c00 c01 c02 c03 c04
  rintro e w4 ⟨vg, usg, rfl, hu, hq, hb⟩
  have Ug := Lib.hid hu
  have E5 := Lib.hid (E4.out.grp hb (noRows _ _ _))
  replace X1 := Lib.hid (X1.out.below hb)
  replace Sa := Lib.hid (Sa.out.below hb)
  have Sg := Lib.hid hq
  clear hu hq hb
  have Tg : Hid (usg.length ≤ 12 ∧ totU usg ≤ 1048576) := Lib.hid (parts_tot Ug.out HYL.out)
  obtain ⟨c10, c11, c12, c13, c14, c00, c01, c02, c03, c04, -⟩ := E5.out.cells
  go_wp2_with fail
  refine (eq_ss (rows := R) (by rw [← Ug.out]; exact Sg.out.rd) (by rw [← Ua.out]; exact Sa.out.rd) (by have := HYL.out.1; omega) (fun xs hx => by have := HYL.out.2 xs hx; omega)).mono ?_
  clear c10 c11 c12 c13 c14 c00 c01 c02 c03 c04
  rintro e w5 ⟨rfl, hb⟩
  have E6 := Lib.hid (E5.out.step hb)
  replace X1 := Lib.hid (X1.out.below hb)
  replace Sa := Lib.hid (Sa.out.below hb)
  replace Sg := Lib.hid (Sg.out.below hb)
  clear hb
  have E6d := Lib.hid E6.out.drew
  have X1d := Lib.hid (X1.out.below (Below.drew (Below.refl _ _)))
  have Sad := Lib.hid (Sa.out.below (Below.drew (Below.refl _ _)))
  have Sgd := Lib.hid (Sg.out.below (Below.drew (Below.refl _ _)))
  obtain ⟨c10, c11, c12, c13, c14, c00, c01, c02, c03, c04, -⟩ := E6.out.cells
  go_wp2
  have tk0 : True := trivial
  have tk1 : True := trivial
  go_region_held3 (fun w' => w'.cell? ⟨w3.heap.size, 0, none⟩ = some (.int .i64 k) ∧ w'.cell? ⟨w3.heap.size, 1, none⟩ = some (.int .i64 p) ∧ w'.cell? ⟨w3.heap.size, 2, none⟩ = some (.int .i64 q) ∧ w'.cell? ⟨w3.heap.size, 3, none⟩ = some (.slice at1 ts.length ct1) ∧ w'.cell? ⟨w3.heap.size, 4, none⟩ = some (.slice ao1 O.length do1) ∧ w'.cell? ⟨w.heap.size, 0, none⟩ = some (.int .i64 k) ∧ w'.cell? ⟨w.heap.size, 1, none⟩ = some (.int .i64 p) ∧ w'.cell? ⟨w.heap.size, 2, none⟩ = some (.int .i64 q) ∧ w'.cell? ⟨w.heap.size, 3, none⟩ = some (.slice a ts.length ca) ∧ w'.cell? ⟨w.heap.size, 4, none⟩ = some (.slice ao O.length co)) (first | exact ⟨c10, c11, c12, c13, c14, c00, c01, c02, c03, c04⟩) (first
    | (go_at_call 14; have _t := tk0; refine (to_network (ha.below E6d.out.bel (Nat.le_refl _)) (hoo.below E6d.out.bel (Nat.le_refl _)) E6d.out.bel.size E6d.out.bel.size HLN.out HB.out.1).mono ?_; rintro e w6 ⟨vt, vo, rfl, hq, hb⟩; have X2 := Lib.hid hq; obtain ⟨at2, ct2, rfl⟩ := X2.out.tens.form; obtain ⟨ao2, do2, rfl, -⟩ := ints_form X2.out.opens; have E7 := Lib.hid (E6d.out.grp hb (noRows _ _ _)); have X1e := Lib.hid (X1d.out.below hb); have Sae := Lib.hid (Sad.out.below hb); have Sge := Lib.hid (Sgd.out.below hb); clear hq hb; obtain ⟨c10, c11, c12, c13, c14, c00, c01, c02, c03, c04, -⟩ := E7.out.cells; clear tk0)
    | (go_at_call 16; have _t := tk1; refine (eq_network X1e.out.tens X1e.out.opens X2.out.tens X2.out.opens (Nat.le_refl _) (Nat.le_refl _) HLN.out).mono ?_; rintro e w7 ⟨rfl, hb⟩; have E8 := Lib.hid (E7.out.step hb); have X1f := Lib.hid (X1e.out.below hb); have Saf := Lib.hid (Sae.out.below hb); have Sgf := Lib.hid (Sge.out.below hb); clear hb; obtain ⟨c10, c11, c12, c13, c14, c00, c01, c02, c03, c04, -⟩ := E8.out.cells; clear tk1))
  clear X1 Sa Sg X1d X1e Sad Sae Sgd Sge X2
  clear c10 c11 c12 c13 c14 c00 c01 c02 c03 c04
  obtain ⟨c10, c11, c12, c13, c14, c00, c01, c02, c03, c04, -⟩ := E8.out.cells
  go_wp2_with fail
  refine (mark_network 1 rfl X1f.out HB.out.1 (by have := HB.out.2.1; have := HB.out.2.2.1; omega)).mono ?_
  clear c10 c11 c12 c13 c14 c00 c01 c02 c03 c04
  rintro e w8 ⟨rfl, hk⟩
  have E9 := Lib.hid (E8.out.mark 2 rfl hk (noRows _ _ _))
  have Sa := Lib.hid (Saf.out.kept hk (E8.out.apart 3 2 rfl rfl (by decide)))
  have Sg := Lib.hid (Sgf.out.kept hk (E8.out.apart 1 2 rfl rfl (by decide)))
  clear hk X1f Saf Sgf
  have qm : ¬ ((1 + totT ts + O.length : Nat) : Int) < 0 := by omega
  obtain ⟨c10, c11, c12, c13, c14, c00, c01, c02, c03, c04, -⟩ := E9.out.cells
  go_wp2_with fail
  refine (eq_ss (rows := R) (by rw [← Ug.out]; exact Sg.out.rd) (by rw [← Ua.out]; exact Sa.out.rd) (by have := HYL.out.1; omega) (fun xs hx => by have := HYL.out.2 xs hx; omega)).mono ?_
  clear c10 c11 c12 c13 c14 c00 c01 c02 c03 c04
  rintro e w9 ⟨rfl, hb⟩
  have E10 := Lib.hid (E9.out.step hb)
  replace Sa := Lib.hid (Sa.out.below hb)
  replace Sg := Lib.hid (Sg.out.below hb)
  clear hb
  obtain ⟨c10, c11, c12, c13, c14, c00, c01, c02, c03, c04, -⟩ := E10.out.cells
  go_wp2_with fail
  refine (mark_ss 1 rfl Sg.out (by have := Tg.out.1; omega) Tg.out.2 (by omega)).mono ?_
  clear c10 c11 c12 c13 c14 c00 c01 c02 c03 c04
  rintro e w10 ⟨rfl, hq, hk⟩
  have E11 := Lib.hid (E10.out.mark 1 rfl hk (noRows _ _ _))
  replace Sa := Lib.hid (Sa.out.kept hk (E10.out.apart 3 1 rfl rfl (by decide)))
  replace Sg := Lib.hid hq
  clear hq hk
  obtain ⟨c10, c11, c12, c13, c14, c00, c01, c02, c03, c04, -⟩ := E11.out.cells
  go_wp2_with fail
  refine (held_ss 1 rfl Sg.out (by have := Tg.out.1; omega) (by have := Tg.out.2; omega) (by omega)).mono ?_
  clear c10 c11 c12 c13 c14 c00 c01 c02 c03 c04
  rintro e w11 ⟨rfl, hb⟩
  have E12 := Lib.hid (E11.out.step hb)
  replace Sa := Lib.hid (Sa.out.below hb)
  replace Sg := Lib.hid (Sg.out.below hb)
  clear hb
  have qn : ¬ ((1 + totU usg : Nat) : Int) < 0 := by omega
  obtain ⟨c10, c11, c12, c13, c14, c00, c01, c02, c03, c04, -⟩ := E12.out.cells
  go_wp2_with fail
  refine (to_network (ha.below E12.out.bel (Nat.le_refl _)) (hoo.below E12.out.bel (Nat.le_refl _)) E12.out.bel.size E12.out.bel.size HLN.out HB.out.1).mono ?_
  clear c10 c11 c12 c13 c14 c00 c01 c02 c03 c04
  rintro e w12 ⟨vt, vo, rfl, hq, hb⟩
  have X3 := Lib.hid hq
  obtain ⟨at3, ct3, rfl⟩ := X3.out.tens.form
  obtain ⟨ao3, do3, rfl, -⟩ := ints_form X3.out.opens
  have E13 := Lib.hid (E12.out.grp hb (noRows _ _ _))
  replace Sa := Lib.hid (Sa.out.below hb)
  replace Sg := Lib.hid (Sg.out.below hb)
  clear hq hb
  obtain ⟨c10, c11, c12, c13, c14, c00, c01, c02, c03, c04, -⟩ := E13.out.cells
  go_wp2_with fail
  refine (parts_of_full (k := k) (p := p) (q := q) (X3.out.tens) (X3.out.opens) (Nat.le_refl _) rfl HLT.out HII.out rfl HB.out.2.2.1 HJJ.out).mono ?_
  rw [← HY.out]
  clear c10 c11 c12 c13 c14 c00 c01 c02 c03 c04
  rintro e w13 ⟨vh, ush, rfl, hu, hq, hb⟩
  have Uh := Lib.hid hu
  have E14 := Lib.hid (E13.out.grp hb (noRows _ _ _))
  replace X3 := Lib.hid (X3.out.below hb)
  replace Sa := Lib.hid (Sa.out.below hb)
  replace Sg := Lib.hid (Sg.out.below hb)
  have Sh := Lib.hid hq
  clear hu hq hb
  clear X3
  obtain ⟨c10, c11, c12, c13, c14, c00, c01, c02, c03, c04, -⟩ := E14.out.cells
  go_wp2_with fail
  refine (eq_ss (rows := R) (by rw [← Uh.out]; exact Sh.out.rd) (by rw [← Ua.out]; exact Sa.out.rd) (by have := HYL.out.1; omega) (fun xs hx => by have := HYL.out.2 xs hx; omega)).mono ?_
  clear c10 c11 c12 c13 c14 c00 c01 c02 c03 c04
  rintro e w14 ⟨rfl, hb⟩
  have E15 := Lib.hid (E14.out.step hb)
  replace Sa := Lib.hid (Sa.out.below hb)
  replace Sg := Lib.hid (Sg.out.below hb)
  replace Sh := Lib.hid (Sh.out.below hb)
  clear hb
  obtain ⟨c10, c11, c12, c13, c14, c00, c01, c02, c03, c04, -⟩ := E15.out.cells
  go_wp2_with fail
  refine (held_ss 1 rfl Sg.out (by have := Tg.out.1; omega) (by have := Tg.out.2; omega) (by omega)).mono ?_
  clear c10 c11 c12 c13 c14 c00 c01 c02 c03 c04
  rintro e w15 ⟨rfl, hb⟩
  have E16 := Lib.hid (E15.out.step hb)
  replace Sa := Lib.hid (Sa.out.below hb)
  replace Sg := Lib.hid (Sg.out.below hb)
  replace Sh := Lib.hid (Sh.out.below hb)
  clear hb
  go_wp2
  go_ret
  exact ⟨rfl, E16.out.bel⟩
end Go.Proofs.Ytdheakjjnaifkaa
