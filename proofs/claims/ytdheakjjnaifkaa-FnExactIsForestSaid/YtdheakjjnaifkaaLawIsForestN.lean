
/- The law FnExactIsForest, walked. -/
import Derived.Test.YtdheakjjnaifkaaNetKit
import Derived.Test.YtdheakjjnaifkaaForestImpl
import Derived.Test.YtdheakjjnaifkaaForestSpec
namespace Go.Proofs.Ytdheakjjnaifkaa
set_option maxRecDepth 20000
open Go.RowKit

set_option maxHeartbeats 16000000 in
theorem law_is_forest {k p q : Int} {tv ov : Value} {ts : List TenE} {O : List Int} (w : World) (ha : RdTs w.heap.size w tv ts) (hoo : Rd w.heap.size w ov (ints O)) (hn : LenN ts O) (hI : ∀ t ∈ ts, allI t.1) (hJ : allI O) :
    Calls Try.prog 10 #[netV k p q tv ov] w fun e w' => e = .returned (.bool true) ∧ Below w.heap.size w w' := by
  obtain ⟨a, ca, rfl⟩ := ha.form
  obtain ⟨ao, co, rfl, -⟩ := ints_form hoo
  have HLN := Lib.hid hn
  have HII := Lib.hid hI
  have HJJ := Lib.hid hJ
  have E0 := Lib.hid ((St.start w (R := []) (fun r hr => by cases hr)).box5 (.int .i64 k) (.int .i64 p) (.int .i64 q) (.slice a ts.length ca) (.slice ao O.length co) 27)
  have HSZ := Lib.hid (sz_network (k := k) (p := p) (q := q) 1048576 (ha.below E0.out.bel (Nat.le_refl _)) (hoo.below E0.out.bel (Nat.le_refl _)) E0.out.bel.size (by omega) (by omega) hn)
  clear hn hI hJ
  go_enter Try.func10, Try.ntmps10
  obtain ⟨c00, c01, c02, c03, c04, -⟩ := E0.out.cells
  go_wp2_with fail
  refine HSZ.out.mono ?_
  clear HSZ c00 c01 c02 c03 c04
  rintro e w0 ⟨z, rfl, hb, hz1, hz2, hz3⟩
  replace E0 := Lib.hid (E0.out.step hb)
  clear hb
  by_cases hz : z < 0
  · go_wp2
    go_ret
    exact ⟨rfl, E0.out.bel⟩
  have hq := hz3 (by omega)
  have HB : Hid (ts.length ≤ 1048576 ∧ totT ts ≤ 1048576 ∧ O.length ≤ 1048576 ∧ True) := Lib.hid ⟨by omega, by omega, by omega, trivial⟩
  have HLT : Hid (LenTs ts) := Lib.hid ⟨by omega, fun t ht => ⟨by have := HLN.out.2.1 t ht; omega, by have := HLN.out.2.1 t ht; omega, by have := HLN.out.2.1 t ht; omega⟩⟩
  obtain ⟨y, hy⟩ : ∃ y : Bool, y = (forestB k p q ts O) := ⟨_, rfl⟩
  have HY := Lib.hid hy
  have hyy : (y != y) = false := by cases y <;> rfl
  clear hy
  clear hz1 hz2 hz3 hq
  obtain ⟨c00, c01, c02, c03, c04, -⟩ := E0.out.cells
  go_wp2_with fail
  refine (to_network (ha.below E0.out.bel (Nat.le_refl _)) (hoo.below E0.out.bel (Nat.le_refl _)) E0.out.bel.size E0.out.bel.size HLN.out HB.out.1).mono ?_
  clear c00 c01 c02 c03 c04
  rintro e w1 ⟨vt, vo, rfl, hq, hb⟩
  have X0 := Lib.hid hq
  obtain ⟨at0, ct0, rfl⟩ := X0.out.tens.form
  obtain ⟨ao0, do0, rfl, -⟩ := ints_form X0.out.opens
  have E1 := Lib.hid (E0.out.grp hb (noRows _ _ _))
  clear hq hb
  obtain ⟨c00, c01, c02, c03, c04, -⟩ := E1.out.cells
  go_wp2_with fail
  refine (is_forest_spec (k := k) (p := p) (q := q) (X0.out.tens) (X0.out.opens) X0.out.cap (Nat.le_refl _) (Nat.le_refl _) HLT.out HB.out.2.2.1).mono ?_
  rw [← HY.out]
  clear c00 c01 c02 c03 c04
  rintro e w2 ⟨rfl, hb⟩
  have E2 := Lib.hid (E1.out.step hb)
  replace X0 := Lib.hid (X0.out.below hb)
  clear hb
  clear X0
  obtain ⟨c00, c01, c02, c03, c04, -⟩ := E2.out.cells
  go_wp2_with fail
  refine (to_network (ha.below E2.out.bel (Nat.le_refl _)) (hoo.below E2.out.bel (Nat.le_refl _)) E2.out.bel.size E2.out.bel.size HLN.out HB.out.1).mono ?_
  clear c00 c01 c02 c03 c04
  rintro e w3 ⟨vt, vo, rfl, hq, hb⟩
  have X1 := Lib.hid hq
  obtain ⟨at1, ct1, rfl⟩ := X1.out.tens.form
  obtain ⟨ao1, do1, rfl, -⟩ := ints_form X1.out.opens
  have E3 := Lib.hid (E2.out.grp hb (noRows _ _ _))
  clear hq hb
  have E4 := Lib.hid (E3.out.box5 (.int .i64 k) (.int .i64 p) (.int .i64 q) (.slice at1 ts.length ct1) (.slice ao1 O.length do1) 33)
  replace X1 := Lib.hid (X1.out.below ((Below.refl _ _).alloc (Nat.le_refl _) (.cells #[.int .i64 k, .int .i64 p, .int .i64 q, .slice at1 ts.length ct1, .slice ao1 O.length do1] 33)))
  obtain ⟨c10, c11, c12, c13, c14, c00, c01, c02, c03, c04, -⟩ := E4.out.cells
  go_wp2_with fail
  refine (is_forest_full (k := k) (p := p) (q := q) (X1.out.tens) (X1.out.opens) (Nat.le_refl _) rfl HLT.out HII.out rfl HB.out.2.2.1 HJJ.out).mono ?_
  rw [← HY.out]
  clear c10 c11 c12 c13 c14 c00 c01 c02 c03 c04
  rintro e w4 ⟨rfl, hb⟩
  have E5 := Lib.hid (E4.out.step hb)
  replace X1 := Lib.hid (X1.out.below hb)
  clear hb
  have E5d := Lib.hid E5.out.drew
  have Xd := Lib.hid (X1.out.below (Below.drew (Below.refl _ _)))
  obtain ⟨c10, c11, c12, c13, c14, c00, c01, c02, c03, c04, -⟩ := E5.out.cells
  go_wp2
  have tk0 : True := trivial
  have tk1 : True := trivial
  go_region_held3 (fun w' => w'.cell? ⟨w3.heap.size, 0, none⟩ = some (.int .i64 k) ∧ w'.cell? ⟨w3.heap.size, 1, none⟩ = some (.int .i64 p) ∧ w'.cell? ⟨w3.heap.size, 2, none⟩ = some (.int .i64 q) ∧ w'.cell? ⟨w3.heap.size, 3, none⟩ = some (.slice at1 ts.length ct1) ∧ w'.cell? ⟨w3.heap.size, 4, none⟩ = some (.slice ao1 O.length do1) ∧ w'.cell? ⟨w.heap.size, 0, none⟩ = some (.int .i64 k) ∧ w'.cell? ⟨w.heap.size, 1, none⟩ = some (.int .i64 p) ∧ w'.cell? ⟨w.heap.size, 2, none⟩ = some (.int .i64 q) ∧ w'.cell? ⟨w.heap.size, 3, none⟩ = some (.slice a ts.length ca) ∧ w'.cell? ⟨w.heap.size, 4, none⟩ = some (.slice ao O.length co)) (first | exact ⟨c10, c11, c12, c13, c14, c00, c01, c02, c03, c04⟩) (first
    | (go_at_call 14; have _t := tk0; refine (to_network (ha.below E5d.out.bel (Nat.le_refl _)) (hoo.below E5d.out.bel (Nat.le_refl _)) E5d.out.bel.size E5d.out.bel.size HLN.out HB.out.1).mono ?_; rintro e w5 ⟨vt, vo, rfl, hq, hb⟩; have X2 := Lib.hid hq; obtain ⟨at2, ct2, rfl⟩ := X2.out.tens.form; obtain ⟨ao2, do2, rfl, -⟩ := ints_form X2.out.opens; have E6 := Lib.hid (E5d.out.grp hb (noRows _ _ _)); have Xe := Lib.hid (Xd.out.below hb); clear hq hb; obtain ⟨c10, c11, c12, c13, c14, c00, c01, c02, c03, c04, -⟩ := E6.out.cells; clear tk0)
    | (go_at_call 16; have _t := tk1; refine (eq_network Xe.out.tens Xe.out.opens X2.out.tens X2.out.opens (Nat.le_refl _) (Nat.le_refl _) HLN.out).mono ?_; rintro e w6 ⟨rfl, hb⟩; have E7 := Lib.hid (E6.out.step hb); have Xf := Lib.hid (Xe.out.below hb); clear hb; obtain ⟨c10, c11, c12, c13, c14, c00, c01, c02, c03, c04, -⟩ := E7.out.cells; clear tk1))
  clear X1 Xd Xe X2
  go_wp2
  go_ret
  exact ⟨rfl, E7.out.bel⟩
end Go.Proofs.Ytdheakjjnaifkaa
