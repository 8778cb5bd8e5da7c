
/- The law FnAssociative, walked. -/
import Derived.Test.YtfdjlahaiogababAssocKit
import Derived.Deep.RegionHeld3
import Derived.Deep.DeepCutAuto
namespace Go.Proofs.Ytfdjlahaiogabab
set_option maxRecDepth 20000
open Go.RowKit

set_option maxHeartbeats 12800000 in
theorem law_assoc_small (a : Option Addr) (n c : Nat) (bs : List UInt8) (w : World) (hn : bs.length = n) (hs : n ≤ 1048576) (hr : Rd w.heap.size w (.slice a n c) (bytes8 bs)) :
    Calls Try.prog 8 #[.slice a n c] w fun e w' => e = .returned (.bool true) ∧ Below w.heap.size w w' := by
  have HR := Lib.hid hr
  have HN := Lib.hid (show bs.length ≤ 1048576 by omega)
  have HKN6 : Hid (([0, 1, 2, 3, 4, 5] : List Int).length ≤ 4096) := Lib.hid (by decide)
  clear hr hn
  go_enter Try.func8, Try.ntmps8
  go_wp2_with fail
  refine (make_ring 0 (by omega) HR.out HN.out).mono ?_
  rintro e w1 ⟨k, p, q, rfl, hk, hb⟩
  obtain ⟨wd, hwd, -⟩ := width_pos hk
  have HK := Lib.hid hk
  have HW := Lib.hid hwd
  have R1 := Lib.hid (((Rs.start w).step hb).box (.int .i64 k) (.int .i64 p) (.int .i64 q) 31)
  clear hk hb hwd
  go_wp2_with fail
  refine (make_six 10 (by omega) HK.out HW.out ((HR.out.below R1.out.bel (Nat.le_refl _)).mono R1.out.bel.size) HN.out).mono ?_
  rintro e w2 ⟨LA, DA, XA, h6, pA1, nA1, cA1, pA2, nA2, cA2, pA3, nA3, cA3, rfl, ho, hb⟩
  have R2 := Lib.hid ((R1.out.new3 hb ho).box (.slice pA1 nA1 cA1) (.slice pA2 nA2 cA2) (.slice pA3 nA3 cA3) 28)
  have HA := Lib.hid h6
  clear h6 ho hb R1
  obtain ⟨⟨fR0, fR1, fR2⟩, -⟩ := R2.out.at (r := w1.heap.size) (a := .int .i64 k) (b := .int .i64 p) (c := .int .i64 q) (by repeat (first | with_reducible exact List.mem_cons_self | apply List.mem_cons_of_mem))
  go_wp2_with fail
  refine (make_six 60 (by omega) HK.out HW.out ((HR.out.below R2.out.bel (Nat.le_refl _)).mono R2.out.bel.size) HN.out).mono ?_
  rintro e w3 ⟨LB, DB, XB, h6, pB1, nB1, cB1, pB2, nB2, cB2, pB3, nB3, cB3, rfl, ho, hb⟩
  have R3 := Lib.hid ((R2.out.new3 hb ho).box (.slice pB1 nB1 cB1) (.slice pB2 nB2 cB2) (.slice pB3 nB3 cB3) 28)
  have HB := Lib.hid h6
  clear h6 ho hb R2 fR0 fR1 fR2
  obtain ⟨⟨fR0, fR1, fR2⟩, -⟩ := R3.out.at (r := w1.heap.size) (a := .int .i64 k) (b := .int .i64 p) (c := .int .i64 q) (by repeat (first | with_reducible exact List.mem_cons_self | apply List.mem_cons_of_mem))
  go_wp2_with fail
  refine (make_six 110 (by omega) HK.out HW.out ((HR.out.below R3.out.bel (Nat.le_refl _)).mono R3.out.bel.size) HN.out).mono ?_
  rintro e w4 ⟨LC, DC, XC, h6, pC1, nC1, cC1, pC2, nC2, cC2, pC3, nC3, cC3, rfl, ho, hb⟩
  have R4 : Hid (Rs w ((w4.alloc (.cells #[.slice pC1 nC1 cC1, .slice pC2 nC2 cC2, .slice pC3 nC3 cC3] 28)).alloc (.cells #[.int .i64 0, .int .i64 1, .int .i64 2, .int .i64 3, .int .i64 4, .int .i64 5] 3)) _ _) := Lib.hid (by
    have h := ((R3.out.new3 hb ho).box (.slice pC1 nC1 cC1) (.slice pC2 nC2 cC2) (.slice pC3 nC3 cC3) 28).six
    simp only [World.size_alloc] at h
    exact h)
  have HC := Lib.hid h6
  clear h6 ho hb R3 fR0 fR1 fR2
  obtain ⟨LP, hL⟩ : ∃ l, l = keepL (joinL LA LB) [0, 1, 2, 3, 4, 5] := ⟨_, rfl⟩
  obtain ⟨DP, hD⟩ : ∃ l, l = keepD (joinL LA LB) (joinD LA DA LB DB) [0, 1, 2, 3, 4, 5] := ⟨_, rfl⟩
  obtain ⟨XP, hX⟩ : ∃ l, l = pairL k p q LA DA XA LB DB XB [0, 1, 2, 3, 4, 5] := ⟨_, rfl⟩
  have HP : Hid (Ten6 k p q wd LP DP XP) := Lib.hid (by rw [hL, hD, hX]; exact (HA.out.pair [0, 1, 2, 3, 4, 5] HW.out HB.out).2)
  have HPL := Lib.hid hL
  have HPD := Lib.hid hD
  have HPX := Lib.hid hX
  clear hL hD hX
  obtain ⟨LQ, hL⟩ : ∃ l, l = keepL (joinL LB LC) [0, 1, 2, 3, 4, 5] := ⟨_, rfl⟩
  obtain ⟨DQ, hD⟩ : ∃ l, l = keepD (joinL LB LC) (joinD LB DB LC DC) [0, 1, 2, 3, 4, 5] := ⟨_, rfl⟩
  obtain ⟨XQ, hX⟩ : ∃ l, l = pairL k p q LB DB XB LC DC XC [0, 1, 2, 3, 4, 5] := ⟨_, rfl⟩
  have HQ : Hid (Ten6 k p q wd LQ DQ XQ) := Lib.hid (by rw [hL, hD, hX]; exact (HB.out.pair [0, 1, 2, 3, 4, 5] HW.out HC.out).2)
  have HQL := Lib.hid hL
  have HQD := Lib.hid hD
  have HQX := Lib.hid hX
  clear hL hD hX
  obtain ⟨LX, hL⟩ : ∃ l, l = keepL (joinL LP LC) [0, 1, 2, 3, 4, 5] := ⟨_, rfl⟩
  obtain ⟨DX, hD⟩ : ∃ l, l = keepD (joinL LP LC) (joinD LP DP LC DC) [0, 1, 2, 3, 4, 5] := ⟨_, rfl⟩
  obtain ⟨XX, hX⟩ : ∃ l, l = pairL k p q LP DP XP LC DC XC [0, 1, 2, 3, 4, 5] := ⟨_, rfl⟩
  have HX : Hid (Ten6 k p q wd LX DX XX) := Lib.hid (by rw [hL, hD, hX]; exact (HP.out.pair [0, 1, 2, 3, 4, 5] HW.out HC.out).2)
  have HXL := Lib.hid hL
  have HXD := Lib.hid hD
  have HXX := Lib.hid hX
  clear hL hD hX
  obtain ⟨LY, hL⟩ : ∃ l, l = keepL (joinL LA LQ) [0, 1, 2, 3, 4, 5] := ⟨_, rfl⟩
  obtain ⟨DY, hD⟩ : ∃ l, l = keepD (joinL LA LQ) (joinD LA DA LQ DQ) [0, 1, 2, 3, 4, 5] := ⟨_, rfl⟩
  obtain ⟨XY, hX⟩ : ∃ l, l = pairL k p q LA DA XA LQ DQ XQ [0, 1, 2, 3, 4, 5] := ⟨_, rfl⟩
  have HY : Hid (Ten6 k p q wd LY DY XY) := Lib.hid (by rw [hL, hD, hX]; exact (HA.out.pair [0, 1, 2, 3, 4, 5] HW.out HQ.out).2)
  have HYL := Lib.hid hL
  have HYD := Lib.hid hD
  have HYX := Lib.hid hX
  clear hL hD hX
  have hall : ∀ n : Int, 0 ≤ n → n < 6 → n ∈ ([0, 1, 2, 3, 4, 5] : List Int) := fun n h1 h2 => by
    simp only [List.mem_cons, List.not_mem_nil, or_false]
    omega
  have hxy := assoc_same HK.out HW.out HA.out HB.out HC.out hall HPL.out HPD.out HPX.out HQL.out HQD.out HQX.out HXL.out HXD.out HXX.out HYL.out HYD.out HYX.out
  obtain ⟨exy1, exy2, exy3⟩ := hxy
  subst exy1 exy2 exy3
  obtain ⟨⟨fR0, fR1, fR2⟩, -⟩ := R4.out.at (r := w1.heap.size) (a := .int .i64 k) (b := .int .i64 p) (c := .int .i64 q) (by repeat (first | with_reducible exact List.mem_cons_self | apply List.mem_cons_of_mem))
  obtain ⟨⟨fA0, fA1, fA2⟩, -⟩ := R4.out.at (r := w2.heap.size) (a := .slice pA1 nA1 cA1) (b := .slice pA2 nA2 cA2) (c := .slice pA3 nA3 cA3) (by repeat (first | with_reducible exact List.mem_cons_self | apply List.mem_cons_of_mem))
  obtain ⟨⟨fB0, fB1, fB2⟩, -⟩ := R4.out.at (r := w3.heap.size) (a := .slice pB1 nB1 cB1) (b := .slice pB2 nB2 cB2) (c := .slice pB3 nB3 cB3) (by repeat (first | with_reducible exact List.mem_cons_self | apply List.mem_cons_of_mem))
  obtain ⟨⟨fC0, fC1, fC2⟩, -⟩ := R4.out.at (r := w4.heap.size) (a := .slice pC1 nC1 cC1) (b := .slice pC2 nC2 cC2) (c := .slice pC3 nC3 cC3) (by repeat (first | with_reducible exact List.mem_cons_self | apply List.mem_cons_of_mem))
  go_wp2_with fail
  refine (pair_six HW.out HA.out HB.out HPL.out HPD.out HPX.out ⟨R4.out.rd (v := .slice pA1 nA1 cA1) (xs := LA) (by repeat (first | with_reducible exact List.mem_cons_self | apply List.mem_cons_of_mem)), R4.out.rd (v := .slice pA2 nA2 cA2) (xs := DA) (by repeat (first | with_reducible exact List.mem_cons_self | apply List.mem_cons_of_mem)), R4.out.rd (v := .slice pA3 nA3 cA3) (xs := XA) (by repeat (first | with_reducible exact List.mem_cons_self | apply List.mem_cons_of_mem))⟩ ⟨R4.out.rd (v := .slice pB1 nB1 cB1) (xs := LB) (by repeat (first | with_reducible exact List.mem_cons_self | apply List.mem_cons_of_mem)), R4.out.rd (v := .slice pB2 nB2 cB2) (xs := DB) (by repeat (first | with_reducible exact List.mem_cons_self | apply List.mem_cons_of_mem)), R4.out.rd (v := .slice pB3 nB3 cB3) (xs := XB) (by repeat (first | with_reducible exact List.mem_cons_self | apply List.mem_cons_of_mem))⟩ (R4.out.rd (v := .slice (some ⟨w4.heap.size + 1, 0, none⟩) 6 6) (xs := [0, 1, 2, 3, 4, 5]) (by repeat (first | with_reducible exact List.mem_cons_self | apply List.mem_cons_of_mem))) (Nat.le_refl _) (Nat.le_refl _) (Nat.le_refl _) HKN6.out).mono ?_
  rintro e w5 ⟨pP1, nP1, cP1, pP2, nP2, cP2, pP3, nP3, cP3, rfl, ho, hb⟩
  have R5 := Lib.hid ((R4.out.new3 hb ho).box (.slice pP1 nP1 cP1) (.slice pP2 nP2 cP2) (.slice pP3 nP3 cP3) 28)
  clear ho hb R4
  clear fR0 fR1 fR2 fA0 fA1 fA2 fB0 fB1 fB2 fC0 fC1 fC2
  obtain ⟨⟨fR0, fR1, fR2⟩, -⟩ := R5.out.at (r := w1.heap.size) (a := .int .i64 k) (b := .int .i64 p) (c := .int .i64 q) (by repeat (first | with_reducible exact List.mem_cons_self | apply List.mem_cons_of_mem))
  obtain ⟨⟨fA0, fA1, fA2⟩, -⟩ := R5.out.at (r := w2.heap.size) (a := .slice pA1 nA1 cA1) (b := .slice pA2 nA2 cA2) (c := .slice pA3 nA3 cA3) (by repeat (first | with_reducible exact List.mem_cons_self | apply List.mem_cons_of_mem))
  obtain ⟨⟨fB0, fB1, fB2⟩, -⟩ := R5.out.at (r := w3.heap.size) (a := .slice pB1 nB1 cB1) (b := .slice pB2 nB2 cB2) (c := .slice pB3 nB3 cB3) (by repeat (first | with_reducible exact List.mem_cons_self | apply List.mem_cons_of_mem))
  obtain ⟨⟨fC0, fC1, fC2⟩, -⟩ := R5.out.at (r := w4.heap.size) (a := .slice pC1 nC1 cC1) (b := .slice pC2 nC2 cC2) (c := .slice pC3 nC3 cC3) (by repeat (first | with_reducible exact List.mem_cons_self | apply List.mem_cons_of_mem))
  obtain ⟨⟨fP0, fP1, fP2⟩, -⟩ := R5.out.at (r := w5.heap.size) (a := .slice pP1 nP1 cP1) (b := .slice pP2 nP2 cP2) (c := .slice pP3 nP3 cP3) (by repeat (first | with_reducible exact List.mem_cons_self | apply List.mem_cons_of_mem))
  go_wp2_with fail
  refine (pair_six HW.out HB.out HC.out HQL.out HQD.out HQX.out ⟨R5.out.rd (v := .slice pB1 nB1 cB1) (xs := LB) (by repeat (first | with_reducible exact List.mem_cons_self | apply List.mem_cons_of_mem)), R5.out.rd (v := .slice pB2 nB2 cB2) (xs := DB) (by repeat (first | with_reducible exact List.mem_cons_self | apply List.mem_cons_of_mem)), R5.out.rd (v := .slice pB3 nB3 cB3) (xs := XB) (by repeat (first | with_reducible exact List.mem_cons_self | apply List.mem_cons_of_mem))⟩ ⟨R5.out.rd (v := .slice pC1 nC1 cC1) (xs := LC) (by repeat (first | with_reducible exact List.mem_cons_self | apply List.mem_cons_of_mem)), R5.out.rd (v := .slice pC2 nC2 cC2) (xs := DC) (by repeat (first | with_reducible exact List.mem_cons_self | apply List.mem_cons_of_mem)), R5.out.rd (v := .slice pC3 nC3 cC3) (xs := XC) (by repeat (first | with_reducible exact List.mem_cons_self | apply List.mem_cons_of_mem))⟩ (R5.out.rd (v := .slice (some ⟨w4.heap.size + 1, 0, none⟩) 6 6) (xs := [0, 1, 2, 3, 4, 5]) (by repeat (first | with_reducible exact List.mem_cons_self | apply List.mem_cons_of_mem))) (Nat.le_refl _) (Nat.le_refl _) (Nat.le_refl _) HKN6.out).mono ?_
  rintro e w6 ⟨pQ1, nQ1, cQ1, pQ2, nQ2, cQ2, pQ3, nQ3, cQ3, rfl, ho, hb⟩
  have R6 := Lib.hid ((R5.out.new3 hb ho).box (.slice pQ1 nQ1 cQ1) (.slice pQ2 nQ2 cQ2) (.slice pQ3 nQ3 cQ3) 28)
  clear ho hb R5
  clear fR0 fR1 fR2 fA0 fA1 fA2 fB0 fB1 fB2 fC0 fC1 fC2 fP0 fP1 fP2
  obtain ⟨⟨fR0, fR1, fR2⟩, -⟩ := R6.out.at (r := w1.heap.size) (a := .int .i64 k) (b := .int .i64 p) (c := .int .i64 q) (by repeat (first | with_reducible exact List.mem_cons_self | apply List.mem_cons_of_mem))
  obtain ⟨⟨fA0, fA1, fA2⟩, -⟩ := R6.out.at (r := w2.heap.size) (a := .slice pA1 nA1 cA1) (b := .slice pA2 nA2 cA2) (c := .slice pA3 nA3 cA3) (by repeat (first | with_reducible exact List.mem_cons_self | apply List.mem_cons_of_mem))
  obtain ⟨⟨fC0, fC1, fC2⟩, -⟩ := R6.out.at (r := w4.heap.size) (a := .slice pC1 nC1 cC1) (b := .slice pC2 nC2 cC2) (c := .slice pC3 nC3 cC3) (by repeat (first | with_reducible exact List.mem_cons_self | apply List.mem_cons_of_mem))
  obtain ⟨⟨fP0, fP1, fP2⟩, -⟩ := R6.out.at (r := w5.heap.size) (a := .slice pP1 nP1 cP1) (b := .slice pP2 nP2 cP2) (c := .slice pP3 nP3 cP3) (by repeat (first | with_reducible exact List.mem_cons_self | apply List.mem_cons_of_mem))
  obtain ⟨⟨fQ0, fQ1, fQ2⟩, -⟩ := R6.out.at (r := w6.heap.size) (a := .slice pQ1 nQ1 cQ1) (b := .slice pQ2 nQ2 cQ2) (c := .slice pQ3 nQ3 cQ3) (by repeat (first | with_reducible exact List.mem_cons_self | apply List.mem_cons_of_mem))
  go_wp2_with fail
  refine (pair_six HW.out HP.out HC.out HXL.out HXD.out HXX.out ⟨R6.out.rd (v := .slice pP1 nP1 cP1) (xs := LP) (by repeat (first | with_reducible exact List.mem_cons_self | apply List.mem_cons_of_mem)), R6.out.rd (v := .slice pP2 nP2 cP2) (xs := DP) (by repeat (first | with_reducible exact List.mem_cons_self | apply List.mem_cons_of_mem)), R6.out.rd (v := .slice pP3 nP3 cP3) (xs := XP) (by repeat (first | with_reducible exact List.mem_cons_self | apply List.mem_cons_of_mem))⟩ ⟨R6.out.rd (v := .slice pC1 nC1 cC1) (xs := LC) (by repeat (first | with_reducible exact List.mem_cons_self | apply List.mem_cons_of_mem)), R6.out.rd (v := .slice pC2 nC2 cC2) (xs := DC) (by repeat (first | with_reducible exact List.mem_cons_self | apply List.mem_cons_of_mem)), R6.out.rd (v := .slice pC3 nC3 cC3) (xs := XC) (by repeat (first | with_reducible exact List.mem_cons_self | apply List.mem_cons_of_mem))⟩ (R6.out.rd (v := .slice (some ⟨w4.heap.size + 1, 0, none⟩) 6 6) (xs := [0, 1, 2, 3, 4, 5]) (by repeat (first | with_reducible exact List.mem_cons_self | apply List.mem_cons_of_mem))) (Nat.le_refl _) (Nat.le_refl _) (Nat.le_refl _) HKN6.out).mono ?_
  rintro e w7 ⟨pX1, nX1, cX1, pX2, nX2, cX2, pX3, nX3, cX3, rfl, ho, hb⟩
  have R7 := Lib.hid ((R6.out.new3 hb ho).box (.slice pX1 nX1 cX1) (.slice pX2 nX2 cX2) (.slice pX3 nX3 cX3) 28)
  clear ho hb R6
  clear fR0 fR1 fR2 fA0 fA1 fA2 fC0 fC1 fC2 fP0 fP1 fP2 fQ0 fQ1 fQ2
  obtain ⟨⟨fR0, fR1, fR2⟩, -⟩ := R7.out.at (r := w1.heap.size) (a := .int .i64 k) (b := .int .i64 p) (c := .int .i64 q) (by repeat (first | with_reducible exact List.mem_cons_self | apply List.mem_cons_of_mem))
  obtain ⟨⟨fA0, fA1, fA2⟩, -⟩ := R7.out.at (r := w2.heap.size) (a := .slice pA1 nA1 cA1) (b := .slice pA2 nA2 cA2) (c := .slice pA3 nA3 cA3) (by repeat (first | with_reducible exact List.mem_cons_self | apply List.mem_cons_of_mem))
  obtain ⟨⟨fQ0, fQ1, fQ2⟩, -⟩ := R7.out.at (r := w6.heap.size) (a := .slice pQ1 nQ1 cQ1) (b := .slice pQ2 nQ2 cQ2) (c := .slice pQ3 nQ3 cQ3) (by repeat (first | with_reducible exact List.mem_cons_self | apply List.mem_cons_of_mem))
  obtain ⟨⟨fX0, fX1, fX2⟩, -⟩ := R7.out.at (r := w7.heap.size) (a := .slice pX1 nX1 cX1) (b := .slice pX2 nX2 cX2) (c := .slice pX3 nX3 cX3) (by repeat (first | with_reducible exact List.mem_cons_self | apply List.mem_cons_of_mem))
  go_wp2_with fail
  refine (pair_six HW.out HA.out HQ.out HYL.out HYD.out HYX.out ⟨R7.out.rd (v := .slice pA1 nA1 cA1) (xs := LA) (by repeat (first | with_reducible exact List.mem_cons_self | apply List.mem_cons_of_mem)), R7.out.rd (v := .slice pA2 nA2 cA2) (xs := DA) (by repeat (first | with_reducible exact List.mem_cons_self | apply List.mem_cons_of_mem)), R7.out.rd (v := .slice pA3 nA3 cA3) (xs := XA) (by repeat (first | with_reducible exact List.mem_cons_self | apply List.mem_cons_of_mem))⟩ ⟨R7.out.rd (v := .slice pQ1 nQ1 cQ1) (xs := LQ) (by repeat (first | with_reducible exact List.mem_cons_self | apply List.mem_cons_of_mem)), R7.out.rd (v := .slice pQ2 nQ2 cQ2) (xs := DQ) (by repeat (first | with_reducible exact List.mem_cons_self | apply List.mem_cons_of_mem)), R7.out.rd (v := .slice pQ3 nQ3 cQ3) (xs := XQ) (by repeat (first | with_reducible exact List.mem_cons_self | apply List.mem_cons_of_mem))⟩ (R7.out.rd (v := .slice (some ⟨w4.heap.size + 1, 0, none⟩) 6 6) (xs := [0, 1, 2, 3, 4, 5]) (by repeat (first | with_reducible exact List.mem_cons_self | apply List.mem_cons_of_mem))) (Nat.le_refl _) (Nat.le_refl _) (Nat.le_refl _) HKN6.out).mono ?_
  rintro e w8 ⟨pY1, nY1, cY1, pY2, nY2, cY2, pY3, nY3, cY3, rfl, ho, hb⟩
  have R8 := Lib.hid ((R7.out.new3 hb ho).box (.slice pY1 nY1 cY1) (.slice pY2 nY2 cY2) (.slice pY3 nY3 cY3) 28)
  clear ho hb R7
  clear fR0 fR1 fR2 fA0 fA1 fA2 fQ0 fQ1 fQ2 fX0 fX1 fX2
  obtain ⟨⟨fR0, fR1, fR2⟩, -⟩ := R8.out.at (r := w1.heap.size) (a := .int .i64 k) (b := .int .i64 p) (c := .int .i64 q) (by repeat (first | with_reducible exact List.mem_cons_self | apply List.mem_cons_of_mem))
  obtain ⟨⟨fX0, fX1, fX2⟩, -⟩ := R8.out.at (r := w7.heap.size) (a := .slice pX1 nX1 cX1) (b := .slice pX2 nX2 cX2) (c := .slice pX3 nX3 cX3) (by repeat (first | with_reducible exact List.mem_cons_self | apply List.mem_cons_of_mem))
  obtain ⟨⟨fY0, fY1, fY2⟩, -⟩ := R8.out.at (r := w8.heap.size) (a := .slice pY1 nY1 cY1) (b := .slice pY2 nY2 cY2) (c := .slice pY3 nY3 cY3) (by repeat (first | with_reducible exact List.mem_cons_self | apply List.mem_cons_of_mem))
  go_wp2_with fail
  refine (same_six HX.out ⟨R8.out.rd (v := .slice pX1 nX1 cX1) (xs := LX) (by repeat (first | with_reducible exact List.mem_cons_self | apply List.mem_cons_of_mem)), R8.out.rd (v := .slice pX2 nX2 cX2) (xs := DX) (by repeat (first | with_reducible exact List.mem_cons_self | apply List.mem_cons_of_mem)), R8.out.rd (v := .slice pX3 nX3 cX3) (xs := XX) (by repeat (first | with_reducible exact List.mem_cons_self | apply List.mem_cons_of_mem))⟩ ⟨R8.out.rd (v := .slice pY1 nY1 cY1) (xs := LX) (by repeat (first | with_reducible exact List.mem_cons_self | apply List.mem_cons_of_mem)), R8.out.rd (v := .slice pY2 nY2 cY2) (xs := DX) (by repeat (first | with_reducible exact List.mem_cons_self | apply List.mem_cons_of_mem)), R8.out.rd (v := .slice pY3 nY3 cY3) (xs := XX) (by repeat (first | with_reducible exact List.mem_cons_self | apply List.mem_cons_of_mem))⟩ (Nat.le_refl _) (Nat.le_refl _)).mono ?_
  rintro e w9 ⟨rfl, hb⟩
  have R9 := Lib.hid (((R8.out.step hb).subB (bs' := [(w5.heap.size, .slice pP1 nP1 cP1, .slice pP2 nP2 cP2, .slice pP3 nP3 cP3), (w3.heap.size, .slice pB1 nB1 cB1, .slice pB2 nB2 cB2, .slice pB3 nB3 cB3), (w2.heap.size, .slice pA1 nA1 cA1, .slice pA2 nA2 cA2, .slice pA3 nA3 cA3), (w1.heap.size, .int .i64 k, .int .i64 p, .int .i64 q)]) (List.Sublist.cons _ (List.Sublist.cons _ (List.Sublist.cons _ (List.Sublist.cons_cons _ (List.Sublist.cons _ (List.Sublist.cons_cons _ (List.Sublist.cons_cons _ (List.Sublist.cons_cons _ (List.Sublist.refl _)))))))))).sub (rows' := [(.slice pP1 nP1 cP1, LP), (.slice pP2 nP2 cP2, DP), (.slice pP3 nP3 cP3, XP), (.slice pB1 nB1 cB1, LB), (.slice pB2 nB2 cB2, DB), (.slice pB3 nB3 cB3, XB), (.slice pA1 nA1 cA1, LA), (.slice pA2 nA2 cA2, DA), (.slice pA3 nA3 cA3, XA)]) (List.Sublist.cons _ (List.Sublist.cons _ (List.Sublist.cons _ (List.Sublist.cons _ (List.Sublist.cons _ (List.Sublist.cons _ (List.Sublist.cons _ (List.Sublist.cons _ (List.Sublist.cons _ (List.Sublist.cons_cons _ (List.Sublist.cons_cons _ (List.Sublist.cons_cons _ (List.Sublist.cons _ (List.Sublist.cons _ (List.Sublist.cons _ (List.Sublist.cons _ (List.Sublist.cons_cons _ (List.Sublist.cons_cons _ (List.Sublist.cons_cons _ (List.Sublist.cons_cons _ (List.Sublist.cons_cons _ (List.Sublist.cons_cons _ (List.Sublist.refl _))))))))))))))))))))))))
  clear hb R8 HX HXL HXD HXX HYL HYD HYX HY HQ HQL HQD HQX HC
  clear fR0 fR1 fR2 fX0 fX1 fX2 fY0 fY1 fY2
  have RX := Lib.hid R9.out.drew
  obtain ⟨⟨fB0, fB1, fB2⟩, -⟩ := RX.out.at (r := w3.heap.size) (a := .slice pB1 nB1 cB1) (b := .slice pB2 nB2 cB2) (c := .slice pB3 nB3 cB3) (by repeat (first | with_reducible exact List.mem_cons_self | apply List.mem_cons_of_mem))
  go_wp2_with fail
  refine wp_region_held_drew (S := (fun w' => w'.cell? ⟨w3.heap.size, 0, none⟩ = some (.slice pB1 nB1 cB1) ∧ w'.cell? ⟨w3.heap.size, 1, none⟩ = some (.slice pB2 nB2 cB2) ∧ w'.cell? ⟨w3.heap.size, 2, none⟩ = some (.slice pB3 nB3 cB3))) (by kernel_rfl) (by (try dsimp only); exact ⟨fB0, fB1, fB2⟩) (fun hHeld => ?_)
  refine wpAnyH_take (i := 0) (v := ?_) rfl (by kernel_rfl) (by kernel_rfl) (by kernel_rfl) (fun _ _ _ h => h) (Or.inl ⟨by rfl, ?_⟩) (by assumption) ?_
  rotate_left
  · intro w hSw; (try dsimp only at hSw); go_simp <;> with_reducible rfl
  try simp only [Act.put, List.getElem_toArray, List.getElem_cons_zero, List.setIfInBounds_toArray, List.set_cons_zero, List.set_cons_succ]
  refine wpAnyH_take (i := 1) (v := ?_) rfl (by kernel_rfl) (by kernel_rfl) (by kernel_rfl) (fun _ _ _ h => h) (Or.inl ⟨by rfl, ?_⟩) (by assumption) ?_
  rotate_left
  · intro w hSw; (try dsimp only at hSw); go_simp <;> with_reducible rfl
  try simp only [Act.put, List.getElem_toArray, List.getElem_cons_succ, List.getElem_cons_zero, List.setIfInBounds_toArray, List.set_cons_zero, List.set_cons_succ]
  refine wpAnyH_take (i := 2) (v := ?_) rfl (by kernel_rfl) (by kernel_rfl) (by kernel_rfl) (fun _ _ _ h => h) (Or.inl ⟨by rfl, ?_⟩) (by assumption) ?_
  rotate_left
  · intro w hSw; (try dsimp only at hSw); go_simp <;> with_reducible rfl
  try simp only [Act.put, List.getElem_toArray, List.getElem_cons_succ, List.getElem_cons_zero, List.setIfInBounds_toArray, List.set_cons_zero, List.set_cons_succ]
  refine wpAnyH_ready (rs := [3]) (by kernel_rfl) (by simp) ?_
  refine AllReadyH.cons rfl (fun K hK => ?_) AllReadyH.nil
  go_simp
  (go_at_call 37; refine (make_some 160 6 (by omega) (by omega) ((HR.out.below RX.out.bel (Nat.le_refl _)).mono RX.out.bel.size) HN.out).mono ?_; rintro e w10 ⟨vs, ks, rfl, -, hks, ho, hb⟩; replace RX := Lib.hid (RX.out.new hb ho); have HKS := Lib.hid hks; clear ho hb hks; clear fB0 fB1 fB2; obtain ⟨⟨fB0, fB1, fB2⟩, -⟩ := RX.out.at (r := w3.heap.size) (a := .slice pB1 nB1 cB1) (b := .slice pB2 nB2 cB2) (c := .slice pB3 nB3 cB3) (by repeat (first | with_reducible exact List.mem_cons_self | apply List.mem_cons_of_mem)))
  go_wp2_with fail
  refine hK.out _ _ (by (try dsimp only); exact ⟨fB0, fB1, fB2⟩) (fun hHeld => ?_)
  clear hK K
  try simp only [Act.put, List.getElem_toArray, List.getElem_cons_succ, List.getElem_cons_zero, List.setIfInBounds_toArray, List.set_cons_zero, List.set_cons_succ]
  refine wpAnyH_ready (rs := [4]) (by kernel_rfl) (by simp) ?_
  refine AllReadyH.cons rfl (fun K hK => ?_) AllReadyH.nil
  go_simp
  (go_at_call 41; refine (join_two (RX.out.own1 (v := .slice pB1 nB1 cB1) (xs := LB) (by repeat (first | with_reducible exact List.mem_cons_self | apply List.mem_cons_of_mem))) (RX.out.own1 (v := vs) (xs := ks) (by repeat (first | with_reducible exact List.mem_cons_self | apply List.mem_cons_of_mem))) (by have := HB.out.lab.len; have := HKS.out; omega)).mono ?_; rintro e w11 ⟨vk, rfl, ho, hb⟩; replace RX := Lib.hid (RX.out.new hb ho); clear ho hb; clear fB0 fB1 fB2; obtain ⟨⟨fB0, fB1, fB2⟩, -⟩ := RX.out.at (r := w3.heap.size) (a := .slice pB1 nB1 cB1) (b := .slice pB2 nB2 cB2) (c := .slice pB3 nB3 cB3) (by repeat (first | with_reducible exact List.mem_cons_self | apply List.mem_cons_of_mem)))
  go_wp2_with fail
  refine hK.out _ _ (by (try dsimp only); exact ⟨fB0, fB1, fB2⟩) (fun hHeld => ?_)
  clear hK K
  try simp only [Act.put, List.getElem_toArray, List.getElem_cons_succ, List.getElem_cons_zero, List.setIfInBounds_toArray, List.set_cons_zero, List.set_cons_succ]
  refine wpAnyH_take (i := 5) (v := ?_) rfl (by kernel_rfl) (by kernel_rfl) (by kernel_rfl) (fun _ _ _ h => h) (Or.inl ⟨by rfl, ?_⟩) (by assumption) ?_
  rotate_left
  · intro w hSw; (try dsimp only at hSw); go_simp <;> with_reducible rfl
  try simp only [Act.put, List.getElem_toArray, List.getElem_cons_succ, List.getElem_cons_zero, List.setIfInBounds_toArray, List.set_cons_zero, List.set_cons_succ]
  refine wpAnyH_done (by kernel_rfl) ?_ _
  obtain ⟨keep, hkeep⟩ : ∃ l, l = LB ++ ks := ⟨_, rfl⟩
  have HKN : Hid (keep.length ≤ 4096) := Lib.hid (by rw [hkeep, List.length_append]; have := HB.out.lab.len; have := HKS.out; omega)
  have hsub : ∀ n ∈ LB, n ∈ keep := fun n hn => by rw [hkeep]; exact List.mem_append.2 (.inl hn)
  rw [← hkeep] at RX
  obtain ⟨LZ, hL⟩ : ∃ l, l = keepL (joinL LA LB) keep := ⟨_, rfl⟩
  obtain ⟨DZ, hD⟩ : ∃ l, l = keepD (joinL LA LB) (joinD LA DA LB DB) keep := ⟨_, rfl⟩
  obtain ⟨XZ, hX⟩ : ∃ l, l = pairL k p q LA DA XA LB DB XB keep := ⟨_, rfl⟩
  have HZ : Hid (Ten6 k p q wd LZ DZ XZ) := Lib.hid (by rw [hL, hD, hX]; exact (HA.out.pair keep HW.out HB.out).2)
  have HZL := Lib.hid hL
  have HZD := Lib.hid hD
  have HZX := Lib.hid hX
  clear hL hD hX
  obtain ⟨LS, hL⟩ : ∃ l, l = keepL (joinL LA []) keep := ⟨_, rfl⟩
  obtain ⟨DS, hD⟩ : ∃ l, l = keepD (joinL LA []) (joinD LA DA [] []) keep := ⟨_, rfl⟩
  obtain ⟨XS, hX⟩ : ∃ l, l = pairL k p q LA DA XA [] [] (oneL k p q) keep := ⟨_, rfl⟩
  have HS : Hid (Ten6 k p q wd LS DS XS) := Lib.hid (by rw [hL, hD, hX]; exact sum_ten HK.out HW.out HA.out)
  have HSL := Lib.hid hL
  have HSD := Lib.hid hD
  have HSX := Lib.hid hX
  clear hL hD hX
  have hes := early_same HK.out HW.out HA.out HB.out hsub HSL.out HSD.out HSX.out HS.out
  rw [← HZL.out, ← HZD.out, ← HZX.out] at hes
  have HWL := Lib.hid hes.1
  have HWD := Lib.hid hes.2.1
  have HWX := Lib.hid hes.2.2
  have hls := later_same (keep := keep) HK.out HW.out HA.out HB.out hall HPL.out HPD.out HPX.out
  rw [← HZL.out, ← HZD.out, ← HZX.out] at hls
  have HTL := Lib.hid hls.1.symm
  have HTD := Lib.hid hls.2.1.symm
  have HTX := Lib.hid hls.2.2.symm
  clear hkeep hes hls hsub hall HKS HPL HPD HPX HKN6
  clear fB0 fB1 fB2
  obtain ⟨⟨fR0, fR1, fR2⟩, -⟩ := RX.out.at (r := w1.heap.size) (a := .int .i64 k) (b := .int .i64 p) (c := .int .i64 q) (by repeat (first | with_reducible exact List.mem_cons_self | apply List.mem_cons_of_mem))
  obtain ⟨⟨fA0, fA1, fA2⟩, -⟩ := RX.out.at (r := w2.heap.size) (a := .slice pA1 nA1 cA1) (b := .slice pA2 nA2 cA2) (c := .slice pA3 nA3 cA3) (by repeat (first | with_reducible exact List.mem_cons_self | apply List.mem_cons_of_mem))
  obtain ⟨⟨fB0, fB1, fB2⟩, -⟩ := RX.out.at (r := w3.heap.size) (a := .slice pB1 nB1 cB1) (b := .slice pB2 nB2 cB2) (c := .slice pB3 nB3 cB3) (by repeat (first | with_reducible exact List.mem_cons_self | apply List.mem_cons_of_mem))
  go_wp2_with fail
  refine (pair_six HW.out HA.out HB.out HZL.out HZD.out HZX.out ⟨RX.out.rd (v := .slice pA1 nA1 cA1) (xs := LA) (by repeat (first | with_reducible exact List.mem_cons_self | apply List.mem_cons_of_mem)), RX.out.rd (v := .slice pA2 nA2 cA2) (xs := DA) (by repeat (first | with_reducible exact List.mem_cons_self | apply List.mem_cons_of_mem)), RX.out.rd (v := .slice pA3 nA3 cA3) (xs := XA) (by repeat (first | with_reducible exact List.mem_cons_self | apply List.mem_cons_of_mem))⟩ ⟨RX.out.rd (v := .slice pB1 nB1 cB1) (xs := LB) (by repeat (first | with_reducible exact List.mem_cons_self | apply List.mem_cons_of_mem)), RX.out.rd (v := .slice pB2 nB2 cB2) (xs := DB) (by repeat (first | with_reducible exact List.mem_cons_self | apply List.mem_cons_of_mem)), RX.out.rd (v := .slice pB3 nB3 cB3) (xs := XB) (by repeat (first | with_reducible exact List.mem_cons_self | apply List.mem_cons_of_mem))⟩ (RX.out.rd (v := vk) (xs := keep) (by repeat (first | with_reducible exact List.mem_cons_self | apply List.mem_cons_of_mem))) (Nat.le_refl _) (Nat.le_refl _) (Nat.le_refl _) HKN.out).mono ?_
  rintro e w12 ⟨pZ1, nZ1, cZ1, pZ2, nZ2, cZ2, pZ3, nZ3, cZ3, rfl, ho, hb⟩
  have RXN := Lib.hid ((RX.out.new3 hb ho).box (.slice pZ1 nZ1 cZ1) (.slice pZ2 nZ2 cZ2) (.slice pZ3 nZ3 cZ3) 28)
  clear ho hb RX
  clear fR0 fR1 fR2 fA0 fA1 fA2 fB0 fB1 fB2
  go_wp2_with fail
  generalize w12.alloc (.cells #[.slice pZ1 nZ1 cZ1, .slice pZ2 nZ2 cZ2, .slice pZ3 nZ3 cZ3] 28) = V1 at RXN ⊢
  have RX := Lib.hid RXN.out.drew
  obtain ⟨⟨fR0, fR1, fR2⟩, -⟩ := RX.out.at (r := w1.heap.size) (a := .int .i64 k) (b := .int .i64 p) (c := .int .i64 q) (by repeat (first | with_reducible exact List.mem_cons_self | apply List.mem_cons_of_mem))
  obtain ⟨⟨fA0, fA1, fA2⟩, -⟩ := RX.out.at (r := w2.heap.size) (a := .slice pA1 nA1 cA1) (b := .slice pA2 nA2 cA2) (c := .slice pA3 nA3 cA3) (by repeat (first | with_reducible exact List.mem_cons_self | apply List.mem_cons_of_mem))
  obtain ⟨⟨fB0, fB1, fB2⟩, -⟩ := RX.out.at (r := w3.heap.size) (a := .slice pB1 nB1 cB1) (b := .slice pB2 nB2 cB2) (c := .slice pB3 nB3 cB3) (by repeat (first | with_reducible exact List.mem_cons_self | apply List.mem_cons_of_mem))
  refine wp_region_held_drew (S := (fun w' => w'.cell? ⟨w1.heap.size, 0, none⟩ = some (.int .i64 k) ∧ w'.cell? ⟨w1.heap.size, 1, none⟩ = some (.int .i64 p) ∧ w'.cell? ⟨w1.heap.size, 2, none⟩ = some (.int .i64 q) ∧ w'.cell? ⟨w2.heap.size, 0, none⟩ = some (.slice pA1 nA1 cA1) ∧ w'.cell? ⟨w2.heap.size, 1, none⟩ = some (.slice pA2 nA2 cA2) ∧ w'.cell? ⟨w2.heap.size, 2, none⟩ = some (.slice pA3 nA3 cA3) ∧ w'.cell? ⟨w3.heap.size, 0, none⟩ = some (.slice pB1 nB1 cB1) ∧ w'.cell? ⟨w3.heap.size, 1, none⟩ = some (.slice pB2 nB2 cB2) ∧ w'.cell? ⟨w3.heap.size, 2, none⟩ = some (.slice pB3 nB3 cB3))) (by kernel_rfl) (by (try dsimp only); first | with_reducible exact ⟨fR0, fR1, fR2, fA0, fA1, fA2, fB0, fB1, fB2⟩ | with_reducible exact ⟨gR0, gR1, gR2, gA0, gA1, gA2, gB0, gB1, gB2⟩) (fun hHeld => ?_)
  refine wpAnyH_take (i := 0) (v := ?_) rfl (by kernel_rfl) (by kernel_rfl) (by kernel_rfl) (fun _ _ _ h => h) (Or.inl ⟨by rfl, ?_⟩) (by assumption) ?_
  rotate_left
  · intro w hSw; (try dsimp only at hSw); go_simp <;> with_reducible rfl
  try simp only [Act.put, List.getElem_toArray, List.getElem_cons_zero, List.setIfInBounds_toArray, List.set_cons_zero, List.set_cons_succ]
  refine wpAnyH_take (i := 1) (v := ?_) rfl (by kernel_rfl) (by kernel_rfl) (by kernel_rfl) (fun _ _ _ h => h) (Or.inl ⟨by rfl, ?_⟩) (by assumption) ?_
  rotate_left
  · intro w hSw; (try dsimp only at hSw); go_simp <;> with_reducible rfl
  try simp only [Act.put, List.getElem_toArray, List.getElem_cons_succ, List.getElem_cons_zero, List.setIfInBounds_toArray, List.set_cons_zero, List.set_cons_succ]
  refine wpAnyH_take (i := 2) (v := ?_) rfl (by kernel_rfl) (by kernel_rfl) (by kernel_rfl) (fun _ _ _ h => h) (Or.inl ⟨by rfl, ?_⟩) (by assumption) ?_
  rotate_left
  · intro w hSw; (try dsimp only at hSw); go_simp <;> with_reducible rfl
  try simp only [Act.put, List.getElem_toArray, List.getElem_cons_succ, List.getElem_cons_zero, List.setIfInBounds_toArray, List.set_cons_zero, List.set_cons_succ]
  refine wpAnyH_take (i := 3) (v := ?_) rfl (by kernel_rfl) (by kernel_rfl) (by kernel_rfl) (fun _ _ _ h => h) (Or.inl ⟨by rfl, ?_⟩) (by assumption) ?_
  rotate_left
  · intro w hSw; (try dsimp only at hSw); go_simp <;> with_reducible rfl
  try simp only [Act.put, List.getElem_toArray, List.getElem_cons_succ, List.getElem_cons_zero, List.setIfInBounds_toArray, List.set_cons_zero, List.set_cons_succ]
  refine wpAnyH_take (i := 5) (v := ?_) rfl (by kernel_rfl) (by kernel_rfl) (by kernel_rfl) (fun _ _ _ h => h) (Or.inl ⟨by rfl, ?_⟩) (by assumption) ?_
  rotate_left
  · intro w hSw; (try dsimp only at hSw); go_simp <;> with_reducible rfl
  try simp only [Act.put, List.getElem_toArray, List.getElem_cons_succ, List.getElem_cons_zero, List.setIfInBounds_toArray, List.set_cons_zero, List.set_cons_succ]
  refine wpAnyH_take (i := 6) (v := ?_) rfl (by kernel_rfl) (by kernel_rfl) (by kernel_rfl) (fun _ _ _ h => h) (Or.inl ⟨by rfl, ?_⟩) (by assumption) ?_
  rotate_left
  · intro w hSw; (try dsimp only at hSw); go_simp <;> with_reducible rfl
  try simp only [Act.put, List.getElem_toArray, List.getElem_cons_succ, List.getElem_cons_zero, List.setIfInBounds_toArray, List.set_cons_zero, List.set_cons_succ]
  refine wpAnyH_ready (rs := [4, 11]) (by kernel_rfl) (by simp) ?_
  refine AllReadyH.cons rfl (fun K hK => ?_) (AllReadyH.cons rfl (fun K hK => ?_) AllReadyH.nil)
  focus
    go_simp
    (go_at_call 42; refine (sum_six HA.out HSL.out HSD.out HSX.out ⟨RX.out.rd (v := .slice pA1 nA1 cA1) (xs := LA) (by repeat (first | with_reducible exact List.mem_cons_self | apply List.mem_cons_of_mem)), RX.out.rd (v := .slice pA2 nA2 cA2) (xs := DA) (by repeat (first | with_reducible exact List.mem_cons_self | apply List.mem_cons_of_mem)), RX.out.rd (v := .slice pA3 nA3 cA3) (xs := XA) (by repeat (first | with_reducible exact List.mem_cons_self | apply List.mem_cons_of_mem))⟩ (RX.out.rd (v := vk) (xs := keep) (by repeat (first | with_reducible exact List.mem_cons_self | apply List.mem_cons_of_mem))) (Nat.le_refl _) (Nat.le_refl _) HKN.out).mono ?_; rintro e w13 ⟨pS1, nS1, cS1, pS2, nS2, cS2, pS3, nS3, cS3, rfl, ho, hb⟩; have RA := RX; replace RX := Lib.hid (RX.out.new3 hb ho); clear ho hb; clear fR0 fR1 fR2 fA0 fA1 fA2 fB0 fB1 fB2; obtain ⟨⟨fR0, fR1, fR2⟩, -⟩ := RX.out.at (r := w1.heap.size) (a := .int .i64 k) (b := .int .i64 p) (c := .int .i64 q) (by repeat (first | with_reducible exact List.mem_cons_self | apply List.mem_cons_of_mem)); obtain ⟨⟨fA0, fA1, fA2⟩, -⟩ := RX.out.at (r := w2.heap.size) (a := .slice pA1 nA1 cA1) (b := .slice pA2 nA2 cA2) (c := .slice pA3 nA3 cA3) (by repeat (first | with_reducible exact List.mem_cons_self | apply List.mem_cons_of_mem)); obtain ⟨⟨fB0, fB1, fB2⟩, -⟩ := RX.out.at (r := w3.heap.size) (a := .slice pB1 nB1 cB1) (b := .slice pB2 nB2 cB2) (c := .slice pB3 nB3 cB3) (by repeat (first | with_reducible exact List.mem_cons_self | apply List.mem_cons_of_mem)))
    go_wp2_with fail
    refine hK.out _ _ (by (try dsimp only); first | with_reducible exact ⟨fR0, fR1, fR2, fA0, fA1, fA2, fB0, fB1, fB2⟩ | with_reducible exact ⟨gR0, gR1, gR2, gA0, gA1, gA2, gB0, gB1, gB2⟩) (fun hHeld => ?_)
    clear hK K
    try simp only [Act.put, List.getElem_toArray, List.getElem_cons_succ, List.getElem_cons_zero, List.setIfInBounds_toArray, List.set_cons_zero, List.set_cons_succ]
    refine wpAnyH_ready (rs := [7, 11]) (by kernel_rfl) (by simp) ?_
    refine AllReadyH.cons rfl (fun K hK => ?_) (AllReadyH.cons rfl (fun K hK => ?_) AllReadyH.nil)
    focus
      go_simp
      (go_at_call 38; refine (pair_six HW.out HS.out HB.out HWL.out HWD.out HWX.out ⟨RX.out.rd (v := .slice pS1 nS1 cS1) (xs := LS) (by repeat (first | with_reducible exact List.mem_cons_self | apply List.mem_cons_of_mem)), RX.out.rd (v := .slice pS2 nS2 cS2) (xs := DS) (by repeat (first | with_reducible exact List.mem_cons_self | apply List.mem_cons_of_mem)), RX.out.rd (v := .slice pS3 nS3 cS3) (xs := XS) (by repeat (first | with_reducible exact List.mem_cons_self | apply List.mem_cons_of_mem))⟩ ⟨RX.out.rd (v := .slice pB1 nB1 cB1) (xs := LB) (by repeat (first | with_reducible exact List.mem_cons_self | apply List.mem_cons_of_mem)), RX.out.rd (v := .slice pB2 nB2 cB2) (xs := DB) (by repeat (first | with_reducible exact List.mem_cons_self | apply List.mem_cons_of_mem)), RX.out.rd (v := .slice pB3 nB3 cB3) (xs := XB) (by repeat (first | with_reducible exact List.mem_cons_self | apply List.mem_cons_of_mem))⟩ (RX.out.rd (v := vk) (xs := keep) (by repeat (first | with_reducible exact List.mem_cons_self | apply List.mem_cons_of_mem))) (Nat.le_refl _) (Nat.le_refl _) (Nat.le_refl _) HKN.out).mono ?_; rintro e w14 ⟨pW1, nW1, cW1, pW2, nW2, cW2, pW3, nW3, cW3, rfl, ho, hb⟩; replace RX := Lib.hid (RX.out.new3 hb ho); clear ho hb; clear fR0 fR1 fR2 fA0 fA1 fA2 fB0 fB1 fB2; obtain ⟨⟨fR0, fR1, fR2⟩, -⟩ := RX.out.at (r := w1.heap.size) (a := .int .i64 k) (b := .int .i64 p) (c := .int .i64 q) (by repeat (first | with_reducible exact List.mem_cons_self | apply List.mem_cons_of_mem)); obtain ⟨⟨fA0, fA1, fA2⟩, -⟩ := RX.out.at (r := w2.heap.size) (a := .slice pA1 nA1 cA1) (b := .slice pA2 nA2 cA2) (c := .slice pA3 nA3 cA3) (by repeat (first | with_reducible exact List.mem_cons_self | apply List.mem_cons_of_mem)); obtain ⟨⟨fB0, fB1, fB2⟩, -⟩ := RX.out.at (r := w3.heap.size) (a := .slice pB1 nB1 cB1) (b := .slice pB2 nB2 cB2) (c := .slice pB3 nB3 cB3) (by repeat (first | with_reducible exact List.mem_cons_self | apply List.mem_cons_of_mem)))
      go_wp2_with fail
      refine hK.out _ _ (by (try dsimp only); first | with_reducible exact ⟨fR0, fR1, fR2, fA0, fA1, fA2, fB0, fB1, fB2⟩ | with_reducible exact ⟨gR0, gR1, gR2, gA0, gA1, gA2, gB0, gB1, gB2⟩) (fun hHeld => ?_)
      clear hK K
      try simp only [Act.put, List.getElem_toArray, List.getElem_cons_succ, List.getElem_cons_zero, List.setIfInBounds_toArray, List.set_cons_zero, List.set_cons_succ]
      refine wpAnyH_take (i := 8) (v := ?_) rfl (by kernel_rfl) (by kernel_rfl) (by kernel_rfl) (fun _ _ _ h => h) (Or.inl ⟨by rfl, ?_⟩) (by assumption) ?_
      rotate_left
      · intro w hSw; (try dsimp only at hSw); go_simp <;> with_reducible rfl
      try simp only [Act.put, List.getElem_toArray, List.getElem_cons_succ, List.getElem_cons_zero, List.setIfInBounds_toArray, List.set_cons_zero, List.set_cons_succ]
      refine wpAnyH_take (i := 9) (v := ?_) rfl (by kernel_rfl) (by kernel_rfl) (by kernel_rfl) (fun _ _ _ h => h) (Or.inl ⟨by rfl, ?_⟩) (by assumption) ?_
      rotate_left
      · intro w hSw; (try dsimp only at hSw); go_simp <;> with_reducible rfl
      try simp only [Act.put, List.getElem_toArray, List.getElem_cons_succ, List.getElem_cons_zero, List.setIfInBounds_toArray, List.set_cons_zero, List.set_cons_succ]
      refine wpAnyH_take (i := 10) (v := ?_) rfl (by kernel_rfl) (by kernel_rfl) (by kernel_rfl) (fun _ _ _ h => h) (Or.inl ⟨by rfl, ?_⟩) (by assumption) ?_
      rotate_left
      · intro w hSw; (try dsimp only at hSw); go_simp <;> with_reducible rfl
      try simp only [Act.put, List.getElem_toArray, List.getElem_cons_succ, List.getElem_cons_zero, List.setIfInBounds_toArray, List.set_cons_zero, List.set_cons_succ]
      refine wpAnyH_ready (rs := [11]) (by kernel_rfl) (by simp) ?_
      refine AllReadyH.cons rfl (fun K hK => ?_) AllReadyH.nil
      go_simp
      (have RXP := RX; (first | (have _q := RA; replace RX := Lib.hid (RX.out.box nilV nilV nilV 28); clear _q) | (replace RX := Lib.hid (RXN.out.box nilV nilV nilV 28).drew)); clear fR0 fR1 fR2 fA0 fA1 fA2 fB0 fB1 fB2; obtain ⟨⟨fR0, fR1, fR2⟩, -⟩ := RX.out.at (r := w1.heap.size) (a := .int .i64 k) (b := .int .i64 p) (c := .int .i64 q) (by repeat (first | with_reducible exact List.mem_cons_self | apply List.mem_cons_of_mem)); obtain ⟨⟨fA0, fA1, fA2⟩, -⟩ := RX.out.at (r := w2.heap.size) (a := .slice pA1 nA1 cA1) (b := .slice pA2 nA2 cA2) (c := .slice pA3 nA3 cA3) (by repeat (first | with_reducible exact List.mem_cons_self | apply List.mem_cons_of_mem)); obtain ⟨⟨fB0, fB1, fB2⟩, -⟩ := RX.out.at (r := w3.heap.size) (a := .slice pB1 nB1 cB1) (b := .slice pB2 nB2 cB2) (c := .slice pB3 nB3 cB3) (by repeat (first | with_reducible exact List.mem_cons_self | apply List.mem_cons_of_mem)))
      refine hK.out _ _ (by (try dsimp only); first | with_reducible exact ⟨fR0, fR1, fR2, fA0, fA1, fA2, fB0, fB1, fB2⟩ | with_reducible exact ⟨gR0, gR1, gR2, gA0, gA1, gA2, gB0, gB1, gB2⟩) (fun hHeld => ?_)
      clear hK K
      try simp only [Act.put, List.getElem_toArray, List.getElem_cons_succ, List.getElem_cons_zero, List.setIfInBounds_toArray, List.set_cons_zero, List.set_cons_succ]
      refine wpAnyH_ready (rs := [12]) (by kernel_rfl) (by simp) ?_
      refine AllReadyH.cons rfl (fun K hK => ?_) AllReadyH.nil
      (obtain ⟨⟨o0, o1, o2⟩, g0, g1, g2⟩ := RX.out.at List.mem_cons_self)
      go_simp
      (clear o0 o1 o2 g0 g1 g2; replace RX := Lib.hid (RX.out.set3 (.slice pW1 nW1 cW1) (.slice pW2 nW2 cW2) (.slice pW3 nW3 cW3)); have RY := Lib.hid (RXP.out.box (.slice pW1 nW1 cW1) (.slice pW2 nW2 cW2) (.slice pW3 nW3 cW3) 28); clear fR0 fR1 fR2 fA0 fA1 fA2 fB0 fB1 fB2; obtain ⟨⟨fR0, fR1, fR2⟩, -⟩ := RX.out.at (r := w1.heap.size) (a := .int .i64 k) (b := .int .i64 p) (c := .int .i64 q) (by repeat (first | with_reducible exact List.mem_cons_self | apply List.mem_cons_of_mem)); obtain ⟨⟨fA0, fA1, fA2⟩, -⟩ := RX.out.at (r := w2.heap.size) (a := .slice pA1 nA1 cA1) (b := .slice pA2 nA2 cA2) (c := .slice pA3 nA3 cA3) (by repeat (first | with_reducible exact List.mem_cons_self | apply List.mem_cons_of_mem)); obtain ⟨⟨fB0, fB1, fB2⟩, -⟩ := RX.out.at (r := w3.heap.size) (a := .slice pB1 nB1 cB1) (b := .slice pB2 nB2 cB2) (c := .slice pB3 nB3 cB3) (by repeat (first | with_reducible exact List.mem_cons_self | apply List.mem_cons_of_mem)); obtain ⟨⟨gR0, gR1, gR2⟩, -⟩ := RY.out.at (r := w1.heap.size) (a := .int .i64 k) (b := .int .i64 p) (c := .int .i64 q) (by repeat (first | with_reducible exact List.mem_cons_self | apply List.mem_cons_of_mem)); obtain ⟨⟨gA0, gA1, gA2⟩, -⟩ := RY.out.at (r := w2.heap.size) (a := .slice pA1 nA1 cA1) (b := .slice pA2 nA2 cA2) (c := .slice pA3 nA3 cA3) (by repeat (first | with_reducible exact List.mem_cons_self | apply List.mem_cons_of_mem)); obtain ⟨⟨gB0, gB1, gB2⟩, -⟩ := RY.out.at (r := w3.heap.size) (a := .slice pB1 nB1 cB1) (b := .slice pB2 nB2 cB2) (c := .slice pB3 nB3 cB3) (by repeat (first | with_reducible exact List.mem_cons_self | apply List.mem_cons_of_mem)))
      refine hK.out _ _ (by (try dsimp only); first | with_reducible exact ⟨fR0, fR1, fR2, fA0, fA1, fA2, fB0, fB1, fB2⟩ | with_reducible exact ⟨gR0, gR1, gR2, gA0, gA1, gA2, gB0, gB1, gB2⟩) (fun hHeld => ?_)
      clear hK K
      try simp only [Act.put, List.getElem_toArray, List.getElem_cons_succ, List.getElem_cons_zero, List.setIfInBounds_toArray, List.set_cons_zero, List.set_cons_succ]
      refine wpAnyH_take (i := 13) (v := ?_) rfl (by kernel_rfl) (by kernel_rfl) (by kernel_rfl) (fun _ _ _ h => h) (Or.inl ⟨by rfl, ?_⟩) (by assumption) ?_
      rotate_left
      · intro w hSw; (try dsimp only at hSw); go_simp <;> with_reducible rfl
      try simp only [Act.put, List.getElem_toArray, List.getElem_cons_succ, List.getElem_cons_zero, List.setIfInBounds_toArray, List.set_cons_zero, List.set_cons_succ]
      refine wpAnyH_done (by kernel_rfl) ?_ _
    rotate_left 1
    focus
      go_simp
      (have RXP := RX; (first | (have _q := RA; replace RX := Lib.hid (RX.out.box nilV nilV nilV 28); clear _q) | (replace RX := Lib.hid (RXN.out.box nilV nilV nilV 28).drew)); clear fR0 fR1 fR2 fA0 fA1 fA2 fB0 fB1 fB2; obtain ⟨⟨fR0, fR1, fR2⟩, -⟩ := RX.out.at (r := w1.heap.size) (a := .int .i64 k) (b := .int .i64 p) (c := .int .i64 q) (by repeat (first | with_reducible exact List.mem_cons_self | apply List.mem_cons_of_mem)); obtain ⟨⟨fA0, fA1, fA2⟩, -⟩ := RX.out.at (r := w2.heap.size) (a := .slice pA1 nA1 cA1) (b := .slice pA2 nA2 cA2) (c := .slice pA3 nA3 cA3) (by repeat (first | with_reducible exact List.mem_cons_self | apply List.mem_cons_of_mem)); obtain ⟨⟨fB0, fB1, fB2⟩, -⟩ := RX.out.at (r := w3.heap.size) (a := .slice pB1 nB1 cB1) (b := .slice pB2 nB2 cB2) (c := .slice pB3 nB3 cB3) (by repeat (first | with_reducible exact List.mem_cons_self | apply List.mem_cons_of_mem)))
      refine hK.out _ _ (by (try dsimp only); first | with_reducible exact ⟨fR0, fR1, fR2, fA0, fA1, fA2, fB0, fB1, fB2⟩ | with_reducible exact ⟨gR0, gR1, gR2, gA0, gA1, gA2, gB0, gB1, gB2⟩) (fun hHeld => ?_)
      clear hK K
      try simp only [Act.put, List.getElem_toArray, List.getElem_cons_succ, List.getElem_cons_zero, List.setIfInBounds_toArray, List.set_cons_zero, List.set_cons_succ]
      refine wpAnyH_ready (rs := [7]) (by kernel_rfl) (by simp) ?_
      refine AllReadyH.cons rfl (fun K hK => ?_) AllReadyH.nil
      go_simp
      (go_at_call 38; refine (pair_six HW.out HS.out HB.out HWL.out HWD.out HWX.out ⟨RX.out.rd (v := .slice pS1 nS1 cS1) (xs := LS) (by repeat (first | with_reducible exact List.mem_cons_self | apply List.mem_cons_of_mem)), RX.out.rd (v := .slice pS2 nS2 cS2) (xs := DS) (by repeat (first | with_reducible exact List.mem_cons_self | apply List.mem_cons_of_mem)), RX.out.rd (v := .slice pS3 nS3 cS3) (xs := XS) (by repeat (first | with_reducible exact List.mem_cons_self | apply List.mem_cons_of_mem))⟩ ⟨RX.out.rd (v := .slice pB1 nB1 cB1) (xs := LB) (by repeat (first | with_reducible exact List.mem_cons_self | apply List.mem_cons_of_mem)), RX.out.rd (v := .slice pB2 nB2 cB2) (xs := DB) (by repeat (first | with_reducible exact List.mem_cons_self | apply List.mem_cons_of_mem)), RX.out.rd (v := .slice pB3 nB3 cB3) (xs := XB) (by repeat (first | with_reducible exact List.mem_cons_self | apply List.mem_cons_of_mem))⟩ (RX.out.rd (v := vk) (xs := keep) (by repeat (first | with_reducible exact List.mem_cons_self | apply List.mem_cons_of_mem))) (Nat.le_refl _) (Nat.le_refl _) (Nat.le_refl _) HKN.out).mono ?_; rintro e w14 ⟨pW1, nW1, cW1, pW2, nW2, cW2, pW3, nW3, cW3, rfl, ho, hb⟩; replace RX := Lib.hid (RX.out.new3 hb ho); clear ho hb; clear fR0 fR1 fR2 fA0 fA1 fA2 fB0 fB1 fB2; obtain ⟨⟨fR0, fR1, fR2⟩, -⟩ := RX.out.at (r := w1.heap.size) (a := .int .i64 k) (b := .int .i64 p) (c := .int .i64 q) (by repeat (first | with_reducible exact List.mem_cons_self | apply List.mem_cons_of_mem)); obtain ⟨⟨fA0, fA1, fA2⟩, -⟩ := RX.out.at (r := w2.heap.size) (a := .slice pA1 nA1 cA1) (b := .slice pA2 nA2 cA2) (c := .slice pA3 nA3 cA3) (by repeat (first | with_reducible exact List.mem_cons_self | apply List.mem_cons_of_mem)); obtain ⟨⟨fB0, fB1, fB2⟩, -⟩ := RX.out.at (r := w3.heap.size) (a := .slice pB1 nB1 cB1) (b := .slice pB2 nB2 cB2) (c := .slice pB3 nB3 cB3) (by repeat (first | with_reducible exact List.mem_cons_self | apply List.mem_cons_of_mem)))
      go_wp2_with fail
      refine hK.out _ _ (by (try dsimp only); first | with_reducible exact ⟨fR0, fR1, fR2, fA0, fA1, fA2, fB0, fB1, fB2⟩ | with_reducible exact ⟨gR0, gR1, gR2, gA0, gA1, gA2, gB0, gB1, gB2⟩) (fun hHeld => ?_)
      clear hK K
      try simp only [Act.put, List.getElem_toArray, List.getElem_cons_succ, List.getElem_cons_zero, List.setIfInBounds_toArray, List.set_cons_zero, List.set_cons_succ]
      refine wpAnyH_take (i := 8) (v := ?_) rfl (by kernel_rfl) (by kernel_rfl) (by kernel_rfl) (fun _ _ _ h => h) (Or.inl ⟨by rfl, ?_⟩) (by assumption) ?_
      rotate_left
      · intro w hSw; (try dsimp only at hSw); go_simp <;> with_reducible rfl
      try simp only [Act.put, List.getElem_toArray, List.getElem_cons_succ, List.getElem_cons_zero, List.setIfInBounds_toArray, List.set_cons_zero, List.set_cons_succ]
      refine wpAnyH_take (i := 9) (v := ?_) rfl (by kernel_rfl) (by kernel_rfl) (by kernel_rfl) (fun _ _ _ h => h) (Or.inl ⟨by rfl, ?_⟩) (by assumption) ?_
      rotate_left
      · intro w hSw; (try dsimp only at hSw); go_simp <;> with_reducible rfl
      try simp only [Act.put, List.getElem_toArray, List.getElem_cons_succ, List.getElem_cons_zero, List.setIfInBounds_toArray, List.set_cons_zero, List.set_cons_succ]
      refine wpAnyH_take (i := 10) (v := ?_) rfl (by kernel_rfl) (by kernel_rfl) (by kernel_rfl) (fun _ _ _ h => h) (Or.inl ⟨by rfl, ?_⟩) (by assumption) ?_
      rotate_left
      · intro w hSw; (try dsimp only at hSw); go_simp <;> with_reducible rfl
      try simp only [Act.put, List.getElem_toArray, List.getElem_cons_succ, List.getElem_cons_zero, List.setIfInBounds_toArray, List.set_cons_zero, List.set_cons_succ]
      refine wpAnyH_ready (rs := [12]) (by kernel_rfl) (by simp) ?_
      refine AllReadyH.cons rfl (fun K hK => ?_) AllReadyH.nil
      (obtain ⟨⟨o0, o1, o2⟩, g0, g1, g2⟩ := RX.out.at List.mem_cons_self)
      go_simp
      (clear o0 o1 o2 g0 g1 g2; replace RX := Lib.hid (RX.out.set3 (.slice pW1 nW1 cW1) (.slice pW2 nW2 cW2) (.slice pW3 nW3 cW3)); have RY := Lib.hid (RXP.out.box (.slice pW1 nW1 cW1) (.slice pW2 nW2 cW2) (.slice pW3 nW3 cW3) 28); clear fR0 fR1 fR2 fA0 fA1 fA2 fB0 fB1 fB2; obtain ⟨⟨fR0, fR1, fR2⟩, -⟩ := RX.out.at (r := w1.heap.size) (a := .int .i64 k) (b := .int .i64 p) (c := .int .i64 q) (by repeat (first | with_reducible exact List.mem_cons_self | apply List.mem_cons_of_mem)); obtain ⟨⟨fA0, fA1, fA2⟩, -⟩ := RX.out.at (r := w2.heap.size) (a := .slice pA1 nA1 cA1) (b := .slice pA2 nA2 cA2) (c := .slice pA3 nA3 cA3) (by repeat (first | with_reducible exact List.mem_cons_self | apply List.mem_cons_of_mem)); obtain ⟨⟨fB0, fB1, fB2⟩, -⟩ := RX.out.at (r := w3.heap.size) (a := .slice pB1 nB1 cB1) (b := .slice pB2 nB2 cB2) (c := .slice pB3 nB3 cB3) (by repeat (first | with_reducible exact List.mem_cons_self | apply List.mem_cons_of_mem)); obtain ⟨⟨gR0, gR1, gR2⟩, -⟩ := RY.out.at (r := w1.heap.size) (a := .int .i64 k) (b := .int .i64 p) (c := .int .i64 q) (by repeat (first | with_reducible exact List.mem_cons_self | apply List.mem_cons_of_mem)); obtain ⟨⟨gA0, gA1, gA2⟩, -⟩ := RY.out.at (r := w2.heap.size) (a := .slice pA1 nA1 cA1) (b := .slice pA2 nA2 cA2) (c := .slice pA3 nA3 cA3) (by repeat (first | with_reducible exact List.mem_cons_self | apply List.mem_cons_of_mem)); obtain ⟨⟨gB0, gB1, gB2⟩, -⟩ := RY.out.at (r := w3.heap.size) (a := .slice pB1 nB1 cB1) (b := .slice pB2 nB2 cB2) (c := .slice pB3 nB3 cB3) (by repeat (first | with_reducible exact List.mem_cons_self | apply List.mem_cons_of_mem)))
      refine hK.out _ _ (by (try dsimp only); first | with_reducible exact ⟨fR0, fR1, fR2, fA0, fA1, fA2, fB0, fB1, fB2⟩ | with_reducible exact ⟨gR0, gR1, gR2, gA0, gA1, gA2, gB0, gB1, gB2⟩) (fun hHeld => ?_)
      clear hK K
      try simp only [Act.put, List.getElem_toArray, List.getElem_cons_succ, List.getElem_cons_zero, List.setIfInBounds_toArray, List.set_cons_zero, List.set_cons_succ]
      refine wpAnyH_take (i := 13) (v := ?_) rfl (by kernel_rfl) (by kernel_rfl) (by kernel_rfl) (fun _ _ _ h => h) (Or.inl ⟨by rfl, ?_⟩) (by assumption) ?_
      rotate_left
      · intro w hSw; (try dsimp only at hSw); go_simp <;> with_reducible rfl
      try simp only [Act.put, List.getElem_toArray, List.getElem_cons_succ, List.getElem_cons_zero, List.setIfInBounds_toArray, List.set_cons_zero, List.set_cons_succ]
      refine wpAnyH_done (by kernel_rfl) ?_ _
    rotate_left 1
  rotate_left 2
  focus
    go_simp
    (have RXP := RX; (first | (have _q := RA; replace RX := Lib.hid (RX.out.box nilV nilV nilV 28); clear _q) | (replace RX := Lib.hid (RXN.out.box nilV nilV nilV 28).drew)); clear fR0 fR1 fR2 fA0 fA1 fA2 fB0 fB1 fB2; obtain ⟨⟨fR0, fR1, fR2⟩, -⟩ := RX.out.at (r := w1.heap.size) (a := .int .i64 k) (b := .int .i64 p) (c := .int .i64 q) (by repeat (first | with_reducible exact List.mem_cons_self | apply List.mem_cons_of_mem)); obtain ⟨⟨fA0, fA1, fA2⟩, -⟩ := RX.out.at (r := w2.heap.size) (a := .slice pA1 nA1 cA1) (b := .slice pA2 nA2 cA2) (c := .slice pA3 nA3 cA3) (by repeat (first | with_reducible exact List.mem_cons_self | apply List.mem_cons_of_mem)); obtain ⟨⟨fB0, fB1, fB2⟩, -⟩ := RX.out.at (r := w3.heap.size) (a := .slice pB1 nB1 cB1) (b := .slice pB2 nB2 cB2) (c := .slice pB3 nB3 cB3) (by repeat (first | with_reducible exact List.mem_cons_self | apply List.mem_cons_of_mem)))
    refine hK.out _ _ (by (try dsimp only); first | with_reducible exact ⟨fR0, fR1, fR2, fA0, fA1, fA2, fB0, fB1, fB2⟩ | with_reducible exact ⟨gR0, gR1, gR2, gA0, gA1, gA2, gB0, gB1, gB2⟩) (fun hHeld => ?_)
    clear hK K
    try simp only [Act.put, List.getElem_toArray, List.getElem_cons_succ, List.getElem_cons_zero, List.setIfInBounds_toArray, List.set_cons_zero, List.set_cons_succ]
    refine wpAnyH_ready (rs := [4]) (by kernel_rfl) (by simp) ?_
    refine AllReadyH.cons rfl (fun K hK => ?_) AllReadyH.nil
    go_simp
    (go_at_call 42; refine (sum_six HA.out HSL.out HSD.out HSX.out ⟨RX.out.rd (v := .slice pA1 nA1 cA1) (xs := LA) (by repeat (first | with_reducible exact List.mem_cons_self | apply List.mem_cons_of_mem)), RX.out.rd (v := .slice pA2 nA2 cA2) (xs := DA) (by repeat (first | with_reducible exact List.mem_cons_self | apply List.mem_cons_of_mem)), RX.out.rd (v := .slice pA3 nA3 cA3) (xs := XA) (by repeat (first | with_reducible exact List.mem_cons_self | apply List.mem_cons_of_mem))⟩ (RX.out.rd (v := vk) (xs := keep) (by repeat (first | with_reducible exact List.mem_cons_self | apply List.mem_cons_of_mem))) (Nat.le_refl _) (Nat.le_refl _) HKN.out).mono ?_; rintro e w13 ⟨pS1, nS1, cS1, pS2, nS2, cS2, pS3, nS3, cS3, rfl, ho, hb⟩; have RA := RX; replace RX := Lib.hid (RX.out.new3 hb ho); clear ho hb; clear fR0 fR1 fR2 fA0 fA1 fA2 fB0 fB1 fB2; obtain ⟨⟨fR0, fR1, fR2⟩, -⟩ := RX.out.at (r := w1.heap.size) (a := .int .i64 k) (b := .int .i64 p) (c := .int .i64 q) (by repeat (first | with_reducible exact List.mem_cons_self | apply List.mem_cons_of_mem)); obtain ⟨⟨fA0, fA1, fA2⟩, -⟩ := RX.out.at (r := w2.heap.size) (a := .slice pA1 nA1 cA1) (b := .slice pA2 nA2 cA2) (c := .slice pA3 nA3 cA3) (by repeat (first | with_reducible exact List.mem_cons_self | apply List.mem_cons_of_mem)); obtain ⟨⟨fB0, fB1, fB2⟩, -⟩ := RX.out.at (r := w3.heap.size) (a := .slice pB1 nB1 cB1) (b := .slice pB2 nB2 cB2) (c := .slice pB3 nB3 cB3) (by repeat (first | with_reducible exact List.mem_cons_self | apply List.mem_cons_of_mem)))
    go_wp2_with fail
    refine hK.out _ _ (by (try dsimp only); first | with_reducible exact ⟨fR0, fR1, fR2, fA0, fA1, fA2, fB0, fB1, fB2⟩ | with_reducible exact ⟨gR0, gR1, gR2, gA0, gA1, gA2, gB0, gB1, gB2⟩) (fun hHeld => ?_)
    clear hK K
    try simp only [Act.put, List.getElem_toArray, List.getElem_cons_succ, List.getElem_cons_zero, List.setIfInBounds_toArray, List.set_cons_zero, List.set_cons_succ]
    refine wpAnyH_ready (rs := [7]) (by kernel_rfl) (by simp) ?_
    refine AllReadyH.cons rfl (fun K hK => ?_) AllReadyH.nil
    go_simp
    (go_at_call 38; refine (pair_six HW.out HS.out HB.out HWL.out HWD.out HWX.out ⟨RX.out.rd (v := .slice pS1 nS1 cS1) (xs := LS) (by repeat (first | with_reducible exact List.mem_cons_self | apply List.mem_cons_of_mem)), RX.out.rd (v := .slice pS2 nS2 cS2) (xs := DS) (by repeat (first | with_reducible exact List.mem_cons_self | apply List.mem_cons_of_mem)), RX.out.rd (v := .slice pS3 nS3 cS3) (xs := XS) (by repeat (first | with_reducible exact List.mem_cons_self | apply List.mem_cons_of_mem))⟩ ⟨RX.out.rd (v := .slice pB1 nB1 cB1) (xs := LB) (by repeat (first | with_reducible exact List.mem_cons_self | apply List.mem_cons_of_mem)), RX.out.rd (v := .slice pB2 nB2 cB2) (xs := DB) (by repeat (first | with_reducible exact List.mem_cons_self | apply List.mem_cons_of_mem)), RX.out.rd (v := .slice pB3 nB3 cB3) (xs := XB) (by repeat (first | with_reducible exact List.mem_cons_self | apply List.mem_cons_of_mem))⟩ (RX.out.rd (v := vk) (xs := keep) (by repeat (first | with_reducible exact List.mem_cons_self | apply List.mem_cons_of_mem))) (Nat.le_refl _) (Nat.le_refl _) (Nat.le_refl _) HKN.out).mono ?_; rintro e w14 ⟨pW1, nW1, cW1, pW2, nW2, cW2, pW3, nW3, cW3, rfl, ho, hb⟩; replace RX := Lib.hid (RX.out.new3 hb ho); clear ho hb; clear fR0 fR1 fR2 fA0 fA1 fA2 fB0 fB1 fB2; obtain ⟨⟨fR0, fR1, fR2⟩, -⟩ := RX.out.at (r := w1.heap.size) (a := .int .i64 k) (b := .int .i64 p) (c := .int .i64 q) (by repeat (first | with_reducible exact List.mem_cons_self | apply List.mem_cons_of_mem)); obtain ⟨⟨fA0, fA1, fA2⟩, -⟩ := RX.out.at (r := w2.heap.size) (a := .slice pA1 nA1 cA1) (b := .slice pA2 nA2 cA2) (c := .slice pA3 nA3 cA3) (by repeat (first | with_reducible exact List.mem_cons_self | apply List.mem_cons_of_mem)); obtain ⟨⟨fB0, fB1, fB2⟩, -⟩ := RX.out.at (r := w3.heap.size) (a := .slice pB1 nB1 cB1) (b := .slice pB2 nB2 cB2) (c := .slice pB3 nB3 cB3) (by repeat (first | with_reducible exact List.mem_cons_self | apply List.mem_cons_of_mem)))
    go_wp2_with fail
    refine hK.out _ _ (by (try dsimp only); first | with_reducible exact ⟨fR0, fR1, fR2, fA0, fA1, fA2, fB0, fB1, fB2⟩ | with_reducible exact ⟨gR0, gR1, gR2, gA0, gA1, gA2, gB0, gB1, gB2⟩) (fun hHeld => ?_)
    clear hK K
    try simp only [Act.put, List.getElem_toArray, List.getElem_cons_succ, List.getElem_cons_zero, List.setIfInBounds_toArray, List.set_cons_zero, List.set_cons_succ]
    refine wpAnyH_take (i := 8) (v := ?_) rfl (by kernel_rfl) (by kernel_rfl) (by kernel_rfl) (fun _ _ _ h => h) (Or.inl ⟨by rfl, ?_⟩) (by assumption) ?_
    rotate_left
    · intro w hSw; (try dsimp only at hSw); go_simp <;> with_reducible rfl
    try simp only [Act.put, List.getElem_toArray, List.getElem_cons_succ, List.getElem_cons_zero, List.setIfInBounds_toArray, List.set_cons_zero, List.set_cons_succ]
    refine wpAnyH_take (i := 9) (v := ?_) rfl (by kernel_rfl) (by kernel_rfl) (by kernel_rfl) (fun _ _ _ h => h) (Or.inl ⟨by rfl, ?_⟩) (by assumption) ?_
    rotate_left
    · intro w hSw; (try dsimp only at hSw); go_simp <;> with_reducible rfl
    try simp only [Act.put, List.getElem_toArray, List.getElem_cons_succ, List.getElem_cons_zero, List.setIfInBounds_toArray, List.set_cons_zero, List.set_cons_succ]
    refine wpAnyH_take (i := 10) (v := ?_) rfl (by kernel_rfl) (by kernel_rfl) (by kernel_rfl) (fun _ _ _ h => h) (Or.inl ⟨by rfl, ?_⟩) (by assumption) ?_
    rotate_left
    · intro w hSw; (try dsimp only at hSw); go_simp <;> with_reducible rfl
    try simp only [Act.put, List.getElem_toArray, List.getElem_cons_succ, List.getElem_cons_zero, List.setIfInBounds_toArray, List.set_cons_zero, List.set_cons_succ]
    refine wpAnyH_ready (rs := [12]) (by kernel_rfl) (by simp) ?_
    refine AllReadyH.cons rfl (fun K hK => ?_) AllReadyH.nil
    (obtain ⟨⟨o0, o1, o2⟩, g0, g1, g2⟩ := RX.out.at List.mem_cons_self)
    go_simp
    (clear o0 o1 o2 g0 g1 g2; replace RX := Lib.hid (RX.out.set3 (.slice pW1 nW1 cW1) (.slice pW2 nW2 cW2) (.slice pW3 nW3 cW3)); have RY := Lib.hid (RXP.out.box (.slice pW1 nW1 cW1) (.slice pW2 nW2 cW2) (.slice pW3 nW3 cW3) 28); clear fR0 fR1 fR2 fA0 fA1 fA2 fB0 fB1 fB2; obtain ⟨⟨fR0, fR1, fR2⟩, -⟩ := RX.out.at (r := w1.heap.size) (a := .int .i64 k) (b := .int .i64 p) (c := .int .i64 q) (by repeat (first | with_reducible exact List.mem_cons_self | apply List.mem_cons_of_mem)); obtain ⟨⟨fA0, fA1, fA2⟩, -⟩ := RX.out.at (r := w2.heap.size) (a := .slice pA1 nA1 cA1) (b := .slice pA2 nA2 cA2) (c := .slice pA3 nA3 cA3) (by repeat (first | with_reducible exact List.mem_cons_self | apply List.mem_cons_of_mem)); obtain ⟨⟨fB0, fB1, fB2⟩, -⟩ := RX.out.at (r := w3.heap.size) (a := .slice pB1 nB1 cB1) (b := .slice pB2 nB2 cB2) (c := .slice pB3 nB3 cB3) (by repeat (first | with_reducible exact List.mem_cons_self | apply List.mem_cons_of_mem)); obtain ⟨⟨gR0, gR1, gR2⟩, -⟩ := RY.out.at (r := w1.heap.size) (a := .int .i64 k) (b := .int .i64 p) (c := .int .i64 q) (by repeat (first | with_reducible exact List.mem_cons_self | apply List.mem_cons_of_mem)); obtain ⟨⟨gA0, gA1, gA2⟩, -⟩ := RY.out.at (r := w2.heap.size) (a := .slice pA1 nA1 cA1) (b := .slice pA2 nA2 cA2) (c := .slice pA3 nA3 cA3) (by repeat (first | with_reducible exact List.mem_cons_self | apply List.mem_cons_of_mem)); obtain ⟨⟨gB0, gB1, gB2⟩, -⟩ := RY.out.at (r := w3.heap.size) (a := .slice pB1 nB1 cB1) (b := .slice pB2 nB2 cB2) (c := .slice pB3 nB3 cB3) (by repeat (first | with_reducible exact List.mem_cons_self | apply List.mem_cons_of_mem)))
    refine hK.out _ _ (by (try dsimp only); first | with_reducible exact ⟨fR0, fR1, fR2, fA0, fA1, fA2, fB0, fB1, fB2⟩ | with_reducible exact ⟨gR0, gR1, gR2, gA0, gA1, gA2, gB0, gB1, gB2⟩) (fun hHeld => ?_)
    clear hK K
    try simp only [Act.put, List.getElem_toArray, List.getElem_cons_succ, List.getElem_cons_zero, List.setIfInBounds_toArray, List.set_cons_zero, List.set_cons_succ]
    refine wpAnyH_take (i := 13) (v := ?_) rfl (by kernel_rfl) (by kernel_rfl) (by kernel_rfl) (fun _ _ _ h => h) (Or.inl ⟨by rfl, ?_⟩) (by assumption) ?_
    rotate_left
    · intro w hSw; (try dsimp only at hSw); go_simp <;> with_reducible rfl
    try simp only [Act.put, List.getElem_toArray, List.getElem_cons_succ, List.getElem_cons_zero, List.setIfInBounds_toArray, List.set_cons_zero, List.set_cons_succ]
    refine wpAnyH_done (by kernel_rfl) ?_ _
  rotate_left 1
  · have RZ := RY
    clear RX RY RXP RXN fR0 fR1 fR2 fA0 fA1 fA2 fB0 fB1 fB2 gR0 gR1 gR2 gA0 gA1 gA2 gB0 gB1 gB2
    generalize w14.alloc (.cells #[.slice pW1 nW1 cW1, .slice pW2 nW2 cW2, .slice pW3 nW3 cW3] 28) = V2 at RZ ⊢
    generalize w14.heap.size = rW at RZ ⊢
    have RX := Lib.hid RZ.out.drew
    clear RZ
    obtain ⟨⟨fR0, fR1, fR2⟩, -⟩ := RX.out.at (r := w1.heap.size) (a := .int .i64 k) (b := .int .i64 p) (c := .int .i64 q) (by repeat (first | with_reducible exact List.mem_cons_self | apply List.mem_cons_of_mem)); obtain ⟨⟨fP0, fP1, fP2⟩, -⟩ := RX.out.at (r := w5.heap.size) (a := .slice pP1 nP1 cP1) (b := .slice pP2 nP2 cP2) (c := .slice pP3 nP3 cP3) (by repeat (first | with_reducible exact List.mem_cons_self | apply List.mem_cons_of_mem)); obtain ⟨⟨fZ0, fZ1, fZ2⟩, -⟩ := RX.out.at (r := w12.heap.size) (a := .slice pZ1 nZ1 cZ1) (b := .slice pZ2 nZ2 cZ2) (c := .slice pZ3 nZ3 cZ3) (by repeat (first | with_reducible exact List.mem_cons_self | apply List.mem_cons_of_mem)); obtain ⟨⟨fW0, fW1, fW2⟩, -⟩ := RX.out.at (r := rW) (a := .slice pW1 nW1 cW1) (b := .slice pW2 nW2 cW2) (c := .slice pW3 nW3 cW3) (by repeat (first | with_reducible exact List.mem_cons_self | apply List.mem_cons_of_mem))
    go_wp2_with fail
    refine wp_region_held_drew (S := (fun w' => w'.cell? ⟨w1.heap.size, 0, none⟩ = some (.int .i64 k) ∧ w'.cell? ⟨w1.heap.size, 1, none⟩ = some (.int .i64 p) ∧ w'.cell? ⟨w1.heap.size, 2, none⟩ = some (.int .i64 q) ∧ w'.cell? ⟨w5.heap.size, 0, none⟩ = some (.slice pP1 nP1 cP1) ∧ w'.cell? ⟨w5.heap.size, 1, none⟩ = some (.slice pP2 nP2 cP2) ∧ w'.cell? ⟨w5.heap.size, 2, none⟩ = some (.slice pP3 nP3 cP3) ∧ w'.cell? ⟨w12.heap.size, 0, none⟩ = some (.slice pZ1 nZ1 cZ1) ∧ w'.cell? ⟨w12.heap.size, 1, none⟩ = some (.slice pZ2 nZ2 cZ2) ∧ w'.cell? ⟨w12.heap.size, 2, none⟩ = some (.slice pZ3 nZ3 cZ3) ∧ w'.cell? ⟨rW, 0, none⟩ = some (.slice pW1 nW1 cW1) ∧ w'.cell? ⟨rW, 1, none⟩ = some (.slice pW2 nW2 cW2) ∧ w'.cell? ⟨rW, 2, none⟩ = some (.slice pW3 nW3 cW3))) (by kernel_rfl) (by (try dsimp only); exact ⟨fR0, fR1, fR2, fP0, fP1, fP2, fZ0, fZ1, fZ2, fW0, fW1, fW2⟩) (fun hHeld => ?_)
    refine wpAnyH_take (i := 0) (v := ?_) rfl (by kernel_rfl) (by kernel_rfl) (by kernel_rfl) (fun _ _ _ h => h) (Or.inl ⟨by rfl, ?_⟩) (by assumption) ?_
    rotate_left
    · intro w hSw; (try dsimp only at hSw); go_simp <;> with_reducible rfl
    try simp only [Act.put, List.getElem_toArray, List.getElem_cons_zero, List.setIfInBounds_toArray, List.set_cons_zero, List.set_cons_succ]
    refine wpAnyH_take (i := 1) (v := ?_) rfl (by kernel_rfl) (by kernel_rfl) (by kernel_rfl) (fun _ _ _ h => h) (Or.inl ⟨by rfl, ?_⟩) (by assumption) ?_
    rotate_left
    · intro w hSw; (try dsimp only at hSw); go_simp <;> with_reducible rfl
    try simp only [Act.put, List.getElem_toArray, List.getElem_cons_succ, List.getElem_cons_zero, List.setIfInBounds_toArray, List.set_cons_zero, List.set_cons_succ]
    refine wpAnyH_take (i := 2) (v := ?_) rfl (by kernel_rfl) (by kernel_rfl) (by kernel_rfl) (fun _ _ _ h => h) (Or.inl ⟨by rfl, ?_⟩) (by assumption) ?_
    rotate_left
    · intro w hSw; (try dsimp only at hSw); go_simp <;> with_reducible rfl
    try simp only [Act.put, List.getElem_toArray, List.getElem_cons_succ, List.getElem_cons_zero, List.setIfInBounds_toArray, List.set_cons_zero, List.set_cons_succ]
    refine wpAnyH_take (i := 3) (v := ?_) rfl (by kernel_rfl) (by kernel_rfl) (by kernel_rfl) (fun _ _ _ h => h) (Or.inl ⟨by rfl, ?_⟩) (by assumption) ?_
    rotate_left
    · intro w hSw; (try dsimp only at hSw); go_simp <;> with_reducible rfl
    try simp only [Act.put, List.getElem_toArray, List.getElem_cons_succ, List.getElem_cons_zero, List.setIfInBounds_toArray, List.set_cons_zero, List.set_cons_succ]
    refine wpAnyH_take (i := 4) (v := ?_) rfl (by kernel_rfl) (by kernel_rfl) (by kernel_rfl) (fun _ _ _ h => h) (Or.inl ⟨by rfl, ?_⟩) (by assumption) ?_
    rotate_left
    · intro w hSw; (try dsimp only at hSw); go_simp <;> with_reducible rfl
    try simp only [Act.put, List.getElem_toArray, List.getElem_cons_succ, List.getElem_cons_zero, List.setIfInBounds_toArray, List.set_cons_zero, List.set_cons_succ]
    refine wpAnyH_take (i := 5) (v := ?_) rfl (by kernel_rfl) (by kernel_rfl) (by kernel_rfl) (fun _ _ _ h => h) (Or.inl ⟨by rfl, ?_⟩) (by assumption) ?_
    rotate_left
    · intro w hSw; (try dsimp only at hSw); go_simp <;> with_reducible rfl
    try simp only [Act.put, List.getElem_toArray, List.getElem_cons_succ, List.getElem_cons_zero, List.setIfInBounds_toArray, List.set_cons_zero, List.set_cons_succ]
    refine wpAnyH_take (i := 6) (v := ?_) rfl (by kernel_rfl) (by kernel_rfl) (by kernel_rfl) (fun _ _ _ h => h) (Or.inl ⟨by rfl, ?_⟩) (by assumption) ?_
    rotate_left
    · intro w hSw; (try dsimp only at hSw); go_simp <;> with_reducible rfl
    try simp only [Act.put, List.getElem_toArray, List.getElem_cons_succ, List.getElem_cons_zero, List.setIfInBounds_toArray, List.set_cons_zero, List.set_cons_succ]
    refine wpAnyH_ready (rs := [7]) (by kernel_rfl) (by simp) ?_
    refine AllReadyH.cons rfl (fun K hK => ?_) AllReadyH.nil
    go_simp
    (go_at_call 43; (first | (refine (same_yes ⟨RX.out.rd (v := .slice pT1 nT1 cT1) (xs := LZ) (by repeat (first | with_reducible exact List.mem_cons_self | apply List.mem_cons_of_mem)), RX.out.rd (v := .slice pT2 nT2 cT2) (xs := DZ) (by repeat (first | with_reducible exact List.mem_cons_self | apply List.mem_cons_of_mem)), RX.out.rd (v := .slice pT3 nT3 cT3) (xs := XZ) (by repeat (first | with_reducible exact List.mem_cons_self | apply List.mem_cons_of_mem))⟩ ⟨RX.out.rd (v := .slice pZ1 nZ1 cZ1) (xs := LZ) (by repeat (first | with_reducible exact List.mem_cons_self | apply List.mem_cons_of_mem)), RX.out.rd (v := .slice pZ2 nZ2 cZ2) (xs := DZ) (by repeat (first | with_reducible exact List.mem_cons_self | apply List.mem_cons_of_mem)), RX.out.rd (v := .slice pZ3 nZ3 cZ3) (xs := XZ) (by repeat (first | with_reducible exact List.mem_cons_self | apply List.mem_cons_of_mem))⟩ (Nat.le_refl _) (Nat.le_refl _) HZ.out.len).mono ?_) | (refine (same_yes ⟨RX.out.rd (v := .slice pZ1 nZ1 cZ1) (xs := LZ) (by repeat (first | with_reducible exact List.mem_cons_self | apply List.mem_cons_of_mem)), RX.out.rd (v := .slice pZ2 nZ2 cZ2) (xs := DZ) (by repeat (first | with_reducible exact List.mem_cons_self | apply List.mem_cons_of_mem)), RX.out.rd (v := .slice pZ3 nZ3 cZ3) (xs := XZ) (by repeat (first | with_reducible exact List.mem_cons_self | apply List.mem_cons_of_mem))⟩ ⟨RX.out.rd (v := .slice pW1 nW1 cW1) (xs := LZ) (by repeat (first | with_reducible exact List.mem_cons_self | apply List.mem_cons_of_mem)), RX.out.rd (v := .slice pW2 nW2 cW2) (xs := DZ) (by repeat (first | with_reducible exact List.mem_cons_self | apply List.mem_cons_of_mem)), RX.out.rd (v := .slice pW3 nW3 cW3) (xs := XZ) (by repeat (first | with_reducible exact List.mem_cons_self | apply List.mem_cons_of_mem))⟩ (Nat.le_refl _) (Nat.le_refl _) HZ.out.len).mono ?_)); rintro e w16 ⟨rfl, hb⟩; replace RX := Lib.hid (RX.out.step hb); clear hb; clear fR0 fR1 fR2 fP0 fP1 fP2 fZ0 fZ1 fZ2 fW0 fW1 fW2; obtain ⟨⟨fR0, fR1, fR2⟩, -⟩ := RX.out.at (r := w1.heap.size) (a := .int .i64 k) (b := .int .i64 p) (c := .int .i64 q) (by repeat (first | with_reducible exact List.mem_cons_self | apply List.mem_cons_of_mem)); obtain ⟨⟨fP0, fP1, fP2⟩, -⟩ := RX.out.at (r := w5.heap.size) (a := .slice pP1 nP1 cP1) (b := .slice pP2 nP2 cP2) (c := .slice pP3 nP3 cP3) (by repeat (first | with_reducible exact List.mem_cons_self | apply List.mem_cons_of_mem)); obtain ⟨⟨fZ0, fZ1, fZ2⟩, -⟩ := RX.out.at (r := w12.heap.size) (a := .slice pZ1 nZ1 cZ1) (b := .slice pZ2 nZ2 cZ2) (c := .slice pZ3 nZ3 cZ3) (by repeat (first | with_reducible exact List.mem_cons_self | apply List.mem_cons_of_mem)); obtain ⟨⟨fW0, fW1, fW2⟩, -⟩ := RX.out.at (r := rW) (a := .slice pW1 nW1 cW1) (b := .slice pW2 nW2 cW2) (c := .slice pW3 nW3 cW3) (by repeat (first | with_reducible exact List.mem_cons_self | apply List.mem_cons_of_mem)))
    go_wp2_with fail
    refine hK.out _ _ (by (try dsimp only); exact ⟨fR0, fR1, fR2, fP0, fP1, fP2, fZ0, fZ1, fZ2, fW0, fW1, fW2⟩) (fun hHeld => ?_)
    clear hK K
    try simp only [Act.put, List.getElem_toArray, List.getElem_cons_succ, List.getElem_cons_zero, List.setIfInBounds_toArray, List.set_cons_zero, List.set_cons_succ]
    refine wpAnyH_take (i := 8) (v := ?_) rfl (by kernel_rfl) (by kernel_rfl) (by kernel_rfl) (fun _ _ _ h => h) (Or.inl ⟨by rfl, ?_⟩) (by assumption) ?_
    rotate_left
    · intro w hSw; (try dsimp only at hSw); go_simp <;> with_reducible rfl
    try simp only [Act.put, List.getElem_toArray, List.getElem_cons_succ, List.getElem_cons_zero, List.setIfInBounds_toArray, List.set_cons_zero, List.set_cons_succ]
    refine wpAnyH_take (i := 9) (v := ?_) rfl (by kernel_rfl) (by kernel_rfl) (by kernel_rfl) (fun _ _ _ h => h) (Or.inl ⟨by rfl, ?_⟩) (by assumption) ?_
    rotate_left
    · intro w hSw; (try dsimp only at hSw); go_simp <;> with_reducible rfl
    try simp only [Act.put, List.getElem_toArray, List.getElem_cons_succ, List.getElem_cons_zero, List.setIfInBounds_toArray, List.set_cons_zero, List.set_cons_succ]
    refine wpAnyH_take (i := 10) (v := ?_) rfl (by kernel_rfl) (by kernel_rfl) (by kernel_rfl) (fun _ _ _ h => h) (Or.inl ⟨by rfl, ?_⟩) (by assumption) ?_
    rotate_left
    · intro w hSw; (try dsimp only at hSw); go_simp <;> with_reducible rfl
    try simp only [Act.put, List.getElem_toArray, List.getElem_cons_succ, List.getElem_cons_zero, List.setIfInBounds_toArray, List.set_cons_zero, List.set_cons_succ]
    refine wpAnyH_take (i := 11) (v := ?_) rfl (by kernel_rfl) (by kernel_rfl) (by kernel_rfl) (fun _ _ _ h => h) (Or.inl ⟨by rfl, ?_⟩) (by assumption) ?_
    rotate_left
    · intro w hSw; (try dsimp only at hSw); go_simp <;> with_reducible rfl
    try simp only [Act.put, List.getElem_toArray, List.getElem_cons_succ, List.getElem_cons_zero, List.setIfInBounds_toArray, List.set_cons_zero, List.set_cons_succ]
    refine wpAnyH_take (i := 12) (v := ?_) rfl (by kernel_rfl) (by kernel_rfl) (by kernel_rfl) (fun _ _ _ h => h) (Or.inl ⟨by rfl, ?_⟩) (by assumption) ?_
    rotate_left
    · intro w hSw; (try dsimp only at hSw); go_simp <;> with_reducible rfl
    try simp only [Act.put, List.getElem_toArray, List.getElem_cons_succ, List.getElem_cons_zero, List.setIfInBounds_toArray, List.set_cons_zero, List.set_cons_succ]
    refine wpAnyH_take (i := 14) (v := ?_) rfl (by kernel_rfl) (by kernel_rfl) (by kernel_rfl) (fun _ _ _ h => h) (Or.inl ⟨by rfl, ?_⟩) (by assumption) ?_
    rotate_left
    · intro w hSw; (try dsimp only at hSw); go_simp <;> with_reducible rfl
    try simp only [Act.put, List.getElem_toArray, List.getElem_cons_succ, List.getElem_cons_zero, List.setIfInBounds_toArray, List.set_cons_zero, List.set_cons_succ]
    refine wpAnyH_ready (rs := [13]) (by kernel_rfl) (by simp) ?_
    refine AllReadyH.cons rfl (fun K hK => ?_) AllReadyH.nil
    go_simp
    (go_at_call 42; refine (sum_six HP.out HTL.out HTD.out HTX.out ⟨RX.out.rd (v := .slice pP1 nP1 cP1) (xs := LP) (by repeat (first | with_reducible exact List.mem_cons_self | apply List.mem_cons_of_mem)), RX.out.rd (v := .slice pP2 nP2 cP2) (xs := DP) (by repeat (first | with_reducible exact List.mem_cons_self | apply List.mem_cons_of_mem)), RX.out.rd (v := .slice pP3 nP3 cP3) (xs := XP) (by repeat (first | with_reducible exact List.mem_cons_self | apply List.mem_cons_of_mem))⟩ (RX.out.rd (v := vk) (xs := keep) (by repeat (first | with_reducible exact List.mem_cons_self | apply List.mem_cons_of_mem))) (Nat.le_refl _) (Nat.le_refl _) HKN.out).mono ?_; rintro e w15 ⟨pT1, nT1, cT1, pT2, nT2, cT2, pT3, nT3, cT3, rfl, ho, hb⟩; replace RX := Lib.hid (RX.out.new3 hb ho); clear ho hb; clear fR0 fR1 fR2 fP0 fP1 fP2 fZ0 fZ1 fZ2 fW0 fW1 fW2; obtain ⟨⟨fR0, fR1, fR2⟩, -⟩ := RX.out.at (r := w1.heap.size) (a := .int .i64 k) (b := .int .i64 p) (c := .int .i64 q) (by repeat (first | with_reducible exact List.mem_cons_self | apply List.mem_cons_of_mem)); obtain ⟨⟨fP0, fP1, fP2⟩, -⟩ := RX.out.at (r := w5.heap.size) (a := .slice pP1 nP1 cP1) (b := .slice pP2 nP2 cP2) (c := .slice pP3 nP3 cP3) (by repeat (first | with_reducible exact List.mem_cons_self | apply List.mem_cons_of_mem)); obtain ⟨⟨fZ0, fZ1, fZ2⟩, -⟩ := RX.out.at (r := w12.heap.size) (a := .slice pZ1 nZ1 cZ1) (b := .slice pZ2 nZ2 cZ2) (c := .slice pZ3 nZ3 cZ3) (by repeat (first | with_reducible exact List.mem_cons_self | apply List.mem_cons_of_mem)); obtain ⟨⟨fW0, fW1, fW2⟩, -⟩ := RX.out.at (r := rW) (a := .slice pW1 nW1 cW1) (b := .slice pW2 nW2 cW2) (c := .slice pW3 nW3 cW3) (by repeat (first | with_reducible exact List.mem_cons_self | apply List.mem_cons_of_mem)))
    go_wp2_with fail
    refine hK.out _ _ (by (try dsimp only); exact ⟨fR0, fR1, fR2, fP0, fP1, fP2, fZ0, fZ1, fZ2, fW0, fW1, fW2⟩) (fun hHeld => ?_)
    clear hK K
    try simp only [Act.put, List.getElem_toArray, List.getElem_cons_succ, List.getElem_cons_zero, List.setIfInBounds_toArray, List.set_cons_zero, List.set_cons_succ]
    refine wpAnyH_ready (rs := [15]) (by kernel_rfl) (by simp) ?_
    refine AllReadyH.cons rfl (fun K hK => ?_) AllReadyH.nil
    go_simp
    (go_at_call 43; (first | (refine (same_yes ⟨RX.out.rd (v := .slice pT1 nT1 cT1) (xs := LZ) (by repeat (first | with_reducible exact List.mem_cons_self | apply List.mem_cons_of_mem)), RX.out.rd (v := .slice pT2 nT2 cT2) (xs := DZ) (by repeat (first | with_reducible exact List.mem_cons_self | apply List.mem_cons_of_mem)), RX.out.rd (v := .slice pT3 nT3 cT3) (xs := XZ) (by repeat (first | with_reducible exact List.mem_cons_self | apply List.mem_cons_of_mem))⟩ ⟨RX.out.rd (v := .slice pZ1 nZ1 cZ1) (xs := LZ) (by repeat (first | with_reducible exact List.mem_cons_self | apply List.mem_cons_of_mem)), RX.out.rd (v := .slice pZ2 nZ2 cZ2) (xs := DZ) (by repeat (first | with_reducible exact List.mem_cons_self | apply List.mem_cons_of_mem)), RX.out.rd (v := .slice pZ3 nZ3 cZ3) (xs := XZ) (by repeat (first | with_reducible exact List.mem_cons_self | apply List.mem_cons_of_mem))⟩ (Nat.le_refl _) (Nat.le_refl _) HZ.out.len).mono ?_) | (refine (same_yes ⟨RX.out.rd (v := .slice pZ1 nZ1 cZ1) (xs := LZ) (by repeat (first | with_reducible exact List.mem_cons_self | apply List.mem_cons_of_mem)), RX.out.rd (v := .slice pZ2 nZ2 cZ2) (xs := DZ) (by repeat (first | with_reducible exact List.mem_cons_self | apply List.mem_cons_of_mem)), RX.out.rd (v := .slice pZ3 nZ3 cZ3) (xs := XZ) (by repeat (first | with_reducible exact List.mem_cons_self | apply List.mem_cons_of_mem))⟩ ⟨RX.out.rd (v := .slice pW1 nW1 cW1) (xs := LZ) (by repeat (first | with_reducible exact List.mem_cons_self | apply List.mem_cons_of_mem)), RX.out.rd (v := .slice pW2 nW2 cW2) (xs := DZ) (by repeat (first | with_reducible exact List.mem_cons_self | apply List.mem_cons_of_mem)), RX.out.rd (v := .slice pW3 nW3 cW3) (xs := XZ) (by repeat (first | with_reducible exact List.mem_cons_self | apply List.mem_cons_of_mem))⟩ (Nat.le_refl _) (Nat.le_refl _) HZ.out.len).mono ?_)); rintro e w16 ⟨rfl, hb⟩; replace RX := Lib.hid (RX.out.step hb); clear hb; clear fR0 fR1 fR2 fP0 fP1 fP2 fZ0 fZ1 fZ2 fW0 fW1 fW2; obtain ⟨⟨fR0, fR1, fR2⟩, -⟩ := RX.out.at (r := w1.heap.size) (a := .int .i64 k) (b := .int .i64 p) (c := .int .i64 q) (by repeat (first | with_reducible exact List.mem_cons_self | apply List.mem_cons_of_mem)); obtain ⟨⟨fP0, fP1, fP2⟩, -⟩ := RX.out.at (r := w5.heap.size) (a := .slice pP1 nP1 cP1) (b := .slice pP2 nP2 cP2) (c := .slice pP3 nP3 cP3) (by repeat (first | with_reducible exact List.mem_cons_self | apply List.mem_cons_of_mem)); obtain ⟨⟨fZ0, fZ1, fZ2⟩, -⟩ := RX.out.at (r := w12.heap.size) (a := .slice pZ1 nZ1 cZ1) (b := .slice pZ2 nZ2 cZ2) (c := .slice pZ3 nZ3 cZ3) (by repeat (first | with_reducible exact List.mem_cons_self | apply List.mem_cons_of_mem)); obtain ⟨⟨fW0, fW1, fW2⟩, -⟩ := RX.out.at (r := rW) (a := .slice pW1 nW1 cW1) (b := .slice pW2 nW2 cW2) (c := .slice pW3 nW3 cW3) (by repeat (first | with_reducible exact List.mem_cons_self | apply List.mem_cons_of_mem)))
    go_wp2_with fail
    refine hK.out _ _ (by (try dsimp only); exact ⟨fR0, fR1, fR2, fP0, fP1, fP2, fZ0, fZ1, fZ2, fW0, fW1, fW2⟩) (fun hHeld => ?_)
    clear hK K
    try simp only [Act.put, List.getElem_toArray, List.getElem_cons_succ, List.getElem_cons_zero, List.setIfInBounds_toArray, List.set_cons_zero, List.set_cons_succ]
    refine wpAnyH_take (i := 16) (v := ?_) rfl (by kernel_rfl) (by kernel_rfl) (by kernel_rfl) (fun _ _ _ h => h) (Or.inl ⟨by rfl, ?_⟩) (by assumption) ?_
    rotate_left
    · intro w hSw; (try dsimp only at hSw); go_simp <;> with_reducible rfl
    try simp only [Act.put, List.getElem_toArray, List.getElem_cons_succ, List.getElem_cons_zero, List.setIfInBounds_toArray, List.set_cons_zero, List.set_cons_succ]
    refine wpAnyH_take (i := 17) (v := ?_) rfl (by kernel_rfl) (by kernel_rfl) (by kernel_rfl) (fun _ _ _ h => h) (Or.inl ⟨by rfl, ?_⟩) (by assumption) ?_
    rotate_left
    · intro w hSw; (try dsimp only at hSw); go_simp <;> with_reducible rfl
    try simp only [Act.put, List.getElem_toArray, List.getElem_cons_succ, List.getElem_cons_zero, List.setIfInBounds_toArray, List.set_cons_zero, List.set_cons_succ]
    refine wpAnyH_done (by kernel_rfl) ?_ _
    go_wp2
    go_ret
    exact ⟨rfl, RX.out.bel⟩
  · have RZ := RX
    clear RX RY RXP RXN fR0 fR1 fR2 fA0 fA1 fA2 fB0 fB1 fB2 gR0 gR1 gR2 gA0 gA1 gA2 gB0 gB1 gB2
    generalize (((w14.setCell ⟨w13.heap.size, 0, none⟩ (.slice pW1 nW1 cW1)).setCell ⟨w13.heap.size, 1, none⟩ (.slice pW2 nW2 cW2)).setCell ⟨w13.heap.size, 2, none⟩ (.slice pW3 nW3 cW3)) = V2 at RZ ⊢
    generalize w13.heap.size = rW at RZ ⊢
    have RX := Lib.hid RZ.out.drew
    clear RZ
    obtain ⟨⟨fR0, fR1, fR2⟩, -⟩ := RX.out.at (r := w1.heap.size) (a := .int .i64 k) (b := .int .i64 p) (c := .int .i64 q) (by repeat (first | with_reducible exact List.mem_cons_self | apply List.mem_cons_of_mem)); obtain ⟨⟨fP0, fP1, fP2⟩, -⟩ := RX.out.at (r := w5.heap.size) (a := .slice pP1 nP1 cP1) (b := .slice pP2 nP2 cP2) (c := .slice pP3 nP3 cP3) (by repeat (first | with_reducible exact List.mem_cons_self | apply List.mem_cons_of_mem)); obtain ⟨⟨fZ0, fZ1, fZ2⟩, -⟩ := RX.out.at (r := w12.heap.size) (a := .slice pZ1 nZ1 cZ1) (b := .slice pZ2 nZ2 cZ2) (c := .slice pZ3 nZ3 cZ3) (by repeat (first | with_reducible exact List.mem_cons_self | apply List.mem_cons_of_mem)); obtain ⟨⟨fW0, fW1, fW2⟩, -⟩ := RX.out.at (r := rW) (a := .slice pW1 nW1 cW1) (b := .slice pW2 nW2 cW2) (c := .slice pW3 nW3 cW3) (by repeat (first | with_reducible exact List.mem_cons_self | apply List.mem_cons_of_mem))
    go_wp2_with fail
    refine wp_region_held_drew (S := (fun w' => w'.cell? ⟨w1.heap.size, 0, none⟩ = some (.int .i64 k) ∧ w'.cell? ⟨w1.heap.size, 1, none⟩ = some (.int .i64 p) ∧ w'.cell? ⟨w1.heap.size, 2, none⟩ = some (.int .i64 q) ∧ w'.cell? ⟨w5.heap.size, 0, none⟩ = some (.slice pP1 nP1 cP1) ∧ w'.cell? ⟨w5.heap.size, 1, none⟩ = some (.slice pP2 nP2 cP2) ∧ w'.cell? ⟨w5.heap.size, 2, none⟩ = some (.slice pP3 nP3 cP3) ∧ w'.cell? ⟨w12.heap.size, 0, none⟩ = some (.slice pZ1 nZ1 cZ1) ∧ w'.cell? ⟨w12.heap.size, 1, none⟩ = some (.slice pZ2 nZ2 cZ2) ∧ w'.cell? ⟨w12.heap.size, 2, none⟩ = some (.slice pZ3 nZ3 cZ3) ∧ w'.cell? ⟨rW, 0, none⟩ = some (.slice pW1 nW1 cW1) ∧ w'.cell? ⟨rW, 1, none⟩ = some (.slice pW2 nW2 cW2) ∧ w'.cell? ⟨rW, 2, none⟩ = some (.slice pW3 nW3 cW3))) (by kernel_rfl) (by (try dsimp only); exact ⟨fR0, fR1, fR2, fP0, fP1, fP2, fZ0, fZ1, fZ2, fW0, fW1, fW2⟩) (fun hHeld => ?_)
    refine wpAnyH_take (i := 0) (v := ?_) rfl (by kernel_rfl) (by kernel_rfl) (by kernel_rfl) (fun _ _ _ h => h) (Or.inl ⟨by rfl, ?_⟩) (by assumption) ?_
    rotate_left
    · intro w hSw; (try dsimp only at hSw); go_simp <;> with_reducible rfl
    try simp only [Act.put, List.getElem_toArray, List.getElem_cons_zero, List.setIfInBounds_toArray, List.set_cons_zero, List.set_cons_succ]
    refine wpAnyH_take (i := 1) (v := ?_) rfl (by kernel_rfl) (by kernel_rfl) (by kernel_rfl) (fun _ _ _ h => h) (Or.inl ⟨by rfl, ?_⟩) (by assumption) ?_
    rotate_left
    · intro w hSw; (try dsimp only at hSw); go_simp <;> with_reducible rfl
    try simp only [Act.put, List.getElem_toArray, List.getElem_cons_succ, List.getElem_cons_zero, List.setIfInBounds_toArray, List.set_cons_zero, List.set_cons_succ]
    refine wpAnyH_take (i := 2) (v := ?_) rfl (by kernel_rfl) (by kernel_rfl) (by kernel_rfl) (fun _ _ _ h => h) (Or.inl ⟨by rfl, ?_⟩) (by assumption) ?_
    rotate_left
    · intro w hSw; (try dsimp only at hSw); go_simp <;> with_reducible rfl
    try simp only [Act.put, List.getElem_toArray, List.getElem_cons_succ, List.getElem_cons_zero, List.setIfInBounds_toArray, List.set_cons_zero, List.set_cons_succ]
    refine wpAnyH_take (i := 3) (v := ?_) rfl (by kernel_rfl) (by kernel_rfl) (by kernel_rfl) (fun _ _ _ h => h) (Or.inl ⟨by rfl, ?_⟩) (by assumption) ?_
    rotate_left
    · intro w hSw; (try dsimp only at hSw); go_simp <;> with_reducible rfl
    try simp only [Act.put, List.getElem_toArray, List.getElem_cons_succ, List.getElem_cons_zero, List.setIfInBounds_toArray, List.set_cons_zero, List.set_cons_succ]
    refine wpAnyH_take (i := 4) (v := ?_) rfl (by kernel_rfl) (by kernel_rfl) (by kernel_rfl) (fun _ _ _ h => h) (Or.inl ⟨by rfl, ?_⟩) (by assumption) ?_
    rotate_left
    · intro w hSw; (try dsimp only at hSw); go_simp <;> with_reducible rfl
    try simp only [Act.put, List.getElem_toArray, List.getElem_cons_succ, List.getElem_cons_zero, List.setIfInBounds_toArray, List.set_cons_zero, List.set_cons_succ]
    refine wpAnyH_take (i := 5) (v := ?_) rfl (by kernel_rfl) (by kernel_rfl) (by kernel_rfl) (fun _ _ _ h => h) (Or.inl ⟨by rfl, ?_⟩) (by assumption) ?_
    rotate_left
    · intro w hSw; (try dsimp only at hSw); go_simp <;> with_reducible rfl
    try simp only [Act.put, List.getElem_toArray, List.getElem_cons_succ, List.getElem_cons_zero, List.setIfInBounds_toArray, List.set_cons_zero, List.set_cons_succ]
    refine wpAnyH_take (i := 6) (v := ?_) rfl (by kernel_rfl) (by kernel_rfl) (by kernel_rfl) (fun _ _ _ h => h) (Or.inl ⟨by rfl, ?_⟩) (by assumption) ?_
    rotate_left
    · intro w hSw; (try dsimp only at hSw); go_simp <;> with_reducible rfl
    try simp only [Act.put, List.getElem_toArray, List.getElem_cons_succ, List.getElem_cons_zero, List.setIfInBounds_toArray, List.set_cons_zero, List.set_cons_succ]
    refine wpAnyH_ready (rs := [7]) (by kernel_rfl) (by simp) ?_
    refine AllReadyH.cons rfl (fun K hK => ?_) AllReadyH.nil
    go_simp
    (go_at_call 43; (first | (refine (same_yes ⟨RX.out.rd (v := .slice pT1 nT1 cT1) (xs := LZ) (by repeat (first | with_reducible exact List.mem_cons_self | apply List.mem_cons_of_mem)), RX.out.rd (v := .slice pT2 nT2 cT2) (xs := DZ) (by repeat (first | with_reducible exact List.mem_cons_self | apply List.mem_cons_of_mem)), RX.out.rd (v := .slice pT3 nT3 cT3) (xs := XZ) (by repeat (first | with_reducible exact List.mem_cons_self | apply List.mem_cons_of_mem))⟩ ⟨RX.out.rd (v := .slice pZ1 nZ1 cZ1) (xs := LZ) (by repeat (first | with_reducible exact List.mem_cons_self | apply List.mem_cons_of_mem)), RX.out.rd (v := .slice pZ2 nZ2 cZ2) (xs := DZ) (by repeat (first | with_reducible exact List.mem_cons_self | apply List.mem_cons_of_mem)), RX.out.rd (v := .slice pZ3 nZ3 cZ3) (xs := XZ) (by repeat (first | with_reducible exact List.mem_cons_self | apply List.mem_cons_of_mem))⟩ (Nat.le_refl _) (Nat.le_refl _) HZ.out.len).mono ?_) | (refine (same_yes ⟨RX.out.rd (v := .slice pZ1 nZ1 cZ1) (xs := LZ) (by repeat (first | with_reducible exact List.mem_cons_self | apply List.mem_cons_of_mem)), RX.out.rd (v := .slice pZ2 nZ2 cZ2) (xs := DZ) (by repeat (first | with_reducible exact List.mem_cons_self | apply List.mem_cons_of_mem)), RX.out.rd (v := .slice pZ3 nZ3 cZ3) (xs := XZ) (by repeat (first | with_reducible exact List.mem_cons_self | apply List.mem_cons_of_mem))⟩ ⟨RX.out.rd (v := .slice pW1 nW1 cW1) (xs := LZ) (by repeat (first | with_reducible exact List.mem_cons_self | apply List.mem_cons_of_mem)), RX.out.rd (v := .slice pW2 nW2 cW2) (xs := DZ) (by repeat (first | with_reducible exact List.mem_cons_self | apply List.mem_cons_of_mem)), RX.out.rd (v := .slice pW3 nW3 cW3) (xs := XZ) (by repeat (first | with_reducible exact List.mem_cons_self | apply List.mem_cons_of_mem))⟩ (Nat.le_refl _) (Nat.le_refl _) HZ.out.len).mono ?_)); rintro e w16 ⟨rfl, hb⟩; replace RX := Lib.hid (RX.out.step hb); clear hb; clear fR0 fR1 fR2 fP0 fP1 fP2 fZ0 fZ1 fZ2 fW0 fW1 fW2; obtain ⟨⟨fR0, fR1, fR2⟩, -⟩ := RX.out.at (r := w1.heap.size) (a := .int .i64 k) (b := .int .i64 p) (c := .int .i64 q) (by repeat (first | with_reducible exact List.mem_cons_self | apply List.mem_cons_of_mem)); obtain ⟨⟨fP0, fP1, fP2⟩, -⟩ := RX.out.at (r := w5.heap.size) (a := .slice pP1 nP1 cP1) (b := .slice pP2 nP2 cP2) (c := .slice pP3 nP3 cP3) (by repeat (first | with_reducible exact List.mem_cons_self | apply List.mem_cons_of_mem)); obtain ⟨⟨fZ0, fZ1, fZ2⟩, -⟩ := RX.out.at (r := w12.heap.size) (a := .slice pZ1 nZ1 cZ1) (b := .slice pZ2 nZ2 cZ2) (c := .slice pZ3 nZ3 cZ3) (by repeat (first | with_reducible exact List.mem_cons_self | apply List.mem_cons_of_mem)); obtain ⟨⟨fW0, fW1, fW2⟩, -⟩ := RX.out.at (r := rW) (a := .slice pW1 nW1 cW1) (b := .slice pW2 nW2 cW2) (c := .slice pW3 nW3 cW3) (by repeat (first | with_reducible exact List.mem_cons_self | apply List.mem_cons_of_mem)))
    go_wp2_with fail
    refine hK.out _ _ (by (try dsimp only); exact ⟨fR0, fR1, fR2, fP0, fP1, fP2, fZ0, fZ1, fZ2, fW0, fW1, fW2⟩) (fun hHeld => ?_)
    clear hK K
    try simp only [Act.put, List.getElem_toArray, List.getElem_cons_succ, List.getElem_cons_zero, List.setIfInBounds_toArray, List.set_cons_zero, List.set_cons_succ]
    refine wpAnyH_take (i := 8) (v := ?_) rfl (by kernel_rfl) (by kernel_rfl) (by kernel_rfl) (fun _ _ _ h => h) (Or.inl ⟨by rfl, ?_⟩) (by assumption) ?_
    rotate_left
    · intro w hSw; (try dsimp only at hSw); go_simp <;> with_reducible rfl
    try simp only [Act.put, List.getElem_toArray, List.getElem_cons_succ, List.getElem_cons_zero, List.setIfInBounds_toArray, List.set_cons_zero, List.set_cons_succ]
    refine wpAnyH_take (i := 9) (v := ?_) rfl (by kernel_rfl) (by kernel_rfl) (by kernel_rfl) (fun _ _ _ h => h) (Or.inl ⟨by rfl, ?_⟩) (by assumption) ?_
    rotate_left
    · intro w hSw; (try dsimp only at hSw); go_simp <;> with_reducible rfl
    try simp only [Act.put, List.getElem_toArray, List.getElem_cons_succ, List.getElem_cons_zero, List.setIfInBounds_toArray, List.set_cons_zero, List.set_cons_succ]
    refine wpAnyH_take (i := 10) (v := ?_) rfl (by kernel_rfl) (by kernel_rfl) (by kernel_rfl) (fun _ _ _ h => h) (Or.inl ⟨by rfl, ?_⟩) (by assumption) ?_
    rotate_left
    · intro w hSw; (try dsimp only at hSw); go_simp <;> with_reducible rfl
    try simp only [Act.put, List.getElem_toArray, List.getElem_cons_succ, List.getElem_cons_zero, List.setIfInBounds_toArray, List.set_cons_zero, List.set_cons_succ]
    refine wpAnyH_take (i := 11) (v := ?_) rfl (by kernel_rfl) (by kernel_rfl) (by kernel_rfl) (fun _ _ _ h => h) (Or.inl ⟨by rfl, ?_⟩) (by assumption) ?_
    rotate_left
    · intro w hSw; (try dsimp only at hSw); go_simp <;> with_reducible rfl
    try simp only [Act.put, List.getElem_toArray, List.getElem_cons_succ, List.getElem_cons_zero, List.setIfInBounds_toArray, List.set_cons_zero, List.set_cons_succ]
    refine wpAnyH_take (i := 12) (v := ?_) rfl (by kernel_rfl) (by kernel_rfl) (by kernel_rfl) (fun _ _ _ h => h) (Or.inl ⟨by rfl, ?_⟩) (by assumption) ?_
    rotate_left
    · intro w hSw; (try dsimp only at hSw); go_simp <;> with_reducible rfl
    try simp only [Act.put, List.getElem_toArray, List.getElem_cons_succ, List.getElem_cons_zero, List.setIfInBounds_toArray, List.set_cons_zero, List.set_cons_succ]
    refine wpAnyH_take (i := 14) (v := ?_) rfl (by kernel_rfl) (by kernel_rfl) (by kernel_rfl) (fun _ _ _ h => h) (Or.inl ⟨by rfl, ?_⟩) (by assumption) ?_
    rotate_left
    · intro w hSw; (try dsimp only at hSw); go_simp <;> with_reducible rfl
    try simp only [Act.put, List.getElem_toArray, List.getElem_cons_succ, List.getElem_cons_zero, List.setIfInBounds_toArray, List.set_cons_zero, List.set_cons_succ]
    refine wpAnyH_ready (rs := [13]) (by kernel_rfl) (by simp) ?_
    refine AllReadyH.cons rfl (fun K hK => ?_) AllReadyH.nil
    go_simp
    (go_at_call 42; refine (sum_six HP.out HTL.out HTD.out HTX.out ⟨RX.out.rd (v := .slice pP1 nP1 cP1) (xs := LP) (by repeat (first | with_reducible exact List.mem_cons_self | apply List.mem_cons_of_mem)), RX.out.rd (v := .slice pP2 nP2 cP2) (xs := DP) (by repeat (first | with_reducible exact List.mem_cons_self | apply List.mem_cons_of_mem)), RX.out.rd (v := .slice pP3 nP3 cP3) (xs := XP) (by repeat (first | with_reducible exact List.mem_cons_self | apply List.mem_cons_of_mem))⟩ (RX.out.rd (v := vk) (xs := keep) (by repeat (first | with_reducible exact List.mem_cons_self | apply List.mem_cons_of_mem))) (Nat.le_refl _) (Nat.le_refl _) HKN.out).mono ?_; rintro e w15 ⟨pT1, nT1, cT1, pT2, nT2, cT2, pT3, nT3, cT3, rfl, ho, hb⟩; replace RX := Lib.hid (RX.out.new3 hb ho); clear ho hb; clear fR0 fR1 fR2 fP0 fP1 fP2 fZ0 fZ1 fZ2 fW0 fW1 fW2; obtain ⟨⟨fR0, fR1, fR2⟩, -⟩ := RX.out.at (r := w1.heap.size) (a := .int .i64 k) (b := .int .i64 p) (c := .int .i64 q) (by repeat (first | with_reducible exact List.mem_cons_self | apply List.mem_cons_of_mem)); obtain ⟨⟨fP0, fP1, fP2⟩, -⟩ := RX.out.at (r := w5.heap.size) (a := .slice pP1 nP1 cP1) (b := .slice pP2 nP2 cP2) (c := .slice pP3 nP3 cP3) (by repeat (first | with_reducible exact List.mem_cons_self | apply List.mem_cons_of_mem)); obtain ⟨⟨fZ0, fZ1, fZ2⟩, -⟩ := RX.out.at (r := w12.heap.size) (a := .slice pZ1 nZ1 cZ1) (b := .slice pZ2 nZ2 cZ2) (c := .slice pZ3 nZ3 cZ3) (by repeat (first | with_reducible exact List.mem_cons_self | apply List.mem_cons_of_mem)); obtain ⟨⟨fW0, fW1, fW2⟩, -⟩ := RX.out.at (r := rW) (a := .slice pW1 nW1 cW1) (b := .slice pW2 nW2 cW2) (c := .slice pW3 nW3 cW3) (by repeat (first | with_reducible exact List.mem_cons_self | apply List.mem_cons_of_mem)))
    go_wp2_with fail
    refine hK.out _ _ (by (try dsimp only); exact ⟨fR0, fR1, fR2, fP0, fP1, fP2, fZ0, fZ1, fZ2, fW0, fW1, fW2⟩) (fun hHeld => ?_)
    clear hK K
    try simp only [Act.put, List.getElem_toArray, List.getElem_cons_succ, List.getElem_cons_zero, List.setIfInBounds_toArray, List.set_cons_zero, List.set_cons_succ]
    refine wpAnyH_ready (rs := [15]) (by kernel_rfl) (by simp) ?_
    refine AllReadyH.cons rfl (fun K hK => ?_) AllReadyH.nil
    go_simp
    (go_at_call 43; (first | (refine (same_yes ⟨RX.out.rd (v := .slice pT1 nT1 cT1) (xs := LZ) (by repeat (first | with_reducible exact List.mem_cons_self | apply List.mem_cons_of_mem)), RX.out.rd (v := .slice pT2 nT2 cT2) (xs := DZ) (by repeat (first | with_reducible exact List.mem_cons_self | apply List.mem_cons_of_mem)), RX.out.rd (v := .slice pT3 nT3 cT3) (xs := XZ) (by repeat (first | with_reducible exact List.mem_cons_self | apply List.mem_cons_of_mem))⟩ ⟨RX.out.rd (v := .slice pZ1 nZ1 cZ1) (xs := LZ) (by repeat (first | with_reducible exact List.mem_cons_self | apply List.mem_cons_of_mem)), RX.out.rd (v := .slice pZ2 nZ2 cZ2) (xs := DZ) (by repeat (first | with_reducible exact List.mem_cons_self | apply List.mem_cons_of_mem)), RX.out.rd (v := .slice pZ3 nZ3 cZ3) (xs := XZ) (by repeat (first | with_reducible exact List.mem_cons_self | apply List.mem_cons_of_mem))⟩ (Nat.le_refl _) (Nat.le_refl _) HZ.out.len).mono ?_) | (refine (same_yes ⟨RX.out.rd (v := .slice pZ1 nZ1 cZ1) (xs := LZ) (by repeat (first | with_reducible exact List.mem_cons_self | apply List.mem_cons_of_mem)), RX.out.rd (v := .slice pZ2 nZ2 cZ2) (xs := DZ) (by repeat (first | with_reducible exact List.mem_cons_self | apply List.mem_cons_of_mem)), RX.out.rd (v := .slice pZ3 nZ3 cZ3) (xs := XZ) (by repeat (first | with_reducible exact List.mem_cons_self | apply List.mem_cons_of_mem))⟩ ⟨RX.out.rd (v := .slice pW1 nW1 cW1) (xs := LZ) (by repeat (first | with_reducible exact List.mem_cons_self | apply List.mem_cons_of_mem)), RX.out.rd (v := .slice pW2 nW2 cW2) (xs := DZ) (by repeat (first | with_reducible exact List.mem_cons_self | apply List.mem_cons_of_mem)), RX.out.rd (v := .slice pW3 nW3 cW3) (xs := XZ) (by repeat (first | with_reducible exact List.mem_cons_self | apply List.mem_cons_of_mem))⟩ (Nat.le_refl _) (Nat.le_refl _) HZ.out.len).mono ?_)); rintro e w16 ⟨rfl, hb⟩; replace RX := Lib.hid (RX.out.step hb); clear hb; clear fR0 fR1 fR2 fP0 fP1 fP2 fZ0 fZ1 fZ2 fW0 fW1 fW2; obtain ⟨⟨fR0, fR1, fR2⟩, -⟩ := RX.out.at (r := w1.heap.size) (a := .int .i64 k) (b := .int .i64 p) (c := .int .i64 q) (by repeat (first | with_reducible exact List.mem_cons_self | apply List.mem_cons_of_mem)); obtain ⟨⟨fP0, fP1, fP2⟩, -⟩ := RX.out.at (r := w5.heap.size) (a := .slice pP1 nP1 cP1) (b := .slice pP2 nP2 cP2) (c := .slice pP3 nP3 cP3) (by repeat (first | with_reducible exact List.mem_cons_self | apply List.mem_cons_of_mem)); obtain ⟨⟨fZ0, fZ1, fZ2⟩, -⟩ := RX.out.at (r := w12.heap.size) (a := .slice pZ1 nZ1 cZ1) (b := .slice pZ2 nZ2 cZ2) (c := .slice pZ3 nZ3 cZ3) (by repeat (first | with_reducible exact List.mem_cons_self | apply List.mem_cons_of_mem)); obtain ⟨⟨fW0, fW1, fW2⟩, -⟩ := RX.out.at (r := rW) (a := .slice pW1 nW1 cW1) (b := .slice pW2 nW2 cW2) (c := .slice pW3 nW3 cW3) (by repeat (first | with_reducible exact List.mem_cons_self | apply List.mem_cons_of_mem)))
    go_wp2_with fail
    refine hK.out _ _ (by (try dsimp only); exact ⟨fR0, fR1, fR2, fP0, fP1, fP2, fZ0, fZ1, fZ2, fW0, fW1, fW2⟩) (fun hHeld => ?_)
    clear hK K
    try simp only [Act.put, List.getElem_toArray, List.getElem_cons_succ, List.getElem_cons_zero, List.setIfInBounds_toArray, List.set_cons_zero, List.set_cons_succ]
    refine wpAnyH_take (i := 16) (v := ?_) rfl (by kernel_rfl) (by kernel_rfl) (by kernel_rfl) (fun _ _ _ h => h) (Or.inl ⟨by rfl, ?_⟩) (by assumption) ?_
    rotate_left
    · intro w hSw; (try dsimp only at hSw); go_simp <;> with_reducible rfl
    try simp only [Act.put, List.getElem_toArray, List.getElem_cons_succ, List.getElem_cons_zero, List.setIfInBounds_toArray, List.set_cons_zero, List.set_cons_succ]
    refine wpAnyH_take (i := 17) (v := ?_) rfl (by kernel_rfl) (by kernel_rfl) (by kernel_rfl) (fun _ _ _ h => h) (Or.inl ⟨by rfl, ?_⟩) (by assumption) ?_
    rotate_left
    · intro w hSw; (try dsimp only at hSw); go_simp <;> with_reducible rfl
    try simp only [Act.put, List.getElem_toArray, List.getElem_cons_succ, List.getElem_cons_zero, List.setIfInBounds_toArray, List.set_cons_zero, List.set_cons_succ]
    refine wpAnyH_done (by kernel_rfl) ?_ _
    go_wp2
    go_ret
    exact ⟨rfl, RX.out.bel⟩
  · have RZ := RX
    clear RX RY RXP RXN fR0 fR1 fR2 fA0 fA1 fA2 fB0 fB1 fB2 gR0 gR1 gR2 gA0 gA1 gA2 gB0 gB1 gB2
    generalize (((w14.setCell ⟨V1.heap.size, 0, none⟩ (.slice pW1 nW1 cW1)).setCell ⟨V1.heap.size, 1, none⟩ (.slice pW2 nW2 cW2)).setCell ⟨V1.heap.size, 2, none⟩ (.slice pW3 nW3 cW3)) = V2 at RZ ⊢
    generalize V1.heap.size = rW at RZ ⊢
    have RX := Lib.hid RZ.out.drew
    clear RZ
    obtain ⟨⟨fR0, fR1, fR2⟩, -⟩ := RX.out.at (r := w1.heap.size) (a := .int .i64 k) (b := .int .i64 p) (c := .int .i64 q) (by repeat (first | with_reducible exact List.mem_cons_self | apply List.mem_cons_of_mem)); obtain ⟨⟨fP0, fP1, fP2⟩, -⟩ := RX.out.at (r := w5.heap.size) (a := .slice pP1 nP1 cP1) (b := .slice pP2 nP2 cP2) (c := .slice pP3 nP3 cP3) (by repeat (first | with_reducible exact List.mem_cons_self | apply List.mem_cons_of_mem)); obtain ⟨⟨fZ0, fZ1, fZ2⟩, -⟩ := RX.out.at (r := w12.heap.size) (a := .slice pZ1 nZ1 cZ1) (b := .slice pZ2 nZ2 cZ2) (c := .slice pZ3 nZ3 cZ3) (by repeat (first | with_reducible exact List.mem_cons_self | apply List.mem_cons_of_mem)); obtain ⟨⟨fW0, fW1, fW2⟩, -⟩ := RX.out.at (r := rW) (a := .slice pW1 nW1 cW1) (b := .slice pW2 nW2 cW2) (c := .slice pW3 nW3 cW3) (by repeat (first | with_reducible exact List.mem_cons_self | apply List.mem_cons_of_mem))
    go_wp2_with fail
    refine wp_region_held_drew (S := (fun w' => w'.cell? ⟨w1.heap.size, 0, none⟩ = some (.int .i64 k) ∧ w'.cell? ⟨w1.heap.size, 1, none⟩ = some (.int .i64 p) ∧ w'.cell? ⟨w1.heap.size, 2, none⟩ = some (.int .i64 q) ∧ w'.cell? ⟨w5.heap.size, 0, none⟩ = some (.slice pP1 nP1 cP1) ∧ w'.cell? ⟨w5.heap.size, 1, none⟩ = some (.slice pP2 nP2 cP2) ∧ w'.cell? ⟨w5.heap.size, 2, none⟩ = some (.slice pP3 nP3 cP3) ∧ w'.cell? ⟨w12.heap.size, 0, none⟩ = some (.slice pZ1 nZ1 cZ1) ∧ w'.cell? ⟨w12.heap.size, 1, none⟩ = some (.slice pZ2 nZ2 cZ2) ∧ w'.cell? ⟨w12.heap.size, 2, none⟩ = some (.slice pZ3 nZ3 cZ3) ∧ w'.cell? ⟨rW, 0, none⟩ = some (.slice pW1 nW1 cW1) ∧ w'.cell? ⟨rW, 1, none⟩ = some (.slice pW2 nW2 cW2) ∧ w'.cell? ⟨rW, 2, none⟩ = some (.slice pW3 nW3 cW3))) (by kernel_rfl) (by (try dsimp only); exact ⟨fR0, fR1, fR2, fP0, fP1, fP2, fZ0, fZ1, fZ2, fW0, fW1, fW2⟩) (fun hHeld => ?_)
    refine wpAnyH_take (i := 0) (v := ?_) rfl (by kernel_rfl) (by kernel_rfl) (by kernel_rfl) (fun _ _ _ h => h) (Or.inl ⟨by rfl, ?_⟩) (by assumption) ?_
    rotate_left
    · intro w hSw; (try dsimp only at hSw); go_simp <;> with_reducible rfl
    try simp only [Act.put, List.getElem_toArray, List.getElem_cons_zero, List.setIfInBounds_toArray, List.set_cons_zero, List.set_cons_succ]
    refine wpAnyH_take (i := 1) (v := ?_) rfl (by kernel_rfl) (by kernel_rfl) (by kernel_rfl) (fun _ _ _ h => h) (Or.inl ⟨by rfl, ?_⟩) (by assumption) ?_
    rotate_left
    · intro w hSw; (try dsimp only at hSw); go_simp <;> with_reducible rfl
    try simp only [Act.put, List.getElem_toArray, List.getElem_cons_succ, List.getElem_cons_zero, List.setIfInBounds_toArray, List.set_cons_zero, List.set_cons_succ]
    refine wpAnyH_take (i := 2) (v := ?_) rfl (by kernel_rfl) (by kernel_rfl) (by kernel_rfl) (fun _ _ _ h => h) (Or.inl ⟨by rfl, ?_⟩) (by assumption) ?_
    rotate_left
    · intro w hSw; (try dsimp only at hSw); go_simp <;> with_reducible rfl
    try simp only [Act.put, List.getElem_toArray, List.getElem_cons_succ, List.getElem_cons_zero, List.setIfInBounds_toArray, List.set_cons_zero, List.set_cons_succ]
    refine wpAnyH_take (i := 3) (v := ?_) rfl (by kernel_rfl) (by kernel_rfl) (by kernel_rfl) (fun _ _ _ h => h) (Or.inl ⟨by rfl, ?_⟩) (by assumption) ?_
    rotate_left
    · intro w hSw; (try dsimp only at hSw); go_simp <;> with_reducible rfl
    try simp only [Act.put, List.getElem_toArray, List.getElem_cons_succ, List.getElem_cons_zero, List.setIfInBounds_toArray, List.set_cons_zero, List.set_cons_succ]
    refine wpAnyH_take (i := 4) (v := ?_) rfl (by kernel_rfl) (by kernel_rfl) (by kernel_rfl) (fun _ _ _ h => h) (Or.inl ⟨by rfl, ?_⟩) (by assumption) ?_
    rotate_left
    · intro w hSw; (try dsimp only at hSw); go_simp <;> with_reducible rfl
    try simp only [Act.put, List.getElem_toArray, List.getElem_cons_succ, List.getElem_cons_zero, List.setIfInBounds_toArray, List.set_cons_zero, List.set_cons_succ]
    refine wpAnyH_take (i := 5) (v := ?_) rfl (by kernel_rfl) (by kernel_rfl) (by kernel_rfl) (fun _ _ _ h => h) (Or.inl ⟨by rfl, ?_⟩) (by assumption) ?_
    rotate_left
    · intro w hSw; (try dsimp only at hSw); go_simp <;> with_reducible rfl
    try simp only [Act.put, List.getElem_toArray, List.getElem_cons_succ, List.getElem_cons_zero, List.setIfInBounds_toArray, List.set_cons_zero, List.set_cons_succ]
    refine wpAnyH_take (i := 6) (v := ?_) rfl (by kernel_rfl) (by kernel_rfl) (by kernel_rfl) (fun _ _ _ h => h) (Or.inl ⟨by rfl, ?_⟩) (by assumption) ?_
    rotate_left
    · intro w hSw; (try dsimp only at hSw); go_simp <;> with_reducible rfl
    try simp only [Act.put, List.getElem_toArray, List.getElem_cons_succ, List.getElem_cons_zero, List.setIfInBounds_toArray, List.set_cons_zero, List.set_cons_succ]
    refine wpAnyH_ready (rs := [7]) (by kernel_rfl) (by simp) ?_
    refine AllReadyH.cons rfl (fun K hK => ?_) AllReadyH.nil
    go_simp
    (go_at_call 43; (first | (refine (same_yes ⟨RX.out.rd (v := .slice pT1 nT1 cT1) (xs := LZ) (by repeat (first | with_reducible exact List.mem_cons_self | apply List.mem_cons_of_mem)), RX.out.rd (v := .slice pT2 nT2 cT2) (xs := DZ) (by repeat (first | with_reducible exact List.mem_cons_self | apply List.mem_cons_of_mem)), RX.out.rd (v := .slice pT3 nT3 cT3) (xs := XZ) (by repeat (first | with_reducible exact List.mem_cons_self | apply List.mem_cons_of_mem))⟩ ⟨RX.out.rd (v := .slice pZ1 nZ1 cZ1) (xs := LZ) (by repeat (first | with_reducible exact List.mem_cons_self | apply List.mem_cons_of_mem)), RX.out.rd (v := .slice pZ2 nZ2 cZ2) (xs := DZ) (by repeat (first | with_reducible exact List.mem_cons_self | apply List.mem_cons_of_mem)), RX.out.rd (v := .slice pZ3 nZ3 cZ3) (xs := XZ) (by repeat (first | with_reducible exact List.mem_cons_self | apply List.mem_cons_of_mem))⟩ (Nat.le_refl _) (Nat.le_refl _) HZ.out.len).mono ?_) | (refine (same_yes ⟨RX.out.rd (v := .slice pZ1 nZ1 cZ1) (xs := LZ) (by repeat (first | with_reducible exact List.mem_cons_self | apply List.mem_cons_of_mem)), RX.out.rd (v := .slice pZ2 nZ2 cZ2) (xs := DZ) (by repeat (first | with_reducible exact List.mem_cons_self | apply List.mem_cons_of_mem)), RX.out.rd (v := .slice pZ3 nZ3 cZ3) (xs := XZ) (by repeat (first | with_reducible exact List.mem_cons_self | apply List.mem_cons_of_mem))⟩ ⟨RX.out.rd (v := .slice pW1 nW1 cW1) (xs := LZ) (by repeat (first | with_reducible exact List.mem_cons_self | apply List.mem_cons_of_mem)), RX.out.rd (v := .slice pW2 nW2 cW2) (xs := DZ) (by repeat (first | with_reducible exact List.mem_cons_self | apply List.mem_cons_of_mem)), RX.out.rd (v := .slice pW3 nW3 cW3) (xs := XZ) (by repeat (first | with_reducible exact List.mem_cons_self | apply List.mem_cons_of_mem))⟩ (Nat.le_refl _) (Nat.le_refl _) HZ.out.len).mono ?_)); rintro e w16 ⟨rfl, hb⟩; replace RX := Lib.hid (RX.out.step hb); clear hb; clear fR0 fR1 fR2 fP0 fP1 fP2 fZ0 fZ1 fZ2 fW0 fW1 fW2; obtain ⟨⟨fR0, fR1, fR2⟩, -⟩ := RX.out.at (r := w1.heap.size) (a := .int .i64 k) (b := .int .i64 p) (c := .int .i64 q) (by repeat (first | with_reducible exact List.mem_cons_self | apply List.mem_cons_of_mem)); obtain ⟨⟨fP0, fP1, fP2⟩, -⟩ := RX.out.at (r := w5.heap.size) (a := .slice pP1 nP1 cP1) (b := .slice pP2 nP2 cP2) (c := .slice pP3 nP3 cP3) (by repeat (first | with_reducible exact List.mem_cons_self | apply List.mem_cons_of_mem)); obtain ⟨⟨fZ0, fZ1, fZ2⟩, -⟩ := RX.out.at (r := w12.heap.size) (a := .slice pZ1 nZ1 cZ1) (b := .slice pZ2 nZ2 cZ2) (c := .slice pZ3 nZ3 cZ3) (by repeat (first | with_reducible exact List.mem_cons_self | apply List.mem_cons_of_mem)); obtain ⟨⟨fW0, fW1, fW2⟩, -⟩ := RX.out.at (r := rW) (a := .slice pW1 nW1 cW1) (b := .slice pW2 nW2 cW2) (c := .slice pW3 nW3 cW3) (by repeat (first | with_reducible exact List.mem_cons_self | apply List.mem_cons_of_mem)))
    go_wp2_with fail
    refine hK.out _ _ (by (try dsimp only); exact ⟨fR0, fR1, fR2, fP0, fP1, fP2, fZ0, fZ1, fZ2, fW0, fW1, fW2⟩) (fun hHeld => ?_)
    clear hK K
    try simp only [Act.put, List.getElem_toArray, List.getElem_cons_succ, List.getElem_cons_zero, List.setIfInBounds_toArray, List.set_cons_zero, List.set_cons_succ]
    refine wpAnyH_take (i := 8) (v := ?_) rfl (by kernel_rfl) (by kernel_rfl) (by kernel_rfl) (fun _ _ _ h => h) (Or.inl ⟨by rfl, ?_⟩) (by assumption) ?_
    rotate_left
    · intro w hSw; (try dsimp only at hSw); go_simp <;> with_reducible rfl
    try simp only [Act.put, List.getElem_toArray, List.getElem_cons_succ, List.getElem_cons_zero, List.setIfInBounds_toArray, List.set_cons_zero, List.set_cons_succ]
    refine wpAnyH_take (i := 9) (v := ?_) rfl (by kernel_rfl) (by kernel_rfl) (by kernel_rfl) (fun _ _ _ h => h) (Or.inl ⟨by rfl, ?_⟩) (by assumption) ?_
    rotate_left
    · intro w hSw; (try dsimp only at hSw); go_simp <;> with_reducible rfl
    try simp only [Act.put, List.getElem_toArray, List.getElem_cons_succ, List.getElem_cons_zero, List.setIfInBounds_toArray, List.set_cons_zero, List.set_cons_succ]
    refine wpAnyH_take (i := 10) (v := ?_) rfl (by kernel_rfl) (by kernel_rfl) (by kernel_rfl) (fun _ _ _ h => h) (Or.inl ⟨by rfl, ?_⟩) (by assumption) ?_
    rotate_left
    · intro w hSw; (try dsimp only at hSw); go_simp <;> with_reducible rfl
    try simp only [Act.put, List.getElem_toArray, List.getElem_cons_succ, List.getElem_cons_zero, List.setIfInBounds_toArray, List.set_cons_zero, List.set_cons_succ]
    refine wpAnyH_take (i := 11) (v := ?_) rfl (by kernel_rfl) (by kernel_rfl) (by kernel_rfl) (fun _ _ _ h => h) (Or.inl ⟨by rfl, ?_⟩) (by assumption) ?_
    rotate_left
    · intro w hSw; (try dsimp only at hSw); go_simp <;> with_reducible rfl
    try simp only [Act.put, List.getElem_toArray, List.getElem_cons_succ, List.getElem_cons_zero, List.setIfInBounds_toArray, List.set_cons_zero, List.set_cons_succ]
    refine wpAnyH_take (i := 12) (v := ?_) rfl (by kernel_rfl) (by kernel_rfl) (by kernel_rfl) (fun _ _ _ h => h) (Or.inl ⟨by rfl, ?_⟩) (by assumption) ?_
    rotate_left
    · intro w hSw; (try dsimp only at hSw); go_simp <;> with_reducible rfl
    try simp only [Act.put, List.getElem_toArray, List.getElem_cons_succ, List.getElem_cons_zero, List.setIfInBounds_toArray, List.set_cons_zero, List.set_cons_succ]
    refine wpAnyH_take (i := 14) (v := ?_) rfl (by kernel_rfl) (by kernel_rfl) (by kernel_rfl) (fun _ _ _ h => h) (Or.inl ⟨by rfl, ?_⟩) (by assumption) ?_
    rotate_left
    · intro w hSw; (try dsimp only at hSw); go_simp <;> with_reducible rfl
    try simp only [Act.put, List.getElem_toArray, List.getElem_cons_succ, List.getElem_cons_zero, List.setIfInBounds_toArray, List.set_cons_zero, List.set_cons_succ]
    refine wpAnyH_ready (rs := [13]) (by kernel_rfl) (by simp) ?_
    refine AllReadyH.cons rfl (fun K hK => ?_) AllReadyH.nil
    go_simp
    (go_at_call 42; refine (sum_six HP.out HTL.out HTD.out HTX.out ⟨RX.out.rd (v := .slice pP1 nP1 cP1) (xs := LP) (by repeat (first | with_reducible exact List.mem_cons_self | apply List.mem_cons_of_mem)), RX.out.rd (v := .slice pP2 nP2 cP2) (xs := DP) (by repeat (first | with_reducible exact List.mem_cons_self | apply List.mem_cons_of_mem)), RX.out.rd (v := .slice pP3 nP3 cP3) (xs := XP) (by repeat (first | with_reducible exact List.mem_cons_self | apply List.mem_cons_of_mem))⟩ (RX.out.rd (v := vk) (xs := keep) (by repeat (first | with_reducible exact List.mem_cons_self | apply List.mem_cons_of_mem))) (Nat.le_refl _) (Nat.le_refl _) HKN.out).mono ?_; rintro e w15 ⟨pT1, nT1, cT1, pT2, nT2, cT2, pT3, nT3, cT3, rfl, ho, hb⟩; replace RX := Lib.hid (RX.out.new3 hb ho); clear ho hb; clear fR0 fR1 fR2 fP0 fP1 fP2 fZ0 fZ1 fZ2 fW0 fW1 fW2; obtain ⟨⟨fR0, fR1, fR2⟩, -⟩ := RX.out.at (r := w1.heap.size) (a := .int .i64 k) (b := .int .i64 p) (c := .int .i64 q) (by repeat (first | with_reducible exact List.mem_cons_self | apply List.mem_cons_of_mem)); obtain ⟨⟨fP0, fP1, fP2⟩, -⟩ := RX.out.at (r := w5.heap.size) (a := .slice pP1 nP1 cP1) (b := .slice pP2 nP2 cP2) (c := .slice pP3 nP3 cP3) (by repeat (first | with_reducible exact List.mem_cons_self | apply List.mem_cons_of_mem)); obtain ⟨⟨fZ0, fZ1, fZ2⟩, -⟩ := RX.out.at (r := w12.heap.size) (a := .slice pZ1 nZ1 cZ1) (b := .slice pZ2 nZ2 cZ2) (c := .slice pZ3 nZ3 cZ3) (by repeat (first | with_reducible exact List.mem_cons_self | apply List.mem_cons_of_mem)); obtain ⟨⟨fW0, fW1, fW2⟩, -⟩ := RX.out.at (r := rW) (a := .slice pW1 nW1 cW1) (b := .slice pW2 nW2 cW2) (c := .slice pW3 nW3 cW3) (by repeat (first | with_reducible exact List.mem_cons_self | apply List.mem_cons_of_mem)))
    go_wp2_with fail
    refine hK.out _ _ (by (try dsimp only); exact ⟨fR0, fR1, fR2, fP0, fP1, fP2, fZ0, fZ1, fZ2, fW0, fW1, fW2⟩) (fun hHeld => ?_)
    clear hK K
    try simp only [Act.put, List.getElem_toArray, List.getElem_cons_succ, List.getElem_cons_zero, List.setIfInBounds_toArray, List.set_cons_zero, List.set_cons_succ]
    refine wpAnyH_ready (rs := [15]) (by kernel_rfl) (by simp) ?_
    refine AllReadyH.cons rfl (fun K hK => ?_) AllReadyH.nil
    go_simp
    (go_at_call 43; (first | (refine (same_yes ⟨RX.out.rd (v := .slice pT1 nT1 cT1) (xs := LZ) (by repeat (first | with_reducible exact List.mem_cons_self | apply List.mem_cons_of_mem)), RX.out.rd (v := .slice pT2 nT2 cT2) (xs := DZ) (by repeat (first | with_reducible exact List.mem_cons_self | apply List.mem_cons_of_mem)), RX.out.rd (v := .slice pT3 nT3 cT3) (xs := XZ) (by repeat (first | with_reducible exact List.mem_cons_self | apply List.mem_cons_of_mem))⟩ ⟨RX.out.rd (v := .slice pZ1 nZ1 cZ1) (xs := LZ) (by repeat (first | with_reducible exact List.mem_cons_self | apply List.mem_cons_of_mem)), RX.out.rd (v := .slice pZ2 nZ2 cZ2) (xs := DZ) (by repeat (first | with_reducible exact List.mem_cons_self | apply List.mem_cons_of_mem)), RX.out.rd (v := .slice pZ3 nZ3 cZ3) (xs := XZ) (by repeat (first | with_reducible exact List.mem_cons_self | apply List.mem_cons_of_mem))⟩ (Nat.le_refl _) (Nat.le_refl _) HZ.out.len).mono ?_) | (refine (same_yes ⟨RX.out.rd (v := .slice pZ1 nZ1 cZ1) (xs := LZ) (by repeat (first | with_reducible exact List.mem_cons_self | apply List.mem_cons_of_mem)), RX.out.rd (v := .slice pZ2 nZ2 cZ2) (xs := DZ) (by repeat (first | with_reducible exact List.mem_cons_self | apply List.mem_cons_of_mem)), RX.out.rd (v := .slice pZ3 nZ3 cZ3) (xs := XZ) (by repeat (first | with_reducible exact List.mem_cons_self | apply List.mem_cons_of_mem))⟩ ⟨RX.out.rd (v := .slice pW1 nW1 cW1) (xs := LZ) (by repeat (first | with_reducible exact List.mem_cons_self | apply List.mem_cons_of_mem)), RX.out.rd (v := .slice pW2 nW2 cW2) (xs := DZ) (by repeat (first | with_reducible exact List.mem_cons_self | apply List.mem_cons_of_mem)), RX.out.rd (v := .slice pW3 nW3 cW3) (xs := XZ) (by repeat (first | with_reducible exact List.mem_cons_self | apply List.mem_cons_of_mem))⟩ (Nat.le_refl _) (Nat.le_refl _) HZ.out.len).mono ?_)); rintro e w16 ⟨rfl, hb⟩; replace RX := Lib.hid (RX.out.step hb); clear hb; clear fR0 fR1 fR2 fP0 fP1 fP2 fZ0 fZ1 fZ2 fW0 fW1 fW2; obtain ⟨⟨fR0, fR1, fR2⟩, -⟩ := RX.out.at (r := w1.heap.size) (a := .int .i64 k) (b := .int .i64 p) (c := .int .i64 q) (by repeat (first | with_reducible exact List.mem_cons_self | apply List.mem_cons_of_mem)); obtain ⟨⟨fP0, fP1, fP2⟩, -⟩ := RX.out.at (r := w5.heap.size) (a := .slice pP1 nP1 cP1) (b := .slice pP2 nP2 cP2) (c := .slice pP3 nP3 cP3) (by repeat (first | with_reducible exact List.mem_cons_self | apply List.mem_cons_of_mem)); obtain ⟨⟨fZ0, fZ1, fZ2⟩, -⟩ := RX.out.at (r := w12.heap.size) (a := .slice pZ1 nZ1 cZ1) (b := .slice pZ2 nZ2 cZ2) (c := .slice pZ3 nZ3 cZ3) (by repeat (first | with_reducible exact List.mem_cons_self | apply List.mem_cons_of_mem)); obtain ⟨⟨fW0, fW1, fW2⟩, -⟩ := RX.out.at (r := rW) (a := .slice pW1 nW1 cW1) (b := .slice pW2 nW2 cW2) (c := .slice pW3 nW3 cW3) (by repeat (first | with_reducible exact List.mem_cons_self | apply List.mem_cons_of_mem)))
    go_wp2_with fail
    refine hK.out _ _ (by (try dsimp only); exact ⟨fR0, fR1, fR2, fP0, fP1, fP2, fZ0, fZ1, fZ2, fW0, fW1, fW2⟩) (fun hHeld => ?_)
    clear hK K
    try simp only [Act.put, List.getElem_toArray, List.getElem_cons_succ, List.getElem_cons_zero, List.setIfInBounds_toArray, List.set_cons_zero, List.set_cons_succ]
    refine wpAnyH_take (i := 16) (v := ?_) rfl (by kernel_rfl) (by kernel_rfl) (by kernel_rfl) (fun _ _ _ h => h) (Or.inl ⟨by rfl, ?_⟩) (by assumption) ?_
    rotate_left
    · intro w hSw; (try dsimp only at hSw); go_simp <;> with_reducible rfl
    try simp only [Act.put, List.getElem_toArray, List.getElem_cons_succ, List.getElem_cons_zero, List.setIfInBounds_toArray, List.set_cons_zero, List.set_cons_succ]
    refine wpAnyH_take (i := 17) (v := ?_) rfl (by kernel_rfl) (by kernel_rfl) (by kernel_rfl) (fun _ _ _ h => h) (Or.inl ⟨by rfl, ?_⟩) (by assumption) ?_
    rotate_left
    · intro w hSw; (try dsimp only at hSw); go_simp <;> with_reducible rfl
    try simp only [Act.put, List.getElem_toArray, List.getElem_cons_succ, List.getElem_cons_zero, List.setIfInBounds_toArray, List.set_cons_zero, List.set_cons_succ]
    refine wpAnyH_done (by kernel_rfl) ?_ _
    go_wp2
    go_ret
    exact ⟨rfl, RX.out.bel⟩
set_option maxHeartbeats 400000 in
theorem law_assoc_big (a : Option Addr) (n c : Nat) (w : World) (hb : 1048576 < n) (hc : n ≤ 281474976710656) :
    Calls Try.prog 8 #[.slice a n c] w fun e w' => e = .returned (.bool true) ∧ Below w.heap.size w w' := by
  go_enter Try.func8, Try.ntmps8
  go_wp2
  go_ret
  exact ⟨rfl, Below.refl _ _⟩
theorem law_assoc {v : Value} {bs : List UInt8} {w : World} (hr : Rd w.heap.size w v (bytes8 bs)) (hl : bs.length ≤ 281474976710656) :
    Calls Try.prog 8 #[v] w fun e w' => e = .returned (.bool true) ∧ Below w.heap.size w w' := by
  obtain ⟨a, cap, rfl, -⟩ := bytes_cell hr
  by_cases hs : bs.length ≤ 1048576
  · exact law_assoc_small a _ cap bs w rfl hs hr
  · exact law_assoc_big a _ cap w (by omega) hl
end Go.Proofs.Ytfdjlahaiogabab
