
/- The law FnFused, walked. -/
import Derived.Test.YtceidekfcnmeaaaGreatFusedKit
namespace Go.Proofs.YtceidekfcnmeaaaGreat
set_option maxRecDepth 20000
open Go.RowKit

set_option maxHeartbeats 12800000 in
theorem law_fused_small (a : Option Addr) (n c : Nat) (bs : List UInt8) (w : World) (hn : bs.length = n) (hs : n ≤ 1048576) (hr : Rd w.heap.size w (.slice a n c) (bytes8 bs)) :
    Calls Tryz.prog 5 #[.slice a n c] w fun e w' => e = .returned (.bool true) ∧ Below w.heap.size w w' := by
  have HR := Lib.hid hr
  have HN := Lib.hid (show bs.length ≤ 1048576 by omega)
  clear hr hn
  go_enter Tryz.func5, Tryz.ntmps5
  go_wp2_with fail
  refine (make_ring 0 (by omega) HR.out HN.out).mono ?_
  rintro e w1 ⟨k, p, q, rfl, hk, hb⟩
  have HK := Lib.hid hk
  have R1 := Lib.hid (((Rs.start w).step hb).box (.int .i64 k) (.int .i64 p) (.int .i64 q) 24)
  have HZC := Lib.hid (zero_ten hk axes_314 (by decide) (by decide))
  have HZD := Lib.hid (zero_ten hk axes_153 (by decide) (by decide))
  clear hk hb
  obtain ⟨⟨fR0, fR1, fR2⟩, -⟩ := R1.out.at (r := w1.heap.size) (a := .int .i64 k) (b := .int .i64 p) (c := .int .i64 q) (by repeat (first | with_reducible exact List.mem_cons_self | apply List.mem_cons_of_mem))
  obtain ⟨V1, hV⟩ : ∃ W, W = w1.alloc (.cells #[.int .i64 k, .int .i64 p, .int .i64 q] 24) := ⟨_, rfl⟩
  have RV := R1.out
  rw [← hV] at RV
  have hz0 : V1.heap.size = w1.heap.size + 1 := by rw [hV]; simp
  have HV1 := Lib.hid hV
  obtain ⟨U1_0, hU0⟩ : ∃ W, W = V1.alloc (.cells #[.int .i64 3, .int .i64 1, .int .i64 4] 3) := ⟨_, rfl⟩
  have hb0 : Below V1.heap.size V1 U1_0 := by rw [hU0]; exact (Below.refl _ _).alloc (Nat.le_refl _) _
  have hl0 : Rd U1_0.heap.size U1_0 (.slice (some ⟨w1.heap.size + 1, 0, none⟩) 3 3) (ints [3, 1, 4]) := by rw [hU0, ← hz0, World.size_alloc]; exact rd_lits V1 [3, 1, 4] 3
  replace RV := RV.step hb0
  have HU1_0 := Lib.hid hU0
  have hz1 : U1_0.heap.size = w1.heap.size + 1 + 1 := by rw [hU0, World.size_alloc, hz0]
  obtain ⟨U1_1, hU1⟩ : ∃ W, W = U1_0.alloc (.cells #[.int .i64 2, .int .i64 3, .int .i64 2] 3) := ⟨_, rfl⟩
  have hb1 : Below U1_0.heap.size U1_0 U1_1 := by rw [hU1]; exact (Below.refl _ _).alloc (Nat.le_refl _) _
  have hl1 : Rd U1_1.heap.size U1_1 (.slice (some ⟨w1.heap.size + 1 + 1, 0, none⟩) 3 3) (ints [2, 3, 2]) := by rw [hU1, ← hz1, World.size_alloc]; exact rd_lits U1_0 [2, 3, 2] 3
  replace hl0 := (hl0.below hb1 (Nat.le_refl _)).mono hb1.size
  replace RV := RV.step hb1
  have HU1_1 := Lib.hid hU1
  have HL0 := Lib.hid hl0
  have HL1 := Lib.hid hl1
  have RU := Lib.hid RV
  clear hV hz0 RV hU0 hb0 hl0 hU1 hb1 hl1 hz1
  go_wp2_with fail
  rw [← HV1.out, ← HU1_0.out, ← HU1_1.out]
  refine (zero_yes (L := [3, 1, 4]) (D := [2, 3, 2]) HZC.out.1 rfl HZC.out.2 HL0.out HL1.out (Nat.le_refl _)).mono ?_
  clear fR0 fR1 fR2
  rintro e w2 ⟨pC1, nC1, cC1, pC2, nC2, cC2, pC3, nC3, cC3, rfl, ho, hb⟩
  have R2 := Lib.hid ((RU.out.new3 hb ho).box (.slice pC1 nC1 cC1) (.slice pC2 nC2 cC2) (.slice pC3 nC3 cC3) 28)
  clear ho hb RU HV1 HU1_0 HU1_1 HL0 HL1
  obtain ⟨⟨fR0, fR1, fR2⟩, -⟩ := R2.out.at (r := w1.heap.size) (a := .int .i64 k) (b := .int .i64 p) (c := .int .i64 q) (by repeat (first | with_reducible exact List.mem_cons_self | apply List.mem_cons_of_mem))
  obtain ⟨V2, hV⟩ : ∃ W, W = w2.alloc (.cells #[.slice pC1 nC1 cC1, .slice pC2 nC2 cC2, .slice pC3 nC3 cC3] 28) := ⟨_, rfl⟩
  have RV := R2.out
  rw [← hV] at RV
  have hz0 : V2.heap.size = w2.heap.size + 1 := by rw [hV]; simp
  have HV2 := Lib.hid hV
  obtain ⟨U2_0, hU0⟩ : ∃ W, W = V2.alloc (.cells #[.int .i64 1, .int .i64 5, .int .i64 3] 3) := ⟨_, rfl⟩
  have hb0 : Below V2.heap.size V2 U2_0 := by rw [hU0]; exact (Below.refl _ _).alloc (Nat.le_refl _) _
  have hl0 : Rd U2_0.heap.size U2_0 (.slice (some ⟨w2.heap.size + 1, 0, none⟩) 3 3) (ints [1, 5, 3]) := by rw [hU0, ← hz0, World.size_alloc]; exact rd_lits V2 [1, 5, 3] 3
  replace RV := RV.step hb0
  have HU2_0 := Lib.hid hU0
  have hz1 : U2_0.heap.size = w2.heap.size + 1 + 1 := by rw [hU0, World.size_alloc, hz0]
  obtain ⟨U2_1, hU1⟩ : ∃ W, W = U2_0.alloc (.cells #[.int .i64 3, .int .i64 2, .int .i64 2] 3) := ⟨_, rfl⟩
  have hb1 : Below U2_0.heap.size U2_0 U2_1 := by rw [hU1]; exact (Below.refl _ _).alloc (Nat.le_refl _) _
  have hl1 : Rd U2_1.heap.size U2_1 (.slice (some ⟨w2.heap.size + 1 + 1, 0, none⟩) 3 3) (ints [3, 2, 2]) := by rw [hU1, ← hz1, World.size_alloc]; exact rd_lits U2_0 [3, 2, 2] 3
  replace hl0 := (hl0.below hb1 (Nat.le_refl _)).mono hb1.size
  replace RV := RV.step hb1
  have HU2_1 := Lib.hid hU1
  have HL0 := Lib.hid hl0
  have HL1 := Lib.hid hl1
  have RU := Lib.hid RV
  clear hV hz0 RV hU0 hb0 hl0 hU1 hb1 hl1 hz1
  go_wp2_with fail
  rw [← HV2.out, ← HU2_0.out, ← HU2_1.out]
  refine (zero_yes (L := [1, 5, 3]) (D := [3, 2, 2]) HZD.out.1 rfl HZD.out.2 HL0.out HL1.out (Nat.le_refl _)).mono ?_
  clear fR0 fR1 fR2
  rintro e w3 ⟨pD1, nD1, cD1, pD2, nD2, cD2, pD3, nD3, cD3, rfl, ho, hb⟩
  have R3 := Lib.hid ((RU.out.new3 hb ho).box (.slice pD1 nD1 cD1) (.slice pD2 nD2 cD2) (.slice pD3 nD3 cD3) 28)
  clear ho hb RU HV2 HU2_0 HU2_1 HL0 HL1
  obtain ⟨⟨fR0, fR1, fR2⟩, -⟩ := R3.out.at (r := w1.heap.size) (a := .int .i64 k) (b := .int .i64 p) (c := .int .i64 q) (by repeat (first | with_reducible exact List.mem_cons_self | apply List.mem_cons_of_mem))
  obtain ⟨⟨fC0, fC1, fC2⟩, -⟩ := R3.out.at (r := w2.heap.size) (a := .slice pC1 nC1 cC1) (b := .slice pC2 nC2 cC2) (c := .slice pC3 nC3 cC3) (by repeat (first | with_reducible exact List.mem_cons_self | apply List.mem_cons_of_mem))
  go_wp2_with fail
  refine (make_like 10 (by omega) HK.out ((HR.out.below R3.out.bel (Nat.le_refl _)).mono R3.out.bel.size) HN.out ⟨R3.out.rd (v := .slice pC1 nC1 cC1) (xs := [3, 1, 4]) (by repeat (first | with_reducible exact List.mem_cons_self | apply List.mem_cons_of_mem)), R3.out.rd (v := .slice pC2 nC2 cC2) (xs := [2, 3, 2]) (by repeat (first | with_reducible exact List.mem_cons_self | apply List.mem_cons_of_mem)), R3.out.rd (v := .slice pC3 nC3 cC3) (xs := (zeroTenL k p q [2, 3, 2])) (by repeat (first | with_reducible exact List.mem_cons_self | apply List.mem_cons_of_mem))⟩ HZC.out.2).mono ?_
  clear fR0 fR1 fR2 fC0 fC1 fC2
  rintro e w4 ⟨LA, YA, hLA, hYA, pa1, na1, ca1, pa2, na2, ca2, pa3, na3, ca3, rfl, ho, hb⟩
  obtain ⟨XA, hXA⟩ : ∃ l, l = permDataL k q [3, 1, 4] [2, 3, 2] YA LA := ⟨_, rfl⟩
  rw [← hXA, show dimsVia [3, 1, 4] [2, 3, 2] LA = fuA LA from rfl] at ho
  have R4 := Lib.hid ((R3.out.new3 hb ho).box (.slice pa1 na1 ca1) (.slice pa2 na2 ca2) (.slice pa3 na3 ca3) 28)
  have HLA := Lib.hid hLA
  have HYA := Lib.hid hYA
  have HXA := Lib.hid hXA
  clear ho hb hLA hYA hXA R3
  obtain ⟨⟨fR0, fR1, fR2⟩, -⟩ := R4.out.at (r := w1.heap.size) (a := .int .i64 k) (b := .int .i64 p) (c := .int .i64 q) (by repeat (first | with_reducible exact List.mem_cons_self | apply List.mem_cons_of_mem))
  obtain ⟨⟨fD0, fD1, fD2⟩, -⟩ := R4.out.at (r := w3.heap.size) (a := .slice pD1 nD1 cD1) (b := .slice pD2 nD2 cD2) (c := .slice pD3 nD3 cD3) (by repeat (first | with_reducible exact List.mem_cons_self | apply List.mem_cons_of_mem))
  go_wp2_with fail
  refine (make_like 60 (by omega) HK.out ((HR.out.below R4.out.bel (Nat.le_refl _)).mono R4.out.bel.size) HN.out ⟨R4.out.rd (v := .slice pD1 nD1 cD1) (xs := [1, 5, 3]) (by repeat (first | with_reducible exact List.mem_cons_self | apply List.mem_cons_of_mem)), R4.out.rd (v := .slice pD2 nD2 cD2) (xs := [3, 2, 2]) (by repeat (first | with_reducible exact List.mem_cons_self | apply List.mem_cons_of_mem)), R4.out.rd (v := .slice pD3 nD3 cD3) (xs := (zeroTenL k p q [3, 2, 2])) (by repeat (first | with_reducible exact List.mem_cons_self | apply List.mem_cons_of_mem))⟩ HZD.out.2).mono ?_
  clear fR0 fR1 fR2 fD0 fD1 fD2
  rintro e w5 ⟨LB, YB, hLB, hYB, pb1, nb1, cb1, pb2, nb2, cb2, pb3, nb3, cb3, rfl, ho, hb⟩
  obtain ⟨XB, hXB⟩ : ∃ l, l = permDataL k q [1, 5, 3] [3, 2, 2] YB LB := ⟨_, rfl⟩
  rw [← hXB, show dimsVia [1, 5, 3] [3, 2, 2] LB = fuB LB from rfl] at ho
  have R5 := Lib.hid ((R4.out.new3 hb ho).box (.slice pb1 nb1 cb1) (.slice pb2 nb2 cb2) (.slice pb3 nb3 cb3) 28)
  have HLB := Lib.hid hLB
  have HYB := Lib.hid hYB
  have HXB := Lib.hid hXB
  clear ho hb hLB hYB hXB R4
  obtain ⟨Px, Qy, hall⟩ := fused_all HYA.out HYB.out HLA.out HLB.out
  rw [← HXA.out, ← HXB.out] at hall
  have HF := Lib.hid hall
  clear hall
  obtain ⟨⟨fR0, fR1, fR2⟩, -⟩ := R5.out.at (r := w1.heap.size) (a := .int .i64 k) (b := .int .i64 p) (c := .int .i64 q) (by repeat (first | with_reducible exact List.mem_cons_self | apply List.mem_cons_of_mem))
  obtain ⟨⟨fa0, fa1, fa2⟩, -⟩ := R5.out.at (r := w4.heap.size) (a := .slice pa1 na1 ca1) (b := .slice pa2 na2 ca2) (c := .slice pa3 na3 ca3) (by repeat (first | with_reducible exact List.mem_cons_self | apply List.mem_cons_of_mem))
  obtain ⟨V3, hV⟩ : ∃ W, W = w5.alloc (.cells #[.slice pb1 nb1 cb1, .slice pb2 nb2 cb2, .slice pb3 nb3 cb3] 28) := ⟨_, rfl⟩
  have RV := R5.out
  rw [← hV] at RV
  have hz0 : V3.heap.size = w5.heap.size + 1 := by rw [hV]; simp
  have HV3 := Lib.hid hV
  obtain ⟨U3_0, hU0⟩ : ∃ W, W = V3.alloc (.cells #[.int .i64 3, .int .i64 1] 3) := ⟨_, rfl⟩
  have hb0 : Below V3.heap.size V3 U3_0 := by rw [hU0]; exact (Below.refl _ _).alloc (Nat.le_refl _) _
  have hl0 : Rd U3_0.heap.size U3_0 (.slice (some ⟨w5.heap.size + 1, 0, none⟩) 2 2) (ints [3, 1]) := by rw [hU0, ← hz0, World.size_alloc]; exact rd_lits V3 [3, 1] 3
  replace RV := RV.step hb0
  have HU3_0 := Lib.hid hU0
  have HL0 := Lib.hid hl0
  have RU := Lib.hid RV
  clear hV hz0 RV hU0 hb0 hl0
  go_wp2_with fail
  rw [← HV3.out, ← HU3_0.out]
  refine (fuse_yes HF.out.fa HF.out.ta HF.out.la ⟨RU.out.rd (v := .slice pa1 na1 ca1) (xs := LA) (by repeat (first | with_reducible exact List.mem_cons_self | apply List.mem_cons_of_mem)), RU.out.rd (v := .slice pa2 na2 ca2) (xs := (fuA LA)) (by repeat (first | with_reducible exact List.mem_cons_self | apply List.mem_cons_of_mem)), RU.out.rd (v := .slice pa3 na3 ca3) (xs := XA) (by repeat (first | with_reducible exact List.mem_cons_self | apply List.mem_cons_of_mem))⟩ HL0.out (Nat.le_refl _) (Nat.le_refl _) (by decide) (by decide)).mono ?_
  clear fR0 fR1 fR2 fa0 fa1 fa2
  rintro e w6 ⟨px1, nx1, cx1, px2, nx2, cx2, px3, nx3, cx3, rfl, ho, hb⟩
  have R6 := Lib.hid ((RU.out.new3 hb ho).box (.slice px1 nx1 cx1) (.slice px2 nx2 cx2) (.slice px3 nx3 cx3) 28)
  clear ho hb RU HV3 HU3_0 HL0
  obtain ⟨⟨fR0, fR1, fR2⟩, -⟩ := R6.out.at (r := w1.heap.size) (a := .int .i64 k) (b := .int .i64 p) (c := .int .i64 q) (by repeat (first | with_reducible exact List.mem_cons_self | apply List.mem_cons_of_mem))
  obtain ⟨⟨fb0, fb1, fb2⟩, -⟩ := R6.out.at (r := w5.heap.size) (a := .slice pb1 nb1 cb1) (b := .slice pb2 nb2 cb2) (c := .slice pb3 nb3 cb3) (by repeat (first | with_reducible exact List.mem_cons_self | apply List.mem_cons_of_mem))
  obtain ⟨V4, hV⟩ : ∃ W, W = w6.alloc (.cells #[.slice px1 nx1 cx1, .slice px2 nx2 cx2, .slice px3 nx3 cx3] 28) := ⟨_, rfl⟩
  have RV := R6.out
  rw [← hV] at RV
  have hz0 : V4.heap.size = w6.heap.size + 1 := by rw [hV]; simp
  have HV4 := Lib.hid hV
  obtain ⟨U4_0, hU0⟩ : ∃ W, W = V4.alloc (.cells #[.int .i64 3, .int .i64 1] 3) := ⟨_, rfl⟩
  have hb0 : Below V4.heap.size V4 U4_0 := by rw [hU0]; exact (Below.refl _ _).alloc (Nat.le_refl _) _
  have hl0 : Rd U4_0.heap.size U4_0 (.slice (some ⟨w6.heap.size + 1, 0, none⟩) 2 2) (ints [3, 1]) := by rw [hU0, ← hz0, World.size_alloc]; exact rd_lits V4 [3, 1] 3
  replace RV := RV.step hb0
  have HU4_0 := Lib.hid hU0
  have HL0 := Lib.hid hl0
  have RU := Lib.hid RV
  clear hV hz0 RV hU0 hb0 hl0
  go_wp2_with fail
  rw [← HV4.out, ← HU4_0.out]
  refine (fuse_yes HF.out.fb HF.out.tb HF.out.lb ⟨RU.out.rd (v := .slice pb1 nb1 cb1) (xs := LB) (by repeat (first | with_reducible exact List.mem_cons_self | apply List.mem_cons_of_mem)), RU.out.rd (v := .slice pb2 nb2 cb2) (xs := (fuB LB)) (by repeat (first | with_reducible exact List.mem_cons_self | apply List.mem_cons_of_mem)), RU.out.rd (v := .slice pb3 nb3 cb3) (xs := XB) (by repeat (first | with_reducible exact List.mem_cons_self | apply List.mem_cons_of_mem))⟩ HL0.out (Nat.le_refl _) (Nat.le_refl _) (by decide) (by decide)).mono ?_
  clear fR0 fR1 fR2 fb0 fb1 fb2
  rintro e w7 ⟨py1, ny1, cy1, py2, ny2, cy2, py3, ny3, cy3, rfl, ho, hb⟩
  have R7 := Lib.hid ((RU.out.new3 hb ho).box (.slice py1 ny1 cy1) (.slice py2 ny2 cy2) (.slice py3 ny3 cy3) 28)
  clear ho hb RU HV4 HU4_0 HL0
  obtain ⟨⟨fR0, fR1, fR2⟩, -⟩ := R7.out.at (r := w1.heap.size) (a := .int .i64 k) (b := .int .i64 p) (c := .int .i64 q) (by repeat (first | with_reducible exact List.mem_cons_self | apply List.mem_cons_of_mem))
  obtain ⟨⟨fx0, fx1, fx2⟩, -⟩ := R7.out.at (r := w6.heap.size) (a := .slice px1 nx1 cx1) (b := .slice px2 nx2 cx2) (c := .slice px3 nx3 cx3) (by repeat (first | with_reducible exact List.mem_cons_self | apply List.mem_cons_of_mem))
  obtain ⟨V5, hV⟩ : ∃ W, W = w7.alloc (.cells #[.slice py1 ny1 cy1, .slice py2 ny2 cy2, .slice py3 ny3 cy3] 28) := ⟨_, rfl⟩
  have RV := R7.out
  rw [← hV] at RV
  have hz0 : V5.heap.size = w7.heap.size + 1 := by rw [hV]; simp
  have HV5 := Lib.hid hV
  obtain ⟨U5_0, hU0⟩ : ∃ W, W = V5.alloc (.cells #[.int .i64 3, .int .i64 1] 3) := ⟨_, rfl⟩
  have hb0 : Below V5.heap.size V5 U5_0 := by rw [hU0]; exact (Below.refl _ _).alloc (Nat.le_refl _) _
  have hl0 : Rd U5_0.heap.size U5_0 (.slice (some ⟨w7.heap.size + 1, 0, none⟩) 2 2) (ints [3, 1]) := by rw [hU0, ← hz0, World.size_alloc]; exact rd_lits V5 [3, 1] 3
  replace RV := RV.step hb0
  have HU5_0 := Lib.hid hU0
  have hz1 : U5_0.heap.size = w7.heap.size + 1 + 1 := by rw [hU0, World.size_alloc, hz0]
  obtain ⟨U5_1, hU1⟩ : ∃ W, W = U5_0.alloc (.cells #[.int .i64 2, .int .i64 3] 3) := ⟨_, rfl⟩
  have hb1 : Below U5_0.heap.size U5_0 U5_1 := by rw [hU1]; exact (Below.refl _ _).alloc (Nat.le_refl _) _
  have hl1 : Rd U5_1.heap.size U5_1 (.slice (some ⟨w7.heap.size + 1 + 1, 0, none⟩) 2 2) (ints [2, 3]) := by rw [hU1, ← hz1, World.size_alloc]; exact rd_lits U5_0 [2, 3] 3
  replace hl0 := (hl0.below hb1 (Nat.le_refl _)).mono hb1.size
  replace RV := RV.step hb1
  have HU5_1 := Lib.hid hU1
  have HL0 := Lib.hid hl0
  have HL1 := Lib.hid hl1
  have RU := Lib.hid RV
  clear hV hz0 RV hU0 hb0 hl0 hU1 hb1 hl1 hz1
  go_wp2_with fail
  rw [← HV5.out, ← HU5_0.out, ← HU5_1.out]
  refine (split_yes HF.out.sp HF.out.tx HF.out.ls ⟨RU.out.rd (v := .slice px1 nx1 cx1) (xs := [4, 9]) (by repeat (first | with_reducible exact List.mem_cons_self | apply List.mem_cons_of_mem)), RU.out.rd (v := .slice px2 nx2 cx2) (xs := [2, 6]) (by repeat (first | with_reducible exact List.mem_cons_self | apply List.mem_cons_of_mem)), RU.out.rd (v := .slice px3 nx3 cx3) (xs := Px) (by repeat (first | with_reducible exact List.mem_cons_self | apply List.mem_cons_of_mem))⟩ HL0.out HL1.out (Nat.le_refl _) (Nat.le_refl _) (Nat.le_refl _) (by decide) (by decide) (by intro z hz; simp at hz; rcases hz with rfl | rfl <;> (unfold Go.Proofs.YtceidekfcnmeaaaGreat.inI; omega))).mono ?_
  clear fR0 fR1 fR2 fx0 fx1 fx2
  rintro e w8 ⟨pz1, nz1, cz1, pz2, nz2, cz2, pz3, nz3, cz3, rfl, ho, hb⟩
  have R8 := Lib.hid ((RU.out.new3 hb ho).box (.slice pz1 nz1 cz1) (.slice pz2 nz2 cz2) (.slice pz3 nz3 cz3) 28)
  clear ho hb RU HV5 HU5_0 HU5_1 HL0 HL1
  obtain ⟨G, hG⟩ : ∃ l, l = pairL k p q LA (fuA LA) XA LB (fuB LB) XB [4, 5] := ⟨_, rfl⟩
  have HG := Lib.hid hG
  have HG2 : Hid (pairL k p q [4, 9] [2, 6] Px [5, 9] [2, 6] Qy [4, 5] = G) := Lib.hid (by rw [hG, HF.out.eq])
  clear hG
  obtain ⟨⟨fR0, fR1, fR2⟩, -⟩ := R8.out.at (r := w1.heap.size) (a := .int .i64 k) (b := .int .i64 p) (c := .int .i64 q) (by repeat (first | with_reducible exact List.mem_cons_self | apply List.mem_cons_of_mem))
  obtain ⟨⟨fa0, fa1, fa2⟩, -⟩ := R8.out.at (r := w4.heap.size) (a := .slice pa1 na1 ca1) (b := .slice pa2 na2 ca2) (c := .slice pa3 na3 ca3) (by repeat (first | with_reducible exact List.mem_cons_self | apply List.mem_cons_of_mem))
  obtain ⟨⟨fb0, fb1, fb2⟩, -⟩ := R8.out.at (r := w5.heap.size) (a := .slice pb1 nb1 cb1) (b := .slice pb2 nb2 cb2) (c := .slice pb3 nb3 cb3) (by repeat (first | with_reducible exact List.mem_cons_self | apply List.mem_cons_of_mem))
  obtain ⟨V6, hV⟩ : ∃ W, W = w8.alloc (.cells #[.slice pz1 nz1 cz1, .slice pz2 nz2 cz2, .slice pz3 nz3 cz3] 28) := ⟨_, rfl⟩
  have RV := R8.out
  rw [← hV] at RV
  have hz0 : V6.heap.size = w8.heap.size + 1 := by rw [hV]; simp
  have HV6 := Lib.hid hV
  obtain ⟨U6_0, hU0⟩ : ∃ W, W = V6.alloc (.cells #[.int .i64 4, .int .i64 5] 3) := ⟨_, rfl⟩
  have hb0 : Below V6.heap.size V6 U6_0 := by rw [hU0]; exact (Below.refl _ _).alloc (Nat.le_refl _) _
  have hl0 : Rd U6_0.heap.size U6_0 (.slice (some ⟨w8.heap.size + 1, 0, none⟩) 2 2) (ints [4, 5]) := by rw [hU0, ← hz0, World.size_alloc]; exact rd_lits V6 [4, 5] 3
  replace RV := RV.step hb0
  have HU6_0 := Lib.hid hU0
  have HL0 := Lib.hid hl0
  have RU := Lib.hid RV
  clear hV hz0 RV hU0 hb0 hl0
  go_wp2_with fail
  rw [← HV6.out, ← HU6_0.out]
  refine (pairf_yes HF.out.pu HF.out.ta HF.out.tb HF.out.lu HG.out.symm ⟨RU.out.rd (v := .slice pa1 na1 ca1) (xs := LA) (by repeat (first | with_reducible exact List.mem_cons_self | apply List.mem_cons_of_mem)), RU.out.rd (v := .slice pa2 na2 ca2) (xs := (fuA LA)) (by repeat (first | with_reducible exact List.mem_cons_self | apply List.mem_cons_of_mem)), RU.out.rd (v := .slice pa3 na3 ca3) (xs := XA) (by repeat (first | with_reducible exact List.mem_cons_self | apply List.mem_cons_of_mem))⟩ ⟨RU.out.rd (v := .slice pb1 nb1 cb1) (xs := LB) (by repeat (first | with_reducible exact List.mem_cons_self | apply List.mem_cons_of_mem)), RU.out.rd (v := .slice pb2 nb2 cb2) (xs := (fuB LB)) (by repeat (first | with_reducible exact List.mem_cons_self | apply List.mem_cons_of_mem)), RU.out.rd (v := .slice pb3 nb3 cb3) (xs := XB) (by repeat (first | with_reducible exact List.mem_cons_self | apply List.mem_cons_of_mem))⟩ HL0.out (Nat.le_refl _) (Nat.le_refl _) (Nat.le_refl _) (by decide)).mono ?_
  clear fR0 fR1 fR2 fa0 fa1 fa2 fb0 fb1 fb2
  rintro e w9 ⟨pu1, nu1, cu1, pu2, nu2, cu2, pu3, nu3, cu3, rfl, ho, hb⟩
  have R9 := Lib.hid ((RU.out.new3 hb ho).box (.slice pu1 nu1 cu1) (.slice pu2 nu2 cu2) (.slice pu3 nu3 cu3) 28)
  clear ho hb RU HV6 HU6_0 HL0
  obtain ⟨⟨fR0, fR1, fR2⟩, -⟩ := R9.out.at (r := w1.heap.size) (a := .int .i64 k) (b := .int .i64 p) (c := .int .i64 q) (by repeat (first | with_reducible exact List.mem_cons_self | apply List.mem_cons_of_mem))
  obtain ⟨⟨fx0, fx1, fx2⟩, -⟩ := R9.out.at (r := w6.heap.size) (a := .slice px1 nx1 cx1) (b := .slice px2 nx2 cx2) (c := .slice px3 nx3 cx3) (by repeat (first | with_reducible exact List.mem_cons_self | apply List.mem_cons_of_mem))
  obtain ⟨⟨fy0, fy1, fy2⟩, -⟩ := R9.out.at (r := w7.heap.size) (a := .slice py1 ny1 cy1) (b := .slice py2 ny2 cy2) (c := .slice py3 ny3 cy3) (by repeat (first | with_reducible exact List.mem_cons_self | apply List.mem_cons_of_mem))
  obtain ⟨V7, hV⟩ : ∃ W, W = w9.alloc (.cells #[.slice pu1 nu1 cu1, .slice pu2 nu2 cu2, .slice pu3 nu3 cu3] 28) := ⟨_, rfl⟩
  have RV := R9.out
  rw [← hV] at RV
  have hz0 : V7.heap.size = w9.heap.size + 1 := by rw [hV]; simp
  have HV7 := Lib.hid hV
  obtain ⟨U7_0, hU0⟩ : ∃ W, W = V7.alloc (.cells #[.int .i64 4, .int .i64 5] 3) := ⟨_, rfl⟩
  have hb0 : Below V7.heap.size V7 U7_0 := by rw [hU0]; exact (Below.refl _ _).alloc (Nat.le_refl _) _
  have hl0 : Rd U7_0.heap.size U7_0 (.slice (some ⟨w9.heap.size + 1, 0, none⟩) 2 2) (ints [4, 5]) := by rw [hU0, ← hz0, World.size_alloc]; exact rd_lits V7 [4, 5] 3
  replace RV := RV.step hb0
  have HU7_0 := Lib.hid hU0
  have HL0 := Lib.hid hl0
  have RU := Lib.hid RV
  clear hV hz0 RV hU0 hb0 hl0
  go_wp2_with fail
  rw [← HV7.out, ← HU7_0.out]
  refine (pairf_yes HF.out.pv HF.out.tx HF.out.ty HF.out.lv HG2.out ⟨RU.out.rd (v := .slice px1 nx1 cx1) (xs := [4, 9]) (by repeat (first | with_reducible exact List.mem_cons_self | apply List.mem_cons_of_mem)), RU.out.rd (v := .slice px2 nx2 cx2) (xs := [2, 6]) (by repeat (first | with_reducible exact List.mem_cons_self | apply List.mem_cons_of_mem)), RU.out.rd (v := .slice px3 nx3 cx3) (xs := Px) (by repeat (first | with_reducible exact List.mem_cons_self | apply List.mem_cons_of_mem))⟩ ⟨RU.out.rd (v := .slice py1 ny1 cy1) (xs := [5, 9]) (by repeat (first | with_reducible exact List.mem_cons_self | apply List.mem_cons_of_mem)), RU.out.rd (v := .slice py2 ny2 cy2) (xs := [2, 6]) (by repeat (first | with_reducible exact List.mem_cons_self | apply List.mem_cons_of_mem)), RU.out.rd (v := .slice py3 ny3 cy3) (xs := Qy) (by repeat (first | with_reducible exact List.mem_cons_self | apply List.mem_cons_of_mem))⟩ HL0.out (Nat.le_refl _) (Nat.le_refl _) (Nat.le_refl _) (by decide)).mono ?_
  clear fR0 fR1 fR2 fx0 fx1 fx2 fy0 fy1 fy2
  rintro e w10 ⟨pv1, nv1, cv1, pv2, nv2, cv2, pv3, nv3, cv3, rfl, ho, hb⟩
  have R10 := Lib.hid ((RU.out.new3 hb ho).box (.slice pv1 nv1 cv1) (.slice pv2 nv2 cv2) (.slice pv3 nv3 cv3) 28)
  clear ho hb RU HV7 HU7_0 HL0
  have HGL := Lib.hid (pair_short HF.out.pv HF.out.lv HG2.out)
  obtain ⟨⟨fR0, fR1, fR2⟩, -⟩ := R10.out.at (r := w1.heap.size) (a := .int .i64 k) (b := .int .i64 p) (c := .int .i64 q) (by repeat (first | with_reducible exact List.mem_cons_self | apply List.mem_cons_of_mem))
  obtain ⟨⟨fz0, fz1, fz2⟩, -⟩ := R10.out.at (r := w8.heap.size) (a := .slice pz1 nz1 cz1) (b := .slice pz2 nz2 cz2) (c := .slice pz3 nz3 cz3) (by repeat (first | with_reducible exact List.mem_cons_self | apply List.mem_cons_of_mem))
  obtain ⟨⟨fa0, fa1, fa2⟩, -⟩ := R10.out.at (r := w4.heap.size) (a := .slice pa1 na1 ca1) (b := .slice pa2 na2 ca2) (c := .slice pa3 na3 ca3) (by repeat (first | with_reducible exact List.mem_cons_self | apply List.mem_cons_of_mem))
  go_wp2_with fail
  refine (same_lin HF.out.sz HF.out.tz HF.out.ta ⟨R10.out.rd (v := .slice pz1 nz1 cz1) (xs := [4, 3, 1]) (by repeat (first | with_reducible exact List.mem_cons_self | apply List.mem_cons_of_mem)), R10.out.rd (v := .slice pz2 nz2 cz2) (xs := [2, 2, 3]) (by repeat (first | with_reducible exact List.mem_cons_self | apply List.mem_cons_of_mem)), R10.out.rd (v := .slice pz3 nz3 cz3) (xs := Px) (by repeat (first | with_reducible exact List.mem_cons_self | apply List.mem_cons_of_mem))⟩ ⟨R10.out.rd (v := .slice pa1 na1 ca1) (xs := LA) (by repeat (first | with_reducible exact List.mem_cons_self | apply List.mem_cons_of_mem)), R10.out.rd (v := .slice pa2 na2 ca2) (xs := (fuA LA)) (by repeat (first | with_reducible exact List.mem_cons_self | apply List.mem_cons_of_mem)), R10.out.rd (v := .slice pa3 na3 ca3) (xs := XA) (by repeat (first | with_reducible exact List.mem_cons_self | apply List.mem_cons_of_mem))⟩ (Nat.le_refl _) (Nat.le_refl _)).mono ?_
  clear fR0 fR1 fR2 fz0 fz1 fz2 fa0 fa1 fa2
  rintro e w11 ⟨rfl, hb⟩
  have R11 := Lib.hid (R10.out.step hb)
  clear hb R10
  obtain ⟨⟨fu0, fu1, fu2⟩, -⟩ := R11.out.at (r := w9.heap.size) (a := .slice pu1 nu1 cu1) (b := .slice pu2 nu2 cu2) (c := .slice pu3 nu3 cu3) (by repeat (first | with_reducible exact List.mem_cons_self | apply List.mem_cons_of_mem))
  obtain ⟨⟨fv0, fv1, fv2⟩, -⟩ := R11.out.at (r := w10.heap.size) (a := .slice pv1 nv1 cv1) (b := .slice pv2 nv2 cv2) (c := .slice pv3 nv3 cv3) (by repeat (first | with_reducible exact List.mem_cons_self | apply List.mem_cons_of_mem))
  go_wp2_with fail
  refine (same_yes ⟨R11.out.rd (v := .slice pu1 nu1 cu1) (xs := [4, 5]) (by repeat (first | with_reducible exact List.mem_cons_self | apply List.mem_cons_of_mem)), R11.out.rd (v := .slice pu2 nu2 cu2) (xs := [2, 2]) (by repeat (first | with_reducible exact List.mem_cons_self | apply List.mem_cons_of_mem)), R11.out.rd (v := .slice pu3 nu3 cu3) (xs := G) (by repeat (first | with_reducible exact List.mem_cons_self | apply List.mem_cons_of_mem))⟩ ⟨R11.out.rd (v := .slice pv1 nv1 cv1) (xs := [4, 5]) (by repeat (first | with_reducible exact List.mem_cons_self | apply List.mem_cons_of_mem)), R11.out.rd (v := .slice pv2 nv2 cv2) (xs := [2, 2]) (by repeat (first | with_reducible exact List.mem_cons_self | apply List.mem_cons_of_mem)), R11.out.rd (v := .slice pv3 nv3 cv3) (xs := G) (by repeat (first | with_reducible exact List.mem_cons_self | apply List.mem_cons_of_mem))⟩ (Nat.le_refl _) (Nat.le_refl _) HGL.out).mono ?_
  clear fu0 fu1 fu2 fv0 fv1 fv2
  rintro e w12 ⟨rfl, hb⟩
  have R12 := Lib.hid (R11.out.step hb)
  clear hb R11
  obtain ⟨⟨fx0, fx1, fx2⟩, -⟩ := R12.out.at (r := w6.heap.size) (a := .slice px1 nx1 cx1) (b := .slice px2 nx2 cx2) (c := .slice px3 nx3 cx3) (by repeat (first | with_reducible exact List.mem_cons_self | apply List.mem_cons_of_mem))
  go_wp2_with fail
  refine (sizef_yes (c := 12) HF.out.tx (size_of axes_49 (by decide)) ⟨R12.out.rd (v := .slice px1 nx1 cx1) (xs := [4, 9]) (by repeat (first | with_reducible exact List.mem_cons_self | apply List.mem_cons_of_mem)), R12.out.rd (v := .slice px2 nx2 cx2) (xs := [2, 6]) (by repeat (first | with_reducible exact List.mem_cons_self | apply List.mem_cons_of_mem)), R12.out.rd (v := .slice px3 nx3 cx3) (xs := Px) (by repeat (first | with_reducible exact List.mem_cons_self | apply List.mem_cons_of_mem))⟩ (Nat.le_refl _)).mono ?_
  clear fx0 fx1 fx2
  rintro e w13 ⟨rfl, hb⟩
  have R13 := Lib.hid (R12.out.step hb)
  clear hb R12
  go_wp2
  go_ret
  exact ⟨rfl, R13.out.bel⟩
set_option maxHeartbeats 400000 in
theorem law_fused_big (a : Option Addr) (n c : Nat) (w : World) (hb : 1048576 < n) (hc : n ≤ 281474976710656) :
    Calls Tryz.prog 5 #[.slice a n c] w fun e w' => e = .returned (.bool true) ∧ Below w.heap.size w w' := by
  go_enter Tryz.func5, Tryz.ntmps5
  go_wp2
  go_ret
  exact ⟨rfl, Below.refl _ _⟩
theorem law_fused {v : Value} {bs : List UInt8} {w : World} (hr : Rd w.heap.size w v (bytes8 bs)) (hl : bs.length ≤ 281474976710656) :
    Calls Tryz.prog 5 #[v] w fun e w' => e = .returned (.bool true) ∧ Below w.heap.size w w' := by
  obtain ⟨a, cap, rfl, -⟩ := bytes_cell hr
  by_cases hs : bs.length ≤ 1048576
  · exact law_fused_small a _ cap bs w rfl hs hr
  · exact law_fused_big a _ cap w (by omega) hl
end Go.Proofs.YtceidekfcnmeaaaGreat
