
/- The law FnPairs, walked. -/
import Derived.Test.YtfdjlahaiogababAssocKit
import Derived.Test.YtfdjlahaiogababPermutedMath
import Derived.Test.YtfdjlahaiogababSizeJoin
import Derived.Deep.RegionHeld3
import Derived.Deep.DeepCutAuto
namespace Go.Proofs.Ytfdjlahaiogabab
set_option maxRecDepth 20000
open Go.RowKit
theorem pairs_same {k p q : Int} {L D X L' D' X' : List Int} (keep : List Int) (ht : tensorB k p q L D X = true) (ht' : tensorB k p q L' D' X' = true) (h : LabV 6 3 L D) (h' : LabV 6 3 L' D') :
    sameB k p q (keepL (joinL L L') keep) (keepD (joinL L L') (joinD L D L' D') keep) (pairL k p q L D X L' D' X' keep) (keepL (joinL L' L) keep) (keepD (joinL L' L) (joinD L' D' L D) keep) (pairL k p q L' D' X' L D X keep) = true := by
  have hr := (tensorB_inv ht).1
  obtain ⟨wd, hw, -, -⟩ := width_pos hr
  have hb := pairs_ok keep ht ht' h h'
  obtain ⟨G, e⟩ := pair_swap keep hr hw (TenF.of ht hw) (TenF.of ht' hw) (h.fit h')
  have hs := (same_perm (pair_ten hb) G.labels).2.2.2
  rw [G.dims, ← e] at hs
  exact hs
theorem keep_labels {L L' keep : List Int} {n m : Nat} {D D' : List Int} (h : LabV 6 n L D) (h' : LabV 6 m L' D') : ∀ x ∈ keepL (joinL L L') keep, 0 ≤ x ∧ x < 6 := fun x hx => by
  rcases join_mem (keep_sub x hx) with h1 | h1
  · exact h.rg x h1
  · exact h'.rg x h1


theorem make_sixV {v : Value} {bts : List UInt8} {k p q : Int} {w : World} (n : Nat) (hn : n ≤ 1000) (hk : ringB k p q = true) (hr : Rd w.heap.size w v (bytes8 bts)) (hl : bts.length ≤ 1048576) :
    Calls Try.prog 36 #[v, .int .i64 n, ringV k p q] w fun e w' => ∃ L D X, LabV 6 3 L D ∧ tensorB k p q L D X = true ∧ NewS w L D X id e w' := by
  refine (make_ten n hn hk hr hl).mono ?_
  rintro e w1 ⟨lv, dv, xv, L, D, X, rfl, hv, ht, ho, hb⟩
  exact ⟨L, D, X, hv, ht, NewS.of (f := id) ho hb⟩
set_option maxHeartbeats 6400000 in
theorem law_pairs_small (a : Option Addr) (n c : Nat) (bs : List UInt8) (w : World) (hn : bs.length = n) (hs : n ≤ 1048576) (hr : Rd w.heap.size w (.slice a n c) (bytes8 bs)) :
    Calls Try.prog 7 #[.slice a n c] w fun e w' => e = .returned (.bool true) ∧ Below w.heap.size w w' := by
  have HR := Lib.hid hr
  have HN := Lib.hid (show bs.length ≤ 1048576 by omega)
  clear hr hn
  go_enter Try.func7, Try.ntmps7
  go_wp2_with fail
  refine (make_ring 0 (by omega) HR.out HN.out).mono ?_
  rintro e w1 ⟨k, p, q, rfl, hk, hb⟩
  obtain ⟨wd, hwd, -⟩ := width_pos hk
  have HK := Lib.hid hk
  have HW := Lib.hid hwd
  have R1 := Lib.hid (((Rs.start w).step hb).box (.int .i64 k) (.int .i64 p) (.int .i64 q) 31)
  clear hk hb hwd
  go_wp2_with fail
  refine (make_sixV 10 (by omega) HK.out ((HR.out.below R1.out.bel (Nat.le_refl _)).mono R1.out.bel.size) HN.out).mono ?_
  rintro e w2 ⟨LA, DA, XA, hvA, htA, pA1, nA1, cA1, pA2, nA2, cA2, pA3, nA3, cA3, rfl, ho, hb⟩
  have R2 := Lib.hid ((R1.out.new3 hb ho).box (.slice pA1 nA1 cA1) (.slice pA2 nA2 cA2) (.slice pA3 nA3 cA3) 28)
  have HVA := Lib.hid hvA
  have HTA := Lib.hid htA
  clear hvA htA ho hb R1
  obtain ⟨⟨fR0, fR1, fR2⟩, -⟩ := R2.out.at (r := w1.heap.size) (a := .int .i64 k) (b := .int .i64 p) (c := .int .i64 q) (by repeat (first | with_reducible exact List.mem_cons_self | apply List.mem_cons_of_mem))
  go_wp2_with fail
  refine (make_sixV 60 (by omega) HK.out ((HR.out.below R2.out.bel (Nat.le_refl _)).mono R2.out.bel.size) HN.out).mono ?_
  rintro e w3 ⟨LB, DB, XB, hvB, htB, pB1, nB1, cB1, pB2, nB2, cB2, pB3, nB3, cB3, rfl, ho, hb⟩
  have R3 := Lib.hid ((R2.out.new3 hb ho).box (.slice pB1 nB1 cB1) (.slice pB2 nB2 cB2) (.slice pB3 nB3 cB3) 28)
  have HVB := Lib.hid hvB
  have HTB := Lib.hid htB
  clear hvB htB ho hb R2
  clear fR0 fR1 fR2
  go_wp2_with fail
  refine (make_some 110 6 (by omega) (by omega) ((HR.out.below R3.out.bel (Nat.le_refl _)).mono R3.out.bel.size) HN.out).mono ?_
  rintro e w4 ⟨vk, keep, rfl, -, hkl, ho, hb⟩
  have R4 := Lib.hid (R3.out.new hb ho)
  have HKN : Hid (keep.length ≤ 4096) := Lib.hid (by omega)
  clear ho hb R3 hkl
  have HA := Lib.hid (Ten6.of HW.out HVA.out.six HTA.out)
  have HB := Lib.hid (Ten6.of HW.out HVB.out.six HTB.out)
  obtain ⟨LX, hL⟩ : ∃ l, l = keepL (joinL LA LB) keep := ⟨_, rfl⟩
  obtain ⟨DX, hD⟩ : ∃ l, l = keepD (joinL LA LB) (joinD LA DA LB DB) keep := ⟨_, rfl⟩
  obtain ⟨XX, hX⟩ : ∃ l, l = pairL k p q LA DA XA LB DB XB keep := ⟨_, rfl⟩
  have HX : Hid (Ten6 k p q wd LX DX XX) := Lib.hid (by rw [hL, hD, hX]; exact (HA.out.pair keep HW.out HB.out).2)
  have HXL := Lib.hid hL
  have HXD := Lib.hid hD
  have HXX := Lib.hid hX
  clear hL hD hX
  obtain ⟨LY, hL⟩ : ∃ l, l = keepL (joinL LB LA) keep := ⟨_, rfl⟩
  obtain ⟨DY, hD⟩ : ∃ l, l = keepD (joinL LB LA) (joinD LB DB LA DA) keep := ⟨_, rfl⟩
  obtain ⟨XY, hX⟩ : ∃ l, l = pairL k p q LB DB XB LA DA XA keep := ⟨_, rfl⟩
  have HY : Hid (Ten6 k p q wd LY DY XY) := Lib.hid (by rw [hL, hD, hX]; exact (HB.out.pair keep HW.out HA.out).2)
  have HYL := Lib.hid hL
  have HYD := Lib.hid hD
  have HYX := Lib.hid hX
  clear hL hD hX
  have hsm := pairs_same keep HTA.out HTB.out HVA.out HVB.out
  rw [← HXL.out, ← HXD.out, ← HXX.out, ← HYL.out, ← HYD.out, ← HYX.out] at hsm
  have HSM := Lib.hid hsm
  have hjs := join_size keep HVA.out HVB.out
  rw [← HXD.out] at hjs
  have hsz := HX.out.lab.size
  obtain ⟨z, hz⟩ : ∃ z, z = joinSizeI LA DA LB DB := ⟨_, rfl⟩
  obtain ⟨sz, hsz2⟩ : ∃ z, z = prodL DX := ⟨_, rfl⟩
  have hz2 : joinSizeI LB DB LA DA = z := by rw [hz]; exact hjs.1.symm
  have hle : sz ≤ z := by rw [hsz2, hz]; exact hjs.2
  rw [← hsz2] at hsz
  have HJ := Lib.hid (fun (W : World) (args : Array Value) (ha : RdT W.heap.size W (.slice pA1 nA1 cA1) (.slice pA2 nA2 cA2) (.slice pA3 nA3 cA3) LA DA XA) (hb : RdT W.heap.size W (.slice pB1 nB1 cB1) (.slice pB2 nB2 cB2) (.slice pB3 nB3 cB3) LB DB XB) (h : args = #[tenV (.slice pA1 nA1 cA1) (.slice pA2 nA2 cA2) (.slice pA3 nA3 cA3), tenV (.slice pB1 nB1 cB1) (.slice pB2 nB2 cB2) (.slice pB3 nB3 cB3)] ∨ args = #[tenV (.slice pB1 nB1 cB1) (.slice pB2 nB2 cB2) (.slice pB3 nB3 cB3), tenV (.slice pA1 nA1 cA1) (.slice pA2 nA2 cA2) (.slice pA3 nA3 cA3)]) => (show Calls Try.prog 34 args W fun e w' => e = .returned (.int .i64 z) ∧ Below W.heap.size W w' by
    rcases h with rfl | rfl
    · have h := join_size_impl ha hb (Nat.le_refl _) (Nat.le_refl _) HA.out.len HB.out.len HA.out.ints HB.out.ints
      rw [← hz] at h
      exact h
    · have h := join_size_impl hb ha (Nat.le_refl _) (Nat.le_refl _) HB.out.len HA.out.len HB.out.ints HA.out.ints
      rw [hz2] at h
      exact h))
  have HTS := Lib.hid (fun (W : World) (B : Nat) (lv dv xv : Value) (ha : RdT B W lv dv xv LX DX XX) (hB : B ≤ W.heap.size) => size_impl ha hB HX.out.len HX.out.ints)
  rw [hsz] at HTS
  clear hsm hjs hsz hz hsz2 hz2
  obtain ⟨⟨fR0, fR1, fR2⟩, -⟩ := R4.out.at (r := w1.heap.size) (a := .int .i64 k) (b := .int .i64 p) (c := .int .i64 q) (by repeat (first | with_reducible exact List.mem_cons_self | apply List.mem_cons_of_mem))
  obtain ⟨⟨fA0, fA1, fA2⟩, -⟩ := R4.out.at (r := w2.heap.size) (a := .slice pA1 nA1 cA1) (b := .slice pA2 nA2 cA2) (c := .slice pA3 nA3 cA3) (by repeat (first | with_reducible exact List.mem_cons_self | apply List.mem_cons_of_mem))
  obtain ⟨⟨fB0, fB1, fB2⟩, -⟩ := R4.out.at (r := w3.heap.size) (a := .slice pB1 nB1 cB1) (b := .slice pB2 nB2 cB2) (c := .slice pB3 nB3 cB3) (by repeat (first | with_reducible exact List.mem_cons_self | apply List.mem_cons_of_mem))
  go_wp2_with fail
  refine (pair_six HW.out HA.out HB.out HXL.out HXD.out HXX.out ⟨R4.out.rd (v := .slice pA1 nA1 cA1) (xs := LA) (by repeat (first | with_reducible exact List.mem_cons_self | apply List.mem_cons_of_mem)), R4.out.rd (v := .slice pA2 nA2 cA2) (xs := DA) (by repeat (first | with_reducible exact List.mem_cons_self | apply List.mem_cons_of_mem)), R4.out.rd (v := .slice pA3 nA3 cA3) (xs := XA) (by repeat (first | with_reducible exact List.mem_cons_self | apply List.mem_cons_of_mem))⟩ ⟨R4.out.rd (v := .slice pB1 nB1 cB1) (xs := LB) (by repeat (first | with_reducible exact List.mem_cons_self | apply List.mem_cons_of_mem)), R4.out.rd (v := .slice pB2 nB2 cB2) (xs := DB) (by repeat (first | with_reducible exact List.mem_cons_self | apply List.mem_cons_of_mem)), R4.out.rd (v := .slice pB3 nB3 cB3) (xs := XB) (by repeat (first | with_reducible exact List.mem_cons_self | apply List.mem_cons_of_mem))⟩ (R4.out.rd (v := vk) (xs := keep) (by repeat (first | with_reducible exact List.mem_cons_self | apply List.mem_cons_of_mem))) (Nat.le_refl _) (Nat.le_refl _) (Nat.le_refl _) HKN.out).mono ?_
  rintro e w5 ⟨pX1, nX1, cX1, pX2, nX2, cX2, pX3, nX3, cX3, rfl, ho, hb⟩
  have R5 := Lib.hid ((R4.out.new3 hb ho).box (.slice pX1 nX1 cX1) (.slice pX2 nX2 cX2) (.slice pX3 nX3 cX3) 28)
  clear ho hb R4
  clear fR0 fR1 fR2 fA0 fA1 fA2 fB0 fB1 fB2
  obtain ⟨⟨fR0, fR1, fR2⟩, -⟩ := R5.out.at (r := w1.heap.size) (a := .int .i64 k) (b := .int .i64 p) (c := .int .i64 q) (by repeat (first | with_reducible exact List.mem_cons_self | apply List.mem_cons_of_mem))
  obtain ⟨⟨fA0, fA1, fA2⟩, -⟩ := R5.out.at (r := w2.heap.size) (a := .slice pA1 nA1 cA1) (b := .slice pA2 nA2 cA2) (c := .slice pA3 nA3 cA3) (by repeat (first | with_reducible exact List.mem_cons_self | apply List.mem_cons_of_mem))
  obtain ⟨⟨fB0, fB1, fB2⟩, -⟩ := R5.out.at (r := w3.heap.size) (a := .slice pB1 nB1 cB1) (b := .slice pB2 nB2 cB2) (c := .slice pB3 nB3 cB3) (by repeat (first | with_reducible exact List.mem_cons_self | apply List.mem_cons_of_mem))
  go_wp2_with fail
  refine (pair_six HW.out HB.out HA.out HYL.out HYD.out HYX.out ⟨R5.out.rd (v := .slice pB1 nB1 cB1) (xs := LB) (by repeat (first | with_reducible exact List.mem_cons_self | apply List.mem_cons_of_mem)), R5.out.rd (v := .slice pB2 nB2 cB2) (xs := DB) (by repeat (first | with_reducible exact List.mem_cons_self | apply List.mem_cons_of_mem)), R5.out.rd (v := .slice pB3 nB3 cB3) (xs := XB) (by repeat (first | with_reducible exact List.mem_cons_self | apply List.mem_cons_of_mem))⟩ ⟨R5.out.rd (v := .slice pA1 nA1 cA1) (xs := LA) (by repeat (first | with_reducible exact List.mem_cons_self | apply List.mem_cons_of_mem)), R5.out.rd (v := .slice pA2 nA2 cA2) (xs := DA) (by repeat (first | with_reducible exact List.mem_cons_self | apply List.mem_cons_of_mem)), R5.out.rd (v := .slice pA3 nA3 cA3) (xs := XA) (by repeat (first | with_reducible exact List.mem_cons_self | apply List.mem_cons_of_mem))⟩ (R5.out.rd (v := vk) (xs := keep) (by repeat (first | with_reducible exact List.mem_cons_self | apply List.mem_cons_of_mem))) (Nat.le_refl _) (Nat.le_refl _) (Nat.le_refl _) HKN.out).mono ?_
  rintro e w6 ⟨pY1, nY1, cY1, pY2, nY2, cY2, pY3, nY3, cY3, rfl, ho, hb⟩
  have R6 : Hid (Rs w _ [(w6.heap.size, .slice pY1 nY1 cY1, .slice pY2 nY2 cY2, .slice pY3 nY3 cY3), (w5.heap.size, .slice pX1 nX1 cX1, .slice pX2 nX2 cX2, .slice pX3 nX3 cX3), (w3.heap.size, .slice pB1 nB1 cB1, .slice pB2 nB2 cB2, .slice pB3 nB3 cB3), (w2.heap.size, .slice pA1 nA1 cA1, .slice pA2 nA2 cA2, .slice pA3 nA3 cA3), (w1.heap.size, .int .i64 k, .int .i64 p, .int .i64 q)] [(.slice pY1 nY1 cY1, LY), (.slice pY2 nY2 cY2, DY), (.slice pY3 nY3 cY3, XY), (.slice pX1 nX1 cX1, LX), (.slice pX2 nX2 cX2, DX), (.slice pX3 nX3 cX3, XX), (vk, keep), (.slice pB1 nB1 cB1, LB), (.slice pB2 nB2 cB2, DB), (.slice pB3 nB3 cB3, XB), (.slice pA1 nA1 cA1, LA), (.slice pA2 nA2 cA2, DA), (.slice pA3 nA3 cA3, XA)]) := Lib.hid ((R5.out.new3 hb ho).box (.slice pY1 nY1 cY1) (.slice pY2 nY2 cY2) (.slice pY3 nY3 cY3) 28)
  clear ho hb R5
  clear fR0 fR1 fR2 fA0 fA1 fA2 fB0 fB1 fB2
  have HF : Hid (∀ W, Rs w W [(w6.heap.size, .slice pY1 nY1 cY1, .slice pY2 nY2 cY2, .slice pY3 nY3 cY3), (w5.heap.size, .slice pX1 nX1 cX1, .slice pX2 nX2 cX2, .slice pX3 nX3 cX3), (w3.heap.size, .slice pB1 nB1 cB1, .slice pB2 nB2 cB2, .slice pB3 nB3 cB3), (w2.heap.size, .slice pA1 nA1 cA1, .slice pA2 nA2 cA2, .slice pA3 nA3 cA3), (w1.heap.size, .int .i64 k, .int .i64 p, .int .i64 q)] [(.slice pY1 nY1 cY1, LY), (.slice pY2 nY2 cY2, DY), (.slice pY3 nY3 cY3, XY), (.slice pX1 nX1 cX1, LX), (.slice pX2 nX2 cX2, DX), (.slice pX3 nX3 cX3, XX), (vk, keep), (.slice pB1 nB1 cB1, LB), (.slice pB2 nB2 cB2, DB), (.slice pB3 nB3 cB3, XB), (.slice pA1 nA1 cA1, LA), (.slice pA2 nA2 cA2, DA), (.slice pA3 nA3 cA3, XA)] → W.cell? ⟨w1.heap.size, 0, none⟩ = some (.int .i64 k) ∧ W.cell? ⟨w1.heap.size, 1, none⟩ = some (.int .i64 p) ∧ W.cell? ⟨w1.heap.size, 2, none⟩ = some (.int .i64 q) ∧ W.cell? ⟨w2.heap.size, 0, none⟩ = some (.slice pA1 nA1 cA1) ∧ W.cell? ⟨w2.heap.size, 1, none⟩ = some (.slice pA2 nA2 cA2) ∧ W.cell? ⟨w2.heap.size, 2, none⟩ = some (.slice pA3 nA3 cA3) ∧ W.cell? ⟨w3.heap.size, 0, none⟩ = some (.slice pB1 nB1 cB1) ∧ W.cell? ⟨w3.heap.size, 1, none⟩ = some (.slice pB2 nB2 cB2) ∧ W.cell? ⟨w3.heap.size, 2, none⟩ = some (.slice pB3 nB3 cB3) ∧ W.cell? ⟨w5.heap.size, 0, none⟩ = some (.slice pX1 nX1 cX1) ∧ W.cell? ⟨w5.heap.size, 1, none⟩ = some (.slice pX2 nX2 cX2) ∧ W.cell? ⟨w5.heap.size, 2, none⟩ = some (.slice pX3 nX3 cX3) ∧ W.cell? ⟨w6.heap.size, 0, none⟩ = some (.slice pY1 nY1 cY1) ∧ W.cell? ⟨w6.heap.size, 1, none⟩ = some (.slice pY2 nY2 cY2) ∧ W.cell? ⟨w6.heap.size, 2, none⟩ = some (.slice pY3 nY3 cY3)) := Lib.hid (fun W h => by
    obtain ⟨⟨fR0, fR1, fR2⟩, -⟩ := h.at (r := w1.heap.size) (a := .int .i64 k) (b := .int .i64 p) (c := .int .i64 q) (by repeat (first | with_reducible exact List.mem_cons_self | apply List.mem_cons_of_mem))
    obtain ⟨⟨fA0, fA1, fA2⟩, -⟩ := h.at (r := w2.heap.size) (a := .slice pA1 nA1 cA1) (b := .slice pA2 nA2 cA2) (c := .slice pA3 nA3 cA3) (by repeat (first | with_reducible exact List.mem_cons_self | apply List.mem_cons_of_mem))
    obtain ⟨⟨fB0, fB1, fB2⟩, -⟩ := h.at (r := w3.heap.size) (a := .slice pB1 nB1 cB1) (b := .slice pB2 nB2 cB2) (c := .slice pB3 nB3 cB3) (by repeat (first | with_reducible exact List.mem_cons_self | apply List.mem_cons_of_mem))
    obtain ⟨⟨fX0, fX1, fX2⟩, -⟩ := h.at (r := w5.heap.size) (a := .slice pX1 nX1 cX1) (b := .slice pX2 nX2 cX2) (c := .slice pX3 nX3 cX3) (by repeat (first | with_reducible exact List.mem_cons_self | apply List.mem_cons_of_mem))
    obtain ⟨⟨fY0, fY1, fY2⟩, -⟩ := h.at (r := w6.heap.size) (a := .slice pY1 nY1 cY1) (b := .slice pY2 nY2 cY2) (c := .slice pY3 nY3 cY3) (by repeat (first | with_reducible exact List.mem_cons_self | apply List.mem_cons_of_mem))
    exact ⟨fR0, fR1, fR2, fA0, fA1, fA2, fB0, fB1, fB2, fX0, fX1, fX2, fY0, fY1, fY2⟩)
  have HRA := Lib.hid (fun (W : World) (h : Rs w W [(w6.heap.size, .slice pY1 nY1 cY1, .slice pY2 nY2 cY2, .slice pY3 nY3 cY3), (w5.heap.size, .slice pX1 nX1 cX1, .slice pX2 nX2 cX2, .slice pX3 nX3 cX3), (w3.heap.size, .slice pB1 nB1 cB1, .slice pB2 nB2 cB2, .slice pB3 nB3 cB3), (w2.heap.size, .slice pA1 nA1 cA1, .slice pA2 nA2 cA2, .slice pA3 nA3 cA3), (w1.heap.size, .int .i64 k, .int .i64 p, .int .i64 q)] [(.slice pY1 nY1 cY1, LY), (.slice pY2 nY2 cY2, DY), (.slice pY3 nY3 cY3, XY), (.slice pX1 nX1 cX1, LX), (.slice pX2 nX2 cX2, DX), (.slice pX3 nX3 cX3, XX), (vk, keep), (.slice pB1 nB1 cB1, LB), (.slice pB2 nB2 cB2, DB), (.slice pB3 nB3 cB3, XB), (.slice pA1 nA1 cA1, LA), (.slice pA2 nA2 cA2, DA), (.slice pA3 nA3 cA3, XA)]) => (show RdT W.heap.size W (.slice pA1 nA1 cA1) (.slice pA2 nA2 cA2) (.slice pA3 nA3 cA3) LA DA XA from ⟨h.rd (v := .slice pA1 nA1 cA1) (xs := LA) (by repeat (first | with_reducible exact List.mem_cons_self | apply List.mem_cons_of_mem)), h.rd (v := .slice pA2 nA2 cA2) (xs := DA) (by repeat (first | with_reducible exact List.mem_cons_self | apply List.mem_cons_of_mem)), h.rd (v := .slice pA3 nA3 cA3) (xs := XA) (by repeat (first | with_reducible exact List.mem_cons_self | apply List.mem_cons_of_mem))⟩))
  have HRB := Lib.hid (fun (W : World) (h : Rs w W [(w6.heap.size, .slice pY1 nY1 cY1, .slice pY2 nY2 cY2, .slice pY3 nY3 cY3), (w5.heap.size, .slice pX1 nX1 cX1, .slice pX2 nX2 cX2, .slice pX3 nX3 cX3), (w3.heap.size, .slice pB1 nB1 cB1, .slice pB2 nB2 cB2, .slice pB3 nB3 cB3), (w2.heap.size, .slice pA1 nA1 cA1, .slice pA2 nA2 cA2, .slice pA3 nA3 cA3), (w1.heap.size, .int .i64 k, .int .i64 p, .int .i64 q)] [(.slice pY1 nY1 cY1, LY), (.slice pY2 nY2 cY2, DY), (.slice pY3 nY3 cY3, XY), (.slice pX1 nX1 cX1, LX), (.slice pX2 nX2 cX2, DX), (.slice pX3 nX3 cX3, XX), (vk, keep), (.slice pB1 nB1 cB1, LB), (.slice pB2 nB2 cB2, DB), (.slice pB3 nB3 cB3, XB), (.slice pA1 nA1 cA1, LA), (.slice pA2 nA2 cA2, DA), (.slice pA3 nA3 cA3, XA)]) => (show RdT W.heap.size W (.slice pB1 nB1 cB1) (.slice pB2 nB2 cB2) (.slice pB3 nB3 cB3) LB DB XB from ⟨h.rd (v := .slice pB1 nB1 cB1) (xs := LB) (by repeat (first | with_reducible exact List.mem_cons_self | apply List.mem_cons_of_mem)), h.rd (v := .slice pB2 nB2 cB2) (xs := DB) (by repeat (first | with_reducible exact List.mem_cons_self | apply List.mem_cons_of_mem)), h.rd (v := .slice pB3 nB3 cB3) (xs := XB) (by repeat (first | with_reducible exact List.mem_cons_self | apply List.mem_cons_of_mem))⟩))
  have HRX := Lib.hid (fun (W : World) (h : Rs w W [(w6.heap.size, .slice pY1 nY1 cY1, .slice pY2 nY2 cY2, .slice pY3 nY3 cY3), (w5.heap.size, .slice pX1 nX1 cX1, .slice pX2 nX2 cX2, .slice pX3 nX3 cX3), (w3.heap.size, .slice pB1 nB1 cB1, .slice pB2 nB2 cB2, .slice pB3 nB3 cB3), (w2.heap.size, .slice pA1 nA1 cA1, .slice pA2 nA2 cA2, .slice pA3 nA3 cA3), (w1.heap.size, .int .i64 k, .int .i64 p, .int .i64 q)] [(.slice pY1 nY1 cY1, LY), (.slice pY2 nY2 cY2, DY), (.slice pY3 nY3 cY3, XY), (.slice pX1 nX1 cX1, LX), (.slice pX2 nX2 cX2, DX), (.slice pX3 nX3 cX3, XX), (vk, keep), (.slice pB1 nB1 cB1, LB), (.slice pB2 nB2 cB2, DB), (.slice pB3 nB3 cB3, XB), (.slice pA1 nA1 cA1, LA), (.slice pA2 nA2 cA2, DA), (.slice pA3 nA3 cA3, XA)]) => (show RdT W.heap.size W (.slice pX1 nX1 cX1) (.slice pX2 nX2 cX2) (.slice pX3 nX3 cX3) LX DX XX from ⟨h.rd (v := .slice pX1 nX1 cX1) (xs := LX) (by repeat (first | with_reducible exact List.mem_cons_self | apply List.mem_cons_of_mem)), h.rd (v := .slice pX2 nX2 cX2) (xs := DX) (by repeat (first | with_reducible exact List.mem_cons_self | apply List.mem_cons_of_mem)), h.rd (v := .slice pX3 nX3 cX3) (xs := XX) (by repeat (first | with_reducible exact List.mem_cons_self | apply List.mem_cons_of_mem))⟩))
  have HRY := Lib.hid (fun (W : World) (h : Rs w W [(w6.heap.size, .slice pY1 nY1 cY1, .slice pY2 nY2 cY2, .slice pY3 nY3 cY3), (w5.heap.size, .slice pX1 nX1 cX1, .slice pX2 nX2 cX2, .slice pX3 nX3 cX3), (w3.heap.size, .slice pB1 nB1 cB1, .slice pB2 nB2 cB2, .slice pB3 nB3 cB3), (w2.heap.size, .slice pA1 nA1 cA1, .slice pA2 nA2 cA2, .slice pA3 nA3 cA3), (w1.heap.size, .int .i64 k, .int .i64 p, .int .i64 q)] [(.slice pY1 nY1 cY1, LY), (.slice pY2 nY2 cY2, DY), (.slice pY3 nY3 cY3, XY), (.slice pX1 nX1 cX1, LX), (.slice pX2 nX2 cX2, DX), (.slice pX3 nX3 cX3, XX), (vk, keep), (.slice pB1 nB1 cB1, LB), (.slice pB2 nB2 cB2, DB), (.slice pB3 nB3 cB3, XB), (.slice pA1 nA1 cA1, LA), (.slice pA2 nA2 cA2, DA), (.slice pA3 nA3 cA3, XA)]) => (show RdT W.heap.size W (.slice pY1 nY1 cY1) (.slice pY2 nY2 cY2) (.slice pY3 nY3 cY3) LY DY XY from ⟨h.rd (v := .slice pY1 nY1 cY1) (xs := LY) (by repeat (first | with_reducible exact List.mem_cons_self | apply List.mem_cons_of_mem)), h.rd (v := .slice pY2 nY2 cY2) (xs := DY) (by repeat (first | with_reducible exact List.mem_cons_self | apply List.mem_cons_of_mem)), h.rd (v := .slice pY3 nY3 cY3) (xs := XY) (by repeat (first | with_reducible exact List.mem_cons_self | apply List.mem_cons_of_mem))⟩))
  have RX := Lib.hid R6.out.drew
  clear R6
  obtain ⟨fR0, fR1, fR2, fA0, fA1, fA2, fB0, fB1, fB2, fX0, fX1, fX2, fY0, fY1, fY2⟩ := HF.out _ RX.out
  go_wp2_with fail
  refine wp_region_held_drew (S := (fun w' => w'.cell? ⟨w1.heap.size, 0, none⟩ = some (.int .i64 k) ∧ w'.cell? ⟨w1.heap.size, 1, none⟩ = some (.int .i64 p) ∧ w'.cell? ⟨w1.heap.size, 2, none⟩ = some (.int .i64 q) ∧ w'.cell? ⟨w2.heap.size, 0, none⟩ = some (.slice pA1 nA1 cA1) ∧ w'.cell? ⟨w2.heap.size, 1, none⟩ = some (.slice pA2 nA2 cA2) ∧ w'.cell? ⟨w2.heap.size, 2, none⟩ = some (.slice pA3 nA3 cA3) ∧ w'.cell? ⟨w3.heap.size, 0, none⟩ = some (.slice pB1 nB1 cB1) ∧ w'.cell? ⟨w3.heap.size, 1, none⟩ = some (.slice pB2 nB2 cB2) ∧ w'.cell? ⟨w3.heap.size, 2, none⟩ = some (.slice pB3 nB3 cB3) ∧ w'.cell? ⟨w5.heap.size, 0, none⟩ = some (.slice pX1 nX1 cX1) ∧ w'.cell? ⟨w5.heap.size, 1, none⟩ = some (.slice pX2 nX2 cX2) ∧ w'.cell? ⟨w5.heap.size, 2, none⟩ = some (.slice pX3 nX3 cX3) ∧ w'.cell? ⟨w6.heap.size, 0, none⟩ = some (.slice pY1 nY1 cY1) ∧ w'.cell? ⟨w6.heap.size, 1, none⟩ = some (.slice pY2 nY2 cY2) ∧ w'.cell? ⟨w6.heap.size, 2, none⟩ = some (.slice pY3 nY3 cY3))) (by kernel_rfl) (by (try dsimp only); exact ⟨fR0, fR1, fR2, fA0, fA1, fA2, fB0, fB1, fB2, fX0, fX1, fX2, fY0, fY1, fY2⟩) (fun hHeld => ?_)
  refine wpAnyH_take (i := 0) (v := ?_) rfl (by kernel_rfl) (by kernel_rfl) (by kernel_rfl) (fun _ _ _ h => h) (Or.inl ⟨by rfl, ?_⟩) (by assumption) ?_
  rotate_left
  · intro w hSw; (try dsimp only at hSw); go_simp <;> with_reducible rfl
  try simp only [Act.put, List.getElem_toArray, List.getElem_cons_zero, List.setIfInBounds_toArray, List.set_cons_zero, List.set_cons_succ]
  refine wpAnyH_take (i := 1) (v := ?_) rfl (by kernel_rfl) (by kernel_rfl) (by kernel_rfl) (fun _ _ _ h => h) (Or.inl ⟨by rfl, ?_⟩) (by assumption) ?_
  rotate_left
  · intro w hSw; (try dsimp only at hSw); go_simp <;> with_reducible rfl
  try simp only [Act.put, List.getElem_toArray, List.getElem_cons_succ, List.getElem_cons_zero, List.setIfInBounds_toArray, List.set_cons_zero, List.set_cons_succ]
  refine wpAnyH_take (i := 2) (v := ?_) rfl (by kernel_rfl) (by kernel_rfl) (by kernel_rfl) (fun _ _ _ h => h) (Or.inl ⟨by rfl, ?_⟩) (by assumption) ?_
  rotate_left
  · intro w hSw; (try dsimp only at hSw); go_simp <;> with_reducible rfl
  try simp only [Act.put, List.getElem_toArray, List.getElem_cons_succ, List.getElem_cons_zero, List.setIfInBounds_toArray, List.set_cons_zero, List.set_cons_succ]
  refine wpAnyH_take (i := 3) (v := ?_) rfl (by kernel_rfl) (by kernel_rfl) (by kernel_rfl) (fun _ _ _ h => h) (Or.inl ⟨by rfl, ?_⟩) (by assumption) ?_
  rotate_left
  · intro w hSw; (try dsimp only at hSw); go_simp <;> with_reducible rfl
  try simp only [Act.put, List.getElem_toArray, List.getElem_cons_succ, List.getElem_cons_zero, List.setIfInBounds_toArray, List.set_cons_zero, List.set_cons_succ]
  refine wpAnyH_take (i := 4) (v := ?_) rfl (by kernel_rfl) (by kernel_rfl) (by kernel_rfl) (fun _ _ _ h => h) (Or.inl ⟨by rfl, ?_⟩) (by assumption) ?_
  rotate_left
  · intro w hSw; (try dsimp only at hSw); go_simp <;> with_reducible rfl
  try simp only [Act.put, List.getElem_toArray, List.getElem_cons_succ, List.getElem_cons_zero, List.setIfInBounds_toArray, List.set_cons_zero, List.set_cons_succ]
  refine wpAnyH_take (i := 5) (v := ?_) rfl (by kernel_rfl) (by kernel_rfl) (by kernel_rfl) (fun _ _ _ h => h) (Or.inl ⟨by rfl, ?_⟩) (by assumption) ?_
  rotate_left
  · intro w hSw; (try dsimp only at hSw); go_simp <;> with_reducible rfl
  try simp only [Act.put, List.getElem_toArray, List.getElem_cons_succ, List.getElem_cons_zero, List.setIfInBounds_toArray, List.set_cons_zero, List.set_cons_succ]
  refine wpAnyH_take (i := 6) (v := ?_) rfl (by kernel_rfl) (by kernel_rfl) (by kernel_rfl) (fun _ _ _ h => h) (Or.inl ⟨by rfl, ?_⟩) (by assumption) ?_
  rotate_left
  · intro w hSw; (try dsimp only at hSw); go_simp <;> with_reducible rfl
  try simp only [Act.put, List.getElem_toArray, List.getElem_cons_succ, List.getElem_cons_zero, List.setIfInBounds_toArray, List.set_cons_zero, List.set_cons_succ]
  refine wpAnyH_take (i := 7) (v := ?_) rfl (by kernel_rfl) (by kernel_rfl) (by kernel_rfl) (fun _ _ _ h => h) (Or.inl ⟨by rfl, ?_⟩) (by assumption) ?_
  rotate_left
  · intro w hSw; (try dsimp only at hSw); go_simp <;> with_reducible rfl
  try simp only [Act.put, List.getElem_toArray, List.getElem_cons_succ, List.getElem_cons_zero, List.setIfInBounds_toArray, List.set_cons_zero, List.set_cons_succ]
  refine wpAnyH_ready (rs := [8]) (by kernel_rfl) (by simp) ?_
  refine AllReadyH.cons rfl (fun K hK => ?_) AllReadyH.nil
  go_simp
  (go_at_call 39; have hq := same_tensor_impl (k := k) (p := p) (q := q) (HRX.out _ RX.out) (HRY.out _ RX.out) (Nat.le_refl _) (Nat.le_refl _) HX.out.len HY.out.len HX.out.ints HY.out.ints; rw [HSM.out] at hq; refine hq.mono ?_; clear hq; rintro e w10 ⟨rfl, hb⟩; replace RX := Lib.hid (RX.out.step hb); clear hb; clear fR0 fR1 fR2 fA0 fA1 fA2 fB0 fB1 fB2 fX0 fX1 fX2 fY0 fY1 fY2; obtain ⟨fR0, fR1, fR2, fA0, fA1, fA2, fB0, fB1, fB2, fX0, fX1, fX2, fY0, fY1, fY2⟩ := HF.out _ RX.out)
  go_wp2_with fail
  refine hK.out _ _ (by (try dsimp only); exact ⟨fR0, fR1, fR2, fA0, fA1, fA2, fB0, fB1, fB2, fX0, fX1, fX2, fY0, fY1, fY2⟩) (fun hHeld => ?_)
  clear hK K
  try simp only [Act.put, List.getElem_toArray, List.getElem_cons_succ, List.getElem_cons_zero, List.setIfInBounds_toArray, List.set_cons_zero, List.set_cons_succ]
  refine wpAnyH_take (i := 9) (v := ?_) rfl (by kernel_rfl) (by kernel_rfl) (by kernel_rfl) (fun _ _ _ h => h) (Or.inl ⟨by rfl, ?_⟩) (by assumption) ?_
  rotate_left
  · intro w hSw; (try dsimp only at hSw); go_simp <;> with_reducible rfl
  try simp only [Act.put, List.getElem_toArray, List.getElem_cons_succ, List.getElem_cons_zero, List.setIfInBounds_toArray, List.set_cons_zero, List.set_cons_succ]
  refine wpAnyH_take (i := 10) (v := ?_) rfl (by kernel_rfl) (by kernel_rfl) (by kernel_rfl) (fun _ _ _ h => h) (Or.inl ⟨by rfl, ?_⟩) (by assumption) ?_
  rotate_left
  · intro w hSw; (try dsimp only at hSw); go_simp <;> with_reducible rfl
  try simp only [Act.put, List.getElem_toArray, List.getElem_cons_succ, List.getElem_cons_zero, List.setIfInBounds_toArray, List.set_cons_zero, List.set_cons_succ]
  refine wpAnyH_take (i := 11) (v := ?_) rfl (by kernel_rfl) (by kernel_rfl) (by kernel_rfl) (fun _ _ _ h => h) (Or.inl ⟨by rfl, ?_⟩) (by assumption) ?_
  rotate_left
  · intro w hSw; (try dsimp only at hSw); go_simp <;> with_reducible rfl
  try simp only [Act.put, List.getElem_toArray, List.getElem_cons_succ, List.getElem_cons_zero, List.setIfInBounds_toArray, List.set_cons_zero, List.set_cons_succ]
  refine wpAnyH_take (i := 12) (v := ?_) rfl (by kernel_rfl) (by kernel_rfl) (by kernel_rfl) (fun _ _ _ h => h) (Or.inl ⟨by rfl, ?_⟩) (by assumption) ?_
  rotate_left
  · intro w hSw; (try dsimp only at hSw); go_simp <;> with_reducible rfl
  try simp only [Act.put, List.getElem_toArray, List.getElem_cons_succ, List.getElem_cons_zero, List.setIfInBounds_toArray, List.set_cons_zero, List.set_cons_succ]
  refine wpAnyH_take (i := 14) (v := ?_) rfl (by kernel_rfl) (by kernel_rfl) (by kernel_rfl) (fun _ _ _ h => h) (Or.inl ⟨by rfl, ?_⟩) (by assumption) ?_
  rotate_left
  · intro w hSw; (try dsimp only at hSw); go_simp <;> with_reducible rfl
  try simp only [Act.put, List.getElem_toArray, List.getElem_cons_succ, List.getElem_cons_zero, List.setIfInBounds_toArray, List.set_cons_zero, List.set_cons_succ]
  refine wpAnyH_take (i := 15) (v := ?_) rfl (by kernel_rfl) (by kernel_rfl) (by kernel_rfl) (fun _ _ _ h => h) (Or.inl ⟨by rfl, ?_⟩) (by assumption) ?_
  rotate_left
  · intro w hSw; (try dsimp only at hSw); go_simp <;> with_reducible rfl
  try simp only [Act.put, List.getElem_toArray, List.getElem_cons_succ, List.getElem_cons_zero, List.setIfInBounds_toArray, List.set_cons_zero, List.set_cons_succ]
  refine wpAnyH_ready (rs := [13]) (by kernel_rfl) (by simp) ?_
  refine AllReadyH.cons rfl (fun K hK => ?_) AllReadyH.nil
  go_simp
  (go_at_call 34; refine (HJ.out _ _ (HRA.out _ RX.out) (HRB.out _ RX.out) (by first | exact Or.inl rfl | exact Or.inr rfl)).mono ?_; rintro e w10 ⟨rfl, hb⟩; replace RX := Lib.hid (RX.out.step hb); clear hb; clear fR0 fR1 fR2 fA0 fA1 fA2 fB0 fB1 fB2 fX0 fX1 fX2 fY0 fY1 fY2; obtain ⟨fR0, fR1, fR2, fA0, fA1, fA2, fB0, fB1, fB2, fX0, fX1, fX2, fY0, fY1, fY2⟩ := HF.out _ RX.out)
  go_wp2_with fail
  refine hK.out _ _ (by (try dsimp only); exact ⟨fR0, fR1, fR2, fA0, fA1, fA2, fB0, fB1, fB2, fX0, fX1, fX2, fY0, fY1, fY2⟩) (fun hHeld => ?_)
  clear hK K
  try simp only [Act.put, List.getElem_toArray, List.getElem_cons_succ, List.getElem_cons_zero, List.setIfInBounds_toArray, List.set_cons_zero, List.set_cons_succ]
  refine wpAnyH_ready (rs := [16]) (by kernel_rfl) (by simp) ?_
  refine AllReadyH.cons rfl (fun K hK => ?_) AllReadyH.nil
  go_simp
  (go_at_call 34; refine (HJ.out _ _ (HRA.out _ RX.out) (HRB.out _ RX.out) (by first | exact Or.inl rfl | exact Or.inr rfl)).mono ?_; rintro e w10 ⟨rfl, hb⟩; replace RX := Lib.hid (RX.out.step hb); clear hb; clear fR0 fR1 fR2 fA0 fA1 fA2 fB0 fB1 fB2 fX0 fX1 fX2 fY0 fY1 fY2; obtain ⟨fR0, fR1, fR2, fA0, fA1, fA2, fB0, fB1, fB2, fX0, fX1, fX2, fY0, fY1, fY2⟩ := HF.out _ RX.out)
  go_wp2_with fail
  refine hK.out _ _ (by (try dsimp only); exact ⟨fR0, fR1, fR2, fA0, fA1, fA2, fB0, fB1, fB2, fX0, fX1, fX2, fY0, fY1, fY2⟩) (fun hHeld => ?_)
  clear hK K
  try simp only [Act.put, List.getElem_toArray, List.getElem_cons_succ, List.getElem_cons_zero, List.setIfInBounds_toArray, List.set_cons_zero, List.set_cons_succ]
  refine wpAnyH_take (i := 17) (v := ?_) rfl (by kernel_rfl) (by kernel_rfl) (by kernel_rfl) (fun _ _ _ h => h) (Or.inl ⟨by rfl, ?_⟩) (by assumption) ?_
  rotate_left
  · intro w hSw; (try dsimp only at hSw); go_simp <;> with_reducible rfl
  try simp only [Act.put, List.getElem_toArray, List.getElem_cons_succ, List.getElem_cons_zero, List.setIfInBounds_toArray, List.set_cons_zero, List.set_cons_succ]
  refine wpAnyH_take (i := 18) (v := ?_) rfl (by kernel_rfl) (by kernel_rfl) (by kernel_rfl) (fun _ _ _ h => h) (Or.inl ⟨by rfl, ?_⟩) (by assumption) ?_
  rotate_left
  · intro w hSw; (try dsimp only at hSw); go_simp <;> with_reducible rfl
  try simp only [Act.put, List.getElem_toArray, List.getElem_cons_succ, List.getElem_cons_zero, List.setIfInBounds_toArray, List.set_cons_zero, List.set_cons_succ]
  refine wpAnyH_take (i := 19) (v := ?_) rfl (by kernel_rfl) (by kernel_rfl) (by kernel_rfl) (fun _ _ _ h => h) (Or.inl ⟨by rfl, ?_⟩) (by assumption) ?_
  rotate_left
  · intro w hSw; (try dsimp only at hSw); go_simp <;> with_reducible rfl
  try simp only [Act.put, List.getElem_toArray, List.getElem_cons_succ, List.getElem_cons_zero, List.setIfInBounds_toArray, List.set_cons_zero, List.set_cons_succ]
  refine wpAnyH_take (i := 20) (v := ?_) rfl (by kernel_rfl) (by kernel_rfl) (by kernel_rfl) (fun _ _ _ h => h) (Or.inl ⟨by rfl, ?_⟩) (by assumption) ?_
  rotate_left
  · intro w hSw; (try dsimp only at hSw); go_simp <;> with_reducible rfl
  try simp only [Act.put, List.getElem_toArray, List.getElem_cons_succ, List.getElem_cons_zero, List.setIfInBounds_toArray, List.set_cons_zero, List.set_cons_succ]
  refine wpAnyH_take (i := 21) (v := ?_) rfl (by kernel_rfl) (by kernel_rfl) (by kernel_rfl) (fun _ _ _ h => h) (Or.inl ⟨by rfl, ?_⟩) (by assumption) ?_
  rotate_left
  · intro w hSw; (try dsimp only at hSw); go_simp <;> with_reducible rfl
  try simp only [Act.put, List.getElem_toArray, List.getElem_cons_succ, List.getElem_cons_zero, List.setIfInBounds_toArray, List.set_cons_zero, List.set_cons_succ]
  refine wpAnyH_take (i := 23) (v := ?_) rfl (by kernel_rfl) (by kernel_rfl) (by kernel_rfl) (fun _ _ _ h => h) (Or.inl ⟨by rfl, ?_⟩) (by assumption) ?_
  rotate_left
  · intro w hSw; (try dsimp only at hSw); go_simp <;> with_reducible rfl
  try simp only [Act.put, List.getElem_toArray, List.getElem_cons_succ, List.getElem_cons_zero, List.setIfInBounds_toArray, List.set_cons_zero, List.set_cons_succ]
  refine wpAnyH_ready (rs := [22]) (by kernel_rfl) (by simp) ?_
  refine AllReadyH.cons rfl (fun K hK => ?_) AllReadyH.nil
  go_simp
  (go_at_call 34; refine (HJ.out _ _ (HRA.out _ RX.out) (HRB.out _ RX.out) (by first | exact Or.inl rfl | exact Or.inr rfl)).mono ?_; rintro e w10 ⟨rfl, hb⟩; replace RX := Lib.hid (RX.out.step hb); clear hb; clear fR0 fR1 fR2 fA0 fA1 fA2 fB0 fB1 fB2 fX0 fX1 fX2 fY0 fY1 fY2; obtain ⟨fR0, fR1, fR2, fA0, fA1, fA2, fB0, fB1, fB2, fX0, fX1, fX2, fY0, fY1, fY2⟩ := HF.out _ RX.out)
  go_wp2_with fail
  refine hK.out _ _ (by (try dsimp only); exact ⟨fR0, fR1, fR2, fA0, fA1, fA2, fB0, fB1, fB2, fX0, fX1, fX2, fY0, fY1, fY2⟩) (fun hHeld => ?_)
  clear hK K
  try simp only [Act.put, List.getElem_toArray, List.getElem_cons_succ, List.getElem_cons_zero, List.setIfInBounds_toArray, List.set_cons_zero, List.set_cons_succ]
  refine wpAnyH_ready (rs := [24]) (by kernel_rfl) (by simp) ?_
  refine AllReadyH.cons rfl (fun K hK => ?_) AllReadyH.nil
  go_simp
  (go_at_call 40; refine (HTS.out _ _ _ _ _ (HRX.out _ RX.out) (Nat.le_refl _)).mono ?_; rintro e w10 ⟨rfl, hb⟩; replace RX := Lib.hid (RX.out.step hb); clear hb; clear fR0 fR1 fR2 fA0 fA1 fA2 fB0 fB1 fB2 fX0 fX1 fX2 fY0 fY1 fY2; obtain ⟨fR0, fR1, fR2, fA0, fA1, fA2, fB0, fB1, fB2, fX0, fX1, fX2, fY0, fY1, fY2⟩ := HF.out _ RX.out)
  go_wp2_with fail
  refine hK.out _ _ (by (try dsimp only); exact ⟨fR0, fR1, fR2, fA0, fA1, fA2, fB0, fB1, fB2, fX0, fX1, fX2, fY0, fY1, fY2⟩) (fun hHeld => ?_)
  clear hK K
  try simp only [Act.put, List.getElem_toArray, List.getElem_cons_succ, List.getElem_cons_zero, List.setIfInBounds_toArray, List.set_cons_zero, List.set_cons_succ]
  refine wpAnyH_take (i := 25) (v := ?_) rfl (by kernel_rfl) (by kernel_rfl) (by kernel_rfl) (fun _ _ _ h => h) (Or.inl ⟨by rfl, ?_⟩) (by assumption) ?_
  rotate_left
  · intro w hSw; (try dsimp only at hSw); go_simp <;> with_reducible rfl
  try simp only [Act.put, List.getElem_toArray, List.getElem_cons_succ, List.getElem_cons_zero, List.setIfInBounds_toArray, List.set_cons_zero, List.set_cons_succ]
  refine wpAnyH_take (i := 26) (v := ?_) rfl (by kernel_rfl) (by kernel_rfl) (by kernel_rfl) (fun _ _ _ h => h) (Or.inl ⟨by rfl, ?_⟩) (by assumption) ?_
  rotate_left
  · intro w hSw; (try dsimp only at hSw); go_simp <;> with_reducible rfl
  try simp only [Act.put, List.getElem_toArray, List.getElem_cons_succ, List.getElem_cons_zero, List.setIfInBounds_toArray, List.set_cons_zero, List.set_cons_succ]
  refine wpAnyH_take (i := 27) (v := ?_) rfl (by kernel_rfl) (by kernel_rfl) (by kernel_rfl) (fun _ _ _ h => h) (Or.inl ⟨by rfl, ?_⟩) (by assumption) ?_
  rotate_left
  · intro w hSw; (try dsimp only at hSw); go_simp <;> with_reducible rfl
  try simp only [Act.put, List.getElem_toArray, List.getElem_cons_succ, List.getElem_cons_zero, List.setIfInBounds_toArray, List.set_cons_zero, List.set_cons_succ]
  refine wpAnyH_done (by kernel_rfl) ?_ _
  all_goals
    go_wp2
    go_ret
    exact ⟨rfl, RX.out.bel⟩
set_option maxHeartbeats 400000 in
theorem law_pairs_big (a : Option Addr) (n c : Nat) (w : World) (hb : 1048576 < n) (hc : n ≤ 281474976710656) :
    Calls Try.prog 7 #[.slice a n c] w fun e w' => e = .returned (.bool true) ∧ Below w.heap.size w w' := by
  go_enter Try.func7, Try.ntmps7
  go_wp2
  go_ret
  exact ⟨rfl, Below.refl _ _⟩
theorem law_pairs {v : Value} {bs : List UInt8} {w : World} (hr : Rd w.heap.size w v (bytes8 bs)) (hl : bs.length ≤ 281474976710656) :
    Calls Try.prog 7 #[v] w fun e w' => e = .returned (.bool true) ∧ Below w.heap.size w w' := by
  obtain ⟨a, cap, rfl, -⟩ := bytes_cell hr
  by_cases hs : bs.length ≤ 1048576
  · exact law_pairs_small a _ cap bs w rfl hs hr
  · exact law_pairs_big a _ cap w (by omega) hl
end Go.Proofs.Ytfdjlahaiogabab
