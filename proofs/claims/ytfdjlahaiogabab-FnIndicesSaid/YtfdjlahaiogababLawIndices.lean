
/- The law FnIndices, walked. -/
import Derived.Test.YtfdjlahaiogababIdxKit
import Derived.Deep.RegionHeld3
import Derived.Deep.DeepCutAuto
namespace Go.Proofs.Ytfdjlahaiogabab
set_option maxRecDepth 20000
open Go.RowKit

set_option maxHeartbeats 6400000 in
theorem law_indices_small (a : Option Addr) (n c : Nat) (bs : List UInt8) (w : World) (hn : bs.length = n) (hs : n ≤ 1048576) (hr : Rd w.heap.size w (.slice a n c) (bytes8 bs)) :
    Calls Try.prog 10 #[.slice a n c] w fun e w' => e = .returned (.bool true) ∧ Below w.heap.size w w' := by
  have HR := Lib.hid hr
  have HN := Lib.hid (show bs.length ≤ 1048576 by omega)
  clear hr hn
  go_enter Try.func10, Try.ntmps10
  go_wp2_with fail
  refine (make_ring 0 (by omega) HR.out HN.out).mono ?_
  rintro e w1 ⟨k, p, q, rfl, hk, hb⟩
  have HK := Lib.hid hk
  have R1 := Lib.hid (((Rs.start w).step hb).box (.int .i64 k) (.int .i64 p) (.int .i64 q) 31)
  clear hk hb
  obtain ⟨⟨fR0, fR1, fR2⟩, -⟩ := R1.out.at (r := w1.heap.size) (a := .int .i64 k) (b := .int .i64 p) (c := .int .i64 q) (by repeat (first | with_reducible exact List.mem_cons_self | apply List.mem_cons_of_mem))
  go_wp2_with fail
  refine (make_ten 10 (by omega) HK.out ((HR.out.below R1.out.bel (Nat.le_refl _)).mono R1.out.bel.size) HN.out).mono ?_
  clear fR0 fR1 fR2
  rintro e w2 ⟨l', d', x', LT, DT, XT, rfl, hv, ht, ho, hb⟩
  obtain ⟨pT1, nT1, cT1, rfl⟩ := own_slice (show Own _ _ _ l' LT from ho.1 (l', LT) (by simp))
  obtain ⟨pT2, nT2, cT2, rfl⟩ := own_slice (show Own _ _ _ d' DT from ho.1 (d', DT) (by simp))
  obtain ⟨pT3, nT3, cT3, rfl⟩ := own_slice (show Own _ _ _ x' XT from ho.1 (x', XT) (by simp))
  have R2 := Lib.hid ((R1.out.new3 hb ho).box (.slice pT1 nT1 cT1) (.slice pT2 nT2 cT2) (.slice pT3 nT3 cT3) 28)
  have HT := Lib.hid ht
  obtain ⟨N, hN, hN1, hN2⟩ := ten_size ht
  have HZ := Lib.hid hN
  clear hv ht ho hb R1 hN
  obtain ⟨⟨fR0, fR1, fR2⟩, -⟩ := R2.out.at (r := w1.heap.size) (a := .int .i64 k) (b := .int .i64 p) (c := .int .i64 q) (by repeat (first | with_reducible exact List.mem_cons_self | apply List.mem_cons_of_mem))
  obtain ⟨⟨fT0, fT1, fT2⟩, -⟩ := R2.out.at (r := w2.heap.size) (a := .slice pT1 nT1 cT1) (b := .slice pT2 nT2 cT2) (c := .slice pT3 nT3 cT3) (by repeat (first | with_reducible exact List.mem_cons_self | apply List.mem_cons_of_mem))
  go_wp2_with fail
  refine (size_yes HT.out HZ.out ⟨R2.out.rd (v := .slice pT1 nT1 cT1) (xs := LT) (by repeat (first | with_reducible exact List.mem_cons_self | apply List.mem_cons_of_mem)), R2.out.rd (v := .slice pT2 nT2 cT2) (xs := DT) (by repeat (first | with_reducible exact List.mem_cons_self | apply List.mem_cons_of_mem)), R2.out.rd (v := .slice pT3 nT3 cT3) (xs := XT) (by repeat (first | with_reducible exact List.mem_cons_self | apply List.mem_cons_of_mem))⟩ (Nat.le_refl _)).mono ?_
  clear fR0 fR1 fR2 fT0 fT1 fT2
  rintro e w3 ⟨rfl, hb⟩
  have R3 := Lib.hid (R2.out.step hb)
  clear hb R2
  have g1 : decide ((N : Int) < 1) = false := by simp; omega
  obtain ⟨⟨fR0, fR1, fR2⟩, -⟩ := R3.out.at (r := w1.heap.size) (a := .int .i64 k) (b := .int .i64 p) (c := .int .i64 q) (by repeat (first | with_reducible exact List.mem_cons_self | apply List.mem_cons_of_mem))
  obtain ⟨⟨fT0, fT1, fT2⟩, -⟩ := R3.out.at (r := w2.heap.size) (a := .slice pT1 nT1 cT1) (b := .slice pT2 nT2 cT2) (c := .slice pT3 nT3 cT3) (by repeat (first | with_reducible exact List.mem_cons_self | apply List.mem_cons_of_mem))
  go_wp2_with fail
  refine (ok_yes (k := k) (p := p) (q := q) HT.out ⟨R3.out.rd (v := .slice pT1 nT1 cT1) (xs := LT) (by repeat (first | with_reducible exact List.mem_cons_self | apply List.mem_cons_of_mem)), R3.out.rd (v := .slice pT2 nT2 cT2) (xs := DT) (by repeat (first | with_reducible exact List.mem_cons_self | apply List.mem_cons_of_mem)), R3.out.rd (v := .slice pT3 nT3 cT3) (xs := XT) (by repeat (first | with_reducible exact List.mem_cons_self | apply List.mem_cons_of_mem))⟩ (Nat.le_refl _)).mono ?_
  clear fR0 fR1 fR2 fT0 fT1 fT2
  rintro e w4 ⟨rfl, hb⟩
  have R4 := Lib.hid (R3.out.step hb)
  clear hb R3
  go_wp2_with fail
  have e1 : ((N : Int) - 1) = ((N - 1 : Nat) : Int) := by omega
  rw [e1]
  refine (make_size 60 0 (N - 1) (by omega) (Nat.zero_le _) (by omega) ((HR.out.below R4.out.bel (Nat.le_refl _)).mono R4.out.bel.size) HN.out).mono ?_
  rintro e w5 ⟨m, rfl, -, hm, hb⟩
  have R5 := Lib.hid (R4.out.step hb)
  have hmN : (m : Int) < sizeI LT DT := by rw [HZ.out]; omega
  have HM := Lib.hid hmN
  clear hb R4 e1 g1 hmN
  -- the mathematics waits for the element: the index first
  obtain ⟨ix, hi1, hi2, hi3⟩ := index_facts HT.out HM.out
  have HI := Lib.hid (And.intro hi1 (And.intro hi2 hi3))
  clear hi1 hi2 hi3
  obtain ⟨⟨fT0, fT1, fT2⟩, -⟩ := R5.out.at (r := w2.heap.size) (a := .slice pT1 nT1 cT1) (b := .slice pT2 nT2 cT2) (c := .slice pT3 nT3 cT3) (by repeat (first | with_reducible exact List.mem_cons_self | apply List.mem_cons_of_mem))
  go_wp2_with fail
  refine (index_yes HT.out HI.out.1 HI.out.2.1 ⟨R5.out.rd (v := .slice pT1 nT1 cT1) (xs := LT) (by repeat (first | with_reducible exact List.mem_cons_self | apply List.mem_cons_of_mem)), R5.out.rd (v := .slice pT2 nT2 cT2) (xs := DT) (by repeat (first | with_reducible exact List.mem_cons_self | apply List.mem_cons_of_mem)), R5.out.rd (v := .slice pT3 nT3 cT3) (xs := XT) (by repeat (first | with_reducible exact List.mem_cons_self | apply List.mem_cons_of_mem))⟩ (Nat.le_refl _)).mono ?_
  clear fT0 fT1 fT2
  rintro e w6 ⟨pi, ni, ci, rfl, ho, hb⟩
  have R6 := Lib.hid (R5.out.new hb ho)
  clear ho hb R5
  obtain ⟨⟨fR0, fR1, fR2⟩, -⟩ := R6.out.at (r := w1.heap.size) (a := .int .i64 k) (b := .int .i64 p) (c := .int .i64 q) (by repeat (first | with_reducible exact List.mem_cons_self | apply List.mem_cons_of_mem))
  go_wp2_with fail
  refine (make_elem 70 (by omega) HK.out ((HR.out.below R6.out.bel (Nat.le_refl _)).mono R6.out.bel.size) HN.out).mono ?_
  clear fR0 fR1 fR2
  rintro e w7 ⟨vx, x, rfl, hx, ho, hb⟩
  obtain ⟨pe, ne, ce, rfl⟩ := own_slice ho
  have R7 := Lib.hid (R6.out.new hb ho)
  obtain ⟨ix', XU, z, hall⟩ := idx_all HT.out hx HM.out
  obtain rfl : ix' = ix := hall.at_.symm.trans HI.out.2.1
  have HA := Lib.hid hall
  have HX := Lib.hid (show x.length ≤ 4096 by have h1 := hx.1; have h2 := ring_width HK.out; omega)
  clear hx ho hb hall R6
  obtain ⟨⟨fR0, fR1, fR2⟩, -⟩ := R7.out.at (r := w1.heap.size) (a := .int .i64 k) (b := .int .i64 p) (c := .int .i64 q) (by repeat (first | with_reducible exact List.mem_cons_self | apply List.mem_cons_of_mem))
  obtain ⟨⟨fT0, fT1, fT2⟩, -⟩ := R7.out.at (r := w2.heap.size) (a := .slice pT1 nT1 cT1) (b := .slice pT2 nT2 cT2) (c := .slice pT3 nT3 cT3) (by repeat (first | with_reducible exact List.mem_cons_self | apply List.mem_cons_of_mem))
  go_wp2_with fail
  refine (set_yes (k := k) (p := p) (q := q) HT.out HA.out.sx HA.out.ex ⟨R7.out.rd (v := .slice pT1 nT1 cT1) (xs := LT) (by repeat (first | with_reducible exact List.mem_cons_self | apply List.mem_cons_of_mem)), R7.out.rd (v := .slice pT2 nT2 cT2) (xs := DT) (by repeat (first | with_reducible exact List.mem_cons_self | apply List.mem_cons_of_mem)), R7.out.rd (v := .slice pT3 nT3 cT3) (xs := XT) (by repeat (first | with_reducible exact List.mem_cons_self | apply List.mem_cons_of_mem))⟩ (R7.out.rd (v := .slice pi ni ci) (xs := ix') (by repeat (first | with_reducible exact List.mem_cons_self | apply List.mem_cons_of_mem))) (R7.out.rd (v := .slice pe ne ce) (xs := x) (by repeat (first | with_reducible exact List.mem_cons_self | apply List.mem_cons_of_mem))) (Nat.le_refl _) (Nat.le_refl _) (Nat.le_refl _) HA.out.lix HX.out).mono ?_
  clear fR0 fR1 fR2 fT0 fT1 fT2
  rintro e w8 ⟨pU1, nU1, cU1, pU2, nU2, cU2, pU3, nU3, cU3, rfl, ho, hb⟩
  have R8 := Lib.hid ((R7.out.new3 hb ho).box (.slice pU1 nU1 cU1) (.slice pU2 nU2 cU2) (.slice pU3 nU3 cU3) 28)
  clear ho hb R7
  obtain ⟨⟨fT0, fT1, fT2⟩, -⟩ := R8.out.at (r := w2.heap.size) (a := .slice pT1 nT1 cT1) (b := .slice pT2 nT2 cT2) (c := .slice pT3 nT3 cT3) (by repeat (first | with_reducible exact List.mem_cons_self | apply List.mem_cons_of_mem))
  go_wp2_with fail
  refine (index_no (k := k) (p := p) (q := q) HT.out HZ.out HA.out.no ⟨R8.out.rd (v := .slice pT1 nT1 cT1) (xs := LT) (by repeat (first | with_reducible exact List.mem_cons_self | apply List.mem_cons_of_mem)), R8.out.rd (v := .slice pT2 nT2 cT2) (xs := DT) (by repeat (first | with_reducible exact List.mem_cons_self | apply List.mem_cons_of_mem)), R8.out.rd (v := .slice pT3 nT3 cT3) (xs := XT) (by repeat (first | with_reducible exact List.mem_cons_self | apply List.mem_cons_of_mem))⟩ (Nat.le_refl _)).mono ?_
  clear fT0 fT1 fT2
  rintro e w9 ⟨pj, nj, cj, rfl, hb⟩
  have R9 := Lib.hid (R8.out.step hb)
  clear hb R8
  obtain ⟨⟨fT0, fT1, fT2⟩, -⟩ := R9.out.at (r := w2.heap.size) (a := .slice pT1 nT1 cT1) (b := .slice pT2 nT2 cT2) (c := .slice pT3 nT3 cT3) (by repeat (first | with_reducible exact List.mem_cons_self | apply List.mem_cons_of_mem))
  go_wp2_with fail
  refine (off_yes (k := k) (p := p) (q := q) HT.out HA.out.off ⟨R9.out.rd (v := .slice pT1 nT1 cT1) (xs := LT) (by repeat (first | with_reducible exact List.mem_cons_self | apply List.mem_cons_of_mem)), R9.out.rd (v := .slice pT2 nT2 cT2) (xs := DT) (by repeat (first | with_reducible exact List.mem_cons_self | apply List.mem_cons_of_mem)), R9.out.rd (v := .slice pT3 nT3 cT3) (xs := XT) (by repeat (first | with_reducible exact List.mem_cons_self | apply List.mem_cons_of_mem))⟩ (R9.out.rd (v := .slice pi ni ci) (xs := ix') (by repeat (first | with_reducible exact List.mem_cons_self | apply List.mem_cons_of_mem))) (Nat.le_refl _) (Nat.le_refl _) HA.out.lix).mono ?_
  clear fT0 fT1 fT2
  rintro e w10 ⟨rfl, hb⟩
  have R10 := Lib.hid (R9.out.step hb)
  clear hb R9
  obtain ⟨⟨fR0, fR1, fR2⟩, -⟩ := R10.out.at (r := w1.heap.size) (a := .int .i64 k) (b := .int .i64 p) (c := .int .i64 q) (by repeat (first | with_reducible exact List.mem_cons_self | apply List.mem_cons_of_mem))
  obtain ⟨⟨fU0, fU1, fU2⟩, -⟩ := R10.out.at (r := w8.heap.size) (a := .slice pU1 nU1 cU1) (b := .slice pU2 nU2 cU2) (c := .slice pU3 nU3 cU3) (by repeat (first | with_reducible exact List.mem_cons_self | apply List.mem_cons_of_mem))
  go_wp2_with fail
  refine (get_yes (k := k) (p := p) (q := q) HA.out.ty HA.out.ey ⟨R10.out.rd (v := .slice pU1 nU1 cU1) (xs := LT) (by repeat (first | with_reducible exact List.mem_cons_self | apply List.mem_cons_of_mem)), R10.out.rd (v := .slice pU2 nU2 cU2) (xs := DT) (by repeat (first | with_reducible exact List.mem_cons_self | apply List.mem_cons_of_mem)), R10.out.rd (v := .slice pU3 nU3 cU3) (xs := XU) (by repeat (first | with_reducible exact List.mem_cons_self | apply List.mem_cons_of_mem))⟩ (R10.out.rd (v := .slice pi ni ci) (xs := ix') (by repeat (first | with_reducible exact List.mem_cons_self | apply List.mem_cons_of_mem))) (Nat.le_refl _) (Nat.le_refl _) HA.out.lix).mono ?_
  clear fR0 fR1 fR2 fU0 fU1 fU2
  rintro e w11 ⟨py, ny, cy, rfl, ho, hb⟩
  have R11 := Lib.hid (R10.out.new hb ho)
  clear ho hb R10
  go_wp2_with fail
  refine (ints_same (R11.out.rd (v := .slice py ny cy) (xs := x) (by repeat (first | with_reducible exact List.mem_cons_self | apply List.mem_cons_of_mem))) (R11.out.rd (v := .slice pe ne ce) (xs := x) (by repeat (first | with_reducible exact List.mem_cons_self | apply List.mem_cons_of_mem))) (Nat.le_trans HX.out (by decide))).mono ?_
  rintro e w12 ⟨rfl, rfl⟩
  obtain ⟨⟨fR0, fR1, fR2⟩, -⟩ := R11.out.at (r := w1.heap.size) (a := .int .i64 k) (b := .int .i64 p) (c := .int .i64 q) (by repeat (first | with_reducible exact List.mem_cons_self | apply List.mem_cons_of_mem))
  obtain ⟨⟨fU0, fU1, fU2⟩, -⟩ := R11.out.at (r := w8.heap.size) (a := .slice pU1 nU1 cU1) (b := .slice pU2 nU2 cU2) (c := .slice pU3 nU3 cU3) (by repeat (first | with_reducible exact List.mem_cons_self | apply List.mem_cons_of_mem))
  go_wp2_with fail
  refine (ok_yes (k := k) (p := p) (q := q) HA.out.ty ⟨R11.out.rd (v := .slice pU1 nU1 cU1) (xs := LT) (by repeat (first | with_reducible exact List.mem_cons_self | apply List.mem_cons_of_mem)), R11.out.rd (v := .slice pU2 nU2 cU2) (xs := DT) (by repeat (first | with_reducible exact List.mem_cons_self | apply List.mem_cons_of_mem)), R11.out.rd (v := .slice pU3 nU3 cU3) (xs := XU) (by repeat (first | with_reducible exact List.mem_cons_self | apply List.mem_cons_of_mem))⟩ (Nat.le_refl _)).mono ?_
  clear fR0 fR1 fR2 fU0 fU1 fU2
  rintro e w13 ⟨rfl, hb⟩
  have R13 := Lib.hid (R11.out.step hb)
  clear hb R11
  go_wp2_with fail
  have RX := Lib.hid R13.out.drew
  clear R13
  obtain ⟨⟨fR0, fR1, fR2⟩, -⟩ := RX.out.at (r := w1.heap.size) (a := .int .i64 k) (b := .int .i64 p) (c := .int .i64 q) (by repeat (first | with_reducible exact List.mem_cons_self | apply List.mem_cons_of_mem))
  obtain ⟨⟨fT0, fT1, fT2⟩, -⟩ := RX.out.at (r := w2.heap.size) (a := .slice pT1 nT1 cT1) (b := .slice pT2 nT2 cT2) (c := .slice pT3 nT3 cT3) (by repeat (first | with_reducible exact List.mem_cons_self | apply List.mem_cons_of_mem))
  obtain ⟨⟨fU0, fU1, fU2⟩, -⟩ := RX.out.at (r := w8.heap.size) (a := .slice pU1 nU1 cU1) (b := .slice pU2 nU2 cU2) (c := .slice pU3 nU3 cU3) (by repeat (first | with_reducible exact List.mem_cons_self | apply List.mem_cons_of_mem))
  refine wp_region_held_drew (S := (fun w' => w'.cell? ⟨w1.heap.size, 0, none⟩ = some (.int .i64 k) ∧ w'.cell? ⟨w1.heap.size, 1, none⟩ = some (.int .i64 p) ∧ w'.cell? ⟨w1.heap.size, 2, none⟩ = some (.int .i64 q) ∧ w'.cell? ⟨w2.heap.size, 0, none⟩ = some (.slice pT1 nT1 cT1) ∧ w'.cell? ⟨w2.heap.size, 1, none⟩ = some (.slice pT2 nT2 cT2) ∧ w'.cell? ⟨w2.heap.size, 2, none⟩ = some (.slice pT3 nT3 cT3) ∧ w'.cell? ⟨w8.heap.size, 0, none⟩ = some (.slice pU1 nU1 cU1) ∧ w'.cell? ⟨w8.heap.size, 1, none⟩ = some (.slice pU2 nU2 cU2) ∧ w'.cell? ⟨w8.heap.size, 2, none⟩ = some (.slice pU3 nU3 cU3))) (by kernel_rfl) (by (try dsimp only); exact ⟨fR0, fR1, fR2, fT0, fT1, fT2, fU0, fU1, fU2⟩) (fun hHeld => ?_)
  refine wpAnyH_take (i := 0) (v := ?_) rfl (by kernel_rfl) (by kernel_rfl) (by kernel_rfl) (fun _ _ _ h => h) (Or.inl ⟨by rfl, ?_⟩) (by assumption) ?_
  rotate_left
  · intro w hSw; (try dsimp only at hSw); go_simp <;> with_reducible rfl
  try simp only [Act.put, List.getElem_toArray, List.getElem_cons_zero, List.setIfInBounds_toArray, List.set_cons_zero, List.set_cons_succ]
  refine wpAnyH_take (i := 1) (v := ?_) rfl (by kernel_rfl) (by kernel_rfl) (by kernel_rfl) (fun _ _ _ h => h) (Or.inl ⟨by rfl, ?_⟩) (by assumption) ?_
  rotate_left
  · intro w hSw; (try dsimp only at hSw); go_simp <;> with_reducible rfl
  try simp only [Act.put, List.getElem_toArray, List.getElem_cons_succ, List.getElem_cons_zero, List.setIfInBounds_toArray, List.set_cons_zero, List.set_cons_succ]
  refine wpAnyH_take (i := 2) (v := ?_) rfl (by kernel_rfl) (by kernel_rfl) (by kernel_rfl) (fun _ _ _ h => h) (Or.inl ⟨by rfl, ?_⟩) (by assumption) ?_
  rotate_left
  · intro w hSw; (try dsimp only at hSw); go_simp <;> with_reducible rfl
  try simp only [Act.put, List.getElem_toArray, List.getElem_cons_succ, List.getElem_cons_zero, List.setIfInBounds_toArray, List.set_cons_zero, List.set_cons_succ]
  refine wpAnyH_take (i := 3) (v := ?_) rfl (by kernel_rfl) (by kernel_rfl) (by kernel_rfl) (fun _ _ _ h => h) (Or.inl ⟨by rfl, ?_⟩) (by assumption) ?_
  rotate_left
  · intro w hSw; (try dsimp only at hSw); go_simp <;> with_reducible rfl
  try simp only [Act.put, List.getElem_toArray, List.getElem_cons_succ, List.getElem_cons_zero, List.setIfInBounds_toArray, List.set_cons_zero, List.set_cons_succ]
  refine wpAnyH_take (i := 4) (v := ?_) rfl (by kernel_rfl) (by kernel_rfl) (by kernel_rfl) (fun _ _ _ h => h) (Or.inl ⟨by rfl, ?_⟩) (by assumption) ?_
  rotate_left
  · intro w hSw; (try dsimp only at hSw); go_simp <;> with_reducible rfl
  try simp only [Act.put, List.getElem_toArray, List.getElem_cons_succ, List.getElem_cons_zero, List.setIfInBounds_toArray, List.set_cons_zero, List.set_cons_succ]
  refine wpAnyH_take (i := 5) (v := ?_) rfl (by kernel_rfl) (by kernel_rfl) (by kernel_rfl) (fun _ _ _ h => h) (Or.inl ⟨by rfl, ?_⟩) (by assumption) ?_
  rotate_left
  · intro w hSw; (try dsimp only at hSw); go_simp <;> with_reducible rfl
  try simp only [Act.put, List.getElem_toArray, List.getElem_cons_succ, List.getElem_cons_zero, List.setIfInBounds_toArray, List.set_cons_zero, List.set_cons_succ]
  refine wpAnyH_take (i := 8) (v := ?_) rfl (by kernel_rfl) (by kernel_rfl) (by kernel_rfl) (fun _ _ _ h => h) (Or.inl ⟨by rfl, ?_⟩) (by assumption) ?_
  rotate_left
  · intro w hSw; (try dsimp only at hSw); go_simp <;> with_reducible rfl
  try simp only [Act.put, List.getElem_toArray, List.getElem_cons_succ, List.getElem_cons_zero, List.setIfInBounds_toArray, List.set_cons_zero, List.set_cons_succ]
  refine wpAnyH_ready (rs := [6]) (by kernel_rfl) (by simp) ?_
  refine AllReadyH.cons rfl (fun K hK => ?_) AllReadyH.nil
  go_simp
  (go_at_call 52; refine (get_yes (k := k) (p := p) (q := q) HT.out HA.out.ez ⟨RX.out.rd (v := .slice pT1 nT1 cT1) (xs := LT) (by repeat (first | with_reducible exact List.mem_cons_self | apply List.mem_cons_of_mem)), RX.out.rd (v := .slice pT2 nT2 cT2) (xs := DT) (by repeat (first | with_reducible exact List.mem_cons_self | apply List.mem_cons_of_mem)), RX.out.rd (v := .slice pT3 nT3 cT3) (xs := XT) (by repeat (first | with_reducible exact List.mem_cons_self | apply List.mem_cons_of_mem))⟩ (RX.out.rd (v := .slice pi ni ci) (xs := ix') (by repeat (first | with_reducible exact List.mem_cons_self | apply List.mem_cons_of_mem))) (Nat.le_refl _) (Nat.le_refl _) HA.out.lix).mono ?_; rintro e w14 ⟨pz, nz, cz, rfl, ho, hb⟩; replace RX := Lib.hid (RX.out.new hb ho); clear ho hb; clear fR0 fR1 fR2 fT0 fT1 fT2 fU0 fU1 fU2; obtain ⟨⟨fR0, fR1, fR2⟩, -⟩ := RX.out.at (r := w1.heap.size) (a := .int .i64 k) (b := .int .i64 p) (c := .int .i64 q) (by repeat (first | with_reducible exact List.mem_cons_self | apply List.mem_cons_of_mem)); obtain ⟨⟨fT0, fT1, fT2⟩, -⟩ := RX.out.at (r := w2.heap.size) (a := .slice pT1 nT1 cT1) (b := .slice pT2 nT2 cT2) (c := .slice pT3 nT3 cT3) (by repeat (first | with_reducible exact List.mem_cons_self | apply List.mem_cons_of_mem)); obtain ⟨⟨fU0, fU1, fU2⟩, -⟩ := RX.out.at (r := w8.heap.size) (a := .slice pU1 nU1 cU1) (b := .slice pU2 nU2 cU2) (c := .slice pU3 nU3 cU3) (by repeat (first | with_reducible exact List.mem_cons_self | apply List.mem_cons_of_mem)))
  go_wp2_with fail
  refine hK.out _ _ (by (try dsimp only); exact ⟨fR0, fR1, fR2, fT0, fT1, fT2, fU0, fU1, fU2⟩) (fun hHeld => ?_)
  clear hK K
  try simp only [Act.put, List.getElem_toArray, List.getElem_cons_succ, List.getElem_cons_zero, List.setIfInBounds_toArray, List.set_cons_zero, List.set_cons_succ]
  refine wpAnyH_ready (rs := [7]) (by kernel_rfl) (by simp) ?_
  refine AllReadyH.cons rfl (fun K hK => ?_) AllReadyH.nil
  go_simp
  (go_at_call 49; refine (set_yes (k := k) (p := p) (q := q) HA.out.ty HA.out.sz HA.out.bk ⟨RX.out.rd (v := .slice pU1 nU1 cU1) (xs := LT) (by repeat (first | with_reducible exact List.mem_cons_self | apply List.mem_cons_of_mem)), RX.out.rd (v := .slice pU2 nU2 cU2) (xs := DT) (by repeat (first | with_reducible exact List.mem_cons_self | apply List.mem_cons_of_mem)), RX.out.rd (v := .slice pU3 nU3 cU3) (xs := XU) (by repeat (first | with_reducible exact List.mem_cons_self | apply List.mem_cons_of_mem))⟩ (RX.out.rd (v := .slice pi ni ci) (xs := ix') (by repeat (first | with_reducible exact List.mem_cons_self | apply List.mem_cons_of_mem))) (RX.out.rd (v := .slice pz nz cz) (xs := z) (by repeat (first | with_reducible exact List.mem_cons_self | apply List.mem_cons_of_mem))) (Nat.le_refl _) (Nat.le_refl _) (Nat.le_refl _) HA.out.lix HA.out.lz).mono ?_; rintro e w15 ⟨pW1, nW1, cW1, pW2, nW2, cW2, pW3, nW3, cW3, rfl, ho, hb⟩; replace RX := Lib.hid (RX.out.new3 hb ho); clear ho hb; clear fR0 fR1 fR2 fT0 fT1 fT2 fU0 fU1 fU2; obtain ⟨⟨fR0, fR1, fR2⟩, -⟩ := RX.out.at (r := w1.heap.size) (a := .int .i64 k) (b := .int .i64 p) (c := .int .i64 q) (by repeat (first | with_reducible exact List.mem_cons_self | apply List.mem_cons_of_mem)); obtain ⟨⟨fT0, fT1, fT2⟩, -⟩ := RX.out.at (r := w2.heap.size) (a := .slice pT1 nT1 cT1) (b := .slice pT2 nT2 cT2) (c := .slice pT3 nT3 cT3) (by repeat (first | with_reducible exact List.mem_cons_self | apply List.mem_cons_of_mem)); obtain ⟨⟨fU0, fU1, fU2⟩, -⟩ := RX.out.at (r := w8.heap.size) (a := .slice pU1 nU1 cU1) (b := .slice pU2 nU2 cU2) (c := .slice pU3 nU3 cU3) (by repeat (first | with_reducible exact List.mem_cons_self | apply List.mem_cons_of_mem)))
  go_wp2_with fail
  refine hK.out _ _ (by (try dsimp only); exact ⟨fR0, fR1, fR2, fT0, fT1, fT2, fU0, fU1, fU2⟩) (fun hHeld => ?_)
  clear hK K
  try simp only [Act.put, List.getElem_toArray, List.getElem_cons_succ, List.getElem_cons_zero, List.setIfInBounds_toArray, List.set_cons_zero, List.set_cons_succ]
  refine wpAnyH_ready (rs := [9]) (by kernel_rfl) (by simp) ?_
  refine AllReadyH.cons rfl (fun K hK => ?_) AllReadyH.nil
  go_simp
  (go_at_call 43; (first | ((with_reducible show Calls _ _ #[.agg #[.slice pW1 nW1 cW1, _, _], _] _ _); refine (same_yes ⟨RX.out.rd (v := .slice pW1 nW1 cW1) (xs := LT) (by repeat (first | with_reducible exact List.mem_cons_self | apply List.mem_cons_of_mem)), RX.out.rd (v := .slice pW2 nW2 cW2) (xs := DT) (by repeat (first | with_reducible exact List.mem_cons_self | apply List.mem_cons_of_mem)), RX.out.rd (v := .slice pW3 nW3 cW3) (xs := XT) (by repeat (first | with_reducible exact List.mem_cons_self | apply List.mem_cons_of_mem))⟩ ⟨RX.out.rd (v := .slice pT1 nT1 cT1) (xs := LT) (by repeat (first | with_reducible exact List.mem_cons_self | apply List.mem_cons_of_mem)), RX.out.rd (v := .slice pT2 nT2 cT2) (xs := DT) (by repeat (first | with_reducible exact List.mem_cons_self | apply List.mem_cons_of_mem)), RX.out.rd (v := .slice pT3 nT3 cT3) (xs := XT) (by repeat (first | with_reducible exact List.mem_cons_self | apply List.mem_cons_of_mem))⟩ (Nat.le_refl _) (Nat.le_refl _) (tenlen HT.out)).mono ?_) | (refine (same_yes ⟨RX.out.rd (v := .slice pO1 nO1 cO1) (xs := []) (by repeat (first | with_reducible exact List.mem_cons_self | apply List.mem_cons_of_mem)), RX.out.rd (v := .slice pO2 nO2 cO2) (xs := []) (by repeat (first | with_reducible exact List.mem_cons_self | apply List.mem_cons_of_mem)), RX.out.rd (v := .slice pO3 nO3 cO3) (xs := x) (by repeat (first | with_reducible exact List.mem_cons_self | apply List.mem_cons_of_mem))⟩ ⟨RX.out.nil.rd List.mem_cons_self, RX.out.nil.rd List.mem_cons_self, RX.out.rd (v := .slice pe ne ce) (xs := x) (by repeat (first | with_reducible exact List.mem_cons_self | apply List.mem_cons_of_mem))⟩ (Nat.le_refl _) (Nat.le_refl _) ⟨by simp, by simp, Nat.le_trans HX.out (by decide)⟩).mono ?_)); rintro e w17 ⟨rfl, hb⟩; replace RX := Lib.hid (RX.out.step hb); clear hb; clear fR0 fR1 fR2 fT0 fT1 fT2 fU0 fU1 fU2; obtain ⟨⟨fR0, fR1, fR2⟩, -⟩ := RX.out.at (r := w1.heap.size) (a := .int .i64 k) (b := .int .i64 p) (c := .int .i64 q) (by repeat (first | with_reducible exact List.mem_cons_self | apply List.mem_cons_of_mem)); obtain ⟨⟨fT0, fT1, fT2⟩, -⟩ := RX.out.at (r := w2.heap.size) (a := .slice pT1 nT1 cT1) (b := .slice pT2 nT2 cT2) (c := .slice pT3 nT3 cT3) (by repeat (first | with_reducible exact List.mem_cons_self | apply List.mem_cons_of_mem)); obtain ⟨⟨fU0, fU1, fU2⟩, -⟩ := RX.out.at (r := w8.heap.size) (a := .slice pU1 nU1 cU1) (b := .slice pU2 nU2 cU2) (c := .slice pU3 nU3 cU3) (by repeat (first | with_reducible exact List.mem_cons_self | apply List.mem_cons_of_mem)))
  go_wp2_with fail
  refine hK.out _ _ (by (try dsimp only); exact ⟨fR0, fR1, fR2, fT0, fT1, fT2, fU0, fU1, fU2⟩) (fun hHeld => ?_)
  clear hK K
  try simp only [Act.put, List.getElem_toArray, List.getElem_cons_succ, List.getElem_cons_zero, List.setIfInBounds_toArray, List.set_cons_zero, List.set_cons_succ]
  refine wpAnyH_take (i := 10) (v := ?_) rfl (by kernel_rfl) (by kernel_rfl) (by kernel_rfl) (fun _ _ _ h => h) (Or.inl ⟨by rfl, ?_⟩) (by assumption) ?_
  rotate_left
  · intro w hSw; (try dsimp only at hSw); go_simp <;> with_reducible rfl
  try simp only [Act.put, List.getElem_toArray, List.getElem_cons_succ, List.getElem_cons_zero, List.setIfInBounds_toArray, List.set_cons_zero, List.set_cons_succ]
  refine wpAnyH_take (i := 11) (v := ?_) rfl (by kernel_rfl) (by kernel_rfl) (by kernel_rfl) (fun _ _ _ h => h) (Or.inl ⟨by rfl, ?_⟩) (by assumption) ?_
  rotate_left
  · intro w hSw; (try dsimp only at hSw); go_simp <;> with_reducible rfl
  try simp only [Act.put, List.getElem_toArray, List.getElem_cons_succ, List.getElem_cons_zero, List.setIfInBounds_toArray, List.set_cons_zero, List.set_cons_succ]
  refine wpAnyH_take (i := 12) (v := ?_) rfl (by kernel_rfl) (by kernel_rfl) (by kernel_rfl) (fun _ _ _ h => h) (Or.inl ⟨by rfl, ?_⟩) (by assumption) ?_
  rotate_left
  · intro w hSw; (try dsimp only at hSw); go_simp <;> with_reducible rfl
  try simp only [Act.put, List.getElem_toArray, List.getElem_cons_succ, List.getElem_cons_zero, List.setIfInBounds_toArray, List.set_cons_zero, List.set_cons_succ]
  refine wpAnyH_take (i := 14) (v := ?_) rfl (by kernel_rfl) (by kernel_rfl) (by kernel_rfl) (fun _ _ _ h => h) (Or.inl ⟨by rfl, ?_⟩) (by assumption) ?_
  rotate_left
  · intro w hSw; (try dsimp only at hSw); go_simp <;> with_reducible rfl
  try simp only [Act.put, List.getElem_toArray, List.getElem_cons_succ, List.getElem_cons_zero, List.setIfInBounds_toArray, List.set_cons_zero, List.set_cons_succ]
  refine wpAnyH_take (i := 15) (v := ?_) rfl (by kernel_rfl) (by kernel_rfl) (by kernel_rfl) (fun _ _ _ h => h) (Or.inl ⟨by rfl, ?_⟩) (by assumption) ?_
  rotate_left
  · intro w hSw; (try dsimp only at hSw); go_simp <;> with_reducible rfl
  try simp only [Act.put, List.getElem_toArray, List.getElem_cons_succ, List.getElem_cons_zero, List.setIfInBounds_toArray, List.set_cons_zero, List.set_cons_succ]
  refine wpAnyH_ready (rs := [13]) (by kernel_rfl) (by simp) ?_
  refine AllReadyH.cons rfl (fun K hK => ?_) AllReadyH.nil
  go_simp
  (go_at_call 53; refine (scalar_yes (k := k) (p := p) (q := q) HA.out.sc (RX.out.rd (v := .slice pe ne ce) (xs := x) (by repeat (first | with_reducible exact List.mem_cons_self | apply List.mem_cons_of_mem))) (Nat.le_refl _) HX.out).mono ?_; rintro e w16 ⟨pO1, nO1, cO1, pO2, nO2, cO2, pO3, nO3, cO3, rfl, ho, hb⟩; replace RX := Lib.hid (RX.out.new3 hb ho); clear ho hb; clear fR0 fR1 fR2 fT0 fT1 fT2 fU0 fU1 fU2; obtain ⟨⟨fR0, fR1, fR2⟩, -⟩ := RX.out.at (r := w1.heap.size) (a := .int .i64 k) (b := .int .i64 p) (c := .int .i64 q) (by repeat (first | with_reducible exact List.mem_cons_self | apply List.mem_cons_of_mem)); obtain ⟨⟨fT0, fT1, fT2⟩, -⟩ := RX.out.at (r := w2.heap.size) (a := .slice pT1 nT1 cT1) (b := .slice pT2 nT2 cT2) (c := .slice pT3 nT3 cT3) (by repeat (first | with_reducible exact List.mem_cons_self | apply List.mem_cons_of_mem)); obtain ⟨⟨fU0, fU1, fU2⟩, -⟩ := RX.out.at (r := w8.heap.size) (a := .slice pU1 nU1 cU1) (b := .slice pU2 nU2 cU2) (c := .slice pU3 nU3 cU3) (by repeat (first | with_reducible exact List.mem_cons_self | apply List.mem_cons_of_mem)))
  go_wp2_with fail
  refine hK.out _ _ (by (try dsimp only); exact ⟨fR0, fR1, fR2, fT0, fT1, fT2, fU0, fU1, fU2⟩) (fun hHeld => ?_)
  clear hK K
  try simp only [Act.put, List.getElem_toArray, List.getElem_cons_succ, List.getElem_cons_zero, List.setIfInBounds_toArray, List.set_cons_zero, List.set_cons_succ]
  refine wpAnyH_ready (rs := [16]) (by kernel_rfl) (by simp) ?_
  refine AllReadyH.cons rfl (fun K hK => ?_) AllReadyH.nil
  go_simp
  (go_at_call 43; (first | ((with_reducible show Calls _ _ #[.agg #[.slice pW1 nW1 cW1, _, _], _] _ _); refine (same_yes ⟨RX.out.rd (v := .slice pW1 nW1 cW1) (xs := LT) (by repeat (first | with_reducible exact List.mem_cons_self | apply List.mem_cons_of_mem)), RX.out.rd (v := .slice pW2 nW2 cW2) (xs := DT) (by repeat (first | with_reducible exact List.mem_cons_self | apply List.mem_cons_of_mem)), RX.out.rd (v := .slice pW3 nW3 cW3) (xs := XT) (by repeat (first | with_reducible exact List.mem_cons_self | apply List.mem_cons_of_mem))⟩ ⟨RX.out.rd (v := .slice pT1 nT1 cT1) (xs := LT) (by repeat (first | with_reducible exact List.mem_cons_self | apply List.mem_cons_of_mem)), RX.out.rd (v := .slice pT2 nT2 cT2) (xs := DT) (by repeat (first | with_reducible exact List.mem_cons_self | apply List.mem_cons_of_mem)), RX.out.rd (v := .slice pT3 nT3 cT3) (xs := XT) (by repeat (first | with_reducible exact List.mem_cons_self | apply List.mem_cons_of_mem))⟩ (Nat.le_refl _) (Nat.le_refl _) (tenlen HT.out)).mono ?_) | (refine (same_yes ⟨RX.out.rd (v := .slice pO1 nO1 cO1) (xs := []) (by repeat (first | with_reducible exact List.mem_cons_self | apply List.mem_cons_of_mem)), RX.out.rd (v := .slice pO2 nO2 cO2) (xs := []) (by repeat (first | with_reducible exact List.mem_cons_self | apply List.mem_cons_of_mem)), RX.out.rd (v := .slice pO3 nO3 cO3) (xs := x) (by repeat (first | with_reducible exact List.mem_cons_self | apply List.mem_cons_of_mem))⟩ ⟨RX.out.nil.rd List.mem_cons_self, RX.out.nil.rd List.mem_cons_self, RX.out.rd (v := .slice pe ne ce) (xs := x) (by repeat (first | with_reducible exact List.mem_cons_self | apply List.mem_cons_of_mem))⟩ (Nat.le_refl _) (Nat.le_refl _) ⟨by simp, by simp, Nat.le_trans HX.out (by decide)⟩).mono ?_)); rintro e w17 ⟨rfl, hb⟩; replace RX := Lib.hid (RX.out.step hb); clear hb; clear fR0 fR1 fR2 fT0 fT1 fT2 fU0 fU1 fU2; obtain ⟨⟨fR0, fR1, fR2⟩, -⟩ := RX.out.at (r := w1.heap.size) (a := .int .i64 k) (b := .int .i64 p) (c := .int .i64 q) (by repeat (first | with_reducible exact List.mem_cons_self | apply List.mem_cons_of_mem)); obtain ⟨⟨fT0, fT1, fT2⟩, -⟩ := RX.out.at (r := w2.heap.size) (a := .slice pT1 nT1 cT1) (b := .slice pT2 nT2 cT2) (c := .slice pT3 nT3 cT3) (by repeat (first | with_reducible exact List.mem_cons_self | apply List.mem_cons_of_mem)); obtain ⟨⟨fU0, fU1, fU2⟩, -⟩ := RX.out.at (r := w8.heap.size) (a := .slice pU1 nU1 cU1) (b := .slice pU2 nU2 cU2) (c := .slice pU3 nU3 cU3) (by repeat (first | with_reducible exact List.mem_cons_self | apply List.mem_cons_of_mem)))
  go_wp2_with fail
  refine hK.out _ _ (by (try dsimp only); exact ⟨fR0, fR1, fR2, fT0, fT1, fT2, fU0, fU1, fU2⟩) (fun hHeld => ?_)
  clear hK K
  try simp only [Act.put, List.getElem_toArray, List.getElem_cons_succ, List.getElem_cons_zero, List.setIfInBounds_toArray, List.set_cons_zero, List.set_cons_succ]
  refine wpAnyH_take (i := 17) (v := ?_) rfl (by kernel_rfl) (by kernel_rfl) (by kernel_rfl) (fun _ _ _ h => h) (Or.inl ⟨by rfl, ?_⟩) (by assumption) ?_
  rotate_left
  · intro w hSw; (try dsimp only at hSw); go_simp <;> with_reducible rfl
  try simp only [Act.put, List.getElem_toArray, List.getElem_cons_succ, List.getElem_cons_zero, List.setIfInBounds_toArray, List.set_cons_zero, List.set_cons_succ]
  refine wpAnyH_take (i := 18) (v := ?_) rfl (by kernel_rfl) (by kernel_rfl) (by kernel_rfl) (fun _ _ _ h => h) (Or.inl ⟨by rfl, ?_⟩) (by assumption) ?_
  rotate_left
  · intro w hSw; (try dsimp only at hSw); go_simp <;> with_reducible rfl
  try simp only [Act.put, List.getElem_toArray, List.getElem_cons_succ, List.getElem_cons_zero, List.setIfInBounds_toArray, List.set_cons_zero, List.set_cons_succ]
  refine wpAnyH_done (by kernel_rfl) ?_ _
  go_wp2
  go_ret
  exact ⟨rfl, RX.out.bel⟩
set_option maxHeartbeats 400000 in
theorem law_indices_big (a : Option Addr) (n c : Nat) (w : World) (hb : 1048576 < n) (hc : n ≤ 281474976710656) :
    Calls Try.prog 10 #[.slice a n c] w fun e w' => e = .returned (.bool true) ∧ Below w.heap.size w w' := by
  go_enter Try.func10, Try.ntmps10
  go_wp2
  go_ret
  exact ⟨rfl, Below.refl _ _⟩
theorem law_indices {v : Value} {bs : List UInt8} {w : World} (hr : Rd w.heap.size w v (bytes8 bs)) (hl : bs.length ≤ 281474976710656) :
    Calls Try.prog 10 #[v] w fun e w' => e = .returned (.bool true) ∧ Below w.heap.size w w' := by
  obtain ⟨a, cap, rfl, -⟩ := bytes_cell hr
  by_cases hs : bs.length ≤ 1048576
  · exact law_indices_small a _ cap bs w rfl hs hr
  · exact law_indices_big a _ cap w (by omega) hl
end Go.Proofs.Ytfdjlahaiogabab
