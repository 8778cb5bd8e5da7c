
/- The law FnElemText, walked. -/
import Derived.Test.YtceidekfcnmeaaaGreatDoorTextKit
import Derived.Deep.RegionHeld3
import Derived.Deep.DeepCutAuto
namespace Go.Proofs.YtceidekfcnmeaaaGreatDoor
set_option maxRecDepth 20000
open Go.RowKit

set_option maxHeartbeats 6400000 in
theorem law_elem_text_small (a : Option Addr) (n c : Nat) (bs : List UInt8) (w : World) (hn : bs.length = n) (hs : n ≤ 1048576) (hr : Rd w.heap.size w (.slice a n c) (bytes8 bs)) (hv : LibVars w) :
    Calls Tryz.prog 3 #[.slice a n c] w fun e w' => e = .returned (.bool true) ∧ Below w.heap.size w w' := by
  have HR := Lib.hid hr
  have HN := Lib.hid (show bs.length ≤ 1048576 by omega)
  have HV := Lib.hid (fun (W : World) (hb : Below w.heap.size w W) => hv.below hb)
  clear hr hn hv
  go_enter Tryz.func3, Tryz.ntmps3
  go_wp2_with fail
  refine (make_ring 0 (by omega) HR.out HN.out).mono ?_
  rintro e w1 ⟨k, p, q, rfl, hk, hb⟩
  have HK := Lib.hid hk
  have R1 := Lib.hid (((Rs.start w).step hb).box (.int .i64 k) (.int .i64 p) (.int .i64 q) 24)
  clear hk hb
  obtain ⟨⟨r0, r1, r2⟩, -⟩ := R1.out.at (r := w1.heap.size) (a := .int .i64 k) (b := .int .i64 p) (c := .int .i64 q) (by repeat (first | with_reducible exact List.mem_cons_self | apply List.mem_cons_of_mem))
  go_wp2_with fail
  refine (make_elem 10 (by omega) HK.out ((HR.out.below R1.out.bel (Nat.le_refl _)).mono R1.out.bel.size) HN.out).mono ?_
  clear r0 r1 r2
  rintro e w2 ⟨vx, x, rfl, hx, ho, hb⟩
  obtain ⟨pe, ne, ce, rfl⟩ := own_slice ho
  have R2 := Lib.hid (R1.out.new hb ho)
  have HX := Lib.hid hx
  clear hx ho hb R1
  obtain ⟨⟨r0, r1, r2⟩, -⟩ := R2.out.at (r := w1.heap.size) (a := .int .i64 k) (b := .int .i64 p) (c := .int .i64 q) (by repeat (first | with_reducible exact List.mem_cons_self | apply List.mem_cons_of_mem))
  go_wp2_with fail
  refine (make_ten 20 (by omega) HK.out ((HR.out.below R2.out.bel (Nat.le_refl _)).mono R2.out.bel.size) HN.out).mono ?_
  clear r0 r1 r2
  rintro e w3 ⟨l', d', x', LT, DT, XT, rfl, hv, ht, ho, hb⟩
  obtain ⟨pT1, nT1, cT1, rfl⟩ := own_slice (show Own _ _ _ l' LT from ho.1 (l', LT) (by simp))
  obtain ⟨pT2, nT2, cT2, rfl⟩ := own_slice (show Own _ _ _ d' DT from ho.1 (d', DT) (by simp))
  obtain ⟨pT3, nT3, cT3, rfl⟩ := own_slice (show Own _ _ _ x' XT from ho.1 (x', XT) (by simp))
  have R3 := Lib.hid ((R2.out.new3 hb ho).box (.slice pT1 nT1 cT1) (.slice pT2 nT2 cT2) (.slice pT3 nT3 cT3) 29)
  have HT := Lib.hid ht
  clear hv ht ho hb R2
  obtain ⟨⟨r0, r1, r2⟩, -⟩ := R3.out.at (r := w1.heap.size) (a := .int .i64 k) (b := .int .i64 p) (c := .int .i64 q) (by repeat (first | with_reducible exact List.mem_cons_self | apply List.mem_cons_of_mem))
  go_wp2_with fail
  refine (fmt_ring_yes (HV.out _ R3.out.bel)).mono ?_
  clear r0 r1 r2
  rintro e w4 ⟨rfl, hb⟩
  have R4 := Lib.hid (R3.out.step hb)
  clear hb R3
  go_wp2_with fail
  refine (parse_ring_yes HK.out (HV.out _ R4.out.bel)).mono ?_
  rintro e w5 ⟨rfl, hb⟩
  have R5 := Lib.hid ((R4.out.step hb).box (.int .i64 k) (.int .i64 p) (.int .i64 q) 24)
  clear hb R4
  have RX := Lib.hid R5.out.drew
  go_upto_region 7 with fail
  clear R5
  refine wp_region_held_drew (S := (fun w' => w'.cell? ⟨w1.heap.size, 0, none⟩ = some (.int .i64 k) ∧ w'.cell? ⟨w1.heap.size, 1, none⟩ = some (.int .i64 p) ∧ w'.cell? ⟨w1.heap.size, 2, none⟩ = some (.int .i64 q))) (by kernel_rfl) (by (try dsimp only); with_reducible exact (RX.out.at (r := w1.heap.size) (a := .int .i64 k) (b := .int .i64 p) (c := .int .i64 q) (by repeat (first | with_reducible exact List.mem_cons_self | apply List.mem_cons_of_mem))).1) (fun hHeld => ?_)
  refine wpAnyH_take (i := 0) (v := ?_) rfl (by kernel_rfl) (by kernel_rfl) (by kernel_rfl) (fun _ _ _ h => h) (Or.inl ⟨by rfl, ?_⟩) (by assumption) ?_
  rotate_left
  · intro w hSw; (try dsimp only at hSw); go_simp <;> with_reducible rfl
  try simp only [Act.put, List.getElem_toArray, List.getElem_cons_zero, List.setIfInBounds_toArray, List.set_cons_zero, List.set_cons_succ]
  refine wpAnyH_take (i := 1) (v := ?_) rfl (by kernel_rfl) (by kernel_rfl) (by kernel_rfl) (fun _ _ _ h => h) (Or.inl ⟨by rfl, ?_⟩) (by assumption) ?_
  rotate_left
  · intro w hSw; (try dsimp only at hSw); go_simp <;> with_reducible rfl
  try simp only [Act.put, List.getElem_toArray, List.getElem_cons_succ, List.getElem_cons_zero, List.setIfInBounds_toArray, List.set_cons_zero, List.set_cons_succ]
  refine wpAnyH_take (i := 2) (v := ?_) rfl (by kernel_rfl) (by kernel_rfl) (by kernel_rfl) (fun _ _ _ h => h) (Or.inl ⟨by rfl, ?_⟩) (by assumption) ?_
  rotate_left
  · intro w hSw; (try dsimp only at hSw); go_simp <;> with_reducible rfl
  try simp only [Act.put, List.getElem_toArray, List.getElem_cons_succ, List.getElem_cons_zero, List.setIfInBounds_toArray, List.set_cons_zero, List.set_cons_succ]
  refine wpAnyH_ready (rs := [3]) (by kernel_rfl) (by simp) ?_
  refine AllReadyH.cons rfl (fun K hK => ?_) AllReadyH.nil
  go_simp
  (go_at_call 10; refine Calls.mono (fmt_elem_yes HK.out HX.out (RX.out.rd (v := .slice pe ne ce) (xs := x) (by repeat (first | with_reducible exact List.mem_cons_self | apply List.mem_cons_of_mem))) (Nat.le_refl _) (HV.out _ RX.out.bel)) ?_; rintro e WX ⟨rfl, hb⟩; replace RX := Lib.hid (RX.out.step hb); clear hb)
  go_wp2_with fail
  refine hK.out _ _ (by (try dsimp only); with_reducible exact (RX.out.at (r := w1.heap.size) (a := .int .i64 k) (b := .int .i64 p) (c := .int .i64 q) (by repeat (first | with_reducible exact List.mem_cons_self | apply List.mem_cons_of_mem))).1) (fun hHeld => ?_)
  clear hK K
  try simp only [Act.put, List.getElem_toArray, List.getElem_cons_succ, List.getElem_cons_zero, List.setIfInBounds_toArray, List.set_cons_zero, List.set_cons_succ]
  refine wpAnyH_ready (rs := [4]) (by kernel_rfl) (by simp) ?_
  refine AllReadyH.cons rfl (fun K hK => ?_) AllReadyH.nil
  go_simp
  (go_at_call 9; refine Calls.mono (parse_elem_yes HK.out HX.out (HV.out _ RX.out.bel)) ?_; rintro e W7 ⟨py, ny, cy, rfl, ho, hb⟩; replace RX := Lib.hid (RX.out.new hb ho); clear ho hb)
  go_wp2_with fail
  refine hK.out _ _ (by (try dsimp only); with_reducible exact (RX.out.at (r := w1.heap.size) (a := .int .i64 k) (b := .int .i64 p) (c := .int .i64 q) (by repeat (first | with_reducible exact List.mem_cons_self | apply List.mem_cons_of_mem))).1) (fun hHeld => ?_)
  clear hK K
  try simp only [Act.put, List.getElem_toArray, List.getElem_cons_succ, List.getElem_cons_zero, List.setIfInBounds_toArray, List.set_cons_zero, List.set_cons_succ]
  refine wpAnyH_take (i := 5) (v := ?_) rfl (by kernel_rfl) (by kernel_rfl) (by kernel_rfl) (fun _ _ _ h => h) (Or.inl ⟨by rfl, ?_⟩) (by assumption) ?_
  rotate_left
  · intro w hSw; (try dsimp only at hSw); go_simp <;> with_reducible rfl
  try simp only [Act.put, List.getElem_toArray, List.getElem_cons_succ, List.getElem_cons_zero, List.setIfInBounds_toArray, List.set_cons_zero, List.set_cons_succ]
  refine wpAnyH_take (i := 6) (v := ?_) rfl (by kernel_rfl) (by kernel_rfl) (by kernel_rfl) (fun _ _ _ h => h) (Or.inl ⟨by rfl, ?_⟩) (by assumption) ?_
  rotate_left
  · intro w hSw; (try dsimp only at hSw); go_simp <;> with_reducible rfl
  try simp only [Act.put, List.getElem_toArray, List.getElem_cons_succ, List.getElem_cons_zero, List.setIfInBounds_toArray, List.set_cons_zero, List.set_cons_succ]
  refine wpAnyH_take (i := 7) (v := ?_) rfl (by kernel_rfl) (by kernel_rfl) (by kernel_rfl) (fun _ _ _ h => h) (Or.inl ⟨by rfl, ?_⟩) (by assumption) ?_
  rotate_left
  · intro w hSw; (try dsimp only at hSw); go_simp <;> with_reducible rfl
  try simp only [Act.put, List.getElem_toArray, List.getElem_cons_succ, List.getElem_cons_zero, List.setIfInBounds_toArray, List.set_cons_zero, List.set_cons_succ]
  refine wpAnyH_take (i := 8) (v := ?_) rfl (by kernel_rfl) (by kernel_rfl) (by kernel_rfl) (fun _ _ _ h => h) (Or.inl ⟨by rfl, ?_⟩) (by assumption) ?_
  rotate_left
  · intro w hSw; (try dsimp only at hSw); go_simp <;> with_reducible rfl
  try simp only [Act.put, List.getElem_toArray, List.getElem_cons_succ, List.getElem_cons_zero, List.setIfInBounds_toArray, List.set_cons_zero, List.set_cons_succ]
  refine wpAnyH_take (i := 9) (v := ?_) rfl (by kernel_rfl) (by kernel_rfl) (by kernel_rfl) (fun _ _ _ h => h) (Or.inl ⟨by rfl, ?_⟩) (by assumption) ?_
  rotate_left
  · intro w hSw; (try dsimp only at hSw); go_simp <;> with_reducible rfl
  try simp only [Act.put, List.getElem_toArray, List.getElem_cons_succ, List.getElem_cons_zero, List.setIfInBounds_toArray, List.set_cons_zero, List.set_cons_succ]
  refine wpAnyH_done (by kernel_rfl) ?_ _
  have R7 := Lib.hid RX.out.drew
  go_upto_region 8 with fail
  clear RX
  have RX := R7
  clear R7
  refine wp_region_held_drew (S := (fun w' => (w'.cell? ⟨w1.heap.size, 0, none⟩ = some (.int .i64 k) ∧ w'.cell? ⟨w1.heap.size, 1, none⟩ = some (.int .i64 p) ∧ w'.cell? ⟨w1.heap.size, 2, none⟩ = some (.int .i64 q)) ∧ (w'.cell? ⟨w3.heap.size, 0, none⟩ = some (.slice pT1 nT1 cT1) ∧ w'.cell? ⟨w3.heap.size, 1, none⟩ = some (.slice pT2 nT2 cT2) ∧ w'.cell? ⟨w3.heap.size, 2, none⟩ = some (.slice pT3 nT3 cT3)))) (by kernel_rfl) (by (try dsimp only); with_reducible exact ⟨(RX.out.at (r := w1.heap.size) (a := .int .i64 k) (b := .int .i64 p) (c := .int .i64 q) (by repeat (first | with_reducible exact List.mem_cons_self | apply List.mem_cons_of_mem))).1, (RX.out.at (r := w3.heap.size) (a := .slice pT1 nT1 cT1) (b := .slice pT2 nT2 cT2) (c := .slice pT3 nT3 cT3) (by repeat (first | with_reducible exact List.mem_cons_self | apply List.mem_cons_of_mem))).1⟩) (fun hHeld => ?_)
  obtain ⟨WX, hW⟩ : ∃ W, W = W7.drew := ⟨_, rfl⟩
  rw [← hW] at hHeld RX ⊢
  clear hW
  refine wpAnyH_take (i := 0) (v := ?_) rfl (by kernel_rfl) (by kernel_rfl) (by kernel_rfl) (fun _ _ _ h => h) (Or.inl ⟨by rfl, ?_⟩) (by assumption) ?_
  rotate_left
  · intro w hSw; (try dsimp only at hSw); go_simp <;> with_reducible rfl
  try simp only [Act.put, List.getElem_toArray, List.getElem_cons_zero, List.setIfInBounds_toArray, List.set_cons_zero, List.set_cons_succ]
  refine wpAnyH_take (i := 1) (v := ?_) rfl (by kernel_rfl) (by kernel_rfl) (by kernel_rfl) (fun _ _ _ h => h) (Or.inl ⟨by rfl, ?_⟩) (by assumption) ?_
  rotate_left
  · intro w hSw; (try dsimp only at hSw); go_simp <;> with_reducible rfl
  try simp only [Act.put, List.getElem_toArray, List.getElem_cons_succ, List.getElem_cons_zero, List.setIfInBounds_toArray, List.set_cons_zero, List.set_cons_succ]
  refine wpAnyH_take (i := 2) (v := ?_) rfl (by kernel_rfl) (by kernel_rfl) (by kernel_rfl) (fun _ _ _ h => h) (Or.inl ⟨by rfl, ?_⟩) (by assumption) ?_
  rotate_left
  · intro w hSw; (try dsimp only at hSw); go_simp <;> with_reducible rfl
  try simp only [Act.put, List.getElem_toArray, List.getElem_cons_succ, List.getElem_cons_zero, List.setIfInBounds_toArray, List.set_cons_zero, List.set_cons_succ]
  refine wpAnyH_ready (rs := [3, 8]) (by kernel_rfl) (by simp) ?_
  refine AllReadyH.cons rfl (fun K hK => ?_) (AllReadyH.cons rfl (fun K hK => ?_) AllReadyH.nil)
  focus
    go_simp
    (go_at_call 12; refine Calls.mono (fmt_ten_yes HT.out (⟨RX.out.rd (v := .slice pT1 nT1 cT1) (xs := LT) (by repeat (first | with_reducible exact List.mem_cons_self | apply List.mem_cons_of_mem)), RX.out.rd (v := .slice pT2 nT2 cT2) (xs := DT) (by repeat (first | with_reducible exact List.mem_cons_self | apply List.mem_cons_of_mem)), RX.out.rd (v := .slice pT3 nT3 cT3) (xs := XT) (by repeat (first | with_reducible exact List.mem_cons_self | apply List.mem_cons_of_mem))⟩) (Nat.le_refl _) (HV.out _ RX.out.bel)) ?_; rintro e WX ⟨rfl, hb⟩; replace RX := Lib.hid (RX.out.step hb); clear hb)
    go_wp2_with fail
    refine hK.out _ _ (by (try dsimp only); with_reducible exact ⟨(RX.out.at (r := w1.heap.size) (a := .int .i64 k) (b := .int .i64 p) (c := .int .i64 q) (by repeat (first | with_reducible exact List.mem_cons_self | apply List.mem_cons_of_mem))).1, (RX.out.at (r := w3.heap.size) (a := .slice pT1 nT1 cT1) (b := .slice pT2 nT2 cT2) (c := .slice pT3 nT3 cT3) (by repeat (first | with_reducible exact List.mem_cons_self | apply List.mem_cons_of_mem))).1⟩) (fun hHeld => ?_)
    clear hK K
    try simp only [Act.put, List.getElem_toArray, List.getElem_cons_succ, List.getElem_cons_zero, List.setIfInBounds_toArray, List.set_cons_zero, List.set_cons_succ]
    refine wpAnyH_ready (rs := [4, 8]) (by kernel_rfl) (by simp) ?_
    refine AllReadyH.cons rfl (fun K hK => ?_) (AllReadyH.cons rfl (fun K hK => ?_) AllReadyH.nil)
    focus
      go_simp
      (go_at_call 11; refine Calls.mono (parse_ten_yes HT.out (HV.out _ RX.out.bel)) ?_; rintro e WX ⟨pU1, nU1, cU1, pU2, nU2, cU2, pU3, nU3, cU3, rfl, ho, hb⟩; replace RX := Lib.hid (RX.out.new3 hb ho); clear ho hb)
      go_wp2_with fail
      refine hK.out _ _ (by (try dsimp only); with_reducible exact ⟨(RX.out.at (r := w1.heap.size) (a := .int .i64 k) (b := .int .i64 p) (c := .int .i64 q) (by repeat (first | with_reducible exact List.mem_cons_self | apply List.mem_cons_of_mem))).1, (RX.out.at (r := w3.heap.size) (a := .slice pT1 nT1 cT1) (b := .slice pT2 nT2 cT2) (c := .slice pT3 nT3 cT3) (by repeat (first | with_reducible exact List.mem_cons_self | apply List.mem_cons_of_mem))).1⟩) (fun hHeld => ?_)
      clear hK K
      try simp only [Act.put, List.getElem_toArray, List.getElem_cons_succ, List.getElem_cons_zero, List.setIfInBounds_toArray, List.set_cons_zero, List.set_cons_succ]
      refine wpAnyH_take (i := 5) (v := ?_) rfl (by kernel_rfl) (by kernel_rfl) (by kernel_rfl) (fun _ _ _ h => h) (Or.inl ⟨by rfl, ?_⟩) (by assumption) ?_
      rotate_left
      · intro w hSw; (try dsimp only at hSw); go_simp <;> with_reducible rfl
      try simp only [Act.put, List.getElem_toArray, List.getElem_cons_succ, List.getElem_cons_zero, List.setIfInBounds_toArray, List.set_cons_zero, List.set_cons_succ]
      refine wpAnyH_take (i := 6) (v := ?_) rfl (by kernel_rfl) (by kernel_rfl) (by kernel_rfl) (fun _ _ _ h => h) (Or.inl ⟨by rfl, ?_⟩) (by assumption) ?_
      rotate_left
      · intro w hSw; (try dsimp only at hSw); go_simp <;> with_reducible rfl
      try simp only [Act.put, List.getElem_toArray, List.getElem_cons_succ, List.getElem_cons_zero, List.setIfInBounds_toArray, List.set_cons_zero, List.set_cons_succ]
      refine wpAnyH_take (i := 7) (v := ?_) rfl (by kernel_rfl) (by kernel_rfl) (by kernel_rfl) (fun _ _ _ h => h) (Or.inl ⟨by rfl, ?_⟩) (by assumption) ?_
      rotate_left
      · intro w hSw; (try dsimp only at hSw); go_simp <;> with_reducible rfl
      try simp only [Act.put, List.getElem_toArray, List.getElem_cons_succ, List.getElem_cons_zero, List.setIfInBounds_toArray, List.set_cons_zero, List.set_cons_succ]
      refine wpAnyH_ready (rs := [8]) (by kernel_rfl) (by simp) ?_
      refine AllReadyH.cons rfl (fun K hK => ?_) AllReadyH.nil
      go_simp
      ((obtain ⟨WX, g10, hW, hg, RY⟩ := RX.out.boxY nilV nilV nilV 29; rw [hW]; (try rw [hg]); replace RX := Lib.hid RY; clear RY hW hg))
      refine hK.out _ _ (by (try dsimp only); with_reducible exact ⟨(RX.out.at (r := w1.heap.size) (a := .int .i64 k) (b := .int .i64 p) (c := .int .i64 q) (by repeat (first | with_reducible exact List.mem_cons_self | apply List.mem_cons_of_mem))).1, (RX.out.at (r := w3.heap.size) (a := .slice pT1 nT1 cT1) (b := .slice pT2 nT2 cT2) (c := .slice pT3 nT3 cT3) (by repeat (first | with_reducible exact List.mem_cons_self | apply List.mem_cons_of_mem))).1⟩) (fun hHeld => ?_)
      clear hK K
      try simp only [Act.put, List.getElem_toArray, List.getElem_cons_succ, List.getElem_cons_zero, List.setIfInBounds_toArray, List.set_cons_zero, List.set_cons_succ]
      refine wpAnyH_ready (rs := [9]) (by kernel_rfl) (by simp) ?_
      refine AllReadyH.cons rfl (fun K hK => ?_) AllReadyH.nil
      ((obtain ⟨⟨t0, t1, t2⟩, f0, f1, f2⟩ := RX.out.at (r := g10) (a := nilV) (b := nilV) (c := nilV) (by repeat (first | with_reducible exact List.mem_cons_self | apply List.mem_cons_of_mem))))
      go_simp
      ((have RY := RX.out.set3 (.slice pU1 nU1 cU1) (.slice pU2 nU2 cU2) (.slice pU3 nU3 cU3); obtain ⟨WY, hW⟩ : ∃ WY, WY = (((WX.setCell ⟨g10, 0, none⟩ (.slice pU1 nU1 cU1)).setCell ⟨g10, 1, none⟩ (.slice pU2 nU2 cU2)).setCell ⟨g10, 2, none⟩ (.slice pU3 nU3 cU3)) := ⟨_, rfl⟩; rw [← hW] at RY ⊢; clear hW t0 t1 t2 f0 f1 f2; replace RX := Lib.hid RY; clear RY))
      refine hK.out _ _ (by (try dsimp only); with_reducible exact ⟨(RX.out.at (r := w1.heap.size) (a := .int .i64 k) (b := .int .i64 p) (c := .int .i64 q) (by repeat (first | with_reducible exact List.mem_cons_self | apply List.mem_cons_of_mem))).1, (RX.out.at (r := w3.heap.size) (a := .slice pT1 nT1 cT1) (b := .slice pT2 nT2 cT2) (c := .slice pT3 nT3 cT3) (by repeat (first | with_reducible exact List.mem_cons_self | apply List.mem_cons_of_mem))).1⟩) (fun hHeld => ?_)
      clear hK K
      try simp only [Act.put, List.getElem_toArray, List.getElem_cons_succ, List.getElem_cons_zero, List.setIfInBounds_toArray, List.set_cons_zero, List.set_cons_succ]
      refine wpAnyH_take (i := 10) (v := ?_) rfl (by kernel_rfl) (by kernel_rfl) (by kernel_rfl) (fun _ _ _ h => h) (Or.inl ⟨by rfl, ?_⟩) (by assumption) ?_
      rotate_left
      · intro w hSw; (try dsimp only at hSw); go_simp <;> with_reducible rfl
      try simp only [Act.put, List.getElem_toArray, List.getElem_cons_succ, List.getElem_cons_zero, List.setIfInBounds_toArray, List.set_cons_zero, List.set_cons_succ]
      refine wpAnyH_done (by kernel_rfl) ?_ _
    rotate_left 1
    focus
      go_simp
      ((obtain ⟨WX, g10, hW, hg, RY⟩ := RX.out.boxY nilV nilV nilV 29; rw [hW]; (try rw [hg]); replace RX := Lib.hid RY; clear RY hW hg))
      refine hK.out _ _ (by (try dsimp only); with_reducible exact ⟨(RX.out.at (r := w1.heap.size) (a := .int .i64 k) (b := .int .i64 p) (c := .int .i64 q) (by repeat (first | with_reducible exact List.mem_cons_self | apply List.mem_cons_of_mem))).1, (RX.out.at (r := w3.heap.size) (a := .slice pT1 nT1 cT1) (b := .slice pT2 nT2 cT2) (c := .slice pT3 nT3 cT3) (by repeat (first | with_reducible exact List.mem_cons_self | apply List.mem_cons_of_mem))).1⟩) (fun hHeld => ?_)
      clear hK K
      try simp only [Act.put, List.getElem_toArray, List.getElem_cons_succ, List.getElem_cons_zero, List.setIfInBounds_toArray, List.set_cons_zero, List.set_cons_succ]
      refine wpAnyH_ready (rs := [4]) (by kernel_rfl) (by simp) ?_
      refine AllReadyH.cons rfl (fun K hK => ?_) AllReadyH.nil
      go_simp
      (go_at_call 11; refine Calls.mono (parse_ten_yes HT.out (HV.out _ RX.out.bel)) ?_; rintro e WX ⟨pU1, nU1, cU1, pU2, nU2, cU2, pU3, nU3, cU3, rfl, ho, hb⟩; replace RX := Lib.hid (RX.out.new3 hb ho); clear ho hb)
      go_wp2_with fail
      refine hK.out _ _ (by (try dsimp only); with_reducible exact ⟨(RX.out.at (r := w1.heap.size) (a := .int .i64 k) (b := .int .i64 p) (c := .int .i64 q) (by repeat (first | with_reducible exact List.mem_cons_self | apply List.mem_cons_of_mem))).1, (RX.out.at (r := w3.heap.size) (a := .slice pT1 nT1 cT1) (b := .slice pT2 nT2 cT2) (c := .slice pT3 nT3 cT3) (by repeat (first | with_reducible exact List.mem_cons_self | apply List.mem_cons_of_mem))).1⟩) (fun hHeld => ?_)
      clear hK K
      try simp only [Act.put, List.getElem_toArray, List.getElem_cons_succ, List.getElem_cons_zero, List.setIfInBounds_toArray, List.set_cons_zero, List.set_cons_succ]
      refine wpAnyH_take (i := 5) (v := ?_) rfl (by kernel_rfl) (by kernel_rfl) (by kernel_rfl) (fun _ _ _ h => h) (Or.inl ⟨by rfl, ?_⟩) (by assumption) ?_
      rotate_left
      · intro w hSw; (try dsimp only at hSw); go_simp <;> with_reducible rfl
      try simp only [Act.put, List.getElem_toArray, List.getElem_cons_succ, List.getElem_cons_zero, List.setIfInBounds_toArray, List.set_cons_zero, List.set_cons_succ]
      refine wpAnyH_take (i := 6) (v := ?_) rfl (by kernel_rfl) (by kernel_rfl) (by kernel_rfl) (fun _ _ _ h => h) (Or.inl ⟨by rfl, ?_⟩) (by assumption) ?_
      rotate_left
      · intro w hSw; (try dsimp only at hSw); go_simp <;> with_reducible rfl
      try simp only [Act.put, List.getElem_toArray, List.getElem_cons_succ, List.getElem_cons_zero, List.setIfInBounds_toArray, List.set_cons_zero, List.set_cons_succ]
      refine wpAnyH_take (i := 7) (v := ?_) rfl (by kernel_rfl) (by kernel_rfl) (by kernel_rfl) (fun _ _ _ h => h) (Or.inl ⟨by rfl, ?_⟩) (by assumption) ?_
      rotate_left
      · intro w hSw; (try dsimp only at hSw); go_simp <;> with_reducible rfl
      try simp only [Act.put, List.getElem_toArray, List.getElem_cons_succ, List.getElem_cons_zero, List.setIfInBounds_toArray, List.set_cons_zero, List.set_cons_succ]
      refine wpAnyH_ready (rs := [9]) (by kernel_rfl) (by simp) ?_
      refine AllReadyH.cons rfl (fun K hK => ?_) AllReadyH.nil
      ((obtain ⟨⟨t0, t1, t2⟩, f0, f1, f2⟩ := RX.out.at (r := g10) (a := nilV) (b := nilV) (c := nilV) (by repeat (first | with_reducible exact List.mem_cons_self | apply List.mem_cons_of_mem))))
      go_simp
      ((have RY := RX.out.set3 (.slice pU1 nU1 cU1) (.slice pU2 nU2 cU2) (.slice pU3 nU3 cU3); obtain ⟨WY, hW⟩ : ∃ WY, WY = (((WX.setCell ⟨g10, 0, none⟩ (.slice pU1 nU1 cU1)).setCell ⟨g10, 1, none⟩ (.slice pU2 nU2 cU2)).setCell ⟨g10, 2, none⟩ (.slice pU3 nU3 cU3)) := ⟨_, rfl⟩; rw [← hW] at RY ⊢; clear hW t0 t1 t2 f0 f1 f2; replace RX := Lib.hid RY; clear RY))
      refine hK.out _ _ (by (try dsimp only); with_reducible exact ⟨(RX.out.at (r := w1.heap.size) (a := .int .i64 k) (b := .int .i64 p) (c := .int .i64 q) (by repeat (first | with_reducible exact List.mem_cons_self | apply List.mem_cons_of_mem))).1, (RX.out.at (r := w3.heap.size) (a := .slice pT1 nT1 cT1) (b := .slice pT2 nT2 cT2) (c := .slice pT3 nT3 cT3) (by repeat (first | with_reducible exact List.mem_cons_self | apply List.mem_cons_of_mem))).1⟩) (fun hHeld => ?_)
      clear hK K
      try simp only [Act.put, List.getElem_toArray, List.getElem_cons_succ, List.getElem_cons_zero, List.setIfInBounds_toArray, List.set_cons_zero, List.set_cons_succ]
      refine wpAnyH_take (i := 10) (v := ?_) rfl (by kernel_rfl) (by kernel_rfl) (by kernel_rfl) (fun _ _ _ h => h) (Or.inl ⟨by rfl, ?_⟩) (by assumption) ?_
      rotate_left
      · intro w hSw; (try dsimp only at hSw); go_simp <;> with_reducible rfl
      try simp only [Act.put, List.getElem_toArray, List.getElem_cons_succ, List.getElem_cons_zero, List.setIfInBounds_toArray, List.set_cons_zero, List.set_cons_succ]
      refine wpAnyH_done (by kernel_rfl) ?_ _
    rotate_left 1
  rotate_left 2
  focus
    go_simp
    ((obtain ⟨WX, g10, hW, hg, RY⟩ := RX.out.boxY nilV nilV nilV 29; rw [hW]; (try rw [hg]); replace RX := Lib.hid RY; clear RY hW hg))
    refine hK.out _ _ (by (try dsimp only); with_reducible exact ⟨(RX.out.at (r := w1.heap.size) (a := .int .i64 k) (b := .int .i64 p) (c := .int .i64 q) (by repeat (first | with_reducible exact List.mem_cons_self | apply List.mem_cons_of_mem))).1, (RX.out.at (r := w3.heap.size) (a := .slice pT1 nT1 cT1) (b := .slice pT2 nT2 cT2) (c := .slice pT3 nT3 cT3) (by repeat (first | with_reducible exact List.mem_cons_self | apply List.mem_cons_of_mem))).1⟩) (fun hHeld => ?_)
    clear hK K
    try simp only [Act.put, List.getElem_toArray, List.getElem_cons_succ, List.getElem_cons_zero, List.setIfInBounds_toArray, List.set_cons_zero, List.set_cons_succ]
    refine wpAnyH_ready (rs := [3]) (by kernel_rfl) (by simp) ?_
    refine AllReadyH.cons rfl (fun K hK => ?_) AllReadyH.nil
    go_simp
    (go_at_call 12; refine Calls.mono (fmt_ten_yes HT.out (⟨RX.out.rd (v := .slice pT1 nT1 cT1) (xs := LT) (by repeat (first | with_reducible exact List.mem_cons_self | apply List.mem_cons_of_mem)), RX.out.rd (v := .slice pT2 nT2 cT2) (xs := DT) (by repeat (first | with_reducible exact List.mem_cons_self | apply List.mem_cons_of_mem)), RX.out.rd (v := .slice pT3 nT3 cT3) (xs := XT) (by repeat (first | with_reducible exact List.mem_cons_self | apply List.mem_cons_of_mem))⟩) (Nat.le_refl _) (HV.out _ RX.out.bel)) ?_; rintro e WX ⟨rfl, hb⟩; replace RX := Lib.hid (RX.out.step hb); clear hb)
    go_wp2_with fail
    refine hK.out _ _ (by (try dsimp only); with_reducible exact ⟨(RX.out.at (r := w1.heap.size) (a := .int .i64 k) (b := .int .i64 p) (c := .int .i64 q) (by repeat (first | with_reducible exact List.mem_cons_self | apply List.mem_cons_of_mem))).1, (RX.out.at (r := w3.heap.size) (a := .slice pT1 nT1 cT1) (b := .slice pT2 nT2 cT2) (c := .slice pT3 nT3 cT3) (by repeat (first | with_reducible exact List.mem_cons_self | apply List.mem_cons_of_mem))).1⟩) (fun hHeld => ?_)
    clear hK K
    try simp only [Act.put, List.getElem_toArray, List.getElem_cons_succ, List.getElem_cons_zero, List.setIfInBounds_toArray, List.set_cons_zero, List.set_cons_succ]
    refine wpAnyH_ready (rs := [4]) (by kernel_rfl) (by simp) ?_
    refine AllReadyH.cons rfl (fun K hK => ?_) AllReadyH.nil
    go_simp
    (go_at_call 11; refine Calls.mono (parse_ten_yes HT.out (HV.out _ RX.out.bel)) ?_; rintro e WX ⟨pU1, nU1, cU1, pU2, nU2, cU2, pU3, nU3, cU3, rfl, ho, hb⟩; replace RX := Lib.hid (RX.out.new3 hb ho); clear ho hb)
    go_wp2_with fail
    refine hK.out _ _ (by (try dsimp only); with_reducible exact ⟨(RX.out.at (r := w1.heap.size) (a := .int .i64 k) (b := .int .i64 p) (c := .int .i64 q) (by repeat (first | with_reducible exact List.mem_cons_self | apply List.mem_cons_of_mem))).1, (RX.out.at (r := w3.heap.size) (a := .slice pT1 nT1 cT1) (b := .slice pT2 nT2 cT2) (c := .slice pT3 nT3 cT3) (by repeat (first | with_reducible exact List.mem_cons_self | apply List.mem_cons_of_mem))).1⟩) (fun hHeld => ?_)
    clear hK K
    try simp only [Act.put, List.getElem_toArray, List.getElem_cons_succ, List.getElem_cons_zero, List.setIfInBounds_toArray, List.set_cons_zero, List.set_cons_succ]
    refine wpAnyH_take (i := 5) (v := ?_) rfl (by kernel_rfl) (by kernel_rfl) (by kernel_rfl) (fun _ _ _ h => h) (Or.inl ⟨by rfl, ?_⟩) (by assumption) ?_
    rotate_left
    · intro w hSw; (try dsimp only at hSw); go_simp <;> with_reducible rfl
    try simp only [Act.put, List.getElem_toArray, List.getElem_cons_succ, List.getElem_cons_zero, List.setIfInBounds_toArray, List.set_cons_zero, List.set_cons_succ]
    refine wpAnyH_take (i := 6) (v := ?_) rfl (by kernel_rfl) (by kernel_rfl) (by kernel_rfl) (fun _ _ _ h => h) (Or.inl ⟨by rfl, ?_⟩) (by assumption) ?_
    rotate_left
    · intro w hSw; (try dsimp only at hSw); go_simp <;> with_reducible rfl
    try simp only [Act.put, List.getElem_toArray, List.getElem_cons_succ, List.getElem_cons_zero, List.setIfInBounds_toArray, List.set_cons_zero, List.set_cons_succ]
    refine wpAnyH_take (i := 7) (v := ?_) rfl (by kernel_rfl) (by kernel_rfl) (by kernel_rfl) (fun _ _ _ h => h) (Or.inl ⟨by rfl, ?_⟩) (by assumption) ?_
    rotate_left
    · intro w hSw; (try dsimp only at hSw); go_simp <;> with_reducible rfl
    try simp only [Act.put, List.getElem_toArray, List.getElem_cons_succ, List.getElem_cons_zero, List.setIfInBounds_toArray, List.set_cons_zero, List.set_cons_succ]
    refine wpAnyH_ready (rs := [9]) (by kernel_rfl) (by simp) ?_
    refine AllReadyH.cons rfl (fun K hK => ?_) AllReadyH.nil
    ((obtain ⟨⟨t0, t1, t2⟩, f0, f1, f2⟩ := RX.out.at (r := g10) (a := nilV) (b := nilV) (c := nilV) (by repeat (first | with_reducible exact List.mem_cons_self | apply List.mem_cons_of_mem))))
    go_simp
    ((have RY := RX.out.set3 (.slice pU1 nU1 cU1) (.slice pU2 nU2 cU2) (.slice pU3 nU3 cU3); obtain ⟨WY, hW⟩ : ∃ WY, WY = (((WX.setCell ⟨g10, 0, none⟩ (.slice pU1 nU1 cU1)).setCell ⟨g10, 1, none⟩ (.slice pU2 nU2 cU2)).setCell ⟨g10, 2, none⟩ (.slice pU3 nU3 cU3)) := ⟨_, rfl⟩; rw [← hW] at RY ⊢; clear hW t0 t1 t2 f0 f1 f2; replace RX := Lib.hid RY; clear RY))
    refine hK.out _ _ (by (try dsimp only); with_reducible exact ⟨(RX.out.at (r := w1.heap.size) (a := .int .i64 k) (b := .int .i64 p) (c := .int .i64 q) (by repeat (first | with_reducible exact List.mem_cons_self | apply List.mem_cons_of_mem))).1, (RX.out.at (r := w3.heap.size) (a := .slice pT1 nT1 cT1) (b := .slice pT2 nT2 cT2) (c := .slice pT3 nT3 cT3) (by repeat (first | with_reducible exact List.mem_cons_self | apply List.mem_cons_of_mem))).1⟩) (fun hHeld => ?_)
    clear hK K
    try simp only [Act.put, List.getElem_toArray, List.getElem_cons_succ, List.getElem_cons_zero, List.setIfInBounds_toArray, List.set_cons_zero, List.set_cons_succ]
    refine wpAnyH_take (i := 10) (v := ?_) rfl (by kernel_rfl) (by kernel_rfl) (by kernel_rfl) (fun _ _ _ h => h) (Or.inl ⟨by rfl, ?_⟩) (by assumption) ?_
    rotate_left
    · intro w hSw; (try dsimp only at hSw); go_simp <;> with_reducible rfl
    try simp only [Act.put, List.getElem_toArray, List.getElem_cons_succ, List.getElem_cons_zero, List.setIfInBounds_toArray, List.set_cons_zero, List.set_cons_succ]
    refine wpAnyH_done (by kernel_rfl) ?_ _
  rotate_left 1
  all_goals
    obtain ⟨⟨r0, r1, r2⟩, -⟩ := RX.out.at (r := w1.heap.size) (a := .int .i64 k) (b := .int .i64 p) (c := .int .i64 q) (by repeat (first | with_reducible exact List.mem_cons_self | apply List.mem_cons_of_mem))
    obtain ⟨⟨s0, s1, s2⟩, -⟩ := RX.out.at (r := w5.heap.size) (a := .int .i64 k) (b := .int .i64 p) (c := .int .i64 q) (by repeat (first | with_reducible exact List.mem_cons_self | apply List.mem_cons_of_mem))
    have HXL := Lib.hid (elem_short HK.out HX.out)
    go_wp2_with fail
    refine (ints_same (RX.out.rd (v := .slice pe ne ce) (xs := x) (by repeat (first | with_reducible exact List.mem_cons_self | apply List.mem_cons_of_mem))) (RX.out.rd (v := .slice py ny cy) (xs := x) (by repeat (first | with_reducible exact List.mem_cons_self | apply List.mem_cons_of_mem))) (by have := HXL.out; omega)).mono ?_
    clear r0 r1 r2 s0 s1 s2
    rintro e w12 ⟨rfl, rfl⟩
    obtain ⟨⟨t0, t1, t2⟩, -⟩ := RX.out.at (r := w3.heap.size) (a := .slice pT1 nT1 cT1) (b := .slice pT2 nT2 cT2) (c := .slice pT3 nT3 cT3) (by repeat (first | with_reducible exact List.mem_cons_self | apply List.mem_cons_of_mem))
    obtain ⟨⟨u0, u1, u2⟩, -⟩ := RX.out.at (r := g10) (a := .slice pU1 nU1 cU1) (b := .slice pU2 nU2 cU2) (c := .slice pU3 nU3 cU3) (by repeat (first | with_reducible exact List.mem_cons_self | apply List.mem_cons_of_mem))
    go_wp2_with fail
    refine (same_yes (⟨RX.out.rd (v := .slice pT1 nT1 cT1) (xs := LT) (by repeat (first | with_reducible exact List.mem_cons_self | apply List.mem_cons_of_mem)), RX.out.rd (v := .slice pT2 nT2 cT2) (xs := DT) (by repeat (first | with_reducible exact List.mem_cons_self | apply List.mem_cons_of_mem)), RX.out.rd (v := .slice pT3 nT3 cT3) (xs := XT) (by repeat (first | with_reducible exact List.mem_cons_self | apply List.mem_cons_of_mem))⟩) (⟨RX.out.rd (v := .slice pU1 nU1 cU1) (xs := LT) (by repeat (first | with_reducible exact List.mem_cons_self | apply List.mem_cons_of_mem)), RX.out.rd (v := .slice pU2 nU2 cU2) (xs := DT) (by repeat (first | with_reducible exact List.mem_cons_self | apply List.mem_cons_of_mem)), RX.out.rd (v := .slice pU3 nU3 cU3) (xs := XT) (by repeat (first | with_reducible exact List.mem_cons_self | apply List.mem_cons_of_mem))⟩) (Nat.le_refl _) (Nat.le_refl _) (tenlen HT.out)).mono ?_
    clear t0 t1 t2 u0 u1 u2
    rintro e w13 ⟨rfl, hb⟩
    have R13 := Lib.hid (RX.out.step hb)
    clear hb
    go_wp2
    go_ret
    exact ⟨rfl, R13.out.bel⟩
set_option maxHeartbeats 400000 in
theorem law_elem_text_big (a : Option Addr) (n c : Nat) (w : World) (hb : 1048576 < n) (hc : n ≤ 281474976710656) :
    Calls Tryz.prog 3 #[.slice a n c] w fun e w' => e = .returned (.bool true) ∧ Below w.heap.size w w' := by
  go_enter Tryz.func3, Tryz.ntmps3
  go_wp2
  go_ret
  exact ⟨rfl, Below.refl _ _⟩
theorem law_elem_text {v : Value} {bs : List UInt8} {w : World} (hr : Rd w.heap.size w v (bytes8 bs)) (hl : bs.length ≤ 281474976710656) (hv : LibVars w) :
    Calls Tryz.prog 3 #[v] w fun e w' => e = .returned (.bool true) ∧ Below w.heap.size w w' := by
  obtain ⟨a, cap, rfl, -⟩ := bytes_cell hr
  by_cases hs : bs.length ≤ 1048576
  · exact law_elem_text_small a _ cap bs w rfl hs hr hv
  · exact law_elem_text_big a _ cap w (by omega) hl
end Go.Proofs.YtceidekfcnmeaaaGreatDoor
