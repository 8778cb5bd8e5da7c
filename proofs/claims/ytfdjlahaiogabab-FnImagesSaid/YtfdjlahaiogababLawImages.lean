
/- The law FnImages, walked. -/
import Derived.Test.YtfdjlahaiogababImgKit
namespace Go.Proofs.Ytfdjlahaiogabab
set_option maxRecDepth 20000
open Go.RowKit

set_option maxHeartbeats 6400000 in
theorem law_images_small (a : Option Addr) (n c : Nat) (bs : List UInt8) (w : World) (hn : bs.length = n) (hs : n ≤ 1048576) (hr : Rd w.heap.size w (.slice a n c) (bytes8 bs)) :
    Calls Try.prog 9 #[.slice a n c] w fun e w' => e = .returned (.bool true) ∧ Below w.heap.size w w' := by
  have HR := Lib.hid hr
  have HN := Lib.hid (show bs.length ≤ 1048576 by omega)
  clear hr hn
  go_enter Try.func9, Try.ntmps9
  go_wp2_with fail
  refine (make_hom 0 (by omega) HR.out HN.out).mono ?_
  rintro e w1 ⟨k, p, q, k', p', q', hk, ha, rfl, hh, hb1⟩
  have HH := Lib.hid hh
  have HF := Lib.hid (homB_parts hh).1
  have I3 : Hid (Inv3 w1 (((w1.alloc (.cells #[.int .i64 k, .int .i64 p, .int .i64 q] 31)).alloc (.cells #[.int .i64 k', .int .i64 p', .int .i64 q'] 31)).alloc (.cells #[.int .i64 hk, .int .i64 ha] 45)) w1.heap.size k p q k' p' q' hk ha) := Lib.hid (Inv3.box w1 k p q k' p' q' hk ha 31 45)
  have HB : Hid (Below w.heap.size w (((w1.alloc (.cells #[.int .i64 k, .int .i64 p, .int .i64 q] 31)).alloc (.cells #[.int .i64 k', .int .i64 p', .int .i64 q'] 31)).alloc (.cells #[.int .i64 hk, .int .i64 ha] 45))) := Lib.hid (hb1.trans (I3.out.bel.mono hb1.size))
  have HV : Hid (Rd (((w1.alloc (.cells #[.int .i64 k, .int .i64 p, .int .i64 q] 31)).alloc (.cells #[.int .i64 k', .int .i64 p', .int .i64 q'] 31)).alloc (.cells #[.int .i64 hk, .int .i64 ha] 45)).heap.size (((w1.alloc (.cells #[.int .i64 k, .int .i64 p, .int .i64 q] 31)).alloc (.cells #[.int .i64 k', .int .i64 p', .int .i64 q'] 31)).alloc (.cells #[.int .i64 hk, .int .i64 ha] 45)) (.slice a n c) (bytes8 bs)) := Lib.hid ((HR.out.below HB.out (Nat.le_refl _)).mono HB.out.size)
  clear hh hb1 HR
  obtain ⟨c0, c1, c2, d0, d1, d2, e0, e1⟩ := I3.out.cells
  go_wp2_with fail
  clear c0 c1 c2 d0 d1 d2 e0 e1
  generalize (((w1.alloc (.cells #[.int .i64 k, .int .i64 p, .int .i64 q] 31)).alloc (.cells #[.int .i64 k', .int .i64 p', .int .i64 q'] 31)).alloc (.cells #[.int .i64 hk, .int .i64 ha] 45)) = V at I3 HB HV ⊢
  have R0 := Lib.hid (Rs.start V)
  refine (make_ten 10 (by omega) HF.out HV.out HN.out).mono ?_
  rintro e w2 ⟨l', d', x', LT, DT, XT, rfl, hv, ht, ho, hb⟩
  obtain ⟨pT1, nT1, cT1, rfl⟩ := own_slice (show Own _ _ _ l' LT from ho.1 (l', LT) (by simp))
  obtain ⟨pT2, nT2, cT2, rfl⟩ := own_slice (show Own _ _ _ d' DT from ho.1 (d', DT) (by simp))
  obtain ⟨pT3, nT3, cT3, rfl⟩ := own_slice (show Own _ _ _ x' XT from ho.1 (x', XT) (by simp))
  have R2 := Lib.hid ((R0.out.new3 hb ho).box (.slice pT1 nT1 cT1) (.slice pT2 nT2 cT2) (.slice pT3 nT3 cT3) 28)
  have HTT := Lib.hid ht
  have HVT := Lib.hid hv
  clear hv ht ho hb R0
  obtain ⟨c0, c1, c2, d0, d1, d2, e0, e1⟩ := (I3.out.step R2.out.bel).cells
  go_wp2_with fail
  refine (make_ten 60 (by omega) HF.out ((HV.out.below R2.out.bel (Nat.le_refl _)).mono R2.out.bel.size) HN.out).mono ?_
  clear c0 c1 c2 d0 d1 d2 e0 e1
  rintro e w3 ⟨l', d', x', LU, DU, XU, rfl, hv, ht, ho, hb⟩
  obtain ⟨pU1, nU1, cU1, rfl⟩ := own_slice (show Own _ _ _ l' LU from ho.1 (l', LU) (by simp))
  obtain ⟨pU2, nU2, cU2, rfl⟩ := own_slice (show Own _ _ _ d' DU from ho.1 (d', DU) (by simp))
  obtain ⟨pU3, nU3, cU3, rfl⟩ := own_slice (show Own _ _ _ x' XU from ho.1 (x', XU) (by simp))
  have R3 := Lib.hid ((R2.out.new3 hb ho).box (.slice pU1 nU1 cU1) (.slice pU2 nU2 cU2) (.slice pU3 nU3 cU3) 28)
  have HTU := Lib.hid ht
  have HVU := Lib.hid hv
  clear hv ht ho hb R2
  go_wp2_with fail
  refine (make_some 110 6 (by omega) (by omega) ((HV.out.below R3.out.bel (Nat.le_refl _)).mono R3.out.bel.size) HN.out).mono ?_
  rintro e w4 ⟨vk, KP, rfl, -, hkl, ho, hb⟩
  obtain ⟨pk, nk, ck, rfl⟩ := own_slice ho
  have R4 := Lib.hid (R3.out.new hb ho)
  have HK := Lib.hid (show KP.length ≤ 4096 by omega)
  obtain ⟨PL, PD, PX, MX, NX, QX, hall⟩ := img_all (KP := KP) HH.out HTT.out HTU.out HVT.out HVU.out
  have HA := Lib.hid hall
  clear hkl ho hb hall R3
  obtain ⟨c0, c1, c2, d0, d1, d2, e0, e1⟩ := (I3.out.step R4.out.bel).cells
  obtain ⟨⟨fT0, fT1, fT2⟩, -⟩ := R4.out.at (r := w2.heap.size) (a := .slice pT1 nT1 cT1) (b := .slice pT2 nT2 cT2) (c := .slice pT3 nT3 cT3) (by repeat (first | with_reducible exact List.mem_cons_self | apply List.mem_cons_of_mem))
  obtain ⟨⟨fU0, fU1, fU2⟩, -⟩ := R4.out.at (r := w3.heap.size) (a := .slice pU1 nU1 cU1) (b := .slice pU2 nU2 cU2) (c := .slice pU3 nU3 cU3) (by repeat (first | with_reducible exact List.mem_cons_self | apply List.mem_cons_of_mem))
  go_wp2_with fail
  refine (pair_yes2 (k := k) (p := p) (q := q) HA.out.pb HA.out.eL HA.out.eD HA.out.eX ⟨R4.out.rd (v := .slice pT1 nT1 cT1) (xs := LT) (by repeat (first | with_reducible exact List.mem_cons_self | apply List.mem_cons_of_mem)), R4.out.rd (v := .slice pT2 nT2 cT2) (xs := DT) (by repeat (first | with_reducible exact List.mem_cons_self | apply List.mem_cons_of_mem)), R4.out.rd (v := .slice pT3 nT3 cT3) (xs := XT) (by repeat (first | with_reducible exact List.mem_cons_self | apply List.mem_cons_of_mem))⟩ ⟨R4.out.rd (v := .slice pU1 nU1 cU1) (xs := LU) (by repeat (first | with_reducible exact List.mem_cons_self | apply List.mem_cons_of_mem)), R4.out.rd (v := .slice pU2 nU2 cU2) (xs := DU) (by repeat (first | with_reducible exact List.mem_cons_self | apply List.mem_cons_of_mem)), R4.out.rd (v := .slice pU3 nU3 cU3) (xs := XU) (by repeat (first | with_reducible exact List.mem_cons_self | apply List.mem_cons_of_mem))⟩ (R4.out.rd (v := .slice pk nk ck) (xs := KP) (by repeat (first | with_reducible exact List.mem_cons_self | apply List.mem_cons_of_mem))) (Nat.le_refl _) (Nat.le_refl _) (Nat.le_refl _) HK.out).mono ?_
  clear c0 c1 c2 d0 d1 d2 e0 e1 fT0 fT1 fT2 fU0 fU1 fU2
  rintro e w5 ⟨pP1, nP1, cP1, pP2, nP2, cP2, pP3, nP3, cP3, rfl, ho, hb⟩
  have R5 := Lib.hid ((R4.out.new3 hb ho).box (.slice pP1 nP1 cP1) (.slice pP2 nP2 cP2) (.slice pP3 nP3 cP3) 28)
  clear ho hb R4
  obtain ⟨c0, c1, c2, d0, d1, d2, e0, e1⟩ := (I3.out.step R5.out.bel).cells
  obtain ⟨⟨fT0, fT1, fT2⟩, -⟩ := R5.out.at (r := w2.heap.size) (a := .slice pT1 nT1 cT1) (b := .slice pT2 nT2 cT2) (c := .slice pT3 nT3 cT3) (by repeat (first | with_reducible exact List.mem_cons_self | apply List.mem_cons_of_mem))
  go_wp2_with fail
  refine (map_yes HH.out HTT.out HA.out.m1 ⟨R5.out.rd (v := .slice pT1 nT1 cT1) (xs := LT) (by repeat (first | with_reducible exact List.mem_cons_self | apply List.mem_cons_of_mem)), R5.out.rd (v := .slice pT2 nT2 cT2) (xs := DT) (by repeat (first | with_reducible exact List.mem_cons_self | apply List.mem_cons_of_mem)), R5.out.rd (v := .slice pT3 nT3 cT3) (xs := XT) (by repeat (first | with_reducible exact List.mem_cons_self | apply List.mem_cons_of_mem))⟩ (Nat.le_refl _)).mono ?_
  clear c0 c1 c2 d0 d1 d2 e0 e1 fT0 fT1 fT2
  rintro e w6 ⟨pM1, nM1, cM1, pM2, nM2, cM2, pM3, nM3, cM3, rfl, ho, hb⟩
  have R6 := Lib.hid ((R5.out.new3 hb ho).box (.slice pM1 nM1 cM1) (.slice pM2 nM2 cM2) (.slice pM3 nM3 cM3) 28)
  clear ho hb R5
  obtain ⟨c0, c1, c2, d0, d1, d2, e0, e1⟩ := (I3.out.step R6.out.bel).cells
  obtain ⟨⟨fU0, fU1, fU2⟩, -⟩ := R6.out.at (r := w3.heap.size) (a := .slice pU1 nU1 cU1) (b := .slice pU2 nU2 cU2) (c := .slice pU3 nU3 cU3) (by repeat (first | with_reducible exact List.mem_cons_self | apply List.mem_cons_of_mem))
  go_wp2_with fail
  refine (map_yes HH.out HTU.out HA.out.m2 ⟨R6.out.rd (v := .slice pU1 nU1 cU1) (xs := LU) (by repeat (first | with_reducible exact List.mem_cons_self | apply List.mem_cons_of_mem)), R6.out.rd (v := .slice pU2 nU2 cU2) (xs := DU) (by repeat (first | with_reducible exact List.mem_cons_self | apply List.mem_cons_of_mem)), R6.out.rd (v := .slice pU3 nU3 cU3) (xs := XU) (by repeat (first | with_reducible exact List.mem_cons_self | apply List.mem_cons_of_mem))⟩ (Nat.le_refl _)).mono ?_
  clear c0 c1 c2 d0 d1 d2 e0 e1 fU0 fU1 fU2
  rintro e w7 ⟨pN1, nN1, cN1, pN2, nN2, cN2, pN3, nN3, cN3, rfl, ho, hb⟩
  have R7 := Lib.hid ((R6.out.new3 hb ho).box (.slice pN1 nN1 cN1) (.slice pN2 nN2 cN2) (.slice pN3 nN3 cN3) 28)
  clear ho hb R6
  obtain ⟨c0, c1, c2, d0, d1, d2, e0, e1⟩ := (I3.out.step R7.out.bel).cells
  obtain ⟨⟨fM0, fM1, fM2⟩, -⟩ := R7.out.at (r := w6.heap.size) (a := .slice pM1 nM1 cM1) (b := .slice pM2 nM2 cM2) (c := .slice pM3 nM3 cM3) (by repeat (first | with_reducible exact List.mem_cons_self | apply List.mem_cons_of_mem))
  obtain ⟨⟨fN0, fN1, fN2⟩, -⟩ := R7.out.at (r := w7.heap.size) (a := .slice pN1 nN1 cN1) (b := .slice pN2 nN2 cN2) (c := .slice pN3 nN3 cN3) (by repeat (first | with_reducible exact List.mem_cons_self | apply List.mem_cons_of_mem))
  go_wp2_with fail
  refine (pair_yes2 (k := k') (p := p') (q := q') HA.out.pb' HA.out.eL HA.out.eD HA.out.eY ⟨R7.out.rd (v := .slice pM1 nM1 cM1) (xs := LT) (by repeat (first | with_reducible exact List.mem_cons_self | apply List.mem_cons_of_mem)), R7.out.rd (v := .slice pM2 nM2 cM2) (xs := DT) (by repeat (first | with_reducible exact List.mem_cons_self | apply List.mem_cons_of_mem)), R7.out.rd (v := .slice pM3 nM3 cM3) (xs := MX) (by repeat (first | with_reducible exact List.mem_cons_self | apply List.mem_cons_of_mem))⟩ ⟨R7.out.rd (v := .slice pN1 nN1 cN1) (xs := LU) (by repeat (first | with_reducible exact List.mem_cons_self | apply List.mem_cons_of_mem)), R7.out.rd (v := .slice pN2 nN2 cN2) (xs := DU) (by repeat (first | with_reducible exact List.mem_cons_self | apply List.mem_cons_of_mem)), R7.out.rd (v := .slice pN3 nN3 cN3) (xs := NX) (by repeat (first | with_reducible exact List.mem_cons_self | apply List.mem_cons_of_mem))⟩ (R7.out.rd (v := .slice pk nk ck) (xs := KP) (by repeat (first | with_reducible exact List.mem_cons_self | apply List.mem_cons_of_mem))) (Nat.le_refl _) (Nat.le_refl _) (Nat.le_refl _) HK.out).mono ?_
  clear c0 c1 c2 d0 d1 d2 e0 e1 fM0 fM1 fM2 fN0 fN1 fN2
  rintro e w8 ⟨pY1, nY1, cY1, pY2, nY2, cY2, pY3, nY3, cY3, rfl, ho, hb⟩
  have R8 := Lib.hid ((R7.out.new3 hb ho).box (.slice pY1 nY1 cY1) (.slice pY2 nY2 cY2) (.slice pY3 nY3 cY3) 28)
  clear ho hb R7
  obtain ⟨c0, c1, c2, d0, d1, d2, e0, e1⟩ := (I3.out.step R8.out.bel).cells
  obtain ⟨⟨fP0, fP1, fP2⟩, -⟩ := R8.out.at (r := w5.heap.size) (a := .slice pP1 nP1 cP1) (b := .slice pP2 nP2 cP2) (c := .slice pP3 nP3 cP3) (by repeat (first | with_reducible exact List.mem_cons_self | apply List.mem_cons_of_mem))
  go_wp2_with fail
  refine (map_yes HH.out HA.out.tx HA.out.m3 ⟨R8.out.rd (v := .slice pP1 nP1 cP1) (xs := PL) (by repeat (first | with_reducible exact List.mem_cons_self | apply List.mem_cons_of_mem)), R8.out.rd (v := .slice pP2 nP2 cP2) (xs := PD) (by repeat (first | with_reducible exact List.mem_cons_self | apply List.mem_cons_of_mem)), R8.out.rd (v := .slice pP3 nP3 cP3) (xs := PX) (by repeat (first | with_reducible exact List.mem_cons_self | apply List.mem_cons_of_mem))⟩ (Nat.le_refl _)).mono ?_
  clear c0 c1 c2 d0 d1 d2 e0 e1 fP0 fP1 fP2
  rintro e w9 ⟨pZ1, nZ1, cZ1, pZ2, nZ2, cZ2, pZ3, nZ3, cZ3, rfl, ho, hb⟩
  have R9 := Lib.hid ((R8.out.new3 hb ho).box (.slice pZ1 nZ1 cZ1) (.slice pZ2 nZ2 cZ2) (.slice pZ3 nZ3 cZ3) 28)
  clear ho hb R8
  obtain ⟨⟨fY0, fY1, fY2⟩, -⟩ := R9.out.at (r := w8.heap.size) (a := .slice pY1 nY1 cY1) (b := .slice pY2 nY2 cY2) (c := .slice pY3 nY3 cY3) (by repeat (first | with_reducible exact List.mem_cons_self | apply List.mem_cons_of_mem))
  obtain ⟨⟨fZ0, fZ1, fZ2⟩, -⟩ := R9.out.at (r := w9.heap.size) (a := .slice pZ1 nZ1 cZ1) (b := .slice pZ2 nZ2 cZ2) (c := .slice pZ3 nZ3 cZ3) (by repeat (first | with_reducible exact List.mem_cons_self | apply List.mem_cons_of_mem))
  go_wp2_with fail
  refine (same_yes ⟨R9.out.rd (v := .slice pY1 nY1 cY1) (xs := PL) (by repeat (first | with_reducible exact List.mem_cons_self | apply List.mem_cons_of_mem)), R9.out.rd (v := .slice pY2 nY2 cY2) (xs := PD) (by repeat (first | with_reducible exact List.mem_cons_self | apply List.mem_cons_of_mem)), R9.out.rd (v := .slice pY3 nY3 cY3) (xs := QX) (by repeat (first | with_reducible exact List.mem_cons_self | apply List.mem_cons_of_mem))⟩ ⟨R9.out.rd (v := .slice pZ1 nZ1 cZ1) (xs := PL) (by repeat (first | with_reducible exact List.mem_cons_self | apply List.mem_cons_of_mem)), R9.out.rd (v := .slice pZ2 nZ2 cZ2) (xs := PD) (by repeat (first | with_reducible exact List.mem_cons_self | apply List.mem_cons_of_mem)), R9.out.rd (v := .slice pZ3 nZ3 cZ3) (xs := QX) (by repeat (first | with_reducible exact List.mem_cons_self | apply List.mem_cons_of_mem))⟩ (Nat.le_refl _) (Nat.le_refl _) (tenlen HA.out.ty)).mono ?_
  clear fY0 fY1 fY2 fZ0 fZ1 fZ2
  rintro e w10 ⟨rfl, hb⟩
  have R10 := Lib.hid (R9.out.step hb)
  clear hb R9
  go_wp2
  go_ret
  exact ⟨rfl, HB.out.trans (R10.out.bel.mono HB.out.size)⟩
set_option maxHeartbeats 400000 in
theorem law_images_big (a : Option Addr) (n c : Nat) (w : World) (hb : 1048576 < n) (hc : n ≤ 281474976710656) :
    Calls Try.prog 9 #[.slice a n c] w fun e w' => e = .returned (.bool true) ∧ Below w.heap.size w w' := by
  go_enter Try.func9, Try.ntmps9
  go_wp2
  go_ret
  exact ⟨rfl, Below.refl _ _⟩
theorem law_images {v : Value} {bs : List UInt8} {w : World} (hr : Rd w.heap.size w v (bytes8 bs)) (hl : bs.length ≤ 281474976710656) :
    Calls Try.prog 9 #[v] w fun e w' => e = .returned (.bool true) ∧ Below w.heap.size w w' := by
  obtain ⟨a, cap, rfl, -⟩ := bytes_cell hr
  by_cases hs : bs.length ≤ 1048576
  · exact law_images_small a _ cap bs w rfl hs hr
  · exact law_images_big a _ cap w (by omega) hl
end Go.Proofs.Ytfdjlahaiogabab
