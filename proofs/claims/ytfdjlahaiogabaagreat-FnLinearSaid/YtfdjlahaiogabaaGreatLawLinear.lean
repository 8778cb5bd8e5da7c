
/- The law FnLinear, walked. -/
import Derived.Test.YtfdjlahaiogabaaGreatLinKit
import Derived.Deep.RegionHeld3
import Derived.Deep.DeepCutAuto
namespace Go.Proofs.YtfdjlahaiogabaaGreat
set_option maxRecDepth 20000
open Go.RowKit

set_option maxHeartbeats 12800000 in
theorem law_linear_small (a : Option Addr) (n c : Nat) (bs : List UInt8) (w : World) (hn : bs.length = n) (hs : n ≤ 1048576) (hr : Rd w.heap.size w (.slice a n c) (bytes8 bs)) :
    Calls Tryz.prog 4 #[.slice a n c] w fun e w' => e = .returned (.bool true) ∧ Below w.heap.size w w' := by
  have HR := Lib.hid hr
  have HN := Lib.hid (show bs.length ≤ 1048576 by omega)
  clear hr hn
  go_enter Tryz.func4, Tryz.ntmps4
  go_wp2_with fail
  refine (make_ring 0 (by omega) HR.out HN.out).mono ?_
  rintro e w1 ⟨k, p, q, rfl, hk, hb⟩
  have HK := Lib.hid hk
  have R1 := Lib.hid (((Rs.start w).step hb).box (.int .i64 k) (.int .i64 p) (.int .i64 q) 24)
  clear hk hb
  obtain ⟨⟨fR0, fR1, fR2⟩, -⟩ := R1.out.at (r := w1.heap.size) (a := .int .i64 k) (b := .int .i64 p) (c := .int .i64 q) (by repeat (first | with_reducible exact List.mem_cons_self | apply List.mem_cons_of_mem))
  go_wp2_with fail
  refine (make_ten 10 (by omega) HK.out ((HR.out.below R1.out.bel (Nat.le_refl _)).mono R1.out.bel.size) HN.out).mono ?_
  clear fR0 fR1 fR2
  rintro e w2 ⟨l', d', x', LT, DT, XT, rfl, hv, ht, ho, hb⟩
  obtain ⟨pT1, nT1, cT1, rfl⟩ := (show Own _ _ _ l' LT from ho.1 (l', LT) (by simp)).slice
  obtain ⟨pT2, nT2, cT2, rfl⟩ := (show Own _ _ _ d' DT from ho.1 (d', DT) (by simp)).slice
  obtain ⟨pT3, nT3, cT3, rfl⟩ := (show Own _ _ _ x' XT from ho.1 (x', XT) (by simp)).slice
  have R2 := Lib.hid ((R1.out.new3 hb ho).box (.slice pT1 nT1 cT1) (.slice pT2 nT2 cT2) (.slice pT3 nT3 cT3) 28)
  have H6 := Lib.hid hv.six
  have HT := Lib.hid ht
  clear hv ht ho hb R1
  obtain ⟨⟨fR0, fR1, fR2⟩, -⟩ := R2.out.at (r := w1.heap.size) (a := .int .i64 k) (b := .int .i64 p) (c := .int .i64 q) (by repeat (first | with_reducible exact List.mem_cons_self | apply List.mem_cons_of_mem))
  obtain ⟨⟨fT0, fT1, fT2⟩, -⟩ := R2.out.at (r := w2.heap.size) (a := .slice pT1 nT1 cT1) (b := .slice pT2 nT2 cT2) (c := .slice pT3 nT3 cT3) (by repeat (first | with_reducible exact List.mem_cons_self | apply List.mem_cons_of_mem))
  go_wp2_with fail
  refine (make_like 60 (by omega) HK.out ((HR.out.below R2.out.bel (Nat.le_refl _)).mono R2.out.bel.size) HN.out ⟨R2.out.rd (v := .slice pT1 nT1 cT1) (xs := LT) (by repeat (first | with_reducible exact List.mem_cons_self | apply List.mem_cons_of_mem)), R2.out.rd (v := .slice pT2 nT2 cT2) (xs := DT) (by repeat (first | with_reducible exact List.mem_cons_self | apply List.mem_cons_of_mem)), R2.out.rd (v := .slice pT3 nT3 cT3) (xs := XT) (by repeat (first | with_reducible exact List.mem_cons_self | apply List.mem_cons_of_mem))⟩ HT.out).mono ?_
  clear fR0 fR1 fR2 fT0 fT1 fT2
  rintro e w3 ⟨LU, Y, hA, hY, pU1, nU1, cU1, pU2, nU2, cU2, pU3, nU3, cU3, rfl, ho, hb⟩
  obtain ⟨DU, hDU⟩ : ∃ l, l = dimsVia LT DT LU := ⟨_, rfl⟩
  obtain ⟨XU, hXU⟩ : ∃ l, l = permDataL k q LT DT Y LU := ⟨_, rfl⟩
  rw [← hDU, ← hXU] at ho
  have R3 := Lib.hid ((R2.out.new3 hb ho).box (.slice pU1 nU1 cU1) (.slice pU2 nU2 cU2) (.slice pU3 nU3 cU3) 28)
  have HA := Lib.hid hA
  have HY := Lib.hid hY
  have HDU := Lib.hid hDU
  have HXU := Lib.hid hXU
  clear hA hY hDU hXU ho hb R2
  obtain ⟨⟨fR0, fR1, fR2⟩, -⟩ := R3.out.at (r := w1.heap.size) (a := .int .i64 k) (b := .int .i64 p) (c := .int .i64 q) (by repeat (first | with_reducible exact List.mem_cons_self | apply List.mem_cons_of_mem))
  go_wp2_with fail
  refine (make_elem 110 (by omega) HK.out ((HR.out.below R3.out.bel (Nat.le_refl _)).mono R3.out.bel.size) HN.out).mono ?_
  clear fR0 fR1 fR2
  rintro e w4 ⟨vx, x, rfl, hx, ho, hb⟩
  have R4 := Lib.hid (R3.out.new hb ho)
  have hTl := LinT.of HT.out
  have hYl := LinT.of HY.out
  obtain ⟨XP, XQ, XS, XW, XC, XM, XZ, hlr⟩ := lin_all hTl hYl HA.out hx
  have hlp := lin_pair hTl hYl HA.out H6.out
  rw [← HDU.out, ← HXU.out] at hlr hlp
  have HLR := Lib.hid hlr
  have HLP := Lib.hid hlp
  have HX := Lib.hid (show x.length ≤ 4096 by have h1 := hx.1; have h2 := ring_width HK.out; omega)
  have HLN := Lib.hid (show LT.length ≤ 4096 by have := ten_lens HT.out; omega)
  clear hx ho hb hTl hYl hlr hlp R3
  obtain ⟨⟨fR0, fR1, fR2⟩, -⟩ := R4.out.at (r := w1.heap.size) (a := .int .i64 k) (b := .int .i64 p) (c := .int .i64 q) (by repeat (first | with_reducible exact List.mem_cons_self | apply List.mem_cons_of_mem))
  obtain ⟨⟨fT0, fT1, fT2⟩, -⟩ := R4.out.at (r := w2.heap.size) (a := .slice pT1 nT1 cT1) (b := .slice pT2 nT2 cT2) (c := .slice pT3 nT3 cT3) (by repeat (first | with_reducible exact List.mem_cons_self | apply List.mem_cons_of_mem))
  obtain ⟨⟨fU0, fU1, fU2⟩, -⟩ := R4.out.at (r := w3.heap.size) (a := .slice pU1 nU1 cU1) (b := .slice pU2 nU2 cU2) (c := .slice pU3 nU3 cU3) (by repeat (first | with_reducible exact List.mem_cons_self | apply List.mem_cons_of_mem))
  go_wp2_with fail
  refine (add_yes HLR.out.fa HLR.out.ea ⟨R4.out.rd (v := .slice pT1 nT1 cT1) (xs := LT) (by repeat (first | with_reducible exact List.mem_cons_self | apply List.mem_cons_of_mem)), R4.out.rd (v := .slice pT2 nT2 cT2) (xs := DT) (by repeat (first | with_reducible exact List.mem_cons_self | apply List.mem_cons_of_mem)), R4.out.rd (v := .slice pT3 nT3 cT3) (xs := XT) (by repeat (first | with_reducible exact List.mem_cons_self | apply List.mem_cons_of_mem))⟩ ⟨R4.out.rd (v := .slice pU1 nU1 cU1) (xs := LU) (by repeat (first | with_reducible exact List.mem_cons_self | apply List.mem_cons_of_mem)), R4.out.rd (v := .slice pU2 nU2 cU2) (xs := DU) (by repeat (first | with_reducible exact List.mem_cons_self | apply List.mem_cons_of_mem)), R4.out.rd (v := .slice pU3 nU3 cU3) (xs := XU) (by repeat (first | with_reducible exact List.mem_cons_self | apply List.mem_cons_of_mem))⟩ (Nat.le_refl _) (Nat.le_refl _)).mono ?_
  clear fR0 fR1 fR2 fT0 fT1 fT2 fU0 fU1 fU2
  rintro e w5 ⟨pP1, nP1, cP1, pP2, nP2, cP2, pP3, nP3, cP3, rfl, ho, hb⟩
  have R5 := Lib.hid ((R4.out.new3 hb ho).box (.slice pP1 nP1 cP1) (.slice pP2 nP2 cP2) (.slice pP3 nP3 cP3) 28)
  clear ho hb R4
  obtain ⟨⟨fR0, fR1, fR2⟩, -⟩ := R5.out.at (r := w1.heap.size) (a := .int .i64 k) (b := .int .i64 p) (c := .int .i64 q) (by repeat (first | with_reducible exact List.mem_cons_self | apply List.mem_cons_of_mem))
  obtain ⟨⟨fT0, fT1, fT2⟩, -⟩ := R5.out.at (r := w2.heap.size) (a := .slice pT1 nT1 cT1) (b := .slice pT2 nT2 cT2) (c := .slice pT3 nT3 cT3) (by repeat (first | with_reducible exact List.mem_cons_self | apply List.mem_cons_of_mem))
  obtain ⟨⟨fU0, fU1, fU2⟩, -⟩ := R5.out.at (r := w3.heap.size) (a := .slice pU1 nU1 cU1) (b := .slice pU2 nU2 cU2) (c := .slice pU3 nU3 cU3) (by repeat (first | with_reducible exact List.mem_cons_self | apply List.mem_cons_of_mem))
  go_wp2_with fail
  refine (add_yes HLR.out.fb HLR.out.eb ⟨R5.out.rd (v := .slice pU1 nU1 cU1) (xs := LU) (by repeat (first | with_reducible exact List.mem_cons_self | apply List.mem_cons_of_mem)), R5.out.rd (v := .slice pU2 nU2 cU2) (xs := DU) (by repeat (first | with_reducible exact List.mem_cons_self | apply List.mem_cons_of_mem)), R5.out.rd (v := .slice pU3 nU3 cU3) (xs := XU) (by repeat (first | with_reducible exact List.mem_cons_self | apply List.mem_cons_of_mem))⟩ ⟨R5.out.rd (v := .slice pT1 nT1 cT1) (xs := LT) (by repeat (first | with_reducible exact List.mem_cons_self | apply List.mem_cons_of_mem)), R5.out.rd (v := .slice pT2 nT2 cT2) (xs := DT) (by repeat (first | with_reducible exact List.mem_cons_self | apply List.mem_cons_of_mem)), R5.out.rd (v := .slice pT3 nT3 cT3) (xs := XT) (by repeat (first | with_reducible exact List.mem_cons_self | apply List.mem_cons_of_mem))⟩ (Nat.le_refl _) (Nat.le_refl _)).mono ?_
  clear fR0 fR1 fR2 fT0 fT1 fT2 fU0 fU1 fU2
  rintro e w6 ⟨pQ1, nQ1, cQ1, pQ2, nQ2, cQ2, pQ3, nQ3, cQ3, rfl, ho, hb⟩
  have R6 : Hid (Rs w (w6.alloc (.cells #[.slice pQ1 nQ1 cQ1, .slice pQ2 nQ2 cQ2, .slice pQ3 nQ3 cQ3] 28)) [(w6.heap.size, .slice pQ1 nQ1 cQ1, .slice pQ2 nQ2 cQ2, .slice pQ3 nQ3 cQ3), (w5.heap.size, .slice pP1 nP1 cP1, .slice pP2 nP2 cP2, .slice pP3 nP3 cP3), (w3.heap.size, .slice pU1 nU1 cU1, .slice pU2 nU2 cU2, .slice pU3 nU3 cU3), (w2.heap.size, .slice pT1 nT1 cT1, .slice pT2 nT2 cT2, .slice pT3 nT3 cT3), (w1.heap.size, .int .i64 k, .int .i64 p, .int .i64 q)] [(.slice pQ1 nQ1 cQ1, LU), (.slice pQ2 nQ2 cQ2, DU), (.slice pQ3 nQ3 cQ3, XQ), (.slice pP1 nP1 cP1, LT), (.slice pP2 nP2 cP2, DT), (.slice pP3 nP3 cP3, XP), (vx, x), (.slice pU1 nU1 cU1, LU), (.slice pU2 nU2 cU2, DU), (.slice pU3 nU3 cU3, XU), (.slice pT1 nT1 cT1, LT), (.slice pT2 nT2 cT2, DT), (.slice pT3 nT3 cT3, XT)]) := Lib.hid ((R5.out.new3 hb ho).box (.slice pQ1 nQ1 cQ1) (.slice pQ2 nQ2 cQ2) (.slice pQ3 nQ3 cQ3) 28)
  clear ho hb R5
  go_upto_region 9 with fail
  go_cut [11, 12] (fun sv o12 wx => ∃ (gc : Nat) (pC1 : Option Addr) (nC1 cC1 : Nat) (pC2 : Option Addr) (nC2 cC2 : Nat) (pC3 : Option Addr) (nC3 cC3 : Nat), o12 = .bool true ∧ sv = .pointer (some ⟨gc, 0, none⟩) ∧ Hid (Rs w wx ((gc, .slice pC1 nC1 cC1, .slice pC2 nC2 cC2, .slice pC3 nC3 cC3) :: [(w6.heap.size, .slice pQ1 nQ1 cQ1, .slice pQ2 nQ2 cQ2, .slice pQ3 nQ3 cQ3), (w5.heap.size, .slice pP1 nP1 cP1, .slice pP2 nP2 cP2, .slice pP3 nP3 cP3), (w3.heap.size, .slice pU1 nU1 cU1, .slice pU2 nU2 cU2, .slice pU3 nU3 cU3), (w2.heap.size, .slice pT1 nT1 cT1, .slice pT2 nT2 cT2, .slice pT3 nT3 cT3), (w1.heap.size, .int .i64 k, .int .i64 p, .int .i64 q)]) ((.slice pC1 nC1 cC1, LT) :: (.slice pC2 nC2 cC2, DT) :: (.slice pC3 nC3 cC3, XC) :: [(.slice pQ1 nQ1 cQ1, LU), (.slice pQ2 nQ2 cQ2, DU), (.slice pQ3 nQ3 cQ3, XQ), (.slice pP1 nP1 cP1, LT), (.slice pP2 nP2 cP2, DT), (.slice pP3 nP3 cP3, XP), (vx, x), (.slice pU1 nU1 cU1, LU), (.slice pU2 nU2 cU2, DU), (.slice pU3 nU3 cU3, XU), (.slice pT1 nT1 cT1, LT), (.slice pT2 nT2 cT2, DT), (.slice pT3 nT3 cT3, XT)])))
  case first =>
    generalize w6.alloc (.cells #[.slice pQ1 nQ1 cQ1, .slice pQ2 nQ2 cQ2, .slice pQ3 nQ3 cQ3] 28) = V1 at R6 ⊢
    have RXN := R6
    have RX := Lib.hid R6.out.drew
    clear R6
    obtain ⟨⟨fR0, fR1, fR2⟩, -⟩ := RX.out.at (r := w1.heap.size) (a := .int .i64 k) (b := .int .i64 p) (c := .int .i64 q) (by repeat (first | with_reducible exact List.mem_cons_self | apply List.mem_cons_of_mem))
    obtain ⟨⟨fT0, fT1, fT2⟩, -⟩ := RX.out.at (r := w2.heap.size) (a := .slice pT1 nT1 cT1) (b := .slice pT2 nT2 cT2) (c := .slice pT3 nT3 cT3) (by repeat (first | with_reducible exact List.mem_cons_self | apply List.mem_cons_of_mem))
    obtain ⟨⟨fU0, fU1, fU2⟩, -⟩ := RX.out.at (r := w3.heap.size) (a := .slice pU1 nU1 cU1) (b := .slice pU2 nU2 cU2) (c := .slice pU3 nU3 cU3) (by repeat (first | with_reducible exact List.mem_cons_self | apply List.mem_cons_of_mem))
    refine wp_region_held_drew (S := (fun w' => w'.cell? ⟨w1.heap.size, 0, none⟩ = some (.int .i64 k) ∧ w'.cell? ⟨w1.heap.size, 1, none⟩ = some (.int .i64 p) ∧ w'.cell? ⟨w1.heap.size, 2, none⟩ = some (.int .i64 q) ∧ w'.cell? ⟨w2.heap.size, 0, none⟩ = some (.slice pT1 nT1 cT1) ∧ w'.cell? ⟨w2.heap.size, 1, none⟩ = some (.slice pT2 nT2 cT2) ∧ w'.cell? ⟨w2.heap.size, 2, none⟩ = some (.slice pT3 nT3 cT3) ∧ w'.cell? ⟨w3.heap.size, 0, none⟩ = some (.slice pU1 nU1 cU1) ∧ w'.cell? ⟨w3.heap.size, 1, none⟩ = some (.slice pU2 nU2 cU2) ∧ w'.cell? ⟨w3.heap.size, 2, none⟩ = some (.slice pU3 nU3 cU3))) (by kernel_rfl) (by (try dsimp only); first | with_reducible exact ⟨fR0, fR1, fR2, fT0, fT1, fT2, fU0, fU1, fU2⟩ | with_reducible exact ⟨gR0, gR1, gR2, gT0, gT1, gT2, gU0, gU1, gU2⟩) (fun hHeld => ?_)
    refine wpAnyH_take (i := 0) (v := ?_) rfl (by kernel_rfl) (by kernel_rfl) (by kernel_rfl) (fun _ _ _ h => h) (Or.inl ⟨by rfl, ?_⟩) (by assumption) ?_
    rotate_left
    · intro w hSw; (try dsimp only at hSw); go_simp <;> with_reducible rfl
    try simp only [Act.put, List.getElem_toArray, List.getElem_cons_zero, List.setIfInBounds_toArray, List.set_cons_zero, List.set_cons_succ]
    refine wpAnyH_take (i := 1) (v := ?_) rfl (by kernel_rfl) (by kernel_rfl) (by kernel_rfl) (fun _ _ _ h => h) (Or.inl ⟨by rfl, ?_⟩) (by assumption) ?_
    rotate_left
    · intro w hSw; (try dsimp only at hSw); go_simp <;> with_reducible rfl
    try simp only [Act.put, List.getElem_toArray, List.getElem_cons_succ, List.getElem_cons_zero, List.setIfInBounds_toArray, List.set_cons_zero, List.set_cons_succ]
    refine wpAnyH_take (i := 2) (v := ?_) rfl (by kernel_rfl) (by kernel_rfl) (by kernel_rfl) (fun _ _ _ h => h) (Or.inl ⟨by rfl, ?_⟩) (by assumption) ?_
    rotate_left
    · intro w hSw; (try dsimp only at hSw); go_simp <;> with_reducible rfl
    try simp only [Act.put, List.getElem_toArray, List.getElem_cons_succ, List.getElem_cons_zero, List.setIfInBounds_toArray, List.set_cons_zero, List.set_cons_succ]
    refine wpAnyH_take (i := 3) (v := ?_) rfl (by kernel_rfl) (by kernel_rfl) (by kernel_rfl) (fun _ _ _ h => h) (Or.inl ⟨by rfl, ?_⟩) (by assumption) ?_
    rotate_left
    · intro w hSw; (try dsimp only at hSw); go_simp <;> with_reducible rfl
    try simp only [Act.put, List.getElem_toArray, List.getElem_cons_succ, List.getElem_cons_zero, List.setIfInBounds_toArray, List.set_cons_zero, List.set_cons_succ]
    refine wpAnyH_take (i := 5) (v := ?_) rfl (by kernel_rfl) (by kernel_rfl) (by kernel_rfl) (fun _ _ _ h => h) (Or.inl ⟨by rfl, ?_⟩) (by assumption) ?_
    rotate_left
    · intro w hSw; (try dsimp only at hSw); go_simp <;> with_reducible rfl
    try simp only [Act.put, List.getElem_toArray, List.getElem_cons_succ, List.getElem_cons_zero, List.setIfInBounds_toArray, List.set_cons_zero, List.set_cons_succ]
    refine wpAnyH_take (i := 6) (v := ?_) rfl (by kernel_rfl) (by kernel_rfl) (by kernel_rfl) (fun _ _ _ h => h) (Or.inl ⟨by rfl, ?_⟩) (by assumption) ?_
    rotate_left
    · intro w hSw; (try dsimp only at hSw); go_simp <;> with_reducible rfl
    try simp only [Act.put, List.getElem_toArray, List.getElem_cons_succ, List.getElem_cons_zero, List.setIfInBounds_toArray, List.set_cons_zero, List.set_cons_succ]
    refine wpAnyH_take (i := 7) (v := ?_) rfl (by kernel_rfl) (by kernel_rfl) (by kernel_rfl) (fun _ _ _ h => h) (Or.inl ⟨by rfl, ?_⟩) (by assumption) ?_
    rotate_left
    · intro w hSw; (try dsimp only at hSw); go_simp <;> with_reducible rfl
    try simp only [Act.put, List.getElem_toArray, List.getElem_cons_succ, List.getElem_cons_zero, List.setIfInBounds_toArray, List.set_cons_zero, List.set_cons_succ]
    refine wpAnyH_ready (rs := [4, 13]) (by kernel_rfl) (by simp) ?_
    refine AllReadyH.cons rfl (fun K hK => ?_) (AllReadyH.cons rfl (fun K hK => ?_) AllReadyH.nil)
    focus
      go_simp
      (go_at_call 19; (first | ((with_reducible show Calls _ _ #[_, .agg #[.slice pT1 nT1 cT1, _, _], _] _ _); refine (scale_yes (k := k) (p := p) (q := q) HLR.out.ss HLR.out.es ⟨RX.out.rd (v := .slice pT1 nT1 cT1) (xs := LT) (by repeat (first | with_reducible exact List.mem_cons_self | apply List.mem_cons_of_mem)), RX.out.rd (v := .slice pT2 nT2 cT2) (xs := DT) (by repeat (first | with_reducible exact List.mem_cons_self | apply List.mem_cons_of_mem)), RX.out.rd (v := .slice pT3 nT3 cT3) (xs := XT) (by repeat (first | with_reducible exact List.mem_cons_self | apply List.mem_cons_of_mem))⟩ (RX.out.rd (v := vx) (xs := x) (by repeat (first | with_reducible exact List.mem_cons_self | apply List.mem_cons_of_mem))) (Nat.le_refl _) (Nat.le_refl _) HX.out).mono ?_; rintro e w13 ⟨pS1, nS1, cS1, pS2, nS2, cS2, pS3, nS3, cS3, rfl, ho, hb⟩) | ((with_reducible show Calls _ _ #[_, .agg #[.slice pU1 nU1 cU1, _, _], _] _ _); refine (scale_yes (k := k) (p := p) (q := q) HLR.out.su HLR.out.eu ⟨RX.out.rd (v := .slice pU1 nU1 cU1) (xs := LU) (by repeat (first | with_reducible exact List.mem_cons_self | apply List.mem_cons_of_mem)), RX.out.rd (v := .slice pU2 nU2 cU2) (xs := DU) (by repeat (first | with_reducible exact List.mem_cons_self | apply List.mem_cons_of_mem)), RX.out.rd (v := .slice pU3 nU3 cU3) (xs := XU) (by repeat (first | with_reducible exact List.mem_cons_self | apply List.mem_cons_of_mem))⟩ (RX.out.rd (v := vx) (xs := x) (by repeat (first | with_reducible exact List.mem_cons_self | apply List.mem_cons_of_mem))) (Nat.le_refl _) (Nat.le_refl _) HX.out).mono ?_; rintro e w13 ⟨pW1, nW1, cW1, pW2, nW2, cW2, pW3, nW3, cW3, rfl, ho, hb⟩)); have RA := RX; replace RX := Lib.hid (RX.out.new3 hb ho); clear ho hb; clear fR0 fR1 fR2 fT0 fT1 fT2 fU0 fU1 fU2; obtain ⟨⟨fR0, fR1, fR2⟩, -⟩ := RX.out.at (r := w1.heap.size) (a := .int .i64 k) (b := .int .i64 p) (c := .int .i64 q) (by repeat (first | with_reducible exact List.mem_cons_self | apply List.mem_cons_of_mem)); obtain ⟨⟨fT0, fT1, fT2⟩, -⟩ := RX.out.at (r := w2.heap.size) (a := .slice pT1 nT1 cT1) (b := .slice pT2 nT2 cT2) (c := .slice pT3 nT3 cT3) (by repeat (first | with_reducible exact List.mem_cons_self | apply List.mem_cons_of_mem)); obtain ⟨⟨fU0, fU1, fU2⟩, -⟩ := RX.out.at (r := w3.heap.size) (a := .slice pU1 nU1 cU1) (b := .slice pU2 nU2 cU2) (c := .slice pU3 nU3 cU3) (by repeat (first | with_reducible exact List.mem_cons_self | apply List.mem_cons_of_mem)))
      go_wp2_with fail
      refine hK.out _ _ (by (try dsimp only); first | with_reducible exact ⟨fR0, fR1, fR2, fT0, fT1, fT2, fU0, fU1, fU2⟩ | with_reducible exact ⟨gR0, gR1, gR2, gT0, gT1, gT2, gU0, gU1, gU2⟩) (fun hHeld => ?_)
      clear hK K
      try simp only [Act.put, List.getElem_toArray, List.getElem_cons_succ, List.getElem_cons_zero, List.setIfInBounds_toArray, List.set_cons_zero, List.set_cons_succ]
      refine wpAnyH_ready (rs := [8, 13]) (by kernel_rfl) (by simp) ?_
      refine AllReadyH.cons rfl (fun K hK => ?_) (AllReadyH.cons rfl (fun K hK => ?_) AllReadyH.nil)
      focus
        go_simp
        (go_at_call 19; (first | ((with_reducible show Calls _ _ #[_, .agg #[.slice pT1 nT1 cT1, _, _], _] _ _); refine (scale_yes (k := k) (p := p) (q := q) HLR.out.ss HLR.out.es ⟨RX.out.rd (v := .slice pT1 nT1 cT1) (xs := LT) (by repeat (first | with_reducible exact List.mem_cons_self | apply List.mem_cons_of_mem)), RX.out.rd (v := .slice pT2 nT2 cT2) (xs := DT) (by repeat (first | with_reducible exact List.mem_cons_self | apply List.mem_cons_of_mem)), RX.out.rd (v := .slice pT3 nT3 cT3) (xs := XT) (by repeat (first | with_reducible exact List.mem_cons_self | apply List.mem_cons_of_mem))⟩ (RX.out.rd (v := vx) (xs := x) (by repeat (first | with_reducible exact List.mem_cons_self | apply List.mem_cons_of_mem))) (Nat.le_refl _) (Nat.le_refl _) HX.out).mono ?_; rintro e w13 ⟨pS1, nS1, cS1, pS2, nS2, cS2, pS3, nS3, cS3, rfl, ho, hb⟩) | ((with_reducible show Calls _ _ #[_, .agg #[.slice pU1 nU1 cU1, _, _], _] _ _); refine (scale_yes (k := k) (p := p) (q := q) HLR.out.su HLR.out.eu ⟨RX.out.rd (v := .slice pU1 nU1 cU1) (xs := LU) (by repeat (first | with_reducible exact List.mem_cons_self | apply List.mem_cons_of_mem)), RX.out.rd (v := .slice pU2 nU2 cU2) (xs := DU) (by repeat (first | with_reducible exact List.mem_cons_self | apply List.mem_cons_of_mem)), RX.out.rd (v := .slice pU3 nU3 cU3) (xs := XU) (by repeat (first | with_reducible exact List.mem_cons_self | apply List.mem_cons_of_mem))⟩ (RX.out.rd (v := vx) (xs := x) (by repeat (first | with_reducible exact List.mem_cons_self | apply List.mem_cons_of_mem))) (Nat.le_refl _) (Nat.le_refl _) HX.out).mono ?_; rintro e w13 ⟨pW1, nW1, cW1, pW2, nW2, cW2, pW3, nW3, cW3, rfl, ho, hb⟩)); have RA := RX; replace RX := Lib.hid (RX.out.new3 hb ho); clear ho hb; clear fR0 fR1 fR2 fT0 fT1 fT2 fU0 fU1 fU2; obtain ⟨⟨fR0, fR1, fR2⟩, -⟩ := RX.out.at (r := w1.heap.size) (a := .int .i64 k) (b := .int .i64 p) (c := .int .i64 q) (by repeat (first | with_reducible exact List.mem_cons_self | apply List.mem_cons_of_mem)); obtain ⟨⟨fT0, fT1, fT2⟩, -⟩ := RX.out.at (r := w2.heap.size) (a := .slice pT1 nT1 cT1) (b := .slice pT2 nT2 cT2) (c := .slice pT3 nT3 cT3) (by repeat (first | with_reducible exact List.mem_cons_self | apply List.mem_cons_of_mem)); obtain ⟨⟨fU0, fU1, fU2⟩, -⟩ := RX.out.at (r := w3.heap.size) (a := .slice pU1 nU1 cU1) (b := .slice pU2 nU2 cU2) (c := .slice pU3 nU3 cU3) (by repeat (first | with_reducible exact List.mem_cons_self | apply List.mem_cons_of_mem)))
        go_wp2_with fail
        refine hK.out _ _ (by (try dsimp only); first | with_reducible exact ⟨fR0, fR1, fR2, fT0, fT1, fT2, fU0, fU1, fU2⟩ | with_reducible exact ⟨gR0, gR1, gR2, gT0, gT1, gT2, gU0, gU1, gU2⟩) (fun hHeld => ?_)
        clear hK K
        try simp only [Act.put, List.getElem_toArray, List.getElem_cons_succ, List.getElem_cons_zero, List.setIfInBounds_toArray, List.set_cons_zero, List.set_cons_succ]
        refine wpAnyH_ready (rs := [9, 13]) (by kernel_rfl) (by simp) ?_
        refine AllReadyH.cons rfl (fun K hK => ?_) (AllReadyH.cons rfl (fun K hK => ?_) AllReadyH.nil)
        focus
          go_simp
          (go_at_call 13; refine (add_yes HLR.out.fc HLR.out.ec ⟨RX.out.rd (v := .slice pS1 nS1 cS1) (xs := LT) (by repeat (first | with_reducible exact List.mem_cons_self | apply List.mem_cons_of_mem)), RX.out.rd (v := .slice pS2 nS2 cS2) (xs := DT) (by repeat (first | with_reducible exact List.mem_cons_self | apply List.mem_cons_of_mem)), RX.out.rd (v := .slice pS3 nS3 cS3) (xs := XS) (by repeat (first | with_reducible exact List.mem_cons_self | apply List.mem_cons_of_mem))⟩ ⟨RX.out.rd (v := .slice pW1 nW1 cW1) (xs := LU) (by repeat (first | with_reducible exact List.mem_cons_self | apply List.mem_cons_of_mem)), RX.out.rd (v := .slice pW2 nW2 cW2) (xs := DU) (by repeat (first | with_reducible exact List.mem_cons_self | apply List.mem_cons_of_mem)), RX.out.rd (v := .slice pW3 nW3 cW3) (xs := XW) (by repeat (first | with_reducible exact List.mem_cons_self | apply List.mem_cons_of_mem))⟩ (Nat.le_refl _) (Nat.le_refl _)).mono ?_; rintro e w14 ⟨pC1, nC1, cC1, pC2, nC2, cC2, pC3, nC3, cC3, rfl, ho, hb⟩; have RA := RX; replace RX := Lib.hid ((RX.out.new3 hb ho).sub (List.Sublist.cons_cons _ (List.Sublist.cons_cons _ (List.Sublist.cons_cons _ (List.Sublist.cons _ (List.Sublist.cons _ (List.Sublist.cons _ (List.Sublist.cons _ (List.Sublist.cons _ (List.Sublist.cons _ (List.Sublist.refl _))))))))))); clear ho hb; clear fR0 fR1 fR2 fT0 fT1 fT2 fU0 fU1 fU2; obtain ⟨⟨fR0, fR1, fR2⟩, -⟩ := RX.out.at (r := w1.heap.size) (a := .int .i64 k) (b := .int .i64 p) (c := .int .i64 q) (by repeat (first | with_reducible exact List.mem_cons_self | apply List.mem_cons_of_mem)); obtain ⟨⟨fT0, fT1, fT2⟩, -⟩ := RX.out.at (r := w2.heap.size) (a := .slice pT1 nT1 cT1) (b := .slice pT2 nT2 cT2) (c := .slice pT3 nT3 cT3) (by repeat (first | with_reducible exact List.mem_cons_self | apply List.mem_cons_of_mem)); obtain ⟨⟨fU0, fU1, fU2⟩, -⟩ := RX.out.at (r := w3.heap.size) (a := .slice pU1 nU1 cU1) (b := .slice pU2 nU2 cU2) (c := .slice pU3 nU3 cU3) (by repeat (first | with_reducible exact List.mem_cons_self | apply List.mem_cons_of_mem)))
          go_wp2_with fail
          refine hK.out _ _ (by (try dsimp only); first | with_reducible exact ⟨fR0, fR1, fR2, fT0, fT1, fT2, fU0, fU1, fU2⟩ | with_reducible exact ⟨gR0, gR1, gR2, gT0, gT1, gT2, gU0, gU1, gU2⟩) (fun hHeld => ?_)
          clear hK K
          try simp only [Act.put, List.getElem_toArray, List.getElem_cons_succ, List.getElem_cons_zero, List.setIfInBounds_toArray, List.set_cons_zero, List.set_cons_succ]
          refine wpAnyH_take (i := 10) (v := ?_) rfl (by kernel_rfl) (by kernel_rfl) (by kernel_rfl) (fun _ _ _ h => h) (Or.inl ⟨by rfl, ?_⟩) (by assumption) ?_
          rotate_left
          · intro w hSw; (try dsimp only at hSw); go_simp <;> with_reducible rfl
          try simp only [Act.put, List.getElem_toArray, List.getElem_cons_succ, List.getElem_cons_zero, List.setIfInBounds_toArray, List.set_cons_zero, List.set_cons_succ]
          refine wpAnyH_take (i := 11) (v := ?_) rfl (by kernel_rfl) (by kernel_rfl) (by kernel_rfl) (fun _ _ _ h => h) (Or.inl ⟨by rfl, ?_⟩) (by assumption) ?_
          rotate_left
          · intro w hSw; (try dsimp only at hSw); go_simp <;> with_reducible rfl
          try simp only [Act.put, List.getElem_toArray, List.getElem_cons_succ, List.getElem_cons_zero, List.setIfInBounds_toArray, List.set_cons_zero, List.set_cons_succ]
          refine wpAnyH_take (i := 12) (v := ?_) rfl (by kernel_rfl) (by kernel_rfl) (by kernel_rfl) (fun _ _ _ h => h) (Or.inl ⟨by rfl, ?_⟩) (by assumption) ?_
          rotate_left
          · intro w hSw; (try dsimp only at hSw); go_simp <;> with_reducible rfl
          try simp only [Act.put, List.getElem_toArray, List.getElem_cons_succ, List.getElem_cons_zero, List.setIfInBounds_toArray, List.set_cons_zero, List.set_cons_succ]
          refine wpAnyH_ready (rs := [13]) (by kernel_rfl) (by simp) ?_
          refine AllReadyH.cons rfl (fun K hK => ?_) AllReadyH.nil
          go_simp
          (have RXP := RX; (first | (have _q := RA; replace RX := Lib.hid (RX.out.box nilV nilV nilV 28); clear _q) | (replace RX := Lib.hid (RXN.out.box nilV nilV nilV 28).drew)); clear fR0 fR1 fR2 fT0 fT1 fT2 fU0 fU1 fU2; obtain ⟨⟨fR0, fR1, fR2⟩, -⟩ := RX.out.at (r := w1.heap.size) (a := .int .i64 k) (b := .int .i64 p) (c := .int .i64 q) (by repeat (first | with_reducible exact List.mem_cons_self | apply List.mem_cons_of_mem)); obtain ⟨⟨fT0, fT1, fT2⟩, -⟩ := RX.out.at (r := w2.heap.size) (a := .slice pT1 nT1 cT1) (b := .slice pT2 nT2 cT2) (c := .slice pT3 nT3 cT3) (by repeat (first | with_reducible exact List.mem_cons_self | apply List.mem_cons_of_mem)); obtain ⟨⟨fU0, fU1, fU2⟩, -⟩ := RX.out.at (r := w3.heap.size) (a := .slice pU1 nU1 cU1) (b := .slice pU2 nU2 cU2) (c := .slice pU3 nU3 cU3) (by repeat (first | with_reducible exact List.mem_cons_self | apply List.mem_cons_of_mem)))
          refine hK.out _ _ (by (try dsimp only); first | with_reducible exact ⟨fR0, fR1, fR2, fT0, fT1, fT2, fU0, fU1, fU2⟩ | with_reducible exact ⟨gR0, gR1, gR2, gT0, gT1, gT2, gU0, gU1, gU2⟩) (fun hHeld => ?_)
          clear hK K
          try simp only [Act.put, List.getElem_toArray, List.getElem_cons_succ, List.getElem_cons_zero, List.setIfInBounds_toArray, List.set_cons_zero, List.set_cons_succ]
          refine wpAnyH_ready (rs := [14]) (by kernel_rfl) (by simp) ?_
          refine AllReadyH.cons rfl (fun K hK => ?_) AllReadyH.nil
          (obtain ⟨⟨o0, o1, o2⟩, g0, g1, g2⟩ := RX.out.at List.mem_cons_self)
          go_simp
          (clear o0 o1 o2 g0 g1 g2; replace RX := Lib.hid (RX.out.set3 (.slice pC1 nC1 cC1) (.slice pC2 nC2 cC2) (.slice pC3 nC3 cC3)); have RY := Lib.hid (RXP.out.box (.slice pC1 nC1 cC1) (.slice pC2 nC2 cC2) (.slice pC3 nC3 cC3) 28); clear fR0 fR1 fR2 fT0 fT1 fT2 fU0 fU1 fU2; obtain ⟨⟨fR0, fR1, fR2⟩, -⟩ := RX.out.at (r := w1.heap.size) (a := .int .i64 k) (b := .int .i64 p) (c := .int .i64 q) (by repeat (first | with_reducible exact List.mem_cons_self | apply List.mem_cons_of_mem)); obtain ⟨⟨fT0, fT1, fT2⟩, -⟩ := RX.out.at (r := w2.heap.size) (a := .slice pT1 nT1 cT1) (b := .slice pT2 nT2 cT2) (c := .slice pT3 nT3 cT3) (by repeat (first | with_reducible exact List.mem_cons_self | apply List.mem_cons_of_mem)); obtain ⟨⟨fU0, fU1, fU2⟩, -⟩ := RX.out.at (r := w3.heap.size) (a := .slice pU1 nU1 cU1) (b := .slice pU2 nU2 cU2) (c := .slice pU3 nU3 cU3) (by repeat (first | with_reducible exact List.mem_cons_self | apply List.mem_cons_of_mem)); obtain ⟨⟨gR0, gR1, gR2⟩, -⟩ := RY.out.at (r := w1.heap.size) (a := .int .i64 k) (b := .int .i64 p) (c := .int .i64 q) (by repeat (first | with_reducible exact List.mem_cons_self | apply List.mem_cons_of_mem)); obtain ⟨⟨gT0, gT1, gT2⟩, -⟩ := RY.out.at (r := w2.heap.size) (a := .slice pT1 nT1 cT1) (b := .slice pT2 nT2 cT2) (c := .slice pT3 nT3 cT3) (by repeat (first | with_reducible exact List.mem_cons_self | apply List.mem_cons_of_mem)); obtain ⟨⟨gU0, gU1, gU2⟩, -⟩ := RY.out.at (r := w3.heap.size) (a := .slice pU1 nU1 cU1) (b := .slice pU2 nU2 cU2) (c := .slice pU3 nU3 cU3) (by repeat (first | with_reducible exact List.mem_cons_self | apply List.mem_cons_of_mem)))
          refine hK.out _ _ (by (try dsimp only); first | with_reducible exact ⟨fR0, fR1, fR2, fT0, fT1, fT2, fU0, fU1, fU2⟩ | with_reducible exact ⟨gR0, gR1, gR2, gT0, gT1, gT2, gU0, gU1, gU2⟩) (fun hHeld => ?_)
          clear hK K
          try simp only [Act.put, List.getElem_toArray, List.getElem_cons_succ, List.getElem_cons_zero, List.setIfInBounds_toArray, List.set_cons_zero, List.set_cons_succ]
          refine wpAnyH_take (i := 15) (v := ?_) rfl (by kernel_rfl) (by kernel_rfl) (by kernel_rfl) (fun _ _ _ h => h) (Or.inl ⟨by rfl, ?_⟩) (by assumption) ?_
          rotate_left
          · intro w hSw; (try dsimp only at hSw); go_simp <;> with_reducible rfl
          try simp only [Act.put, List.getElem_toArray, List.getElem_cons_succ, List.getElem_cons_zero, List.setIfInBounds_toArray, List.set_cons_zero, List.set_cons_succ]
          refine wpAnyH_done (by kernel_rfl) ?_ _
        rotate_left 1
        focus
          go_simp
          (have RXP := RX; (first | (have _q := RA; replace RX := Lib.hid (RX.out.box nilV nilV nilV 28); clear _q) | (replace RX := Lib.hid (RXN.out.box nilV nilV nilV 28).drew)); clear fR0 fR1 fR2 fT0 fT1 fT2 fU0 fU1 fU2; obtain ⟨⟨fR0, fR1, fR2⟩, -⟩ := RX.out.at (r := w1.heap.size) (a := .int .i64 k) (b := .int .i64 p) (c := .int .i64 q) (by repeat (first | with_reducible exact List.mem_cons_self | apply List.mem_cons_of_mem)); obtain ⟨⟨fT0, fT1, fT2⟩, -⟩ := RX.out.at (r := w2.heap.size) (a := .slice pT1 nT1 cT1) (b := .slice pT2 nT2 cT2) (c := .slice pT3 nT3 cT3) (by repeat (first | with_reducible exact List.mem_cons_self | apply List.mem_cons_of_mem)); obtain ⟨⟨fU0, fU1, fU2⟩, -⟩ := RX.out.at (r := w3.heap.size) (a := .slice pU1 nU1 cU1) (b := .slice pU2 nU2 cU2) (c := .slice pU3 nU3 cU3) (by repeat (first | with_reducible exact List.mem_cons_self | apply List.mem_cons_of_mem)))
          refine hK.out _ _ (by (try dsimp only); first | with_reducible exact ⟨fR0, fR1, fR2, fT0, fT1, fT2, fU0, fU1, fU2⟩ | with_reducible exact ⟨gR0, gR1, gR2, gT0, gT1, gT2, gU0, gU1, gU2⟩) (fun hHeld => ?_)
          clear hK K
          try simp only [Act.put, List.getElem_toArray, List.getElem_cons_succ, List.getElem_cons_zero, List.setIfInBounds_toArray, List.set_cons_zero, List.set_cons_succ]
          refine wpAnyH_ready (rs := [9]) (by kernel_rfl) (by simp) ?_
          refine AllReadyH.cons rfl (fun K hK => ?_) AllReadyH.nil
          go_simp
          (go_at_call 13; refine (add_yes HLR.out.fc HLR.out.ec ⟨RX.out.rd (v := .slice pS1 nS1 cS1) (xs := LT) (by repeat (first | with_reducible exact List.mem_cons_self | apply List.mem_cons_of_mem)), RX.out.rd (v := .slice pS2 nS2 cS2) (xs := DT) (by repeat (first | with_reducible exact List.mem_cons_self | apply List.mem_cons_of_mem)), RX.out.rd (v := .slice pS3 nS3 cS3) (xs := XS) (by repeat (first | with_reducible exact List.mem_cons_self | apply List.mem_cons_of_mem))⟩ ⟨RX.out.rd (v := .slice pW1 nW1 cW1) (xs := LU) (by repeat (first | with_reducible exact List.mem_cons_self | apply List.mem_cons_of_mem)), RX.out.rd (v := .slice pW2 nW2 cW2) (xs := DU) (by repeat (first | with_reducible exact List.mem_cons_self | apply List.mem_cons_of_mem)), RX.out.rd (v := .slice pW3 nW3 cW3) (xs := XW) (by repeat (first | with_reducible exact List.mem_cons_self | apply List.mem_cons_of_mem))⟩ (Nat.le_refl _) (Nat.le_refl _)).mono ?_; rintro e w14 ⟨pC1, nC1, cC1, pC2, nC2, cC2, pC3, nC3, cC3, rfl, ho, hb⟩; have RA := RX; replace RX := Lib.hid ((RX.out.new3 hb ho).sub (List.Sublist.cons_cons _ (List.Sublist.cons_cons _ (List.Sublist.cons_cons _ (List.Sublist.cons _ (List.Sublist.cons _ (List.Sublist.cons _ (List.Sublist.cons _ (List.Sublist.cons _ (List.Sublist.cons _ (List.Sublist.refl _))))))))))); clear ho hb; clear fR0 fR1 fR2 fT0 fT1 fT2 fU0 fU1 fU2; obtain ⟨⟨fR0, fR1, fR2⟩, -⟩ := RX.out.at (r := w1.heap.size) (a := .int .i64 k) (b := .int .i64 p) (c := .int .i64 q) (by repeat (first | with_reducible exact List.mem_cons_self | apply List.mem_cons_of_mem)); obtain ⟨⟨fT0, fT1, fT2⟩, -⟩ := RX.out.at (r := w2.heap.size) (a := .slice pT1 nT1 cT1) (b := .slice pT2 nT2 cT2) (c := .slice pT3 nT3 cT3) (by repeat (first | with_reducible exact List.mem_cons_self | apply List.mem_cons_of_mem)); obtain ⟨⟨fU0, fU1, fU2⟩, -⟩ := RX.out.at (r := w3.heap.size) (a := .slice pU1 nU1 cU1) (b := .slice pU2 nU2 cU2) (c := .slice pU3 nU3 cU3) (by repeat (first | with_reducible exact List.mem_cons_self | apply List.mem_cons_of_mem)))
          go_wp2_with fail
          refine hK.out _ _ (by (try dsimp only); first | with_reducible exact ⟨fR0, fR1, fR2, fT0, fT1, fT2, fU0, fU1, fU2⟩ | with_reducible exact ⟨gR0, gR1, gR2, gT0, gT1, gT2, gU0, gU1, gU2⟩) (fun hHeld => ?_)
          clear hK K
          try simp only [Act.put, List.getElem_toArray, List.getElem_cons_succ, List.getElem_cons_zero, List.setIfInBounds_toArray, List.set_cons_zero, List.set_cons_succ]
          refine wpAnyH_take (i := 10) (v := ?_) rfl (by kernel_rfl) (by kernel_rfl) (by kernel_rfl) (fun _ _ _ h => h) (Or.inl ⟨by rfl, ?_⟩) (by assumption) ?_
          rotate_left
          · intro w hSw; (try dsimp only at hSw); go_simp <;> with_reducible rfl
          try simp only [Act.put, List.getElem_toArray, List.getElem_cons_succ, List.getElem_cons_zero, List.setIfInBounds_toArray, List.set_cons_zero, List.set_cons_succ]
          refine wpAnyH_take (i := 11) (v := ?_) rfl (by kernel_rfl) (by kernel_rfl) (by kernel_rfl) (fun _ _ _ h => h) (Or.inl ⟨by rfl, ?_⟩) (by assumption) ?_
          rotate_left
          · intro w hSw; (try dsimp only at hSw); go_simp <;> with_reducible rfl
          try simp only [Act.put, List.getElem_toArray, List.getElem_cons_succ, List.getElem_cons_zero, List.setIfInBounds_toArray, List.set_cons_zero, List.set_cons_succ]
          refine wpAnyH_take (i := 12) (v := ?_) rfl (by kernel_rfl) (by kernel_rfl) (by kernel_rfl) (fun _ _ _ h => h) (Or.inl ⟨by rfl, ?_⟩) (by assumption) ?_
          rotate_left
          · intro w hSw; (try dsimp only at hSw); go_simp <;> with_reducible rfl
          try simp only [Act.put, List.getElem_toArray, List.getElem_cons_succ, List.getElem_cons_zero, List.setIfInBounds_toArray, List.set_cons_zero, List.set_cons_succ]
          refine wpAnyH_ready (rs := [14]) (by kernel_rfl) (by simp) ?_
          refine AllReadyH.cons rfl (fun K hK => ?_) AllReadyH.nil
          (obtain ⟨⟨o0, o1, o2⟩, g0, g1, g2⟩ := RX.out.at List.mem_cons_self)
          go_simp
          (clear o0 o1 o2 g0 g1 g2; replace RX := Lib.hid (RX.out.set3 (.slice pC1 nC1 cC1) (.slice pC2 nC2 cC2) (.slice pC3 nC3 cC3)); have RY := Lib.hid (RXP.out.box (.slice pC1 nC1 cC1) (.slice pC2 nC2 cC2) (.slice pC3 nC3 cC3) 28); clear fR0 fR1 fR2 fT0 fT1 fT2 fU0 fU1 fU2; obtain ⟨⟨fR0, fR1, fR2⟩, -⟩ := RX.out.at (r := w1.heap.size) (a := .int .i64 k) (b := .int .i64 p) (c := .int .i64 q) (by repeat (first | with_reducible exact List.mem_cons_self | apply List.mem_cons_of_mem)); obtain ⟨⟨fT0, fT1, fT2⟩, -⟩ := RX.out.at (r := w2.heap.size) (a := .slice pT1 nT1 cT1) (b := .slice pT2 nT2 cT2) (c := .slice pT3 nT3 cT3) (by repeat (first | with_reducible exact List.mem_cons_self | apply List.mem_cons_of_mem)); obtain ⟨⟨fU0, fU1, fU2⟩, -⟩ := RX.out.at (r := w3.heap.size) (a := .slice pU1 nU1 cU1) (b := .slice pU2 nU2 cU2) (c := .slice pU3 nU3 cU3) (by repeat (first | with_reducible exact List.mem_cons_self | apply List.mem_cons_of_mem)); obtain ⟨⟨gR0, gR1, gR2⟩, -⟩ := RY.out.at (r := w1.heap.size) (a := .int .i64 k) (b := .int .i64 p) (c := .int .i64 q) (by repeat (first | with_reducible exact List.mem_cons_self | apply List.mem_cons_of_mem)); obtain ⟨⟨gT0, gT1, gT2⟩, -⟩ := RY.out.at (r := w2.heap.size) (a := .slice pT1 nT1 cT1) (b := .slice pT2 nT2 cT2) (c := .slice pT3 nT3 cT3) (by repeat (first | with_reducible exact List.mem_cons_self | apply List.mem_cons_of_mem)); obtain ⟨⟨gU0, gU1, gU2⟩, -⟩ := RY.out.at (r := w3.heap.size) (a := .slice pU1 nU1 cU1) (b := .slice pU2 nU2 cU2) (c := .slice pU3 nU3 cU3) (by repeat (first | with_reducible exact List.mem_cons_self | apply List.mem_cons_of_mem)))
          refine hK.out _ _ (by (try dsimp only); first | with_reducible exact ⟨fR0, fR1, fR2, fT0, fT1, fT2, fU0, fU1, fU2⟩ | with_reducible exact ⟨gR0, gR1, gR2, gT0, gT1, gT2, gU0, gU1, gU2⟩) (fun hHeld => ?_)
          clear hK K
          try simp only [Act.put, List.getElem_toArray, List.getElem_cons_succ, List.getElem_cons_zero, List.setIfInBounds_toArray, List.set_cons_zero, List.set_cons_succ]
          refine wpAnyH_take (i := 15) (v := ?_) rfl (by kernel_rfl) (by kernel_rfl) (by kernel_rfl) (fun _ _ _ h => h) (Or.inl ⟨by rfl, ?_⟩) (by assumption) ?_
          rotate_left
          · intro w hSw; (try dsimp only at hSw); go_simp <;> with_reducible rfl
          try simp only [Act.put, List.getElem_toArray, List.getElem_cons_succ, List.getElem_cons_zero, List.setIfInBounds_toArray, List.set_cons_zero, List.set_cons_succ]
          refine wpAnyH_done (by kernel_rfl) ?_ _
        rotate_left 1
      rotate_left 2
      focus
        go_simp
        (have RXP := RX; (first | (have _q := RA; replace RX := Lib.hid (RX.out.box nilV nilV nilV 28); clear _q) | (replace RX := Lib.hid (RXN.out.box nilV nilV nilV 28).drew)); clear fR0 fR1 fR2 fT0 fT1 fT2 fU0 fU1 fU2; obtain ⟨⟨fR0, fR1, fR2⟩, -⟩ := RX.out.at (r := w1.heap.size) (a := .int .i64 k) (b := .int .i64 p) (c := .int .i64 q) (by repeat (first | with_reducible exact List.mem_cons_self | apply List.mem_cons_of_mem)); obtain ⟨⟨fT0, fT1, fT2⟩, -⟩ := RX.out.at (r := w2.heap.size) (a := .slice pT1 nT1 cT1) (b := .slice pT2 nT2 cT2) (c := .slice pT3 nT3 cT3) (by repeat (first | with_reducible exact List.mem_cons_self | apply List.mem_cons_of_mem)); obtain ⟨⟨fU0, fU1, fU2⟩, -⟩ := RX.out.at (r := w3.heap.size) (a := .slice pU1 nU1 cU1) (b := .slice pU2 nU2 cU2) (c := .slice pU3 nU3 cU3) (by repeat (first | with_reducible exact List.mem_cons_self | apply List.mem_cons_of_mem)))
        refine hK.out _ _ (by (try dsimp only); first | with_reducible exact ⟨fR0, fR1, fR2, fT0, fT1, fT2, fU0, fU1, fU2⟩ | with_reducible exact ⟨gR0, gR1, gR2, gT0, gT1, gT2, gU0, gU1, gU2⟩) (fun hHeld => ?_)
        clear hK K
        try simp only [Act.put, List.getElem_toArray, List.getElem_cons_succ, List.getElem_cons_zero, List.setIfInBounds_toArray, List.set_cons_zero, List.set_cons_succ]
        refine wpAnyH_ready (rs := [8]) (by kernel_rfl) (by simp) ?_
        refine AllReadyH.cons rfl (fun K hK => ?_) AllReadyH.nil
        go_simp
        (go_at_call 19; (first | ((with_reducible show Calls _ _ #[_, .agg #[.slice pT1 nT1 cT1, _, _], _] _ _); refine (scale_yes (k := k) (p := p) (q := q) HLR.out.ss HLR.out.es ⟨RX.out.rd (v := .slice pT1 nT1 cT1) (xs := LT) (by repeat (first | with_reducible exact List.mem_cons_self | apply List.mem_cons_of_mem)), RX.out.rd (v := .slice pT2 nT2 cT2) (xs := DT) (by repeat (first | with_reducible exact List.mem_cons_self | apply List.mem_cons_of_mem)), RX.out.rd (v := .slice pT3 nT3 cT3) (xs := XT) (by repeat (first | with_reducible exact List.mem_cons_self | apply List.mem_cons_of_mem))⟩ (RX.out.rd (v := vx) (xs := x) (by repeat (first | with_reducible exact List.mem_cons_self | apply List.mem_cons_of_mem))) (Nat.le_refl _) (Nat.le_refl _) HX.out).mono ?_; rintro e w13 ⟨pS1, nS1, cS1, pS2, nS2, cS2, pS3, nS3, cS3, rfl, ho, hb⟩) | ((with_reducible show Calls _ _ #[_, .agg #[.slice pU1 nU1 cU1, _, _], _] _ _); refine (scale_yes (k := k) (p := p) (q := q) HLR.out.su HLR.out.eu ⟨RX.out.rd (v := .slice pU1 nU1 cU1) (xs := LU) (by repeat (first | with_reducible exact List.mem_cons_self | apply List.mem_cons_of_mem)), RX.out.rd (v := .slice pU2 nU2 cU2) (xs := DU) (by repeat (first | with_reducible exact List.mem_cons_self | apply List.mem_cons_of_mem)), RX.out.rd (v := .slice pU3 nU3 cU3) (xs := XU) (by repeat (first | with_reducible exact List.mem_cons_self | apply List.mem_cons_of_mem))⟩ (RX.out.rd (v := vx) (xs := x) (by repeat (first | with_reducible exact List.mem_cons_self | apply List.mem_cons_of_mem))) (Nat.le_refl _) (Nat.le_refl _) HX.out).mono ?_; rintro e w13 ⟨pW1, nW1, cW1, pW2, nW2, cW2, pW3, nW3, cW3, rfl, ho, hb⟩)); have RA := RX; replace RX := Lib.hid (RX.out.new3 hb ho); clear ho hb; clear fR0 fR1 fR2 fT0 fT1 fT2 fU0 fU1 fU2; obtain ⟨⟨fR0, fR1, fR2⟩, -⟩ := RX.out.at (r := w1.heap.size) (a := .int .i64 k) (b := .int .i64 p) (c := .int .i64 q) (by repeat (first | with_reducible exact List.mem_cons_self | apply List.mem_cons_of_mem)); obtain ⟨⟨fT0, fT1, fT2⟩, -⟩ := RX.out.at (r := w2.heap.size) (a := .slice pT1 nT1 cT1) (b := .slice pT2 nT2 cT2) (c := .slice pT3 nT3 cT3) (by repeat (first | with_reducible exact List.mem_cons_self | apply List.mem_cons_of_mem)); obtain ⟨⟨fU0, fU1, fU2⟩, -⟩ := RX.out.at (r := w3.heap.size) (a := .slice pU1 nU1 cU1) (b := .slice pU2 nU2 cU2) (c := .slice pU3 nU3 cU3) (by repeat (first | with_reducible exact List.mem_cons_self | apply List.mem_cons_of_mem)))
        go_wp2_with fail
        refine hK.out _ _ (by (try dsimp only); first | with_reducible exact ⟨fR0, fR1, fR2, fT0, fT1, fT2, fU0, fU1, fU2⟩ | with_reducible exact ⟨gR0, gR1, gR2, gT0, gT1, gT2, gU0, gU1, gU2⟩) (fun hHeld => ?_)
        clear hK K
        try simp only [Act.put, List.getElem_toArray, List.getElem_cons_succ, List.getElem_cons_zero, List.setIfInBounds_toArray, List.set_cons_zero, List.set_cons_succ]
        refine wpAnyH_ready (rs := [9]) (by kernel_rfl) (by simp) ?_
        refine AllReadyH.cons rfl (fun K hK => ?_) AllReadyH.nil
        go_simp
        (go_at_call 13; refine (add_yes HLR.out.fc HLR.out.ec ⟨RX.out.rd (v := .slice pS1 nS1 cS1) (xs := LT) (by repeat (first | with_reducible exact List.mem_cons_self | apply List.mem_cons_of_mem)), RX.out.rd (v := .slice pS2 nS2 cS2) (xs := DT) (by repeat (first | with_reducible exact List.mem_cons_self | apply List.mem_cons_of_mem)), RX.out.rd (v := .slice pS3 nS3 cS3) (xs := XS) (by repeat (first | with_reducible exact List.mem_cons_self | apply List.mem_cons_of_mem))⟩ ⟨RX.out.rd (v := .slice pW1 nW1 cW1) (xs := LU) (by repeat (first | with_reducible exact List.mem_cons_self | apply List.mem_cons_of_mem)), RX.out.rd (v := .slice pW2 nW2 cW2) (xs := DU) (by repeat (first | with_reducible exact List.mem_cons_self | apply List.mem_cons_of_mem)), RX.out.rd (v := .slice pW3 nW3 cW3) (xs := XW) (by repeat (first | with_reducible exact List.mem_cons_self | apply List.mem_cons_of_mem))⟩ (Nat.le_refl _) (Nat.le_refl _)).mono ?_; rintro e w14 ⟨pC1, nC1, cC1, pC2, nC2, cC2, pC3, nC3, cC3, rfl, ho, hb⟩; have RA := RX; replace RX := Lib.hid ((RX.out.new3 hb ho).sub (List.Sublist.cons_cons _ (List.Sublist.cons_cons _ (List.Sublist.cons_cons _ (List.Sublist.cons _ (List.Sublist.cons _ (List.Sublist.cons _ (List.Sublist.cons _ (List.Sublist.cons _ (List.Sublist.cons _ (List.Sublist.refl _))))))))))); clear ho hb; clear fR0 fR1 fR2 fT0 fT1 fT2 fU0 fU1 fU2; obtain ⟨⟨fR0, fR1, fR2⟩, -⟩ := RX.out.at (r := w1.heap.size) (a := .int .i64 k) (b := .int .i64 p) (c := .int .i64 q) (by repeat (first | with_reducible exact List.mem_cons_self | apply List.mem_cons_of_mem)); obtain ⟨⟨fT0, fT1, fT2⟩, -⟩ := RX.out.at (r := w2.heap.size) (a := .slice pT1 nT1 cT1) (b := .slice pT2 nT2 cT2) (c := .slice pT3 nT3 cT3) (by repeat (first | with_reducible exact List.mem_cons_self | apply List.mem_cons_of_mem)); obtain ⟨⟨fU0, fU1, fU2⟩, -⟩ := RX.out.at (r := w3.heap.size) (a := .slice pU1 nU1 cU1) (b := .slice pU2 nU2 cU2) (c := .slice pU3 nU3 cU3) (by repeat (first | with_reducible exact List.mem_cons_self | apply List.mem_cons_of_mem)))
        go_wp2_with fail
        refine hK.out _ _ (by (try dsimp only); first | with_reducible exact ⟨fR0, fR1, fR2, fT0, fT1, fT2, fU0, fU1, fU2⟩ | with_reducible exact ⟨gR0, gR1, gR2, gT0, gT1, gT2, gU0, gU1, gU2⟩) (fun hHeld => ?_)
        clear hK K
        try simp only [Act.put, List.getElem_toArray, List.getElem_cons_succ, List.getElem_cons_zero, List.setIfInBounds_toArray, List.set_cons_zero, List.set_cons_succ]
        refine wpAnyH_take (i := 10) (v := ?_) rfl (by kernel_rfl) (by kernel_rfl) (by kernel_rfl) (fun _ _ _ h => h) (Or.inl ⟨by rfl, ?_⟩) (by assumption) ?_
        rotate_left
        · intro w hSw; (try dsimp only at hSw); go_simp <;> with_reducible rfl
        try simp only [Act.put, List.getElem_toArray, List.getElem_cons_succ, List.getElem_cons_zero, List.setIfInBounds_toArray, List.set_cons_zero, List.set_cons_succ]
        refine wpAnyH_take (i := 11) (v := ?_) rfl (by kernel_rfl) (by kernel_rfl) (by kernel_rfl) (fun _ _ _ h => h) (Or.inl ⟨by rfl, ?_⟩) (by assumption) ?_
        rotate_left
        · intro w hSw; (try dsimp only at hSw); go_simp <;> with_reducible rfl
        try simp only [Act.put, List.getElem_toArray, List.getElem_cons_succ, List.getElem_cons_zero, List.setIfInBounds_toArray, List.set_cons_zero, List.set_cons_succ]
        refine wpAnyH_take (i := 12) (v := ?_) rfl (by kernel_rfl) (by kernel_rfl) (by kernel_rfl) (fun _ _ _ h => h) (Or.inl ⟨by rfl, ?_⟩) (by assumption) ?_
        rotate_left
        · intro w hSw; (try dsimp only at hSw); go_simp <;> with_reducible rfl
        try simp only [Act.put, List.getElem_toArray, List.getElem_cons_succ, List.getElem_cons_zero, List.setIfInBounds_toArray, List.set_cons_zero, List.set_cons_succ]
        refine wpAnyH_ready (rs := [14]) (by kernel_rfl) (by simp) ?_
        refine AllReadyH.cons rfl (fun K hK => ?_) AllReadyH.nil
        (obtain ⟨⟨o0, o1, o2⟩, g0, g1, g2⟩ := RX.out.at List.mem_cons_self)
        go_simp
        (clear o0 o1 o2 g0 g1 g2; replace RX := Lib.hid (RX.out.set3 (.slice pC1 nC1 cC1) (.slice pC2 nC2 cC2) (.slice pC3 nC3 cC3)); have RY := Lib.hid (RXP.out.box (.slice pC1 nC1 cC1) (.slice pC2 nC2 cC2) (.slice pC3 nC3 cC3) 28); clear fR0 fR1 fR2 fT0 fT1 fT2 fU0 fU1 fU2; obtain ⟨⟨fR0, fR1, fR2⟩, -⟩ := RX.out.at (r := w1.heap.size) (a := .int .i64 k) (b := .int .i64 p) (c := .int .i64 q) (by repeat (first | with_reducible exact List.mem_cons_self | apply List.mem_cons_of_mem)); obtain ⟨⟨fT0, fT1, fT2⟩, -⟩ := RX.out.at (r := w2.heap.size) (a := .slice pT1 nT1 cT1) (b := .slice pT2 nT2 cT2) (c := .slice pT3 nT3 cT3) (by repeat (first | with_reducible exact List.mem_cons_self | apply List.mem_cons_of_mem)); obtain ⟨⟨fU0, fU1, fU2⟩, -⟩ := RX.out.at (r := w3.heap.size) (a := .slice pU1 nU1 cU1) (b := .slice pU2 nU2 cU2) (c := .slice pU3 nU3 cU3) (by repeat (first | with_reducible exact List.mem_cons_self | apply List.mem_cons_of_mem)); obtain ⟨⟨gR0, gR1, gR2⟩, -⟩ := RY.out.at (r := w1.heap.size) (a := .int .i64 k) (b := .int .i64 p) (c := .int .i64 q) (by repeat (first | with_reducible exact List.mem_cons_self | apply List.mem_cons_of_mem)); obtain ⟨⟨gT0, gT1, gT2⟩, -⟩ := RY.out.at (r := w2.heap.size) (a := .slice pT1 nT1 cT1) (b := .slice pT2 nT2 cT2) (c := .slice pT3 nT3 cT3) (by repeat (first | with_reducible exact List.mem_cons_self | apply List.mem_cons_of_mem)); obtain ⟨⟨gU0, gU1, gU2⟩, -⟩ := RY.out.at (r := w3.heap.size) (a := .slice pU1 nU1 cU1) (b := .slice pU2 nU2 cU2) (c := .slice pU3 nU3 cU3) (by repeat (first | with_reducible exact List.mem_cons_self | apply List.mem_cons_of_mem)))
        refine hK.out _ _ (by (try dsimp only); first | with_reducible exact ⟨fR0, fR1, fR2, fT0, fT1, fT2, fU0, fU1, fU2⟩ | with_reducible exact ⟨gR0, gR1, gR2, gT0, gT1, gT2, gU0, gU1, gU2⟩) (fun hHeld => ?_)
        clear hK K
        try simp only [Act.put, List.getElem_toArray, List.getElem_cons_succ, List.getElem_cons_zero, List.setIfInBounds_toArray, List.set_cons_zero, List.set_cons_succ]
        refine wpAnyH_take (i := 15) (v := ?_) rfl (by kernel_rfl) (by kernel_rfl) (by kernel_rfl) (fun _ _ _ h => h) (Or.inl ⟨by rfl, ?_⟩) (by assumption) ?_
        rotate_left
        · intro w hSw; (try dsimp only at hSw); go_simp <;> with_reducible rfl
        try simp only [Act.put, List.getElem_toArray, List.getElem_cons_succ, List.getElem_cons_zero, List.setIfInBounds_toArray, List.set_cons_zero, List.set_cons_succ]
        refine wpAnyH_done (by kernel_rfl) ?_ _
      rotate_left 1
    rotate_left 3
    focus
      go_simp
      (have RXP := RX; (first | (have _q := RA; replace RX := Lib.hid (RX.out.box nilV nilV nilV 28); clear _q) | (replace RX := Lib.hid (RXN.out.box nilV nilV nilV 28).drew)); clear fR0 fR1 fR2 fT0 fT1 fT2 fU0 fU1 fU2; obtain ⟨⟨fR0, fR1, fR2⟩, -⟩ := RX.out.at (r := w1.heap.size) (a := .int .i64 k) (b := .int .i64 p) (c := .int .i64 q) (by repeat (first | with_reducible exact List.mem_cons_self | apply List.mem_cons_of_mem)); obtain ⟨⟨fT0, fT1, fT2⟩, -⟩ := RX.out.at (r := w2.heap.size) (a := .slice pT1 nT1 cT1) (b := .slice pT2 nT2 cT2) (c := .slice pT3 nT3 cT3) (by repeat (first | with_reducible exact List.mem_cons_self | apply List.mem_cons_of_mem)); obtain ⟨⟨fU0, fU1, fU2⟩, -⟩ := RX.out.at (r := w3.heap.size) (a := .slice pU1 nU1 cU1) (b := .slice pU2 nU2 cU2) (c := .slice pU3 nU3 cU3) (by repeat (first | with_reducible exact List.mem_cons_self | apply List.mem_cons_of_mem)))
      refine hK.out _ _ (by (try dsimp only); first | with_reducible exact ⟨fR0, fR1, fR2, fT0, fT1, fT2, fU0, fU1, fU2⟩ | with_reducible exact ⟨gR0, gR1, gR2, gT0, gT1, gT2, gU0, gU1, gU2⟩) (fun hHeld => ?_)
      clear hK K
      try simp only [Act.put, List.getElem_toArray, List.getElem_cons_succ, List.getElem_cons_zero, List.setIfInBounds_toArray, List.set_cons_zero, List.set_cons_succ]
      refine wpAnyH_ready (rs := [4]) (by kernel_rfl) (by simp) ?_
      refine AllReadyH.cons rfl (fun K hK => ?_) AllReadyH.nil
      go_simp
      (go_at_call 19; (first | ((with_reducible show Calls _ _ #[_, .agg #[.slice pT1 nT1 cT1, _, _], _] _ _); refine (scale_yes (k := k) (p := p) (q := q) HLR.out.ss HLR.out.es ⟨RX.out.rd (v := .slice pT1 nT1 cT1) (xs := LT) (by repeat (first | with_reducible exact List.mem_cons_self | apply List.mem_cons_of_mem)), RX.out.rd (v := .slice pT2 nT2 cT2) (xs := DT) (by repeat (first | with_reducible exact List.mem_cons_self | apply List.mem_cons_of_mem)), RX.out.rd (v := .slice pT3 nT3 cT3) (xs := XT) (by repeat (first | with_reducible exact List.mem_cons_self | apply List.mem_cons_of_mem))⟩ (RX.out.rd (v := vx) (xs := x) (by repeat (first | with_reducible exact List.mem_cons_self | apply List.mem_cons_of_mem))) (Nat.le_refl _) (Nat.le_refl _) HX.out).mono ?_; rintro e w13 ⟨pS1, nS1, cS1, pS2, nS2, cS2, pS3, nS3, cS3, rfl, ho, hb⟩) | ((with_reducible show Calls _ _ #[_, .agg #[.slice pU1 nU1 cU1, _, _], _] _ _); refine (scale_yes (k := k) (p := p) (q := q) HLR.out.su HLR.out.eu ⟨RX.out.rd (v := .slice pU1 nU1 cU1) (xs := LU) (by repeat (first | with_reducible exact List.mem_cons_self | apply List.mem_cons_of_mem)), RX.out.rd (v := .slice pU2 nU2 cU2) (xs := DU) (by repeat (first | with_reducible exact List.mem_cons_self | apply List.mem_cons_of_mem)), RX.out.rd (v := .slice pU3 nU3 cU3) (xs := XU) (by repeat (first | with_reducible exact List.mem_cons_self | apply List.mem_cons_of_mem))⟩ (RX.out.rd (v := vx) (xs := x) (by repeat (first | with_reducible exact List.mem_cons_self | apply List.mem_cons_of_mem))) (Nat.le_refl _) (Nat.le_refl _) HX.out).mono ?_; rintro e w13 ⟨pW1, nW1, cW1, pW2, nW2, cW2, pW3, nW3, cW3, rfl, ho, hb⟩)); have RA := RX; replace RX := Lib.hid (RX.out.new3 hb ho); clear ho hb; clear fR0 fR1 fR2 fT0 fT1 fT2 fU0 fU1 fU2; obtain ⟨⟨fR0, fR1, fR2⟩, -⟩ := RX.out.at (r := w1.heap.size) (a := .int .i64 k) (b := .int .i64 p) (c := .int .i64 q) (by repeat (first | with_reducible exact List.mem_cons_self | apply List.mem_cons_of_mem)); obtain ⟨⟨fT0, fT1, fT2⟩, -⟩ := RX.out.at (r := w2.heap.size) (a := .slice pT1 nT1 cT1) (b := .slice pT2 nT2 cT2) (c := .slice pT3 nT3 cT3) (by repeat (first | with_reducible exact List.mem_cons_self | apply List.mem_cons_of_mem)); obtain ⟨⟨fU0, fU1, fU2⟩, -⟩ := RX.out.at (r := w3.heap.size) (a := .slice pU1 nU1 cU1) (b := .slice pU2 nU2 cU2) (c := .slice pU3 nU3 cU3) (by repeat (first | with_reducible exact List.mem_cons_self | apply List.mem_cons_of_mem)))
      go_wp2_with fail
      refine hK.out _ _ (by (try dsimp only); first | with_reducible exact ⟨fR0, fR1, fR2, fT0, fT1, fT2, fU0, fU1, fU2⟩ | with_reducible exact ⟨gR0, gR1, gR2, gT0, gT1, gT2, gU0, gU1, gU2⟩) (fun hHeld => ?_)
      clear hK K
      try simp only [Act.put, List.getElem_toArray, List.getElem_cons_succ, List.getElem_cons_zero, List.setIfInBounds_toArray, List.set_cons_zero, List.set_cons_succ]
      refine wpAnyH_ready (rs := [8]) (by kernel_rfl) (by simp) ?_
      refine AllReadyH.cons rfl (fun K hK => ?_) AllReadyH.nil
      go_simp
      (go_at_call 19; (first | ((with_reducible show Calls _ _ #[_, .agg #[.slice pT1 nT1 cT1, _, _], _] _ _); refine (scale_yes (k := k) (p := p) (q := q) HLR.out.ss HLR.out.es ⟨RX.out.rd (v := .slice pT1 nT1 cT1) (xs := LT) (by repeat (first | with_reducible exact List.mem_cons_self | apply List.mem_cons_of_mem)), RX.out.rd (v := .slice pT2 nT2 cT2) (xs := DT) (by repeat (first | with_reducible exact List.mem_cons_self | apply List.mem_cons_of_mem)), RX.out.rd (v := .slice pT3 nT3 cT3) (xs := XT) (by repeat (first | with_reducible exact List.mem_cons_self | apply List.mem_cons_of_mem))⟩ (RX.out.rd (v := vx) (xs := x) (by repeat (first | with_reducible exact List.mem_cons_self | apply List.mem_cons_of_mem))) (Nat.le_refl _) (Nat.le_refl _) HX.out).mono ?_; rintro e w13 ⟨pS1, nS1, cS1, pS2, nS2, cS2, pS3, nS3, cS3, rfl, ho, hb⟩) | ((with_reducible show Calls _ _ #[_, .agg #[.slice pU1 nU1 cU1, _, _], _] _ _); refine (scale_yes (k := k) (p := p) (q := q) HLR.out.su HLR.out.eu ⟨RX.out.rd (v := .slice pU1 nU1 cU1) (xs := LU) (by repeat (first | with_reducible exact List.mem_cons_self | apply List.mem_cons_of_mem)), RX.out.rd (v := .slice pU2 nU2 cU2) (xs := DU) (by repeat (first | with_reducible exact List.mem_cons_self | apply List.mem_cons_of_mem)), RX.out.rd (v := .slice pU3 nU3 cU3) (xs := XU) (by repeat (first | with_reducible exact List.mem_cons_self | apply List.mem_cons_of_mem))⟩ (RX.out.rd (v := vx) (xs := x) (by repeat (first | with_reducible exact List.mem_cons_self | apply List.mem_cons_of_mem))) (Nat.le_refl _) (Nat.le_refl _) HX.out).mono ?_; rintro e w13 ⟨pW1, nW1, cW1, pW2, nW2, cW2, pW3, nW3, cW3, rfl, ho, hb⟩)); have RA := RX; replace RX := Lib.hid (RX.out.new3 hb ho); clear ho hb; clear fR0 fR1 fR2 fT0 fT1 fT2 fU0 fU1 fU2; obtain ⟨⟨fR0, fR1, fR2⟩, -⟩ := RX.out.at (r := w1.heap.size) (a := .int .i64 k) (b := .int .i64 p) (c := .int .i64 q) (by repeat (first | with_reducible exact List.mem_cons_self | apply List.mem_cons_of_mem)); obtain ⟨⟨fT0, fT1, fT2⟩, -⟩ := RX.out.at (r := w2.heap.size) (a := .slice pT1 nT1 cT1) (b := .slice pT2 nT2 cT2) (c := .slice pT3 nT3 cT3) (by repeat (first | with_reducible exact List.mem_cons_self | apply List.mem_cons_of_mem)); obtain ⟨⟨fU0, fU1, fU2⟩, -⟩ := RX.out.at (r := w3.heap.size) (a := .slice pU1 nU1 cU1) (b := .slice pU2 nU2 cU2) (c := .slice pU3 nU3 cU3) (by repeat (first | with_reducible exact List.mem_cons_self | apply List.mem_cons_of_mem)))
      go_wp2_with fail
      refine hK.out _ _ (by (try dsimp only); first | with_reducible exact ⟨fR0, fR1, fR2, fT0, fT1, fT2, fU0, fU1, fU2⟩ | with_reducible exact ⟨gR0, gR1, gR2, gT0, gT1, gT2, gU0, gU1, gU2⟩) (fun hHeld => ?_)
      clear hK K
      try simp only [Act.put, List.getElem_toArray, List.getElem_cons_succ, List.getElem_cons_zero, List.setIfInBounds_toArray, List.set_cons_zero, List.set_cons_succ]
      refine wpAnyH_ready (rs := [9]) (by kernel_rfl) (by simp) ?_
      refine AllReadyH.cons rfl (fun K hK => ?_) AllReadyH.nil
      go_simp
      (go_at_call 13; refine (add_yes HLR.out.fc HLR.out.ec ⟨RX.out.rd (v := .slice pS1 nS1 cS1) (xs := LT) (by repeat (first | with_reducible exact List.mem_cons_self | apply List.mem_cons_of_mem)), RX.out.rd (v := .slice pS2 nS2 cS2) (xs := DT) (by repeat (first | with_reducible exact List.mem_cons_self | apply List.mem_cons_of_mem)), RX.out.rd (v := .slice pS3 nS3 cS3) (xs := XS) (by repeat (first | with_reducible exact List.mem_cons_self | apply List.mem_cons_of_mem))⟩ ⟨RX.out.rd (v := .slice pW1 nW1 cW1) (xs := LU) (by repeat (first | with_reducible exact List.mem_cons_self | apply List.mem_cons_of_mem)), RX.out.rd (v := .slice pW2 nW2 cW2) (xs := DU) (by repeat (first | with_reducible exact List.mem_cons_self | apply List.mem_cons_of_mem)), RX.out.rd (v := .slice pW3 nW3 cW3) (xs := XW) (by repeat (first | with_reducible exact List.mem_cons_self | apply List.mem_cons_of_mem))⟩ (Nat.le_refl _) (Nat.le_refl _)).mono ?_; rintro e w14 ⟨pC1, nC1, cC1, pC2, nC2, cC2, pC3, nC3, cC3, rfl, ho, hb⟩; have RA := RX; replace RX := Lib.hid ((RX.out.new3 hb ho).sub (List.Sublist.cons_cons _ (List.Sublist.cons_cons _ (List.Sublist.cons_cons _ (List.Sublist.cons _ (List.Sublist.cons _ (List.Sublist.cons _ (List.Sublist.cons _ (List.Sublist.cons _ (List.Sublist.cons _ (List.Sublist.refl _))))))))))); clear ho hb; clear fR0 fR1 fR2 fT0 fT1 fT2 fU0 fU1 fU2; obtain ⟨⟨fR0, fR1, fR2⟩, -⟩ := RX.out.at (r := w1.heap.size) (a := .int .i64 k) (b := .int .i64 p) (c := .int .i64 q) (by repeat (first | with_reducible exact List.mem_cons_self | apply List.mem_cons_of_mem)); obtain ⟨⟨fT0, fT1, fT2⟩, -⟩ := RX.out.at (r := w2.heap.size) (a := .slice pT1 nT1 cT1) (b := .slice pT2 nT2 cT2) (c := .slice pT3 nT3 cT3) (by repeat (first | with_reducible exact List.mem_cons_self | apply List.mem_cons_of_mem)); obtain ⟨⟨fU0, fU1, fU2⟩, -⟩ := RX.out.at (r := w3.heap.size) (a := .slice pU1 nU1 cU1) (b := .slice pU2 nU2 cU2) (c := .slice pU3 nU3 cU3) (by repeat (first | with_reducible exact List.mem_cons_self | apply List.mem_cons_of_mem)))
      go_wp2_with fail
      refine hK.out _ _ (by (try dsimp only); first | with_reducible exact ⟨fR0, fR1, fR2, fT0, fT1, fT2, fU0, fU1, fU2⟩ | with_reducible exact ⟨gR0, gR1, gR2, gT0, gT1, gT2, gU0, gU1, gU2⟩) (fun hHeld => ?_)
      clear hK K
      try simp only [Act.put, List.getElem_toArray, List.getElem_cons_succ, List.getElem_cons_zero, List.setIfInBounds_toArray, List.set_cons_zero, List.set_cons_succ]
      refine wpAnyH_take (i := 10) (v := ?_) rfl (by kernel_rfl) (by kernel_rfl) (by kernel_rfl) (fun _ _ _ h => h) (Or.inl ⟨by rfl, ?_⟩) (by assumption) ?_
      rotate_left
      · intro w hSw; (try dsimp only at hSw); go_simp <;> with_reducible rfl
      try simp only [Act.put, List.getElem_toArray, List.getElem_cons_succ, List.getElem_cons_zero, List.setIfInBounds_toArray, List.set_cons_zero, List.set_cons_succ]
      refine wpAnyH_take (i := 11) (v := ?_) rfl (by kernel_rfl) (by kernel_rfl) (by kernel_rfl) (fun _ _ _ h => h) (Or.inl ⟨by rfl, ?_⟩) (by assumption) ?_
      rotate_left
      · intro w hSw; (try dsimp only at hSw); go_simp <;> with_reducible rfl
      try simp only [Act.put, List.getElem_toArray, List.getElem_cons_succ, List.getElem_cons_zero, List.setIfInBounds_toArray, List.set_cons_zero, List.set_cons_succ]
      refine wpAnyH_take (i := 12) (v := ?_) rfl (by kernel_rfl) (by kernel_rfl) (by kernel_rfl) (fun _ _ _ h => h) (Or.inl ⟨by rfl, ?_⟩) (by assumption) ?_
      rotate_left
      · intro w hSw; (try dsimp only at hSw); go_simp <;> with_reducible rfl
      try simp only [Act.put, List.getElem_toArray, List.getElem_cons_succ, List.getElem_cons_zero, List.setIfInBounds_toArray, List.set_cons_zero, List.set_cons_succ]
      refine wpAnyH_ready (rs := [14]) (by kernel_rfl) (by simp) ?_
      refine AllReadyH.cons rfl (fun K hK => ?_) AllReadyH.nil
      (obtain ⟨⟨o0, o1, o2⟩, g0, g1, g2⟩ := RX.out.at List.mem_cons_self)
      go_simp
      (clear o0 o1 o2 g0 g1 g2; replace RX := Lib.hid (RX.out.set3 (.slice pC1 nC1 cC1) (.slice pC2 nC2 cC2) (.slice pC3 nC3 cC3)); have RY := Lib.hid (RXP.out.box (.slice pC1 nC1 cC1) (.slice pC2 nC2 cC2) (.slice pC3 nC3 cC3) 28); clear fR0 fR1 fR2 fT0 fT1 fT2 fU0 fU1 fU2; obtain ⟨⟨fR0, fR1, fR2⟩, -⟩ := RX.out.at (r := w1.heap.size) (a := .int .i64 k) (b := .int .i64 p) (c := .int .i64 q) (by repeat (first | with_reducible exact List.mem_cons_self | apply List.mem_cons_of_mem)); obtain ⟨⟨fT0, fT1, fT2⟩, -⟩ := RX.out.at (r := w2.heap.size) (a := .slice pT1 nT1 cT1) (b := .slice pT2 nT2 cT2) (c := .slice pT3 nT3 cT3) (by repeat (first | with_reducible exact List.mem_cons_self | apply List.mem_cons_of_mem)); obtain ⟨⟨fU0, fU1, fU2⟩, -⟩ := RX.out.at (r := w3.heap.size) (a := .slice pU1 nU1 cU1) (b := .slice pU2 nU2 cU2) (c := .slice pU3 nU3 cU3) (by repeat (first | with_reducible exact List.mem_cons_self | apply List.mem_cons_of_mem)); obtain ⟨⟨gR0, gR1, gR2⟩, -⟩ := RY.out.at (r := w1.heap.size) (a := .int .i64 k) (b := .int .i64 p) (c := .int .i64 q) (by repeat (first | with_reducible exact List.mem_cons_self | apply List.mem_cons_of_mem)); obtain ⟨⟨gT0, gT1, gT2⟩, -⟩ := RY.out.at (r := w2.heap.size) (a := .slice pT1 nT1 cT1) (b := .slice pT2 nT2 cT2) (c := .slice pT3 nT3 cT3) (by repeat (first | with_reducible exact List.mem_cons_self | apply List.mem_cons_of_mem)); obtain ⟨⟨gU0, gU1, gU2⟩, -⟩ := RY.out.at (r := w3.heap.size) (a := .slice pU1 nU1 cU1) (b := .slice pU2 nU2 cU2) (c := .slice pU3 nU3 cU3) (by repeat (first | with_reducible exact List.mem_cons_self | apply List.mem_cons_of_mem)))
      refine hK.out _ _ (by (try dsimp only); first | with_reducible exact ⟨fR0, fR1, fR2, fT0, fT1, fT2, fU0, fU1, fU2⟩ | with_reducible exact ⟨gR0, gR1, gR2, gT0, gT1, gT2, gU0, gU1, gU2⟩) (fun hHeld => ?_)
      clear hK K
      try simp only [Act.put, List.getElem_toArray, List.getElem_cons_succ, List.getElem_cons_zero, List.setIfInBounds_toArray, List.set_cons_zero, List.set_cons_succ]
      refine wpAnyH_take (i := 15) (v := ?_) rfl (by kernel_rfl) (by kernel_rfl) (by kernel_rfl) (fun _ _ _ h => h) (Or.inl ⟨by rfl, ?_⟩) (by assumption) ?_
      rotate_left
      · intro w hSw; (try dsimp only at hSw); go_simp <;> with_reducible rfl
      try simp only [Act.put, List.getElem_toArray, List.getElem_cons_succ, List.getElem_cons_zero, List.setIfInBounds_toArray, List.set_cons_zero, List.set_cons_succ]
      refine wpAnyH_done (by kernel_rfl) ?_ _
    rotate_left 1
    all_goals
      go_wp2_with fail
      go_meet
      first
        | with_reducible exact ⟨_, _, _, _, _, _, _, _, _, _, rfl, rfl, RX⟩
        | with_reducible exact ⟨_, _, _, _, _, _, _, _, _, _, rfl, rfl, RY⟩
  obtain ⟨gc, pC1, nC1, cC1, pC2, nC2, cC2, pC3, nC3, cC3, rfl, rfl, RC⟩ := hcut
  clear R6
  obtain ⟨⟨fR0, fR1, fR2⟩, -⟩ := RC.out.at (r := w1.heap.size) (a := .int .i64 k) (b := .int .i64 p) (c := .int .i64 q) (by repeat (first | with_reducible exact List.mem_cons_self | apply List.mem_cons_of_mem))
  obtain ⟨⟨fT0, fT1, fT2⟩, -⟩ := RC.out.at (r := w2.heap.size) (a := .slice pT1 nT1 cT1) (b := .slice pT2 nT2 cT2) (c := .slice pT3 nT3 cT3) (by repeat (first | with_reducible exact List.mem_cons_self | apply List.mem_cons_of_mem))
  obtain ⟨⟨fU0, fU1, fU2⟩, -⟩ := RC.out.at (r := w3.heap.size) (a := .slice pU1 nU1 cU1) (b := .slice pU2 nU2 cU2) (c := .slice pU3 nU3 cU3) (by repeat (first | with_reducible exact List.mem_cons_self | apply List.mem_cons_of_mem))
  go_wp2_with fail
  refine (mul_yes HLR.out.fa HLR.out.ed ⟨RC.out.rd (v := .slice pT1 nT1 cT1) (xs := LT) (by repeat (first | with_reducible exact List.mem_cons_self | apply List.mem_cons_of_mem)), RC.out.rd (v := .slice pT2 nT2 cT2) (xs := DT) (by repeat (first | with_reducible exact List.mem_cons_self | apply List.mem_cons_of_mem)), RC.out.rd (v := .slice pT3 nT3 cT3) (xs := XT) (by repeat (first | with_reducible exact List.mem_cons_self | apply List.mem_cons_of_mem))⟩ ⟨RC.out.rd (v := .slice pU1 nU1 cU1) (xs := LU) (by repeat (first | with_reducible exact List.mem_cons_self | apply List.mem_cons_of_mem)), RC.out.rd (v := .slice pU2 nU2 cU2) (xs := DU) (by repeat (first | with_reducible exact List.mem_cons_self | apply List.mem_cons_of_mem)), RC.out.rd (v := .slice pU3 nU3 cU3) (xs := XU) (by repeat (first | with_reducible exact List.mem_cons_self | apply List.mem_cons_of_mem))⟩ (Nat.le_refl _) (Nat.le_refl _)).mono ?_
  clear fR0 fR1 fR2 fT0 fT1 fT2 fU0 fU1 fU2
  rintro e w8 ⟨pM1, nM1, cM1, pM2, nM2, cM2, pM3, nM3, cM3, rfl, ho, hb⟩
  have R8 := Lib.hid ((RC.out.new3 hb ho).box (.slice pM1 nM1 cM1) (.slice pM2 nM2 cM2) (.slice pM3 nM3 cM3) 28)
  clear ho hb RC
  obtain ⟨⟨fR0, fR1, fR2⟩, -⟩ := R8.out.at (r := w1.heap.size) (a := .int .i64 k) (b := .int .i64 p) (c := .int .i64 q) (by repeat (first | with_reducible exact List.mem_cons_self | apply List.mem_cons_of_mem))
  obtain ⟨⟨fT0, fT1, fT2⟩, -⟩ := R8.out.at (r := w2.heap.size) (a := .slice pT1 nT1 cT1) (b := .slice pT2 nT2 cT2) (c := .slice pT3 nT3 cT3) (by repeat (first | with_reducible exact List.mem_cons_self | apply List.mem_cons_of_mem))
  obtain ⟨⟨fU0, fU1, fU2⟩, -⟩ := R8.out.at (r := w3.heap.size) (a := .slice pU1 nU1 cU1) (b := .slice pU2 nU2 cU2) (c := .slice pU3 nU3 cU3) (by repeat (first | with_reducible exact List.mem_cons_self | apply List.mem_cons_of_mem))
  go_wp2_with fail
  refine (pair_lin (k := k) (p := p) (q := q) HLP.out.1 HLP.out.2.1 HLP.out.2.2.1 (HLP.out.2.2.2.trans HLR.out.ed.symm) ⟨R8.out.rd (v := .slice pT1 nT1 cT1) (xs := LT) (by repeat (first | with_reducible exact List.mem_cons_self | apply List.mem_cons_of_mem)), R8.out.rd (v := .slice pT2 nT2 cT2) (xs := DT) (by repeat (first | with_reducible exact List.mem_cons_self | apply List.mem_cons_of_mem)), R8.out.rd (v := .slice pT3 nT3 cT3) (xs := XT) (by repeat (first | with_reducible exact List.mem_cons_self | apply List.mem_cons_of_mem))⟩ ⟨R8.out.rd (v := .slice pU1 nU1 cU1) (xs := LU) (by repeat (first | with_reducible exact List.mem_cons_self | apply List.mem_cons_of_mem)), R8.out.rd (v := .slice pU2 nU2 cU2) (xs := DU) (by repeat (first | with_reducible exact List.mem_cons_self | apply List.mem_cons_of_mem)), R8.out.rd (v := .slice pU3 nU3 cU3) (xs := XU) (by repeat (first | with_reducible exact List.mem_cons_self | apply List.mem_cons_of_mem))⟩ (R8.out.rd (v := .slice pT1 nT1 cT1) (xs := LT) (by repeat (first | with_reducible exact List.mem_cons_self | apply List.mem_cons_of_mem))) (Nat.le_refl _) (Nat.le_refl _) (Nat.le_refl _) HLN.out).mono ?_
  clear fR0 fR1 fR2 fT0 fT1 fT2 fU0 fU1 fU2
  rintro e w9 ⟨pE1, nE1, cE1, pE2, nE2, cE2, pE3, nE3, cE3, rfl, ho, hb⟩
  have R9 := Lib.hid ((R8.out.new3 hb ho).box (.slice pE1 nE1 cE1) (.slice pE2 nE2 cE2) (.slice pE3 nE3 cE3) 28)
  clear ho hb R8
  obtain ⟨⟨fR0, fR1, fR2⟩, -⟩ := R9.out.at (r := w1.heap.size) (a := .int .i64 k) (b := .int .i64 p) (c := .int .i64 q) (by repeat (first | with_reducible exact List.mem_cons_self | apply List.mem_cons_of_mem))
  obtain ⟨⟨fT0, fT1, fT2⟩, -⟩ := R9.out.at (r := w2.heap.size) (a := .slice pT1 nT1 cT1) (b := .slice pT2 nT2 cT2) (c := .slice pT3 nT3 cT3) (by repeat (first | with_reducible exact List.mem_cons_self | apply List.mem_cons_of_mem))
  go_wp2_with fail
  refine (zero_yes (k := k) (p := p) (q := q) HLR.out.zb HLR.out.ez HT.out (R9.out.rd (v := .slice pT1 nT1 cT1) (xs := LT) (by repeat (first | with_reducible exact List.mem_cons_self | apply List.mem_cons_of_mem))) (R9.out.rd (v := .slice pT2 nT2 cT2) (xs := DT) (by repeat (first | with_reducible exact List.mem_cons_self | apply List.mem_cons_of_mem))) (Nat.le_refl _)).mono ?_
  clear fR0 fR1 fR2 fT0 fT1 fT2
  rintro e w10 ⟨pZ1, nZ1, cZ1, pZ2, nZ2, cZ2, pZ3, nZ3, cZ3, rfl, ho, hb⟩
  have R10 := Lib.hid ((R9.out.new3 hb ho).box (.slice pZ1 nZ1 cZ1) (.slice pZ2 nZ2 cZ2) (.slice pZ3 nZ3 cZ3) 28)
  clear ho hb R9
  obtain ⟨⟨fR0, fR1, fR2⟩, -⟩ := R10.out.at (r := w1.heap.size) (a := .int .i64 k) (b := .int .i64 p) (c := .int .i64 q) (by repeat (first | with_reducible exact List.mem_cons_self | apply List.mem_cons_of_mem))
  obtain ⟨⟨fT0, fT1, fT2⟩, -⟩ := R10.out.at (r := w2.heap.size) (a := .slice pT1 nT1 cT1) (b := .slice pT2 nT2 cT2) (c := .slice pT3 nT3 cT3) (by repeat (first | with_reducible exact List.mem_cons_self | apply List.mem_cons_of_mem))
  obtain ⟨⟨fZ0, fZ1, fZ2⟩, -⟩ := R10.out.at (r := w10.heap.size) (a := .slice pZ1 nZ1 cZ1) (b := .slice pZ2 nZ2 cZ2) (c := .slice pZ3 nZ3 cZ3) (by repeat (first | with_reducible exact List.mem_cons_self | apply List.mem_cons_of_mem))
  go_wp2_with fail
  refine (add_yes HLR.out.ff HLR.out.ef ⟨R10.out.rd (v := .slice pZ1 nZ1 cZ1) (xs := LT) (by repeat (first | with_reducible exact List.mem_cons_self | apply List.mem_cons_of_mem)), R10.out.rd (v := .slice pZ2 nZ2 cZ2) (xs := DT) (by repeat (first | with_reducible exact List.mem_cons_self | apply List.mem_cons_of_mem)), R10.out.rd (v := .slice pZ3 nZ3 cZ3) (xs := XZ) (by repeat (first | with_reducible exact List.mem_cons_self | apply List.mem_cons_of_mem))⟩ ⟨R10.out.rd (v := .slice pT1 nT1 cT1) (xs := LT) (by repeat (first | with_reducible exact List.mem_cons_self | apply List.mem_cons_of_mem)), R10.out.rd (v := .slice pT2 nT2 cT2) (xs := DT) (by repeat (first | with_reducible exact List.mem_cons_self | apply List.mem_cons_of_mem)), R10.out.rd (v := .slice pT3 nT3 cT3) (xs := XT) (by repeat (first | with_reducible exact List.mem_cons_self | apply List.mem_cons_of_mem))⟩ (Nat.le_refl _) (Nat.le_refl _)).mono ?_
  clear fR0 fR1 fR2 fT0 fT1 fT2 fZ0 fZ1 fZ2
  rintro e w11 ⟨pF1, nF1, cF1, pF2, nF2, cF2, pF3, nF3, cF3, rfl, ho, hb⟩
  have R11 := Lib.hid ((R10.out.new3 hb ho).box (.slice pF1 nF1 cF1) (.slice pF2 nF2 cF2) (.slice pF3 nF3 cF3) 28)
  clear ho hb R10
  go_wp2_with fail
  generalize w11.alloc (.cells #[.slice pF1 nF1 cF1, .slice pF2 nF2 cF2, .slice pF3 nF3 cF3] 28) = V2 at R11 ⊢
  have RX := Lib.hid R11.out.drew
  clear R11
  obtain ⟨⟨fR0, fR1, fR2⟩, -⟩ := RX.out.at (r := w1.heap.size) (a := .int .i64 k) (b := .int .i64 p) (c := .int .i64 q) (by repeat (first | with_reducible exact List.mem_cons_self | apply List.mem_cons_of_mem))
  obtain ⟨⟨fP0, fP1, fP2⟩, -⟩ := RX.out.at (r := w5.heap.size) (a := .slice pP1 nP1 cP1) (b := .slice pP2 nP2 cP2) (c := .slice pP3 nP3 cP3) (by repeat (first | with_reducible exact List.mem_cons_self | apply List.mem_cons_of_mem))
  obtain ⟨⟨fQ0, fQ1, fQ2⟩, -⟩ := RX.out.at (r := w6.heap.size) (a := .slice pQ1 nQ1 cQ1) (b := .slice pQ2 nQ2 cQ2) (c := .slice pQ3 nQ3 cQ3) (by repeat (first | with_reducible exact List.mem_cons_self | apply List.mem_cons_of_mem))
  obtain ⟨⟨fC0, fC1, fC2⟩, -⟩ := RX.out.at (r := gc) (a := .slice pC1 nC1 cC1) (b := .slice pC2 nC2 cC2) (c := .slice pC3 nC3 cC3) (by repeat (first | with_reducible exact List.mem_cons_self | apply List.mem_cons_of_mem))
  obtain ⟨⟨fM0, fM1, fM2⟩, -⟩ := RX.out.at (r := w8.heap.size) (a := .slice pM1 nM1 cM1) (b := .slice pM2 nM2 cM2) (c := .slice pM3 nM3 cM3) (by repeat (first | with_reducible exact List.mem_cons_self | apply List.mem_cons_of_mem))
  obtain ⟨⟨fE0, fE1, fE2⟩, -⟩ := RX.out.at (r := w9.heap.size) (a := .slice pE1 nE1 cE1) (b := .slice pE2 nE2 cE2) (c := .slice pE3 nE3 cE3) (by repeat (first | with_reducible exact List.mem_cons_self | apply List.mem_cons_of_mem))
  obtain ⟨⟨fF0, fF1, fF2⟩, -⟩ := RX.out.at (r := w11.heap.size) (a := .slice pF1 nF1 cF1) (b := .slice pF2 nF2 cF2) (c := .slice pF3 nF3 cF3) (by repeat (first | with_reducible exact List.mem_cons_self | apply List.mem_cons_of_mem))
  obtain ⟨⟨fT0, fT1, fT2⟩, -⟩ := RX.out.at (r := w2.heap.size) (a := .slice pT1 nT1 cT1) (b := .slice pT2 nT2 cT2) (c := .slice pT3 nT3 cT3) (by repeat (first | with_reducible exact List.mem_cons_self | apply List.mem_cons_of_mem))
  refine wp_region_held_drew (S := (fun w' => w'.cell? ⟨w1.heap.size, 0, none⟩ = some (.int .i64 k) ∧ w'.cell? ⟨w1.heap.size, 1, none⟩ = some (.int .i64 p) ∧ w'.cell? ⟨w1.heap.size, 2, none⟩ = some (.int .i64 q) ∧ w'.cell? ⟨w5.heap.size, 0, none⟩ = some (.slice pP1 nP1 cP1) ∧ w'.cell? ⟨w5.heap.size, 1, none⟩ = some (.slice pP2 nP2 cP2) ∧ w'.cell? ⟨w5.heap.size, 2, none⟩ = some (.slice pP3 nP3 cP3) ∧ w'.cell? ⟨w6.heap.size, 0, none⟩ = some (.slice pQ1 nQ1 cQ1) ∧ w'.cell? ⟨w6.heap.size, 1, none⟩ = some (.slice pQ2 nQ2 cQ2) ∧ w'.cell? ⟨w6.heap.size, 2, none⟩ = some (.slice pQ3 nQ3 cQ3) ∧ w'.cell? ⟨gc, 0, none⟩ = some (.slice pC1 nC1 cC1) ∧ w'.cell? ⟨gc, 1, none⟩ = some (.slice pC2 nC2 cC2) ∧ w'.cell? ⟨gc, 2, none⟩ = some (.slice pC3 nC3 cC3) ∧ w'.cell? ⟨w8.heap.size, 0, none⟩ = some (.slice pM1 nM1 cM1) ∧ w'.cell? ⟨w8.heap.size, 1, none⟩ = some (.slice pM2 nM2 cM2) ∧ w'.cell? ⟨w8.heap.size, 2, none⟩ = some (.slice pM3 nM3 cM3) ∧ w'.cell? ⟨w9.heap.size, 0, none⟩ = some (.slice pE1 nE1 cE1) ∧ w'.cell? ⟨w9.heap.size, 1, none⟩ = some (.slice pE2 nE2 cE2) ∧ w'.cell? ⟨w9.heap.size, 2, none⟩ = some (.slice pE3 nE3 cE3) ∧ w'.cell? ⟨w11.heap.size, 0, none⟩ = some (.slice pF1 nF1 cF1) ∧ w'.cell? ⟨w11.heap.size, 1, none⟩ = some (.slice pF2 nF2 cF2) ∧ w'.cell? ⟨w11.heap.size, 2, none⟩ = some (.slice pF3 nF3 cF3) ∧ w'.cell? ⟨w2.heap.size, 0, none⟩ = some (.slice pT1 nT1 cT1) ∧ w'.cell? ⟨w2.heap.size, 1, none⟩ = some (.slice pT2 nT2 cT2) ∧ w'.cell? ⟨w2.heap.size, 2, none⟩ = some (.slice pT3 nT3 cT3))) (by kernel_rfl) (by (try dsimp only); exact ⟨fR0, fR1, fR2, fP0, fP1, fP2, fQ0, fQ1, fQ2, fC0, fC1, fC2, fM0, fM1, fM2, fE0, fE1, fE2, fF0, fF1, fF2, fT0, fT1, fT2⟩) (fun hHeld => ?_)
  refine wpAnyH_take (i := 0) (v := ?_) rfl (by kernel_rfl) (by kernel_rfl) (by kernel_rfl) (fun _ _ _ h => h) (Or.inl ⟨by rfl, ?_⟩) (by assumption) ?_
  rotate_left
  · intro w hSw; (try dsimp only at hSw); go_simp <;> with_reducible rfl
  try simp only [Act.put, List.getElem_toArray, List.getElem_cons_zero, List.setIfInBounds_toArray, List.set_cons_zero, List.set_cons_succ]
  refine wpAnyH_take (i := 1) (v := ?_) rfl (by kernel_rfl) (by kernel_rfl) (by kernel_rfl) (fun _ _ _ h => h) (Or.inl ⟨by rfl, ?_⟩) (by assumption) ?_
  rotate_left
  · intro w hSw; (try dsimp only at hSw); go_simp <;> with_reducible rfl
  try simp only [Act.put, List.getElem_toArray, List.getElem_cons_succ, List.getElem_cons_zero, List.setIfInBounds_toArray, List.set_cons_zero, List.set_cons_succ]
  refine wpAnyH_take (i := 2) (v := ?_) rfl (by kernel_rfl) (by kernel_rfl) (by kernel_rfl) (fun _ _ _ h => h) (Or.inl ⟨by rfl, ?_⟩) (by assumption) ?_
  rotate_left
  · intro w hSw; (try dsimp only at hSw); go_simp <;> with_reducible rfl
  try simp only [Act.put, List.getElem_toArray, List.getElem_cons_succ, List.getElem_cons_zero, List.setIfInBounds_toArray, List.set_cons_zero, List.set_cons_succ]
  refine wpAnyH_take (i := 3) (v := ?_) rfl (by kernel_rfl) (by kernel_rfl) (by kernel_rfl) (fun _ _ _ h => h) (Or.inl ⟨by rfl, ?_⟩) (by assumption) ?_
  rotate_left
  · intro w hSw; (try dsimp only at hSw); go_simp <;> with_reducible rfl
  try simp only [Act.put, List.getElem_toArray, List.getElem_cons_succ, List.getElem_cons_zero, List.setIfInBounds_toArray, List.set_cons_zero, List.set_cons_succ]
  refine wpAnyH_take (i := 4) (v := ?_) rfl (by kernel_rfl) (by kernel_rfl) (by kernel_rfl) (fun _ _ _ h => h) (Or.inl ⟨by rfl, ?_⟩) (by assumption) ?_
  rotate_left
  · intro w hSw; (try dsimp only at hSw); go_simp <;> with_reducible rfl
  try simp only [Act.put, List.getElem_toArray, List.getElem_cons_succ, List.getElem_cons_zero, List.setIfInBounds_toArray, List.set_cons_zero, List.set_cons_succ]
  refine wpAnyH_take (i := 5) (v := ?_) rfl (by kernel_rfl) (by kernel_rfl) (by kernel_rfl) (fun _ _ _ h => h) (Or.inl ⟨by rfl, ?_⟩) (by assumption) ?_
  rotate_left
  · intro w hSw; (try dsimp only at hSw); go_simp <;> with_reducible rfl
  try simp only [Act.put, List.getElem_toArray, List.getElem_cons_succ, List.getElem_cons_zero, List.setIfInBounds_toArray, List.set_cons_zero, List.set_cons_succ]
  refine wpAnyH_take (i := 6) (v := ?_) rfl (by kernel_rfl) (by kernel_rfl) (by kernel_rfl) (fun _ _ _ h => h) (Or.inl ⟨by rfl, ?_⟩) (by assumption) ?_
  rotate_left
  · intro w hSw; (try dsimp only at hSw); go_simp <;> with_reducible rfl
  try simp only [Act.put, List.getElem_toArray, List.getElem_cons_succ, List.getElem_cons_zero, List.setIfInBounds_toArray, List.set_cons_zero, List.set_cons_succ]
  refine wpAnyH_take (i := 7) (v := ?_) rfl (by kernel_rfl) (by kernel_rfl) (by kernel_rfl) (fun _ _ _ h => h) (Or.inl ⟨by rfl, ?_⟩) (by assumption) ?_
  rotate_left
  · intro w hSw; (try dsimp only at hSw); go_simp <;> with_reducible rfl
  try simp only [Act.put, List.getElem_toArray, List.getElem_cons_succ, List.getElem_cons_zero, List.setIfInBounds_toArray, List.set_cons_zero, List.set_cons_succ]
  refine wpAnyH_take (i := 8) (v := ?_) rfl (by kernel_rfl) (by kernel_rfl) (by kernel_rfl) (fun _ _ _ h => h) (Or.inl ⟨by rfl, ?_⟩) (by assumption) ?_
  rotate_left
  · intro w hSw; (try dsimp only at hSw); go_simp <;> with_reducible rfl
  try simp only [Act.put, List.getElem_toArray, List.getElem_cons_succ, List.getElem_cons_zero, List.setIfInBounds_toArray, List.set_cons_zero, List.set_cons_succ]
  refine wpAnyH_take (i := 9) (v := ?_) rfl (by kernel_rfl) (by kernel_rfl) (by kernel_rfl) (fun _ _ _ h => h) (Or.inl ⟨by rfl, ?_⟩) (by assumption) ?_
  rotate_left
  · intro w hSw; (try dsimp only at hSw); go_simp <;> with_reducible rfl
  try simp only [Act.put, List.getElem_toArray, List.getElem_cons_succ, List.getElem_cons_zero, List.setIfInBounds_toArray, List.set_cons_zero, List.set_cons_succ]
  refine wpAnyH_take (i := 10) (v := ?_) rfl (by kernel_rfl) (by kernel_rfl) (by kernel_rfl) (fun _ _ _ h => h) (Or.inl ⟨by rfl, ?_⟩) (by assumption) ?_
  rotate_left
  · intro w hSw; (try dsimp only at hSw); go_simp <;> with_reducible rfl
  try simp only [Act.put, List.getElem_toArray, List.getElem_cons_succ, List.getElem_cons_zero, List.setIfInBounds_toArray, List.set_cons_zero, List.set_cons_succ]
  refine wpAnyH_take (i := 11) (v := ?_) rfl (by kernel_rfl) (by kernel_rfl) (by kernel_rfl) (fun _ _ _ h => h) (Or.inl ⟨by rfl, ?_⟩) (by assumption) ?_
  rotate_left
  · intro w hSw; (try dsimp only at hSw); go_simp <;> with_reducible rfl
  try simp only [Act.put, List.getElem_toArray, List.getElem_cons_succ, List.getElem_cons_zero, List.setIfInBounds_toArray, List.set_cons_zero, List.set_cons_succ]
  refine wpAnyH_take (i := 12) (v := ?_) rfl (by kernel_rfl) (by kernel_rfl) (by kernel_rfl) (fun _ _ _ h => h) (Or.inl ⟨by rfl, ?_⟩) (by assumption) ?_
  rotate_left
  · intro w hSw; (try dsimp only at hSw); go_simp <;> with_reducible rfl
  try simp only [Act.put, List.getElem_toArray, List.getElem_cons_succ, List.getElem_cons_zero, List.setIfInBounds_toArray, List.set_cons_zero, List.set_cons_succ]
  refine wpAnyH_take (i := 13) (v := ?_) rfl (by kernel_rfl) (by kernel_rfl) (by kernel_rfl) (fun _ _ _ h => h) (Or.inl ⟨by rfl, ?_⟩) (by assumption) ?_
  rotate_left
  · intro w hSw; (try dsimp only at hSw); go_simp <;> with_reducible rfl
  try simp only [Act.put, List.getElem_toArray, List.getElem_cons_succ, List.getElem_cons_zero, List.setIfInBounds_toArray, List.set_cons_zero, List.set_cons_succ]
  refine wpAnyH_take (i := 14) (v := ?_) rfl (by kernel_rfl) (by kernel_rfl) (by kernel_rfl) (fun _ _ _ h => h) (Or.inl ⟨by rfl, ?_⟩) (by assumption) ?_
  rotate_left
  · intro w hSw; (try dsimp only at hSw); go_simp <;> with_reducible rfl
  try simp only [Act.put, List.getElem_toArray, List.getElem_cons_succ, List.getElem_cons_zero, List.setIfInBounds_toArray, List.set_cons_zero, List.set_cons_succ]
  refine wpAnyH_take (i := 15) (v := ?_) rfl (by kernel_rfl) (by kernel_rfl) (by kernel_rfl) (fun _ _ _ h => h) (Or.inl ⟨by rfl, ?_⟩) (by assumption) ?_
  rotate_left
  · intro w hSw; (try dsimp only at hSw); go_simp <;> with_reducible rfl
  try simp only [Act.put, List.getElem_toArray, List.getElem_cons_succ, List.getElem_cons_zero, List.setIfInBounds_toArray, List.set_cons_zero, List.set_cons_succ]
  refine wpAnyH_take (i := 16) (v := ?_) rfl (by kernel_rfl) (by kernel_rfl) (by kernel_rfl) (fun _ _ _ h => h) (Or.inl ⟨by rfl, ?_⟩) (by assumption) ?_
  rotate_left
  · intro w hSw; (try dsimp only at hSw); go_simp <;> with_reducible rfl
  try simp only [Act.put, List.getElem_toArray, List.getElem_cons_succ, List.getElem_cons_zero, List.setIfInBounds_toArray, List.set_cons_zero, List.set_cons_succ]
  refine wpAnyH_take (i := 17) (v := ?_) rfl (by kernel_rfl) (by kernel_rfl) (by kernel_rfl) (fun _ _ _ h => h) (Or.inl ⟨by rfl, ?_⟩) (by assumption) ?_
  rotate_left
  · intro w hSw; (try dsimp only at hSw); go_simp <;> with_reducible rfl
  try simp only [Act.put, List.getElem_toArray, List.getElem_cons_succ, List.getElem_cons_zero, List.setIfInBounds_toArray, List.set_cons_zero, List.set_cons_succ]
  refine wpAnyH_take (i := 18) (v := ?_) rfl (by kernel_rfl) (by kernel_rfl) (by kernel_rfl) (fun _ _ _ h => h) (Or.inl ⟨by rfl, ?_⟩) (by assumption) ?_
  rotate_left
  · intro w hSw; (try dsimp only at hSw); go_simp <;> with_reducible rfl
  try simp only [Act.put, List.getElem_toArray, List.getElem_cons_succ, List.getElem_cons_zero, List.setIfInBounds_toArray, List.set_cons_zero, List.set_cons_succ]
  refine wpAnyH_take (i := 19) (v := ?_) rfl (by kernel_rfl) (by kernel_rfl) (by kernel_rfl) (fun _ _ _ h => h) (Or.inl ⟨by rfl, ?_⟩) (by assumption) ?_
  rotate_left
  · intro w hSw; (try dsimp only at hSw); go_simp <;> with_reducible rfl
  try simp only [Act.put, List.getElem_toArray, List.getElem_cons_succ, List.getElem_cons_zero, List.setIfInBounds_toArray, List.set_cons_zero, List.set_cons_succ]
  refine wpAnyH_take (i := 20) (v := ?_) rfl (by kernel_rfl) (by kernel_rfl) (by kernel_rfl) (fun _ _ _ h => h) (Or.inl ⟨by rfl, ?_⟩) (by assumption) ?_
  rotate_left
  · intro w hSw; (try dsimp only at hSw); go_simp <;> with_reducible rfl
  try simp only [Act.put, List.getElem_toArray, List.getElem_cons_succ, List.getElem_cons_zero, List.setIfInBounds_toArray, List.set_cons_zero, List.set_cons_succ]
  refine wpAnyH_take (i := 21) (v := ?_) rfl (by kernel_rfl) (by kernel_rfl) (by kernel_rfl) (fun _ _ _ h => h) (Or.inl ⟨by rfl, ?_⟩) (by assumption) ?_
  rotate_left
  · intro w hSw; (try dsimp only at hSw); go_simp <;> with_reducible rfl
  try simp only [Act.put, List.getElem_toArray, List.getElem_cons_succ, List.getElem_cons_zero, List.setIfInBounds_toArray, List.set_cons_zero, List.set_cons_succ]
  refine wpAnyH_take (i := 22) (v := ?_) rfl (by kernel_rfl) (by kernel_rfl) (by kernel_rfl) (fun _ _ _ h => h) (Or.inl ⟨by rfl, ?_⟩) (by assumption) ?_
  rotate_left
  · intro w hSw; (try dsimp only at hSw); go_simp <;> with_reducible rfl
  try simp only [Act.put, List.getElem_toArray, List.getElem_cons_succ, List.getElem_cons_zero, List.setIfInBounds_toArray, List.set_cons_zero, List.set_cons_succ]
  refine wpAnyH_ready (rs := [23]) (by kernel_rfl) (by simp) ?_
  refine AllReadyH.cons rfl (fun K hK => ?_) AllReadyH.nil
  go_simp
  (go_at_call 15; refine (same_lin HLR.out.sm HLR.out.ta HLR.out.tb ⟨RX.out.rd (v := .slice pP1 nP1 cP1) (xs := LT) (by repeat (first | with_reducible exact List.mem_cons_self | apply List.mem_cons_of_mem)), RX.out.rd (v := .slice pP2 nP2 cP2) (xs := DT) (by repeat (first | with_reducible exact List.mem_cons_self | apply List.mem_cons_of_mem)), RX.out.rd (v := .slice pP3 nP3 cP3) (xs := XP) (by repeat (first | with_reducible exact List.mem_cons_self | apply List.mem_cons_of_mem))⟩ ⟨RX.out.rd (v := .slice pQ1 nQ1 cQ1) (xs := LU) (by repeat (first | with_reducible exact List.mem_cons_self | apply List.mem_cons_of_mem)), RX.out.rd (v := .slice pQ2 nQ2 cQ2) (xs := DU) (by repeat (first | with_reducible exact List.mem_cons_self | apply List.mem_cons_of_mem)), RX.out.rd (v := .slice pQ3 nQ3 cQ3) (xs := XQ) (by repeat (first | with_reducible exact List.mem_cons_self | apply List.mem_cons_of_mem))⟩ (Nat.le_refl _) (Nat.le_refl _)).mono ?_; rintro e w15 ⟨rfl, hb⟩; replace RX := Lib.hid (RX.out.step hb); clear hb; clear fR0 fR1 fR2 fP0 fP1 fP2 fQ0 fQ1 fQ2 fC0 fC1 fC2 fM0 fM1 fM2 fE0 fE1 fE2 fF0 fF1 fF2 fT0 fT1 fT2; obtain ⟨⟨fR0, fR1, fR2⟩, -⟩ := RX.out.at (r := w1.heap.size) (a := .int .i64 k) (b := .int .i64 p) (c := .int .i64 q) (by repeat (first | with_reducible exact List.mem_cons_self | apply List.mem_cons_of_mem)); obtain ⟨⟨fP0, fP1, fP2⟩, -⟩ := RX.out.at (r := w5.heap.size) (a := .slice pP1 nP1 cP1) (b := .slice pP2 nP2 cP2) (c := .slice pP3 nP3 cP3) (by repeat (first | with_reducible exact List.mem_cons_self | apply List.mem_cons_of_mem)); obtain ⟨⟨fQ0, fQ1, fQ2⟩, -⟩ := RX.out.at (r := w6.heap.size) (a := .slice pQ1 nQ1 cQ1) (b := .slice pQ2 nQ2 cQ2) (c := .slice pQ3 nQ3 cQ3) (by repeat (first | with_reducible exact List.mem_cons_self | apply List.mem_cons_of_mem)); obtain ⟨⟨fC0, fC1, fC2⟩, -⟩ := RX.out.at (r := gc) (a := .slice pC1 nC1 cC1) (b := .slice pC2 nC2 cC2) (c := .slice pC3 nC3 cC3) (by repeat (first | with_reducible exact List.mem_cons_self | apply List.mem_cons_of_mem)); obtain ⟨⟨fM0, fM1, fM2⟩, -⟩ := RX.out.at (r := w8.heap.size) (a := .slice pM1 nM1 cM1) (b := .slice pM2 nM2 cM2) (c := .slice pM3 nM3 cM3) (by repeat (first | with_reducible exact List.mem_cons_self | apply List.mem_cons_of_mem)); obtain ⟨⟨fE0, fE1, fE2⟩, -⟩ := RX.out.at (r := w9.heap.size) (a := .slice pE1 nE1 cE1) (b := .slice pE2 nE2 cE2) (c := .slice pE3 nE3 cE3) (by repeat (first | with_reducible exact List.mem_cons_self | apply List.mem_cons_of_mem)); obtain ⟨⟨fF0, fF1, fF2⟩, -⟩ := RX.out.at (r := w11.heap.size) (a := .slice pF1 nF1 cF1) (b := .slice pF2 nF2 cF2) (c := .slice pF3 nF3 cF3) (by repeat (first | with_reducible exact List.mem_cons_self | apply List.mem_cons_of_mem)); obtain ⟨⟨fT0, fT1, fT2⟩, -⟩ := RX.out.at (r := w2.heap.size) (a := .slice pT1 nT1 cT1) (b := .slice pT2 nT2 cT2) (c := .slice pT3 nT3 cT3) (by repeat (first | with_reducible exact List.mem_cons_self | apply List.mem_cons_of_mem)))
  go_wp2_with fail
  refine hK.out _ _ (by (try dsimp only); exact ⟨fR0, fR1, fR2, fP0, fP1, fP2, fQ0, fQ1, fQ2, fC0, fC1, fC2, fM0, fM1, fM2, fE0, fE1, fE2, fF0, fF1, fF2, fT0, fT1, fT2⟩) (fun hHeld => ?_)
  clear hK K
  try simp only [Act.put, List.getElem_toArray, List.getElem_cons_succ, List.getElem_cons_zero, List.setIfInBounds_toArray, List.set_cons_zero, List.set_cons_succ]
  refine wpAnyH_take (i := 24) (v := ?_) rfl (by kernel_rfl) (by kernel_rfl) (by kernel_rfl) (fun _ _ _ h => h) (Or.inl ⟨by rfl, ?_⟩) (by assumption) ?_
  rotate_left
  · intro w hSw; (try dsimp only at hSw); go_simp <;> with_reducible rfl
  try simp only [Act.put, List.getElem_toArray, List.getElem_cons_succ, List.getElem_cons_zero, List.setIfInBounds_toArray, List.set_cons_zero, List.set_cons_succ]
  refine wpAnyH_take (i := 25) (v := ?_) rfl (by kernel_rfl) (by kernel_rfl) (by kernel_rfl) (fun _ _ _ h => h) (Or.inl ⟨by rfl, ?_⟩) (by assumption) ?_
  rotate_left
  · intro w hSw; (try dsimp only at hSw); go_simp <;> with_reducible rfl
  try simp only [Act.put, List.getElem_toArray, List.getElem_cons_succ, List.getElem_cons_zero, List.setIfInBounds_toArray, List.set_cons_zero, List.set_cons_succ]
  refine wpAnyH_take (i := 26) (v := ?_) rfl (by kernel_rfl) (by kernel_rfl) (by kernel_rfl) (fun _ _ _ h => h) (Or.inl ⟨by rfl, ?_⟩) (by assumption) ?_
  rotate_left
  · intro w hSw; (try dsimp only at hSw); go_simp <;> with_reducible rfl
  try simp only [Act.put, List.getElem_toArray, List.getElem_cons_succ, List.getElem_cons_zero, List.setIfInBounds_toArray, List.set_cons_zero, List.set_cons_succ]
  refine wpAnyH_take (i := 27) (v := ?_) rfl (by kernel_rfl) (by kernel_rfl) (by kernel_rfl) (fun _ _ _ h => h) (Or.inl ⟨by rfl, ?_⟩) (by assumption) ?_
  rotate_left
  · intro w hSw; (try dsimp only at hSw); go_simp <;> with_reducible rfl
  try simp only [Act.put, List.getElem_toArray, List.getElem_cons_succ, List.getElem_cons_zero, List.setIfInBounds_toArray, List.set_cons_zero, List.set_cons_succ]
  refine wpAnyH_take (i := 28) (v := ?_) rfl (by kernel_rfl) (by kernel_rfl) (by kernel_rfl) (fun _ _ _ h => h) (Or.inl ⟨by rfl, ?_⟩) (by assumption) ?_
  rotate_left
  · intro w hSw; (try dsimp only at hSw); go_simp <;> with_reducible rfl
  try simp only [Act.put, List.getElem_toArray, List.getElem_cons_succ, List.getElem_cons_zero, List.setIfInBounds_toArray, List.set_cons_zero, List.set_cons_succ]
  refine wpAnyH_take (i := 30) (v := ?_) rfl (by kernel_rfl) (by kernel_rfl) (by kernel_rfl) (fun _ _ _ h => h) (Or.inl ⟨by rfl, ?_⟩) (by assumption) ?_
  rotate_left
  · intro w hSw; (try dsimp only at hSw); go_simp <;> with_reducible rfl
  try simp only [Act.put, List.getElem_toArray, List.getElem_cons_succ, List.getElem_cons_zero, List.setIfInBounds_toArray, List.set_cons_zero, List.set_cons_succ]
  refine wpAnyH_ready (rs := [29]) (by kernel_rfl) (by simp) ?_
  refine AllReadyH.cons rfl (fun K hK => ?_) AllReadyH.nil
  go_simp
  (go_at_call 19; refine (scale_yes (k := k) (p := p) (q := q) HLR.out.st HLR.out.et ⟨RX.out.rd (v := .slice pP1 nP1 cP1) (xs := LT) (by repeat (first | with_reducible exact List.mem_cons_self | apply List.mem_cons_of_mem)), RX.out.rd (v := .slice pP2 nP2 cP2) (xs := DT) (by repeat (first | with_reducible exact List.mem_cons_self | apply List.mem_cons_of_mem)), RX.out.rd (v := .slice pP3 nP3 cP3) (xs := XP) (by repeat (first | with_reducible exact List.mem_cons_self | apply List.mem_cons_of_mem))⟩ (RX.out.rd (v := vx) (xs := x) (by repeat (first | with_reducible exact List.mem_cons_self | apply List.mem_cons_of_mem))) (Nat.le_refl _) (Nat.le_refl _) HX.out).mono ?_; rintro e w16 ⟨pG1, nG1, cG1, pG2, nG2, cG2, pG3, nG3, cG3, rfl, ho, hb⟩; replace RX := Lib.hid (RX.out.new3 hb ho); clear ho hb; clear fR0 fR1 fR2 fP0 fP1 fP2 fQ0 fQ1 fQ2 fC0 fC1 fC2 fM0 fM1 fM2 fE0 fE1 fE2 fF0 fF1 fF2 fT0 fT1 fT2; obtain ⟨⟨fR0, fR1, fR2⟩, -⟩ := RX.out.at (r := w1.heap.size) (a := .int .i64 k) (b := .int .i64 p) (c := .int .i64 q) (by repeat (first | with_reducible exact List.mem_cons_self | apply List.mem_cons_of_mem)); obtain ⟨⟨fP0, fP1, fP2⟩, -⟩ := RX.out.at (r := w5.heap.size) (a := .slice pP1 nP1 cP1) (b := .slice pP2 nP2 cP2) (c := .slice pP3 nP3 cP3) (by repeat (first | with_reducible exact List.mem_cons_self | apply List.mem_cons_of_mem)); obtain ⟨⟨fQ0, fQ1, fQ2⟩, -⟩ := RX.out.at (r := w6.heap.size) (a := .slice pQ1 nQ1 cQ1) (b := .slice pQ2 nQ2 cQ2) (c := .slice pQ3 nQ3 cQ3) (by repeat (first | with_reducible exact List.mem_cons_self | apply List.mem_cons_of_mem)); obtain ⟨⟨fC0, fC1, fC2⟩, -⟩ := RX.out.at (r := gc) (a := .slice pC1 nC1 cC1) (b := .slice pC2 nC2 cC2) (c := .slice pC3 nC3 cC3) (by repeat (first | with_reducible exact List.mem_cons_self | apply List.mem_cons_of_mem)); obtain ⟨⟨fM0, fM1, fM2⟩, -⟩ := RX.out.at (r := w8.heap.size) (a := .slice pM1 nM1 cM1) (b := .slice pM2 nM2 cM2) (c := .slice pM3 nM3 cM3) (by repeat (first | with_reducible exact List.mem_cons_self | apply List.mem_cons_of_mem)); obtain ⟨⟨fE0, fE1, fE2⟩, -⟩ := RX.out.at (r := w9.heap.size) (a := .slice pE1 nE1 cE1) (b := .slice pE2 nE2 cE2) (c := .slice pE3 nE3 cE3) (by repeat (first | with_reducible exact List.mem_cons_self | apply List.mem_cons_of_mem)); obtain ⟨⟨fF0, fF1, fF2⟩, -⟩ := RX.out.at (r := w11.heap.size) (a := .slice pF1 nF1 cF1) (b := .slice pF2 nF2 cF2) (c := .slice pF3 nF3 cF3) (by repeat (first | with_reducible exact List.mem_cons_self | apply List.mem_cons_of_mem)); obtain ⟨⟨fT0, fT1, fT2⟩, -⟩ := RX.out.at (r := w2.heap.size) (a := .slice pT1 nT1 cT1) (b := .slice pT2 nT2 cT2) (c := .slice pT3 nT3 cT3) (by repeat (first | with_reducible exact List.mem_cons_self | apply List.mem_cons_of_mem)))
  go_wp2_with fail
  refine hK.out _ _ (by (try dsimp only); exact ⟨fR0, fR1, fR2, fP0, fP1, fP2, fQ0, fQ1, fQ2, fC0, fC1, fC2, fM0, fM1, fM2, fE0, fE1, fE2, fF0, fF1, fF2, fT0, fT1, fT2⟩) (fun hHeld => ?_)
  clear hK K
  try simp only [Act.put, List.getElem_toArray, List.getElem_cons_succ, List.getElem_cons_zero, List.setIfInBounds_toArray, List.set_cons_zero, List.set_cons_succ]
  refine wpAnyH_ready (rs := [31]) (by kernel_rfl) (by simp) ?_
  refine AllReadyH.cons rfl (fun K hK => ?_) AllReadyH.nil
  go_simp
  (go_at_call 12; (first | ((with_reducible show Calls _ _ #[.agg #[.slice pM1 nM1 cM1, _, _], _] _ _); refine (same_yes ⟨RX.out.rd (v := .slice pM1 nM1 cM1) (xs := LT) (by repeat (first | with_reducible exact List.mem_cons_self | apply List.mem_cons_of_mem)), RX.out.rd (v := .slice pM2 nM2 cM2) (xs := DT) (by repeat (first | with_reducible exact List.mem_cons_self | apply List.mem_cons_of_mem)), RX.out.rd (v := .slice pM3 nM3 cM3) (xs := XM) (by repeat (first | with_reducible exact List.mem_cons_self | apply List.mem_cons_of_mem))⟩ ⟨RX.out.rd (v := .slice pE1 nE1 cE1) (xs := LT) (by repeat (first | with_reducible exact List.mem_cons_self | apply List.mem_cons_of_mem)), RX.out.rd (v := .slice pE2 nE2 cE2) (xs := DT) (by repeat (first | with_reducible exact List.mem_cons_self | apply List.mem_cons_of_mem)), RX.out.rd (v := .slice pE3 nE3 cE3) (xs := XM) (by repeat (first | with_reducible exact List.mem_cons_self | apply List.mem_cons_of_mem))⟩ (Nat.le_refl _) (Nat.le_refl _) (ten_len HLR.out.td)).mono ?_) | ((with_reducible show Calls _ _ #[.agg #[.slice pF1 nF1 cF1, _, _], _] _ _); refine (same_yes ⟨RX.out.rd (v := .slice pF1 nF1 cF1) (xs := LT) (by repeat (first | with_reducible exact List.mem_cons_self | apply List.mem_cons_of_mem)), RX.out.rd (v := .slice pF2 nF2 cF2) (xs := DT) (by repeat (first | with_reducible exact List.mem_cons_self | apply List.mem_cons_of_mem)), RX.out.rd (v := .slice pF3 nF3 cF3) (xs := XT) (by repeat (first | with_reducible exact List.mem_cons_self | apply List.mem_cons_of_mem))⟩ ⟨RX.out.rd (v := .slice pT1 nT1 cT1) (xs := LT) (by repeat (first | with_reducible exact List.mem_cons_self | apply List.mem_cons_of_mem)), RX.out.rd (v := .slice pT2 nT2 cT2) (xs := DT) (by repeat (first | with_reducible exact List.mem_cons_self | apply List.mem_cons_of_mem)), RX.out.rd (v := .slice pT3 nT3 cT3) (xs := XT) (by repeat (first | with_reducible exact List.mem_cons_self | apply List.mem_cons_of_mem))⟩ (Nat.le_refl _) (Nat.le_refl _) (ten_len HT.out)).mono ?_) | (refine (same_yes ⟨RX.out.rd (v := .slice pG1 nG1 cG1) (xs := LT) (by repeat (first | with_reducible exact List.mem_cons_self | apply List.mem_cons_of_mem)), RX.out.rd (v := .slice pG2 nG2 cG2) (xs := DT) (by repeat (first | with_reducible exact List.mem_cons_self | apply List.mem_cons_of_mem)), RX.out.rd (v := .slice pG3 nG3 cG3) (xs := XC) (by repeat (first | with_reducible exact List.mem_cons_self | apply List.mem_cons_of_mem))⟩ ⟨RX.out.rd (v := .slice pC1 nC1 cC1) (xs := LT) (by repeat (first | with_reducible exact List.mem_cons_self | apply List.mem_cons_of_mem)), RX.out.rd (v := .slice pC2 nC2 cC2) (xs := DT) (by repeat (first | with_reducible exact List.mem_cons_self | apply List.mem_cons_of_mem)), RX.out.rd (v := .slice pC3 nC3 cC3) (xs := XC) (by repeat (first | with_reducible exact List.mem_cons_self | apply List.mem_cons_of_mem))⟩ (Nat.le_refl _) (Nat.le_refl _) (ten_len HLR.out.tc)).mono ?_)); rintro e w17 ⟨rfl, hb⟩; replace RX := Lib.hid (RX.out.step hb); clear hb; clear fR0 fR1 fR2 fP0 fP1 fP2 fQ0 fQ1 fQ2 fC0 fC1 fC2 fM0 fM1 fM2 fE0 fE1 fE2 fF0 fF1 fF2 fT0 fT1 fT2; obtain ⟨⟨fR0, fR1, fR2⟩, -⟩ := RX.out.at (r := w1.heap.size) (a := .int .i64 k) (b := .int .i64 p) (c := .int .i64 q) (by repeat (first | with_reducible exact List.mem_cons_self | apply List.mem_cons_of_mem)); obtain ⟨⟨fP0, fP1, fP2⟩, -⟩ := RX.out.at (r := w5.heap.size) (a := .slice pP1 nP1 cP1) (b := .slice pP2 nP2 cP2) (c := .slice pP3 nP3 cP3) (by repeat (first | with_reducible exact List.mem_cons_self | apply List.mem_cons_of_mem)); obtain ⟨⟨fQ0, fQ1, fQ2⟩, -⟩ := RX.out.at (r := w6.heap.size) (a := .slice pQ1 nQ1 cQ1) (b := .slice pQ2 nQ2 cQ2) (c := .slice pQ3 nQ3 cQ3) (by repeat (first | with_reducible exact List.mem_cons_self | apply List.mem_cons_of_mem)); obtain ⟨⟨fC0, fC1, fC2⟩, -⟩ := RX.out.at (r := gc) (a := .slice pC1 nC1 cC1) (b := .slice pC2 nC2 cC2) (c := .slice pC3 nC3 cC3) (by repeat (first | with_reducible exact List.mem_cons_self | apply List.mem_cons_of_mem)); obtain ⟨⟨fM0, fM1, fM2⟩, -⟩ := RX.out.at (r := w8.heap.size) (a := .slice pM1 nM1 cM1) (b := .slice pM2 nM2 cM2) (c := .slice pM3 nM3 cM3) (by repeat (first | with_reducible exact List.mem_cons_self | apply List.mem_cons_of_mem)); obtain ⟨⟨fE0, fE1, fE2⟩, -⟩ := RX.out.at (r := w9.heap.size) (a := .slice pE1 nE1 cE1) (b := .slice pE2 nE2 cE2) (c := .slice pE3 nE3 cE3) (by repeat (first | with_reducible exact List.mem_cons_self | apply List.mem_cons_of_mem)); obtain ⟨⟨fF0, fF1, fF2⟩, -⟩ := RX.out.at (r := w11.heap.size) (a := .slice pF1 nF1 cF1) (b := .slice pF2 nF2 cF2) (c := .slice pF3 nF3 cF3) (by repeat (first | with_reducible exact List.mem_cons_self | apply List.mem_cons_of_mem)); obtain ⟨⟨fT0, fT1, fT2⟩, -⟩ := RX.out.at (r := w2.heap.size) (a := .slice pT1 nT1 cT1) (b := .slice pT2 nT2 cT2) (c := .slice pT3 nT3 cT3) (by repeat (first | with_reducible exact List.mem_cons_self | apply List.mem_cons_of_mem)))
  go_wp2_with fail
  refine hK.out _ _ (by (try dsimp only); exact ⟨fR0, fR1, fR2, fP0, fP1, fP2, fQ0, fQ1, fQ2, fC0, fC1, fC2, fM0, fM1, fM2, fE0, fE1, fE2, fF0, fF1, fF2, fT0, fT1, fT2⟩) (fun hHeld => ?_)
  clear hK K
  try simp only [Act.put, List.getElem_toArray, List.getElem_cons_succ, List.getElem_cons_zero, List.setIfInBounds_toArray, List.set_cons_zero, List.set_cons_succ]
  refine wpAnyH_take (i := 32) (v := ?_) rfl (by kernel_rfl) (by kernel_rfl) (by kernel_rfl) (fun _ _ _ h => h) (Or.inl ⟨by rfl, ?_⟩) (by assumption) ?_
  rotate_left
  · intro w hSw; (try dsimp only at hSw); go_simp <;> with_reducible rfl
  try simp only [Act.put, List.getElem_toArray, List.getElem_cons_succ, List.getElem_cons_zero, List.setIfInBounds_toArray, List.set_cons_zero, List.set_cons_succ]
  refine wpAnyH_take (i := 33) (v := ?_) rfl (by kernel_rfl) (by kernel_rfl) (by kernel_rfl) (fun _ _ _ h => h) (Or.inl ⟨by rfl, ?_⟩) (by assumption) ?_
  rotate_left
  · intro w hSw; (try dsimp only at hSw); go_simp <;> with_reducible rfl
  try simp only [Act.put, List.getElem_toArray, List.getElem_cons_succ, List.getElem_cons_zero, List.setIfInBounds_toArray, List.set_cons_zero, List.set_cons_succ]
  refine wpAnyH_take (i := 34) (v := ?_) rfl (by kernel_rfl) (by kernel_rfl) (by kernel_rfl) (fun _ _ _ h => h) (Or.inl ⟨by rfl, ?_⟩) (by assumption) ?_
  rotate_left
  · intro w hSw; (try dsimp only at hSw); go_simp <;> with_reducible rfl
  try simp only [Act.put, List.getElem_toArray, List.getElem_cons_succ, List.getElem_cons_zero, List.setIfInBounds_toArray, List.set_cons_zero, List.set_cons_succ]
  refine wpAnyH_take (i := 35) (v := ?_) rfl (by kernel_rfl) (by kernel_rfl) (by kernel_rfl) (fun _ _ _ h => h) (Or.inl ⟨by rfl, ?_⟩) (by assumption) ?_
  rotate_left
  · intro w hSw; (try dsimp only at hSw); go_simp <;> with_reducible rfl
  try simp only [Act.put, List.getElem_toArray, List.getElem_cons_succ, List.getElem_cons_zero, List.setIfInBounds_toArray, List.set_cons_zero, List.set_cons_succ]
  refine wpAnyH_ready (rs := [36]) (by kernel_rfl) (by simp) ?_
  refine AllReadyH.cons rfl (fun K hK => ?_) AllReadyH.nil
  go_simp
  (go_at_call 12; (first | ((with_reducible show Calls _ _ #[.agg #[.slice pM1 nM1 cM1, _, _], _] _ _); refine (same_yes ⟨RX.out.rd (v := .slice pM1 nM1 cM1) (xs := LT) (by repeat (first | with_reducible exact List.mem_cons_self | apply List.mem_cons_of_mem)), RX.out.rd (v := .slice pM2 nM2 cM2) (xs := DT) (by repeat (first | with_reducible exact List.mem_cons_self | apply List.mem_cons_of_mem)), RX.out.rd (v := .slice pM3 nM3 cM3) (xs := XM) (by repeat (first | with_reducible exact List.mem_cons_self | apply List.mem_cons_of_mem))⟩ ⟨RX.out.rd (v := .slice pE1 nE1 cE1) (xs := LT) (by repeat (first | with_reducible exact List.mem_cons_self | apply List.mem_cons_of_mem)), RX.out.rd (v := .slice pE2 nE2 cE2) (xs := DT) (by repeat (first | with_reducible exact List.mem_cons_self | apply List.mem_cons_of_mem)), RX.out.rd (v := .slice pE3 nE3 cE3) (xs := XM) (by repeat (first | with_reducible exact List.mem_cons_self | apply List.mem_cons_of_mem))⟩ (Nat.le_refl _) (Nat.le_refl _) (ten_len HLR.out.td)).mono ?_) | ((with_reducible show Calls _ _ #[.agg #[.slice pF1 nF1 cF1, _, _], _] _ _); refine (same_yes ⟨RX.out.rd (v := .slice pF1 nF1 cF1) (xs := LT) (by repeat (first | with_reducible exact List.mem_cons_self | apply List.mem_cons_of_mem)), RX.out.rd (v := .slice pF2 nF2 cF2) (xs := DT) (by repeat (first | with_reducible exact List.mem_cons_self | apply List.mem_cons_of_mem)), RX.out.rd (v := .slice pF3 nF3 cF3) (xs := XT) (by repeat (first | with_reducible exact List.mem_cons_self | apply List.mem_cons_of_mem))⟩ ⟨RX.out.rd (v := .slice pT1 nT1 cT1) (xs := LT) (by repeat (first | with_reducible exact List.mem_cons_self | apply List.mem_cons_of_mem)), RX.out.rd (v := .slice pT2 nT2 cT2) (xs := DT) (by repeat (first | with_reducible exact List.mem_cons_self | apply List.mem_cons_of_mem)), RX.out.rd (v := .slice pT3 nT3 cT3) (xs := XT) (by repeat (first | with_reducible exact List.mem_cons_self | apply List.mem_cons_of_mem))⟩ (Nat.le_refl _) (Nat.le_refl _) (ten_len HT.out)).mono ?_) | (refine (same_yes ⟨RX.out.rd (v := .slice pG1 nG1 cG1) (xs := LT) (by repeat (first | with_reducible exact List.mem_cons_self | apply List.mem_cons_of_mem)), RX.out.rd (v := .slice pG2 nG2 cG2) (xs := DT) (by repeat (first | with_reducible exact List.mem_cons_self | apply List.mem_cons_of_mem)), RX.out.rd (v := .slice pG3 nG3 cG3) (xs := XC) (by repeat (first | with_reducible exact List.mem_cons_self | apply List.mem_cons_of_mem))⟩ ⟨RX.out.rd (v := .slice pC1 nC1 cC1) (xs := LT) (by repeat (first | with_reducible exact List.mem_cons_self | apply List.mem_cons_of_mem)), RX.out.rd (v := .slice pC2 nC2 cC2) (xs := DT) (by repeat (first | with_reducible exact List.mem_cons_self | apply List.mem_cons_of_mem)), RX.out.rd (v := .slice pC3 nC3 cC3) (xs := XC) (by repeat (first | with_reducible exact List.mem_cons_self | apply List.mem_cons_of_mem))⟩ (Nat.le_refl _) (Nat.le_refl _) (ten_len HLR.out.tc)).mono ?_)); rintro e w17 ⟨rfl, hb⟩; replace RX := Lib.hid (RX.out.step hb); clear hb; clear fR0 fR1 fR2 fP0 fP1 fP2 fQ0 fQ1 fQ2 fC0 fC1 fC2 fM0 fM1 fM2 fE0 fE1 fE2 fF0 fF1 fF2 fT0 fT1 fT2; obtain ⟨⟨fR0, fR1, fR2⟩, -⟩ := RX.out.at (r := w1.heap.size) (a := .int .i64 k) (b := .int .i64 p) (c := .int .i64 q) (by repeat (first | with_reducible exact List.mem_cons_self | apply List.mem_cons_of_mem)); obtain ⟨⟨fP0, fP1, fP2⟩, -⟩ := RX.out.at (r := w5.heap.size) (a := .slice pP1 nP1 cP1) (b := .slice pP2 nP2 cP2) (c := .slice pP3 nP3 cP3) (by repeat (first | with_reducible exact List.mem_cons_self | apply List.mem_cons_of_mem)); obtain ⟨⟨fQ0, fQ1, fQ2⟩, -⟩ := RX.out.at (r := w6.heap.size) (a := .slice pQ1 nQ1 cQ1) (b := .slice pQ2 nQ2 cQ2) (c := .slice pQ3 nQ3 cQ3) (by repeat (first | with_reducible exact List.mem_cons_self | apply List.mem_cons_of_mem)); obtain ⟨⟨fC0, fC1, fC2⟩, -⟩ := RX.out.at (r := gc) (a := .slice pC1 nC1 cC1) (b := .slice pC2 nC2 cC2) (c := .slice pC3 nC3 cC3) (by repeat (first | with_reducible exact List.mem_cons_self | apply List.mem_cons_of_mem)); obtain ⟨⟨fM0, fM1, fM2⟩, -⟩ := RX.out.at (r := w8.heap.size) (a := .slice pM1 nM1 cM1) (b := .slice pM2 nM2 cM2) (c := .slice pM3 nM3 cM3) (by repeat (first | with_reducible exact List.mem_cons_self | apply List.mem_cons_of_mem)); obtain ⟨⟨fE0, fE1, fE2⟩, -⟩ := RX.out.at (r := w9.heap.size) (a := .slice pE1 nE1 cE1) (b := .slice pE2 nE2 cE2) (c := .slice pE3 nE3 cE3) (by repeat (first | with_reducible exact List.mem_cons_self | apply List.mem_cons_of_mem)); obtain ⟨⟨fF0, fF1, fF2⟩, -⟩ := RX.out.at (r := w11.heap.size) (a := .slice pF1 nF1 cF1) (b := .slice pF2 nF2 cF2) (c := .slice pF3 nF3 cF3) (by repeat (first | with_reducible exact List.mem_cons_self | apply List.mem_cons_of_mem)); obtain ⟨⟨fT0, fT1, fT2⟩, -⟩ := RX.out.at (r := w2.heap.size) (a := .slice pT1 nT1 cT1) (b := .slice pT2 nT2 cT2) (c := .slice pT3 nT3 cT3) (by repeat (first | with_reducible exact List.mem_cons_self | apply List.mem_cons_of_mem)))
  go_wp2_with fail
  refine hK.out _ _ (by (try dsimp only); exact ⟨fR0, fR1, fR2, fP0, fP1, fP2, fQ0, fQ1, fQ2, fC0, fC1, fC2, fM0, fM1, fM2, fE0, fE1, fE2, fF0, fF1, fF2, fT0, fT1, fT2⟩) (fun hHeld => ?_)
  clear hK K
  try simp only [Act.put, List.getElem_toArray, List.getElem_cons_succ, List.getElem_cons_zero, List.setIfInBounds_toArray, List.set_cons_zero, List.set_cons_succ]
  refine wpAnyH_take (i := 37) (v := ?_) rfl (by kernel_rfl) (by kernel_rfl) (by kernel_rfl) (fun _ _ _ h => h) (Or.inl ⟨by rfl, ?_⟩) (by assumption) ?_
  rotate_left
  · intro w hSw; (try dsimp only at hSw); go_simp <;> with_reducible rfl
  try simp only [Act.put, List.getElem_toArray, List.getElem_cons_succ, List.getElem_cons_zero, List.setIfInBounds_toArray, List.set_cons_zero, List.set_cons_succ]
  refine wpAnyH_take (i := 38) (v := ?_) rfl (by kernel_rfl) (by kernel_rfl) (by kernel_rfl) (fun _ _ _ h => h) (Or.inl ⟨by rfl, ?_⟩) (by assumption) ?_
  rotate_left
  · intro w hSw; (try dsimp only at hSw); go_simp <;> with_reducible rfl
  try simp only [Act.put, List.getElem_toArray, List.getElem_cons_succ, List.getElem_cons_zero, List.setIfInBounds_toArray, List.set_cons_zero, List.set_cons_succ]
  refine wpAnyH_take (i := 39) (v := ?_) rfl (by kernel_rfl) (by kernel_rfl) (by kernel_rfl) (fun _ _ _ h => h) (Or.inl ⟨by rfl, ?_⟩) (by assumption) ?_
  rotate_left
  · intro w hSw; (try dsimp only at hSw); go_simp <;> with_reducible rfl
  try simp only [Act.put, List.getElem_toArray, List.getElem_cons_succ, List.getElem_cons_zero, List.setIfInBounds_toArray, List.set_cons_zero, List.set_cons_succ]
  refine wpAnyH_take (i := 40) (v := ?_) rfl (by kernel_rfl) (by kernel_rfl) (by kernel_rfl) (fun _ _ _ h => h) (Or.inl ⟨by rfl, ?_⟩) (by assumption) ?_
  rotate_left
  · intro w hSw; (try dsimp only at hSw); go_simp <;> with_reducible rfl
  try simp only [Act.put, List.getElem_toArray, List.getElem_cons_succ, List.getElem_cons_zero, List.setIfInBounds_toArray, List.set_cons_zero, List.set_cons_succ]
  refine wpAnyH_ready (rs := [41]) (by kernel_rfl) (by simp) ?_
  refine AllReadyH.cons rfl (fun K hK => ?_) AllReadyH.nil
  go_simp
  (go_at_call 12; (first | ((with_reducible show Calls _ _ #[.agg #[.slice pM1 nM1 cM1, _, _], _] _ _); refine (same_yes ⟨RX.out.rd (v := .slice pM1 nM1 cM1) (xs := LT) (by repeat (first | with_reducible exact List.mem_cons_self | apply List.mem_cons_of_mem)), RX.out.rd (v := .slice pM2 nM2 cM2) (xs := DT) (by repeat (first | with_reducible exact List.mem_cons_self | apply List.mem_cons_of_mem)), RX.out.rd (v := .slice pM3 nM3 cM3) (xs := XM) (by repeat (first | with_reducible exact List.mem_cons_self | apply List.mem_cons_of_mem))⟩ ⟨RX.out.rd (v := .slice pE1 nE1 cE1) (xs := LT) (by repeat (first | with_reducible exact List.mem_cons_self | apply List.mem_cons_of_mem)), RX.out.rd (v := .slice pE2 nE2 cE2) (xs := DT) (by repeat (first | with_reducible exact List.mem_cons_self | apply List.mem_cons_of_mem)), RX.out.rd (v := .slice pE3 nE3 cE3) (xs := XM) (by repeat (first | with_reducible exact List.mem_cons_self | apply List.mem_cons_of_mem))⟩ (Nat.le_refl _) (Nat.le_refl _) (ten_len HLR.out.td)).mono ?_) | ((with_reducible show Calls _ _ #[.agg #[.slice pF1 nF1 cF1, _, _], _] _ _); refine (same_yes ⟨RX.out.rd (v := .slice pF1 nF1 cF1) (xs := LT) (by repeat (first | with_reducible exact List.mem_cons_self | apply List.mem_cons_of_mem)), RX.out.rd (v := .slice pF2 nF2 cF2) (xs := DT) (by repeat (first | with_reducible exact List.mem_cons_self | apply List.mem_cons_of_mem)), RX.out.rd (v := .slice pF3 nF3 cF3) (xs := XT) (by repeat (first | with_reducible exact List.mem_cons_self | apply List.mem_cons_of_mem))⟩ ⟨RX.out.rd (v := .slice pT1 nT1 cT1) (xs := LT) (by repeat (first | with_reducible exact List.mem_cons_self | apply List.mem_cons_of_mem)), RX.out.rd (v := .slice pT2 nT2 cT2) (xs := DT) (by repeat (first | with_reducible exact List.mem_cons_self | apply List.mem_cons_of_mem)), RX.out.rd (v := .slice pT3 nT3 cT3) (xs := XT) (by repeat (first | with_reducible exact List.mem_cons_self | apply List.mem_cons_of_mem))⟩ (Nat.le_refl _) (Nat.le_refl _) (ten_len HT.out)).mono ?_) | (refine (same_yes ⟨RX.out.rd (v := .slice pG1 nG1 cG1) (xs := LT) (by repeat (first | with_reducible exact List.mem_cons_self | apply List.mem_cons_of_mem)), RX.out.rd (v := .slice pG2 nG2 cG2) (xs := DT) (by repeat (first | with_reducible exact List.mem_cons_self | apply List.mem_cons_of_mem)), RX.out.rd (v := .slice pG3 nG3 cG3) (xs := XC) (by repeat (first | with_reducible exact List.mem_cons_self | apply List.mem_cons_of_mem))⟩ ⟨RX.out.rd (v := .slice pC1 nC1 cC1) (xs := LT) (by repeat (first | with_reducible exact List.mem_cons_self | apply List.mem_cons_of_mem)), RX.out.rd (v := .slice pC2 nC2 cC2) (xs := DT) (by repeat (first | with_reducible exact List.mem_cons_self | apply List.mem_cons_of_mem)), RX.out.rd (v := .slice pC3 nC3 cC3) (xs := XC) (by repeat (first | with_reducible exact List.mem_cons_self | apply List.mem_cons_of_mem))⟩ (Nat.le_refl _) (Nat.le_refl _) (ten_len HLR.out.tc)).mono ?_)); rintro e w17 ⟨rfl, hb⟩; replace RX := Lib.hid (RX.out.step hb); clear hb; clear fR0 fR1 fR2 fP0 fP1 fP2 fQ0 fQ1 fQ2 fC0 fC1 fC2 fM0 fM1 fM2 fE0 fE1 fE2 fF0 fF1 fF2 fT0 fT1 fT2; obtain ⟨⟨fR0, fR1, fR2⟩, -⟩ := RX.out.at (r := w1.heap.size) (a := .int .i64 k) (b := .int .i64 p) (c := .int .i64 q) (by repeat (first | with_reducible exact List.mem_cons_self | apply List.mem_cons_of_mem)); obtain ⟨⟨fP0, fP1, fP2⟩, -⟩ := RX.out.at (r := w5.heap.size) (a := .slice pP1 nP1 cP1) (b := .slice pP2 nP2 cP2) (c := .slice pP3 nP3 cP3) (by repeat (first | with_reducible exact List.mem_cons_self | apply List.mem_cons_of_mem)); obtain ⟨⟨fQ0, fQ1, fQ2⟩, -⟩ := RX.out.at (r := w6.heap.size) (a := .slice pQ1 nQ1 cQ1) (b := .slice pQ2 nQ2 cQ2) (c := .slice pQ3 nQ3 cQ3) (by repeat (first | with_reducible exact List.mem_cons_self | apply List.mem_cons_of_mem)); obtain ⟨⟨fC0, fC1, fC2⟩, -⟩ := RX.out.at (r := gc) (a := .slice pC1 nC1 cC1) (b := .slice pC2 nC2 cC2) (c := .slice pC3 nC3 cC3) (by repeat (first | with_reducible exact List.mem_cons_self | apply List.mem_cons_of_mem)); obtain ⟨⟨fM0, fM1, fM2⟩, -⟩ := RX.out.at (r := w8.heap.size) (a := .slice pM1 nM1 cM1) (b := .slice pM2 nM2 cM2) (c := .slice pM3 nM3 cM3) (by repeat (first | with_reducible exact List.mem_cons_self | apply List.mem_cons_of_mem)); obtain ⟨⟨fE0, fE1, fE2⟩, -⟩ := RX.out.at (r := w9.heap.size) (a := .slice pE1 nE1 cE1) (b := .slice pE2 nE2 cE2) (c := .slice pE3 nE3 cE3) (by repeat (first | with_reducible exact List.mem_cons_self | apply List.mem_cons_of_mem)); obtain ⟨⟨fF0, fF1, fF2⟩, -⟩ := RX.out.at (r := w11.heap.size) (a := .slice pF1 nF1 cF1) (b := .slice pF2 nF2 cF2) (c := .slice pF3 nF3 cF3) (by repeat (first | with_reducible exact List.mem_cons_self | apply List.mem_cons_of_mem)); obtain ⟨⟨fT0, fT1, fT2⟩, -⟩ := RX.out.at (r := w2.heap.size) (a := .slice pT1 nT1 cT1) (b := .slice pT2 nT2 cT2) (c := .slice pT3 nT3 cT3) (by repeat (first | with_reducible exact List.mem_cons_self | apply List.mem_cons_of_mem)))
  go_wp2_with fail
  refine hK.out _ _ (by (try dsimp only); exact ⟨fR0, fR1, fR2, fP0, fP1, fP2, fQ0, fQ1, fQ2, fC0, fC1, fC2, fM0, fM1, fM2, fE0, fE1, fE2, fF0, fF1, fF2, fT0, fT1, fT2⟩) (fun hHeld => ?_)
  clear hK K
  try simp only [Act.put, List.getElem_toArray, List.getElem_cons_succ, List.getElem_cons_zero, List.setIfInBounds_toArray, List.set_cons_zero, List.set_cons_succ]
  refine wpAnyH_take (i := 42) (v := ?_) rfl (by kernel_rfl) (by kernel_rfl) (by kernel_rfl) (fun _ _ _ h => h) (Or.inl ⟨by rfl, ?_⟩) (by assumption) ?_
  rotate_left
  · intro w hSw; (try dsimp only at hSw); go_simp <;> with_reducible rfl
  try simp only [Act.put, List.getElem_toArray, List.getElem_cons_succ, List.getElem_cons_zero, List.setIfInBounds_toArray, List.set_cons_zero, List.set_cons_succ]
  refine wpAnyH_take (i := 43) (v := ?_) rfl (by kernel_rfl) (by kernel_rfl) (by kernel_rfl) (fun _ _ _ h => h) (Or.inl ⟨by rfl, ?_⟩) (by assumption) ?_
  rotate_left
  · intro w hSw; (try dsimp only at hSw); go_simp <;> with_reducible rfl
  try simp only [Act.put, List.getElem_toArray, List.getElem_cons_succ, List.getElem_cons_zero, List.setIfInBounds_toArray, List.set_cons_zero, List.set_cons_succ]
  refine wpAnyH_done (by kernel_rfl) ?_ _
  go_wp2
  go_ret
  exact ⟨rfl, RX.out.bel⟩
set_option maxHeartbeats 400000 in
theorem law_linear_big (a : Option Addr) (n c : Nat) (w : World) (hb : 1048576 < n) (hc : n ≤ 281474976710656) :
    Calls Tryz.prog 4 #[.slice a n c] w fun e w' => e = .returned (.bool true) ∧ Below w.heap.size w w' := by
  go_enter Tryz.func4, Tryz.ntmps4
  go_wp2
  go_ret
  exact ⟨rfl, Below.refl _ _⟩
theorem law_linear {v : Value} {bs : List UInt8} {w : World} (hr : Rd w.heap.size w v (bytes8 bs)) (hl : bs.length ≤ 281474976710656) :
    Calls Tryz.prog 4 #[v] w fun e w' => e = .returned (.bool true) ∧ Below w.heap.size w w' := by
  obtain ⟨a, cap, rfl, -⟩ := bytes_cell hr
  by_cases hs : bs.length ≤ 1048576
  · exact law_linear_small a _ cap bs w rfl hs hr
  · exact law_linear_big a _ cap w (by omega) hl
end Go.Proofs.YtfdjlahaiogabaaGreat
