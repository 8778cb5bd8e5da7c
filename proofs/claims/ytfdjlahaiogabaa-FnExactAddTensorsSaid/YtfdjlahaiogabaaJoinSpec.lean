
/- spec.l07Join: two tensors with the same axes, element by element. -/
import Derived.Test.YtfdjlahaiogabaaPermSpec
import Derived.Test.YtfdjlahaiogabaaMulElem
namespace Go.Proofs.Ytfdjlahaiogabaa
set_option maxRecDepth 20000
open Go.RowKit

/-- The sum, or the product, of the elements at an offset. -/
def joinF (k p : Int) (wd : Nat) (X Y : List Int) (pr : Bool) (i : Nat) : List Int := if pr = true then timesL k p (getL wd X i) (getL wd Y i) else plusL k p (getL wd X i) (getL wd Y i)
theorem joinF_elem {k p q : Int} {X Y : List Int} {wd N i : Nat} (hr : ringB k p q = true) (hw : widthI k q = (wd : Int)) (hX : X.length = N * wd) (hY : Y.length = N * wd) (wX : Within (topI k p q) X) (wY : Within (topI k p q) Y) (pr : Bool) (hi : i < N) : ElemV k p q (joinF k p wd X Y pr i) := by
  have h1 := getL_elem hw hX wX hi
  have h2 := getL_elem hw hY wY hi
  unfold joinF
  split
  · exact timesL_elem hr h1 h2
  · exact plusL_elem hr h1 h2
set_option maxHeartbeats 6400000 in
theorem join_full {B : Nat} {k p q : Int} {L D X Y L' D' : List Int} {m mx n1 n2 wd N cl cd cx kl kd kx : Nat} {al ad ax bl bd bx : Option Addr} {w : World} (pr : Bool) (hp : PF k p q L D X L m wd N) (hmx : mx = X.length) (hY : Y.length = X.length) (wX : Within (topI k p q) X) (wY : Within (topI k p q) Y)
    (h : RdT B w (.slice al m cl) (.slice ad m cd) (.slice ax mx cx) L D X) (h' : RdT B w (.slice bl n1 kl) (.slice bd n2 kd) (.slice bx mx kx) L' D' Y) (hB : B ≤ w.heap.size) :
    Calls Try.prog 97 #[ringV k p q, tenV (.slice al m cl) (.slice ad m cd) (.slice ax mx cx), tenV (.slice bl n1 kl) (.slice bd n2 kd) (.slice bx mx kx), .bool pr] w (NewTen w L D (gatherL (joinF k p wd X Y pr) N)) := by
  have P := Lib.hid hp
  have HT := Lib.hid h
  have HU := Lib.hid h'
  have HB := Lib.hid hB
  have HX : Hid (X.length = N * wd ∧ Y.length = N * wd ∧ mx = N * wd ∧ mx ≤ 24576) := by
    show _ ∧ _ ∧ _ ∧ _
    have h1 := hp.lX
    refine ⟨h1, by rw [hY]; exact h1, by rw [hmx]; exact h1, ?_⟩
    rw [hmx, h1]
    exact Nat.le_trans (Nat.mul_le_mul hp.n1.2 hp.w6.2) (by omega)
  have HW := Lib.hid (And.intro wX wY)
  have h12 := hp.m12
  have hn4 := hp.n1.2
  have HFE : Hid (∀ i, i < N → ElemV k p q (joinF k p wd X Y pr i)) := Lib.hid (fun i hi => joinF_elem hp.rg hp.hw HX.out.1 HX.out.2.1 wX wY pr hi)
  have HFL : Hid (∀ i, i < N → (joinF k p wd X Y pr i).length = wd) := Lib.hid (fun i hi => by
    have h1 := (HFE.out i hi).1
    rw [hp.hw] at h1
    omega)
  have HCAP : Hid (capI D = (N : Int)) := Lib.hid (by
    have h3 := (capI_is (fun d hd => (hp.dD d hd).1)).1
    have := hp.n1
    rw [h3, hp.pD]; omega)
  have R0 : Hid (Rs w ((((w.alloc (.cells #[.int .i64 k, .int .i64 p, .int .i64 q] 31)).alloc (.cells #[.slice al m cl, .slice ad m cd, .slice ax mx cx] 28)).alloc (.cells #[.slice bl n1 kl, .slice bd n2 kd, .slice bx mx kx] 28)).alloc (.cells #[nilV, nilV, nilV] 28)) [(w.heap.size + 1 + 1 + 1, nilV, nilV, nilV), (w.heap.size + 1 + 1, .slice bl n1 kl, .slice bd n2 kd, .slice bx mx kx), (w.heap.size + 1, .slice al m cl, .slice ad m cd, .slice ax mx cx), (w.heap.size, .int .i64 k, .int .i64 p, .int .i64 q)] []) := by
    have h := ((((Rs.start w).box (.int .i64 k) (.int .i64 p) (.int .i64 q) 31).box (.slice al m cl) (.slice ad m cd) (.slice ax mx cx) 28).box (.slice bl n1 kl) (.slice bd n2 kd) (.slice bx mx kx) 28).box nilV nilV nilV 28
    simp only [World.size_alloc] at h
    exact h
  have HCP := Lib.hid (fun (w1 : World) (hb : Below w.heap.size w w1) => copy_spec (HT.out.below hb HB.out) (Nat.le_trans HB.out hb.size) (by rw [hp.lL]; omega) (by rw [hp.lD]; omega) (by have := HX.out.2.2.2; omega))
  clear hp hmx hY wX wY h h' hB
  obtain ⟨⟨s0, s1, s2⟩, -⟩ := R0.out.at (r := w.heap.size + 1) (a := .slice al m cl) (b := .slice ad m cd) (c := .slice ax mx cx) (by simp)
  cases pr with
  | false =>
    go_enter Try.func97, Try.ntmps97
    go_wp2_with fail
    refine (HCP.out _ R0.out.bel).mono ?_
    clear s0 s1 s2
    rintro e w2 ⟨l', d', x', rfl, ho, hb⟩
    have R2 := Lib.hid (R0.out.new3 hb ho)
    obtain ⟨a1, c1, rfl, -⟩ := ints_form ho.rows.1.rd
    obtain ⟨a2, c2, rfl, -⟩ := ints_form ho.rows.2.1.rd
    obtain ⟨a3, c3, rfl, -⟩ := ints_form ho.rows.2.2.rd
    rw [P.out.lL, P.out.lD, HX.out.1, ← HX.out.2.2.1] at R2 ⊢
    clear ho hb
    have R3 := Lib.hid (R2.out.box (.slice a1 m c1) (.slice a2 m c2) (.slice a3 mx c3) 28)
    obtain ⟨bs, hbs⟩ : ∃ b, b = [(w2.heap.size, Value.slice a1 m c1, Value.slice a2 m c2, Value.slice a3 mx c3), (w.heap.size + 1 + 1 + 1, nilV, nilV, nilV), (w.heap.size + 1 + 1, .slice bl n1 kl, .slice bd n2 kd, .slice bx mx kx), (w.heap.size + 1, .slice al m cl, .slice ad m cd, .slice ax mx cx), (w.heap.size, .int .i64 k, .int .i64 p, .int .i64 q)] := ⟨_, rfl⟩
    rw [← hbs] at R3
    have HBS := Lib.hid hbs.symm
    have R4 : Hid (Rs w _ bs [(.slice a3 mx c3, overL (joinF k p wd X Y false) X wd 0), (.slice a1 m c1, L), (.slice a2 m c2, D)]) := Lib.hid (by rw [over_zero]; exact R3.out.third)
    clear R2 R3 hbs
    go_wp2
    go_loopw [10] (fun i wr => ∃ j : Nat, j ≤ N ∧ i = .int .i64 j ∧ Hid (Rs w wr bs [(.slice a3 mx c3, overL (joinF k p wd X Y false) X wd j), (.slice a1 m c1, L), (.slice a2 m c2, D)])) (fun i _ => N - (intOf i).toNat)
    case atStart => exact ⟨0, by omega, rfl, R4⟩
    case round =>
      clear R4
      obtain ⟨j, hj, rfl, HR⟩ := hrel
      have HRd := HR.out.drew
      obtain ⟨⟨s0, s1, s2⟩, -⟩ := HR.out.at (r := w.heap.size + 1) (a := .slice al m cl) (b := .slice ad m cd) (c := .slice ax mx cx) (by rw [← HBS.out]; simp)
      have HPR := Lib.hid (product_spec (HT.out.below HR.out.bel HB.out).d (by rw [P.out.lD]; omega) P.out.dD)
      rw [HCAP.out] at HPR
      by_cases hlt : j < N
      · have hjj := Nat.mul_le_mul_right wd (show j + 1 ≤ N by omega)
        rw [Nat.add_mul, Nat.one_mul] at hjj
        have HJ := Lib.hid hjj
        have HEA := Lib.hid (getL_elem P.out.hw HX.out.1 HW.out.1 hlt)
        have HEB := Lib.hid (getL_elem P.out.hw HX.out.2.1 HW.out.2 hlt)
        have HOL := Lib.hid (over_len HFL.out HX.out.1 (Nat.le_of_lt hlt))
        have HPUT := Lib.hid (over_put (X := X) HFL.out hlt)
        have HF : Hid (plusL k p (getL wd X j) (getL wd Y j) = joinF k p wd X Y false j) := Lib.hid (by unfold joinF; rfl)
        have HLJ := Lib.hid (HFL.out j hlt)
        clear hjj
        go_wp2_with fail
        refine HPR.out.mono ?_
        rintro e w4 ⟨rfl, rfl⟩
        go_wp2
        have R5 := Lib.hid HR.out.drew
        clear s0 s1 s2 HR HPR
        obtain ⟨⟨r0, r1, r2⟩, -⟩ := R5.out.at (r := w.heap.size) (a := .int .i64 k) (b := .int .i64 p) (c := .int .i64 q) (by rw [← HBS.out]; simp)
        obtain ⟨⟨s0, s1, s2⟩, -⟩ := R5.out.at (r := w.heap.size + 1) (a := (.slice al m cl)) (b := (.slice ad m cd)) (c := (.slice ax mx cx)) (by rw [← HBS.out]; simp)
        obtain ⟨⟨b0, b1, b2⟩, -⟩ := R5.out.at (r := w.heap.size + 1 + 1) (a := (.slice bl n1 kl)) (b := (.slice bd n2 kd)) (c := (.slice bx mx kx)) (by rw [← HBS.out]; simp)
        obtain ⟨⟨o0, o1, o2⟩, -⟩ := R5.out.at (r := w2.heap.size) (a := (.slice a1 m c1)) (b := (.slice a2 m c2)) (c := (.slice a3 mx c3)) (by rw [← HBS.out]; simp)
        have TK1 : True := trivial
        refine wp_region_held_drew (S := (fun w' => (w'.cell? ⟨w.heap.size, 0, none⟩ = some (.int .i64 k) ∧ w'.cell? ⟨w.heap.size, 1, none⟩ = some (.int .i64 p) ∧ w'.cell? ⟨w.heap.size, 2, none⟩ = some (.int .i64 q)) ∧ (w'.cell? ⟨w.heap.size + 1, 0, none⟩ = some (.slice al m cl) ∧ w'.cell? ⟨w.heap.size + 1, 1, none⟩ = some (.slice ad m cd) ∧ w'.cell? ⟨w.heap.size + 1, 2, none⟩ = some (.slice ax mx cx)) ∧ (w'.cell? ⟨w.heap.size + 1 + 1, 0, none⟩ = some (.slice bl n1 kl) ∧ w'.cell? ⟨w.heap.size + 1 + 1, 1, none⟩ = some (.slice bd n2 kd) ∧ w'.cell? ⟨w.heap.size + 1 + 1, 2, none⟩ = some (.slice bx mx kx)) ∧ (w'.cell? ⟨w2.heap.size, 0, none⟩ = some (.slice a1 m c1) ∧ w'.cell? ⟨w2.heap.size, 1, none⟩ = some (.slice a2 m c2) ∧ w'.cell? ⟨w2.heap.size, 2, none⟩ = some (.slice a3 mx c3)))) (by kernel_rfl) (by (try dsimp only); with_reducible exact ⟨⟨r0, r1, r2⟩, ⟨s0, s1, s2⟩, ⟨b0, b1, b2⟩, ⟨o0, o1, o2⟩⟩) (fun hHeld => ?_)
        refine wpAnyH_take (i := 0) (v := ?_) rfl (by kernel_rfl) (by kernel_rfl) (by kernel_rfl) (fun _ _ _ h => h) (Or.inl ⟨by rfl, ?_⟩) (by assumption) ?_
        rotate_left
        · intro w hSw; (try dsimp only at hSw); go_simp <;> with_reducible rfl
        try simp only [Act.put, List.getElem_toArray, List.getElem_cons_zero, List.setIfInBounds_toArray, List.set_cons_zero, List.set_cons_succ]
        refine wpAnyH_take (i := 1) (v := ?_) rfl (by kernel_rfl) (by kernel_rfl) (by kernel_rfl) (fun _ _ _ h => h) (Or.inl ⟨by rfl, ?_⟩) (by assumption) ?_
        rotate_left
        · intro w hSw; (try dsimp only at hSw); go_simp <;> with_reducible rfl
        try simp only [Act.put, List.getElem_toArray, List.getElem_cons_succ, List.getElem_cons_zero, List.setIfInBounds_toArray, List.set_cons_zero, List.set_cons_succ]
        refine wpAnyH_take (i := 2) (v := ?_) rfl (by kernel_rfl) (by kernel_rfl) (by kernel_rfl) (fun _ _ _ h => h) (Or.inl ⟨by rfl, ?_⟩) (by assumption) ?_
        rotate_left
        · intro w hSw; (try dsimp only at hSw); go_simp <;> with_reducible rfl
        try simp only [Act.put, List.getElem_toArray, List.getElem_cons_succ, List.getElem_cons_zero, List.setIfInBounds_toArray, List.set_cons_zero, List.set_cons_succ]
        refine wpAnyH_take (i := 3) (v := ?_) rfl (by kernel_rfl) (by kernel_rfl) (by kernel_rfl) (fun _ _ _ h => h) (Or.inl ⟨by rfl, ?_⟩) (by assumption) ?_
        rotate_left
        · intro w hSw; (try dsimp only at hSw); go_simp <;> with_reducible rfl
        try simp only [Act.put, List.getElem_toArray, List.getElem_cons_succ, List.getElem_cons_zero, List.setIfInBounds_toArray, List.set_cons_zero, List.set_cons_succ]
        refine wpAnyH_take (i := 4) (v := ?_) rfl (by kernel_rfl) (by kernel_rfl) (by kernel_rfl) (fun _ _ _ h => h) (Or.inl ⟨by rfl, ?_⟩) (by assumption) ?_
        rotate_left
        · intro w hSw; (try dsimp only at hSw); go_simp <;> with_reducible rfl
        try simp only [Act.put, List.getElem_toArray, List.getElem_cons_succ, List.getElem_cons_zero, List.setIfInBounds_toArray, List.set_cons_zero, List.set_cons_succ]
        refine wpAnyH_take (i := 5) (v := ?_) rfl (by kernel_rfl) (by kernel_rfl) (by kernel_rfl) (fun _ _ _ h => h) (Or.inl ⟨by rfl, ?_⟩) (by assumption) ?_
        rotate_left
        · intro w hSw; (try dsimp only at hSw); go_simp <;> with_reducible rfl
        try simp only [Act.put, List.getElem_toArray, List.getElem_cons_succ, List.getElem_cons_zero, List.setIfInBounds_toArray, List.set_cons_zero, List.set_cons_succ]
        refine wpAnyH_take (i := 6) (v := ?_) rfl (by kernel_rfl) (by kernel_rfl) (by kernel_rfl) (fun _ _ _ h => h) (Or.inl ⟨by rfl, ?_⟩) (by assumption) ?_
        rotate_left
        · intro w hSw; (try dsimp only at hSw); go_simp <;> with_reducible rfl
        try simp only [Act.put, List.getElem_toArray, List.getElem_cons_succ, List.getElem_cons_zero, List.setIfInBounds_toArray, List.set_cons_zero, List.set_cons_succ]
        refine wpAnyH_take (i := 8) (v := ?_) rfl (by kernel_rfl) (by kernel_rfl) (by kernel_rfl) (fun _ _ _ h => h) (Or.inl ⟨by rfl, ?_⟩) (by assumption) ?_
        rotate_left
        · intro w hSw; (try dsimp only at hSw); go_simp <;> with_reducible rfl
        try simp only [Act.put, List.getElem_toArray, List.getElem_cons_succ, List.getElem_cons_zero, List.setIfInBounds_toArray, List.set_cons_zero, List.set_cons_succ]
        refine wpAnyH_take (i := 9) (v := ?_) rfl (by kernel_rfl) (by kernel_rfl) (by kernel_rfl) (fun _ _ _ h => h) (Or.inl ⟨by rfl, ?_⟩) (by assumption) ?_
        rotate_left
        · intro w hSw; (try dsimp only at hSw); go_simp <;> with_reducible rfl
        try simp only [Act.put, List.getElem_toArray, List.getElem_cons_succ, List.getElem_cons_zero, List.setIfInBounds_toArray, List.set_cons_zero, List.set_cons_succ]
        refine wpAnyH_take (i := 10) (v := ?_) rfl (by kernel_rfl) (by kernel_rfl) (by kernel_rfl) (fun _ _ _ h => h) (Or.inl ⟨by rfl, ?_⟩) (by assumption) ?_
        rotate_left
        · intro w hSw; (try dsimp only at hSw); go_simp <;> with_reducible rfl
        try simp only [Act.put, List.getElem_toArray, List.getElem_cons_succ, List.getElem_cons_zero, List.setIfInBounds_toArray, List.set_cons_zero, List.set_cons_succ]
        refine wpAnyH_ready (rs := [7]) (by kernel_rfl) (by simp) ?_
        refine AllReadyH.cons rfl (fun K hK => ?_) AllReadyH.nil
        go_simp
        (go_at_call 67; first | (have _t := TK1; refine (get_spec wd j (HT.out.below R5.out.bel HB.out) (Nat.le_trans HB.out R5.out.bel.size) P.out.hw P.out.w6.1 P.out.w6.2 (by omega) (by rw [HX.out.1]; exact HJ.out) (by rw [HX.out.1, ← HX.out.2.2.1]; have := HX.out.2.2.2; omega)).mono ?_; rintro e w5 ⟨va, rfl, ho, hb⟩; have R6 := Lib.hid (R5.out.new hb ho); obtain ⟨ga, ja, rfl, -⟩ := ints_form ho.rd; clear hb ho _t TK1; clear r0 r1 r2 s0 s1 s2 b0 b1 b2 o0 o1 o2; obtain ⟨⟨r0, r1, r2⟩, -⟩ := R6.out.at (r := w.heap.size) (a := .int .i64 k) (b := .int .i64 p) (c := .int .i64 q) (by rw [← HBS.out]; simp); obtain ⟨⟨s0, s1, s2⟩, -⟩ := R6.out.at (r := w.heap.size + 1) (a := (.slice al m cl)) (b := (.slice ad m cd)) (c := (.slice ax mx cx)) (by rw [← HBS.out]; simp); obtain ⟨⟨b0, b1, b2⟩, -⟩ := R6.out.at (r := w.heap.size + 1 + 1) (a := (.slice bl n1 kl)) (b := (.slice bd n2 kd)) (c := (.slice bx mx kx)) (by rw [← HBS.out]; simp); obtain ⟨⟨o0, o1, o2⟩, -⟩ := R6.out.at (r := w2.heap.size) (a := (.slice a1 m c1)) (b := (.slice a2 m c2)) (c := (.slice a3 mx c3)) (by rw [← HBS.out]; simp)) | (refine (get_spec wd j (HU.out.below R6.out.bel HB.out) (Nat.le_trans HB.out R6.out.bel.size) P.out.hw P.out.w6.1 P.out.w6.2 (by omega) (by rw [HX.out.2.1]; exact HJ.out) (by rw [HX.out.2.1, ← HX.out.2.2.1]; have := HX.out.2.2.2; omega)).mono ?_; rintro e w6 ⟨vb, rfl, ho, hb⟩; have R7 := Lib.hid (R6.out.new hb ho); obtain ⟨gb, jb, rfl, -⟩ := ints_form ho.rd; clear hb ho; clear r0 r1 r2 s0 s1 s2 b0 b1 b2 o0 o1 o2; obtain ⟨⟨r0, r1, r2⟩, -⟩ := R7.out.at (r := w.heap.size) (a := .int .i64 k) (b := .int .i64 p) (c := .int .i64 q) (by rw [← HBS.out]; simp); obtain ⟨⟨s0, s1, s2⟩, -⟩ := R7.out.at (r := w.heap.size + 1) (a := (.slice al m cl)) (b := (.slice ad m cd)) (c := (.slice ax mx cx)) (by rw [← HBS.out]; simp); obtain ⟨⟨b0, b1, b2⟩, -⟩ := R7.out.at (r := w.heap.size + 1 + 1) (a := (.slice bl n1 kl)) (b := (.slice bd n2 kd)) (c := (.slice bx mx kx)) (by rw [← HBS.out]; simp); obtain ⟨⟨o0, o1, o2⟩, -⟩ := R7.out.at (r := w2.heap.size) (a := (.slice a1 m c1)) (b := (.slice a2 m c2)) (c := (.slice a3 mx c3)) (by rw [← HBS.out]; simp)))
        go_wp2_with fail
        refine hK.out _ _ (by (try dsimp only); with_reducible exact ⟨⟨r0, r1, r2⟩, ⟨s0, s1, s2⟩, ⟨b0, b1, b2⟩, ⟨o0, o1, o2⟩⟩) (fun hHeld => ?_)
        clear hK K
        try simp only [Act.put, List.getElem_toArray, List.getElem_cons_succ, List.getElem_cons_zero, List.setIfInBounds_toArray, List.set_cons_zero, List.set_cons_succ]
        refine wpAnyH_ready (rs := [11]) (by kernel_rfl) (by simp) ?_
        refine AllReadyH.cons rfl (fun K hK => ?_) AllReadyH.nil
        go_simp
        (go_at_call 67; first | (have _t := TK1; refine (get_spec wd j (HT.out.below R5.out.bel HB.out) (Nat.le_trans HB.out R5.out.bel.size) P.out.hw P.out.w6.1 P.out.w6.2 (by omega) (by rw [HX.out.1]; exact HJ.out) (by rw [HX.out.1, ← HX.out.2.2.1]; have := HX.out.2.2.2; omega)).mono ?_; rintro e w5 ⟨va, rfl, ho, hb⟩; have R6 := Lib.hid (R5.out.new hb ho); obtain ⟨ga, ja, rfl, -⟩ := ints_form ho.rd; clear hb ho _t TK1; clear r0 r1 r2 s0 s1 s2 b0 b1 b2 o0 o1 o2; obtain ⟨⟨r0, r1, r2⟩, -⟩ := R6.out.at (r := w.heap.size) (a := .int .i64 k) (b := .int .i64 p) (c := .int .i64 q) (by rw [← HBS.out]; simp); obtain ⟨⟨s0, s1, s2⟩, -⟩ := R6.out.at (r := w.heap.size + 1) (a := (.slice al m cl)) (b := (.slice ad m cd)) (c := (.slice ax mx cx)) (by rw [← HBS.out]; simp); obtain ⟨⟨b0, b1, b2⟩, -⟩ := R6.out.at (r := w.heap.size + 1 + 1) (a := (.slice bl n1 kl)) (b := (.slice bd n2 kd)) (c := (.slice bx mx kx)) (by rw [← HBS.out]; simp); obtain ⟨⟨o0, o1, o2⟩, -⟩ := R6.out.at (r := w2.heap.size) (a := (.slice a1 m c1)) (b := (.slice a2 m c2)) (c := (.slice a3 mx c3)) (by rw [← HBS.out]; simp)) | (refine (get_spec wd j (HU.out.below R6.out.bel HB.out) (Nat.le_trans HB.out R6.out.bel.size) P.out.hw P.out.w6.1 P.out.w6.2 (by omega) (by rw [HX.out.2.1]; exact HJ.out) (by rw [HX.out.2.1, ← HX.out.2.2.1]; have := HX.out.2.2.2; omega)).mono ?_; rintro e w6 ⟨vb, rfl, ho, hb⟩; have R7 := Lib.hid (R6.out.new hb ho); obtain ⟨gb, jb, rfl, -⟩ := ints_form ho.rd; clear hb ho; clear r0 r1 r2 s0 s1 s2 b0 b1 b2 o0 o1 o2; obtain ⟨⟨r0, r1, r2⟩, -⟩ := R7.out.at (r := w.heap.size) (a := .int .i64 k) (b := .int .i64 p) (c := .int .i64 q) (by rw [← HBS.out]; simp); obtain ⟨⟨s0, s1, s2⟩, -⟩ := R7.out.at (r := w.heap.size + 1) (a := (.slice al m cl)) (b := (.slice ad m cd)) (c := (.slice ax mx cx)) (by rw [← HBS.out]; simp); obtain ⟨⟨b0, b1, b2⟩, -⟩ := R7.out.at (r := w.heap.size + 1 + 1) (a := (.slice bl n1 kl)) (b := (.slice bd n2 kd)) (c := (.slice bx mx kx)) (by rw [← HBS.out]; simp); obtain ⟨⟨o0, o1, o2⟩, -⟩ := R7.out.at (r := w2.heap.size) (a := (.slice a1 m c1)) (b := (.slice a2 m c2)) (c := (.slice a3 mx c3)) (by rw [← HBS.out]; simp)))
        go_wp2_with fail
        refine hK.out _ _ (by (try dsimp only); with_reducible exact ⟨⟨r0, r1, r2⟩, ⟨s0, s1, s2⟩, ⟨b0, b1, b2⟩, ⟨o0, o1, o2⟩⟩) (fun hHeld => ?_)
        clear hK K
        try simp only [Act.put, List.getElem_toArray, List.getElem_cons_succ, List.getElem_cons_zero, List.setIfInBounds_toArray, List.set_cons_zero, List.set_cons_succ]
        refine wpAnyH_ready (rs := [12]) (by kernel_rfl) (by simp) ?_
        refine AllReadyH.cons rfl (fun K hK => ?_) AllReadyH.nil
        go_simp
        (go_at_call 137; refine (plus_spec P.out.rg (R7.out.rd (v := .slice ga (getL wd X j).length ja) (xs := getL wd X j) (by simp)) (R7.out.rd (v := .slice gb (getL wd Y j).length jb) (xs := getL wd Y j) (by simp)) (Nat.le_refl _) HEA.out HEB.out).mono ?_; rw [HF.out]; rintro e w7 ⟨vc, rfl, ho, hb⟩; have R8 := Lib.hid (R7.out.new hb ho); obtain ⟨gc, jc, rfl, -⟩ := ints_form ho.rd; have HNE := Lib.hid (fun g (hg : (Value.slice gc (joinF k p wd X Y false j).length jc).ownBlock = some g) => (List.pairwise_cons.1 R8.out.apart).1 (.slice a3 mx c3, overL (joinF k p wd X Y false) X wd j) (by simp) g hg); clear hb ho; clear r0 r1 r2 s0 s1 s2 b0 b1 b2 o0 o1 o2; obtain ⟨⟨r0, r1, r2⟩, -⟩ := R8.out.at (r := w.heap.size) (a := .int .i64 k) (b := .int .i64 p) (c := .int .i64 q) (by rw [← HBS.out]; simp); obtain ⟨⟨s0, s1, s2⟩, -⟩ := R8.out.at (r := w.heap.size + 1) (a := (.slice al m cl)) (b := (.slice ad m cd)) (c := (.slice ax mx cx)) (by rw [← HBS.out]; simp); obtain ⟨⟨b0, b1, b2⟩, -⟩ := R8.out.at (r := w.heap.size + 1 + 1) (a := (.slice bl n1 kl)) (b := (.slice bd n2 kd)) (c := (.slice bx mx kx)) (by rw [← HBS.out]; simp); obtain ⟨⟨o0, o1, o2⟩, -⟩ := R8.out.at (r := w2.heap.size) (a := (.slice a1 m c1)) (b := (.slice a2 m c2)) (c := (.slice a3 mx c3)) (by rw [← HBS.out]; simp))
        go_wp2_with fail
        refine hK.out _ _ (by (try dsimp only); with_reducible exact ⟨⟨r0, r1, r2⟩, ⟨s0, s1, s2⟩, ⟨b0, b1, b2⟩, ⟨o0, o1, o2⟩⟩) (fun hHeld => ?_)
        clear hK K
        try simp only [Act.put, List.getElem_toArray, List.getElem_cons_succ, List.getElem_cons_zero, List.setIfInBounds_toArray, List.set_cons_zero, List.set_cons_succ]
        refine wpAnyH_ready (rs := [13]) (by kernel_rfl) (by simp) ?_
        refine AllReadyH.cons rfl (fun K hK => ?_) AllReadyH.nil
        go_simp
        (go_at_call 135; refine (put_any wd j m c1 m c2 a1 a2 rfl rfl (R8.out.own1 (v := .slice a3 mx c3) (xs := overL (joinF k p wd X Y false) X wd j) (by simp)) (R8.out.rd (v := .slice gc (joinF k p wd X Y false j).length jc) (xs := joinF k p wd X Y false j) (by simp)) (Nat.le_refl _) HNE.out P.out.hw P.out.w6.1 P.out.w6.2 HLJ.out (by omega) (by rw [HOL.out]; exact HJ.out) (by rw [HOL.out, ← HX.out.2.2.1]; have := HX.out.2.2.2; omega)).mono ?_; rw [HPUT.out]; rintro e w8 ⟨rfl, ho, hg⟩; have R9 := Lib.hid (((R8.out.sub (rows' := [(.slice a3 mx c3, overL (joinF k p wd X Y false) X wd j), (.slice a1 m c1, L), (.slice a2 m c2, D)]) (List.Sublist.cons _ (List.Sublist.cons _ (List.Sublist.cons _ (List.Sublist.refl _)))))).rewrite ho.1 hg); clear ho hg; clear r0 r1 r2 s0 s1 s2 b0 b1 b2 o0 o1 o2; obtain ⟨⟨r0, r1, r2⟩, -⟩ := R9.out.at (r := w.heap.size) (a := .int .i64 k) (b := .int .i64 p) (c := .int .i64 q) (by rw [← HBS.out]; simp); obtain ⟨⟨s0, s1, s2⟩, -⟩ := R9.out.at (r := w.heap.size + 1) (a := (.slice al m cl)) (b := (.slice ad m cd)) (c := (.slice ax mx cx)) (by rw [← HBS.out]; simp); obtain ⟨⟨b0, b1, b2⟩, -⟩ := R9.out.at (r := w.heap.size + 1 + 1) (a := (.slice bl n1 kl)) (b := (.slice bd n2 kd)) (c := (.slice bx mx kx)) (by rw [← HBS.out]; simp); obtain ⟨⟨o0, o1, o2⟩, -⟩ := R9.out.at (r := w2.heap.size) (a := (.slice a1 m c1)) (b := (.slice a2 m c2)) (c := (.slice a3 mx c3)) (by rw [← HBS.out]; simp))
        go_wp2_with fail
        refine hK.out _ _ (by (try dsimp only); with_reducible exact ⟨⟨r0, r1, r2⟩, ⟨s0, s1, s2⟩, ⟨b0, b1, b2⟩, ⟨o0, o1, o2⟩⟩) (fun hHeld => ?_)
        clear hK K
        try simp only [Act.put, List.getElem_toArray, List.getElem_cons_succ, List.getElem_cons_zero, List.setIfInBounds_toArray, List.set_cons_zero, List.set_cons_succ]
        refine wpAnyH_done (by kernel_rfl) ?_ _
        all_goals
          go_wp2
          go_roundw
          case rel => exact ⟨j + 1, by omega, by go_num, R9⟩
          case measure => simp [intOf]; omega
      · obtain rfl : j = N := by omega
        have hnlt : ¬ (j : Int) < (j : Int) := by omega
        obtain ⟨⟨o0, o1, o2⟩, -⟩ := HR.out.at (r := w2.heap.size) (a := .slice a1 m c1) (b := .slice a2 m c2) (c := .slice a3 mx c3) (by rw [← HBS.out]; simp)
        obtain ⟨⟨t0, t1, t2⟩, f0, f1, f2⟩ := HR.out.at (r := w.heap.size + 1 + 1 + 1) (a := nilV) (b := nilV) (c := nilV) (by rw [← HBS.out]; simp)
        go_wp2_with fail
        refine HPR.out.mono ?_
        rintro e w4 ⟨rfl, rfl⟩
        go_wp2
        refine bodyPost_ret (v := tenV (.slice a1 m c1) (.slice a2 m c2) (.slice a3 mx c3)) (by simp [results, Try.results97, go_sem, t0, t1, t2]) rfl ?_
        have h := HR.out
        rw [← HBS.out, over_full HX.out.1] at h
        have h2 := (((h.swapB.set3 (.slice a1 m c1) (.slice a2 m c2) (.slice a3 mx c3)).third).third)
        exact ⟨_, _, _, rfl, (h2.perm (rows' := [(.slice a1 m c1, L), (.slice a2 m c2, D), (.slice a3 mx c3, gatherL (joinF k p wd X Y false) j)]) (by first | exact List.Perm.refl _ | (exact List.perm_iff_count.2 (by intro a; simp [List.count_cons]; omega)))).ownG, h2.bel⟩
  | true =>
    go_enter Try.func97, Try.ntmps97
    go_wp2_with fail
    refine (HCP.out _ R0.out.bel).mono ?_
    clear s0 s1 s2
    rintro e w2 ⟨l', d', x', rfl, ho, hb⟩
    have R2 := Lib.hid (R0.out.new3 hb ho)
    obtain ⟨a1, c1, rfl, -⟩ := ints_form ho.rows.1.rd
    obtain ⟨a2, c2, rfl, -⟩ := ints_form ho.rows.2.1.rd
    obtain ⟨a3, c3, rfl, -⟩ := ints_form ho.rows.2.2.rd
    rw [P.out.lL, P.out.lD, HX.out.1, ← HX.out.2.2.1] at R2 ⊢
    clear ho hb
    have R3 := Lib.hid (R2.out.box (.slice a1 m c1) (.slice a2 m c2) (.slice a3 mx c3) 28)
    obtain ⟨bs, hbs⟩ : ∃ b, b = [(w2.heap.size, Value.slice a1 m c1, Value.slice a2 m c2, Value.slice a3 mx c3), (w.heap.size + 1 + 1 + 1, nilV, nilV, nilV), (w.heap.size + 1 + 1, .slice bl n1 kl, .slice bd n2 kd, .slice bx mx kx), (w.heap.size + 1, .slice al m cl, .slice ad m cd, .slice ax mx cx), (w.heap.size, .int .i64 k, .int .i64 p, .int .i64 q)] := ⟨_, rfl⟩
    rw [← hbs] at R3
    have HBS := Lib.hid hbs.symm
    have R4 : Hid (Rs w _ bs [(.slice a3 mx c3, overL (joinF k p wd X Y true) X wd 0), (.slice a1 m c1, L), (.slice a2 m c2, D)]) := Lib.hid (by rw [over_zero]; exact R3.out.third)
    clear R2 R3 hbs
    go_wp2
    go_loopw [10] (fun i wr => ∃ j : Nat, j ≤ N ∧ i = .int .i64 j ∧ Hid (Rs w wr bs [(.slice a3 mx c3, overL (joinF k p wd X Y true) X wd j), (.slice a1 m c1, L), (.slice a2 m c2, D)])) (fun i _ => N - (intOf i).toNat)
    case atStart => exact ⟨0, by omega, rfl, R4⟩
    case round =>
      clear R4
      obtain ⟨j, hj, rfl, HR⟩ := hrel
      have HRd := HR.out.drew
      obtain ⟨⟨s0, s1, s2⟩, -⟩ := HR.out.at (r := w.heap.size + 1) (a := .slice al m cl) (b := .slice ad m cd) (c := .slice ax mx cx) (by rw [← HBS.out]; simp)
      have HPR := Lib.hid (product_spec (HT.out.below HR.out.bel HB.out).d (by rw [P.out.lD]; omega) P.out.dD)
      rw [HCAP.out] at HPR
      by_cases hlt : j < N
      · have hjj := Nat.mul_le_mul_right wd (show j + 1 ≤ N by omega)
        rw [Nat.add_mul, Nat.one_mul] at hjj
        have HJ := Lib.hid hjj
        have HEA := Lib.hid (getL_elem P.out.hw HX.out.1 HW.out.1 hlt)
        have HEB := Lib.hid (getL_elem P.out.hw HX.out.2.1 HW.out.2 hlt)
        have HOL := Lib.hid (over_len HFL.out HX.out.1 (Nat.le_of_lt hlt))
        have HPUT := Lib.hid (over_put (X := X) HFL.out hlt)
        have HF : Hid (timesL k p (getL wd X j) (getL wd Y j) = joinF k p wd X Y true j) := Lib.hid (by unfold joinF; rfl)
        have HLJ := Lib.hid (HFL.out j hlt)
        clear hjj
        go_wp2_with fail
        refine HPR.out.mono ?_
        rintro e w4 ⟨rfl, rfl⟩
        go_wp2
        have R5 := Lib.hid HR.out.drew
        clear s0 s1 s2 HR HPR
        obtain ⟨⟨r0, r1, r2⟩, -⟩ := R5.out.at (r := w.heap.size) (a := .int .i64 k) (b := .int .i64 p) (c := .int .i64 q) (by rw [← HBS.out]; simp)
        obtain ⟨⟨s0, s1, s2⟩, -⟩ := R5.out.at (r := w.heap.size + 1) (a := (.slice al m cl)) (b := (.slice ad m cd)) (c := (.slice ax mx cx)) (by rw [← HBS.out]; simp)
        obtain ⟨⟨b0, b1, b2⟩, -⟩ := R5.out.at (r := w.heap.size + 1 + 1) (a := (.slice bl n1 kl)) (b := (.slice bd n2 kd)) (c := (.slice bx mx kx)) (by rw [← HBS.out]; simp)
        obtain ⟨⟨o0, o1, o2⟩, -⟩ := R5.out.at (r := w2.heap.size) (a := (.slice a1 m c1)) (b := (.slice a2 m c2)) (c := (.slice a3 mx c3)) (by rw [← HBS.out]; simp)
        have TK1 : True := trivial
        refine wp_region_held_drew (S := (fun w' => (w'.cell? ⟨w.heap.size, 0, none⟩ = some (.int .i64 k) ∧ w'.cell? ⟨w.heap.size, 1, none⟩ = some (.int .i64 p) ∧ w'.cell? ⟨w.heap.size, 2, none⟩ = some (.int .i64 q)) ∧ (w'.cell? ⟨w.heap.size + 1, 0, none⟩ = some (.slice al m cl) ∧ w'.cell? ⟨w.heap.size + 1, 1, none⟩ = some (.slice ad m cd) ∧ w'.cell? ⟨w.heap.size + 1, 2, none⟩ = some (.slice ax mx cx)) ∧ (w'.cell? ⟨w.heap.size + 1 + 1, 0, none⟩ = some (.slice bl n1 kl) ∧ w'.cell? ⟨w.heap.size + 1 + 1, 1, none⟩ = some (.slice bd n2 kd) ∧ w'.cell? ⟨w.heap.size + 1 + 1, 2, none⟩ = some (.slice bx mx kx)) ∧ (w'.cell? ⟨w2.heap.size, 0, none⟩ = some (.slice a1 m c1) ∧ w'.cell? ⟨w2.heap.size, 1, none⟩ = some (.slice a2 m c2) ∧ w'.cell? ⟨w2.heap.size, 2, none⟩ = some (.slice a3 mx c3)))) (by kernel_rfl) (by (try dsimp only); with_reducible exact ⟨⟨r0, r1, r2⟩, ⟨s0, s1, s2⟩, ⟨b0, b1, b2⟩, ⟨o0, o1, o2⟩⟩) (fun hHeld => ?_)
        refine wpAnyH_take (i := 0) (v := ?_) rfl (by kernel_rfl) (by kernel_rfl) (by kernel_rfl) (fun _ _ _ h => h) (Or.inl ⟨by rfl, ?_⟩) (by assumption) ?_
        rotate_left
        · intro w hSw; (try dsimp only at hSw); go_simp <;> with_reducible rfl
        try simp only [Act.put, List.getElem_toArray, List.getElem_cons_zero, List.setIfInBounds_toArray, List.set_cons_zero, List.set_cons_succ]
        refine wpAnyH_take (i := 1) (v := ?_) rfl (by kernel_rfl) (by kernel_rfl) (by kernel_rfl) (fun _ _ _ h => h) (Or.inl ⟨by rfl, ?_⟩) (by assumption) ?_
        rotate_left
        · intro w hSw; (try dsimp only at hSw); go_simp <;> with_reducible rfl
        try simp only [Act.put, List.getElem_toArray, List.getElem_cons_succ, List.getElem_cons_zero, List.setIfInBounds_toArray, List.set_cons_zero, List.set_cons_succ]
        refine wpAnyH_take (i := 2) (v := ?_) rfl (by kernel_rfl) (by kernel_rfl) (by kernel_rfl) (fun _ _ _ h => h) (Or.inl ⟨by rfl, ?_⟩) (by assumption) ?_
        rotate_left
        · intro w hSw; (try dsimp only at hSw); go_simp <;> with_reducible rfl
        try simp only [Act.put, List.getElem_toArray, List.getElem_cons_succ, List.getElem_cons_zero, List.setIfInBounds_toArray, List.set_cons_zero, List.set_cons_succ]
        refine wpAnyH_take (i := 3) (v := ?_) rfl (by kernel_rfl) (by kernel_rfl) (by kernel_rfl) (fun _ _ _ h => h) (Or.inl ⟨by rfl, ?_⟩) (by assumption) ?_
        rotate_left
        · intro w hSw; (try dsimp only at hSw); go_simp <;> with_reducible rfl
        try simp only [Act.put, List.getElem_toArray, List.getElem_cons_succ, List.getElem_cons_zero, List.setIfInBounds_toArray, List.set_cons_zero, List.set_cons_succ]
        refine wpAnyH_take (i := 4) (v := ?_) rfl (by kernel_rfl) (by kernel_rfl) (by kernel_rfl) (fun _ _ _ h => h) (Or.inl ⟨by rfl, ?_⟩) (by assumption) ?_
        rotate_left
        · intro w hSw; (try dsimp only at hSw); go_simp <;> with_reducible rfl
        try simp only [Act.put, List.getElem_toArray, List.getElem_cons_succ, List.getElem_cons_zero, List.setIfInBounds_toArray, List.set_cons_zero, List.set_cons_succ]
        refine wpAnyH_take (i := 5) (v := ?_) rfl (by kernel_rfl) (by kernel_rfl) (by kernel_rfl) (fun _ _ _ h => h) (Or.inl ⟨by rfl, ?_⟩) (by assumption) ?_
        rotate_left
        · intro w hSw; (try dsimp only at hSw); go_simp <;> with_reducible rfl
        try simp only [Act.put, List.getElem_toArray, List.getElem_cons_succ, List.getElem_cons_zero, List.setIfInBounds_toArray, List.set_cons_zero, List.set_cons_succ]
        refine wpAnyH_take (i := 6) (v := ?_) rfl (by kernel_rfl) (by kernel_rfl) (by kernel_rfl) (fun _ _ _ h => h) (Or.inl ⟨by rfl, ?_⟩) (by assumption) ?_
        rotate_left
        · intro w hSw; (try dsimp only at hSw); go_simp <;> with_reducible rfl
        try simp only [Act.put, List.getElem_toArray, List.getElem_cons_succ, List.getElem_cons_zero, List.setIfInBounds_toArray, List.set_cons_zero, List.set_cons_succ]
        refine wpAnyH_take (i := 8) (v := ?_) rfl (by kernel_rfl) (by kernel_rfl) (by kernel_rfl) (fun _ _ _ h => h) (Or.inl ⟨by rfl, ?_⟩) (by assumption) ?_
        rotate_left
        · intro w hSw; (try dsimp only at hSw); go_simp <;> with_reducible rfl
        try simp only [Act.put, List.getElem_toArray, List.getElem_cons_succ, List.getElem_cons_zero, List.setIfInBounds_toArray, List.set_cons_zero, List.set_cons_succ]
        refine wpAnyH_take (i := 9) (v := ?_) rfl (by kernel_rfl) (by kernel_rfl) (by kernel_rfl) (fun _ _ _ h => h) (Or.inl ⟨by rfl, ?_⟩) (by assumption) ?_
        rotate_left
        · intro w hSw; (try dsimp only at hSw); go_simp <;> with_reducible rfl
        try simp only [Act.put, List.getElem_toArray, List.getElem_cons_succ, List.getElem_cons_zero, List.setIfInBounds_toArray, List.set_cons_zero, List.set_cons_succ]
        refine wpAnyH_take (i := 10) (v := ?_) rfl (by kernel_rfl) (by kernel_rfl) (by kernel_rfl) (fun _ _ _ h => h) (Or.inl ⟨by rfl, ?_⟩) (by assumption) ?_
        rotate_left
        · intro w hSw; (try dsimp only at hSw); go_simp <;> with_reducible rfl
        try simp only [Act.put, List.getElem_toArray, List.getElem_cons_succ, List.getElem_cons_zero, List.setIfInBounds_toArray, List.set_cons_zero, List.set_cons_succ]
        refine wpAnyH_ready (rs := [7]) (by kernel_rfl) (by simp) ?_
        refine AllReadyH.cons rfl (fun K hK => ?_) AllReadyH.nil
        go_simp
        (go_at_call 67; first | (have _t := TK1; refine (get_spec wd j (HT.out.below R5.out.bel HB.out) (Nat.le_trans HB.out R5.out.bel.size) P.out.hw P.out.w6.1 P.out.w6.2 (by omega) (by rw [HX.out.1]; exact HJ.out) (by rw [HX.out.1, ← HX.out.2.2.1]; have := HX.out.2.2.2; omega)).mono ?_; rintro e w5 ⟨va, rfl, ho, hb⟩; have R6 := Lib.hid (R5.out.new hb ho); obtain ⟨ga, ja, rfl, -⟩ := ints_form ho.rd; clear hb ho _t TK1; clear r0 r1 r2 s0 s1 s2 b0 b1 b2 o0 o1 o2; obtain ⟨⟨r0, r1, r2⟩, -⟩ := R6.out.at (r := w.heap.size) (a := .int .i64 k) (b := .int .i64 p) (c := .int .i64 q) (by rw [← HBS.out]; simp); obtain ⟨⟨s0, s1, s2⟩, -⟩ := R6.out.at (r := w.heap.size + 1) (a := (.slice al m cl)) (b := (.slice ad m cd)) (c := (.slice ax mx cx)) (by rw [← HBS.out]; simp); obtain ⟨⟨b0, b1, b2⟩, -⟩ := R6.out.at (r := w.heap.size + 1 + 1) (a := (.slice bl n1 kl)) (b := (.slice bd n2 kd)) (c := (.slice bx mx kx)) (by rw [← HBS.out]; simp); obtain ⟨⟨o0, o1, o2⟩, -⟩ := R6.out.at (r := w2.heap.size) (a := (.slice a1 m c1)) (b := (.slice a2 m c2)) (c := (.slice a3 mx c3)) (by rw [← HBS.out]; simp)) | (refine (get_spec wd j (HU.out.below R6.out.bel HB.out) (Nat.le_trans HB.out R6.out.bel.size) P.out.hw P.out.w6.1 P.out.w6.2 (by omega) (by rw [HX.out.2.1]; exact HJ.out) (by rw [HX.out.2.1, ← HX.out.2.2.1]; have := HX.out.2.2.2; omega)).mono ?_; rintro e w6 ⟨vb, rfl, ho, hb⟩; have R7 := Lib.hid (R6.out.new hb ho); obtain ⟨gb, jb, rfl, -⟩ := ints_form ho.rd; clear hb ho; clear r0 r1 r2 s0 s1 s2 b0 b1 b2 o0 o1 o2; obtain ⟨⟨r0, r1, r2⟩, -⟩ := R7.out.at (r := w.heap.size) (a := .int .i64 k) (b := .int .i64 p) (c := .int .i64 q) (by rw [← HBS.out]; simp); obtain ⟨⟨s0, s1, s2⟩, -⟩ := R7.out.at (r := w.heap.size + 1) (a := (.slice al m cl)) (b := (.slice ad m cd)) (c := (.slice ax mx cx)) (by rw [← HBS.out]; simp); obtain ⟨⟨b0, b1, b2⟩, -⟩ := R7.out.at (r := w.heap.size + 1 + 1) (a := (.slice bl n1 kl)) (b := (.slice bd n2 kd)) (c := (.slice bx mx kx)) (by rw [← HBS.out]; simp); obtain ⟨⟨o0, o1, o2⟩, -⟩ := R7.out.at (r := w2.heap.size) (a := (.slice a1 m c1)) (b := (.slice a2 m c2)) (c := (.slice a3 mx c3)) (by rw [← HBS.out]; simp)))
        go_wp2_with fail
        refine hK.out _ _ (by (try dsimp only); with_reducible exact ⟨⟨r0, r1, r2⟩, ⟨s0, s1, s2⟩, ⟨b0, b1, b2⟩, ⟨o0, o1, o2⟩⟩) (fun hHeld => ?_)
        clear hK K
        try simp only [Act.put, List.getElem_toArray, List.getElem_cons_succ, List.getElem_cons_zero, List.setIfInBounds_toArray, List.set_cons_zero, List.set_cons_succ]
        refine wpAnyH_ready (rs := [11]) (by kernel_rfl) (by simp) ?_
        refine AllReadyH.cons rfl (fun K hK => ?_) AllReadyH.nil
        go_simp
        (go_at_call 67; first | (have _t := TK1; refine (get_spec wd j (HT.out.below R5.out.bel HB.out) (Nat.le_trans HB.out R5.out.bel.size) P.out.hw P.out.w6.1 P.out.w6.2 (by omega) (by rw [HX.out.1]; exact HJ.out) (by rw [HX.out.1, ← HX.out.2.2.1]; have := HX.out.2.2.2; omega)).mono ?_; rintro e w5 ⟨va, rfl, ho, hb⟩; have R6 := Lib.hid (R5.out.new hb ho); obtain ⟨ga, ja, rfl, -⟩ := ints_form ho.rd; clear hb ho _t TK1; clear r0 r1 r2 s0 s1 s2 b0 b1 b2 o0 o1 o2; obtain ⟨⟨r0, r1, r2⟩, -⟩ := R6.out.at (r := w.heap.size) (a := .int .i64 k) (b := .int .i64 p) (c := .int .i64 q) (by rw [← HBS.out]; simp); obtain ⟨⟨s0, s1, s2⟩, -⟩ := R6.out.at (r := w.heap.size + 1) (a := (.slice al m cl)) (b := (.slice ad m cd)) (c := (.slice ax mx cx)) (by rw [← HBS.out]; simp); obtain ⟨⟨b0, b1, b2⟩, -⟩ := R6.out.at (r := w.heap.size + 1 + 1) (a := (.slice bl n1 kl)) (b := (.slice bd n2 kd)) (c := (.slice bx mx kx)) (by rw [← HBS.out]; simp); obtain ⟨⟨o0, o1, o2⟩, -⟩ := R6.out.at (r := w2.heap.size) (a := (.slice a1 m c1)) (b := (.slice a2 m c2)) (c := (.slice a3 mx c3)) (by rw [← HBS.out]; simp)) | (refine (get_spec wd j (HU.out.below R6.out.bel HB.out) (Nat.le_trans HB.out R6.out.bel.size) P.out.hw P.out.w6.1 P.out.w6.2 (by omega) (by rw [HX.out.2.1]; exact HJ.out) (by rw [HX.out.2.1, ← HX.out.2.2.1]; have := HX.out.2.2.2; omega)).mono ?_; rintro e w6 ⟨vb, rfl, ho, hb⟩; have R7 := Lib.hid (R6.out.new hb ho); obtain ⟨gb, jb, rfl, -⟩ := ints_form ho.rd; clear hb ho; clear r0 r1 r2 s0 s1 s2 b0 b1 b2 o0 o1 o2; obtain ⟨⟨r0, r1, r2⟩, -⟩ := R7.out.at (r := w.heap.size) (a := .int .i64 k) (b := .int .i64 p) (c := .int .i64 q) (by rw [← HBS.out]; simp); obtain ⟨⟨s0, s1, s2⟩, -⟩ := R7.out.at (r := w.heap.size + 1) (a := (.slice al m cl)) (b := (.slice ad m cd)) (c := (.slice ax mx cx)) (by rw [← HBS.out]; simp); obtain ⟨⟨b0, b1, b2⟩, -⟩ := R7.out.at (r := w.heap.size + 1 + 1) (a := (.slice bl n1 kl)) (b := (.slice bd n2 kd)) (c := (.slice bx mx kx)) (by rw [← HBS.out]; simp); obtain ⟨⟨o0, o1, o2⟩, -⟩ := R7.out.at (r := w2.heap.size) (a := (.slice a1 m c1)) (b := (.slice a2 m c2)) (c := (.slice a3 mx c3)) (by rw [← HBS.out]; simp)))
        go_wp2_with fail
        refine hK.out _ _ (by (try dsimp only); with_reducible exact ⟨⟨r0, r1, r2⟩, ⟨s0, s1, s2⟩, ⟨b0, b1, b2⟩, ⟨o0, o1, o2⟩⟩) (fun hHeld => ?_)
        clear hK K
        try simp only [Act.put, List.getElem_toArray, List.getElem_cons_succ, List.getElem_cons_zero, List.setIfInBounds_toArray, List.set_cons_zero, List.set_cons_succ]
        refine wpAnyH_ready (rs := [12]) (by kernel_rfl) (by simp) ?_
        refine AllReadyH.cons rfl (fun K hK => ?_) AllReadyH.nil
        go_simp
        (go_at_call 136; refine (mul_spec P.out.rg (R7.out.rd (v := .slice ga (getL wd X j).length ja) (xs := getL wd X j) (by simp)) (R7.out.rd (v := .slice gb (getL wd Y j).length jb) (xs := getL wd Y j) (by simp)) (Nat.le_refl _) HEA.out HEB.out).mono ?_; rw [HF.out]; rintro e w7 ⟨vc, rfl, ho, hb⟩; have R8 := Lib.hid (R7.out.new hb ho); obtain ⟨gc, jc, rfl, -⟩ := ints_form ho.rd; have HNE := Lib.hid (fun g (hg : (Value.slice gc (joinF k p wd X Y true j).length jc).ownBlock = some g) => (List.pairwise_cons.1 R8.out.apart).1 (.slice a3 mx c3, overL (joinF k p wd X Y true) X wd j) (by simp) g hg); clear hb ho; clear r0 r1 r2 s0 s1 s2 b0 b1 b2 o0 o1 o2; obtain ⟨⟨r0, r1, r2⟩, -⟩ := R8.out.at (r := w.heap.size) (a := .int .i64 k) (b := .int .i64 p) (c := .int .i64 q) (by rw [← HBS.out]; simp); obtain ⟨⟨s0, s1, s2⟩, -⟩ := R8.out.at (r := w.heap.size + 1) (a := (.slice al m cl)) (b := (.slice ad m cd)) (c := (.slice ax mx cx)) (by rw [← HBS.out]; simp); obtain ⟨⟨b0, b1, b2⟩, -⟩ := R8.out.at (r := w.heap.size + 1 + 1) (a := (.slice bl n1 kl)) (b := (.slice bd n2 kd)) (c := (.slice bx mx kx)) (by rw [← HBS.out]; simp); obtain ⟨⟨o0, o1, o2⟩, -⟩ := R8.out.at (r := w2.heap.size) (a := (.slice a1 m c1)) (b := (.slice a2 m c2)) (c := (.slice a3 mx c3)) (by rw [← HBS.out]; simp))
        go_wp2_with fail
        refine hK.out _ _ (by (try dsimp only); with_reducible exact ⟨⟨r0, r1, r2⟩, ⟨s0, s1, s2⟩, ⟨b0, b1, b2⟩, ⟨o0, o1, o2⟩⟩) (fun hHeld => ?_)
        clear hK K
        try simp only [Act.put, List.getElem_toArray, List.getElem_cons_succ, List.getElem_cons_zero, List.setIfInBounds_toArray, List.set_cons_zero, List.set_cons_succ]
        refine wpAnyH_ready (rs := [13]) (by kernel_rfl) (by simp) ?_
        refine AllReadyH.cons rfl (fun K hK => ?_) AllReadyH.nil
        go_simp
        (go_at_call 135; refine (put_any wd j m c1 m c2 a1 a2 rfl rfl (R8.out.own1 (v := .slice a3 mx c3) (xs := overL (joinF k p wd X Y true) X wd j) (by simp)) (R8.out.rd (v := .slice gc (joinF k p wd X Y true j).length jc) (xs := joinF k p wd X Y true j) (by simp)) (Nat.le_refl _) HNE.out P.out.hw P.out.w6.1 P.out.w6.2 HLJ.out (by omega) (by rw [HOL.out]; exact HJ.out) (by rw [HOL.out, ← HX.out.2.2.1]; have := HX.out.2.2.2; omega)).mono ?_; rw [HPUT.out]; rintro e w8 ⟨rfl, ho, hg⟩; have R9 := Lib.hid (((R8.out.sub (rows' := [(.slice a3 mx c3, overL (joinF k p wd X Y true) X wd j), (.slice a1 m c1, L), (.slice a2 m c2, D)]) (List.Sublist.cons _ (List.Sublist.cons _ (List.Sublist.cons _ (List.Sublist.refl _)))))).rewrite ho.1 hg); clear ho hg; clear r0 r1 r2 s0 s1 s2 b0 b1 b2 o0 o1 o2; obtain ⟨⟨r0, r1, r2⟩, -⟩ := R9.out.at (r := w.heap.size) (a := .int .i64 k) (b := .int .i64 p) (c := .int .i64 q) (by rw [← HBS.out]; simp); obtain ⟨⟨s0, s1, s2⟩, -⟩ := R9.out.at (r := w.heap.size + 1) (a := (.slice al m cl)) (b := (.slice ad m cd)) (c := (.slice ax mx cx)) (by rw [← HBS.out]; simp); obtain ⟨⟨b0, b1, b2⟩, -⟩ := R9.out.at (r := w.heap.size + 1 + 1) (a := (.slice bl n1 kl)) (b := (.slice bd n2 kd)) (c := (.slice bx mx kx)) (by rw [← HBS.out]; simp); obtain ⟨⟨o0, o1, o2⟩, -⟩ := R9.out.at (r := w2.heap.size) (a := (.slice a1 m c1)) (b := (.slice a2 m c2)) (c := (.slice a3 mx c3)) (by rw [← HBS.out]; simp))
        go_wp2_with fail
        refine hK.out _ _ (by (try dsimp only); with_reducible exact ⟨⟨r0, r1, r2⟩, ⟨s0, s1, s2⟩, ⟨b0, b1, b2⟩, ⟨o0, o1, o2⟩⟩) (fun hHeld => ?_)
        clear hK K
        try simp only [Act.put, List.getElem_toArray, List.getElem_cons_succ, List.getElem_cons_zero, List.setIfInBounds_toArray, List.set_cons_zero, List.set_cons_succ]
        refine wpAnyH_done (by kernel_rfl) ?_ _
        all_goals
          go_wp2
          go_roundw
          case rel => exact ⟨j + 1, by omega, by go_num, R9⟩
          case measure => simp [intOf]; omega
      · obtain rfl : j = N := by omega
        have hnlt : ¬ (j : Int) < (j : Int) := by omega
        obtain ⟨⟨o0, o1, o2⟩, -⟩ := HR.out.at (r := w2.heap.size) (a := .slice a1 m c1) (b := .slice a2 m c2) (c := .slice a3 mx c3) (by rw [← HBS.out]; simp)
        obtain ⟨⟨t0, t1, t2⟩, f0, f1, f2⟩ := HR.out.at (r := w.heap.size + 1 + 1 + 1) (a := nilV) (b := nilV) (c := nilV) (by rw [← HBS.out]; simp)
        go_wp2_with fail
        refine HPR.out.mono ?_
        rintro e w4 ⟨rfl, rfl⟩
        go_wp2
        refine bodyPost_ret (v := tenV (.slice a1 m c1) (.slice a2 m c2) (.slice a3 mx c3)) (by simp [results, Try.results97, go_sem, t0, t1, t2]) rfl ?_
        have h := HR.out
        rw [← HBS.out, over_full HX.out.1] at h
        have h2 := (((h.swapB.set3 (.slice a1 m c1) (.slice a2 m c2) (.slice a3 mx c3)).third).third)
        exact ⟨_, _, _, rfl, (h2.perm (rows' := [(.slice a1 m c1, L), (.slice a2 m c2, D), (.slice a3 mx c3, gatherL (joinF k p wd X Y true) j)]) (by first | exact List.Perm.refl _ | (exact List.perm_iff_count.2 (by intro a; simp [List.count_cons]; omega)))).ownG, h2.bel⟩
end Go.Proofs.Ytfdjlahaiogabaa
