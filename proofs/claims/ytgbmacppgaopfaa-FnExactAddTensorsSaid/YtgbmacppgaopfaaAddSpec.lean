
/- spec.l07Join: two tensors with the same axes, element by element. -/
import Derived.Test.YtgbmacppgaopfaaPermSpec
import Derived.Test.YtgbmacppgaopfaaTimesOne
import Derived.Test.YtgbmacppgaopfaaElem
namespace Go.Proofs.Ytgbmacppgaopfaa
set_option maxRecDepth 20000
open Go.RowKit

/-- The sum, or the product, of the elements at an offset. -/
def joinF (k p : Int) (wd : Nat) (X Y : List Int) (pr : Bool) (i : Nat) : List Int := if pr = true then timesL k p (getL wd X i) (getL wd Y i) else plusL k p (getL wd X i) (getL wd Y i)
theorem joinF_elem {k p q : Int} {X Y : List Int} {wd N i : Nat} (hr : ringB k p q = true) (hw : widthI k q = (wd : Int)) (hX : X.length = N * wd) (hY : Y.length = N * wd) (wX : Within (topI k p q) X) (wY : Within (topI k p q) Y) (pr : Bool) (hi : i < N) : ElemV k p q (joinF k p wd X Y pr i) := by
  have h1 := getL_elem hw hX wX hi
  have h2 := getL_elem hw hY wY hi
  unfold joinF
  split
  · exact timesL_elem hr h1 h2
  · exact plusL_elem hr h1 h2
set_option maxHeartbeats 6400000 in
theorem join_full {B : Nat} {k p q : Int} {L D X Y L' D' : List Int} {m mx n1 n2 wd N cl cd cx kl kd kx : Nat} {al ad ax bl bd bx : Option Addr} {w : World} (pr : Bool) (hp : PF k p q L D X L m wd N) (hmx : mx = X.length) (hY : Y.length = X.length) (wX : Within (topI k p q) X) (wY : Within (topI k p q) Y)
    (h : RdT B w (.slice al m cl) (.slice ad m cd) (.slice ax mx cx) L D X) (h' : RdT B w (.slice bl n1 kl) (.slice bd n2 kd) (.slice bx mx kx) L' D' Y) (hB : B ≤ w.heap.size) :
    Calls Try.prog 107 #[ringV k p q, tenV (.slice al m cl) (.slice ad m cd) (.slice ax mx cx), tenV (.slice bl n1 kl) (.slice bd n2 kd) (.slice bx mx kx), .bool pr] w (NewTen w L D (gatherL (joinF k p wd X Y pr) N)) := by
  have P := Lib.hid hp
  have HT := Lib.hid h
  have HU := Lib.hid h'
  have HB := Lib.hid hB
  have HX : Hid (X.length = N * wd ∧ Y.length = N * wd ∧ mx = N * wd ∧ mx ≤ 24576) := by
    show _ ∧ _ ∧ _ ∧ _
    have h1 := hp.lX
    refine ⟨h1, by rw [hY]; exact h1, by rw [hmx]; exact h1, ?_⟩
    rw [hmx, h1]
    exact Nat.le_trans (Nat.mul_le_mul hp.n1.2 hp.w6.2) (by omega)
  have HW := Lib.hid (And.intro wX wY)
  have h12 := hp.m12
  have hn4 := hp.n1.2
  have HFE : Hid (∀ i, i < N → ElemV k p q (joinF k p wd X Y pr i)) := Lib.hid (fun i hi => joinF_elem hp.rg hp.hw HX.out.1 HX.out.2.1 wX wY pr hi)
  have HFL : Hid (∀ i, i < N → (joinF k p wd X Y pr i).length = wd) := Lib.hid (fun i hi => by
    have h1 := (HFE.out i hi).1
    rw [hp.hw] at h1
    omega)
  have HCAP : Hid (capI D = (N : Int)) := Lib.hid (by
    have h3 := (capI_is (fun d hd => (hp.dD d hd).1)).1
    have := hp.n1
    rw [h3, hp.pD]; omega)
  have R0 : Hid (Rs w ((((w.alloc (.cells #[.int .i64 k, .int .i64 p, .int .i64 q] 30)).alloc (.cells #[.slice al m cl, .slice ad m cd, .slice ax mx cx] 49)).alloc (.cells #[.slice bl n1 kl, .slice bd n2 kd, .slice bx mx kx] 49)).alloc (.cells #[nilV, nilV, nilV] 49)) [(w.heap.size + 1 + 1 + 1, nilV, nilV, nilV), (w.heap.size + 1 + 1, .slice bl n1 kl, .slice bd n2 kd, .slice bx mx kx), (w.heap.size + 1, .slice al m cl, .slice ad m cd, .slice ax mx cx), (w.heap.size, .int .i64 k, .int .i64 p, .int .i64 q)] []) := by
    have h := ((((Rs.start w).box (.int .i64 k) (.int .i64 p) (.int .i64 q) 30).box (.slice al m cl) (.slice ad m cd) (.slice ax mx cx) 49).box (.slice bl n1 kl) (.slice bd n2 kd) (.slice bx mx kx) 49).box nilV nilV nilV 49
    simp only [World.size_alloc] at h
    exact h
  have HCP := Lib.hid (fun (w1 : World) (hb : Below w.heap.size w w1) => copy_spec (HT.out.below hb HB.out) (Nat.le_trans HB.out hb.size) (by rw [hp.lL]; omega) (by rw [hp.lD]; omega) (by have := HX.out.2.2.2; omega))
  clear hp hmx hY wX wY h h' hB
  obtain ⟨⟨s0, s1, s2⟩, -⟩ := R0.out.at (r := w.heap.size + 1) (a := .slice al m cl) (b := .slice ad m cd) (c := .slice ax mx cx) (by simp)
  cases pr with
  | false =>
    go_enter Try.func107, Try.ntmps107
    go_wp2_with fail
    refine (HCP.out _ R0.out.bel).mono ?_
    clear s0 s1 s2
    rintro e w2 ⟨l', d', x', rfl, ho, hb⟩
    have R2 := Lib.hid (R0.out.new3 hb ho)
    obtain ⟨a1, c1, rfl, -⟩ := ints_form ho.rows.1.rd
    obtain ⟨a2, c2, rfl, -⟩ := ints_form ho.rows.2.1.rd
    obtain ⟨a3, c3, rfl, -⟩ := ints_form ho.rows.2.2.rd
    rw [P.out.lL, P.out.lD, HX.out.1, ← HX.out.2.2.1] at R2 ⊢
    clear ho hb
    have R3 := Lib.hid (R2.out.box (.slice a1 m c1) (.slice a2 m c2) (.slice a3 mx c3) 49)
    obtain ⟨bs, hbs⟩ : ∃ b, b = [(w2.heap.size, Value.slice a1 m c1, Value.slice a2 m c2, Value.slice a3 mx c3), (w.heap.size + 1 + 1 + 1, nilV, nilV, nilV), (w.heap.size + 1 + 1, .slice bl n1 kl, .slice bd n2 kd, .slice bx mx kx), (w.heap.size + 1, .slice al m cl, .slice ad m cd, .slice ax mx cx), (w.heap.size, .int .i64 k, .int .i64 p, .int .i64 q)] := ⟨_, rfl⟩
    rw [← hbs] at R3
    have HBS := Lib.hid hbs.symm
    have R4 : Hid (Rs w _ bs [(.slice a3 mx c3, overL (joinF k p wd X Y false) X wd 0), (.slice a1 m c1, L), (.slice a2 m c2, D)]) := Lib.hid (by rw [over_zero]; exact R3.out.third)
    clear R2 R3 hbs
    go_wp2
    go_loopw [10] (fun i wr => ∃ j : Nat, j ≤ N ∧ i = .int .i64 j ∧ Hid (Rs w wr bs [(.slice a3 mx c3, overL (joinF k p wd X Y false) X wd j), (.slice a1 m c1, L), (.slice a2 m c2, D)])) (fun i _ => N - (intOf i).toNat)
    case atStart => exact ⟨0, by omega, rfl, R4⟩
    case round =>
      clear R4
      obtain ⟨j, hj, rfl, HR⟩ := hrel
      have HRd := HR.out.drew
      obtain ⟨⟨s0, s1, s2⟩, -⟩ := HR.out.at (r := w.heap.size + 1) (a := .slice al m cl) (b := .slice ad m cd) (c := .slice ax mx cx) (by rw [← HBS.out]; simp)
      have HPR := Lib.hid (product_spec (HT.out.below HR.out.bel HB.out).d (by rw [P.out.lD]; omega) P.out.dD)
      rw [HCAP.out] at HPR
      by_cases hlt : j < N
      · have hjj := Nat.mul_le_mul_right wd (show j + 1 ≤ N by omega)
        rw [Nat.add_mul, Nat.one_mul] at hjj
        have HJ := Lib.hid hjj
        have HEA := Lib.hid (getL_elem P.out.hw HX.out.1 HW.out.1 hlt)
        have HEB := Lib.hid (getL_elem P.out.hw HX.out.2.1 HW.out.2 hlt)
        have HOL := Lib.hid (over_len HFL.out HX.out.1 (Nat.le_of_lt hlt))
        have HPUT := Lib.hid (over_put (X := X) HFL.out hlt)
        have HF : Hid (plusL k p (getL wd X j) (getL wd Y j) = joinF k p wd X Y false j) := Lib.hid (by unfold joinF; rfl)
        have HLJ := Lib.hid (HFL.out j hlt)
        clear hjj
        go_wp2_with fail
        refine HPR.out.mono ?_
        rintro e w4 ⟨rfl, rfl⟩
        go_wp2
        have R5 := Lib.hid HR.out.drew
        clear s0 s1 s2 HR HPR
        obtain ⟨⟨r0, r1, r2⟩, -⟩ := R5.out.at (r := w.heap.size) (a := .int .i64 k) (b := .int .i64 p) (c := .int .i64 q) (by rw [← HBS.out]; simp)
        obtain ⟨⟨s0, s1, s2⟩, -⟩ := R5.out.at (r := w.heap.size + 1) (a := (.slice al m cl)) (b := (.slice ad m cd)) (c := (.slice ax mx cx)) (by rw [← HBS.out]; simp)
        obtain ⟨⟨b0, b1, b2⟩, -⟩ := R5.out.at (r := w.heap.size + 1 + 1) (a := (.slice bl n1 kl)) (b := (.slice bd n2 kd)) (c := (.slice bx mx kx)) (by rw [← HBS.out]; simp)
        obtain ⟨⟨o0, o1, o2⟩, -⟩ := R5.out.at (r := w2.heap.size) (a := (.slice a1 m c1)) (b := (.slice a2 m c2)) (c := (.slice a3 mx c3)) (by rw [← HBS.out]; simp)
        have TK1 : True := trivial
        refine wp_region_held_drew (S := (fun w' => (w'.cell? ⟨w.heap.size, 0, none⟩ = some (.int .i64 k) ∧ w'.cell? ⟨w.heap.size, 1, none⟩ = some (.int .i64 p) ∧ w'.cell? ⟨w.heap.size, 2, none⟩ = some (.int .i64 q)) ∧ (w'.cell? ⟨w.heap.size + 1, 0, none⟩ = some (.slice al m cl) ∧ w'.cell? ⟨w.heap.size + 1, 1, none⟩ = some (.slice ad m cd) ∧ w'.cell? ⟨w.heap.size + 1, 2, none⟩ = some (.slice ax mx cx)) ∧ (w'.cell? ⟨w.heap.size + 1 + 1, 0, none⟩ = some (.slice bl n1 kl) ∧ w'.cell? ⟨w.heap.size + 1 + 1, 1, none⟩ = some (.slice bd n2 kd) ∧ w'.cell? ⟨w.heap.size + 1 + 1, 2, none⟩ = some (.slice bx mx kx)) ∧ (w'.cell? ⟨w2.heap.size, 0, none⟩ = some (.slice a1 m c1) ∧ w'.cell? ⟨w2.heap.size, 1, none⟩ = some (.slice a2 m c2) ∧ w'.cell? ⟨w2.heap.size, 2, none⟩ = some (.slice a3 mx c3)))) (by kernel_rfl) (by (try dsimp only); with_reducible exact ⟨⟨r0, r1, r2⟩, ⟨s0, s1, s2⟩, ⟨b0, b1, b2⟩, ⟨o0, o1, o2⟩⟩) (fun hHeld => ?_)
        refine wpAnyH_take (i := 0) (v := ?_) rfl (by kernel_rfl) (by kernel_rfl) (by kernel_rfl) (fun _ _ _ h => h) (Or.inl ⟨by rfl, ?_⟩) (by assumption) ?_
        rotate_left
        · intro w hSw; (try dsimp only at hSw); go_simp <;> with_reducible rfl
        try simp only [Act.put, List.getElem_toArray, List.getElem_cons_zero, List.setIfInBounds_toArray, List.set_cons_zero, List.set_cons_succ]
        refine wpAnyH_take (i := 1) (v := ?_) rfl (by kernel_rfl) (by kernel_rfl) (by kernel_rfl) (fun _ _ _ h => h) (Or.inl ⟨by rfl, ?_⟩) (by assumption) ?_
        rotate_left
        · intro w hSw; (try dsimp only at hSw); go_simp <;> with_reducible rfl
        try simp only [Act.put, List.getElem_toArray, List.getElem_cons_succ, List.getElem_cons_zero, List.setIfInBounds_toArray, List.set_cons_zero, List.set_cons_succ]
        refine wpAnyH_take (i := 2) (v := ?_) rfl (by kernel_rfl) (by kernel_rfl) (by kernel_rfl) (fun _ _ _ h => h) (Or.inl ⟨by rfl, ?_⟩) (by assumption) ?_
        rotate_left
        · intro w hSw; (try dsimp only at hSw); go_simp <;> with_reducible rfl
        try simp only [Act.put, List.getElem_toArray, List.getElem_cons_succ, List.getElem_cons_zero, List.setIfInBounds_toArray, List.set_cons_zero, List.set_cons_succ]
        refine wpAnyH_take (i := 3) (v := ?_) rfl (by kernel_rfl) (by kernel_rfl) (by kernel_rfl) (fun _ _ _ h => h) (Or.inl ⟨by rfl, ?_⟩) (by assumption) ?_
        rotate_left
        · intro w hSw; (try dsimp only at hSw); go_simp <;> with_reducible rfl
        try simp only [Act.put, List.getElem_toArray, List.getElem_cons_succ, List.getElem_cons_zero, List.setIfInBounds_toArray, List.set_cons_zero, List.set_cons_succ]
        refine wpAnyH_take (i := 4) (v := ?_) rfl (by kernel_rfl) (by kernel_rfl) (by kernel_rfl) (fun _ _ _ h => h) (Or.inl ⟨by rfl, ?_⟩) (by assumption) ?_
        rotate_left
        · intro w hSw; (try dsimp only at hSw); go_simp <;> with_reducible rfl
        try simp only [Act.put, List.getElem_toArray, List.getElem_cons_succ, List.getElem_cons_zero, List.setIfInBounds_toArray, List.set_cons_zero, List.set_cons_succ]
        refine wpAnyH_take (i := 5) (v := ?_) rfl (by kernel_rfl) (by kernel_rfl) (by kernel_rfl) (fun _ _ _ h => h) (Or.inl ⟨by rfl, ?_⟩) (by assumption) ?_
        rotate_left
        · intro w hSw; (try dsimp only at hSw); go_simp <;> with_reducible rfl
        try simp only [Act.put, List.getElem_toArray, List.getElem_cons_succ, List.getElem_cons_zero, List.setIfInBounds_toArray, List.set_cons_zero, List.set_cons_succ]
        refine wpAnyH_take (i := 6) (v := ?_) rfl (by kernel_rfl) (by kernel_rfl) (by kernel_rfl) (fun _ _ _ h => h) (Or.inl ⟨by rfl, ?_⟩) (by assumption) ?_
        rotate_left
        · intro w hSw; (try dsimp only at hSw); go_simp <;> with_reducible rfl
        try simp only [Act.put, List.getElem_toArray, List.getElem_cons_succ, List.getElem_cons_zero, List.setIfInBounds_toArray, List.set_cons_zero, List.set_cons_succ]
        refine wpAnyH_take (i := 8) (v := ?_) rfl (by kernel_rfl) (by kernel_rfl) (by kernel_rfl) (fun _ _ _ h => h) (Or.inl ⟨by rfl, ?_⟩) (by assumption) ?_
        rotate_left
        · intro w hSw; (try dsimp only at hSw); go_simp <;> with_reducible rfl
        try simp only [Act.put, List.getElem_toArray, List.getElem_cons_succ, List.getElem_cons_zero, List.setIfInBounds_toArray, List.set_cons_zero, List.set_cons_succ]
        refine wpAnyH_take (i := 9) (v := ?_) rfl (by kernel_rfl) (by kernel_rfl) (by kernel_rfl) (fun _ _ _ h => h) (Or.inl ⟨by rfl, ?_⟩) (by assumption) ?_
        rotate_left
        · intro w hSw; (try dsimp only at hSw); go_simp <;> with_reducible rfl
        try simp only [Act.put, List.getElem_toArray, List.getElem_cons_succ, List.getElem_cons_zero, List.setIfInBounds_toArray, List.set_cons_zero, List.set_cons_succ]
        refine wpAnyH_take (i := 10) (v := ?_) rfl (by kernel_rfl) (by kernel_rfl) (by kernel_rfl) (fun _ _ _ h => h) (Or.inl ⟨by rfl, ?_⟩) (by assumption) ?_
        rotate_left
        · intro w hSw; (try dsimp only at hSw); go_simp <;> with_reducible rfl
        try simp only [Act.put, List.getElem_toArray, List.getElem_cons_succ, List.getElem_cons_zero, List.setIfInBounds_toArray, List.set_cons_zero, List.set_cons_succ]
        refine wpAnyH_ready (rs := [7]) (by kernel_rfl) (by simp) ?_
        refine AllReadyH.cons rfl (fun K hK => ?_) AllReadyH.nil
        go_simp
        (go_at_call 92; first | (have _t := TK1; refine (get_spec wd j (HT.out.below R5.out.bel HB.out) (Nat.le_trans HB.out R5.out.bel.size) P.out.hw P.out.w6.1 P.out.w6.2 (by omega) (by rw [HX.out.1]; exact HJ.out) (by rw [HX.out.1, ← HX.out.2.2.1]; have := HX.out.2.2.2; omega)).mono ?_; rintro e w5 ⟨va, rfl, ho, hb⟩; have R6 := Lib.hid (R5.out.new hb ho); obtain ⟨ga, ja, rfl, -⟩ := ints_form ho.rd; clear hb ho _t TK1; clear r0 r1 r2 s0 s1 s2 b0 b1 b2 o0 o1 o2; obtain ⟨⟨r0, r1, r2⟩, -⟩ := R6.out.at (r := w.heap.size) (a := .int .i64 k) (b := .int .i64 p) (c := .int .i64 q) (by rw [← HBS.out]; simp); obtain ⟨⟨s0, s1, s2⟩, -⟩ := R6.out.at (r := w.heap.size + 1) (a := (.slice al m cl)) (b := (.slice ad m cd)) (c := (.slice ax mx cx)) (by rw [← HBS.out]; simp); obtain ⟨⟨b0, b1, b2⟩, -⟩ := R6.out.at (r := w.heap.size + 1 + 1) (a := (.slice bl n1 kl)) (b := (.slice bd n2 kd)) (c := (.slice bx mx kx)) (by rw [← HBS.out]; simp); obtain ⟨⟨o0, o1, o2⟩, -⟩ := R6.out.at (r := w2.heap.size) (a := (.slice a1 m c1)) (b := (.slice a2 m c2)) (c := (.slice a3 mx c3)) (by rw [← HBS.out]; simp)) | (refine (get_spec wd j (HU.out.below R6.out.bel HB.out) (Nat.le_trans HB.out R6.out.bel.size) P.out.hw P.out.w6.1 P.out.w6.2 (by omega) (by rw [HX.out.2.1]; exact HJ.out) (by rw [HX.out.2.1, ← HX.out.2.2.1]; have := HX.out.2.2.2; omega)).mono ?_; rintro e w6 ⟨vb, rfl, ho, hb⟩; have R7 := Lib.hid (R6.out.new hb ho); obtain ⟨gb, jb, rfl, -⟩ := ints_form ho.rd; clear hb ho; clear r0 r1 r2 s0 s1 s2 b0 b1 b2 o0 o1 o2; obtain ⟨⟨r0, r1, r2⟩, -⟩ := R7.out.at (r := w.heap.size) (a := .int .i64 k) (b := .int .i64 p) (c := .int .i64 q) (by rw [← HBS.out]; simp); obtain ⟨⟨s0, s1, s2⟩, -⟩ := R7.out.at (r := w.heap.size + 1) (a := (.slice al m cl)) (b := (.slice ad m cd)) (c := (.slice ax mx cx)) (by rw [← HBS.out]; simp); obtain ⟨⟨b0, b1, b2⟩, -⟩ := R7.out.at (r := w.heap.size + 1 + 1) (a := (.slice bl n1 kl)) (b := (.slice bd n2 kd)) (c := (.slice bx mx kx)) (by rw [← HBS.out]; simp); obtain ⟨⟨o0, o1, o2⟩, -⟩ := R7.out.at (r := w2.heap.size) (a := (.slice a1 m c1)) (b := (.slice a2 m c2)) (c := (.slice a3 mx c3)) (by rw [← HBS.out]; simp)))
        go_wp2_with fail
        refine hK.out _ _ (by (try dsimp only); with_reducible exact ⟨⟨r0, r1, r2⟩, ⟨s0, s1, s2⟩, ⟨b0, b1, b2⟩, ⟨o0, o1, o2⟩⟩) (fun hHeld => ?_)
        clear hK K
        try simp only [Act.put, List.getElem_toArray, List.getElem_cons_succ, List.getElem_cons_zero, List.setIfInBounds_toArray, List.set_cons_zero, List.set_cons_succ]
        refine wpAnyH_ready (rs := [11]) (by kernel_rfl) (by simp) ?_
        refine AllReadyH.cons rfl (fun K hK => ?_) AllReadyH.nil
        go_simp
        (go_at_call 92; first | (have _t := TK1; refine (get_spec wd j (HT.out.below R5.out.bel HB.out) (Nat.le_trans HB.out R5.out.bel.size) P.out.hw P.out.w6.1 P.out.w6.2 (by omega) (by rw [HX.out.1]; exact HJ.out) (by rw [HX.out.1, ← HX.out.2.2.1]; have := HX.out.2.2.2; omega)).mono ?_; rintro e w5 ⟨va, rfl, ho, hb⟩; have R6 := Lib.hid (R5.out.new hb ho); obtain ⟨ga, ja, rfl, -⟩ := ints_form ho.rd; clear hb ho _t TK1; clear r0 r1 r2 s0 s1 s2 b0 b1 b2 o0 o1 o2; obtain ⟨⟨r0, r1, r2⟩, -⟩ := R6.out.at (r := w.heap.size) (a := .int .i64 k) (b := .int .i64 p) (c := .int .i64 q) (by rw [← HBS.out]; simp); obtain ⟨⟨s0, s1, s2⟩, -⟩ := R6.out.at (r := w.heap.size + 1) (a := (.slice al m cl)) (b := (.slice ad m cd)) (c := (.slice ax mx cx)) (by rw [← HBS.out]; simp); obtain ⟨⟨b0, b1, b2⟩, -⟩ := R6.out.at (r := w.heap.size + 1 + 1) (a := (.slice bl n1 kl)) (b := (.slice bd n2 kd)) (c := (.slice bx mx kx)) (by rw [← HBS.out]; simp); obtain ⟨⟨o0, o1, o2⟩, -⟩ := R6.out.at (r := w2.heap.size) (a := (.slice a1 m c1)) (b := (.slice a2 m c2)) (c := (.slice a3 mx c3)) (by rw [← HBS.out]; simp)) | (refine (get_spec wd j (HU.out.below R6.out.bel HB.out) (Nat.le_trans HB.out R6.out.bel.size) P.out.hw P.out.w6.1 P.out.w6.2 (by omega) (by rw [HX.out.2.1]; exact HJ.out) (by rw [HX.out.2.1, ← HX.out.2.2.1]; have := HX.out.2.2.2; omega)).mono ?_; rintro e w6 ⟨vb, rfl, ho, hb⟩; have R7 := Lib.hid (R6.out.new hb ho); obtain ⟨gb, jb, rfl, -⟩ := ints_form ho.rd; clear hb ho; clear r0 r1 r2 s0 s1 s2 b0 b1 b2 o0 o1 o2; obtain ⟨⟨r0, r1, r2⟩, -⟩ := R7.out.at (r := w.heap.size) (a := .int .i64 k) (b := .int .i64 p) (c := .int .i64 q) (by rw [← HBS.out]; simp); obtain ⟨⟨s0, s1, s2⟩, -⟩ := R7.out.at (r := w.heap.size + 1) (a := (.slice al m cl)) (b := (.slice ad m cd)) (c := (.slice ax mx cx)) (by rw [← HBS.out]; simp); obtain ⟨⟨b0, b1, b2⟩, -⟩ := R7.out.at (r := w.heap.size + 1 + 1) (a := (.slice bl n1 kl)) (b := (.slice bd n2 kd)) (c := (.slice bx mx kx)) (by rw [← HBS.out]; simp); obtain ⟨⟨o0, o1, o2⟩, -⟩ := R7.out.at (r := w2.heap.size) (a := (.slice a1 m c1)) (b := (.slice a2 m c2)) (c := (.slice a3 mx c3)) (by rw [← HBS.out]; simp)))
        go_wp2_with fail
        refine hK.out _ _ (by (try dsimp only); with_reducible exact ⟨⟨r0, r1, r2⟩, ⟨s0, s1, s2⟩, ⟨b0, b1, b2⟩, ⟨o0, o1, o2⟩⟩) (fun hHeld => ?_)
        clear hK K
        try simp only [Act.put, List.getElem_toArray, List.getElem_cons_succ, List.getElem_cons_zero, List.setIfInBounds_toArray, List.set_cons_zero, List.set_cons_succ]
        refine wpAnyH_ready (rs := [12]) (by kernel_rfl) (by simp) ?_
        refine AllReadyH.cons rfl (fun K hK => ?_) AllReadyH.nil
        go_simp
        (go_at_call 126; refine (plus_spec P.out.rg (R7.out.rd (v := .slice ga (getL wd X j).length ja) (xs := getL wd X j) (by simp)) (R7.out.rd (v := .slice gb (getL wd Y j).length jb) (xs := getL wd Y j) (by simp)) (Nat.le_refl _) HEA.out HEB.out).mono ?_; rw [HF.out]; rintro e w7 ⟨vc, rfl, ho, hb⟩; have R8 := Lib.hid (R7.out.new hb ho); obtain ⟨gc, jc, rfl, -⟩ := ints_form ho.rd; have HNE := Lib.hid (fun g (hg : (Value.slice gc (joinF k p wd X Y false j).length jc).ownBlock = some g) => (List.pairwise_cons.1 R8.out.apart).1 (.slice a3 mx c3, overL (joinF k p wd X Y false) X wd j) (by simp) g hg); clear hb ho; clear r0 r1 r2 s0 s1 s2 b0 b1 b2 o0 o1 o2; obtain ⟨⟨r0, r1, r2⟩, -⟩ := R8.out.at (r := w.heap.size) (a := .int .i64 k) (b := .int .i64 p) (c := .int .i64 q) (by rw [← HBS.out]; simp); obtain ⟨⟨s0, s1, s2⟩, -⟩ := R8.out.at (r := w.heap.size + 1) (a := (.slice al m cl)) (b := (.slice ad m cd)) (c := (.slice ax mx cx)) (by rw [← HBS.out]; simp); obtain ⟨⟨b0, b1, b2⟩, -⟩ := R8.out.at (r := w.heap.size + 1 + 1) (a := (.slice bl n1 kl)) (b := (.slice bd n2 kd)) (c := (.slice bx mx kx)) (by rw [← HBS.out]; simp); obtain ⟨⟨o0, o1, o2⟩, -⟩ := R8.out.at (r := w2.heap.size) (a := (.slice a1 m c1)) (b := (.slice a2 m c2)) (c := (.slice a3 mx c3)) (by rw [← HBS.out]; simp))
        go_wp2_with fail
        refine hK.out _ _ (by (try dsimp only); with_reducible exact ⟨⟨r0, r1, r2⟩, ⟨s0, s1, s2⟩, ⟨b0, b1, b2⟩, ⟨o0, o1, o2⟩⟩) (fun hHeld => ?_)
        clear hK K
        try simp only [Act.put, List.getElem_toArray, List.getElem_cons_succ, List.getElem_cons_zero, List.setIfInBounds_toArray, List.set_cons_zero, List.set_cons_succ]
        refine wpAnyH_ready (rs := [13]) (by kernel_rfl) (by simp) ?_
        refine AllReadyH.cons rfl (fun K hK => ?_) AllReadyH.nil
        go_simp
        (go_at_call 125; refine (put_any wd j m c1 m c2 a1 a2 rfl rfl (R8.out.own1 (v := .slice a3 mx c3) (xs := overL (joinF k p wd X Y false) X wd j) (by simp)) (R8.out.rd (v := .slice gc (joinF k p wd X Y false j).length jc) (xs := joinF k p wd X Y false j) (by simp)) (Nat.le_refl _) HNE.out P.out.hw P.out.w6.1 P.out.w6.2 HLJ.out (by omega) (by rw [HOL.out]; exact HJ.out) (by rw [HOL.out, ← HX.out.2.2.1]; have := HX.out.2.2.2; omega)).mono ?_; rw [HPUT.out]; rintro e w8 ⟨rfl, ho, hg⟩; have R9 := Lib.hid (((R8.out.sub (rows' := [(.slice a3 mx c3, overL (joinF k p wd X Y false) X wd j), (.slice a1 m c1, L), (.slice a2 m c2, D)]) (List.Sublist.cons _ (List.Sublist.cons _ (List.Sublist.cons _ (List.Sublist.refl _)))))).rewrite ho.1 hg); clear ho hg; clear r0 r1 r2 s0 s1 s2 b0 b1 b2 o0 o1 o2; obtain ⟨⟨r0, r1, r2⟩, -⟩ := R9.out.at (r := w.heap.size) (a := .int .i64 k) (b := .int .i64 p) (c := .int .i64 q) (by rw [← HBS.out]; simp); obtain ⟨⟨s0, s1, s2⟩, -⟩ := R9.out.at (r := w.heap.size + 1) (a := (.slice al m cl)) (b := (.slice ad m cd)) (c := (.slice ax mx cx)) (by rw [← HBS.out]; simp); obtain ⟨⟨b0, b1, b2⟩, -⟩ := R9.out.at (r := w.heap.size + 1 + 1) (a := (.slice bl n1 kl)) (b := (.slice bd n2 kd)) (c := (.slice bx mx kx)) (by rw [← HBS.out]; simp); obtain ⟨⟨o0, o1, o2⟩, -⟩ := R9.out.at (r := w2.heap.size) (a := (.slice a1 m c1)) (b := (.slice a2 m c2)) (c := (.slice a3 mx c3)) (by rw [← HBS.out]; simp))
        go_wp2_with fail
        refine hK.out _ _ (by (try dsimp only); with_reducible exact ⟨⟨r0, r1, r2⟩, ⟨s0, s1, s2⟩, ⟨b0, b1, b2⟩, ⟨o0, o1, o2⟩⟩) (fun hHeld => ?_)
        clear hK K
        try simp only [Act.put, List.getElem_toArray, List.getElem_cons_succ, List.getElem_cons_zero, List.setIfInBounds_toArray, List.set_cons_zero, List.set_cons_succ]
        refine wpAnyH_done (by kernel_rfl) ?_ _
        all_goals
          go_wp2
          go_roundw
          case rel => exact ⟨j + 1, by omega, by go_num, R9⟩
          case measure => simp [intOf]; omega
      · obtain rfl : j = N := by omega
        have hnlt : ¬ (j : Int) < (j : Int) := by omega
        obtain ⟨⟨o0, o1, o2⟩, -⟩ := HR.out.at (r := w2.heap.size) (a := .slice a1 m c1) (b := .slice a2 m c2) (c := .slice a3 mx c3) (by rw [← HBS.out]; simp)
        obtain ⟨⟨t0, t1, t2⟩, f0, f1, f2⟩ := HR.out.at (r := w.heap.size + 1 + 1 + 1) (a := nilV) (b := nilV) (c := nilV) (by rw [← HBS.out]; simp)
        go_wp2_with fail
        refine HPR.out.mono ?_
        rintro e w4 ⟨rfl, rfl⟩
        go_wp2
        refine bodyPost_ret (v := tenV (.slice a1 m c1) (.slice a2 m c2) (.slice a3 mx c3)) (by simp [results, Try.results107, go_sem, t0, t1, t2]) rfl ?_
        have h := HR.out
        rw [← HBS.out, over_full HX.out.1] at h
        have h2 := (((h.swapB.set3 (.slice a1 m c1) (.slice a2 m c2) (.slice a3 mx c3)).third).third)
        exact ⟨_, _, _, rfl, (h2.perm (rows' := [(.slice a1 m c1, L), (.slice a2 m c2, D), (.slice a3 mx c3, gatherL (joinF k p wd X Y false) j)]) (by first | exact List.Perm.refl _ | (exact List.perm_iff_count.2 (by intro a; simp [List.count_cons]; omega)))).ownG, h2.bel⟩
  | true =>
    go_enter Try.func107, Try.ntmps107
    go_wp2_with fail
    refine (HCP.out _ R0.out.bel).mono ?_
    clear s0 s1 s2
    rintro e w2 ⟨l', d', x', rfl, ho, hb⟩
    have R2 := Lib.hid (R0.out.new3 hb ho)
    obtain ⟨a1, c1, rfl, -⟩ := ints_form ho.rows.1.rd
    obtain ⟨a2, c2, rfl, -⟩ := ints_form ho.rows.2.1.rd
    obtain ⟨a3, c3, rfl, -⟩ := ints_form ho.rows.2.2.rd
    rw [P.out.lL, P.out.lD, HX.out.1, ← HX.out.2.2.1] at R2 ⊢
    clear ho hb
    have R3 := Lib.hid (R2.out.box (.slice a1 m c1) (.slice a2 m c2) (.slice a3 mx c3) 49)
    obtain ⟨bs, hbs⟩ : ∃ b, b = [(w2.heap.size, Value.slice a1 m c1, Value.slice a2 m c2, Value.slice a3 mx c3), (w.heap.size + 1 + 1 + 1, nilV, nilV, nilV), (w.heap.size + 1 + 1, .slice bl n1 kl, .slice bd n2 kd, .slice bx mx kx), (w.heap.size + 1, .slice al m cl, .slice ad m cd, .slice ax mx cx), (w.heap.size, .int .i64 k, .int .i64 p, .int .i64 q)] := ⟨_, rfl⟩
    rw [← hbs] at R3
    have HBS := Lib.hid hbs.symm
    have R4 : Hid (Rs w _ bs [(.slice a3 mx c3, overL (joinF k p wd X Y true) X wd 0), (.slice a1 m c1, L), (.slice a2 m c2, D)]) := Lib.hid (by rw [over_zero]; exact R3.out.third)
    clear R2 R3 hbs
    go_wp2
    go_loopw [10] (fun i wr => ∃ j : Nat, j ≤ N ∧ i = .int .i64 j ∧ Hid (Rs w wr bs [(.slice a3 mx c3, overL (joinF k p wd X Y true) X wd j), (.slice a1 m c1, L), (.slice a2 m c2, D)])) (fun i _ => N - (intOf i).toNat)
    case atStart => exact ⟨0, by omega, rfl, R4⟩
    case round =>
      clear R4
      obtain ⟨j, hj, rfl, HR⟩ := hrel
      have HRd := HR.out.drew
      obtain ⟨⟨s0, s1, s2⟩, -⟩ := HR.out.at (r := w.heap.size + 1) (a := .slice al m cl) (b := .slice ad m cd) (c := .slice ax mx cx) (by rw [← HBS.out]; simp)
      have HPR := Lib.hid (product_spec (HT.out.below HR.out.bel HB.out).d (by rw [P.out.lD]; omega) P.out.dD)
      rw [HCAP.out] at HPR
      by_cases hlt : j < N
      · have hjj := Nat.mul_le_mul_right wd (show j + 1 ≤ N by omega)
        rw [Nat.add_mul, Nat.one_mul] at hjj
        have HJ := Lib.hid hjj
        have HEA := Lib.hid (getL_elem P.out.hw HX.out.1 HW.out.1 hlt)
        have HEB := Lib.hid (getL_elem P.out.hw HX.out.2.1 HW.out.2 hlt)
        have HOL := Lib.hid (over_len HFL.out HX.out.1 (Nat.le_of_lt hlt))
        have HPUT := Lib.hid (over_put (X := X) HFL.out hlt)
        have HF : Hid (timesL k p (getL wd X j) (getL wd Y j) = joinF k p wd X Y true j) := Lib.hid (by unfold joinF; rfl)
        have HLJ := Lib.hid (HFL.out j hlt)
        clear hjj
        go_wp2_with fail
        refine HPR.out.mono ?_
        rintro e w4 ⟨rfl, rfl⟩
        go_wp2
        have R5 := Lib.hid HR.out.drew
        clear s0 s1 s2 HR HPR
        obtain ⟨⟨r0, r1, r2⟩, -⟩ := R5.out.at (r := w.heap.size) (a := .int .i64 k) (b := .int .i64 p) (c := .int .i64 q) (by rw [← HBS.out]; simp)
        obtain ⟨⟨s0, s1, s2⟩, -⟩ := R5.out.at (r := w.heap.size + 1) (a := (.slice al m cl)) (b := (.slice ad m cd)) (c := (.slice ax mx cx)) (by rw [← HBS.out]; simp)
        obtain ⟨⟨b0, b1, b2⟩, -⟩ := R5.out.at (r := w.heap.size + 1 + 1) (a := (.slice bl n1 kl)) (b := (.slice bd n2 kd)) (c := (.slice bx mx kx)) (by rw [← HBS.out]; simp)
        obtain ⟨⟨o0, o1, o2⟩, -⟩ := R5.out.at (r := w2.heap.size) (a := (.slice a1 m c1)) (b := (.slice a2 m c2)) (c := (.slice a3 mx c3)) (by rw [← HBS.out]; simp)
        have TK1 : True := trivial
        refine wp_region_held_drew (S := (fun w' => (w'.cell? ⟨w.heap.size, 0, none⟩ = some (.int .i64 k) ∧ w'.cell? ⟨w.heap.size, 1, none⟩ = some (.int .i64 p) ∧ w'.cell? ⟨w.heap.size, 2, none⟩ = some (.int .i64 q)) ∧ (w'.cell? ⟨w.heap.size + 1, 0, none⟩ = some (.slice al m cl) ∧ w'.cell? ⟨w.heap.size + 1, 1, none⟩ = some (.slice ad m cd) ∧ w'.cell? ⟨w.heap.size + 1, 2, none⟩ = some (.slice ax mx cx)) ∧ (w'.cell? ⟨w.heap.size + 1 + 1, 0, none⟩ = some (.slice bl n1 kl) ∧ w'.cell? ⟨w.heap.size + 1 + 1, 1, none⟩ = some (.slice bd n2 kd) ∧ w'.cell? ⟨w.heap.size + 1 + 1, 2, none⟩ = some (.slice bx mx kx)) ∧ (w'.cell? ⟨w2.heap.size, 0, none⟩ = some (.slice a1 m c1) ∧ w'.cell? ⟨w2.heap.size, 1, none⟩ = some (.slice a2 m c2) ∧ w'.cell? ⟨w2.heap.size, 2, none⟩ = some (.slice a3 mx c3)))) (by kernel_rfl) (by (try dsimp only); with_reducible exact ⟨⟨r0, r1, r2⟩, ⟨s0, s1, s2⟩, ⟨b0, b1, b2⟩, ⟨o0, o1, o2⟩⟩) (fun hHeld => ?_)
        refine wpAnyH_take (i := 0) (v := ?_) rfl (by kernel_rfl) (by kernel_rfl) (by kernel_rfl) (fun _ _ _ h => h) (Or.inl ⟨by rfl, ?_⟩) (by assumption) ?_
        rotate_left
        · intro w hSw; (try dsimp only at hSw); go_simp <;> with_reducible rfl
        try simp only [Act.put, List.getElem_toArray, List.getElem_cons_zero, List.setIfInBounds_toArray, List.set_cons_zero, List.set_cons_succ]
        refine wpAnyH_take (i := 1) (v := ?_) rfl (by kernel_rfl) (by kernel_rfl) (by kernel_rfl) (fun _ _ _ h => h) (Or.inl ⟨by rfl, ?_⟩) (by assumption) ?_
        rotate_left
        · intro w hSw; (try dsimp only at hSw); go_simp <;> with_reducible rfl
        try simp only [Act.put, List.getElem_toArray, List.getElem_cons_succ, List.getElem_cons_zero, List.setIfInBounds_toArray, List.set_cons_zero, List.set_cons_succ]
        refine wpAnyH_take (i := 2) (v := ?_) rfl (by kernel_rfl) (by kernel_rfl) (by kernel_rfl) (fun _ _ _ h => h) (Or.inl ⟨by rfl, ?_⟩) (by assumption) ?_
        rotate_left
        · intro w hSw; (try dsimp only at hSw); go_simp <;> with_reducible rfl
        try simp only [Act.put, List.getElem_toArray, List.getElem_cons_succ, List.getElem_cons_zero, List.setIfInBounds_toArray, List.set_cons_zero, List.set_cons_succ]
        refine wpAnyH_take (i := 3) (v := ?_) rfl (by kernel_rfl) (by kernel_rfl) (by kernel_rfl) (fun _ _ _ h => h) (Or.inl ⟨by rfl, ?_⟩) (by assumption) ?_
        rotate_left
        · intro w hSw; (try dsimp only at hSw); go_simp <;> with_reducible rfl
        try simp only [Act.put, List.getElem_toArray, List.getElem_cons_succ, List.getElem_cons_zero, List.setIfInBounds_toArray, List.set_cons_zero, List.set_cons_succ]
        refine wpAnyH_take (i := 4) (v := ?_) rfl (by kernel_rfl) (by kernel_rfl) (by kernel_rfl) (fun _ _ _ h => h) (Or.inl ⟨by rfl, ?_⟩) (by assumption) ?_
        rotate_left
        · intro w hSw; (try dsimp only at hSw); go_simp <;> with_reducible rfl
        try simp only [Act.put, List.getElem_toArray, List.getElem_cons_succ, List.getElem_cons_zero, List.setIfInBounds_toArray, List.set_cons_zero, List.set_cons_succ]
        refine wpAnyH_take (i := 5) (v := ?_) rfl (by kernel_rfl) (by kernel_rfl) (by kernel_rfl) (fun _ _ _ h => h) (Or.inl ⟨by rfl, ?_⟩) (by assumption) ?_
        rotate_left
        · intro w hSw; (try dsimp only at hSw); go_simp <;> with_reducible rfl
        try simp only [Act.put, List.getElem_toArray, List.getElem_cons_succ, List.getElem_cons_zero, List.setIfInBounds_toArray, List.set_cons_zero, List.set_cons_succ]
        refine wpAnyH_take (i := 6) (v := ?_) rfl (by kernel_rfl) (by kernel_rfl) (by kernel_rfl) (fun _ _ _ h => h) (Or.inl ⟨by rfl, ?_⟩) (by assumption) ?_
        rotate_left
        · intro w hSw; (try dsimp only at hSw); go_simp <;> with_reducible rfl
        try simp only [Act.put, List.getElem_toArray, List.getElem_cons_succ, List.getElem_cons_zero, List.setIfInBounds_toArray, List.set_cons_zero, List.set_cons_succ]
        refine wpAnyH_take (i := 8) (v := ?_) rfl (by kernel_rfl) (by kernel_rfl) (by kernel_rfl) (fun _ _ _ h => h) (Or.inl ⟨by rfl, ?_⟩) (by assumption) ?_
        rotate_left
        · intro w hSw; (try dsimp only at hSw); go_simp <;> with_reducible rfl
        try simp only [Act.put, List.getElem_toArray, List.getElem_cons_succ, List.getElem_cons_zero, List.setIfInBounds_toArray, List.set_cons_zero, List.set_cons_succ]
        refine wpAnyH_take (i := 9) (v := ?_) rfl (by kernel_rfl) (by kernel_rfl) (by kernel_rfl) (fun _ _ _ h => h) (Or.inl ⟨by rfl, ?_⟩) (by assumption) ?_
        rotate_left
        · intro w hSw; (try dsimp only at hSw); go_simp <;> with_reducible rfl
        try simp only [Act.put, List.getElem_toArray, List.getElem_cons_succ, List.getElem_cons_zero, List.setIfInBounds_toArray, List.set_cons_zero, List.set_cons_succ]
        refine wpAnyH_take (i := 10) (v := ?_) rfl (by kernel_rfl) (by kernel_rfl) (by kernel_rfl) (fun _ _ _ h => h) (Or.inl ⟨by rfl, ?_⟩) (by assumption) ?_
        rotate_left
        · intro w hSw; (try dsimp only at hSw); go_simp <;> with_reducible rfl
        try simp only [Act.put, List.getElem_toArray, List.getElem_cons_succ, List.getElem_cons_zero, List.setIfInBounds_toArray, List.set_cons_zero, List.set_cons_succ]
        refine wpAnyH_ready (rs := [7]) (by kernel_rfl) (by simp) ?_
        refine AllReadyH.cons rfl (fun K hK => ?_) AllReadyH.nil
        go_simp
        (go_at_call 92; first | (have _t := TK1; refine (get_spec wd j (HT.out.below R5.out.bel HB.out) (Nat.le_trans HB.out R5.out.bel.size) P.out.hw P.out.w6.1 P.out.w6.2 (by omega) (by rw [HX.out.1]; exact HJ.out) (by rw [HX.out.1, ← HX.out.2.2.1]; have := HX.out.2.2.2; omega)).mono ?_; rintro e w5 ⟨va, rfl, ho, hb⟩; have R6 := Lib.hid (R5.out.new hb ho); obtain ⟨ga, ja, rfl, -⟩ := ints_form ho.rd; clear hb ho _t TK1; clear r0 r1 r2 s0 s1 s2 b0 b1 b2 o0 o1 o2; obtain ⟨⟨r0, r1, r2⟩, -⟩ := R6.out.at (r := w.heap.size) (a := .int .i64 k) (b := .int .i64 p) (c := .int .i64 q) (by rw [← HBS.out]; simp); obtain ⟨⟨s0, s1, s2⟩, -⟩ := R6.out.at (r := w.heap.size + 1) (a := (.slice al m cl)) (b := (.slice ad m cd)) (c := (.slice ax mx cx)) (by rw [← HBS.out]; simp); obtain ⟨⟨b0, b1, b2⟩, -⟩ := R6.out.at (r := w.heap.size + 1 + 1) (a := (.slice bl n1 kl)) (b := (.slice bd n2 kd)) (c := (.slice bx mx kx)) (by rw [← HBS.out]; simp); obtain ⟨⟨o0, o1, o2⟩, -⟩ := R6.out.at (r := w2.heap.size) (a := (.slice a1 m c1)) (b := (.slice a2 m c2)) (c := (.slice a3 mx c3)) (by rw [← HBS.out]; simp)) | (refine (get_spec wd j (HU.out.below R6.out.bel HB.out) (Nat.le_trans HB.out R6.out.bel.size) P.out.hw P.out.w6.1 P.out.w6.2 (by omega) (by rw [HX.out.2.1]; exact HJ.out) (by rw [HX.out.2.1, ← HX.out.2.2.1]; have := HX.out.2.2.2; omega)).mono ?_; rintro e w6 ⟨vb, rfl, ho, hb⟩; have R7 := Lib.hid (R6.out.new hb ho); obtain ⟨gb, jb, rfl, -⟩ := ints_form ho.rd; clear hb ho; clear r0 r1 r2 s0 s1 s2 b0 b1 b2 o0 o1 o2; obtain ⟨⟨r0, r1, r2⟩, -⟩ := R7.out.at (r := w.heap.size) (a := .int .i64 k) (b := .int .i64 p) (c := .int .i64 q) (by rw [← HBS.out]; simp); obtain ⟨⟨s0, s1, s2⟩, -⟩ := R7.out.at (r := w.heap.size + 1) (a := (.slice al m cl)) (b := (.slice ad m cd)) (c := (.slice ax mx cx)) (by rw [← HBS.out]; simp); obtain ⟨⟨b0, b1, b2⟩, -⟩ := R7.out.at (r := w.heap.size + 1 + 1) (a := (.slice bl n1 kl)) (b := (.slice bd n2 kd)) (c := (.slice bx mx kx)) (by rw [← HBS.out]; simp); obtain ⟨⟨o0, o1, o2⟩, -⟩ := R7.out.at (r := w2.heap.size) (a := (.slice a1 m c1)) (b := (.slice a2 m c2)) (c := (.slice a3 mx c3)) (by rw [← HBS.out]; simp)))
        go_wp2_with fail
        refine hK.out _ _ (by (try dsimp only); with_reducible exact ⟨⟨r0, r1, r2⟩, ⟨s0, s1, s2⟩, ⟨b0, b1, b2⟩, ⟨o0, o1, o2⟩⟩) (fun hHeld => ?_)
        clear hK K
        try simp only [Act.put, List.getElem_toArray, List.getElem_cons_succ, List.getElem_cons_zero, List.setIfInBounds_toArray, List.set_cons_zero, List.set_cons_succ]
        refine wpAnyH_ready (rs := [11]) (by kernel_rfl) (by simp) ?_
        refine AllReadyH.cons rfl (fun K hK => ?_) AllReadyH.nil
        go_simp
        (go_at_call 92; first | (have _t := TK1; refine (get_spec wd j (HT.out.below R5.out.bel HB.out) (Nat.le_trans HB.out R5.out.bel.size) P.out.hw P.out.w6.1 P.out.w6.2 (by omega) (by rw [HX.out.1]; exact HJ.out) (by rw [HX.out.1, ← HX.out.2.2.1]; have := HX.out.2.2.2; omega)).mono ?_; rintro e w5 ⟨va, rfl, ho, hb⟩; have R6 := Lib.hid (R5.out.new hb ho); obtain ⟨ga, ja, rfl, -⟩ := ints_form ho.rd; clear hb ho _t TK1; clear r0 r1 r2 s0 s1 s2 b0 b1 b2 o0 o1 o2; obtain ⟨⟨r0, r1, r2⟩, -⟩ := R6.out.at (r := w.heap.size) (a := .int .i64 k) (b := .int .i64 p) (c := .int .i64 q) (by rw [← HBS.out]; simp); obtain ⟨⟨s0, s1, s2⟩, -⟩ := R6.out.at (r := w.heap.size + 1) (a := (.slice al m cl)) (b := (.slice ad m cd)) (c := (.slice ax mx cx)) (by rw [← HBS.out]; simp); obtain ⟨⟨b0, b1, b2⟩, -⟩ := R6.out.at (r := w.heap.size + 1 + 1) (a := (.slice bl n1 kl)) (b := (.slice bd n2 kd)) (c := (.slice bx mx kx)) (by rw [← HBS.out]; simp); obtain ⟨⟨o0, o1, o2⟩, -⟩ := R6.out.at (r := w2.heap.size) (a := (.slice a1 m c1)) (b := (.slice a2 m c2)) (c := (.slice a3 mx c3)) (by rw [← HBS.out]; simp)) | (refine (get_spec wd j (HU.out.below R6.out.bel HB.out) (Nat.le_trans HB.out R6.out.bel.size) P.out.hw P.out.w6.1 P.out.w6.2 (by omega) (by rw [HX.out.2.1]; exact HJ.out) (by rw [HX.out.2.1, ← HX.out.2.2.1]; have := HX.out.2.2.2; omega)).mono ?_; rintro e w6 ⟨vb, rfl, ho, hb⟩; have R7 := Lib.hid (R6.out.new hb ho); obtain ⟨gb, jb, rfl, -⟩ := ints_form ho.rd; clear hb ho; clear r0 r1 r2 s0 s1 s2 b0 b1 b2 o0 o1 o2; obtain ⟨⟨r0, r1, r2⟩, -⟩ := R7.out.at (r := w.heap.size) (a := .int .i64 k) (b := .int .i64 p) (c := .int .i64 q) (by rw [← HBS.out]; simp); obtain ⟨⟨s0, s1, s2⟩, -⟩ := R7.out.at (r := w.heap.size + 1) (a := (.slice al m cl)) (b := (.slice ad m cd)) (c := (.slice ax mx cx)) (by rw [← HBS.out]; simp); obtain ⟨⟨b0, b1, b2⟩, -⟩ := R7.out.at (r := w.heap.size + 1 + 1) (a := (.slice bl n1 kl)) (b := (.slice bd n2 kd)) (c := (.slice bx mx kx)) (by rw [← HBS.out]; simp); obtain ⟨⟨o0, o1, o2⟩, -⟩ := R7.out.at (r := w2.heap.size) (a := (.slice a1 m c1)) (b := (.slice a2 m c2)) (c := (.slice a3 mx c3)) (by rw [← HBS.out]; simp)))
        go_wp2_with fail
        refine hK.out _ _ (by (try dsimp only); with_reducible exact ⟨⟨r0, r1, r2⟩, ⟨s0, s1, s2⟩, ⟨b0, b1, b2⟩, ⟨o0, o1, o2⟩⟩) (fun hHeld => ?_)
        clear hK K
        try simp only [Act.put, List.getElem_toArray, List.getElem_cons_succ, List.getElem_cons_zero, List.setIfInBounds_toArray, List.set_cons_zero, List.set_cons_succ]
        refine wpAnyH_ready (rs := [12]) (by kernel_rfl) (by simp) ?_
        refine AllReadyH.cons rfl (fun K hK => ?_) AllReadyH.nil
        go_simp
        (go_at_call 118; refine (mul_spec P.out.rg (R7.out.rd (v := .slice ga (getL wd X j).length ja) (xs := getL wd X j) (by simp)) (R7.out.rd (v := .slice gb (getL wd Y j).length jb) (xs := getL wd Y j) (by simp)) (Nat.le_refl _) HEA.out HEB.out).mono ?_; rw [HF.out]; rintro e w7 ⟨vc, rfl, ho, hb⟩; have R8 := Lib.hid (R7.out.new hb ho); obtain ⟨gc, jc, rfl, -⟩ := ints_form ho.rd; have HNE := Lib.hid (fun g (hg : (Value.slice gc (joinF k p wd X Y true j).length jc).ownBlock = some g) => (List.pairwise_cons.1 R8.out.apart).1 (.slice a3 mx c3, overL (joinF k p wd X Y true) X wd j) (by simp) g hg); clear hb ho; clear r0 r1 r2 s0 s1 s2 b0 b1 b2 o0 o1 o2; obtain ⟨⟨r0, r1, r2⟩, -⟩ := R8.out.at (r := w.heap.size) (a := .int .i64 k) (b := .int .i64 p) (c := .int .i64 q) (by rw [← HBS.out]; simp); obtain ⟨⟨s0, s1, s2⟩, -⟩ := R8.out.at (r := w.heap.size + 1) (a := (.slice al m cl)) (b := (.slice ad m cd)) (c := (.slice ax mx cx)) (by rw [← HBS.out]; simp); obtain ⟨⟨b0, b1, b2⟩, -⟩ := R8.out.at (r := w.heap.size + 1 + 1) (a := (.slice bl n1 kl)) (b := (.slice bd n2 kd)) (c := (.slice bx mx kx)) (by rw [← HBS.out]; simp); obtain ⟨⟨o0, o1, o2⟩, -⟩ := R8.out.at (r := w2.heap.size) (a := (.slice a1 m c1)) (b := (.slice a2 m c2)) (c := (.slice a3 mx c3)) (by rw [← HBS.out]; simp))
        go_wp2_with fail
        refine hK.out _ _ (by (try dsimp only); with_reducible exact ⟨⟨r0, r1, r2⟩, ⟨s0, s1, s2⟩, ⟨b0, b1, b2⟩, ⟨o0, o1, o2⟩⟩) (fun hHeld => ?_)
        clear hK K
        try simp only [Act.put, List.getElem_toArray, List.getElem_cons_succ, List.getElem_cons_zero, List.setIfInBounds_toArray, List.set_cons_zero, List.set_cons_succ]
        refine wpAnyH_ready (rs := [13]) (by kernel_rfl) (by simp) ?_
        refine AllReadyH.cons rfl (fun K hK => ?_) AllReadyH.nil
        go_simp
        (go_at_call 125; refine (put_any wd j m c1 m c2 a1 a2 rfl rfl (R8.out.own1 (v := .slice a3 mx c3) (xs := overL (joinF k p wd X Y true) X wd j) (by simp)) (R8.out.rd (v := .slice gc (joinF k p wd X Y true j).length jc) (xs := joinF k p wd X Y true j) (by simp)) (Nat.le_refl _) HNE.out P.out.hw P.out.w6.1 P.out.w6.2 HLJ.out (by omega) (by rw [HOL.out]; exact HJ.out) (by rw [HOL.out, ← HX.out.2.2.1]; have := HX.out.2.2.2; omega)).mono ?_; rw [HPUT.out]; rintro e w8 ⟨rfl, ho, hg⟩; have R9 := Lib.hid (((R8.out.sub (rows' := [(.slice a3 mx c3, overL (joinF k p wd X Y true) X wd j), (.slice a1 m c1, L), (.slice a2 m c2, D)]) (List.Sublist.cons _ (List.Sublist.cons _ (List.Sublist.cons _ (List.Sublist.refl _)))))).rewrite ho.1 hg); clear ho hg; clear r0 r1 r2 s0 s1 s2 b0 b1 b2 o0 o1 o2; obtain ⟨⟨r0, r1, r2⟩, -⟩ := R9.out.at (r := w.heap.size) (a := .int .i64 k) (b := .int .i64 p) (c := .int .i64 q) (by rw [← HBS.out]; simp); obtain ⟨⟨s0, s1, s2⟩, -⟩ := R9.out.at (r := w.heap.size + 1) (a := (.slice al m cl)) (b := (.slice ad m cd)) (c := (.slice ax mx cx)) (by rw [← HBS.out]; simp); obtain ⟨⟨b0, b1, b2⟩, -⟩ := R9.out.at (r := w.heap.size + 1 + 1) (a := (.slice bl n1 kl)) (b := (.slice bd n2 kd)) (c := (.slice bx mx kx)) (by rw [← HBS.out]; simp); obtain ⟨⟨o0, o1, o2⟩, -⟩ := R9.out.at (r := w2.heap.size) (a := (.slice a1 m c1)) (b := (.slice a2 m c2)) (c := (.slice a3 mx c3)) (by rw [← HBS.out]; simp))
        go_wp2_with fail
        refine hK.out _ _ (by (try dsimp only); with_reducible exact ⟨⟨r0, r1, r2⟩, ⟨s0, s1, s2⟩, ⟨b0, b1, b2⟩, ⟨o0, o1, o2⟩⟩) (fun hHeld => ?_)
        clear hK K
        try simp only [Act.put, List.getElem_toArray, List.getElem_cons_succ, List.getElem_cons_zero, List.setIfInBounds_toArray, List.set_cons_zero, List.set_cons_succ]
        refine wpAnyH_done (by kernel_rfl) ?_ _
        all_goals
          go_wp2
          go_roundw
          case rel => exact ⟨j + 1, by omega, by go_num, R9⟩
          case measure => simp [intOf]; omega
      · obtain rfl : j = N := by omega
        have hnlt : ¬ (j : Int) < (j : Int) := by omega
        obtain ⟨⟨o0, o1, o2⟩, -⟩ := HR.out.at (r := w2.heap.size) (a := .slice a1 m c1) (b := .slice a2 m c2) (c := .slice a3 mx c3) (by rw [← HBS.out]; simp)
        obtain ⟨⟨t0, t1, t2⟩, f0, f1, f2⟩ := HR.out.at (r := w.heap.size + 1 + 1 + 1) (a := nilV) (b := nilV) (c := nilV) (by rw [← HBS.out]; simp)
        go_wp2_with fail
        refine HPR.out.mono ?_
        rintro e w4 ⟨rfl, rfl⟩
        go_wp2
        refine bodyPost_ret (v := tenV (.slice a1 m c1) (.slice a2 m c2) (.slice a3 mx c3)) (by simp [results, Try.results107, go_sem, t0, t1, t2]) rfl ?_
        have h := HR.out
        rw [← HBS.out, over_full HX.out.1] at h
        have h2 := (((h.swapB.set3 (.slice a1 m c1) (.slice a2 m c2) (.slice a3 mx c3)).third).third)
        exact ⟨_, _, _, rfl, (h2.perm (rows' := [(.slice a1 m c1, L), (.slice a2 m c2, D), (.slice a3 mx c3, gatherL (joinF k p wd X Y true) j)]) (by first | exact List.Perm.refl _ | (exact List.perm_iff_count.2 (by intro a; simp [List.count_cons]; omega)))).ownG, h2.bel⟩
end Go.Proofs.Ytgbmacppgaopfaa
namespace Go.Proofs.Ytgbmacppgaopfaa
set_option maxRecDepth 20000
open Go.RowKit

/-- An element times the one at an offset. -/
def scaleF (k p : Int) (wd : Nat) (x X : List Int) (i : Nat) : List Int := timesL k p x (getL wd X i)
noncomputable def scaleB (k p q : Int) (L D X x : List Int) : Bool := tensorB k p q L D X && elemB k p q x
def scaleTenL (k p q : Int) (D X x : List Int) : List Int := gatherL (scaleF k p (widthI k q).toNat x X) (prodL D).toNat
end Go.Proofs.Ytgbmacppgaopfaa
namespace Go.Proofs.Ytgbmacppgaopfaa
set_option maxRecDepth 20000
open Go.RowKit

/-- Are both tensors valid, with the same labels. -/
noncomputable def bothB (k p q : Int) (L D X L' D' X' : List Int) : Bool := tensorB k p q L D X && (tensorB k p q L' D' X' && setV L L')
noncomputable def fitB (k p q : Int) (L D X L' D' X' : List Int) : Bool := bothB k p q L D X L' D' X' && decide (dimsVia L' D' L = D)
theorem set_sym {L L' : List Int} (h : SetV L L') : SetV L' L := setV_perm h.perm.symm h.nodup
set_option maxHeartbeats 6400000 in
theorem fits_spec {B B' : Nat} {lv dv xv lu du xu : Value} {k p q : Int} {L D X L' D' X' : List Int} {w : World} (ha : RdT B w lv dv xv L D X) (hb : RdT B' w lu du xu L' D' X') (hB : B ≤ w.heap.size) (hB' : B' ≤ w.heap.size) (hn : LenT L D X) (hn' : LenT L' D' X') :
    Calls Try.prog 106 #[ringV k p q, tenV lv dv xv, tenV lu du xu] w (NewTen2 w (if bothB k p q L D X L' D' X' = true then L else []) (if bothB k p q L D X L' D' X' = true then dimsVia L' D' L else []) (if bothB k p q L D X L' D' X' = true then permDataL k q L' D' X' L else []) (fitB k p q L D X L' D' X')) := by
  have HA := Lib.hid ha
  have HU := Lib.hid hb
  have HB := Lib.hid (And.intro hB hB')
  obtain ⟨al, cl, rfl, -⟩ := ints_form ha.l
  obtain ⟨ad, cd, rfl, -⟩ := ints_form ha.d
  obtain ⟨ax, cx, rfl, -⟩ := ints_form ha.x
  obtain ⟨bl, kl, rfl, -⟩ := ints_form hb.l
  obtain ⟨bd, kd, rfl, -⟩ := ints_form hb.d
  obtain ⟨bx, kx, rfl, -⟩ := ints_form hb.x
  obtain ⟨m1, hm1⟩ : ∃ m, m = L.length := ⟨_, rfl⟩
  obtain ⟨m2, hm2⟩ : ∃ m, m = D.length := ⟨_, rfl⟩
  obtain ⟨m3, hm3⟩ : ∃ m, m = X.length := ⟨_, rfl⟩
  obtain ⟨m4, hm4⟩ : ∃ m, m = L'.length := ⟨_, rfl⟩
  obtain ⟨m5, hm5⟩ : ∃ m, m = D'.length := ⟨_, rfl⟩
  obtain ⟨m6, hm6⟩ : ∃ m, m = X'.length := ⟨_, rfl⟩
  rw [← hm1, ← hm2, ← hm3] at HA ⊢
  rw [← hm4, ← hm5, ← hm6] at HU ⊢
  have R0 : Hid (Rs w ((((w.alloc (.cells #[.int .i64 k, .int .i64 p, .int .i64 q] 30)).alloc (.cells #[.slice al m1 cl, .slice ad m2 cd, .slice ax m3 cx] 49)).alloc (.cells #[.slice bl m4 kl, .slice bd m5 kd, .slice bx m6 kx] 49)).alloc (.cells #[nilV, nilV, nilV] 49)) [(w.heap.size + 1 + 1 + 1, nilV, nilV, nilV), (w.heap.size + 1 + 1, .slice bl m4 kl, .slice bd m5 kd, .slice bx m6 kx), (w.heap.size + 1, .slice al m1 cl, .slice ad m2 cd, .slice ax m3 cx), (w.heap.size, .int .i64 k, .int .i64 p, .int .i64 q)] []) := by
    have h := ((((Rs.start w).box (.int .i64 k) (.int .i64 p) (.int .i64 q) 30).box (.slice al m1 cl) (.slice ad m2 cd) (.slice ax m3 cx) 49).box (.slice bl m4 kl) (.slice bd m5 kd) (.slice bx m6 kx) 49).box nilV nilV nilV 49
    simp only [World.size_alloc] at h
    exact h
  have OKA := Lib.hid (fun (w1 : World) (hb : Below w.heap.size w w1) => tensor_ok_spec (k := k) (p := p) (n := q) (HA.out.below hb HB.out.1) (Nat.le_trans HB.out.1 hb.size) hn)
  have OKU := Lib.hid (fun (w1 : World) (hb : Below w.heap.size w w1) => tensor_ok_spec (k := k) (p := p) (n := q) (HU.out.below hb HB.out.2) (Nat.le_trans HB.out.2 hb.size) hn')
  have HSE := Lib.hid (fun (w1 : World) (hb : Below w.heap.size w w1) => set_spec ((HA.out.below hb HB.out.1).l.mono (Nat.le_trans HB.out.1 hb.size)) ((HU.out.below hb HB.out.2).l.mono (Nat.le_trans HB.out.2 hb.size)) hn.l hn'.l)
  have HPE := Lib.hid (fun (w1 : World) (hb : Below w.heap.size w w1) (ht : tensorB k p q L' D' X' = true) (hs : SetV L' L) =>
    have hx := HA.out.below hb HB.out.1
    have hy := HU.out.below hb HB.out.2
    permute_spec (B := w1.heap.size) ⟨hy.l.mono (Nat.le_trans HB.out.2 hb.size), hy.d.mono (Nat.le_trans HB.out.2 hb.size), hy.x.mono (Nat.le_trans HB.out.2 hb.size)⟩ (hx.l.mono (Nat.le_trans HB.out.1 hb.size)) (Nat.le_refl _) ht hs)
  obtain ⟨ta, hta⟩ : ∃ b, b = tensorB k p q L D X := ⟨_, rfl⟩
  obtain ⟨tu, htu⟩ : ∃ b, b = tensorB k p q L' D' X' := ⟨_, rfl⟩
  obtain ⟨sb, hsb⟩ : ∃ b, b = setV L L' := ⟨_, rfl⟩
  obtain ⟨bo, hbo⟩ : ∃ b, b = bothB k p q L D X L' D' X' := ⟨_, rfl⟩
  obtain ⟨fb, hfb⟩ : ∃ b, b = fitB k p q L D X L' D' X' := ⟨_, rfl⟩
  have HBO : Hid (bo = (ta && (tu && sb))) := Lib.hid (by rw [hbo, hta, htu, hsb]; rfl)
  have HFB : Hid (fb = (bo && decide (dimsVia L' D' L = D))) := Lib.hid (by rw [hfb, hbo]; rfl)
  rw [← hta] at OKA
  rw [← htu] at OKU
  rw [← hsb] at HSE
  rw [← hbo, ← hfb]
  have HTA := Lib.hid hta
  have HTU := Lib.hid htu
  have HSB := Lib.hid hsb
  have HLN := Lib.hid (And.intro hn hn')
  clear ha hb hB hB' hn hn' hm1 hm2 hm3 hm4 hm5 hm6 hta htu hsb hbo hfb
  obtain ⟨⟨r0, r1, r2⟩, -⟩ := R0.out.at (r := w.heap.size) (a := .int .i64 k) (b := .int .i64 p) (c := .int .i64 q) (by simp)
  obtain ⟨⟨s0, s1, s2⟩, -⟩ := R0.out.at (r := w.heap.size + 1) (a := (.slice al m1 cl)) (b := (.slice ad m2 cd)) (c := (.slice ax m3 cx)) (by simp)
  obtain ⟨⟨b0, b1, b2⟩, -⟩ := R0.out.at (r := w.heap.size + 1 + 1) (a := (.slice bl m4 kl)) (b := (.slice bd m5 kd)) (c := (.slice bx m6 kx)) (by simp)
  cases ta with
  | false =>
    obtain rfl : bo = false := by rw [HBO.out]; rfl
    obtain rfl : fb = false := by rw [HFB.out]; rfl
    simp only [Bool.false_eq_true, if_false]
    go_enter Try.func106, Try.ntmps106
    go_wp2_with fail
    refine (OKA.out _ R0.out.bel).mono ?_
    clear r0 r1 r2 s0 s1 s2 b0 b1 b2
    rintro e w1 ⟨rfl, hb⟩
    have R1 := Lib.hid (R0.out.step hb)
    clear hb
    obtain ⟨⟨r0, r1, r2⟩, -⟩ := R1.out.at (r := w.heap.size) (a := .int .i64 k) (b := .int .i64 p) (c := .int .i64 q) (by simp)
    obtain ⟨⟨s0, s1, s2⟩, -⟩ := R1.out.at (r := w.heap.size + 1) (a := (.slice al m1 cl)) (b := (.slice ad m2 cd)) (c := (.slice ax m3 cx)) (by simp)
    obtain ⟨⟨b0, b1, b2⟩, -⟩ := R1.out.at (r := w.heap.size + 1 + 1) (a := (.slice bl m4 kl)) (b := (.slice bd m5 kd)) (c := (.slice bx m6 kx)) (by simp)
    skip
    obtain ⟨⟨t0, t1, t2⟩, f0, f1, f2⟩ := R1.out.at (r := w.heap.size + 1 + 1 + 1) (a := nilV) (b := nilV) (c := nilV) (by simp)
    go_wp2
    refine bodyPost_ret (v := .tuple #[tenV nilV nilV nilV, .bool false]) (by simp [results, Try.results106, go_sem, t0, t1, t2]) rfl ?_
    exact NewTen2.nils (R1.out.set3 _ _ _).bel
  | true =>
    cases tu with
    | false =>
      obtain rfl : bo = false := by rw [HBO.out]; rfl
      obtain rfl : fb = false := by rw [HFB.out]; rfl
      simp only [Bool.false_eq_true, if_false]
      go_enter Try.func106, Try.ntmps106
      go_wp2_with fail
      refine (OKA.out _ R0.out.bel).mono ?_
      clear r0 r1 r2 s0 s1 s2 b0 b1 b2
      rintro e w1 ⟨rfl, hb⟩
      have R1 := Lib.hid (R0.out.step hb)
      clear hb
      obtain ⟨⟨r0, r1, r2⟩, -⟩ := R1.out.at (r := w.heap.size) (a := .int .i64 k) (b := .int .i64 p) (c := .int .i64 q) (by simp)
      obtain ⟨⟨s0, s1, s2⟩, -⟩ := R1.out.at (r := w.heap.size + 1) (a := (.slice al m1 cl)) (b := (.slice ad m2 cd)) (c := (.slice ax m3 cx)) (by simp)
      obtain ⟨⟨b0, b1, b2⟩, -⟩ := R1.out.at (r := w.heap.size + 1 + 1) (a := (.slice bl m4 kl)) (b := (.slice bd m5 kd)) (c := (.slice bx m6 kx)) (by simp)
      go_wp2_with fail
      refine (OKU.out _ R1.out.bel).mono ?_
      clear r0 r1 r2 s0 s1 s2 b0 b1 b2
      rintro e w2 ⟨rfl, hb⟩
      have R2 := Lib.hid (R1.out.step hb)
      clear hb
      obtain ⟨⟨r0, r1, r2⟩, -⟩ := R2.out.at (r := w.heap.size) (a := .int .i64 k) (b := .int .i64 p) (c := .int .i64 q) (by simp)
      obtain ⟨⟨s0, s1, s2⟩, -⟩ := R2.out.at (r := w.heap.size + 1) (a := (.slice al m1 cl)) (b := (.slice ad m2 cd)) (c := (.slice ax m3 cx)) (by simp)
      obtain ⟨⟨b0, b1, b2⟩, -⟩ := R2.out.at (r := w.heap.size + 1 + 1) (a := (.slice bl m4 kl)) (b := (.slice bd m5 kd)) (c := (.slice bx m6 kx)) (by simp)
      skip
      obtain ⟨⟨t0, t1, t2⟩, f0, f1, f2⟩ := R2.out.at (r := w.heap.size + 1 + 1 + 1) (a := nilV) (b := nilV) (c := nilV) (by simp)
      go_wp2
      refine bodyPost_ret (v := .tuple #[tenV nilV nilV nilV, .bool false]) (by simp [results, Try.results106, go_sem, t0, t1, t2]) rfl ?_
      exact NewTen2.nils (R2.out.set3 _ _ _).bel
    | true =>
      cases sb with
      | false =>
        obtain rfl : bo = false := by rw [HBO.out]; rfl
        obtain rfl : fb = false := by rw [HFB.out]; rfl
        simp only [Bool.false_eq_true, if_false]
        go_enter Try.func106, Try.ntmps106
        go_wp2_with fail
        refine (OKA.out _ R0.out.bel).mono ?_
        clear r0 r1 r2 s0 s1 s2 b0 b1 b2
        rintro e w1 ⟨rfl, hb⟩
        have R1 := Lib.hid (R0.out.step hb)
        clear hb
        obtain ⟨⟨r0, r1, r2⟩, -⟩ := R1.out.at (r := w.heap.size) (a := .int .i64 k) (b := .int .i64 p) (c := .int .i64 q) (by simp)
        obtain ⟨⟨s0, s1, s2⟩, -⟩ := R1.out.at (r := w.heap.size + 1) (a := (.slice al m1 cl)) (b := (.slice ad m2 cd)) (c := (.slice ax m3 cx)) (by simp)
        obtain ⟨⟨b0, b1, b2⟩, -⟩ := R1.out.at (r := w.heap.size + 1 + 1) (a := (.slice bl m4 kl)) (b := (.slice bd m5 kd)) (c := (.slice bx m6 kx)) (by simp)
        go_wp2_with fail
        refine (OKU.out _ R1.out.bel).mono ?_
        clear r0 r1 r2 s0 s1 s2 b0 b1 b2
        rintro e w2 ⟨rfl, hb⟩
        have R2 := Lib.hid (R1.out.step hb)
        clear hb
        obtain ⟨⟨r0, r1, r2⟩, -⟩ := R2.out.at (r := w.heap.size) (a := .int .i64 k) (b := .int .i64 p) (c := .int .i64 q) (by simp)
        obtain ⟨⟨s0, s1, s2⟩, -⟩ := R2.out.at (r := w.heap.size + 1) (a := (.slice al m1 cl)) (b := (.slice ad m2 cd)) (c := (.slice ax m3 cx)) (by simp)
        obtain ⟨⟨b0, b1, b2⟩, -⟩ := R2.out.at (r := w.heap.size + 1 + 1) (a := (.slice bl m4 kl)) (b := (.slice bd m5 kd)) (c := (.slice bx m6 kx)) (by simp)
        go_wp2_with fail
        refine (HSE.out _ R2.out.bel).mono ?_
        rintro e w3 ⟨rfl, rfl⟩
        skip
        obtain ⟨⟨t0, t1, t2⟩, f0, f1, f2⟩ := R2.out.at (r := w.heap.size + 1 + 1 + 1) (a := nilV) (b := nilV) (c := nilV) (by simp)
        go_wp2
        refine bodyPost_ret (v := .tuple #[tenV nilV nilV nilV, .bool false]) (by simp [results, Try.results106, go_sem, t0, t1, t2]) rfl ?_
        exact NewTen2.nils (R2.out.set3 _ _ _).bel
      | true =>
        obtain rfl : bo = true := by rw [HBO.out]; rfl
        have HFF : Hid (fb = decide (dimsVia L' D' L = D)) := Lib.hid (by rw [HFB.out]; rfl)
        simp only [if_true]
        have HQ := Lib.hid (fun (w1 : World) (hb : Below w.heap.size w w1) => HPE.out w1 hb HTU.out.symm (set_sym (setV_true.1 HSB.out.symm)))
        have HDL : Hid (permX (widthI k q).toNat L' D' X' L (prodL D').toNat = permDataL k q L' D' X' L) := Lib.hid rfl
        rw [HDL.out] at HQ
        clear HPE
        have HDV : Hid ((dimsVia L' D' L).length ≤ 281474976710656) := Lib.hid (by rw [dimsVia_len]; exact HLN.out.1.l)
        obtain ⟨sd, hsd⟩ : ∃ l, l = dimsVia L' D' L := ⟨_, rfl⟩
        obtain ⟨sx, hsx⟩ : ∃ l, l = permDataL k q L' D' X' L := ⟨_, rfl⟩
        rw [← hsd] at HFF HDV HQ
        rw [← hsx] at HQ
        rw [← hsd, ← hsx]
        clear hsd hsx HDL HFB
        go_enter Try.func106, Try.ntmps106
        go_wp2_with fail
        refine (OKA.out _ R0.out.bel).mono ?_
        clear r0 r1 r2 s0 s1 s2 b0 b1 b2
        rintro e w1 ⟨rfl, hb⟩
        have R1 := Lib.hid (R0.out.step hb)
        clear hb
        obtain ⟨⟨r0, r1, r2⟩, -⟩ := R1.out.at (r := w.heap.size) (a := .int .i64 k) (b := .int .i64 p) (c := .int .i64 q) (by simp)
        obtain ⟨⟨s0, s1, s2⟩, -⟩ := R1.out.at (r := w.heap.size + 1) (a := (.slice al m1 cl)) (b := (.slice ad m2 cd)) (c := (.slice ax m3 cx)) (by simp)
        obtain ⟨⟨b0, b1, b2⟩, -⟩ := R1.out.at (r := w.heap.size + 1 + 1) (a := (.slice bl m4 kl)) (b := (.slice bd m5 kd)) (c := (.slice bx m6 kx)) (by simp)
        go_wp2_with fail
        refine (OKU.out _ R1.out.bel).mono ?_
        clear r0 r1 r2 s0 s1 s2 b0 b1 b2
        rintro e w2 ⟨rfl, hb⟩
        have R2 := Lib.hid (R1.out.step hb)
        clear hb
        obtain ⟨⟨r0, r1, r2⟩, -⟩ := R2.out.at (r := w.heap.size) (a := .int .i64 k) (b := .int .i64 p) (c := .int .i64 q) (by simp)
        obtain ⟨⟨s0, s1, s2⟩, -⟩ := R2.out.at (r := w.heap.size + 1) (a := (.slice al m1 cl)) (b := (.slice ad m2 cd)) (c := (.slice ax m3 cx)) (by simp)
        obtain ⟨⟨b0, b1, b2⟩, -⟩ := R2.out.at (r := w.heap.size + 1 + 1) (a := (.slice bl m4 kl)) (b := (.slice bd m5 kd)) (c := (.slice bx m6 kx)) (by simp)
        go_wp2_with fail
        refine (HSE.out _ R2.out.bel).mono ?_
        rintro e w3 ⟨rfl, rfl⟩
        go_wp2_with fail
        refine (HQ.out _ R2.out.bel).mono ?_
        clear r0 r1 r2 s0 s1 s2 b0 b1 b2
        rintro e w4 ⟨v1, v2, v3, rfl, ho, hb⟩
        have R3 := Lib.hid (R2.out.new3 hb ho)
        obtain ⟨g1, j1, rfl, -⟩ := ints_form ho.rows.1.rd
        obtain ⟨g2, j2, rfl, -⟩ := ints_form ho.rows.2.1.rd
        obtain ⟨g3, j3, rfl, -⟩ := ints_form ho.rows.2.2.rd
        clear ho hb
        obtain ⟨o1, ho1⟩ : ∃ m, m = L.length := ⟨_, rfl⟩
        obtain ⟨o2, ho2⟩ : ∃ m, m = sd.length := ⟨_, rfl⟩
        obtain ⟨o3, ho3⟩ : ∃ m, m = sx.length := ⟨_, rfl⟩
        rw [← ho1, ← ho2, ← ho3] at R3 ⊢
        clear ho1 ho2 ho3
        have R4 := Lib.hid (R3.out.box (.slice g1 o1 j1) (.slice g2 o2 j2) (.slice g3 o3 j3) 49)
        have R5 := Lib.hid R4.out.drew
        have HEQ := Lib.hid (equal_spec (R5.out.rd (v := .slice g2 o2 j2) (xs := sd) (by simp)) (HA.out.below R5.out.bel HB.out.1).d HDV.out HLN.out.1.d)
        rw [← HFF.out] at HEQ
        obtain ⟨⟨s0, s1, s2⟩, -⟩ := R4.out.at (r := w.heap.size + 1) (a := (.slice al m1 cl)) (b := (.slice ad m2 cd)) (c := (.slice ax m3 cx)) (by simp)
        obtain ⟨⟨u0, u1, u2⟩, -⟩ := R4.out.at (r := w4.heap.size) (a := (.slice g1 o1 j1)) (b := (.slice g2 o2 j2)) (c := (.slice g3 o3 j3)) (by simp)
        go_wp2
        clear s0 s1 s2 u0 u1 u2
        obtain ⟨⟨s0, s1, s2⟩, -⟩ := R5.out.at (r := w.heap.size + 1) (a := (.slice al m1 cl)) (b := (.slice ad m2 cd)) (c := (.slice ax m3 cx)) (by simp)
        obtain ⟨⟨u0, u1, u2⟩, -⟩ := R5.out.at (r := w4.heap.size) (a := (.slice g1 o1 j1)) (b := (.slice g2 o2 j2)) (c := (.slice g3 o3 j3)) (by simp)
        obtain ⟨⟨p0, p1, p2⟩, q0, q1, q2⟩ := R4.out.at (r := w.heap.size + 1 + 1 + 1) (a := nilV) (b := nilV) (c := nilV) (by simp)
        obtain ⟨⟨t0, t1, t2⟩, f0, f1, f2⟩ := R5.out.at (r := w.heap.size + 1 + 1 + 1) (a := nilV) (b := nilV) (c := nilV) (by simp)
        have R6 := Lib.hid ((R4.out.swapB.set3 (.slice g1 o1 j1) (.slice g2 o2 j2) (.slice g3 o3 j3)).drew)
        obtain ⟨⟨x0, x1, x2⟩, -⟩ := R6.out.at (r := w.heap.size + 1) (a := (.slice al m1 cl)) (b := (.slice ad m2 cd)) (c := (.slice ax m3 cx)) (by simp)
        obtain ⟨⟨y0, y1, y2⟩, -⟩ := R6.out.at (r := w4.heap.size) (a := (.slice g1 o1 j1)) (b := (.slice g2 o2 j2)) (c := (.slice g3 o3 j3)) (by simp)
        refine wp_region_held_drew (S := (fun w' => (w'.cell? ⟨w.heap.size + 1, 0, none⟩ = some (.slice al m1 cl) ∧ w'.cell? ⟨w.heap.size + 1, 1, none⟩ = some (.slice ad m2 cd) ∧ w'.cell? ⟨w.heap.size + 1, 2, none⟩ = some (.slice ax m3 cx)) ∧ (w'.cell? ⟨w4.heap.size, 0, none⟩ = some (.slice g1 o1 j1) ∧ w'.cell? ⟨w4.heap.size, 1, none⟩ = some (.slice g2 o2 j2) ∧ w'.cell? ⟨w4.heap.size, 2, none⟩ = some (.slice g3 o3 j3)))) (by kernel_rfl) (by (try dsimp only); first | with_reducible exact ⟨⟨s0, s1, s2⟩, ⟨u0, u1, u2⟩⟩ | with_reducible exact ⟨⟨x0, x1, x2⟩, ⟨y0, y1, y2⟩⟩) (fun hHeld => ?_)
        refine wpAnyH_take (i := 0) (v := ?_) rfl (by kernel_rfl) (by kernel_rfl) (by kernel_rfl) (fun _ _ _ h => h) (Or.inl ⟨by rfl, ?_⟩) (by assumption) ?_
        rotate_left
        · intro w hSw; (try dsimp only at hSw); go_simp <;> with_reducible rfl
        try simp only [Act.put, List.getElem_toArray, List.getElem_cons_zero, List.setIfInBounds_toArray, List.set_cons_zero, List.set_cons_succ]
        refine wpAnyH_take (i := 1) (v := ?_) rfl (by kernel_rfl) (by kernel_rfl) (by kernel_rfl) (fun _ _ _ h => h) (Or.inl ⟨by rfl, ?_⟩) (by assumption) ?_
        rotate_left
        · intro w hSw; (try dsimp only at hSw); go_simp <;> with_reducible rfl
        try simp only [Act.put, List.getElem_toArray, List.getElem_cons_succ, List.getElem_cons_zero, List.setIfInBounds_toArray, List.set_cons_zero, List.set_cons_succ]
        refine wpAnyH_take (i := 2) (v := ?_) rfl (by kernel_rfl) (by kernel_rfl) (by kernel_rfl) (fun _ _ _ h => h) (Or.inl ⟨by rfl, ?_⟩) (by assumption) ?_
        rotate_left
        · intro w hSw; (try dsimp only at hSw); go_simp <;> with_reducible rfl
        try simp only [Act.put, List.getElem_toArray, List.getElem_cons_succ, List.getElem_cons_zero, List.setIfInBounds_toArray, List.set_cons_zero, List.set_cons_succ]
        refine wpAnyH_take (i := 3) (v := ?_) rfl (by kernel_rfl) (by kernel_rfl) (by kernel_rfl) (fun _ _ _ h => h) (Or.inl ⟨by rfl, ?_⟩) (by assumption) ?_
        rotate_left
        · intro w hSw; (try dsimp only at hSw); go_simp <;> with_reducible rfl
        try simp only [Act.put, List.getElem_toArray, List.getElem_cons_succ, List.getElem_cons_zero, List.setIfInBounds_toArray, List.set_cons_zero, List.set_cons_succ]
        refine wpAnyH_take (i := 4) (v := ?_) rfl (by kernel_rfl) (by kernel_rfl) (by kernel_rfl) (fun _ _ _ h => h) (Or.inl ⟨by rfl, ?_⟩) (by assumption) ?_
        rotate_left
        · intro w hSw; (try dsimp only at hSw); go_simp <;> with_reducible rfl
        try simp only [Act.put, List.getElem_toArray, List.getElem_cons_succ, List.getElem_cons_zero, List.setIfInBounds_toArray, List.set_cons_zero, List.set_cons_succ]
        refine wpAnyH_ready (rs := [5]) (by kernel_rfl) (by simp) ?_
        refine AllReadyH.cons rfl (fun K hK => ?_) AllReadyH.nil
        go_simp
        (go_at_call 141; refine HEQ.out.mono ?_; rintro e w5 ⟨rfl, rfl⟩)
        go_wp2_with fail
        refine hK.out _ _ (by (try dsimp only); first | with_reducible exact ⟨⟨s0, s1, s2⟩, ⟨u0, u1, u2⟩⟩ | with_reducible exact ⟨⟨x0, x1, x2⟩, ⟨y0, y1, y2⟩⟩) (fun hHeld => ?_)
        clear hK K
        try simp only [Act.put, List.getElem_toArray, List.getElem_cons_succ, List.getElem_cons_zero, List.setIfInBounds_toArray, List.set_cons_zero, List.set_cons_succ]
        refine wpAnyH_ready (rs := [6]) (by kernel_rfl) (by simp) ?_
        refine AllReadyH.cons rfl (fun K hK => ?_) AllReadyH.nil
        go_simp
        refine hK.out _ _ (by (try dsimp only); first | with_reducible exact ⟨⟨s0, s1, s2⟩, ⟨u0, u1, u2⟩⟩ | with_reducible exact ⟨⟨x0, x1, x2⟩, ⟨y0, y1, y2⟩⟩) (fun hHeld => ?_)
        clear hK K
        try simp only [Act.put, List.getElem_toArray, List.getElem_cons_succ, List.getElem_cons_zero, List.setIfInBounds_toArray, List.set_cons_zero, List.set_cons_succ]
        refine wpAnyH_take (i := 7) (v := ?_) rfl (by kernel_rfl) (by kernel_rfl) (by kernel_rfl) (fun _ _ _ h => h) (Or.inl ⟨by rfl, ?_⟩) (by assumption) ?_
        rotate_left
        · intro w hSw; (try dsimp only at hSw); go_simp <;> with_reducible rfl
        try simp only [Act.put, List.getElem_toArray, List.getElem_cons_succ, List.getElem_cons_zero, List.setIfInBounds_toArray, List.set_cons_zero, List.set_cons_succ]
        refine wpAnyH_done (by kernel_rfl) ?_ _
        all_goals
          go_wp2
          refine bodyPost_ret (v := .tuple #[tenV (.slice g1 o1 j1) (.slice g2 o2 j2) (.slice g3 o3 j3), .bool fb]) (by simp [results, Try.results106, go_sem, p0, p1, p2]) rfl ?_
          exact ⟨_, _, _, rfl, R6.out.ownG, R6.out.bel⟩
end Go.Proofs.Ytgbmacppgaopfaa
namespace Go.Proofs.Ytgbmacppgaopfaa
set_option maxRecDepth 20000
open Go.RowKit

/-- The data of the sum, or of the product. -/
noncomputable def joinTenL (k p q : Int) (L D X L' D' X' : List Int) (pr : Bool) : List Int := gatherL (joinF k p (widthI k q).toNat X (permDataL k q L' D' X' L) pr) (prodL D).toNat
theorem getL_within {t : Int} {wd n : Nat} {X : List Int} (h : Within t X) : Within t (getL wd X n) := fun x hx => by
  unfold getL at hx
  exact h x (List.mem_of_mem_drop (List.mem_of_mem_take hx))
theorem permX_inside {t : Int} {wd N : Nat} {L D X labels : List Int} (h : Within t X) : Within t (permX wd L D X labels N) := fun x hx => by
  unfold permX at hx
  obtain ⟨n, -, hn⟩ := List.mem_flatMap.1 hx
  exact getL_within h x hn
theorem both_parts {k p q : Int} {L D X L' D' X' : List Int} (h : fitB k p q L D X L' D' X' = true) : tensorB k p q L D X = true ∧ tensorB k p q L' D' X' = true ∧ SetV L' L ∧ dimsVia L' D' L = D := by
  unfold fitB bothB at h
  simp only [Bool.and_eq_true, decide_eq_true_eq] at h
  obtain ⟨⟨h1, h2, h3⟩, h4⟩ := h
  exact ⟨h1, h2, set_sym (setV_true.1 h3), h4⟩
/-- What the join asks. -/
theorem fit_facts {k p q : Int} {L D X L' D' X' : List Int} (h : fitB k p q L D X L' D' X' = true) : PF k p q L D X L L.length (widthI k q).toNat (prodL D).toNat ∧ (permDataL k q L' D' X' L).length = X.length ∧ Within (topI k p q) X ∧ Within (topI k p q) (permDataL k q L' D' X' L) := by
  obtain ⟨h1, h2, h3, h4⟩ := both_parts h
  have hp := PF.of h1 (setV_perm (List.Perm.refl L) (tensor_axes h1).2.2.2.2)
  have hq := PF.of h2 h3
  refine ⟨hp, ?_, (tensorB_inv h1).2.2.2, permX_inside (tensorB_inv h2).2.2.2⟩
  unfold permDataL
  rw [hq.len, hp.lX]
  congr 1
  have e1 := hq.dims.2.1
  rw [h4] at e1
  rw [e1, Int.toNat_natCast]
set_option maxHeartbeats 3200000 in
theorem add_tensors_spec {B B' : Nat} {lv dv xv lu du xu : Value} {k p q : Int} {L D X L' D' X' : List Int} {w : World} (ha : RdT B w lv dv xv L D X) (hb : RdT B' w lu du xu L' D' X') (hB : B ≤ w.heap.size) (hB' : B' ≤ w.heap.size) (hn : LenT L D X) (hn' : LenT L' D' X') :
    Calls Try.prog 54 #[ringV k p q, tenV lv dv xv, tenV lu du xu] w (NewTen2 w (if fitB k p q L D X L' D' X' = true then L else []) (if fitB k p q L D X L' D' X' = true then D else []) (if fitB k p q L D X L' D' X' = true then joinTenL k p q L D X L' D' X' false else []) (fitB k p q L D X L' D' X')) := by
  have HA := Lib.hid ha
  have HU := Lib.hid hb
  have HB := Lib.hid (And.intro hB hB')
  obtain ⟨al, cl, rfl, -⟩ := ints_form ha.l
  obtain ⟨ad, cd, rfl, -⟩ := ints_form ha.d
  obtain ⟨ax, cx, rfl, -⟩ := ints_form ha.x
  obtain ⟨bl, kl, rfl, -⟩ := ints_form hb.l
  obtain ⟨bd, kd, rfl, -⟩ := ints_form hb.d
  obtain ⟨bx, kx, rfl, -⟩ := ints_form hb.x
  obtain ⟨m1, hm1⟩ : ∃ m, m = L.length := ⟨_, rfl⟩
  obtain ⟨m2, hm2⟩ : ∃ m, m = D.length := ⟨_, rfl⟩
  obtain ⟨m3, hm3⟩ : ∃ m, m = X.length := ⟨_, rfl⟩
  obtain ⟨m4, hm4⟩ : ∃ m, m = L'.length := ⟨_, rfl⟩
  obtain ⟨m5, hm5⟩ : ∃ m, m = D'.length := ⟨_, rfl⟩
  obtain ⟨m6, hm6⟩ : ∃ m, m = X'.length := ⟨_, rfl⟩
  rw [← hm1, ← hm2, ← hm3] at HA ⊢
  rw [← hm4, ← hm5, ← hm6] at HU ⊢
  have HM := Lib.hid (And.intro hm1 (And.intro hm2 hm3))
  have R0 : Hid (Rs w ((((w.alloc (.cells #[.int .i64 k, .int .i64 p, .int .i64 q] 30)).alloc (.cells #[.slice al m1 cl, .slice ad m2 cd, .slice ax m3 cx] 49)).alloc (.cells #[.slice bl m4 kl, .slice bd m5 kd, .slice bx m6 kx] 49)).alloc (.cells #[nilV, nilV, nilV] 49)) [(w.heap.size + 1 + 1 + 1, nilV, nilV, nilV), (w.heap.size + 1 + 1, .slice bl m4 kl, .slice bd m5 kd, .slice bx m6 kx), (w.heap.size + 1, .slice al m1 cl, .slice ad m2 cd, .slice ax m3 cx), (w.heap.size, .int .i64 k, .int .i64 p, .int .i64 q)] []) := by
    have h := ((((Rs.start w).box (.int .i64 k) (.int .i64 p) (.int .i64 q) 30).box (.slice al m1 cl) (.slice ad m2 cd) (.slice ax m3 cx) 49).box (.slice bl m4 kl) (.slice bd m5 kd) (.slice bx m6 kx) 49).box nilV nilV nilV 49
    simp only [World.size_alloc] at h
    exact h
  have HFI := Lib.hid (fits_spec (k := k) (p := p) (q := q) (HA.out.below R0.out.bel hB) (HU.out.below R0.out.bel hB') (Nat.le_trans hB R0.out.bel.size) (Nat.le_trans hB' R0.out.bel.size) hn hn')
  have HFF := Lib.hid (fun h : fitB k p q L D X L' D' X' = true => And.intro (fit_facts h) (both_parts h))
  obtain ⟨yl, hyl⟩ : ∃ l, l = (if bothB k p q L D X L' D' X' = true then L else []) := ⟨_, rfl⟩
  obtain ⟨yd, hyd⟩ : ∃ l, l = (if bothB k p q L D X L' D' X' = true then dimsVia L' D' L else []) := ⟨_, rfl⟩
  obtain ⟨yx, hyx⟩ : ∃ l, l = (if bothB k p q L D X L' D' X' = true then permDataL k q L' D' X' L else []) := ⟨_, rfl⟩
  have HY := Lib.hid (fun h : bothB k p q L D X L' D' X' = true => (show yl = L ∧ yx = permDataL k q L' D' X' L from ⟨by rw [hyl, if_pos h], by rw [hyx, if_pos h]⟩))
  have HBF := Lib.hid (fun h : fitB k p q L D X L' D' X' = true => (show bothB k p q L D X L' D' X' = true from by unfold fitB at h; simp only [Bool.and_eq_true] at h; exact h.1))
  rw [← hyl, ← hyd, ← hyx] at HFI
  obtain ⟨fb, hfb⟩ : ∃ b, b = fitB k p q L D X L' D' X' := ⟨_, rfl⟩
  rw [← hfb] at HFI HFF HBF ⊢
  clear ha hb hB hB' hn hn' hm1 hm2 hm3 hm4 hm5 hm6 hyl hyd hyx hfb
  obtain ⟨⟨r0, r1, r2⟩, -⟩ := R0.out.at (r := w.heap.size) (a := .int .i64 k) (b := .int .i64 p) (c := .int .i64 q) (by simp)
  obtain ⟨⟨s0, s1, s2⟩, -⟩ := R0.out.at (r := w.heap.size + 1) (a := (.slice al m1 cl)) (b := (.slice ad m2 cd)) (c := (.slice ax m3 cx)) (by simp)
  obtain ⟨⟨b0, b1, b2⟩, -⟩ := R0.out.at (r := w.heap.size + 1 + 1) (a := (.slice bl m4 kl)) (b := (.slice bd m5 kd)) (c := (.slice bx m6 kx)) (by simp)
  cases fb with
  | false =>
    simp only [Bool.false_eq_true, if_false]
    go_enter Try.func54, Try.ntmps54
    go_wp2_with fail
    refine HFI.out.mono ?_
    clear r0 r1 r2 s0 s1 s2 b0 b1 b2
    rintro e w1 ⟨v1, v2, v3, rfl, ho, hb⟩
    have R1 := Lib.hid (R0.out.new3 hb ho)
    obtain ⟨g1, j1, rfl, -⟩ := ints_form ho.rows.1.rd
    obtain ⟨g2, j2, rfl, -⟩ := ints_form ho.rows.2.1.rd
    obtain ⟨g3, j3, rfl, -⟩ := ints_form ho.rows.2.2.rd
    clear ho hb
    obtain ⟨o1, ho1⟩ : ∃ m, m = yl.length := ⟨_, rfl⟩
    obtain ⟨o2, ho2⟩ : ∃ m, m = yd.length := ⟨_, rfl⟩
    obtain ⟨o3, ho3⟩ : ∃ m, m = yx.length := ⟨_, rfl⟩
    rw [← ho1, ← ho2, ← ho3] at R1 ⊢
    have HOL := Lib.hid (And.intro ho1 (And.intro ho2 ho3))
    clear ho1 ho2 ho3
    have R2 := Lib.hid (R1.out.box (.slice g1 o1 j1) (.slice g2 o2 j2) (.slice g3 o3 j3) 49)
    obtain ⟨⟨t0, t1, t2⟩, f0, f1, f2⟩ := R2.out.at (r := w.heap.size + 1 + 1 + 1) (a := nilV) (b := nilV) (c := nilV) (by simp)
    go_wp2
    refine bodyPost_ret (v := .tuple #[tenV nilV nilV nilV, .bool false]) (by simp [results, Try.results54, go_sem, t0, t1, t2]) rfl ?_
    exact NewTen2.nils ((R2.out.swapB).set3 _ _ _).bel
  | true =>
    simp only [if_true]
    obtain ⟨⟨hp, hyl, hwx, hwy⟩, -⟩ := HFF.out rfl
    obtain ⟨e1, e2⟩ := HY.out (HBF.out rfl)
    rw [← e2] at hyl hwy
    have P := Lib.hid hp
    have HYL := Lib.hid hyl
    have HW := Lib.hid (And.intro hwx hwy)
    have HRES : Hid (joinTenL k p q L D X L' D' X' false = gatherL (joinF k p (widthI k q).toNat X yx false) (prodL D).toNat) := Lib.hid (by rw [e2]; rfl)
    rw [HRES.out]
    have HMM : Hid (m1 = m2) := Lib.hid (by rw [HM.out.1, HM.out.2.1, hp.lD])
    obtain rfl := HMM.out
    rw [← HM.out.1] at P
    obtain ⟨res, hres⟩ : ∃ l, l = gatherL (joinF k p (widthI k q).toNat X yx false) (prodL D).toNat := ⟨_, rfl⟩
    have HRS := Lib.hid hres
    rw [← hres]
    clear hp hyl hwx hwy e1 e2 HFF HY HBF HRES hres HMM
    go_enter Try.func54, Try.ntmps54
    go_wp2_with fail
    refine HFI.out.mono ?_
    clear r0 r1 r2 s0 s1 s2 b0 b1 b2
    rintro e w1 ⟨v1, v2, v3, rfl, ho, hb⟩
    have R1 := Lib.hid (R0.out.new3 hb ho)
    obtain ⟨g1, j1, rfl, -⟩ := ints_form ho.rows.1.rd
    obtain ⟨g2, j2, rfl, -⟩ := ints_form ho.rows.2.1.rd
    obtain ⟨g3, j3, rfl, -⟩ := ints_form ho.rows.2.2.rd
    clear ho hb
    obtain ⟨o1, ho1⟩ : ∃ m, m = yl.length := ⟨_, rfl⟩
    obtain ⟨o2, ho2⟩ : ∃ m, m = yd.length := ⟨_, rfl⟩
    obtain ⟨o3, ho3⟩ : ∃ m, m = yx.length := ⟨_, rfl⟩
    rw [← ho1, ← ho2, ← ho3] at R1 ⊢
    have HOL := Lib.hid (And.intro ho1 (And.intro ho2 ho3))
    clear ho1 ho2 ho3
    obtain rfl : m3 = o3 := by rw [HOL.out.2.2, HYL.out, HM.out.2.2]
    have R2 := Lib.hid (R1.out.box (.slice g1 o1 j1) (.slice g2 o2 j2) (.slice g3 m3 j3) 49)
    obtain ⟨⟨r0, r1, r2⟩, -⟩ := R2.out.at (r := w.heap.size) (a := .int .i64 k) (b := .int .i64 p) (c := .int .i64 q) (by simp)
    obtain ⟨⟨s0, s1, s2⟩, -⟩ := R2.out.at (r := w.heap.size + 1) (a := (.slice al m1 cl)) (b := (.slice ad m1 cd)) (c := (.slice ax m3 cx)) (by simp)
    obtain ⟨⟨u0, u1, u2⟩, -⟩ := R2.out.at (r := w1.heap.size) (a := (.slice g1 o1 j1)) (b := (.slice g2 o2 j2)) (c := (.slice g3 m3 j3)) (by simp)
    have HJ := Lib.hid (join_full (B := (w1.alloc (.cells #[.slice g1 o1 j1, .slice g2 o2 j2, .slice g3 m3 j3] 49)).heap.size) false P.out HM.out.2.2 HYL.out HW.out.1 HW.out.2 (have hr := HA.out.below R2.out.bel HB.out.1; have hle := Nat.le_trans HB.out.1 R2.out.bel.size; ⟨hr.l.mono hle, hr.d.mono hle, hr.x.mono hle⟩) (⟨R2.out.rd (v := .slice g1 o1 j1) (xs := yl) (by simp), R2.out.rd (v := .slice g2 o2 j2) (xs := yd) (by simp), R2.out.rd (v := .slice g3 m3 j3) (xs := yx) (by simp)⟩) (Nat.le_refl _))
    rw [← HRS.out] at HJ
    go_wp2_with fail
    refine HJ.out.mono ?_
    clear r0 r1 r2 s0 s1 s2 u0 u1 u2
    rintro e w2 ⟨l', d', x', rfl, ho, hb⟩
    have R3 := Lib.hid (R2.out.step hb)
    obtain ⟨a1, c1, rfl, -⟩ := ints_form ho.rows.1.rd
    obtain ⟨a2, c2, rfl, -⟩ := ints_form ho.rows.2.1.rd
    obtain ⟨a3, c3, rfl, -⟩ := ints_form ho.rows.2.2.rd
    have lt1 := (R2.out.bx (w.heap.size + 1 + 1 + 1, nilV, nilV, nilV) (by simp)).lt
    have hz1 := R2.out.bel.size
    obtain ⟨q1, hq1⟩ : ∃ m, m = L.length := ⟨_, rfl⟩
    obtain ⟨q2, hq2⟩ : ∃ m, m = D.length := ⟨_, rfl⟩
    obtain ⟨q3, hq3⟩ : ∃ m, m = res.length := ⟨_, rfl⟩
    rw [← hq1, ← hq2, ← hq3] at ho ⊢
    have HO := Lib.hid (ho.set3 lt1 (.slice a1 q1 c1) (.slice a2 q2 c2) (.slice a3 q3 c3))
    clear hb ho hq1 hq2 hq3 HJ
    obtain ⟨⟨t0, t1, t2⟩, f0, f1, f2⟩ := R3.out.at (r := w.heap.size + 1 + 1 + 1) (a := nilV) (b := nilV) (c := nilV) (by simp)
    go_wp2
    refine bodyPost_ret (v := .tuple #[tenV (.slice a1 q1 c1) (.slice a2 q2 c2) (.slice a3 q3 c3), .bool true]) (by simp [results, Try.results54, go_sem, t0, t1, t2]) rfl ?_
    have R4 := (R3.out.swapB.set3 (.slice a1 q1 c1) (.slice a2 q2 c2) (.slice a3 q3 c3))
    exact ⟨_, _, _, rfl, HO.out.wide hz1 (by simp) (by simp), R4.bel⟩
end Go.Proofs.Ytgbmacppgaopfaa
