
/- spec.ScaleTensor. -/
import Derived.Test.YtjoddheakjndfaaJoinSpec
import Derived.Test.YtjoddheakjndfaaElemOk
namespace Go.Proofs.Ytjoddheakjndfaa
set_option maxRecDepth 20000
open Go.RowKit

/-- An element times the one at an offset. -/
def scaleF (k p : Int) (wd : Nat) (x X : List Int) (i : Nat) : List Int := timesL k p x (getL wd X i)
noncomputable def scaleB (k p q : Int) (L D X x : List Int) : Bool := tensorB k p q L D X && elemB k p q x
def scaleTenL (k p q : Int) (D X x : List Int) : List Int := gatherL (scaleF k p (widthI k q).toNat x X) (prodL D).toNat
set_option maxHeartbeats 6400000 in
theorem scale_tensor_spec {B : Nat} {lv dv xv gv : Value} {k p q : Int} {L D X x : List Int} {w : World} (h : RdT B w lv dv xv L D X) (hg : Rd B w gv (ints x)) (hB : B ≤ w.heap.size) (hn : LenT L D X) (hng : x.length ≤ 281474976710656) :
    Calls Try.prog 15 #[ringV k p q, tenV lv dv xv, gv] w (NewTen w (if scaleB k p q L D X x = true then L else []) (if scaleB k p q L D X x = true then D else []) (if scaleB k p q L D X x = true then scaleTenL k p q D X x else [])) := by
  have HT := Lib.hid h
  have HG := Lib.hid hg
  have HB := Lib.hid hB
  obtain ⟨al, cl, rfl, -⟩ := ints_form h.l
  obtain ⟨ad, cd, rfl, -⟩ := ints_form h.d
  obtain ⟨ax, cx, rfl, -⟩ := ints_form h.x
  obtain ⟨ag, cg, rfl, -⟩ := ints_form hg
  obtain ⟨m, hm⟩ : ∃ m, m = L.length := ⟨_, rfl⟩
  obtain ⟨m2, hm2⟩ : ∃ m, m = D.length := ⟨_, rfl⟩
  obtain ⟨mx, hmx⟩ : ∃ m, m = X.length := ⟨_, rfl⟩
  obtain ⟨mg, hmg⟩ : ∃ m, m = x.length := ⟨_, rfl⟩
  rw [← hm, ← hm2, ← hmx] at HT ⊢
  rw [← hmg] at HG ⊢
  have HM := Lib.hid (And.intro hm (And.intro hm2 hmx))
  have R0 := Lib.hid (Rs.three w k p q (.slice al m cl) (.slice ad m2 cd) (.slice ax mx cx) 31 28 28)
  have HOK := Lib.hid (fun (w1 : World) (hb : Below w.heap.size w w1) => tensor_ok_spec (k := k) (p := p) (n := q) (HT.out.below hb HB.out) (Nat.le_trans HB.out hb.size) hn)
  have HEL := Lib.hid (fun (w1 : World) (hb : Below w.heap.size w w1) (hr : ringB k p q = true) => elem_spec (k := k) (p := p) (n := q) hr (HG.out.below hb HB.out) (Nat.le_trans HB.out hb.size) hng)
  obtain ⟨tb, htb⟩ : ∃ b, b = tensorB k p q L D X := ⟨_, rfl⟩
  obtain ⟨eb, heb⟩ : ∃ b, b = elemB k p q x := ⟨_, rfl⟩
  obtain ⟨sb, hsb⟩ : ∃ b, b = scaleB k p q L D X x := ⟨_, rfl⟩
  have HSB : Hid (sb = (tb && eb)) := Lib.hid (by rw [hsb, htb, heb]; rfl)
  rw [← htb] at HOK
  rw [← heb] at HEL
  rw [← hsb]
  have HTB := Lib.hid htb
  have HEB := Lib.hid heb
  clear h hg hB hn hng htb heb hsb hm hm2 hmx hmg
  obtain ⟨⟨r0, r1, r2⟩, -⟩ := R0.out.at (r := w.heap.size) (a := .int .i64 k) (b := .int .i64 p) (c := .int .i64 q) (by simp)
  obtain ⟨⟨s0, s1, s2⟩, -⟩ := R0.out.at (r := w.heap.size + 1) (a := (.slice al m cl)) (b := (.slice ad m2 cd)) (c := (.slice ax mx cx)) (by simp)
  cases tb with
  | false =>
    obtain rfl : sb = false := by rw [HSB.out]; rfl
    simp only [Bool.false_eq_true, if_false]
    go_enter Try.func15, Try.ntmps15
    go_wp2_with fail
    refine (HOK.out _ R0.out.bel).mono ?_
    clear r0 r1 r2 s0 s1 s2
    rintro e w1 ⟨rfl, hb⟩
    have R1 := Lib.hid (R0.out.step hb)
    clear hb
    obtain ⟨⟨r0, r1, r2⟩, -⟩ := R1.out.at (r := w.heap.size) (a := .int .i64 k) (b := .int .i64 p) (c := .int .i64 q) (by simp)
    obtain ⟨⟨s0, s1, s2⟩, -⟩ := R1.out.at (r := w.heap.size + 1) (a := (.slice al m cl)) (b := (.slice ad m2 cd)) (c := (.slice ax mx cx)) (by simp)
    obtain ⟨⟨t0, t1, t2⟩, f0, f1, f2⟩ := R1.out.at (r := w.heap.size + 1 + 1) (a := nilV) (b := nilV) (c := nilV) (by simp)
    go_wp2
    refine bodyPost_ret (v := tenV nilV nilV nilV) (by simp [results, Try.results15, go_sem, t0, t1, t2]) rfl ?_
    exact NewTen.nils (R1.out.set3 _ _ _).bel
  | true =>
    have HRG : Hid (ringB k p q = true) := Lib.hid (tensorB_inv HTB.out.symm).1
    cases eb with
    | false =>
      obtain rfl : sb = false := by rw [HSB.out]; rfl
      simp only [Bool.false_eq_true, if_false]
      go_enter Try.func15, Try.ntmps15
      go_wp2_with fail
      refine (HOK.out _ R0.out.bel).mono ?_
      clear r0 r1 r2 s0 s1 s2
      rintro e w1 ⟨rfl, hb⟩
      have R1 := Lib.hid (R0.out.step hb)
      clear hb
      obtain ⟨⟨r0, r1, r2⟩, -⟩ := R1.out.at (r := w.heap.size) (a := .int .i64 k) (b := .int .i64 p) (c := .int .i64 q) (by simp)
      obtain ⟨⟨s0, s1, s2⟩, -⟩ := R1.out.at (r := w.heap.size + 1) (a := (.slice al m cl)) (b := (.slice ad m2 cd)) (c := (.slice ax mx cx)) (by simp)
      go_wp2_with fail
      refine (HEL.out _ R1.out.bel HRG.out).mono ?_
      clear r0 r1 r2 s0 s1 s2
      rintro e w2 ⟨rfl, hb⟩
      have R2 := Lib.hid (R1.out.step hb)
      clear hb
      obtain ⟨⟨r0, r1, r2⟩, -⟩ := R2.out.at (r := w.heap.size) (a := .int .i64 k) (b := .int .i64 p) (c := .int .i64 q) (by simp)
      obtain ⟨⟨s0, s1, s2⟩, -⟩ := R2.out.at (r := w.heap.size + 1) (a := (.slice al m cl)) (b := (.slice ad m2 cd)) (c := (.slice ax mx cx)) (by simp)
      obtain ⟨⟨t0, t1, t2⟩, f0, f1, f2⟩ := R2.out.at (r := w.heap.size + 1 + 1) (a := nilV) (b := nilV) (c := nilV) (by simp)
      go_wp2
      refine bodyPost_ret (v := tenV nilV nilV nilV) (by simp [results, Try.results15, go_sem, t0, t1, t2]) rfl ?_
      exact NewTen.nils (R2.out.set3 _ _ _).bel
    | true =>
      obtain rfl : sb = true := by rw [HSB.out]; rfl
      simp only [if_true]
      have hax : AxesV L D := by
        obtain ⟨-, h0, -, -⟩ := tensorB_inv HTB.out.symm
        rcases sizeI_cases L D with ⟨h, -⟩ | ⟨-, h2, -, -⟩
        · omega
        · exact h2
      have hp := PF.of HTB.out.symm (setV_perm (List.Perm.refl L) hax.2.2.2.2)
      obtain ⟨wd, hwd⟩ : ∃ n, n = (widthI k q).toNat := ⟨_, rfl⟩
      obtain ⟨N, hN⟩ : ∃ n, n = (prodL D).toNat := ⟨_, rfl⟩
      have HRES : Hid (scaleTenL k p q D X x = gatherL (scaleF k p wd x X) N) := Lib.hid (by rw [hwd, hN]; rfl)
      rw [← hwd, ← hN] at hp
      rw [HRES.out]
      have P := Lib.hid hp
      have WX : Hid (Within (topI k p q) X) := Lib.hid (tensorB_inv HTB.out.symm).2.2.2
      have EX : Hid (ElemV k p q x) := Lib.hid (elemB_true.1 HEB.out.symm)
      have hn4 := hp.n1.2
      have HX : Hid (X.length = N * wd ∧ mx = N * wd ∧ mx ≤ 24576) := by
        show _ ∧ _ ∧ _
        have h1 := hp.lX
        refine ⟨h1, by rw [HM.out.2.2]; exact h1, ?_⟩
        rw [HM.out.2.2, h1]
        exact Nat.le_trans (Nat.mul_le_mul hp.n1.2 hp.w6.2) (by omega)
      have HFL : Hid (∀ i, i < N → (scaleF k p wd x X i).length = wd) := Lib.hid (fun i hi => by
        have h1 := (timesL_elem hp.rg EX.out (getL_elem hp.hw HX.out.1 WX.out hi)).1
        rw [hp.hw] at h1
        unfold scaleF
        omega)
      have HCAP : Hid (capI D = (N : Int)) := Lib.hid (by
        have h3 := (capI_is (fun d hd => (hp.dD d hd).1)).1
        have := hp.n1
        rw [h3, hp.pD]; omega)
      have HCP := Lib.hid (fun (w1 : World) (hb : Below w.heap.size w w1) => copy_spec (HT.out.below hb HB.out) (Nat.le_trans HB.out hb.size) (by have := hax.1; omega) (by have := hax.1; have := hax.2.1; omega) (by have := HX.out; omega))
      have HLD : Hid (L.length ≤ 12 ∧ D.length ≤ 12) := Lib.hid ⟨hax.1, by have := hax.1; have := hax.2.1; omega⟩
      clear hwd hN hp hax HRES HEB HTB
      go_enter Try.func15, Try.ntmps15
      go_wp2_with fail
      refine (HOK.out _ R0.out.bel).mono ?_
      clear r0 r1 r2 s0 s1 s2
      rintro e w1 ⟨rfl, hb⟩
      have R1 := Lib.hid (R0.out.step hb)
      clear hb
      obtain ⟨⟨r0, r1, r2⟩, -⟩ := R1.out.at (r := w.heap.size) (a := .int .i64 k) (b := .int .i64 p) (c := .int .i64 q) (by simp)
      obtain ⟨⟨s0, s1, s2⟩, -⟩ := R1.out.at (r := w.heap.size + 1) (a := (.slice al m cl)) (b := (.slice ad m2 cd)) (c := (.slice ax mx cx)) (by simp)
      go_wp2_with fail
      refine (HEL.out _ R1.out.bel HRG.out).mono ?_
      clear r0 r1 r2 s0 s1 s2
      rintro e w2 ⟨rfl, hb⟩
      have R2 := Lib.hid (R1.out.step hb)
      clear hb
      obtain ⟨⟨r0, r1, r2⟩, -⟩ := R2.out.at (r := w.heap.size) (a := .int .i64 k) (b := .int .i64 p) (c := .int .i64 q) (by simp)
      obtain ⟨⟨s0, s1, s2⟩, -⟩ := R2.out.at (r := w.heap.size + 1) (a := (.slice al m cl)) (b := (.slice ad m2 cd)) (c := (.slice ax mx cx)) (by simp)
      go_wp2_with fail
      refine (HCP.out _ R2.out.bel).mono ?_
      clear r0 r1 r2 s0 s1 s2
      rintro e w3 ⟨l', d', x', rfl, ho, hb⟩
      have R3 := Lib.hid (R2.out.new3 hb ho)
      obtain ⟨a1, c1, rfl, -⟩ := ints_form ho.rows.1.rd
      obtain ⟨a2, c2, rfl, -⟩ := ints_form ho.rows.2.1.rd
      obtain ⟨a3, c3, rfl, -⟩ := ints_form ho.rows.2.2.rd
      rw [← HM.out.1, ← HM.out.2.1, ← HM.out.2.2] at R3 ⊢
      clear ho hb
      have R4 := Lib.hid (R3.out.box (.slice a1 m c1) (.slice a2 m2 c2) (.slice a3 mx c3) 28)
      obtain ⟨bs, hbs⟩ : ∃ b, b = [(w3.heap.size, Value.slice a1 m c1, Value.slice a2 m2 c2, Value.slice a3 mx c3), (w.heap.size + 1 + 1, nilV, nilV, nilV), (w.heap.size + 1, .slice al m cl, .slice ad m2 cd, .slice ax mx cx), (w.heap.size, .int .i64 k, .int .i64 p, .int .i64 q)] := ⟨_, rfl⟩
      rw [← hbs] at R4
      have HBS := Lib.hid hbs.symm
      have R5 : Hid (Rs w _ bs [(.slice a3 mx c3, overL (scaleF k p wd x X) X wd 0), (.slice a1 m c1, L), (.slice a2 m2 c2, D)]) := Lib.hid (by rw [over_zero]; exact R4.out.third)
      clear R3 R4 hbs
      go_wp2
      go_loopw [8] (fun i wr => ∃ j : Nat, j ≤ N ∧ i = .int .i64 j ∧ Hid (Rs w wr bs [(.slice a3 mx c3, overL (scaleF k p wd x X) X wd j), (.slice a1 m c1, L), (.slice a2 m2 c2, D)])) (fun i _ => N - (intOf i).toNat)
      case atStart => exact ⟨0, by omega, rfl, R5⟩
      case round =>
        clear R5
        obtain ⟨j, hj, rfl, HR⟩ := hrel
        obtain ⟨⟨s0, s1, s2⟩, -⟩ := HR.out.at (r := w.heap.size + 1) (a := (.slice al m cl)) (b := (.slice ad m2 cd)) (c := (.slice ax mx cx)) (by rw [← HBS.out]; simp)
        have HPR := Lib.hid (product_spec (HT.out.below HR.out.bel HB.out).d (by have := HLD.out.2; omega) P.out.dD)
        rw [HCAP.out] at HPR
        by_cases hlt : j < N
        · have hjj := Nat.mul_le_mul_right wd (show j + 1 ≤ N by omega)
          rw [Nat.add_mul, Nat.one_mul] at hjj
          have HJ := Lib.hid hjj
          have HEA := Lib.hid (getL_elem P.out.hw HX.out.1 WX.out hlt)
          have HOL := Lib.hid (over_len HFL.out HX.out.1 (Nat.le_of_lt hlt))
          have HPUT := Lib.hid (over_put (X := X) HFL.out hlt)
          have HF : Hid (timesL k p x (getL wd X j) = scaleF k p wd x X j) := Lib.hid rfl
          have HLJ := Lib.hid (HFL.out j hlt)
          clear hjj
          go_wp2_with fail
          refine HPR.out.mono ?_
          rintro e w4 ⟨rfl, rfl⟩
          go_wp2
          have R6 := Lib.hid HR.out.drew
          clear s0 s1 s2 HR HPR
          obtain ⟨⟨r0, r1, r2⟩, -⟩ := R6.out.at (r := w.heap.size) (a := .int .i64 k) (b := .int .i64 p) (c := .int .i64 q) (by rw [← HBS.out]; simp)
          obtain ⟨⟨s0, s1, s2⟩, -⟩ := R6.out.at (r := w.heap.size + 1) (a := (.slice al m cl)) (b := (.slice ad m2 cd)) (c := (.slice ax mx cx)) (by rw [← HBS.out]; simp)
          obtain ⟨⟨o0, o1, o2⟩, -⟩ := R6.out.at (r := w3.heap.size) (a := (.slice a1 m c1)) (b := (.slice a2 m2 c2)) (c := (.slice a3 mx c3)) (by rw [← HBS.out]; simp)
          refine wp_region_held_drew (S := (fun w' => (w'.cell? ⟨w.heap.size, 0, none⟩ = some (.int .i64 k) ∧ w'.cell? ⟨w.heap.size, 1, none⟩ = some (.int .i64 p) ∧ w'.cell? ⟨w.heap.size, 2, none⟩ = some (.int .i64 q)) ∧ (w'.cell? ⟨w.heap.size + 1, 0, none⟩ = some (.slice al m cl) ∧ w'.cell? ⟨w.heap.size + 1, 1, none⟩ = some (.slice ad m2 cd) ∧ w'.cell? ⟨w.heap.size + 1, 2, none⟩ = some (.slice ax mx cx)) ∧ (w'.cell? ⟨w3.heap.size, 0, none⟩ = some (.slice a1 m c1) ∧ w'.cell? ⟨w3.heap.size, 1, none⟩ = some (.slice a2 m2 c2) ∧ w'.cell? ⟨w3.heap.size, 2, none⟩ = some (.slice a3 mx c3)))) (by kernel_rfl) (by (try dsimp only); with_reducible exact ⟨⟨r0, r1, r2⟩, ⟨s0, s1, s2⟩, ⟨o0, o1, o2⟩⟩) (fun hHeld => ?_)
          refine wpAnyH_take (i := 0) (v := ?_) rfl (by kernel_rfl) (by kernel_rfl) (by kernel_rfl) (fun _ _ _ h => h) (Or.inl ⟨by rfl, ?_⟩) (by assumption) ?_
          rotate_left
          · intro w hSw; (try dsimp only at hSw); go_simp <;> with_reducible rfl
          try simp only [Act.put, List.getElem_toArray, List.getElem_cons_zero, List.setIfInBounds_toArray, List.set_cons_zero, List.set_cons_succ]
          refine wpAnyH_take (i := 1) (v := ?_) rfl (by kernel_rfl) (by kernel_rfl) (by kernel_rfl) (fun _ _ _ h => h) (Or.inl ⟨by rfl, ?_⟩) (by assumption) ?_
          rotate_left
          · intro w hSw; (try dsimp only at hSw); go_simp <;> with_reducible rfl
          try simp only [Act.put, List.getElem_toArray, List.getElem_cons_succ, List.getElem_cons_zero, List.setIfInBounds_toArray, List.set_cons_zero, List.set_cons_succ]
          refine wpAnyH_take (i := 2) (v := ?_) rfl (by kernel_rfl) (by kernel_rfl) (by kernel_rfl) (fun _ _ _ h => h) (Or.inl ⟨by rfl, ?_⟩) (by assumption) ?_
          rotate_left
          · intro w hSw; (try dsimp only at hSw); go_simp <;> with_reducible rfl
          try simp only [Act.put, List.getElem_toArray, List.getElem_cons_succ, List.getElem_cons_zero, List.setIfInBounds_toArray, List.set_cons_zero, List.set_cons_succ]
          refine wpAnyH_take (i := 3) (v := ?_) rfl (by kernel_rfl) (by kernel_rfl) (by kernel_rfl) (fun _ _ _ h => h) (Or.inl ⟨by rfl, ?_⟩) (by assumption) ?_
          rotate_left
          · intro w hSw; (try dsimp only at hSw); go_simp <;> with_reducible rfl
          try simp only [Act.put, List.getElem_toArray, List.getElem_cons_succ, List.getElem_cons_zero, List.setIfInBounds_toArray, List.set_cons_zero, List.set_cons_succ]
          refine wpAnyH_take (i := 4) (v := ?_) rfl (by kernel_rfl) (by kernel_rfl) (by kernel_rfl) (fun _ _ _ h => h) (Or.inl ⟨by rfl, ?_⟩) (by assumption) ?_
          rotate_left
          · intro w hSw; (try dsimp only at hSw); go_simp <;> with_reducible rfl
          try simp only [Act.put, List.getElem_toArray, List.getElem_cons_succ, List.getElem_cons_zero, List.setIfInBounds_toArray, List.set_cons_zero, List.set_cons_succ]
          refine wpAnyH_take (i := 5) (v := ?_) rfl (by kernel_rfl) (by kernel_rfl) (by kernel_rfl) (fun _ _ _ h => h) (Or.inl ⟨by rfl, ?_⟩) (by assumption) ?_
          rotate_left
          · intro w hSw; (try dsimp only at hSw); go_simp <;> with_reducible rfl
          try simp only [Act.put, List.getElem_toArray, List.getElem_cons_succ, List.getElem_cons_zero, List.setIfInBounds_toArray, List.set_cons_zero, List.set_cons_succ]
          refine wpAnyH_take (i := 6) (v := ?_) rfl (by kernel_rfl) (by kernel_rfl) (by kernel_rfl) (fun _ _ _ h => h) (Or.inl ⟨by rfl, ?_⟩) (by assumption) ?_
          rotate_left
          · intro w hSw; (try dsimp only at hSw); go_simp <;> with_reducible rfl
          try simp only [Act.put, List.getElem_toArray, List.getElem_cons_succ, List.getElem_cons_zero, List.setIfInBounds_toArray, List.set_cons_zero, List.set_cons_succ]
          refine wpAnyH_take (i := 7) (v := ?_) rfl (by kernel_rfl) (by kernel_rfl) (by kernel_rfl) (fun _ _ _ h => h) (Or.inl ⟨by rfl, ?_⟩) (by assumption) ?_
          rotate_left
          · intro w hSw; (try dsimp only at hSw); go_simp <;> with_reducible rfl
          try simp only [Act.put, List.getElem_toArray, List.getElem_cons_succ, List.getElem_cons_zero, List.setIfInBounds_toArray, List.set_cons_zero, List.set_cons_succ]
          refine wpAnyH_ready (rs := [8]) (by kernel_rfl) (by simp) ?_
          refine AllReadyH.cons rfl (fun K hK => ?_) AllReadyH.nil
          go_simp
          (go_at_call 37; refine (get_spec wd j (HT.out.below R6.out.bel HB.out) (Nat.le_trans HB.out R6.out.bel.size) P.out.hw P.out.w6.1 P.out.w6.2 (by omega) (by rw [HX.out.1]; exact HJ.out) (by rw [HX.out.1, ← HX.out.2.1]; have := HX.out.2.2; omega)).mono ?_; rintro e w5 ⟨va, rfl, ho, hb⟩; have R7 := Lib.hid (R6.out.new hb ho); obtain ⟨ga, ja, rfl, -⟩ := ints_form ho.rd; clear hb ho; clear r0 r1 r2 s0 s1 s2 o0 o1 o2; obtain ⟨⟨r0, r1, r2⟩, -⟩ := R7.out.at (r := w.heap.size) (a := .int .i64 k) (b := .int .i64 p) (c := .int .i64 q) (by rw [← HBS.out]; simp); obtain ⟨⟨s0, s1, s2⟩, -⟩ := R7.out.at (r := w.heap.size + 1) (a := (.slice al m cl)) (b := (.slice ad m2 cd)) (c := (.slice ax mx cx)) (by rw [← HBS.out]; simp); obtain ⟨⟨o0, o1, o2⟩, -⟩ := R7.out.at (r := w3.heap.size) (a := (.slice a1 m c1)) (b := (.slice a2 m2 c2)) (c := (.slice a3 mx c3)) (by rw [← HBS.out]; simp))
          go_wp2_with fail
          refine hK.out _ _ (by (try dsimp only); with_reducible exact ⟨⟨r0, r1, r2⟩, ⟨s0, s1, s2⟩, ⟨o0, o1, o2⟩⟩) (fun hHeld => ?_)
          clear hK K
          try simp only [Act.put, List.getElem_toArray, List.getElem_cons_succ, List.getElem_cons_zero, List.setIfInBounds_toArray, List.set_cons_zero, List.set_cons_succ]
          refine wpAnyH_ready (rs := [9]) (by kernel_rfl) (by simp) ?_
          refine AllReadyH.cons rfl (fun K hK => ?_) AllReadyH.nil
          go_simp
          (go_at_call 36; refine (mul_spec P.out.rg ((HG.out.below R7.out.bel HB.out).mono (Nat.le_trans HB.out R7.out.bel.size)) (R7.out.rd (v := .slice ga (getL wd X j).length ja) (xs := getL wd X j) (by simp)) (Nat.le_refl _) EX.out HEA.out).mono ?_; rw [HF.out]; rintro e w7 ⟨vc, rfl, ho, hb⟩; have R8 := Lib.hid (R7.out.new hb ho); obtain ⟨gc, jc, rfl, -⟩ := ints_form ho.rd; have HNE := Lib.hid (fun g (hg : (Value.slice gc (scaleF k p wd x X j).length jc).ownBlock = some g) => (List.pairwise_cons.1 R8.out.apart).1 (.slice a3 mx c3, overL (scaleF k p wd x X) X wd j) (by simp) g hg); clear hb ho; clear r0 r1 r2 s0 s1 s2 o0 o1 o2; obtain ⟨⟨r0, r1, r2⟩, -⟩ := R8.out.at (r := w.heap.size) (a := .int .i64 k) (b := .int .i64 p) (c := .int .i64 q) (by rw [← HBS.out]; simp); obtain ⟨⟨s0, s1, s2⟩, -⟩ := R8.out.at (r := w.heap.size + 1) (a := (.slice al m cl)) (b := (.slice ad m2 cd)) (c := (.slice ax mx cx)) (by rw [← HBS.out]; simp); obtain ⟨⟨o0, o1, o2⟩, -⟩ := R8.out.at (r := w3.heap.size) (a := (.slice a1 m c1)) (b := (.slice a2 m2 c2)) (c := (.slice a3 mx c3)) (by rw [← HBS.out]; simp))
          go_wp2_with fail
          refine hK.out _ _ (by (try dsimp only); with_reducible exact ⟨⟨r0, r1, r2⟩, ⟨s0, s1, s2⟩, ⟨o0, o1, o2⟩⟩) (fun hHeld => ?_)
          clear hK K
          try simp only [Act.put, List.getElem_toArray, List.getElem_cons_succ, List.getElem_cons_zero, List.setIfInBounds_toArray, List.set_cons_zero, List.set_cons_succ]
          refine wpAnyH_ready (rs := [10]) (by kernel_rfl) (by simp) ?_
          refine AllReadyH.cons rfl (fun K hK => ?_) AllReadyH.nil
          go_simp
          (go_at_call 35; refine (put_any wd j m c1 m2 c2 a1 a2 rfl rfl (R8.out.own1 (v := .slice a3 mx c3) (xs := overL (scaleF k p wd x X) X wd j) (by simp)) (R8.out.rd (v := .slice gc (scaleF k p wd x X j).length jc) (xs := scaleF k p wd x X j) (by simp)) (Nat.le_refl _) HNE.out P.out.hw P.out.w6.1 P.out.w6.2 HLJ.out (by omega) (by rw [HOL.out]; exact HJ.out) (by rw [HOL.out, ← HX.out.2.1]; have := HX.out.2.2; omega)).mono ?_; rw [HPUT.out]; rintro e w8 ⟨rfl, ho, hg⟩; have R9 := Lib.hid ((R8.out.sub (rows' := [(.slice a3 mx c3, overL (scaleF k p wd x X) X wd j), (.slice a1 m c1, L), (.slice a2 m2 c2, D)]) (List.Sublist.cons _ (List.Sublist.cons _ (List.Sublist.refl _)))).rewrite ho.1 hg); clear ho hg; clear r0 r1 r2 s0 s1 s2 o0 o1 o2; obtain ⟨⟨r0, r1, r2⟩, -⟩ := R9.out.at (r := w.heap.size) (a := .int .i64 k) (b := .int .i64 p) (c := .int .i64 q) (by rw [← HBS.out]; simp); obtain ⟨⟨s0, s1, s2⟩, -⟩ := R9.out.at (r := w.heap.size + 1) (a := (.slice al m cl)) (b := (.slice ad m2 cd)) (c := (.slice ax mx cx)) (by rw [← HBS.out]; simp); obtain ⟨⟨o0, o1, o2⟩, -⟩ := R9.out.at (r := w3.heap.size) (a := (.slice a1 m c1)) (b := (.slice a2 m2 c2)) (c := (.slice a3 mx c3)) (by rw [← HBS.out]; simp))
          go_wp2_with fail
          refine hK.out _ _ (by (try dsimp only); with_reducible exact ⟨⟨r0, r1, r2⟩, ⟨s0, s1, s2⟩, ⟨o0, o1, o2⟩⟩) (fun hHeld => ?_)
          clear hK K
          try simp only [Act.put, List.getElem_toArray, List.getElem_cons_succ, List.getElem_cons_zero, List.setIfInBounds_toArray, List.set_cons_zero, List.set_cons_succ]
          refine wpAnyH_done (by kernel_rfl) ?_ _
          all_goals
            go_wp2
            go_roundw
            case rel => exact ⟨j + 1, by omega, by go_num, R9⟩
            case measure => simp [intOf]; omega
        · obtain rfl : j = N := by omega
          have hnlt : ¬ (j : Int) < (j : Int) := by omega
          obtain ⟨⟨o0, o1, o2⟩, -⟩ := HR.out.at (r := w3.heap.size) (a := (.slice a1 m c1)) (b := (.slice a2 m2 c2)) (c := (.slice a3 mx c3)) (by rw [← HBS.out]; simp)
          obtain ⟨⟨t0, t1, t2⟩, f0, f1, f2⟩ := HR.out.at (r := w.heap.size + 1 + 1) (a := nilV) (b := nilV) (c := nilV) (by rw [← HBS.out]; simp)
          go_wp2_with fail
          refine HPR.out.mono ?_
          rintro e w4 ⟨rfl, rfl⟩
          go_wp2
          refine bodyPost_ret (v := tenV (.slice a1 m c1) (.slice a2 m2 c2) (.slice a3 mx c3)) (by simp [results, Try.results15, go_sem, t0, t1, t2]) rfl ?_
          have h := HR.out
          rw [← HBS.out, over_full HX.out.1] at h
          have h2 := (((h.swapB.set3 (.slice a1 m c1) (.slice a2 m2 c2) (.slice a3 mx c3)).third).third)
          exact ⟨_, _, _, rfl, h2.ownG, h2.bel⟩
end Go.Proofs.Ytjoddheakjndfaa
