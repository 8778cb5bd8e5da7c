
/- spec.l07Map: the images of the elements. -/
import Derived.Test.YtjoddheakjndfaaMapC
import Derived.Deep.RegionLaw
import Derived.Deep.AppendLies
namespace Go.Proofs.Ytjoddheakjndfaa
set_option maxRecDepth 20000
open Go.RowKit

set_option maxHeartbeats 64000000 in
theorem l07_map_spec {B : Nat} {lv dv xv : Value} {fk fp fn tk tp tn hk ha : Int} {L D X : List Int} {w : World} (h : RdT B w lv dv xv L D X) (hB : B ≤ w.heap.size) (hh : homB fk fp fn tk tp tn hk ha = true) (htb : tensorB fk fp fn L D X = true) :
    Calls Try.prog 45 #[ringV fk fp fn, ringV tk tp tn, homV hk ha, tenV lv dv xv] w (NewTen w L D (mapTenL fk fn tk tp tn hk ha D X)) := by
  have HT := Lib.hid h
  have HB := Lib.hid hB
  obtain ⟨al, cl, rfl, -⟩ := ints_form h.l
  obtain ⟨ad, cd, rfl, -⟩ := ints_form h.d
  obtain ⟨ax, cx, rfl, -⟩ := ints_form h.x
  obtain ⟨m, hm⟩ : ∃ m, m = L.length := ⟨_, rfl⟩
  obtain ⟨m2, hm2⟩ : ∃ m, m = D.length := ⟨_, rfl⟩
  obtain ⟨mx, hmx⟩ : ∃ m, m = X.length := ⟨_, rfl⟩
  rw [← hm, ← hm2, ← hmx] at HT ⊢
  have hax : AxesV L D := by
    obtain ⟨-, h0, -, -⟩ := tensorB_inv htb
    rcases sizeI_cases L D with ⟨h, -⟩ | ⟨-, h2, -, -⟩
    · omega
    · exact h2
  have hl : L.length ≤ 12 := hax.1
  have hd : D.length ≤ 12 := by have := hax.1; have := hax.2.1; omega
  have hp := PF.of htb (setV_perm (List.Perm.refl L) hax.2.2.2.2)
  have HM := Lib.hid (And.intro hm (And.intro hm2 hmx))
  have HI1 := Lib.hid (fun (w1 : World) (hb : Below w.heap.size w w1) => ints_new (HT.out.below hb HB.out).l (Nat.le_trans HB.out hb.size) (by omega))
  have HI2 := Lib.hid (fun (w1 : World) (hb : Below w.heap.size w w1) => ints_new (HT.out.below hb HB.out).d (Nat.le_trans HB.out hb.size) (by omega))
  have MC := Lib.hid (MapC.start w fk fp fn tk tp tn hk ha (.slice al m cl) (.slice ad m2 cd) (.slice ax mx cx) 31 31 45 28 28)
  have MB : Hid (Below w.heap.size w (((((w.alloc (.cells #[.int .i64 fk, .int .i64 fp, .int .i64 fn] 31)).alloc (.cells #[.int .i64 tk, .int .i64 tp, .int .i64 tn] 31)).alloc (.cells #[.int .i64 hk, .int .i64 ha] 45)).alloc (.cells #[.slice al m cl, .slice ad m2 cd, .slice ax mx cx] 28)).alloc (.cells #[nilV, nilV, nilV] 28))) := Lib.hid ((((((Below.refl _ _).alloc (Nat.le_refl _) _).alloc (by simp) _).alloc (by simp; omega) _).alloc (by simp; omega) _).alloc (by simp; omega) _)
  obtain ⟨wd, hwd⟩ : ∃ n, n = (widthI fk fn).toNat := ⟨_, rfl⟩
  obtain ⟨N, hN⟩ : ∃ n, n = (prodL D).toNat := ⟨_, rfl⟩
  have HRES : Hid (mapTenL fk fn tk tp tn hk ha D X = gatherL (mapF fk tk tp tn hk ha wd X) N) := Lib.hid (by rw [hwd, hN]; rfl)
  rw [← hwd, ← hN] at hp
  rw [HRES.out]
  have P := Lib.hid hp
  have WX : Hid (Within (topI fk fp fn) X) := Lib.hid (tensorB_inv htb).2.2.2
  have HH := Lib.hid hh
  have HX : Hid (X.length = N * wd ∧ mx = N * wd ∧ mx ≤ 24576) := by
    show _ ∧ _ ∧ _
    have h1 := hp.lX
    refine ⟨h1, by rw [hmx]; exact h1, ?_⟩
    rw [hmx, h1]
    exact Nat.le_trans (Nat.mul_le_mul hp.n1.2 hp.w6.2) (by omega)
  have HCAP : Hid (capI D = (N : Int)) := Lib.hid (by
    have h3 := (capI_is (fun d hd => (hp.dD d hd).1)).1
    have := hp.n1
    rw [h3, hp.pD]; omega)
  obtain ⟨wt, hwt, hwt1, hwt2⟩ := width_nat (homB_parts hh).2.1
  have HIM : Hid (∀ i, i < N → ElemV tk tp tn (mapF fk tk tp tn hk ha wd X i)) := Lib.hid (fun i hi => image_elem hh (getL_elem hp.hw HX.out.1 WX.out hi))
  have HFL : Hid (∀ i, i < N → (mapF fk tk tp tn hk ha wd X i).length = wt) := Lib.hid (fun i hi => by
    have h1 := (HIM.out i hi).1
    omega)
  have HGA : Hid (∀ j, j ≤ N → (gatherL (mapF fk tk tp tn hk ha wd X) j).length = j * wt) := Lib.hid (fun j hj => gather_len j (fun i hi => HFL.out i (by omega)))
  have HLD := Lib.hid hd
  have HW1 := Lib.hid hwt1
  have HW2 := Lib.hid hwt2
  have hn4 := hp.n1.2
  obtain ⟨i0, hi, hz0, hz1, hz2⟩ := info_parts infoInt
  have J0 := Lib.hid hi
  have J1 := Lib.hid hz0
  have J2 := Lib.hid hz1
  have J3 := Lib.hid hz2
  clear h hB hm hm2 hmx hl hd hax hp hwd hN hwt htb hh HRES hwt1 hwt2 hi hz0 hz1 hz2
  go_enter Try.func45, Try.ntmps45
  go_upto_region 1 with fail
  obtain ⟨V0, hV0⟩ : ∃ V, V = (((((w.alloc (.cells #[.int .i64 fk, .int .i64 fp, .int .i64 fn] 31)).alloc (.cells #[.int .i64 tk, .int .i64 tp, .int .i64 tn] 31)).alloc (.cells #[.int .i64 hk, .int .i64 ha] 45)).alloc (.cells #[.slice al m cl, .slice ad m2 cd, .slice ax mx cx] 28)).alloc (.cells #[nilV, nilV, nilV] 28)) := ⟨_, rfl⟩
  rw [← hV0] at MC MB ⊢
  clear hV0
  have R := Lib.hid (Rs.start V0)
  go_cut [9] (fun sv wx => ∃ (ob : Nat) (b1 b2 : Option Addr) (d1 d2 : Nat), sv = .pointer (some ⟨ob, 0, none⟩) ∧ Hid (Rs V0 wx [(ob, .slice b1 L.length d1, .slice b2 D.length d2, nilV)] [(.slice b2 D.length d2, D), (.slice b1 L.length d1, L)]))
  case first =>
    have R := Lib.hid R.out.drew
    obtain ⟨-, -, -, -, -, -, -, -, -, s0, s1, s2, -⟩ := MC.out.step R.out.bel
    refine wp_region_held_drew (S := (fun w' => w'.cell? ⟨w.heap.size + 1 + 1 + 1, 0, none⟩ = some (.slice al m cl) ∧ w'.cell? ⟨w.heap.size + 1 + 1 + 1, 1, none⟩ = some (.slice ad m2 cd))) (by kernel_rfl) (by (try dsimp only); first | with_reducible exact ⟨s0, s1⟩ | with_reducible exact ⟨r0, r1⟩ | exact ⟨s0, s1⟩) (fun hHeld => ?_)
    refine wpAnyH_take (i := 0) (v := ?_) rfl (by kernel_rfl) (by kernel_rfl) (by kernel_rfl) (fun _ _ _ h => h) (Or.inl ⟨by rfl, ?_⟩) (by assumption) ?_
    rotate_left
    · intro w hSw; (try dsimp only at hSw); go_simp <;> with_reducible rfl
    try simp only [Act.put, List.getElem_toArray, List.getElem_cons_zero, List.setIfInBounds_toArray, List.set_cons_zero, List.set_cons_succ]
    refine wpAnyH_take (i := 1) (v := ?_) rfl (by kernel_rfl) (by kernel_rfl) (by kernel_rfl) (fun _ _ _ h => h) (Or.inl ⟨by rfl, ?_⟩) (by assumption) ?_
    rotate_left
    · intro w hSw; (try dsimp only at hSw); go_simp <;> with_reducible rfl
    try simp only [Act.put, List.getElem_toArray, List.getElem_cons_succ, List.getElem_cons_zero, List.setIfInBounds_toArray, List.set_cons_zero, List.set_cons_succ]
    refine wpAnyH_take (i := 3) (v := ?_) rfl (by kernel_rfl) (by kernel_rfl) (by kernel_rfl) (fun _ _ _ h => h) (Or.inl ⟨by rfl, ?_⟩) (by assumption) ?_
    rotate_left
    · intro w hSw; (try dsimp only at hSw); go_simp <;> with_reducible rfl
    try simp only [Act.put, List.getElem_toArray, List.getElem_cons_succ, List.getElem_cons_zero, List.setIfInBounds_toArray, List.set_cons_zero, List.set_cons_succ]
    refine wpAnyH_take (i := 4) (v := ?_) rfl (by kernel_rfl) (by kernel_rfl) (by kernel_rfl) (fun _ _ _ h => h) (Or.inl ⟨by rfl, ?_⟩) (by assumption) ?_
    rotate_left
    · intro w hSw; (try dsimp only at hSw); go_simp <;> with_reducible rfl
    try simp only [Act.put, List.getElem_toArray, List.getElem_cons_succ, List.getElem_cons_zero, List.setIfInBounds_toArray, List.set_cons_zero, List.set_cons_succ]
    refine wpAnyH_ready (rs := [2, 7]) (by kernel_rfl) (by simp) ?_
    refine AllReadyH.cons rfl (fun K hK => ?_) (AllReadyH.cons rfl (fun K hK => ?_) AllReadyH.nil)
    focus
      go_simp
      (go_at_call 62; first | (refine (HI1.out _ (MB.out.trans (R.out.bel.mono MB.out.size))).mono ?_; rintro e w5 ⟨v, rfl, ho, hb⟩; obtain ⟨b1, d1, rfl, -⟩ := ints_form ho.rd; have R := Lib.hid (R.out.new hb ho); clear hb ho s0 s1 s2; obtain ⟨-, -, -, -, -, -, -, -, -, s0, s1, s2, -⟩ := MC.out.step R.out.bel; (try clear t0 t1 t2 f0 f1 f2); (try obtain ⟨⟨t0, t1, t2⟩, f0, f1, f2⟩ := R.out.at (List.Mem.head _))) | (refine (HI2.out _ (MB.out.trans (R.out.bel.mono MB.out.size))).mono ?_; rintro e w5 ⟨v, rfl, ho, hb⟩; obtain ⟨b2, d2, rfl, -⟩ := ints_form ho.rd; have R := Lib.hid (R.out.new hb ho); clear hb ho s0 s1 s2; obtain ⟨-, -, -, -, -, -, -, -, -, s0, s1, s2, -⟩ := MC.out.step R.out.bel; (try clear t0 t1 t2 f0 f1 f2); (try obtain ⟨⟨t0, t1, t2⟩, f0, f1, f2⟩ := R.out.at (List.Mem.head _))) | fail)
      go_wp2_with fail
      refine hK.out _ _ (by (try dsimp only); first | with_reducible exact ⟨s0, s1⟩ | with_reducible exact ⟨r0, r1⟩ | exact ⟨s0, s1⟩) (fun hHeld => ?_)
      clear hK K
      try simp only [Act.put, List.getElem_toArray, List.getElem_cons_succ, List.getElem_cons_zero, List.setIfInBounds_toArray, List.set_cons_zero, List.set_cons_succ]
      refine wpAnyH_ready (rs := [5, 7]) (by kernel_rfl) (by simp) ?_
      refine AllReadyH.cons rfl (fun K hK => ?_) (AllReadyH.cons rfl (fun K hK => ?_) AllReadyH.nil)
      focus
        go_simp
        (go_at_call 62; first | (refine (HI1.out _ (MB.out.trans (R.out.bel.mono MB.out.size))).mono ?_; rintro e w5 ⟨v, rfl, ho, hb⟩; obtain ⟨b1, d1, rfl, -⟩ := ints_form ho.rd; have R := Lib.hid (R.out.new hb ho); clear hb ho s0 s1 s2; obtain ⟨-, -, -, -, -, -, -, -, -, s0, s1, s2, -⟩ := MC.out.step R.out.bel; (try clear t0 t1 t2 f0 f1 f2); (try obtain ⟨⟨t0, t1, t2⟩, f0, f1, f2⟩ := R.out.at (List.Mem.head _))) | (refine (HI2.out _ (MB.out.trans (R.out.bel.mono MB.out.size))).mono ?_; rintro e w5 ⟨v, rfl, ho, hb⟩; obtain ⟨b2, d2, rfl, -⟩ := ints_form ho.rd; have R := Lib.hid (R.out.new hb ho); clear hb ho s0 s1 s2; obtain ⟨-, -, -, -, -, -, -, -, -, s0, s1, s2, -⟩ := MC.out.step R.out.bel; (try clear t0 t1 t2 f0 f1 f2); (try obtain ⟨⟨t0, t1, t2⟩, f0, f1, f2⟩ := R.out.at (List.Mem.head _))) | fail)
        go_wp2_with fail
        refine hK.out _ _ (by (try dsimp only); first | with_reducible exact ⟨s0, s1⟩ | with_reducible exact ⟨r0, r1⟩ | exact ⟨s0, s1⟩) (fun hHeld => ?_)
        clear hK K
        try simp only [Act.put, List.getElem_toArray, List.getElem_cons_succ, List.getElem_cons_zero, List.setIfInBounds_toArray, List.set_cons_zero, List.set_cons_succ]
        refine wpAnyH_take (i := 6) (v := ?_) rfl (by kernel_rfl) (by kernel_rfl) (by kernel_rfl) (fun _ _ _ h => h) (Or.inl ⟨by rfl, ?_⟩) (by assumption) ?_
        rotate_left
        · intro w hSw; (try dsimp only at hSw); go_simp <;> with_reducible rfl
        try simp only [Act.put, List.getElem_toArray, List.getElem_cons_succ, List.getElem_cons_zero, List.setIfInBounds_toArray, List.set_cons_zero, List.set_cons_succ]
        refine wpAnyH_ready (rs := [7]) (by kernel_rfl) (by simp) ?_
        refine AllReadyH.cons rfl (fun K hK => ?_) AllReadyH.nil
        go_simp
        (have RQ := R; have R := Lib.hid (R.out.box nilV nilV nilV 28); (try simp only [World.size_drew] at R); clear s0 s1 s2; obtain ⟨-, -, -, -, -, -, -, -, -, s0, s1, s2, -⟩ := MC.out.step R.out.bel)
        refine hK.out _ _ (by (try dsimp only); first | with_reducible exact ⟨s0, s1⟩ | with_reducible exact ⟨r0, r1⟩ | exact ⟨s0, s1⟩) (fun hHeld => ?_)
        clear hK K
        try simp only [Act.put, List.getElem_toArray, List.getElem_cons_succ, List.getElem_cons_zero, List.setIfInBounds_toArray, List.set_cons_zero, List.set_cons_succ]
        refine wpAnyH_ready (rs := [8]) (by kernel_rfl) (by simp) ?_
        refine AllReadyH.cons rfl (fun K hK => ?_) AllReadyH.nil
        go_simp
        (have R3 := Lib.hid (RQ.out.box (.slice b1 L.length d1) (.slice b2 D.length d2) nilV 28); have R := Lib.hid (R.out.set3 (.slice b1 L.length d1) (.slice b2 D.length d2) nilV); clear s0 s1 s2; obtain ⟨-, -, -, -, -, -, -, -, -, s0, s1, s2, -⟩ := MC.out.step R.out.bel; obtain ⟨-, -, -, -, -, -, -, -, -, r0, r1, r2, -⟩ := MC.out.step R3.out.bel)
        refine hK.out _ _ (by (try dsimp only); first | with_reducible exact ⟨s0, s1⟩ | with_reducible exact ⟨r0, r1⟩ | exact ⟨s0, s1⟩) (fun hHeld => ?_)
        clear hK K
        try simp only [Act.put, List.getElem_toArray, List.getElem_cons_succ, List.getElem_cons_zero, List.setIfInBounds_toArray, List.set_cons_zero, List.set_cons_succ]
        refine wpAnyH_done (by kernel_rfl) ?_ _
      rotate_left 1
      focus
        go_simp
        (have RQ := R; have R := Lib.hid (R.out.box nilV nilV nilV 28); (try simp only [World.size_drew] at R); clear s0 s1 s2; obtain ⟨-, -, -, -, -, -, -, -, -, s0, s1, s2, -⟩ := MC.out.step R.out.bel)
        refine hK.out _ _ (by (try dsimp only); first | with_reducible exact ⟨s0, s1⟩ | with_reducible exact ⟨r0, r1⟩ | exact ⟨s0, s1⟩) (fun hHeld => ?_)
        clear hK K
        try simp only [Act.put, List.getElem_toArray, List.getElem_cons_succ, List.getElem_cons_zero, List.setIfInBounds_toArray, List.set_cons_zero, List.set_cons_succ]
        refine wpAnyH_ready (rs := [5]) (by kernel_rfl) (by simp) ?_
        refine AllReadyH.cons rfl (fun K hK => ?_) AllReadyH.nil
        go_simp
        (go_at_call 62; first | (refine (HI1.out _ (MB.out.trans (R.out.bel.mono MB.out.size))).mono ?_; rintro e w5 ⟨v, rfl, ho, hb⟩; obtain ⟨b1, d1, rfl, -⟩ := ints_form ho.rd; have R := Lib.hid (R.out.new hb ho); clear hb ho s0 s1 s2; obtain ⟨-, -, -, -, -, -, -, -, -, s0, s1, s2, -⟩ := MC.out.step R.out.bel; (try clear t0 t1 t2 f0 f1 f2); (try obtain ⟨⟨t0, t1, t2⟩, f0, f1, f2⟩ := R.out.at (List.Mem.head _))) | (refine (HI2.out _ (MB.out.trans (R.out.bel.mono MB.out.size))).mono ?_; rintro e w5 ⟨v, rfl, ho, hb⟩; obtain ⟨b2, d2, rfl, -⟩ := ints_form ho.rd; have R := Lib.hid (R.out.new hb ho); clear hb ho s0 s1 s2; obtain ⟨-, -, -, -, -, -, -, -, -, s0, s1, s2, -⟩ := MC.out.step R.out.bel; (try clear t0 t1 t2 f0 f1 f2); (try obtain ⟨⟨t0, t1, t2⟩, f0, f1, f2⟩ := R.out.at (List.Mem.head _))) | fail)
        go_wp2_with fail
        refine hK.out _ _ (by (try dsimp only); first | with_reducible exact ⟨s0, s1⟩ | with_reducible exact ⟨r0, r1⟩ | exact ⟨s0, s1⟩) (fun hHeld => ?_)
        clear hK K
        try simp only [Act.put, List.getElem_toArray, List.getElem_cons_succ, List.getElem_cons_zero, List.setIfInBounds_toArray, List.set_cons_zero, List.set_cons_succ]
        refine wpAnyH_take (i := 6) (v := ?_) rfl (by kernel_rfl) (by kernel_rfl) (by kernel_rfl) (fun _ _ _ h => h) (Or.inl ⟨by rfl, ?_⟩) (by assumption) ?_
        rotate_left
        · intro w hSw; (try dsimp only at hSw); go_simp <;> with_reducible rfl
        try simp only [Act.put, List.getElem_toArray, List.getElem_cons_succ, List.getElem_cons_zero, List.setIfInBounds_toArray, List.set_cons_zero, List.set_cons_succ]
        refine wpAnyH_ready (rs := [8]) (by kernel_rfl) (by simp) ?_
        refine AllReadyH.cons rfl (fun K hK => ?_) AllReadyH.nil
        go_simp
        (have R3 := Lib.hid (RQ.out.box (.slice b1 L.length d1) (.slice b2 D.length d2) nilV 28); have R := Lib.hid (R.out.set3 (.slice b1 L.length d1) (.slice b2 D.length d2) nilV); clear s0 s1 s2; obtain ⟨-, -, -, -, -, -, -, -, -, s0, s1, s2, -⟩ := MC.out.step R.out.bel; obtain ⟨-, -, -, -, -, -, -, -, -, r0, r1, r2, -⟩ := MC.out.step R3.out.bel)
        refine hK.out _ _ (by (try dsimp only); first | with_reducible exact ⟨s0, s1⟩ | with_reducible exact ⟨r0, r1⟩ | exact ⟨s0, s1⟩) (fun hHeld => ?_)
        clear hK K
        try simp only [Act.put, List.getElem_toArray, List.getElem_cons_succ, List.getElem_cons_zero, List.setIfInBounds_toArray, List.set_cons_zero, List.set_cons_succ]
        refine wpAnyH_done (by kernel_rfl) ?_ _
      rotate_left 1
    rotate_left 2
    focus
      go_simp
      (have RQ := R; have R := Lib.hid (R.out.box nilV nilV nilV 28); (try simp only [World.size_drew] at R); clear s0 s1 s2; obtain ⟨-, -, -, -, -, -, -, -, -, s0, s1, s2, -⟩ := MC.out.step R.out.bel)
      refine hK.out _ _ (by (try dsimp only); first | with_reducible exact ⟨s0, s1⟩ | with_reducible exact ⟨r0, r1⟩ | exact ⟨s0, s1⟩) (fun hHeld => ?_)
      clear hK K
      try simp only [Act.put, List.getElem_toArray, List.getElem_cons_succ, List.getElem_cons_zero, List.setIfInBounds_toArray, List.set_cons_zero, List.set_cons_succ]
      refine wpAnyH_ready (rs := [2]) (by kernel_rfl) (by simp) ?_
      refine AllReadyH.cons rfl (fun K hK => ?_) AllReadyH.nil
      go_simp
      (go_at_call 62; first | (refine (HI1.out _ (MB.out.trans (R.out.bel.mono MB.out.size))).mono ?_; rintro e w5 ⟨v, rfl, ho, hb⟩; obtain ⟨b1, d1, rfl, -⟩ := ints_form ho.rd; have R := Lib.hid (R.out.new hb ho); clear hb ho s0 s1 s2; obtain ⟨-, -, -, -, -, -, -, -, -, s0, s1, s2, -⟩ := MC.out.step R.out.bel; (try clear t0 t1 t2 f0 f1 f2); (try obtain ⟨⟨t0, t1, t2⟩, f0, f1, f2⟩ := R.out.at (List.Mem.head _))) | (refine (HI2.out _ (MB.out.trans (R.out.bel.mono MB.out.size))).mono ?_; rintro e w5 ⟨v, rfl, ho, hb⟩; obtain ⟨b2, d2, rfl, -⟩ := ints_form ho.rd; have R := Lib.hid (R.out.new hb ho); clear hb ho s0 s1 s2; obtain ⟨-, -, -, -, -, -, -, -, -, s0, s1, s2, -⟩ := MC.out.step R.out.bel; (try clear t0 t1 t2 f0 f1 f2); (try obtain ⟨⟨t0, t1, t2⟩, f0, f1, f2⟩ := R.out.at (List.Mem.head _))) | fail)
      go_wp2_with fail
      refine hK.out _ _ (by (try dsimp only); first | with_reducible exact ⟨s0, s1⟩ | with_reducible exact ⟨r0, r1⟩ | exact ⟨s0, s1⟩) (fun hHeld => ?_)
      clear hK K
      try simp only [Act.put, List.getElem_toArray, List.getElem_cons_succ, List.getElem_cons_zero, List.setIfInBounds_toArray, List.set_cons_zero, List.set_cons_succ]
      refine wpAnyH_ready (rs := [5]) (by kernel_rfl) (by simp) ?_
      refine AllReadyH.cons rfl (fun K hK => ?_) AllReadyH.nil
      go_simp
      (go_at_call 62; first | (refine (HI1.out _ (MB.out.trans (R.out.bel.mono MB.out.size))).mono ?_; rintro e w5 ⟨v, rfl, ho, hb⟩; obtain ⟨b1, d1, rfl, -⟩ := ints_form ho.rd; have R := Lib.hid (R.out.new hb ho); clear hb ho s0 s1 s2; obtain ⟨-, -, -, -, -, -, -, -, -, s0, s1, s2, -⟩ := MC.out.step R.out.bel; (try clear t0 t1 t2 f0 f1 f2); (try obtain ⟨⟨t0, t1, t2⟩, f0, f1, f2⟩ := R.out.at (List.Mem.head _))) | (refine (HI2.out _ (MB.out.trans (R.out.bel.mono MB.out.size))).mono ?_; rintro e w5 ⟨v, rfl, ho, hb⟩; obtain ⟨b2, d2, rfl, -⟩ := ints_form ho.rd; have R := Lib.hid (R.out.new hb ho); clear hb ho s0 s1 s2; obtain ⟨-, -, -, -, -, -, -, -, -, s0, s1, s2, -⟩ := MC.out.step R.out.bel; (try clear t0 t1 t2 f0 f1 f2); (try obtain ⟨⟨t0, t1, t2⟩, f0, f1, f2⟩ := R.out.at (List.Mem.head _))) | fail)
      go_wp2_with fail
      refine hK.out _ _ (by (try dsimp only); first | with_reducible exact ⟨s0, s1⟩ | with_reducible exact ⟨r0, r1⟩ | exact ⟨s0, s1⟩) (fun hHeld => ?_)
      clear hK K
      try simp only [Act.put, List.getElem_toArray, List.getElem_cons_succ, List.getElem_cons_zero, List.setIfInBounds_toArray, List.set_cons_zero, List.set_cons_succ]
      refine wpAnyH_take (i := 6) (v := ?_) rfl (by kernel_rfl) (by kernel_rfl) (by kernel_rfl) (fun _ _ _ h => h) (Or.inl ⟨by rfl, ?_⟩) (by assumption) ?_
      rotate_left
      · intro w hSw; (try dsimp only at hSw); go_simp <;> with_reducible rfl
      try simp only [Act.put, List.getElem_toArray, List.getElem_cons_succ, List.getElem_cons_zero, List.setIfInBounds_toArray, List.set_cons_zero, List.set_cons_succ]
      refine wpAnyH_ready (rs := [8]) (by kernel_rfl) (by simp) ?_
      refine AllReadyH.cons rfl (fun K hK => ?_) AllReadyH.nil
      go_simp
      (have R3 := Lib.hid (RQ.out.box (.slice b1 L.length d1) (.slice b2 D.length d2) nilV 28); have R := Lib.hid (R.out.set3 (.slice b1 L.length d1) (.slice b2 D.length d2) nilV); clear s0 s1 s2; obtain ⟨-, -, -, -, -, -, -, -, -, s0, s1, s2, -⟩ := MC.out.step R.out.bel; obtain ⟨-, -, -, -, -, -, -, -, -, r0, r1, r2, -⟩ := MC.out.step R3.out.bel)
      refine hK.out _ _ (by (try dsimp only); first | with_reducible exact ⟨s0, s1⟩ | with_reducible exact ⟨r0, r1⟩ | exact ⟨s0, s1⟩) (fun hHeld => ?_)
      clear hK K
      try simp only [Act.put, List.getElem_toArray, List.getElem_cons_succ, List.getElem_cons_zero, List.setIfInBounds_toArray, List.set_cons_zero, List.set_cons_succ]
      refine wpAnyH_done (by kernel_rfl) ?_ _
    rotate_left 1
    all_goals
      go_wp2_with fail
      go_meet
      refine ⟨_, b1, b2, d1, d2, rfl, ?_⟩
      first | with_reducible exact R | with_reducible exact R3
  obtain ⟨ob, b1, b2, d1, d2, rfl, R⟩ := hcut
  go_wp2
  go_loopw [10] (fun i wr => ∃ (j n cg : Nat) (ag : Option Addr), j ≤ N ∧ i = .int .i64 j ∧ n ≤ 24576 ∧ Hid (n = j * wt) ∧ Hid (Rs V0 wr [(ob, .slice b1 L.length d1, .slice b2 D.length d2, .slice ag n cg)] [(.slice ag n cg, gatherL (mapF fk tk tp tn hk ha wd X) j), (.slice b2 D.length d2, D), (.slice b1 L.length d1, L)])) (fun i _ => N - (intOf i).toNat)
  case atStart => exact ⟨0, 0, 0, none, by omega, rfl, by omega, by show 0 = _; simp, Lib.hid R.out.nil⟩
  case round =>
    clear R
    obtain ⟨j, n, cg, ag, hj, rfl, hn, HN, HR⟩ := hrel
    have HBW := Lib.hid (MB.out.trans (HR.out.bel.mono MB.out.size))
    have HPR := Lib.hid (product_spec (HT.out.below HBW.out HB.out).d (by have := HLD.out; omega) P.out.dD)
    rw [HCAP.out] at HPR
    obtain ⟨-, -, -, -, -, -, -, -, -, s0, s1, s2, m0, m1, m2, mf⟩ := MC.out.step HR.out.bel
    by_cases hlt : j < N
    · have hjj := Nat.mul_le_mul_right wd (show j + 1 ≤ N by omega)
      rw [Nat.add_mul, Nat.one_mul] at hjj
      have HJ := Lib.hid hjj
      have HEA := Lib.hid (getL_elem P.out.hw HX.out.1 WX.out hlt)
      have HLJ := Lib.hid (HFL.out j hlt)
      have HPL := Lib.hid ((HGA.out j (by omega)).trans HN.out.symm)
      have HSU : Hid (gatherL (mapF fk tk tp tn hk ha wd X) j ++ mapF fk tk tp tn hk ha wd X j = gatherL (mapF fk tk tp tn hk ha wd X) (j + 1)) := Lib.hid (gather_succ _ _).symm
      have NB : Hid (n + wt = (j + 1) * wt ∧ n + wt ≤ 24576) := Lib.hid (by
        have h : n + wt = (j + 1) * wt := by rw [HN.out, Nat.add_mul, Nat.one_mul]
        exact ⟨h, by rw [h]; exact Nat.le_trans (Nat.mul_le_mul (show j + 1 ≤ 4096 by omega) HW2.out) (by omega)⟩)
      clear hjj m0 m1 m2 mf
      go_wp2_with fail
      refine HPR.out.mono ?_
      rintro e w4 ⟨rfl, rfl⟩
      go_wp2
      have R6 := Lib.hid HR.out.drew
      clear s0 s1 s2 HR HPR
      obtain ⟨-, q0, q1, q2, u0, u1, u2, h0, h1, s0, s1, s2, -⟩ := MC.out.step R6.out.bel
      obtain ⟨⟨o0, o1, o2⟩, -, -, f2⟩ := R6.out.at (r := ob) (a := .slice b1 L.length d1) (b := .slice b2 D.length d2) (c := .slice ag n cg) (List.Mem.head _)
      refine wp_region_held_drew (S := (fun w' => (w'.cell? ⟨w.heap.size, 0, none⟩ = some (.int .i64 fk) ∧ w'.cell? ⟨w.heap.size, 1, none⟩ = some (.int .i64 fp) ∧ w'.cell? ⟨w.heap.size, 2, none⟩ = some (.int .i64 fn) ∧ w'.cell? ⟨w.heap.size + 1, 0, none⟩ = some (.int .i64 tk) ∧ w'.cell? ⟨w.heap.size + 1, 1, none⟩ = some (.int .i64 tp) ∧ w'.cell? ⟨w.heap.size + 1, 2, none⟩ = some (.int .i64 tn) ∧ w'.cell? ⟨w.heap.size + 1 + 1, 0, none⟩ = some (.int .i64 hk) ∧ w'.cell? ⟨w.heap.size + 1 + 1, 1, none⟩ = some (.int .i64 ha) ∧ w'.cell? ⟨w.heap.size + 1 + 1 + 1, 0, none⟩ = some (.slice al m cl) ∧ w'.cell? ⟨w.heap.size + 1 + 1 + 1, 1, none⟩ = some (.slice ad m2 cd) ∧ w'.cell? ⟨w.heap.size + 1 + 1 + 1, 2, none⟩ = some (.slice ax mx cx)))) (by kernel_rfl) (by (try dsimp only); first | exact ⟨q0, q1, q2, u0, u1, u2, h0, h1, s0, s1, s2⟩ | exact ⟨y0, y1, y2, y3, y4, y5, y6, y7, y8, y9, y10⟩) (fun hHeld => ?_)
      refine wpAnyH_take (i := 0) (v := ?_) rfl (by kernel_rfl) (by kernel_rfl) (by kernel_rfl) (fun _ _ _ h => h) (Or.inl ⟨by rfl, ?_⟩) (by assumption) ?_
      rotate_left
      · intro w hSw; (try dsimp only at hSw); go_simp <;> with_reducible rfl
      try simp only [Act.put, List.getElem_toArray, List.getElem_cons_zero, List.setIfInBounds_toArray, List.set_cons_zero, List.set_cons_succ]
      refine wpAnyH_take (i := 2) (v := ?_) rfl (by kernel_rfl) (by kernel_rfl) (by kernel_rfl) (fun _ _ _ h => h) (Or.inl ⟨by rfl, ?_⟩) (by assumption) ?_
      rotate_left
      · intro w hSw; (try dsimp only at hSw); go_simp <;> with_reducible rfl
      try simp only [Act.put, List.getElem_toArray, List.getElem_cons_succ, List.getElem_cons_zero, List.setIfInBounds_toArray, List.set_cons_zero, List.set_cons_succ]
      refine wpAnyH_take (i := 3) (v := ?_) rfl (by kernel_rfl) (by kernel_rfl) (by kernel_rfl) (fun _ _ _ h => h) (Or.inl ⟨by rfl, ?_⟩) (by assumption) ?_
      rotate_left
      · intro w hSw; (try dsimp only at hSw); go_simp <;> with_reducible rfl
      try simp only [Act.put, List.getElem_toArray, List.getElem_cons_succ, List.getElem_cons_zero, List.setIfInBounds_toArray, List.set_cons_zero, List.set_cons_succ]
      refine wpAnyH_take (i := 4) (v := ?_) rfl (by kernel_rfl) (by kernel_rfl) (by kernel_rfl) (fun _ _ _ h => h) (Or.inl ⟨by rfl, ?_⟩) (by assumption) ?_
      rotate_left
      · intro w hSw; (try dsimp only at hSw); go_simp <;> with_reducible rfl
      try simp only [Act.put, List.getElem_toArray, List.getElem_cons_succ, List.getElem_cons_zero, List.setIfInBounds_toArray, List.set_cons_zero, List.set_cons_succ]
      refine wpAnyH_take (i := 5) (v := ?_) rfl (by kernel_rfl) (by kernel_rfl) (by kernel_rfl) (fun _ _ _ h => h) (Or.inl ⟨by rfl, ?_⟩) (by assumption) ?_
      rotate_left
      · intro w hSw; (try dsimp only at hSw); go_simp <;> with_reducible rfl
      try simp only [Act.put, List.getElem_toArray, List.getElem_cons_succ, List.getElem_cons_zero, List.setIfInBounds_toArray, List.set_cons_zero, List.set_cons_succ]
      refine wpAnyH_take (i := 6) (v := ?_) rfl (by kernel_rfl) (by kernel_rfl) (by kernel_rfl) (fun _ _ _ h => h) (Or.inl ⟨by rfl, ?_⟩) (by assumption) ?_
      rotate_left
      · intro w hSw; (try dsimp only at hSw); go_simp <;> with_reducible rfl
      try simp only [Act.put, List.getElem_toArray, List.getElem_cons_succ, List.getElem_cons_zero, List.setIfInBounds_toArray, List.set_cons_zero, List.set_cons_succ]
      refine wpAnyH_take (i := 7) (v := ?_) rfl (by kernel_rfl) (by kernel_rfl) (by kernel_rfl) (fun _ _ _ h => h) (Or.inl ⟨by rfl, ?_⟩) (by assumption) ?_
      rotate_left
      · intro w hSw; (try dsimp only at hSw); go_simp <;> with_reducible rfl
      try simp only [Act.put, List.getElem_toArray, List.getElem_cons_succ, List.getElem_cons_zero, List.setIfInBounds_toArray, List.set_cons_zero, List.set_cons_succ]
      refine wpAnyH_ready (rs := [1, 8]) (by kernel_rfl) (by simp) ?_
      refine AllReadyH.cons rfl (fun K hK => ?_) (AllReadyH.cons rfl (fun K hK => ?_) AllReadyH.nil)
      focus
        go_simp
        refine hK.out _ _ (by (try dsimp only); first | exact ⟨q0, q1, q2, u0, u1, u2, h0, h1, s0, s1, s2⟩ | exact ⟨y0, y1, y2, y3, y4, y5, y6, y7, y8, y9, y10⟩) (fun hHeld => ?_)
        clear hK K
        try simp only [Act.put, List.getElem_toArray, List.getElem_cons_succ, List.getElem_cons_zero, List.setIfInBounds_toArray, List.set_cons_zero, List.set_cons_succ]
        refine wpAnyH_ready (rs := [8]) (by kernel_rfl) (by simp) ?_
        refine AllReadyH.cons rfl (fun K hK => ?_) AllReadyH.nil
        go_simp
        (go_at_call 37; refine (get_spec wd j (HT.out.below (MB.out.trans (R6.out.bel.mono MB.out.size)) HB.out) (Nat.le_trans HB.out (Nat.le_trans MB.out.size R6.out.bel.size)) P.out.hw P.out.w6.1 P.out.w6.2 (by omega) (by rw [HX.out.1]; exact HJ.out) (by rw [HX.out.1, ← HX.out.2.1]; have := HX.out.2.2; omega)).mono ?_; rintro e w5 ⟨va, rfl, ho, hb⟩; have R7 := Lib.hid (R6.out.new hb ho); have HZ := Lib.hid (R7.out.rd (v := va) (xs := getL wd X j) (List.Mem.head _)); clear hb ho q0 q1 q2 u0 u1 u2 h0 h1 s0 s1 s2 o0 o1 o2 f2; obtain ⟨-, q0, q1, q2, u0, u1, u2, h0, h1, s0, s1, s2, -⟩ := MC.out.step R7.out.bel; obtain ⟨⟨o0, o1, o2⟩, -, -, f2⟩ := R7.out.at (r := ob) (a := .slice b1 L.length d1) (b := .slice b2 D.length d2) (c := .slice ag n cg) (List.Mem.head _))
        go_wp2_with fail
        refine hK.out _ _ (by (try dsimp only); first | exact ⟨q0, q1, q2, u0, u1, u2, h0, h1, s0, s1, s2⟩ | exact ⟨y0, y1, y2, y3, y4, y5, y6, y7, y8, y9, y10⟩) (fun hHeld => ?_)
        clear hK K
        try simp only [Act.put, List.getElem_toArray, List.getElem_cons_succ, List.getElem_cons_zero, List.setIfInBounds_toArray, List.set_cons_zero, List.set_cons_succ]
        refine wpAnyH_ready (rs := [9]) (by kernel_rfl) (by simp) ?_
        refine AllReadyH.cons rfl (fun K hK => ?_) AllReadyH.nil
        go_simp
        (go_at_call 69; refine (map_any HH.out HEA.out HZ.out (Nat.le_refl _)).mono ?_; rintro e w7 ⟨zv, rfl, ho, hb⟩; obtain ⟨gz, cz, rfl, hnews⟩ := own_form ho HLJ.out HW1.out; have HNW := Lib.hid hnews; have R8 := Lib.hid (R7.out.new hb ho); have O8 := Lib.hid (R8.out.row (v := .slice ag n cg) (xs := gatherL (mapF fk tk tp tn hk ha wd X) j) (by simp) HPL.out); clear hnews hb ho q0 q1 q2 u0 u1 u2 h0 h1 s0 s1 s2 o0 o1 o2 f2; obtain ⟨-, q0, q1, q2, u0, u1, u2, h0, h1, s0, s1, s2, -⟩ := MC.out.step R8.out.bel; obtain ⟨⟨o0, o1, o2⟩, -, -, f2⟩ := R8.out.at (r := ob) (a := .slice b1 L.length d1) (b := .slice b2 D.length d2) (c := .slice ag n cg) (List.Mem.head _))
        go_wp2_with fail
        refine hK.out _ _ (by (try dsimp only); first | exact ⟨q0, q1, q2, u0, u1, u2, h0, h1, s0, s1, s2⟩ | exact ⟨y0, y1, y2, y3, y4, y5, y6, y7, y8, y9, y10⟩) (fun hHeld => ?_)
        clear hK K
        try simp only [Act.put, List.getElem_toArray, List.getElem_cons_succ, List.getElem_cons_zero, List.setIfInBounds_toArray, List.set_cons_zero, List.set_cons_succ]
        refine wpAnyH_ready (rs := [10]) (by kernel_rfl) (by simp) ?_
        refine AllReadyH.cons rfl (fun K hK => ?_) AllReadyH.nil
        (refine step_append_lies _ rfl (.tmp 26) (.tmp 34) 24 rfl V0.heap.size 3 i0 (.int .i64 0) 1 8 Try.underlying24 J0.out J1.out J2.out J3.out rfl Nat.one_pos (.slice ag n cg) n (ints (gatherL (mapF fk tk tp tn hk ha wd X) j)) rfl O8.out ⟨gz, 0, none⟩ wt cz (ints (mapF fk tk tp tn hk ha wd X j)) rfl (by rw [ints_len, HLJ.out, Nat.mul_one]) HNW.out (one_cells _) HW1.out (by unfold maxLen; have := NB.out.2; omega) (by have := NB.out.2; omega) R8.out.bel.size _ rfl ?_; intro g cap w8 hown hgrow hl _; clear q0 q1 q2 u0 u1 u2 h0 h1 s0 s1 s2 o0 o1 o2 f2; rw [← ints_append] at hown; have h11 := R8.out.third.app hown (by rw [List.length_append, HPL.out, HLJ.out]) hgrow hl; rw [HSU.out] at h11; have R11 := Lib.hid h11; obtain ⟨-, q0, q1, q2, u0, u1, u2, h0, h1, s0, s1, s2, -⟩ := MC.out.step R11.out.bel; obtain ⟨⟨-, -, k2⟩, -, -, f2⟩ := R11.out.at (r := ob) (a := .slice b1 L.length d1) (b := .slice b2 D.length d2) (c := .slice ag n cg) (List.Mem.head _); have R12 := Lib.hid ((R11.out.last (.slice (some ⟨g, 0, none⟩) (n + wt) cap)).sub (rows' := [(.slice (some ⟨g, 0, none⟩) (n + wt) cap, gatherL (mapF fk tk tp tn hk ha wd X) (j + 1)), (.slice b2 D.length d2, D), (.slice b1 L.length d1, L)]) (List.Sublist.cons_cons _ (List.Sublist.cons _ (List.Sublist.cons _ (List.Sublist.refl _))))); obtain ⟨-, y0, y1, y2, y3, y4, y5, y6, y7, y8, y9, y10, -⟩ := MC.out.step R12.out.bel; clear hown hgrow hl h11)
        refine hK.out _ _ (by (try dsimp only); first | exact ⟨q0, q1, q2, u0, u1, u2, h0, h1, s0, s1, s2⟩ | exact ⟨y0, y1, y2, y3, y4, y5, y6, y7, y8, y9, y10⟩) (fun hHeld => ?_)
        clear hK K
        try simp only [Act.put, List.getElem_toArray, List.getElem_cons_succ, List.getElem_cons_zero, List.setIfInBounds_toArray, List.set_cons_zero, List.set_cons_succ]
        refine wpAnyH_take (i := 11) (v := ?_) rfl (by kernel_rfl) (by kernel_rfl) (by kernel_rfl) (fun _ _ _ h => h) (Or.inl ⟨by rfl, ?_⟩) (by assumption) ?_
        rotate_left
        · intro w hSw; (try dsimp only at hSw); go_simp <;> with_reducible rfl
        try simp only [Act.put, List.getElem_toArray, List.getElem_cons_succ, List.getElem_cons_zero, List.setIfInBounds_toArray, List.set_cons_zero, List.set_cons_succ]
        refine wpAnyH_ready (rs := [12]) (by kernel_rfl) (by simp) ?_
        refine AllReadyH.cons rfl (fun K hK => ?_) AllReadyH.nil
        go_simp
        refine hK.out _ _ (by (try dsimp only); first | exact ⟨q0, q1, q2, u0, u1, u2, h0, h1, s0, s1, s2⟩ | exact ⟨y0, y1, y2, y3, y4, y5, y6, y7, y8, y9, y10⟩) (fun hHeld => ?_)
        clear hK K
        try simp only [Act.put, List.getElem_toArray, List.getElem_cons_succ, List.getElem_cons_zero, List.setIfInBounds_toArray, List.set_cons_zero, List.set_cons_succ]
        refine wpAnyH_done (by kernel_rfl) ?_ _
      rotate_left 1
      focus
        go_simp
        (go_at_call 37; refine (get_spec wd j (HT.out.below (MB.out.trans (R6.out.bel.mono MB.out.size)) HB.out) (Nat.le_trans HB.out (Nat.le_trans MB.out.size R6.out.bel.size)) P.out.hw P.out.w6.1 P.out.w6.2 (by omega) (by rw [HX.out.1]; exact HJ.out) (by rw [HX.out.1, ← HX.out.2.1]; have := HX.out.2.2; omega)).mono ?_; rintro e w5 ⟨va, rfl, ho, hb⟩; have R7 := Lib.hid (R6.out.new hb ho); have HZ := Lib.hid (R7.out.rd (v := va) (xs := getL wd X j) (List.Mem.head _)); clear hb ho q0 q1 q2 u0 u1 u2 h0 h1 s0 s1 s2 o0 o1 o2 f2; obtain ⟨-, q0, q1, q2, u0, u1, u2, h0, h1, s0, s1, s2, -⟩ := MC.out.step R7.out.bel; obtain ⟨⟨o0, o1, o2⟩, -, -, f2⟩ := R7.out.at (r := ob) (a := .slice b1 L.length d1) (b := .slice b2 D.length d2) (c := .slice ag n cg) (List.Mem.head _))
        go_wp2_with fail
        refine hK.out _ _ (by (try dsimp only); first | exact ⟨q0, q1, q2, u0, u1, u2, h0, h1, s0, s1, s2⟩ | exact ⟨y0, y1, y2, y3, y4, y5, y6, y7, y8, y9, y10⟩) (fun hHeld => ?_)
        clear hK K
        try simp only [Act.put, List.getElem_toArray, List.getElem_cons_succ, List.getElem_cons_zero, List.setIfInBounds_toArray, List.set_cons_zero, List.set_cons_succ]
        refine wpAnyH_ready (rs := [1, 9]) (by kernel_rfl) (by simp) ?_
        refine AllReadyH.cons rfl (fun K hK => ?_) (AllReadyH.cons rfl (fun K hK => ?_) AllReadyH.nil)
        focus
          go_simp
          refine hK.out _ _ (by (try dsimp only); first | exact ⟨q0, q1, q2, u0, u1, u2, h0, h1, s0, s1, s2⟩ | exact ⟨y0, y1, y2, y3, y4, y5, y6, y7, y8, y9, y10⟩) (fun hHeld => ?_)
          clear hK K
          try simp only [Act.put, List.getElem_toArray, List.getElem_cons_succ, List.getElem_cons_zero, List.setIfInBounds_toArray, List.set_cons_zero, List.set_cons_succ]
          refine wpAnyH_ready (rs := [9]) (by kernel_rfl) (by simp) ?_
          refine AllReadyH.cons rfl (fun K hK => ?_) AllReadyH.nil
          go_simp
          (go_at_call 69; refine (map_any HH.out HEA.out HZ.out (Nat.le_refl _)).mono ?_; rintro e w7 ⟨zv, rfl, ho, hb⟩; obtain ⟨gz, cz, rfl, hnews⟩ := own_form ho HLJ.out HW1.out; have HNW := Lib.hid hnews; have R8 := Lib.hid (R7.out.new hb ho); have O8 := Lib.hid (R8.out.row (v := .slice ag n cg) (xs := gatherL (mapF fk tk tp tn hk ha wd X) j) (by simp) HPL.out); clear hnews hb ho q0 q1 q2 u0 u1 u2 h0 h1 s0 s1 s2 o0 o1 o2 f2; obtain ⟨-, q0, q1, q2, u0, u1, u2, h0, h1, s0, s1, s2, -⟩ := MC.out.step R8.out.bel; obtain ⟨⟨o0, o1, o2⟩, -, -, f2⟩ := R8.out.at (r := ob) (a := .slice b1 L.length d1) (b := .slice b2 D.length d2) (c := .slice ag n cg) (List.Mem.head _))
          go_wp2_with fail
          refine hK.out _ _ (by (try dsimp only); first | exact ⟨q0, q1, q2, u0, u1, u2, h0, h1, s0, s1, s2⟩ | exact ⟨y0, y1, y2, y3, y4, y5, y6, y7, y8, y9, y10⟩) (fun hHeld => ?_)
          clear hK K
          try simp only [Act.put, List.getElem_toArray, List.getElem_cons_succ, List.getElem_cons_zero, List.setIfInBounds_toArray, List.set_cons_zero, List.set_cons_succ]
          refine wpAnyH_ready (rs := [10]) (by kernel_rfl) (by simp) ?_
          refine AllReadyH.cons rfl (fun K hK => ?_) AllReadyH.nil
          (refine step_append_lies _ rfl (.tmp 26) (.tmp 34) 24 rfl V0.heap.size 3 i0 (.int .i64 0) 1 8 Try.underlying24 J0.out J1.out J2.out J3.out rfl Nat.one_pos (.slice ag n cg) n (ints (gatherL (mapF fk tk tp tn hk ha wd X) j)) rfl O8.out ⟨gz, 0, none⟩ wt cz (ints (mapF fk tk tp tn hk ha wd X j)) rfl (by rw [ints_len, HLJ.out, Nat.mul_one]) HNW.out (one_cells _) HW1.out (by unfold maxLen; have := NB.out.2; omega) (by have := NB.out.2; omega) R8.out.bel.size _ rfl ?_; intro g cap w8 hown hgrow hl _; clear q0 q1 q2 u0 u1 u2 h0 h1 s0 s1 s2 o0 o1 o2 f2; rw [← ints_append] at hown; have h11 := R8.out.third.app hown (by rw [List.length_append, HPL.out, HLJ.out]) hgrow hl; rw [HSU.out] at h11; have R11 := Lib.hid h11; obtain ⟨-, q0, q1, q2, u0, u1, u2, h0, h1, s0, s1, s2, -⟩ := MC.out.step R11.out.bel; obtain ⟨⟨-, -, k2⟩, -, -, f2⟩ := R11.out.at (r := ob) (a := .slice b1 L.length d1) (b := .slice b2 D.length d2) (c := .slice ag n cg) (List.Mem.head _); have R12 := Lib.hid ((R11.out.last (.slice (some ⟨g, 0, none⟩) (n + wt) cap)).sub (rows' := [(.slice (some ⟨g, 0, none⟩) (n + wt) cap, gatherL (mapF fk tk tp tn hk ha wd X) (j + 1)), (.slice b2 D.length d2, D), (.slice b1 L.length d1, L)]) (List.Sublist.cons_cons _ (List.Sublist.cons _ (List.Sublist.cons _ (List.Sublist.refl _))))); obtain ⟨-, y0, y1, y2, y3, y4, y5, y6, y7, y8, y9, y10, -⟩ := MC.out.step R12.out.bel; clear hown hgrow hl h11)
          refine hK.out _ _ (by (try dsimp only); first | exact ⟨q0, q1, q2, u0, u1, u2, h0, h1, s0, s1, s2⟩ | exact ⟨y0, y1, y2, y3, y4, y5, y6, y7, y8, y9, y10⟩) (fun hHeld => ?_)
          clear hK K
          try simp only [Act.put, List.getElem_toArray, List.getElem_cons_succ, List.getElem_cons_zero, List.setIfInBounds_toArray, List.set_cons_zero, List.set_cons_succ]
          refine wpAnyH_take (i := 11) (v := ?_) rfl (by kernel_rfl) (by kernel_rfl) (by kernel_rfl) (fun _ _ _ h => h) (Or.inl ⟨by rfl, ?_⟩) (by assumption) ?_
          rotate_left
          · intro w hSw; (try dsimp only at hSw); go_simp <;> with_reducible rfl
          try simp only [Act.put, List.getElem_toArray, List.getElem_cons_succ, List.getElem_cons_zero, List.setIfInBounds_toArray, List.set_cons_zero, List.set_cons_succ]
          refine wpAnyH_ready (rs := [12]) (by kernel_rfl) (by simp) ?_
          refine AllReadyH.cons rfl (fun K hK => ?_) AllReadyH.nil
          go_simp
          refine hK.out _ _ (by (try dsimp only); first | exact ⟨q0, q1, q2, u0, u1, u2, h0, h1, s0, s1, s2⟩ | exact ⟨y0, y1, y2, y3, y4, y5, y6, y7, y8, y9, y10⟩) (fun hHeld => ?_)
          clear hK K
          try simp only [Act.put, List.getElem_toArray, List.getElem_cons_succ, List.getElem_cons_zero, List.setIfInBounds_toArray, List.set_cons_zero, List.set_cons_succ]
          refine wpAnyH_done (by kernel_rfl) ?_ _
        rotate_left 1
        focus
          go_simp
          (go_at_call 69; refine (map_any HH.out HEA.out HZ.out (Nat.le_refl _)).mono ?_; rintro e w7 ⟨zv, rfl, ho, hb⟩; obtain ⟨gz, cz, rfl, hnews⟩ := own_form ho HLJ.out HW1.out; have HNW := Lib.hid hnews; have R8 := Lib.hid (R7.out.new hb ho); have O8 := Lib.hid (R8.out.row (v := .slice ag n cg) (xs := gatherL (mapF fk tk tp tn hk ha wd X) j) (by simp) HPL.out); clear hnews hb ho q0 q1 q2 u0 u1 u2 h0 h1 s0 s1 s2 o0 o1 o2 f2; obtain ⟨-, q0, q1, q2, u0, u1, u2, h0, h1, s0, s1, s2, -⟩ := MC.out.step R8.out.bel; obtain ⟨⟨o0, o1, o2⟩, -, -, f2⟩ := R8.out.at (r := ob) (a := .slice b1 L.length d1) (b := .slice b2 D.length d2) (c := .slice ag n cg) (List.Mem.head _))
          go_wp2_with fail
          refine hK.out _ _ (by (try dsimp only); first | exact ⟨q0, q1, q2, u0, u1, u2, h0, h1, s0, s1, s2⟩ | exact ⟨y0, y1, y2, y3, y4, y5, y6, y7, y8, y9, y10⟩) (fun hHeld => ?_)
          clear hK K
          try simp only [Act.put, List.getElem_toArray, List.getElem_cons_succ, List.getElem_cons_zero, List.setIfInBounds_toArray, List.set_cons_zero, List.set_cons_succ]
          refine wpAnyH_ready (rs := [1]) (by kernel_rfl) (by simp) ?_
          refine AllReadyH.cons rfl (fun K hK => ?_) AllReadyH.nil
          go_simp
          refine hK.out _ _ (by (try dsimp only); first | exact ⟨q0, q1, q2, u0, u1, u2, h0, h1, s0, s1, s2⟩ | exact ⟨y0, y1, y2, y3, y4, y5, y6, y7, y8, y9, y10⟩) (fun hHeld => ?_)
          clear hK K
          try simp only [Act.put, List.getElem_toArray, List.getElem_cons_succ, List.getElem_cons_zero, List.setIfInBounds_toArray, List.set_cons_zero, List.set_cons_succ]
          refine wpAnyH_ready (rs := [10]) (by kernel_rfl) (by simp) ?_
          refine AllReadyH.cons rfl (fun K hK => ?_) AllReadyH.nil
          (refine step_append_lies _ rfl (.tmp 26) (.tmp 34) 24 rfl V0.heap.size 3 i0 (.int .i64 0) 1 8 Try.underlying24 J0.out J1.out J2.out J3.out rfl Nat.one_pos (.slice ag n cg) n (ints (gatherL (mapF fk tk tp tn hk ha wd X) j)) rfl O8.out ⟨gz, 0, none⟩ wt cz (ints (mapF fk tk tp tn hk ha wd X j)) rfl (by rw [ints_len, HLJ.out, Nat.mul_one]) HNW.out (one_cells _) HW1.out (by unfold maxLen; have := NB.out.2; omega) (by have := NB.out.2; omega) R8.out.bel.size _ rfl ?_; intro g cap w8 hown hgrow hl _; clear q0 q1 q2 u0 u1 u2 h0 h1 s0 s1 s2 o0 o1 o2 f2; rw [← ints_append] at hown; have h11 := R8.out.third.app hown (by rw [List.length_append, HPL.out, HLJ.out]) hgrow hl; rw [HSU.out] at h11; have R11 := Lib.hid h11; obtain ⟨-, q0, q1, q2, u0, u1, u2, h0, h1, s0, s1, s2, -⟩ := MC.out.step R11.out.bel; obtain ⟨⟨-, -, k2⟩, -, -, f2⟩ := R11.out.at (r := ob) (a := .slice b1 L.length d1) (b := .slice b2 D.length d2) (c := .slice ag n cg) (List.Mem.head _); have R12 := Lib.hid ((R11.out.last (.slice (some ⟨g, 0, none⟩) (n + wt) cap)).sub (rows' := [(.slice (some ⟨g, 0, none⟩) (n + wt) cap, gatherL (mapF fk tk tp tn hk ha wd X) (j + 1)), (.slice b2 D.length d2, D), (.slice b1 L.length d1, L)]) (List.Sublist.cons_cons _ (List.Sublist.cons _ (List.Sublist.cons _ (List.Sublist.refl _))))); obtain ⟨-, y0, y1, y2, y3, y4, y5, y6, y7, y8, y9, y10, -⟩ := MC.out.step R12.out.bel; clear hown hgrow hl h11)
          refine hK.out _ _ (by (try dsimp only); first | exact ⟨q0, q1, q2, u0, u1, u2, h0, h1, s0, s1, s2⟩ | exact ⟨y0, y1, y2, y3, y4, y5, y6, y7, y8, y9, y10⟩) (fun hHeld => ?_)
          clear hK K
          try simp only [Act.put, List.getElem_toArray, List.getElem_cons_succ, List.getElem_cons_zero, List.setIfInBounds_toArray, List.set_cons_zero, List.set_cons_succ]
          refine wpAnyH_take (i := 11) (v := ?_) rfl (by kernel_rfl) (by kernel_rfl) (by kernel_rfl) (fun _ _ _ h => h) (Or.inl ⟨by rfl, ?_⟩) (by assumption) ?_
          rotate_left
          · intro w hSw; (try dsimp only at hSw); go_simp <;> with_reducible rfl
          try simp only [Act.put, List.getElem_toArray, List.getElem_cons_succ, List.getElem_cons_zero, List.setIfInBounds_toArray, List.set_cons_zero, List.set_cons_succ]
          refine wpAnyH_ready (rs := [12]) (by kernel_rfl) (by simp) ?_
          refine AllReadyH.cons rfl (fun K hK => ?_) AllReadyH.nil
          go_simp
          refine hK.out _ _ (by (try dsimp only); first | exact ⟨q0, q1, q2, u0, u1, u2, h0, h1, s0, s1, s2⟩ | exact ⟨y0, y1, y2, y3, y4, y5, y6, y7, y8, y9, y10⟩) (fun hHeld => ?_)
          clear hK K
          try simp only [Act.put, List.getElem_toArray, List.getElem_cons_succ, List.getElem_cons_zero, List.setIfInBounds_toArray, List.set_cons_zero, List.set_cons_succ]
          refine wpAnyH_done (by kernel_rfl) ?_ _
        rotate_left 1
      rotate_left 2
      all_goals
        go_wp2
        go_roundw
        case rel => exact ⟨j + 1, n + wt, cap, some ⟨g, 0, none⟩, by omega, by go_num, NB.out.2, NB.out.1, R12⟩
        case measure => simp [intOf]; omega
    · obtain rfl : j = N := by omega
      have hnlt : ¬ (j : Int) < (j : Int) := by omega
      have f0 := mf 0
      have f1 := mf 1
      have f2 := mf 2
      clear mf
      obtain ⟨⟨o0, o1, o2⟩, -⟩ := HR.out.at (r := ob) (a := .slice b1 L.length d1) (b := .slice b2 D.length d2) (c := .slice ag n cg) (List.Mem.head _)
      go_wp2_with fail
      refine HPR.out.mono ?_
      rintro e w4 ⟨rfl, rfl⟩
      go_wp2
      refine bodyPost_ret (v := tenV (.slice b1 L.length d1) (.slice b2 D.length d2) (.slice ag n cg)) (by simp [results, Try.results45, go_sem, m0, m1, m2]) rfl ?_
      have hs := MC.out.lt
      have h := HR.out.third.third.swap.ownG
      refine ⟨_, _, _, rfl, OwnG.wide (lo := V0.heap.size) (hi := wr.heap.size) ⟨fun r hr => Own.set (Own.set (Own.set (h.1 r hr) (by omega) _) (by omega) _) (by omega) _, h.2⟩ (by omega) (by simp) (by simp), ((HBW.out.setCell (by simp; omega) _).setCell (by simp; omega) _).setCell (by simp; omega) _⟩
end Go.Proofs.Ytjoddheakjndfaa
