
/- impl.WeightOf. -/
import Derived.Test.YtdheakjjnaifkaaCheckNet
import Derived.Test.YtdheakjjnaifkaaWeightMath
import Derived.Test.YtdheakjjnaifkaaCutImpl
import Derived.Test.YtdheakjjnaifkaaShare0
namespace Go.Proofs.Ytdheakjjnaifkaa
set_option maxRecDepth 20000
open Go.RowKit

theorem okB_in {L D K V : List Int} (hl : L.length = D.length) (hs : ∀ n ∈ L, n ∈ K) : okB L D K V = true ↔ InIx D (viaL L K V) :=
  ⟨fun h => (okc_in hl hs).1 (okB_yes h), fun h => okB_true ((okc_in hl hs).2 h)⟩
set_option maxHeartbeats 6400000 in
theorem weight_of_full {B n cap m co : Nat} {pa po : Option Addr} {vv : Value} {k p q : Int} {ts : List TenE} {O V : List Int} {w : World} (ha : RdTs B w (.slice pa n cap) ts) (ho : Rd B w (.slice po m co) (ints O)) (hB : B ≤ w.heap.size) (hn : ts.length = n) (hl : LenTs ts) (hI : ∀ t ∈ ts, allI t.1) (hm : O.length = m) (hmm : m ≤ 1048576) (hJ : allI O) (hv : Rd w.heap.size w vv (ints V)) (hV : V.length ≤ 1048576) (hVI : allI V) :
    Calls Try.prog 29 #[netV k p q (.slice pa n cap) (.slice po m co), vv] w (NewRow w (weightL k p q ts O V)) := by
  obtain ⟨av, cv, rfl, -⟩ := ints_form hv
  obtain ⟨yl, hyl⟩ : ∃ l, l = weightL k p q ts O V := ⟨_, rfl⟩
  rw [← hyl]
  have HYL := Lib.hid hyl
  clear hyl
  obtain ⟨w1, hw1⟩ : ∃ W, W = w.alloc (.cells #[.int .i64 k, .int .i64 p, .int .i64 q, .slice pa n cap, .slice po m co] 33) := ⟨_, rfl⟩
  have hb1 : Below w.heap.size w w1 := by rw [hw1]; exact (Below.refl _ _).alloc (Nat.le_refl _) _
  have hc : w1.cell? ⟨w.heap.size, 0, none⟩ = some (.int .i64 k) ∧ w1.cell? ⟨w.heap.size, 1, none⟩ = some (.int .i64 p) ∧ w1.cell? ⟨w.heap.size, 2, none⟩ = some (.int .i64 q) ∧ w1.cell? ⟨w.heap.size, 3, none⟩ = some (.slice pa n cap) ∧ w1.cell? ⟨w.heap.size, 4, none⟩ = some (.slice po m co) := by rw [hw1]; simp
  have HK := Lib.hid (check_full (k := k) (p := p) (q := q) (w := w1) ((ha.below hb1 hB).mono (Nat.le_trans hB hb1.size)) ((ho.below hb1 hB).mono (Nat.le_trans hB hb1.size)) (Nat.le_refl _) hn hl hI hm hmm hJ)
  have HTS0 := Lib.hid (ha.mono hB)
  have HV0 := Lib.hid hv
  have HVI := Lib.hid hVI
  have HB1 := Lib.hid hb1
  have HW1 := Lib.hid hw1
  have HN := Lib.hid hn
  have HLN := Lib.hid hl
  have hn1 : n ≤ 1048576 := by rw [← hn]; exact hl.1
  obtain ⟨mv, hmv⟩ : ∃ x, x = V.length := ⟨_, rfl⟩
  have HMV := Lib.hid hmv
  rw [← hmv] at HV0 hV ⊢
  obtain ⟨c0, c1, c2, c3, c4⟩ := hc
  clear ha ho hB hn hl hI hm hmm hJ hb1 hw1 hv hVI hmv
  go_enter Try.func29, Try.ntmps29
  go_upto_region 1 with fail
  rw [← HW1.out]
  clear HW1
  go_wp2_with fail
  refine HK.out.mono ?_
  clear HK c0 c1 c2 c3 c4
  rintro e w2 (⟨hvn, g, a, b, rfl, hg, ⟨k0, k1, k2, k3, k4, k5, k6⟩, hab, hne, hb2⟩ | ⟨hnv, rfl, hb2⟩)
  · have R2 := Lib.hid (((Rs.start w).step HB1.out).new2 hb2 hab)
    have HVN := Lib.hid hvn
    have HGL : Hid (g < w2.heap.size) := Lib.hid (by first | exact World.block_lt_of_cell? _ _ k0 | exact World.block_lt_of_cell? _ k0)
    obtain ⟨al, cl, rfl, -⟩ := ints_form (R2.out.rd (v := a) (xs := labT ts) (by simp))
    obtain ⟨l, hl⟩ : ∃ x, x = (labT ts).length := ⟨_, rfl⟩
    have hl100 : l ≤ 100 := by rw [hl]; exact labT_len ts
    have HL := Lib.hid hl
    rw [← hl] at k5 R2
    have HK : Hid (Rd w2.heap.size w2 (.slice al l cl) (ints (labT ts))) := Lib.hid (R2.out.rd (by simp))
    have HB2 := Lib.hid R2.out.bel
    clear hab hne hb2 hg hvn hl R2
    by_cases hlv : l = mv
    · subst hlv
      go_wp2_with fail
      refine (pair_yes w2).mono ?_
      rintro e w3 ⟨rfl, hb3⟩
      obtain ⟨WL, hWL⟩ : ∃ W, W = w3.alloc (.cells #[.slice al l cl, .slice av l cv] 68) := ⟨_, rfl⟩
      obtain ⟨ga, hga⟩ : ∃ x, x = w3.heap.size := ⟨_, rfl⟩
      have hbL : Below w2.heap.size w2 WL := by rw [hWL]; exact hb3.alloc hb3.size _
      have hcA : WL.cell? ⟨ga, 0, none⟩ = some (.slice al l cl) ∧ WL.cell? ⟨ga, 1, none⟩ = some (.slice av l cv) ∧ ga < WL.heap.size := by rw [hWL, hga]; simp
      have cg : ∀ (o : Nat) (u : Value), w2.cell? ⟨g, o, none⟩ = some u → WL.cell? ⟨g, o, none⟩ = some u := fun o u h => (hbL.cell (p := ⟨g, o, none⟩) HGL.out).trans h
      have k0 := cg 0 _ k0
      have k1 := cg 1 _ k1
      have k2 := cg 2 _ k2
      have k3 := cg 3 _ k3
      have HG : Hid (∀ W, Below WL.heap.size WL W → (W.cell? ⟨g, 0, none⟩ = some (.int .i64 k) ∧ W.cell? ⟨g, 1, none⟩ = some (.int .i64 p) ∧ W.cell? ⟨g, 2, none⟩ = some (.int .i64 q) ∧ W.cell? ⟨g, 3, none⟩ = some (.slice pa n cap)) ∧ W.cell? ⟨ga, 0, none⟩ = some (.slice al l cl) ∧ W.cell? ⟨ga, 1, none⟩ = some (.slice av l cv)) := Lib.hid (fun W h => by
        have f : ∀ (r o : Nat) (u : Value), r < WL.heap.size → WL.cell? ⟨r, o, none⟩ = some u → W.cell? ⟨r, o, none⟩ = some u := fun r o u hr hu => (h.cell (p := ⟨r, o, none⟩) hr).trans hu
        have hgl := Nat.lt_of_lt_of_le HGL.out hbL.size
        exact ⟨⟨f _ _ _ hgl k0, f _ _ _ hgl k1, f _ _ _ hgl k2, f _ _ _ hgl k3⟩, f _ _ _ hcA.2.2 hcA.1, f _ _ _ hcA.2.2 hcA.2.1⟩)
      have HBL := Lib.hid (HB2.out.trans (hbL.mono HB2.out.size))
      have HTS := Lib.hid ((HTS0.out.below HBL.out (Nat.le_refl _)).mono HBL.out.size)
      have HV := Lib.hid ((HV0.out.below HBL.out (Nat.le_refl _)).mono HBL.out.size)
      have HKK := Lib.hid ((HK.out.below hbL (Nat.le_refl _)).mono hbL.size)
      have HWL := Lib.hid hWL
      have HGA := Lib.hid hga
      clear hb3 hbL hcA cg hWL hga k4 k5 k6
      go_upto_region 7 with fail
      rw [← HWL.out, ← HGA.out]
      clear HWL
      go_wp2_with fail
      refine (one_impl k p q WL HVN.out.1).mono ?_
      rintro e w5 ⟨v5, rfl, o5, hb5⟩
      have R5 := Lib.hid ((Rs.start WL).new hb5 o5)
      clear o5 hb5 k0 k1 k2 k3
      obtain ⟨⟨k0, k1, k2, k3⟩, -⟩ := HG.out _ R5.out.bel
      go_wp2
      go_loopw [8, 41] (fun u i wr => ∃ j : Nat, j ≤ n ∧ i = .int .i64 j ∧ Hid (Rs WL wr [] [(u, wtL k p (widthI k q).toNat (labT ts) V (oneL k p q) (ts.take j))]) ∧ Hid (∀ t ∈ ts.take j, InIx t.2.1 (viaL t.1 (labT ts) V))) (fun _ i _ => n - (intOf i).toNat)
      case atStart => exact ⟨0, by omega, rfl, by rw [List.take_zero]; exact R5, Lib.hid (fun t ht => by simp at ht)⟩
      case round =>
        clear R5 k0 k1 k2 k3
        obtain ⟨j, hj, rfl, HRS, HIX⟩ := hrel
        by_cases hlt : j < n
        · obtain ⟨⟨L, D, X⟩, T1⟩ : ∃ t, Hid (ts[j]? = some t) := ⟨_, List.getElem?_eq_getElem (by rw [HN.out]; exact hlt)⟩
          obtain ⟨b', off, a1, d1, a2, d2, a3, d3, rfl, hbw, k0, k1, k2, hT⟩ := HTS.out.at T1.out
          dsimp only at k0 k1 k2 hT
          have k0 := (HRS.out.bel.cell (p := ⟨b', off + j * 3, none⟩) hbw).trans k0
          have k1 := (HRS.out.bel.cell (p := ⟨b', off + j * 3 + 1, none⟩) hbw).trans k1
          have k2 := (HRS.out.bel.cell (p := ⟨b', off + j * 3 + 2, none⟩) hbw).trans k2
          have hmem := List.mem_of_getElem? T1.out
          have htb := HVN.out.2.2.1.ten hmem
          have hax := (tensorB_axes htb).1
          dsimp only at htb hax
          have hs : ∀ x ∈ L, x ∈ labT ts := fun x hx => (mem_labT HVN.out.2.2.1.ax).2 ⟨_, hmem, hx⟩
          obtain ⟨z, hz⟩ : ∃ z, z = okB L D (labT ts) V := ⟨_, rfl⟩
          obtain ⟨XR, hXR⟩ : ∃ r, r = if okB L D (labT ts) V = true then fixX (widthI k q).toNat (cK (labT ts) V) L D X else [] := ⟨_, rfl⟩
          have HC : Hid (∀ W, Below WL.heap.size WL W → Calls Try.prog 63 #[tenV (.slice a1 L.length d1) (.slice a2 D.length d2) (.slice a3 X.length d3), ringV k p q, .agg #[.slice al l cl, .slice av l cv]] W (NewTen2 W [] [] XR z)) := Lib.hid (fun W hW => by
            have h := cut_impl (w := W) (KL := labT ts) (VL := V) htb (by rw [← HL.out, ← HMV.out]) (by rw [← HL.out]; omega) HVI.out (hT.below hW (Nat.le_refl _)) (HKK.out.below hW (Nat.le_refl _)) (HV.out.below hW (Nat.le_refl _)) hW.size hW.size
            have e1 : (if okB L D (labT ts) V = true then fixL (cK (labT ts) V) L else []) = [] := by rw [fixL_all hs]; split <;> rfl
            have e2 : (if okB L D (labT ts) V = true then fixD (cK (labT ts) V) L D else []) = [] := by rw [fixD_all hs]; split <;> rfl
            rw [e1, e2, ← hXR, ← hz] at h
            exact h)
          obtain ⟨mR, hmR⟩ : ∃ x, x = XR.length := ⟨_, rfl⟩
          have HMR := Lib.hid hmR
          have HZ := Lib.hid hz
          have HXR := Lib.hid hXR
          have HSB := Lib.hid hs
          have HTB := Lib.hid htb
          have HLD := Lib.hid hax.2.1
          obtain ⟨mL, hmL⟩ : ∃ m, m = L.length := ⟨_, rfl⟩
          obtain ⟨mD, hmD⟩ : ∃ m, m = D.length := ⟨_, rfl⟩
          obtain ⟨mX, hmX⟩ : ∃ m, m = X.length := ⟨_, rfl⟩
          have hld : mD = mL := by rw [hmL, hmD]; exact hax.2.1.symm
          subst hld
          rw [← hmL] at k0 HC
          rw [← hmD] at k1 HC
          rw [← hmX] at k2 HC
          obtain ⟨wt, hwt⟩ : ∃ r, r = wtL k p (widthI k q).toNat (labT ts) V (oneL k p q) (ts.take j) := ⟨_, rfl⟩
          rw [← hwt] at HRS
          have HWT := Lib.hid hwt
          obtain ⟨WB, hWB⟩ : ∃ W, W = wr.alloc (.cells #[.slice a1 mD d1, .slice a2 mD d2, .slice a3 mX d3] 55) := ⟨_, rfl⟩
          have RB : Hid (Rs WL WB [(wr.heap.size, .slice a1 mD d1, .slice a2 mD d2, .slice a3 mX d3)] [(u8, wt)]) := Lib.hid (by rw [hWB]; exact HRS.out.box _ _ _ _)
          have HWB := Lib.hid hWB
          clear hT hmem htb hax hs hz hXR hmR hmL hmD hmX hwt hWB hbw HRS
          go_wp2
          rw [← HWB.out]
          clear HWB
          obtain ⟨bt, hbt⟩ : ∃ x, x = wr.heap.size := ⟨_, rfl⟩
          rw [← hbt] at RB ⊢
          clear hbt k0 k1 k2
          have HS : Hid (∀ (W : World) (bs : List BxE) (rows : List RowE), Rs WL W bs rows → (bt, .slice a1 mD d1, .slice a2 mD d2, .slice a3 mX d3) ∈ bs → (W.cell? ⟨bt, 0, none⟩ = some (.slice a1 mD d1) ∧ W.cell? ⟨bt, 1, none⟩ = some (.slice a2 mD d2) ∧ W.cell? ⟨bt, 2, none⟩ = some (.slice a3 mX d3) ∧ W.cell? ⟨g, 0, none⟩ = some (.int .i64 k) ∧ W.cell? ⟨g, 1, none⟩ = some (.int .i64 p) ∧ W.cell? ⟨g, 2, none⟩ = some (.int .i64 q) ∧ W.cell? ⟨ga, 0, none⟩ = some (.slice al l cl) ∧ W.cell? ⟨ga, 1, none⟩ = some (.slice av l cv))) := Lib.hid (fun W bs rows h hm => by
            obtain ⟨⟨q0, q1, q2, -⟩, q3, q4⟩ := HG.out W h.bel
            obtain ⟨⟨t0, t1, t2⟩, -⟩ := h.at hm
            exact ⟨t0, t1, t2, q0, q1, q2, q3, q4⟩)
          have RX : Hid ((WB.drew.cell? ⟨bt, 0, none⟩ = some (.slice a1 mD d1) ∧ WB.drew.cell? ⟨bt, 1, none⟩ = some (.slice a2 mD d2) ∧ WB.drew.cell? ⟨bt, 2, none⟩ = some (.slice a3 mX d3) ∧ WB.drew.cell? ⟨g, 0, none⟩ = some (.int .i64 k) ∧ WB.drew.cell? ⟨g, 1, none⟩ = some (.int .i64 p) ∧ WB.drew.cell? ⟨g, 2, none⟩ = some (.int .i64 q) ∧ WB.drew.cell? ⟨ga, 0, none⟩ = some (.slice al l cl) ∧ WB.drew.cell? ⟨ga, 1, none⟩ = some (.slice av l cv)) ∧ Rs WL WB.drew [(bt, .slice a1 mD d1, .slice a2 mD d2, .slice a3 mX d3)] [(u8, wt)]) := Lib.hid ⟨HS.out _ _ _ RB.out.drew (by simp), RB.out.drew⟩
          clear RB
          refine wp_region_held_drew (S := (fun w' => w'.cell? ⟨bt, 0, none⟩ = some (.slice a1 mD d1) ∧ w'.cell? ⟨bt, 1, none⟩ = some (.slice a2 mD d2) ∧ w'.cell? ⟨bt, 2, none⟩ = some (.slice a3 mX d3) ∧ w'.cell? ⟨g, 0, none⟩ = some (.int .i64 k) ∧ w'.cell? ⟨g, 1, none⟩ = some (.int .i64 p) ∧ w'.cell? ⟨g, 2, none⟩ = some (.int .i64 q) ∧ w'.cell? ⟨ga, 0, none⟩ = some (.slice al l cl) ∧ w'.cell? ⟨ga, 1, none⟩ = some (.slice av l cv))) (by kernel_rfl) (by (try dsimp only); with_reducible exact RX.out.1) (fun hHeld => ?_)
          obtain ⟨WX, hW⟩ : ∃ W, W = WB.drew := ⟨_, rfl⟩
          rw [← hW] at hHeld RX ⊢
          clear hW
          refine wpAnyH_take (i := 0) (v := ?_) rfl (by kernel_rfl) (by kernel_rfl) (by kernel_rfl) (fun _ _ _ h => h) (Or.inl ⟨by rfl, ?_⟩) (by assumption) ?_
          rotate_left
          · intro w hSw; (try dsimp only at hSw); go_simp <;> with_reducible rfl
          try simp only [Act.put, List.getElem_toArray, List.getElem_cons_zero, List.setIfInBounds_toArray, List.set_cons_zero, List.set_cons_succ]
          refine wpAnyH_take (i := 1) (v := ?_) rfl (by kernel_rfl) (by kernel_rfl) (by kernel_rfl) (fun _ _ _ h => h) (Or.inl ⟨by rfl, ?_⟩) (by assumption) ?_
          rotate_left
          · intro w hSw; (try dsimp only at hSw); go_simp <;> with_reducible rfl
          try simp only [Act.put, List.getElem_toArray, List.getElem_cons_succ, List.getElem_cons_zero, List.setIfInBounds_toArray, List.set_cons_zero, List.set_cons_succ]
          refine wpAnyH_take (i := 2) (v := ?_) rfl (by kernel_rfl) (by kernel_rfl) (by kernel_rfl) (fun _ _ _ h => h) (Or.inl ⟨by rfl, ?_⟩) (by assumption) ?_
          rotate_left
          · intro w hSw; (try dsimp only at hSw); go_simp <;> with_reducible rfl
          try simp only [Act.put, List.getElem_toArray, List.getElem_cons_succ, List.getElem_cons_zero, List.setIfInBounds_toArray, List.set_cons_zero, List.set_cons_succ]
          refine wpAnyH_take (i := 3) (v := ?_) rfl (by kernel_rfl) (by kernel_rfl) (by kernel_rfl) (fun _ _ _ h => h) (Or.inl ⟨by rfl, ?_⟩) (by assumption) ?_
          rotate_left
          · intro w hSw; (try dsimp only at hSw); go_simp <;> with_reducible rfl
          try simp only [Act.put, List.getElem_toArray, List.getElem_cons_succ, List.getElem_cons_zero, List.setIfInBounds_toArray, List.set_cons_zero, List.set_cons_succ]
          refine wpAnyH_take (i := 4) (v := ?_) rfl (by kernel_rfl) (by kernel_rfl) (by kernel_rfl) (fun _ _ _ h => h) (Or.inl ⟨by rfl, ?_⟩) (by assumption) ?_
          rotate_left
          · intro w hSw; (try dsimp only at hSw); go_simp <;> with_reducible rfl
          try simp only [Act.put, List.getElem_toArray, List.getElem_cons_succ, List.getElem_cons_zero, List.setIfInBounds_toArray, List.set_cons_zero, List.set_cons_succ]
          refine wpAnyH_take (i := 5) (v := ?_) rfl (by kernel_rfl) (by kernel_rfl) (by kernel_rfl) (fun _ _ _ h => h) (Or.inl ⟨by rfl, ?_⟩) (by assumption) ?_
          rotate_left
          · intro w hSw; (try dsimp only at hSw); go_simp <;> with_reducible rfl
          try simp only [Act.put, List.getElem_toArray, List.getElem_cons_succ, List.getElem_cons_zero, List.setIfInBounds_toArray, List.set_cons_zero, List.set_cons_succ]
          refine wpAnyH_take (i := 6) (v := ?_) rfl (by kernel_rfl) (by kernel_rfl) (by kernel_rfl) (fun _ _ _ h => h) (Or.inl ⟨by rfl, ?_⟩) (by assumption) ?_
          rotate_left
          · intro w hSw; (try dsimp only at hSw); go_simp <;> with_reducible rfl
          try simp only [Act.put, List.getElem_toArray, List.getElem_cons_succ, List.getElem_cons_zero, List.setIfInBounds_toArray, List.set_cons_zero, List.set_cons_succ]
          apply share8 (F := fun (p1 : Option Addr) (c1 : Nat) (p2 : Option Addr) (c2 : Nat) (p3 : Option Addr) (c3 : Nat) (gs : Nat) (WX : World) => Hid ((WX.cell? ⟨bt, 0, none⟩ = some (.slice a1 mD d1) ∧ WX.cell? ⟨bt, 1, none⟩ = some (.slice a2 mD d2) ∧ WX.cell? ⟨bt, 2, none⟩ = some (.slice a3 mX d3) ∧ WX.cell? ⟨g, 0, none⟩ = some (.int .i64 k) ∧ WX.cell? ⟨g, 1, none⟩ = some (.int .i64 p) ∧ WX.cell? ⟨g, 2, none⟩ = some (.int .i64 q) ∧ WX.cell? ⟨ga, 0, none⟩ = some (.slice al l cl) ∧ WX.cell? ⟨ga, 1, none⟩ = some (.slice av l cv)) ∧ Rs WL WX [(gs, .slice p1 0 c1, .slice p2 0 c2, .slice p3 mR c3), (bt, .slice a1 mD d1, .slice a2 mD d2, .slice a3 mX d3)] [(.slice p1 0 c1, []), (.slice p2 0 c2, []), (.slice p3 mR c3, XR), (u8, wt)]))
          intro K7_11_12
          apply share8 (F := fun (p1 : Option Addr) (c1 : Nat) (p2 : Option Addr) (c2 : Nat) (p3 : Option Addr) (c3 : Nat) (gs : Nat) (WX : World) => Hid ((WX.cell? ⟨bt, 0, none⟩ = some (.slice a1 mD d1) ∧ WX.cell? ⟨bt, 1, none⟩ = some (.slice a2 mD d2) ∧ WX.cell? ⟨bt, 2, none⟩ = some (.slice a3 mX d3) ∧ WX.cell? ⟨g, 0, none⟩ = some (.int .i64 k) ∧ WX.cell? ⟨g, 1, none⟩ = some (.int .i64 p) ∧ WX.cell? ⟨g, 2, none⟩ = some (.int .i64 q) ∧ WX.cell? ⟨ga, 0, none⟩ = some (.slice al l cl) ∧ WX.cell? ⟨ga, 1, none⟩ = some (.slice av l cv)) ∧ Rs WL WX [(gs, nilV, nilV, nilV), (bt, .slice a1 mD d1, .slice a2 mD d2, .slice a3 mX d3)] [(.slice p1 0 c1, []), (.slice p2 0 c2, []), (.slice p3 mR c3, XR), (u8, wt)]))
          intro K7_11
          apply share7 (F := fun (p1 : Option Addr) (c1 : Nat) (p2 : Option Addr) (c2 : Nat) (p3 : Option Addr) (c3 : Nat) (WX : World) => Hid ((WX.cell? ⟨bt, 0, none⟩ = some (.slice a1 mD d1) ∧ WX.cell? ⟨bt, 1, none⟩ = some (.slice a2 mD d2) ∧ WX.cell? ⟨bt, 2, none⟩ = some (.slice a3 mX d3) ∧ WX.cell? ⟨g, 0, none⟩ = some (.int .i64 k) ∧ WX.cell? ⟨g, 1, none⟩ = some (.int .i64 p) ∧ WX.cell? ⟨g, 2, none⟩ = some (.int .i64 q) ∧ WX.cell? ⟨ga, 0, none⟩ = some (.slice al l cl) ∧ WX.cell? ⟨ga, 1, none⟩ = some (.slice av l cv)) ∧ Rs WL WX [(bt, .slice a1 mD d1, .slice a2 mD d2, .slice a3 mX d3)] [(.slice p1 0 c1, []), (.slice p2 0 c2, []), (.slice p3 mR c3, XR), (u8, wt)]))
          intro K7
          apply share2 (F := fun (gs : Nat) (WX : World) => Hid ((WX.cell? ⟨bt, 0, none⟩ = some (.slice a1 mD d1) ∧ WX.cell? ⟨bt, 1, none⟩ = some (.slice a2 mD d2) ∧ WX.cell? ⟨bt, 2, none⟩ = some (.slice a3 mX d3) ∧ WX.cell? ⟨g, 0, none⟩ = some (.int .i64 k) ∧ WX.cell? ⟨g, 1, none⟩ = some (.int .i64 p) ∧ WX.cell? ⟨g, 2, none⟩ = some (.int .i64 q) ∧ WX.cell? ⟨ga, 0, none⟩ = some (.slice al l cl) ∧ WX.cell? ⟨ga, 1, none⟩ = some (.slice av l cv)) ∧ Rs WL WX [(gs, nilV, nilV, nilV), (bt, .slice a1 mD d1, .slice a2 mD d2, .slice a3 mX d3)] [(u8, wt)]))
          intro K11
          focus
            refine wpAnyH_ready (rs := [7, 11]) (by kernel_rfl) (by simp) ?_
            refine AllReadyH.cons rfl (fun K hK => ?_) (AllReadyH.cons rfl (fun K hK => ?_) AllReadyH.nil)
            focus
              (go_simp; refine (HC.out WX RX.out.2.bel).mono ?_; rintro e WY ⟨v1, v2, v3, rfl, ho, hb⟩; obtain ⟨p1, c1, rfl, -⟩ := ints_form ho.rows.1.rd; obtain ⟨p2, c2, rfl, -⟩ := ints_form ho.rows.2.1.rd; obtain ⟨p3, c3, rfl, -⟩ := ints_form ho.rows.2.2.rd; rw [← HMR.out] at ho ⊢; have RY := RX.out.2.new3 hb ho; clear ho hb; replace RX : Hid ((WY.cell? ⟨bt, 0, none⟩ = some (.slice a1 mD d1) ∧ WY.cell? ⟨bt, 1, none⟩ = some (.slice a2 mD d2) ∧ WY.cell? ⟨bt, 2, none⟩ = some (.slice a3 mX d3) ∧ WY.cell? ⟨g, 0, none⟩ = some (.int .i64 k) ∧ WY.cell? ⟨g, 1, none⟩ = some (.int .i64 p) ∧ WY.cell? ⟨g, 2, none⟩ = some (.int .i64 q) ∧ WY.cell? ⟨ga, 0, none⟩ = some (.slice al l cl) ∧ WY.cell? ⟨ga, 1, none⟩ = some (.slice av l cv)) ∧ Rs WL WY [(bt, .slice a1 mD d1, .slice a2 mD d2, .slice a3 mX d3)] [(.slice p1 0 c1, []), (.slice p2 0 c2, []), (.slice p3 mR c3, XR), (u8, wt)]) := Lib.hid ⟨HS.out _ _ _ RY (by simp), RY⟩; clear RY; obtain ⟨WX, hW⟩ : ∃ W, W = WY := ⟨_, rfl⟩; rw [← hW] at RX ⊢; clear hW; change K _ _)
              refine hK.out _ _ (by (try dsimp only); with_reducible exact RX.out.1) (fun hHeld => ?_)
              clear hK K
              try simp only [Act.put, List.getElem_toArray, List.getElem_cons_succ, List.getElem_cons_zero, List.setIfInBounds_toArray, List.set_cons_zero, List.set_cons_succ]
              refine wpAnyH_take (i := 8) (v := ?_) rfl (by kernel_rfl) (by kernel_rfl) (by kernel_rfl) (fun _ _ _ h => h) (Or.inl ⟨by rfl, ?_⟩) (by assumption) ?_
              rotate_left
              · intro w hSw; (try dsimp only at hSw); go_simp <;> with_reducible rfl
              try simp only [Act.put, List.getElem_toArray, List.getElem_cons_succ, List.getElem_cons_zero, List.setIfInBounds_toArray, List.set_cons_zero, List.set_cons_succ]
              refine wpAnyH_take (i := 9) (v := ?_) rfl (by kernel_rfl) (by kernel_rfl) (by kernel_rfl) (fun _ _ _ h => h) (Or.inl ⟨by rfl, ?_⟩) (by assumption) ?_
              rotate_left
              · intro w hSw; (try dsimp only at hSw); go_simp <;> with_reducible rfl
              try simp only [Act.put, List.getElem_toArray, List.getElem_cons_succ, List.getElem_cons_zero, List.setIfInBounds_toArray, List.set_cons_zero, List.set_cons_succ]
              refine wpAnyH_take (i := 10) (v := ?_) rfl (by kernel_rfl) (by kernel_rfl) (by kernel_rfl) (fun _ _ _ h => h) (Or.inl ⟨by rfl, ?_⟩) (by assumption) ?_
              rotate_left
              · intro w hSw; (try dsimp only at hSw); go_simp <;> with_reducible rfl
              try simp only [Act.put, List.getElem_toArray, List.getElem_cons_succ, List.getElem_cons_zero, List.setIfInBounds_toArray, List.set_cons_zero, List.set_cons_succ]
              exact K7.out p1 c1 p2 c2 p3 c3 WX RX
            focus
              (go_simp; obtain ⟨WY, gs, hW, hg, RY⟩ := RX.out.2.boxR0 nilV nilV nilV 55; rw [hW]; (try rw [hg]); clear hW hg; replace RX : Hid ((WY.cell? ⟨bt, 0, none⟩ = some (.slice a1 mD d1) ∧ WY.cell? ⟨bt, 1, none⟩ = some (.slice a2 mD d2) ∧ WY.cell? ⟨bt, 2, none⟩ = some (.slice a3 mX d3) ∧ WY.cell? ⟨g, 0, none⟩ = some (.int .i64 k) ∧ WY.cell? ⟨g, 1, none⟩ = some (.int .i64 p) ∧ WY.cell? ⟨g, 2, none⟩ = some (.int .i64 q) ∧ WY.cell? ⟨ga, 0, none⟩ = some (.slice al l cl) ∧ WY.cell? ⟨ga, 1, none⟩ = some (.slice av l cv)) ∧ Rs WL WY [(gs, nilV, nilV, nilV), (bt, .slice a1 mD d1, .slice a2 mD d2, .slice a3 mX d3)] [(u8, wt)]) := Lib.hid ⟨HS.out _ _ _ RY (by simp), RY⟩; clear RY; obtain ⟨WX, hW⟩ : ∃ W, W = WY := ⟨_, rfl⟩; rw [← hW] at RX ⊢; clear hW)
              refine hK.out _ _ (by (try dsimp only); with_reducible exact RX.out.1) (fun hHeld => ?_)
              clear hK K
              try simp only [Act.put, List.getElem_toArray, List.getElem_cons_succ, List.getElem_cons_zero, List.setIfInBounds_toArray, List.set_cons_zero, List.set_cons_succ]
              exact K11.out gs WX RX
          focus
            intro gs WX RX
            have hHeld : ((fun w' => w'.cell? ⟨bt, 0, none⟩ = some (.slice a1 mD d1) ∧ w'.cell? ⟨bt, 1, none⟩ = some (.slice a2 mD d2) ∧ w'.cell? ⟨bt, 2, none⟩ = some (.slice a3 mX d3) ∧ w'.cell? ⟨g, 0, none⟩ = some (.int .i64 k) ∧ w'.cell? ⟨g, 1, none⟩ = some (.int .i64 p) ∧ w'.cell? ⟨g, 2, none⟩ = some (.int .i64 q) ∧ w'.cell? ⟨ga, 0, none⟩ = some (.slice al l cl) ∧ w'.cell? ⟨ga, 1, none⟩ = some (.slice av l cv))) WX := by (try dsimp only); with_reducible exact RX.out.1
            refine wpAnyH_ready (rs := [7]) (by kernel_rfl) (by simp) ?_
            refine AllReadyH.cons rfl (fun K hK => ?_) AllReadyH.nil
            focus
              (go_simp; refine (HC.out WX RX.out.2.bel).mono ?_; rintro e WY ⟨v1, v2, v3, rfl, ho, hb⟩; obtain ⟨p1, c1, rfl, -⟩ := ints_form ho.rows.1.rd; obtain ⟨p2, c2, rfl, -⟩ := ints_form ho.rows.2.1.rd; obtain ⟨p3, c3, rfl, -⟩ := ints_form ho.rows.2.2.rd; rw [← HMR.out] at ho ⊢; have RY := RX.out.2.new3 hb ho; clear ho hb; replace RX : Hid ((WY.cell? ⟨bt, 0, none⟩ = some (.slice a1 mD d1) ∧ WY.cell? ⟨bt, 1, none⟩ = some (.slice a2 mD d2) ∧ WY.cell? ⟨bt, 2, none⟩ = some (.slice a3 mX d3) ∧ WY.cell? ⟨g, 0, none⟩ = some (.int .i64 k) ∧ WY.cell? ⟨g, 1, none⟩ = some (.int .i64 p) ∧ WY.cell? ⟨g, 2, none⟩ = some (.int .i64 q) ∧ WY.cell? ⟨ga, 0, none⟩ = some (.slice al l cl) ∧ WY.cell? ⟨ga, 1, none⟩ = some (.slice av l cv)) ∧ Rs WL WY [(gs, nilV, nilV, nilV), (bt, .slice a1 mD d1, .slice a2 mD d2, .slice a3 mX d3)] [(.slice p1 0 c1, []), (.slice p2 0 c2, []), (.slice p3 mR c3, XR), (u8, wt)]) := Lib.hid ⟨HS.out _ _ _ RY (by simp), RY⟩; clear RY; obtain ⟨WX, hW⟩ : ∃ W, W = WY := ⟨_, rfl⟩; rw [← hW] at RX ⊢; clear hW; change K _ _)
              refine hK.out _ _ (by (try dsimp only); with_reducible exact RX.out.1) (fun hHeld => ?_)
              clear hK K
              try simp only [Act.put, List.getElem_toArray, List.getElem_cons_succ, List.getElem_cons_zero, List.setIfInBounds_toArray, List.set_cons_zero, List.set_cons_succ]
              refine wpAnyH_take (i := 8) (v := ?_) rfl (by kernel_rfl) (by kernel_rfl) (by kernel_rfl) (fun _ _ _ h => h) (Or.inl ⟨by rfl, ?_⟩) (by assumption) ?_
              rotate_left
              · intro w hSw; (try dsimp only at hSw); go_simp <;> with_reducible rfl
              try simp only [Act.put, List.getElem_toArray, List.getElem_cons_succ, List.getElem_cons_zero, List.setIfInBounds_toArray, List.set_cons_zero, List.set_cons_succ]
              refine wpAnyH_take (i := 9) (v := ?_) rfl (by kernel_rfl) (by kernel_rfl) (by kernel_rfl) (fun _ _ _ h => h) (Or.inl ⟨by rfl, ?_⟩) (by assumption) ?_
              rotate_left
              · intro w hSw; (try dsimp only at hSw); go_simp <;> with_reducible rfl
              try simp only [Act.put, List.getElem_toArray, List.getElem_cons_succ, List.getElem_cons_zero, List.setIfInBounds_toArray, List.set_cons_zero, List.set_cons_succ]
              refine wpAnyH_take (i := 10) (v := ?_) rfl (by kernel_rfl) (by kernel_rfl) (by kernel_rfl) (fun _ _ _ h => h) (Or.inl ⟨by rfl, ?_⟩) (by assumption) ?_
              rotate_left
              · intro w hSw; (try dsimp only at hSw); go_simp <;> with_reducible rfl
              try simp only [Act.put, List.getElem_toArray, List.getElem_cons_succ, List.getElem_cons_zero, List.setIfInBounds_toArray, List.set_cons_zero, List.set_cons_succ]
              exact K7_11.out p1 c1 p2 c2 p3 c3 gs WX RX
          focus
            intro p1 c1 p2 c2 p3 c3 WX RX
            have hHeld : ((fun w' => w'.cell? ⟨bt, 0, none⟩ = some (.slice a1 mD d1) ∧ w'.cell? ⟨bt, 1, none⟩ = some (.slice a2 mD d2) ∧ w'.cell? ⟨bt, 2, none⟩ = some (.slice a3 mX d3) ∧ w'.cell? ⟨g, 0, none⟩ = some (.int .i64 k) ∧ w'.cell? ⟨g, 1, none⟩ = some (.int .i64 p) ∧ w'.cell? ⟨g, 2, none⟩ = some (.int .i64 q) ∧ w'.cell? ⟨ga, 0, none⟩ = some (.slice al l cl) ∧ w'.cell? ⟨ga, 1, none⟩ = some (.slice av l cv))) WX := by (try dsimp only); with_reducible exact RX.out.1
            refine wpAnyH_ready (rs := [11]) (by kernel_rfl) (by simp) ?_
            refine AllReadyH.cons rfl (fun K hK => ?_) AllReadyH.nil
            focus
              (go_simp; obtain ⟨WY, gs, hW, hg, RY⟩ := RX.out.2.boxR0 nilV nilV nilV 55; rw [hW]; (try rw [hg]); clear hW hg; replace RX : Hid ((WY.cell? ⟨bt, 0, none⟩ = some (.slice a1 mD d1) ∧ WY.cell? ⟨bt, 1, none⟩ = some (.slice a2 mD d2) ∧ WY.cell? ⟨bt, 2, none⟩ = some (.slice a3 mX d3) ∧ WY.cell? ⟨g, 0, none⟩ = some (.int .i64 k) ∧ WY.cell? ⟨g, 1, none⟩ = some (.int .i64 p) ∧ WY.cell? ⟨g, 2, none⟩ = some (.int .i64 q) ∧ WY.cell? ⟨ga, 0, none⟩ = some (.slice al l cl) ∧ WY.cell? ⟨ga, 1, none⟩ = some (.slice av l cv)) ∧ Rs WL WY [(gs, nilV, nilV, nilV), (bt, .slice a1 mD d1, .slice a2 mD d2, .slice a3 mX d3)] [(.slice p1 0 c1, []), (.slice p2 0 c2, []), (.slice p3 mR c3, XR), (u8, wt)]) := Lib.hid ⟨HS.out _ _ _ RY (by simp), RY⟩; clear RY; obtain ⟨WX, hW⟩ : ∃ W, W = WY := ⟨_, rfl⟩; rw [← hW] at RX ⊢; clear hW)
              refine hK.out _ _ (by (try dsimp only); with_reducible exact RX.out.1) (fun hHeld => ?_)
              clear hK K
              try simp only [Act.put, List.getElem_toArray, List.getElem_cons_succ, List.getElem_cons_zero, List.setIfInBounds_toArray, List.set_cons_zero, List.set_cons_succ]
              exact wpAnyH_listed (by kernel_rfl) (K7_11.out p1 c1 p2 c2 p3 c3 gs WX RX)
          focus
            intro p1 c1 p2 c2 p3 c3 gs WX RX
            have hHeld : ((fun w' => w'.cell? ⟨bt, 0, none⟩ = some (.slice a1 mD d1) ∧ w'.cell? ⟨bt, 1, none⟩ = some (.slice a2 mD d2) ∧ w'.cell? ⟨bt, 2, none⟩ = some (.slice a3 mX d3) ∧ w'.cell? ⟨g, 0, none⟩ = some (.int .i64 k) ∧ w'.cell? ⟨g, 1, none⟩ = some (.int .i64 p) ∧ w'.cell? ⟨g, 2, none⟩ = some (.int .i64 q) ∧ w'.cell? ⟨ga, 0, none⟩ = some (.slice al l cl) ∧ w'.cell? ⟨ga, 1, none⟩ = some (.slice av l cv))) WX := by (try dsimp only); with_reducible exact RX.out.1
            refine wpAnyH_ready (rs := [12]) (by kernel_rfl) (by simp) ?_
            refine AllReadyH.cons rfl (fun K hK => ?_) AllReadyH.nil
            focus
              (obtain ⟨⟨t0, t1, t2⟩, f0, f1, f2⟩ := RX.out.2.at (r := gs) (a := nilV) (b := nilV) (c := nilV) (by simp only [List.mem_cons, true_or]); go_simp; have RY := RX.out.2.set3 (.slice p1 0 c1) (.slice p2 0 c2) (.slice p3 mR c3); obtain ⟨WY, hW⟩ : ∃ WY, WY = (((WX.setCell ⟨gs, 0, none⟩ (.slice p1 0 c1)).setCell ⟨gs, 1, none⟩ (.slice p2 0 c2)).setCell ⟨gs, 2, none⟩ (.slice p3 mR c3)) := ⟨_, rfl⟩; rw [← hW] at RY ⊢; clear hW t0 t1 t2 f0 f1 f2; replace RX : Hid ((WY.cell? ⟨bt, 0, none⟩ = some (.slice a1 mD d1) ∧ WY.cell? ⟨bt, 1, none⟩ = some (.slice a2 mD d2) ∧ WY.cell? ⟨bt, 2, none⟩ = some (.slice a3 mX d3) ∧ WY.cell? ⟨g, 0, none⟩ = some (.int .i64 k) ∧ WY.cell? ⟨g, 1, none⟩ = some (.int .i64 p) ∧ WY.cell? ⟨g, 2, none⟩ = some (.int .i64 q) ∧ WY.cell? ⟨ga, 0, none⟩ = some (.slice al l cl) ∧ WY.cell? ⟨ga, 1, none⟩ = some (.slice av l cv)) ∧ Rs WL WY [(gs, .slice p1 0 c1, .slice p2 0 c2, .slice p3 mR c3), (bt, .slice a1 mD d1, .slice a2 mD d2, .slice a3 mX d3)] [(.slice p1 0 c1, []), (.slice p2 0 c2, []), (.slice p3 mR c3, XR), (u8, wt)]) := Lib.hid ⟨HS.out _ _ _ RY (by simp), RY⟩; clear RY; obtain ⟨WX, hW⟩ : ∃ W, W = WY := ⟨_, rfl⟩; rw [← hW] at RX ⊢; clear hW)
              refine hK.out _ _ (by (try dsimp only); with_reducible exact RX.out.1) (fun hHeld => ?_)
              clear hK K
              try simp only [Act.put, List.getElem_toArray, List.getElem_cons_succ, List.getElem_cons_zero, List.setIfInBounds_toArray, List.set_cons_zero, List.set_cons_succ]
              refine wpAnyH_take (i := 13) (v := ?_) rfl (by kernel_rfl) (by kernel_rfl) (by kernel_rfl) (fun _ _ _ h => h) (Or.inl ⟨by rfl, ?_⟩) (by assumption) ?_
              rotate_left
              · intro w hSw; (try dsimp only at hSw); go_simp <;> with_reducible rfl
              try simp only [Act.put, List.getElem_toArray, List.getElem_cons_succ, List.getElem_cons_zero, List.setIfInBounds_toArray, List.set_cons_zero, List.set_cons_succ]
              exact K7_11_12.out p1 c1 p2 c2 p3 c3 gs WX RX
          intro p1 c1 p2 c2 p3 c3 gs WX RX
          refine wpAnyH_done (by kernel_rfl) ?_ _
-- 4 states
          have R8 := Lib.hid RX.out.2
          clear RX hHeld
          cases z with
          | false =>
            have hno : ¬ (NetOk k p q ts O ∧ WOk ts V) := fun h => (by
              have h1 := (okB_in HLD.out HSB.out).2 (h.2.ten HVN.out.2.2.1 (List.mem_of_getElem? T1.out))
              rw [← HZ.out] at h1
              cases h1)
            have HF : Hid (yl = []) := Lib.hid (by rw [HYL.out]; exact weight_no hno)
            have HBE := Lib.hid (HBL.out.trans (R8.out.bel.mono HBL.out.size))
            clear hno
            go_wp2
            go_ret
            exact ⟨_, rfl, by rw [HF.out]; exact Own.nil _ _, HBE.out⟩
          | true =>
            have hin : InIx D (viaL L (labT ts) V) := (okB_in HLD.out HSB.out).1 HZ.out.symm
            have HIX2 : Hid (∀ t ∈ ts.take (j + 1), InIx t.2.1 (viaL t.1 (labT ts) V)) := Lib.hid (fun t ht => by
              rw [List.take_add_one, T1.out] at ht
              rcases List.mem_append.1 ht with ht | ht
              · exact HIX.out t ht
              · simp at ht
                subst ht
                exact hin)
            have HXE : Hid (XR = getL (widthI k q).toNat X (offI D (viaL L (labT ts) V)).toNat) := Lib.hid (by rw [HXR.out, if_pos HZ.out.symm, fix_all HSB.out])
            have HEL : Hid (ElemV k p q XR) := Lib.hid (by rw [HXE.out]; exact (ten_elem (t := (L, D, X)) HTB.out hin).1)
            have HWV : Hid (ElemV k p q wt) := Lib.hid (by rw [HWT.out]; exact wt_elem HVN.out.1 (fun t ht => ⟨HVN.out.2.2.1.ten (List.mem_of_mem_take ht), HIX.out t ht⟩))
            have HWS : Hid (timesL k p wt XR = wtL k p (widthI k q).toNat (labT ts) V (oneL k p q) (ts.take (j + 1))) := Lib.hid (by
              have e : ts.take (j + 1) = ts.take j ++ [(L, D, X)] := by rw [List.take_add_one, T1.out]; rfl
              rw [e, wtL_snoc, HWT.out, HXE.out])
            have RD := Lib.hid R8.out.drew
            obtain ⟨⟨g0, g1, g2, -⟩, -⟩ := HG.out _ R8.out.bel
            obtain ⟨⟨-, -, s2⟩, -⟩ := R8.out.at (r := gs) (a := .slice p1 0 c1) (b := .slice p2 0 c2) (c := .slice p3 mR c3) (by simp only [List.mem_cons, true_or])
            clear hin
            go_wp2
            go_region_held3 (fun W => W.cell? ⟨g, 0, none⟩ = some (.int .i64 k) ∧ W.cell? ⟨g, 1, none⟩ = some (.int .i64 p) ∧ W.cell? ⟨g, 2, none⟩ = some (.int .i64 q) ∧ W.cell? ⟨gs, 2, none⟩ = some (.slice p3 mR c3)) (first | exact ⟨g0, g1, g2, s2⟩) (first
              | (go_at_call 64; refine (times_impl HVN.out.1 (RD.out.rd (v := u8) (xs := wt) (by simp)) (RD.out.rd (v := .slice p3 mR c3) (xs := XR) (by simp)) (Nat.le_refl _) HWV.out HEL.out).mono ?_; rw [HWS.out]; rintro e w9 ⟨v9, rfl, o9, hb9⟩; have R9 := Lib.hid (RD.out.new hb9 o9); clear o9 hb9; obtain ⟨⟨g0, g1, g2, -⟩, -⟩ := HG.out _ R9.out.bel; obtain ⟨⟨-, -, s2⟩, -⟩ := R9.out.at (r := gs) (a := .slice p1 0 c1) (b := .slice p2 0 c2) (c := .slice p3 mR c3) (by simp only [List.mem_cons, true_or])))
            have R10 := Lib.hid ((R9.out.subB (List.nil_sublist _)).sub (List.Sublist.cons_cons _ (List.nil_sublist _)))
            clear g0 g1 g2 s2
            go_wp2
            go_roundw
            case rel => exact ⟨j + 1, by omega, by go_num, R10, HIX2⟩
            case measure => simp [intOf]; omega
        · obtain rfl : j = n := by omega
          have e2 : ts.take j = ts := List.take_of_length_le (by rw [HN.out]; exact Nat.le_refl _)
          rw [e2] at HRS HIX
          have hwok : WOk ts V := wok_of HVN.out.2.2.1 (by rw [← HMV.out, ← HL.out]) HIX.out
          have HF : Hid (yl = wtL k p (widthI k q).toNat (labT ts) V (oneL k p q) ts) := Lib.hid (by rw [HYL.out]; exact weight_yes HVN.out hwok)
          rw [← HF.out] at HRS
          have RES := Lib.hid (HRS.out.own1 (List.mem_cons_self))
          have BB := Lib.hid (HBL.out.trans (HRS.out.bel.mono HBL.out.size))
          have BS := Lib.hid HBL.out.size
          clear hwok e2
          go_wp2
          go_ret
          exact ⟨_, rfl, RES.out.wide BS.out (Nat.le_refl _) (Nat.le_refl _), BB.out⟩
    · have hno : ¬ (NetOk k p q ts O ∧ WOk ts V) := fun h => hlv (by
        have h1 := h.2.1
        rw [List.length_map, ← HL.out, ← HMV.out] at h1
        exact h1.symm)
      have HF : Hid (yl = []) := Lib.hid (by rw [HYL.out]; exact weight_no hno)
      have HNE := Lib.hid hlv
      clear hno hlv
      go_wp2_with fail
      refine (pair_no w2 HNE.out).mono ?_
      rintro e w3 ⟨rfl, hb3⟩
      have HBE := Lib.hid ((HB2.out.trans (hb3.mono HB2.out.size)).alloc (Nat.le_trans HB2.out.size hb3.size) (.cells #[nilV, nilV] 68))
      clear hb3 k0 k1 k2 k3 k4 k5 k6
      go_wp2
      go_ret
      exact ⟨_, rfl, by rw [HF.out]; exact Own.nil _ _, HBE.out⟩
  · have hbe := HB1.out.trans (hb2.mono HB1.out.size)
    have HF : Hid (yl = []) := Lib.hid (by rw [HYL.out]; exact weight_no fun h => hnv h.1)
    clear hb2
    go_wp2
    go_ret
    exact ⟨_, rfl, by rw [HF.out]; exact Own.nil _ _, hbe⟩
end Go.Proofs.Ytdheakjjnaifkaa
