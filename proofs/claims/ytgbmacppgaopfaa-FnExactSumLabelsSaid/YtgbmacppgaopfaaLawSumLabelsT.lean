
/- The law FnExactSumLabels, walked. -/
import Derived.Test.YtgbmacppgaopfaaSpecW
import Derived.Test.YtgbmacppgaopfaaPairImpl
import Derived.Test.YtgbmacppgaopfaaBx
import Derived.Deep.RegionHeld3
import Derived.Deep.DeepCutAuto
namespace Go.Proofs.Ytgbmacppgaopfaa
set_option maxRecDepth 20000
open Go.RowKit

set_option maxHeartbeats 400000 in
theorem law_sum_labels_big0 (rk rp rn : Int)   (atL : Option Addr) (ctL : Nat) (tL : List Int) (atD : Option Addr) (ctD : Nat) (tD : List Int) (atX : Option Addr) (ctX : Nat) (tX : List Int) (ax : Option Addr) (cx : Nat) (x : List Int) (w : World)  (hb : 1048576 < x.length) (hc : x.length ≤ 281474976710656) :
    Calls Try.prog 9 #[ringV rk rp rn, tenV (.slice atL tL.length ctL) (.slice atD tD.length ctD) (.slice atX tX.length ctX), .slice ax x.length cx] w fun e w' => e = .returned (.bool true) ∧ Below w.heap.size w w' := by
  go_enter Try.func9, Try.ntmps9
  go_wp2
  go_ret
  exact ⟨rfl, ((Below.refl _ _).alloc (Nat.le_refl _) _).alloc (by simp; try omega) _⟩

set_option maxHeartbeats 64000000 in
theorem law_sum_labels_small (rk rp rn : Int)   (atL : Option Addr) (ctL : Nat) (tL : List Int) (atD : Option Addr) (ctD : Nat) (tD : List Int) (atX : Option Addr) (ctX : Nat) (tX : List Int) (ax : Option Addr) (cx : Nat) (x : List Int) (w : World) (RtL : Hid (Rd w.heap.size w (.slice atL tL.length ctL) (ints tL))) (RtD : Hid (Rd w.heap.size w (.slice atD tD.length ctD) (ints tD))) (RtX : Hid (Rd w.heap.size w (.slice atX tX.length ctX) (ints tX))) (Rx : Hid (Rd w.heap.size w (.slice ax x.length cx) (ints x))) (sx : x.length ≤ 1048576) (ztL : tL.length ≤ 281474976710656) (ztD : tD.length ≤ 281474976710656) (ztX : tX.length ≤ 281474976710656) (hI : allI tL) :
    Calls Try.prog 9 #[ringV rk rp rn, tenV (.slice atL tL.length ctL) (.slice atD tD.length ctD) (.slice atX tX.length ctX), .slice ax x.length cx] w fun e w' => e = .returned (.bool true) ∧ Below w.heap.size w w' := by
  obtain ⟨GL, hGL⟩ : ∃ G : List Int, G = if tensorB rk rp rn tL tD tX = true then keepL (joinL tL []) x else [] := ⟨_, rfl⟩
  have HGLL : Hid (GL.length ≤ 17592186044416) := Lib.hid (by rw [hGL]; exact Nat.le_trans (sum_len_L _ _ _ _ _ _ _) (by omega))
  have HGL := Lib.hid hGL
  clear hGL
  obtain ⟨GD, hGD⟩ : ∃ G : List Int, G = if tensorB rk rp rn tL tD tX = true then keepD (joinL tL []) (joinD tL tD [] []) x else [] := ⟨_, rfl⟩
  have HGLD : Hid (GD.length ≤ 17592186044416) := Lib.hid (by rw [hGD]; exact Nat.le_trans (sum_len_D _ _ _ _ _ _ _) (by omega))
  have HGD := Lib.hid hGD
  clear hGD
  obtain ⟨GX, hGX⟩ : ∃ G : List Int, G = if tensorB rk rp rn tL tD tX = true then pairL rk rp rn tL tD tX [] [] (oneL rk rp rn) x else [] := ⟨_, rfl⟩
  have HGLX : Hid (GX.length ≤ 17592186044416) := Lib.hid (by rw [hGX]; exact Nat.le_trans (sum_len_X _ _ _ _ _ _ _) (by omega))
  have HGX := Lib.hid hGX
  clear hGX
  have HhI := Lib.hid hI
  clear hI
  have BtL : Hid (tL.length ≤ 281474976710656) := Lib.hid (by omega)
  have BtD : Hid (tD.length ≤ 281474976710656) := Lib.hid (by omega)
  have BtX : Hid (tX.length ≤ 281474976710656) := Lib.hid (by omega)
  have Bx : Hid (x.length ≤ 281474976710656) := Lib.hid (by omega)
  have E0 := Lib.hid (St.start w (R := [(.slice atL tL.length ctL, tL), (.slice atD tD.length ctD, tD), (.slice atX tX.length ctX, tX), (.slice ax x.length cx, x)]) (by intro r hr; simp only [List.mem_cons, List.not_mem_nil, or_false] at hr; rcases hr with rfl | rfl | rfl | rfl <;> first | exact RtL.out | exact RtD.out | exact RtX.out | exact Rx.out))
  have E0 := Lib.hid (E0.out.box3 (.int .i64 rk) (.int .i64 rp) (.int .i64 rn) 23)
  have E0 := Lib.hid (E0.out.box3 (.slice atL tL.length ctL) (.slice atD tD.length ctD) (.slice atX tX.length ctX) 47)
  simp only [World.size_alloc] at E0
  clear RtL RtD RtX Rx
  go_enter Try.func9, Try.ntmps9
  obtain ⟨c10, c11, c12, -, -, -, -⟩ := E0.out.cells
  go_wp2_with fail
  refine (sz_ten_full atL tL.length ctL atD tD.length ctD atX tX.length ctX 1048576 _ (by omega) (by omega) BtL.out BtD.out BtX.out).mono ?_
  rintro e w1 ⟨z, rfl, hz, hb⟩
  have E1 := Lib.hid (E0.out.step hb)
  clear hb
  rcases hz with rfl | ⟨hz0, hz1⟩
  case inl => go_wp2; go_ret; exact ⟨rfl, E1.out.bel⟩
  have qz : ¬ z < 0 := by omega
  have hzb : z ≤ 1048576 := by omega
  have BtL : Hid (tL.length ≤ 1048576) := Lib.hid (by omega)
  have BtD : Hid (tD.length ≤ 1048576) := Lib.hid (by omega)
  have BtX : Hid (tX.length ≤ 1048576) := Lib.hid (by omega)
  clear hz1
  clear c10 c11 c12
  go_upto_region 7 with fail
  have EC := E1
  obtain ⟨OL, HOL⟩ := St.letter EC
  go_cut [8] (fun sv wx => ∃ (bq7 lo7 hi7 : Nat) (b7 : Option Addr) (d7 : Nat) (b8 : Option Addr) (d8 : Nat) (b9 : Option Addr) (d9 : Nat), sv = .pointer (some ⟨bq7, 0, none⟩) ∧ Hid (St w wx [(bq7, 0, .slice b7 GL.length d7), (bq7, 1, .slice b8 GD.length d8), (bq7, 2, .slice b9 GX.length d9), (w.heap.size + 1, 0, .slice atL tL.length ctL), (w.heap.size + 1, 1, .slice atD tD.length ctD), (w.heap.size + 1, 2, .slice atX tX.length ctX), (w.heap.size, 0, .int .i64 rk), (w.heap.size, 1, .int .i64 rp), (w.heap.size, 2, .int .i64 rn)] [(.slice atL tL.length ctL, tL), (.slice atD tD.length ctD, tD), (.slice atX tX.length ctX, tX), (.slice ax x.length cx, x)] ((lo7, hi7, [(.slice b7 GL.length d7, GL), (.slice b8 GD.length d8, GD), (.slice b9 GX.length d9, GX)]) :: OL)))
  case first =>
    have EP := EC
    have EC := Lib.hid EC.out.drew
    obtain ⟨c10, c11, c12, c00, c01, c02, -⟩ := EC.out.cells
    refine wp_region_held_drew (S := fun w' => w'.cell? ⟨w.heap.size + 1, 0, none⟩ = some (.slice atL tL.length ctL) ∧ w'.cell? ⟨w.heap.size + 1, 1, none⟩ = some (.slice atD tD.length ctD) ∧ w'.cell? ⟨w.heap.size + 1, 2, none⟩ = some (.slice atX tX.length ctX) ∧ w'.cell? ⟨w.heap.size, 0, none⟩ = some (.int .i64 rk) ∧ w'.cell? ⟨w.heap.size, 1, none⟩ = some (.int .i64 rp) ∧ w'.cell? ⟨w.heap.size, 2, none⟩ = some (.int .i64 rn)) (by kernel_rfl) (by (try dsimp only); exact ⟨c10, c11, c12, c00, c01, c02⟩) (fun hHeld => ?_)
    refine wpAnyH_take (i := 0) (v := ?_) rfl (by kernel_rfl) (by kernel_rfl) (by kernel_rfl) (fun _ _ _ h => h) (Or.inl ⟨by rfl, ?_⟩) (by assumption) ?_
    rotate_left
    · intro w hSw; (try dsimp only at hSw); go_simp <;> with_reducible rfl
    try simp only [Act.put, List.getElem_toArray, List.getElem_cons_zero, List.setIfInBounds_toArray, List.set_cons_zero, List.set_cons_succ]
    refine wpAnyH_take (i := 2) (v := ?_) rfl (by kernel_rfl) (by kernel_rfl) (by kernel_rfl) (fun _ _ _ h => h) (Or.inl ⟨by rfl, ?_⟩) (by assumption) ?_
    rotate_left
    · intro w hSw; (try dsimp only at hSw); go_simp <;> with_reducible rfl
    try simp only [Act.put, List.getElem_toArray, List.getElem_cons_succ, List.getElem_cons_zero, List.setIfInBounds_toArray, List.set_cons_zero, List.set_cons_succ]
    refine wpAnyH_take (i := 4) (v := ?_) rfl (by kernel_rfl) (by kernel_rfl) (by kernel_rfl) (fun _ _ _ h => h) (Or.inl ⟨by rfl, ?_⟩) (by assumption) ?_
    rotate_left
    · intro w hSw; (try dsimp only at hSw); go_simp <;> with_reducible rfl
    try simp only [Act.put, List.getElem_toArray, List.getElem_cons_succ, List.getElem_cons_zero, List.setIfInBounds_toArray, List.set_cons_zero, List.set_cons_succ]
    refine wpAnyH_ready (rs := [1, 7]) (by kernel_rfl) (by simp) ?_
    refine AllReadyH.cons rfl (fun K hK => ?_) (AllReadyH.cons rfl (fun K hK => ?_) AllReadyH.nil)
    · go_simp
      go_at_call 36
      have EQ := EC
      refine (to_ring rk rp rn _).mono ?_
      rintro e w2 ⟨rfl, hb⟩
      replace EC := Lib.hid (EC.out.step hb)
      clear hb
      clear EQ c10 c11 c12 c00 c01 c02
      obtain ⟨c10, c11, c12, c00, c01, c02, -⟩ := EC.out.cells
      go_wp2_with fail
      refine hK.out _ _ (by (try dsimp only); exact ⟨c10, c11, c12, c00, c01, c02⟩) (fun hHeld => ?_)
      clear hK K
      try simp only [Act.put, List.getElem_toArray, List.getElem_cons_succ, List.getElem_cons_zero, List.setIfInBounds_toArray, List.set_cons_zero, List.set_cons_succ]
      refine wpAnyH_ready (rs := [3, 7]) (by kernel_rfl) (by simp) ?_
      refine AllReadyH.cons rfl (fun K hK => ?_) (AllReadyH.cons rfl (fun K hK => ?_) AllReadyH.nil)
      · go_simp
        go_at_call 37
        have EQ := EC
        refine (to_ten ⟨((EQ.out.rdAt 0 rfl).mono EQ.out.bel.size), ((EQ.out.rdAt 1 rfl).mono EQ.out.bel.size), ((EQ.out.rdAt 2 rfl).mono EQ.out.bel.size)⟩ (Nat.le_refl _) (by have := BtL.out; omega) (by have := BtD.out; omega) (by have := BtX.out; omega)).mono ?_
        rintro e w3 ⟨v0, v1, v2, rfl, ho, hb⟩
        obtain ⟨b0, d0, rfl, -⟩ := ints_form ho.rows.1.rd
        obtain ⟨b1, d1, rfl, -⟩ := ints_form ho.rows.2.1.rd
        obtain ⟨b2, d2, rfl, -⟩ := ints_form ho.rows.2.2.rd
        replace EC := Lib.hid (EC.out.grp hb ho)
        clear hb ho
        clear EQ c10 c11 c12 c00 c01 c02
        obtain ⟨c10, c11, c12, c00, c01, c02, -⟩ := EC.out.cells
        go_wp2_with fail
        refine hK.out _ _ (by (try dsimp only); exact ⟨c10, c11, c12, c00, c01, c02⟩) (fun hHeld => ?_)
        clear hK K
        try simp only [Act.put, List.getElem_toArray, List.getElem_cons_succ, List.getElem_cons_zero, List.setIfInBounds_toArray, List.set_cons_zero, List.set_cons_succ]
        refine wpAnyH_ready (rs := [5, 7]) (by kernel_rfl) (by simp) ?_
        refine AllReadyH.cons rfl (fun K hK => ?_) (AllReadyH.cons rfl (fun K hK => ?_) AllReadyH.nil)
        · go_simp
          go_at_call 32
          have EQ := EC
          refine (to_row ((EQ.out.rdAt 3 rfl).mono EQ.out.bel.size) (Nat.le_refl _) (by have := Bx.out; omega)).mono ?_
          rintro e w4 ⟨v, rfl, ho, hb⟩
          obtain ⟨b3, d3, rfl, -⟩ := ints_form ho.rd
          replace EC := Lib.hid (EC.out.grp hb (OwnG.one ho))
          clear hb ho
          clear EQ c10 c11 c12 c00 c01 c02
          obtain ⟨c10, c11, c12, c00, c01, c02, -⟩ := EC.out.cells
          go_wp2_with fail
          refine hK.out _ _ (by (try dsimp only); exact ⟨c10, c11, c12, c00, c01, c02⟩) (fun hHeld => ?_)
          clear hK K
          try simp only [Act.put, List.getElem_toArray, List.getElem_cons_succ, List.getElem_cons_zero, List.setIfInBounds_toArray, List.set_cons_zero, List.set_cons_succ]
          refine wpAnyH_ready (rs := [6, 7]) (by kernel_rfl) (by simp) ?_
          refine AllReadyH.cons rfl (fun K hK => ?_) (AllReadyH.cons rfl (fun K hK => ?_) AllReadyH.nil)
          · go_simp
            go_at_call 42
            have EQ := EC
            refine (sum_labels_spec ⟨(EQ.out.rowAt 1 0 rfl rfl), (EQ.out.rowAt 1 1 rfl rfl), (EQ.out.rowAt 1 2 rfl rfl)⟩ (EQ.out.rowAt 0 0 rfl rfl) (Nat.le_refl _) (Nat.le_refl _) ⟨(by have := BtL.out; omega), (by have := BtD.out; omega), (by have := BtX.out; omega)⟩ (by have := Bx.out; omega)).mono ?_
            rw [← HGL.out, ← HGD.out, ← HGX.out]
            rintro e w5 ⟨v0, v1, v2, rfl, ho, hb⟩
            obtain ⟨b4, d4, rfl, -⟩ := ints_form ho.rows.1.rd
            obtain ⟨b5, d5, rfl, -⟩ := ints_form ho.rows.2.1.rd
            obtain ⟨b6, d6, rfl, -⟩ := ints_form ho.rows.2.2.rd
            replace EC := Lib.hid (EC.out.grp hb ho)
            clear hb ho
            clear EQ c10 c11 c12 c00 c01 c02
            obtain ⟨c10, c11, c12, c00, c01, c02, -⟩ := EC.out.cells
            go_wp2_with fail
            refine hK.out _ _ (by (try dsimp only); exact ⟨c10, c11, c12, c00, c01, c02⟩) (fun hHeld => ?_)
            clear hK K
            try simp only [Act.put, List.getElem_toArray, List.getElem_cons_succ, List.getElem_cons_zero, List.setIfInBounds_toArray, List.set_cons_zero, List.set_cons_succ]
            refine wpAnyH_ready (rs := [7]) (by kernel_rfl) (by simp) ?_
            refine AllReadyH.cons rfl (fun K hK => ?_) AllReadyH.nil
            go_simp
            refine hK.out _ _ (by (try dsimp only); first | exact ⟨EC.out.cellA _ 0 rfl, EC.out.cellA _ 1 rfl, EC.out.cellA _ 2 rfl, EC.out.cellA _ 3 rfl, EC.out.cellA _ 4 rfl, EC.out.cellA _ 5 rfl⟩ | fail) (fun hHeld => ?_)
            clear hK K
            try simp only [Act.put, List.getElem_toArray, List.getElem_cons_succ, List.getElem_cons_zero, List.setIfInBounds_toArray, List.set_cons_zero, List.set_cons_succ]
            refine wpAnyH_ready (rs := [8]) (by kernel_rfl) (by simp) ?_
            refine AllReadyH.cons rfl (fun K hK => ?_) AllReadyH.nil
            go_simp
            refine hK.out _ _ (by (try dsimp only); exact ⟨EC.out.cellA _ 0 rfl, EC.out.cellA _ 1 rfl, EC.out.cellA _ 2 rfl, EC.out.cellA _ 3 rfl, EC.out.cellA _ 4 rfl, EC.out.cellA _ 5 rfl⟩) (fun hHeld => ?_)
            clear hK K
            try simp only [Act.put, List.getElem_toArray, List.getElem_cons_succ, List.getElem_cons_zero, List.setIfInBounds_toArray, List.set_cons_zero, List.set_cons_succ]
            refine wpAnyH_done (by kernel_rfl) ?_ _
            go_wp2_with fail
            go_meet
            exact ⟨_, _, _, _, _, _, _, _, _, rfl, Lib.hid ((EC.out.box3 _ _ _ _).subL HOL.out (List.Sublist.cons_cons _ (List.Sublist.cons _ (List.Sublist.cons _ (List.Sublist.refl _)))))⟩
          · go_simp
            refine hK.out _ _ (by (try dsimp only); first | exact ⟨EC.out.cellA _ 0 rfl, EC.out.cellA _ 1 rfl, EC.out.cellA _ 2 rfl, EC.out.cellA _ 3 rfl, EC.out.cellA _ 4 rfl, EC.out.cellA _ 5 rfl⟩ | fail) (fun hHeld => ?_)
            have EB := Lib.hid (StB.new EC.out 49)
            try simp only [World.size_alloc] at EB HOL
            clear EC c10 c11 c12 c00 c01 c02
            obtain ⟨c10, c11, c12, c00, c01, c02, -⟩ := EB.out.st.cells
            (try clear t0 t1 t2 f0 f1 f2)
            obtain ⟨-, t0, t1, t2, fr, -, -⟩ := EB.out.bx
            have f0 := fr 0
            have f1 := fr 1
            have f2 := fr 2
            clear fr
            clear hK K
            try simp only [Act.put, List.getElem_toArray, List.getElem_cons_succ, List.getElem_cons_zero, List.setIfInBounds_toArray, List.set_cons_zero, List.set_cons_succ]
            refine wpAnyH_ready (rs := [6]) (by kernel_rfl) (by simp) ?_
            refine AllReadyH.cons rfl (fun K hK => ?_) AllReadyH.nil
            go_simp
            go_at_call 42
            have EQ := Lib.hid EB.out.st
            refine (sum_labels_spec ⟨(EQ.out.rowAt 1 0 rfl rfl), (EQ.out.rowAt 1 1 rfl rfl), (EQ.out.rowAt 1 2 rfl rfl)⟩ (EQ.out.rowAt 0 0 rfl rfl) (Nat.le_refl _) (Nat.le_refl _) ⟨(by have := BtL.out; omega), (by have := BtD.out; omega), (by have := BtX.out; omega)⟩ (by have := Bx.out; omega)).mono ?_
            rw [← HGL.out, ← HGD.out, ← HGX.out]
            rintro e w5 ⟨v0, v1, v2, rfl, ho, hb⟩
            obtain ⟨b4, d4, rfl, -⟩ := ints_form ho.rows.1.rd
            obtain ⟨b5, d5, rfl, -⟩ := ints_form ho.rows.2.1.rd
            obtain ⟨b6, d6, rfl, -⟩ := ints_form ho.rows.2.2.rd
            replace EB := Lib.hid (EB.out.add hb ho)
            clear hb ho
            clear EQ c10 c11 c12 c00 c01 c02
            obtain ⟨c10, c11, c12, c00, c01, c02, -⟩ := EB.out.st.cells
            (try clear t0 t1 t2 f0 f1 f2)
            obtain ⟨-, t0, t1, t2, fr, -, -⟩ := EB.out.bx
            have f0 := fr 0
            have f1 := fr 1
            have f2 := fr 2
            clear fr
            go_wp2_with fail
            refine hK.out _ _ (by (try dsimp only); exact ⟨c10, c11, c12, c00, c01, c02⟩) (fun hHeld => ?_)
            clear hK K
            try simp only [Act.put, List.getElem_toArray, List.getElem_cons_succ, List.getElem_cons_zero, List.setIfInBounds_toArray, List.set_cons_zero, List.set_cons_succ]
            refine wpAnyH_ready (rs := [8]) (by kernel_rfl) (by simp) ?_
            refine AllReadyH.cons rfl (fun K hK => ?_) AllReadyH.nil
            go_simp
            refine hK.out _ _ (by (try dsimp only); exact ⟨EB.out.cell3 _ _ _ 0 rfl, EB.out.cell3 _ _ _ 1 rfl, EB.out.cell3 _ _ _ 2 rfl, EB.out.cell3 _ _ _ 3 rfl, EB.out.cell3 _ _ _ 4 rfl, EB.out.cell3 _ _ _ 5 rfl⟩) (fun hHeld => ?_)
            clear hK K
            try simp only [Act.put, List.getElem_toArray, List.getElem_cons_succ, List.getElem_cons_zero, List.setIfInBounds_toArray, List.set_cons_zero, List.set_cons_succ]
            refine wpAnyH_done (by kernel_rfl) ?_ _
            go_wp2_with fail
            go_meet
            exact ⟨_, _, _, _, _, _, _, _, _, rfl, Lib.hid ((EB.out.put _ _ _).subL HOL.out (List.Sublist.cons_cons _ (List.Sublist.cons _ (List.Sublist.cons _ (List.Sublist.refl _)))))⟩
        · go_simp
          refine hK.out _ _ (by (try dsimp only); first | exact ⟨EC.out.cellA _ 0 rfl, EC.out.cellA _ 1 rfl, EC.out.cellA _ 2 rfl, EC.out.cellA _ 3 rfl, EC.out.cellA _ 4 rfl, EC.out.cellA _ 5 rfl⟩ | fail) (fun hHeld => ?_)
          have EB := Lib.hid (StB.new EC.out 49)
          try simp only [World.size_alloc] at EB HOL
          clear EC c10 c11 c12 c00 c01 c02
          obtain ⟨c10, c11, c12, c00, c01, c02, -⟩ := EB.out.st.cells
          (try clear t0 t1 t2 f0 f1 f2)
          obtain ⟨-, t0, t1, t2, fr, -, -⟩ := EB.out.bx
          have f0 := fr 0
          have f1 := fr 1
          have f2 := fr 2
          clear fr
          clear hK K
          try simp only [Act.put, List.getElem_toArray, List.getElem_cons_succ, List.getElem_cons_zero, List.setIfInBounds_toArray, List.set_cons_zero, List.set_cons_succ]
          refine wpAnyH_ready (rs := [5]) (by kernel_rfl) (by simp) ?_
          refine AllReadyH.cons rfl (fun K hK => ?_) AllReadyH.nil
          go_simp
          go_at_call 32
          have EQ := Lib.hid EB.out.st
          refine (to_row ((EQ.out.rdAt 3 rfl).mono EQ.out.bel.size) (Nat.le_refl _) (by have := Bx.out; omega)).mono ?_
          rintro e w4 ⟨v, rfl, ho, hb⟩
          obtain ⟨b3, d3, rfl, -⟩ := ints_form ho.rd
          replace EB := Lib.hid (EB.out.add hb (OwnG.one ho))
          clear hb ho
          clear EQ c10 c11 c12 c00 c01 c02
          obtain ⟨c10, c11, c12, c00, c01, c02, -⟩ := EB.out.st.cells
          (try clear t0 t1 t2 f0 f1 f2)
          obtain ⟨-, t0, t1, t2, fr, -, -⟩ := EB.out.bx
          have f0 := fr 0
          have f1 := fr 1
          have f2 := fr 2
          clear fr
          go_wp2_with fail
          refine hK.out _ _ (by (try dsimp only); exact ⟨c10, c11, c12, c00, c01, c02⟩) (fun hHeld => ?_)
          clear hK K
          try simp only [Act.put, List.getElem_toArray, List.getElem_cons_succ, List.getElem_cons_zero, List.setIfInBounds_toArray, List.set_cons_zero, List.set_cons_succ]
          refine wpAnyH_ready (rs := [6]) (by kernel_rfl) (by simp) ?_
          refine AllReadyH.cons rfl (fun K hK => ?_) AllReadyH.nil
          go_simp
          go_at_call 42
          have EQ := Lib.hid EB.out.st
          refine (sum_labels_spec ⟨(EQ.out.rowAt 1 0 rfl rfl), (EQ.out.rowAt 1 1 rfl rfl), (EQ.out.rowAt 1 2 rfl rfl)⟩ (EQ.out.rowAt 0 0 rfl rfl) (Nat.le_refl _) (Nat.le_refl _) ⟨(by have := BtL.out; omega), (by have := BtD.out; omega), (by have := BtX.out; omega)⟩ (by have := Bx.out; omega)).mono ?_
          rw [← HGL.out, ← HGD.out, ← HGX.out]
          rintro e w5 ⟨v0, v1, v2, rfl, ho, hb⟩
          obtain ⟨b4, d4, rfl, -⟩ := ints_form ho.rows.1.rd
          obtain ⟨b5, d5, rfl, -⟩ := ints_form ho.rows.2.1.rd
          obtain ⟨b6, d6, rfl, -⟩ := ints_form ho.rows.2.2.rd
          replace EB := Lib.hid (EB.out.add hb ho)
          clear hb ho
          clear EQ c10 c11 c12 c00 c01 c02
          obtain ⟨c10, c11, c12, c00, c01, c02, -⟩ := EB.out.st.cells
          (try clear t0 t1 t2 f0 f1 f2)
          obtain ⟨-, t0, t1, t2, fr, -, -⟩ := EB.out.bx
          have f0 := fr 0
          have f1 := fr 1
          have f2 := fr 2
          clear fr
          go_wp2_with fail
          refine hK.out _ _ (by (try dsimp only); exact ⟨c10, c11, c12, c00, c01, c02⟩) (fun hHeld => ?_)
          clear hK K
          try simp only [Act.put, List.getElem_toArray, List.getElem_cons_succ, List.getElem_cons_zero, List.setIfInBounds_toArray, List.set_cons_zero, List.set_cons_succ]
          refine wpAnyH_ready (rs := [8]) (by kernel_rfl) (by simp) ?_
          refine AllReadyH.cons rfl (fun K hK => ?_) AllReadyH.nil
          go_simp
          refine hK.out _ _ (by (try dsimp only); exact ⟨EB.out.cell3 _ _ _ 0 rfl, EB.out.cell3 _ _ _ 1 rfl, EB.out.cell3 _ _ _ 2 rfl, EB.out.cell3 _ _ _ 3 rfl, EB.out.cell3 _ _ _ 4 rfl, EB.out.cell3 _ _ _ 5 rfl⟩) (fun hHeld => ?_)
          clear hK K
          try simp only [Act.put, List.getElem_toArray, List.getElem_cons_succ, List.getElem_cons_zero, List.setIfInBounds_toArray, List.set_cons_zero, List.set_cons_succ]
          refine wpAnyH_done (by kernel_rfl) ?_ _
          go_wp2_with fail
          go_meet
          exact ⟨_, _, _, _, _, _, _, _, _, rfl, Lib.hid ((EB.out.put _ _ _).subL HOL.out (List.Sublist.cons_cons _ (List.Sublist.cons _ (List.Sublist.cons _ (List.Sublist.refl _)))))⟩
      · go_simp
        refine hK.out _ _ (by (try dsimp only); first | exact ⟨EC.out.cellA _ 0 rfl, EC.out.cellA _ 1 rfl, EC.out.cellA _ 2 rfl, EC.out.cellA _ 3 rfl, EC.out.cellA _ 4 rfl, EC.out.cellA _ 5 rfl⟩ | fail) (fun hHeld => ?_)
        have EB := Lib.hid (StB.new EC.out 49)
        try simp only [World.size_alloc] at EB HOL
        clear EC c10 c11 c12 c00 c01 c02
        obtain ⟨c10, c11, c12, c00, c01, c02, -⟩ := EB.out.st.cells
        (try clear t0 t1 t2 f0 f1 f2)
        obtain ⟨-, t0, t1, t2, fr, -, -⟩ := EB.out.bx
        have f0 := fr 0
        have f1 := fr 1
        have f2 := fr 2
        clear fr
        clear hK K
        try simp only [Act.put, List.getElem_toArray, List.getElem_cons_succ, List.getElem_cons_zero, List.setIfInBounds_toArray, List.set_cons_zero, List.set_cons_succ]
        refine wpAnyH_ready (rs := [3]) (by kernel_rfl) (by simp) ?_
        refine AllReadyH.cons rfl (fun K hK => ?_) AllReadyH.nil
        go_simp
        go_at_call 37
        have EQ := Lib.hid EB.out.st
        refine (to_ten ⟨((EQ.out.rdAt 0 rfl).mono EQ.out.bel.size), ((EQ.out.rdAt 1 rfl).mono EQ.out.bel.size), ((EQ.out.rdAt 2 rfl).mono EQ.out.bel.size)⟩ (Nat.le_refl _) (by have := BtL.out; omega) (by have := BtD.out; omega) (by have := BtX.out; omega)).mono ?_
        rintro e w3 ⟨v0, v1, v2, rfl, ho, hb⟩
        obtain ⟨b0, d0, rfl, -⟩ := ints_form ho.rows.1.rd
        obtain ⟨b1, d1, rfl, -⟩ := ints_form ho.rows.2.1.rd
        obtain ⟨b2, d2, rfl, -⟩ := ints_form ho.rows.2.2.rd
        replace EB := Lib.hid (EB.out.add hb ho)
        clear hb ho
        clear EQ c10 c11 c12 c00 c01 c02
        obtain ⟨c10, c11, c12, c00, c01, c02, -⟩ := EB.out.st.cells
        (try clear t0 t1 t2 f0 f1 f2)
        obtain ⟨-, t0, t1, t2, fr, -, -⟩ := EB.out.bx
        have f0 := fr 0
        have f1 := fr 1
        have f2 := fr 2
        clear fr
        go_wp2_with fail
        refine hK.out _ _ (by (try dsimp only); exact ⟨c10, c11, c12, c00, c01, c02⟩) (fun hHeld => ?_)
        clear hK K
        try simp only [Act.put, List.getElem_toArray, List.getElem_cons_succ, List.getElem_cons_zero, List.setIfInBounds_toArray, List.set_cons_zero, List.set_cons_succ]
        refine wpAnyH_ready (rs := [5]) (by kernel_rfl) (by simp) ?_
        refine AllReadyH.cons rfl (fun K hK => ?_) AllReadyH.nil
        go_simp
        go_at_call 32
        have EQ := Lib.hid EB.out.st
        refine (to_row ((EQ.out.rdAt 3 rfl).mono EQ.out.bel.size) (Nat.le_refl _) (by have := Bx.out; omega)).mono ?_
        rintro e w4 ⟨v, rfl, ho, hb⟩
        obtain ⟨b3, d3, rfl, -⟩ := ints_form ho.rd
        replace EB := Lib.hid (EB.out.add hb (OwnG.one ho))
        clear hb ho
        clear EQ c10 c11 c12 c00 c01 c02
        obtain ⟨c10, c11, c12, c00, c01, c02, -⟩ := EB.out.st.cells
        (try clear t0 t1 t2 f0 f1 f2)
        obtain ⟨-, t0, t1, t2, fr, -, -⟩ := EB.out.bx
        have f0 := fr 0
        have f1 := fr 1
        have f2 := fr 2
        clear fr
        go_wp2_with fail
        refine hK.out _ _ (by (try dsimp only); exact ⟨c10, c11, c12, c00, c01, c02⟩) (fun hHeld => ?_)
        clear hK K
        try simp only [Act.put, List.getElem_toArray, List.getElem_cons_succ, List.getElem_cons_zero, List.setIfInBounds_toArray, List.set_cons_zero, List.set_cons_succ]
        refine wpAnyH_ready (rs := [6]) (by kernel_rfl) (by simp) ?_
        refine AllReadyH.cons rfl (fun K hK => ?_) AllReadyH.nil
        go_simp
        go_at_call 42
        have EQ := Lib.hid EB.out.st
        refine (sum_labels_spec ⟨(EQ.out.rowAt 1 0 rfl rfl), (EQ.out.rowAt 1 1 rfl rfl), (EQ.out.rowAt 1 2 rfl rfl)⟩ (EQ.out.rowAt 0 0 rfl rfl) (Nat.le_refl _) (Nat.le_refl _) ⟨(by have := BtL.out; omega), (by have := BtD.out; omega), (by have := BtX.out; omega)⟩ (by have := Bx.out; omega)).mono ?_
        rw [← HGL.out, ← HGD.out, ← HGX.out]
        rintro e w5 ⟨v0, v1, v2, rfl, ho, hb⟩
        obtain ⟨b4, d4, rfl, -⟩ := ints_form ho.rows.1.rd
        obtain ⟨b5, d5, rfl, -⟩ := ints_form ho.rows.2.1.rd
        obtain ⟨b6, d6, rfl, -⟩ := ints_form ho.rows.2.2.rd
        replace EB := Lib.hid (EB.out.add hb ho)
        clear hb ho
        clear EQ c10 c11 c12 c00 c01 c02
        obtain ⟨c10, c11, c12, c00, c01, c02, -⟩ := EB.out.st.cells
        (try clear t0 t1 t2 f0 f1 f2)
        obtain ⟨-, t0, t1, t2, fr, -, -⟩ := EB.out.bx
        have f0 := fr 0
        have f1 := fr 1
        have f2 := fr 2
        clear fr
        go_wp2_with fail
        refine hK.out _ _ (by (try dsimp only); exact ⟨c10, c11, c12, c00, c01, c02⟩) (fun hHeld => ?_)
        clear hK K
        try simp only [Act.put, List.getElem_toArray, List.getElem_cons_succ, List.getElem_cons_zero, List.setIfInBounds_toArray, List.set_cons_zero, List.set_cons_succ]
        refine wpAnyH_ready (rs := [8]) (by kernel_rfl) (by simp) ?_
        refine AllReadyH.cons rfl (fun K hK => ?_) AllReadyH.nil
        go_simp
        refine hK.out _ _ (by (try dsimp only); exact ⟨EB.out.cell3 _ _ _ 0 rfl, EB.out.cell3 _ _ _ 1 rfl, EB.out.cell3 _ _ _ 2 rfl, EB.out.cell3 _ _ _ 3 rfl, EB.out.cell3 _ _ _ 4 rfl, EB.out.cell3 _ _ _ 5 rfl⟩) (fun hHeld => ?_)
        clear hK K
        try simp only [Act.put, List.getElem_toArray, List.getElem_cons_succ, List.getElem_cons_zero, List.setIfInBounds_toArray, List.set_cons_zero, List.set_cons_succ]
        refine wpAnyH_done (by kernel_rfl) ?_ _
        go_wp2_with fail
        go_meet
        exact ⟨_, _, _, _, _, _, _, _, _, rfl, Lib.hid ((EB.out.put _ _ _).subL HOL.out (List.Sublist.cons_cons _ (List.Sublist.cons _ (List.Sublist.cons _ (List.Sublist.refl _)))))⟩
    · go_simp
      refine hK.out _ _ (by (try dsimp only); first | exact ⟨EC.out.cellA _ 0 rfl, EC.out.cellA _ 1 rfl, EC.out.cellA _ 2 rfl, EC.out.cellA _ 3 rfl, EC.out.cellA _ 4 rfl, EC.out.cellA _ 5 rfl⟩ | fail) (fun hHeld => ?_)
      have EB := Lib.hid ((StB.new EP.out 49).step (Below.drew (Below.refl _ _)))
      try simp only [World.size_alloc] at EB HOL
      clear EC c10 c11 c12 c00 c01 c02
      obtain ⟨c10, c11, c12, c00, c01, c02, -⟩ := EB.out.st.cells
      (try clear t0 t1 t2 f0 f1 f2)
      obtain ⟨-, t0, t1, t2, fr, -, -⟩ := EB.out.bx
      have f0 := fr 0
      have f1 := fr 1
      have f2 := fr 2
      clear fr
      clear hK K
      try simp only [Act.put, List.getElem_toArray, List.getElem_cons_succ, List.getElem_cons_zero, List.setIfInBounds_toArray, List.set_cons_zero, List.set_cons_succ]
      refine wpAnyH_ready (rs := [1]) (by kernel_rfl) (by simp) ?_
      refine AllReadyH.cons rfl (fun K hK => ?_) AllReadyH.nil
      go_simp
      go_at_call 36
      have EQ := Lib.hid EB.out.st
      refine (to_ring rk rp rn _).mono ?_
      rintro e w2 ⟨rfl, hb⟩
      replace EB := Lib.hid (EB.out.step hb)
      clear hb
      clear EQ c10 c11 c12 c00 c01 c02
      obtain ⟨c10, c11, c12, c00, c01, c02, -⟩ := EB.out.st.cells
      (try clear t0 t1 t2 f0 f1 f2)
      obtain ⟨-, t0, t1, t2, fr, -, -⟩ := EB.out.bx
      have f0 := fr 0
      have f1 := fr 1
      have f2 := fr 2
      clear fr
      go_wp2_with fail
      refine hK.out _ _ (by (try dsimp only); exact ⟨c10, c11, c12, c00, c01, c02⟩) (fun hHeld => ?_)
      clear hK K
      try simp only [Act.put, List.getElem_toArray, List.getElem_cons_succ, List.getElem_cons_zero, List.setIfInBounds_toArray, List.set_cons_zero, List.set_cons_succ]
      refine wpAnyH_ready (rs := [3]) (by kernel_rfl) (by simp) ?_
      refine AllReadyH.cons rfl (fun K hK => ?_) AllReadyH.nil
      go_simp
      go_at_call 37
      have EQ := Lib.hid EB.out.st
      refine (to_ten ⟨((EQ.out.rdAt 0 rfl).mono EQ.out.bel.size), ((EQ.out.rdAt 1 rfl).mono EQ.out.bel.size), ((EQ.out.rdAt 2 rfl).mono EQ.out.bel.size)⟩ (Nat.le_refl _) (by have := BtL.out; omega) (by have := BtD.out; omega) (by have := BtX.out; omega)).mono ?_
      rintro e w3 ⟨v0, v1, v2, rfl, ho, hb⟩
      obtain ⟨b0, d0, rfl, -⟩ := ints_form ho.rows.1.rd
      obtain ⟨b1, d1, rfl, -⟩ := ints_form ho.rows.2.1.rd
      obtain ⟨b2, d2, rfl, -⟩ := ints_form ho.rows.2.2.rd
      replace EB := Lib.hid (EB.out.add hb ho)
      clear hb ho
      clear EQ c10 c11 c12 c00 c01 c02
      obtain ⟨c10, c11, c12, c00, c01, c02, -⟩ := EB.out.st.cells
      (try clear t0 t1 t2 f0 f1 f2)
      obtain ⟨-, t0, t1, t2, fr, -, -⟩ := EB.out.bx
      have f0 := fr 0
      have f1 := fr 1
      have f2 := fr 2
      clear fr
      go_wp2_with fail
      refine hK.out _ _ (by (try dsimp only); exact ⟨c10, c11, c12, c00, c01, c02⟩) (fun hHeld => ?_)
      clear hK K
      try simp only [Act.put, List.getElem_toArray, List.getElem_cons_succ, List.getElem_cons_zero, List.setIfInBounds_toArray, List.set_cons_zero, List.set_cons_succ]
      refine wpAnyH_ready (rs := [5]) (by kernel_rfl) (by simp) ?_
      refine AllReadyH.cons rfl (fun K hK => ?_) AllReadyH.nil
      go_simp
      go_at_call 32
      have EQ := Lib.hid EB.out.st
      refine (to_row ((EQ.out.rdAt 3 rfl).mono EQ.out.bel.size) (Nat.le_refl _) (by have := Bx.out; omega)).mono ?_
      rintro e w4 ⟨v, rfl, ho, hb⟩
      obtain ⟨b3, d3, rfl, -⟩ := ints_form ho.rd
      replace EB := Lib.hid (EB.out.add hb (OwnG.one ho))
      clear hb ho
      clear EQ c10 c11 c12 c00 c01 c02
      obtain ⟨c10, c11, c12, c00, c01, c02, -⟩ := EB.out.st.cells
      (try clear t0 t1 t2 f0 f1 f2)
      obtain ⟨-, t0, t1, t2, fr, -, -⟩ := EB.out.bx
      have f0 := fr 0
      have f1 := fr 1
      have f2 := fr 2
      clear fr
      go_wp2_with fail
      refine hK.out _ _ (by (try dsimp only); exact ⟨c10, c11, c12, c00, c01, c02⟩) (fun hHeld => ?_)
      clear hK K
      try simp only [Act.put, List.getElem_toArray, List.getElem_cons_succ, List.getElem_cons_zero, List.setIfInBounds_toArray, List.set_cons_zero, List.set_cons_succ]
      refine wpAnyH_ready (rs := [6]) (by kernel_rfl) (by simp) ?_
      refine AllReadyH.cons rfl (fun K hK => ?_) AllReadyH.nil
      go_simp
      go_at_call 42
      have EQ := Lib.hid EB.out.st
      refine (sum_labels_spec ⟨(EQ.out.rowAt 1 0 rfl rfl), (EQ.out.rowAt 1 1 rfl rfl), (EQ.out.rowAt 1 2 rfl rfl)⟩ (EQ.out.rowAt 0 0 rfl rfl) (Nat.le_refl _) (Nat.le_refl _) ⟨(by have := BtL.out; omega), (by have := BtD.out; omega), (by have := BtX.out; omega)⟩ (by have := Bx.out; omega)).mono ?_
      rw [← HGL.out, ← HGD.out, ← HGX.out]
      rintro e w5 ⟨v0, v1, v2, rfl, ho, hb⟩
      obtain ⟨b4, d4, rfl, -⟩ := ints_form ho.rows.1.rd
      obtain ⟨b5, d5, rfl, -⟩ := ints_form ho.rows.2.1.rd
      obtain ⟨b6, d6, rfl, -⟩ := ints_form ho.rows.2.2.rd
      replace EB := Lib.hid (EB.out.add hb ho)
      clear hb ho
      clear EQ c10 c11 c12 c00 c01 c02
      obtain ⟨c10, c11, c12, c00, c01, c02, -⟩ := EB.out.st.cells
      (try clear t0 t1 t2 f0 f1 f2)
      obtain ⟨-, t0, t1, t2, fr, -, -⟩ := EB.out.bx
      have f0 := fr 0
      have f1 := fr 1
      have f2 := fr 2
      clear fr
      go_wp2_with fail
      refine hK.out _ _ (by (try dsimp only); exact ⟨c10, c11, c12, c00, c01, c02⟩) (fun hHeld => ?_)
      clear hK K
      try simp only [Act.put, List.getElem_toArray, List.getElem_cons_succ, List.getElem_cons_zero, List.setIfInBounds_toArray, List.set_cons_zero, List.set_cons_succ]
      refine wpAnyH_ready (rs := [8]) (by kernel_rfl) (by simp) ?_
      refine AllReadyH.cons rfl (fun K hK => ?_) AllReadyH.nil
      go_simp
      refine hK.out _ _ (by (try dsimp only); exact ⟨EB.out.cell3 _ _ _ 0 rfl, EB.out.cell3 _ _ _ 1 rfl, EB.out.cell3 _ _ _ 2 rfl, EB.out.cell3 _ _ _ 3 rfl, EB.out.cell3 _ _ _ 4 rfl, EB.out.cell3 _ _ _ 5 rfl⟩) (fun hHeld => ?_)
      clear hK K
      try simp only [Act.put, List.getElem_toArray, List.getElem_cons_succ, List.getElem_cons_zero, List.setIfInBounds_toArray, List.set_cons_zero, List.set_cons_succ]
      refine wpAnyH_done (by kernel_rfl) ?_ _
      go_wp2_with fail
      go_meet
      exact ⟨_, _, _, _, _, _, _, _, _, rfl, Lib.hid ((EB.out.put _ _ _).subL HOL.out (List.Sublist.cons_cons _ (List.Sublist.cons _ (List.Sublist.cons _ (List.Sublist.refl _)))))⟩
  obtain ⟨bq7, lo7, hi7, b7, d7, b8, d8, b9, d9, rfl, E6⟩ := hcut
  have hOL := HOL.out
  subst hOL
  clear HOL EC
  obtain ⟨-, -, -, c10, c11, c12, -, -, -, -⟩ := E6.out.cells
  go_wp2_with fail
  refine (to_ten ⟨((E6.out.rdAt 0 rfl).mono E6.out.bel.size), ((E6.out.rdAt 1 rfl).mono E6.out.bel.size), ((E6.out.rdAt 2 rfl).mono E6.out.bel.size)⟩ (Nat.le_refl _) (by have := BtL.out; omega) (by have := BtD.out; omega) (by have := BtX.out; omega)).mono ?_
  rintro e w6 ⟨v0, v1, v2, rfl, ho, hb⟩
  obtain ⟨b10, d10, rfl, -⟩ := ints_form ho.rows.1.rd
  obtain ⟨b11, d11, rfl, -⟩ := ints_form ho.rows.2.1.rd
  obtain ⟨b12, d12, rfl, -⟩ := ints_form ho.rows.2.2.rd
  have E7 := Lib.hid (E6.out.grp hb ho)
  clear hb ho
  have E8 := Lib.hid (E7.out.box3 (.slice b10 tL.length d10) (.slice b11 tD.length d11) (.slice b12 tX.length d12) 49)
  clear c10 c11 c12
  go_wp2_with fail
  refine (to_row ((E8.out.rdAt 3 rfl).mono E8.out.bel.size) (Nat.le_refl _) (by have := Bx.out; omega)).mono ?_
  rintro e w7 ⟨v, rfl, ho, hb⟩
  obtain ⟨b13, d13, rfl, -⟩ := ints_form ho.rd
  have E9 := Lib.hid (E8.out.grp hb (OwnG.one ho))
  clear hb ho
  go_upto_region 10 with fail
  have EC := E9
  obtain ⟨OL, HOL⟩ := St.letter EC
  go_cut [11] (fun sv wx => ∃ (bq10 lo10 hi10 : Nat) (b17 : Option Addr) (d17 : Nat) (b18 : Option Addr) (d18 : Nat) (b19 : Option Addr) (d19 : Nat), sv = .pointer (some ⟨bq10, 0, none⟩) ∧ Hid (St w wx [(bq10, 0, .slice b17 GL.length d17), (bq10, 1, .slice b18 GD.length d18), (bq10, 2, .slice b19 GX.length d19), (w6.heap.size, 0, .slice b10 tL.length d10), (w6.heap.size, 1, .slice b11 tD.length d11), (w6.heap.size, 2, .slice b12 tX.length d12), (bq7, 0, .slice b7 GL.length d7), (bq7, 1, .slice b8 GD.length d8), (bq7, 2, .slice b9 GX.length d9), (w.heap.size + 1, 0, .slice atL tL.length ctL), (w.heap.size + 1, 1, .slice atD tD.length ctD), (w.heap.size + 1, 2, .slice atX tX.length ctX), (w.heap.size, 0, .int .i64 rk), (w.heap.size, 1, .int .i64 rp), (w.heap.size, 2, .int .i64 rn)] [(.slice atL tL.length ctL, tL), (.slice atD tD.length ctD, tD), (.slice atX tX.length ctX, tX), (.slice ax x.length cx, x)] ((lo10, hi10, [(.slice b17 GL.length d17, GL), (.slice b18 GD.length d18, GD), (.slice b19 GX.length d19, GX)]) :: OL)))
  case first =>
    have EP := EC
    have EC := Lib.hid EC.out.drew
    obtain ⟨c30, c31, c32, -, -, -, -, -, -, c00, c01, c02, -⟩ := EC.out.cells
    refine wp_region_held_drew (S := fun w' => w'.cell? ⟨w6.heap.size, 0, none⟩ = some (.slice b10 tL.length d10) ∧ w'.cell? ⟨w6.heap.size, 1, none⟩ = some (.slice b11 tD.length d11) ∧ w'.cell? ⟨w6.heap.size, 2, none⟩ = some (.slice b12 tX.length d12) ∧ w'.cell? ⟨w.heap.size, 0, none⟩ = some (.int .i64 rk) ∧ w'.cell? ⟨w.heap.size, 1, none⟩ = some (.int .i64 rp) ∧ w'.cell? ⟨w.heap.size, 2, none⟩ = some (.int .i64 rn)) (by kernel_rfl) (by (try dsimp only); exact ⟨c30, c31, c32, c00, c01, c02⟩) (fun hHeld => ?_)
    refine wpAnyH_take (i := 0) (v := ?_) rfl (by kernel_rfl) (by kernel_rfl) (by kernel_rfl) (fun _ _ _ h => h) (Or.inl ⟨by rfl, ?_⟩) (by assumption) ?_
    rotate_left
    · intro w hSw; (try dsimp only at hSw); go_simp <;> with_reducible rfl
    try simp only [Act.put, List.getElem_toArray, List.getElem_cons_zero, List.setIfInBounds_toArray, List.set_cons_zero, List.set_cons_succ]
    refine wpAnyH_take (i := 2) (v := ?_) rfl (by kernel_rfl) (by kernel_rfl) (by kernel_rfl) (fun _ _ _ h => h) (Or.inl ⟨by rfl, ?_⟩) (by assumption) ?_
    rotate_left
    · intro w hSw; (try dsimp only at hSw); go_simp <;> with_reducible rfl
    try simp only [Act.put, List.getElem_toArray, List.getElem_cons_succ, List.getElem_cons_zero, List.setIfInBounds_toArray, List.set_cons_zero, List.set_cons_succ]
    refine wpAnyH_take (i := 3) (v := ?_) rfl (by kernel_rfl) (by kernel_rfl) (by kernel_rfl) (fun _ _ _ h => h) (Or.inl ⟨by rfl, ?_⟩) (by assumption) ?_
    rotate_left
    · intro w hSw; (try dsimp only at hSw); go_simp <;> with_reducible rfl
    try simp only [Act.put, List.getElem_toArray, List.getElem_cons_succ, List.getElem_cons_zero, List.setIfInBounds_toArray, List.set_cons_zero, List.set_cons_succ]
    refine wpAnyH_ready (rs := [1, 5]) (by kernel_rfl) (by simp) ?_
    refine AllReadyH.cons rfl (fun K hK => ?_) (AllReadyH.cons rfl (fun K hK => ?_) AllReadyH.nil)
    · go_simp
      go_at_call 36
      have EQ := EC
      refine (to_ring rk rp rn _).mono ?_
      rintro e w8 ⟨rfl, hb⟩
      replace EC := Lib.hid (EC.out.step hb)
      clear hb
      clear EQ c30 c31 c32 c00 c01 c02
      obtain ⟨c30, c31, c32, -, -, -, -, -, -, c00, c01, c02, -⟩ := EC.out.cells
      go_wp2_with fail
      refine hK.out _ _ (by (try dsimp only); exact ⟨c30, c31, c32, c00, c01, c02⟩) (fun hHeld => ?_)
      clear hK K
      try simp only [Act.put, List.getElem_toArray, List.getElem_cons_succ, List.getElem_cons_zero, List.setIfInBounds_toArray, List.set_cons_zero, List.set_cons_succ]
      refine wpAnyH_ready (rs := [4, 5]) (by kernel_rfl) (by simp) ?_
      refine AllReadyH.cons rfl (fun K hK => ?_) (AllReadyH.cons rfl (fun K hK => ?_) AllReadyH.nil)
      · go_simp
        go_at_call 43
        have EQ := EC
        refine (sum_labels_impl ⟨(EQ.out.rowAt 1 0 rfl rfl), (EQ.out.rowAt 1 1 rfl rfl), (EQ.out.rowAt 1 2 rfl rfl)⟩ (EQ.out.rowAt 0 0 rfl rfl) (Nat.le_refl _) (Nat.le_refl _) ⟨(by have := BtL.out; omega), (by have := BtD.out; omega), (by have := BtX.out; omega)⟩ (by have := Bx.out; omega) HhI.out).mono ?_
        rw [← HGL.out, ← HGD.out, ← HGX.out]
        rintro e w9 ⟨v0, v1, v2, rfl, ho, hb⟩
        obtain ⟨b14, d14, rfl, -⟩ := ints_form ho.rows.1.rd
        obtain ⟨b15, d15, rfl, -⟩ := ints_form ho.rows.2.1.rd
        obtain ⟨b16, d16, rfl, -⟩ := ints_form ho.rows.2.2.rd
        replace EC := Lib.hid (EC.out.grp hb ho)
        clear hb ho
        clear EQ c30 c31 c32 c00 c01 c02
        obtain ⟨c30, c31, c32, -, -, -, -, -, -, c00, c01, c02, -⟩ := EC.out.cells
        go_wp2_with fail
        refine hK.out _ _ (by (try dsimp only); exact ⟨c30, c31, c32, c00, c01, c02⟩) (fun hHeld => ?_)
        clear hK K
        try simp only [Act.put, List.getElem_toArray, List.getElem_cons_succ, List.getElem_cons_zero, List.setIfInBounds_toArray, List.set_cons_zero, List.set_cons_succ]
        refine wpAnyH_ready (rs := [5]) (by kernel_rfl) (by simp) ?_
        refine AllReadyH.cons rfl (fun K hK => ?_) AllReadyH.nil
        go_simp
        refine hK.out _ _ (by (try dsimp only); first | exact ⟨EC.out.cellA _ 0 rfl, EC.out.cellA _ 1 rfl, EC.out.cellA _ 2 rfl, EC.out.cellA _ 9 rfl, EC.out.cellA _ 10 rfl, EC.out.cellA _ 11 rfl⟩ | fail) (fun hHeld => ?_)
        clear hK K
        try simp only [Act.put, List.getElem_toArray, List.getElem_cons_succ, List.getElem_cons_zero, List.setIfInBounds_toArray, List.set_cons_zero, List.set_cons_succ]
        refine wpAnyH_ready (rs := [6]) (by kernel_rfl) (by simp) ?_
        refine AllReadyH.cons rfl (fun K hK => ?_) AllReadyH.nil
        go_simp
        refine hK.out _ _ (by (try dsimp only); exact ⟨EC.out.cellA _ 0 rfl, EC.out.cellA _ 1 rfl, EC.out.cellA _ 2 rfl, EC.out.cellA _ 9 rfl, EC.out.cellA _ 10 rfl, EC.out.cellA _ 11 rfl⟩) (fun hHeld => ?_)
        clear hK K
        try simp only [Act.put, List.getElem_toArray, List.getElem_cons_succ, List.getElem_cons_zero, List.setIfInBounds_toArray, List.set_cons_zero, List.set_cons_succ]
        refine wpAnyH_done (by kernel_rfl) ?_ _
        go_wp2_with fail
        go_meet
        exact ⟨_, _, _, _, _, _, _, _, _, rfl, Lib.hid ((EC.out.box3 _ _ _ _).subL HOL.out (List.Sublist.cons_cons _ (List.Sublist.refl _)))⟩
      · go_simp
        refine hK.out _ _ (by (try dsimp only); first | exact ⟨EC.out.cellA _ 0 rfl, EC.out.cellA _ 1 rfl, EC.out.cellA _ 2 rfl, EC.out.cellA _ 9 rfl, EC.out.cellA _ 10 rfl, EC.out.cellA _ 11 rfl⟩ | fail) (fun hHeld => ?_)
        have EB := Lib.hid (StB.new EC.out 49)
        try simp only [World.size_alloc] at EB HOL
        clear EC c30 c31 c32 c00 c01 c02
        obtain ⟨c30, c31, c32, -, -, -, -, -, -, c00, c01, c02, -⟩ := EB.out.st.cells
        (try clear t0 t1 t2 f0 f1 f2)
        obtain ⟨-, t0, t1, t2, fr, -, -⟩ := EB.out.bx
        have f0 := fr 0
        have f1 := fr 1
        have f2 := fr 2
        clear fr
        clear hK K
        try simp only [Act.put, List.getElem_toArray, List.getElem_cons_succ, List.getElem_cons_zero, List.setIfInBounds_toArray, List.set_cons_zero, List.set_cons_succ]
        refine wpAnyH_ready (rs := [4]) (by kernel_rfl) (by simp) ?_
        refine AllReadyH.cons rfl (fun K hK => ?_) AllReadyH.nil
        go_simp
        go_at_call 43
        have EQ := Lib.hid EB.out.st
        refine (sum_labels_impl ⟨(EQ.out.rowAt 1 0 rfl rfl), (EQ.out.rowAt 1 1 rfl rfl), (EQ.out.rowAt 1 2 rfl rfl)⟩ (EQ.out.rowAt 0 0 rfl rfl) (Nat.le_refl _) (Nat.le_refl _) ⟨(by have := BtL.out; omega), (by have := BtD.out; omega), (by have := BtX.out; omega)⟩ (by have := Bx.out; omega) HhI.out).mono ?_
        rw [← HGL.out, ← HGD.out, ← HGX.out]
        rintro e w9 ⟨v0, v1, v2, rfl, ho, hb⟩
        obtain ⟨b14, d14, rfl, -⟩ := ints_form ho.rows.1.rd
        obtain ⟨b15, d15, rfl, -⟩ := ints_form ho.rows.2.1.rd
        obtain ⟨b16, d16, rfl, -⟩ := ints_form ho.rows.2.2.rd
        replace EB := Lib.hid (EB.out.add hb ho)
        clear hb ho
        clear EQ c30 c31 c32 c00 c01 c02
        obtain ⟨c30, c31, c32, -, -, -, -, -, -, c00, c01, c02, -⟩ := EB.out.st.cells
        (try clear t0 t1 t2 f0 f1 f2)
        obtain ⟨-, t0, t1, t2, fr, -, -⟩ := EB.out.bx
        have f0 := fr 0
        have f1 := fr 1
        have f2 := fr 2
        clear fr
        go_wp2_with fail
        refine hK.out _ _ (by (try dsimp only); exact ⟨c30, c31, c32, c00, c01, c02⟩) (fun hHeld => ?_)
        clear hK K
        try simp only [Act.put, List.getElem_toArray, List.getElem_cons_succ, List.getElem_cons_zero, List.setIfInBounds_toArray, List.set_cons_zero, List.set_cons_succ]
        refine wpAnyH_ready (rs := [6]) (by kernel_rfl) (by simp) ?_
        refine AllReadyH.cons rfl (fun K hK => ?_) AllReadyH.nil
        go_simp
        refine hK.out _ _ (by (try dsimp only); exact ⟨EB.out.cell3 _ _ _ 0 rfl, EB.out.cell3 _ _ _ 1 rfl, EB.out.cell3 _ _ _ 2 rfl, EB.out.cell3 _ _ _ 9 rfl, EB.out.cell3 _ _ _ 10 rfl, EB.out.cell3 _ _ _ 11 rfl⟩) (fun hHeld => ?_)
        clear hK K
        try simp only [Act.put, List.getElem_toArray, List.getElem_cons_succ, List.getElem_cons_zero, List.setIfInBounds_toArray, List.set_cons_zero, List.set_cons_succ]
        refine wpAnyH_done (by kernel_rfl) ?_ _
        go_wp2_with fail
        go_meet
        exact ⟨_, _, _, _, _, _, _, _, _, rfl, Lib.hid ((EB.out.put _ _ _).subL HOL.out (List.Sublist.cons_cons _ (List.Sublist.refl _)))⟩
    · go_simp
      refine hK.out _ _ (by (try dsimp only); first | exact ⟨EC.out.cellA _ 0 rfl, EC.out.cellA _ 1 rfl, EC.out.cellA _ 2 rfl, EC.out.cellA _ 9 rfl, EC.out.cellA _ 10 rfl, EC.out.cellA _ 11 rfl⟩ | fail) (fun hHeld => ?_)
      have EB := Lib.hid ((StB.new EP.out 49).step (Below.drew (Below.refl _ _)))
      try simp only [World.size_alloc] at EB HOL
      clear EC c30 c31 c32 c00 c01 c02
      obtain ⟨c30, c31, c32, -, -, -, -, -, -, c00, c01, c02, -⟩ := EB.out.st.cells
      (try clear t0 t1 t2 f0 f1 f2)
      obtain ⟨-, t0, t1, t2, fr, -, -⟩ := EB.out.bx
      have f0 := fr 0
      have f1 := fr 1
      have f2 := fr 2
      clear fr
      clear hK K
      try simp only [Act.put, List.getElem_toArray, List.getElem_cons_succ, List.getElem_cons_zero, List.setIfInBounds_toArray, List.set_cons_zero, List.set_cons_succ]
      refine wpAnyH_ready (rs := [1]) (by kernel_rfl) (by simp) ?_
      refine AllReadyH.cons rfl (fun K hK => ?_) AllReadyH.nil
      go_simp
      go_at_call 36
      have EQ := Lib.hid EB.out.st
      refine (to_ring rk rp rn _).mono ?_
      rintro e w8 ⟨rfl, hb⟩
      replace EB := Lib.hid (EB.out.step hb)
      clear hb
      clear EQ c30 c31 c32 c00 c01 c02
      obtain ⟨c30, c31, c32, -, -, -, -, -, -, c00, c01, c02, -⟩ := EB.out.st.cells
      (try clear t0 t1 t2 f0 f1 f2)
      obtain ⟨-, t0, t1, t2, fr, -, -⟩ := EB.out.bx
      have f0 := fr 0
      have f1 := fr 1
      have f2 := fr 2
      clear fr
      go_wp2_with fail
      refine hK.out _ _ (by (try dsimp only); exact ⟨c30, c31, c32, c00, c01, c02⟩) (fun hHeld => ?_)
      clear hK K
      try simp only [Act.put, List.getElem_toArray, List.getElem_cons_succ, List.getElem_cons_zero, List.setIfInBounds_toArray, List.set_cons_zero, List.set_cons_succ]
      refine wpAnyH_ready (rs := [4]) (by kernel_rfl) (by simp) ?_
      refine AllReadyH.cons rfl (fun K hK => ?_) AllReadyH.nil
      go_simp
      go_at_call 43
      have EQ := Lib.hid EB.out.st
      refine (sum_labels_impl ⟨(EQ.out.rowAt 1 0 rfl rfl), (EQ.out.rowAt 1 1 rfl rfl), (EQ.out.rowAt 1 2 rfl rfl)⟩ (EQ.out.rowAt 0 0 rfl rfl) (Nat.le_refl _) (Nat.le_refl _) ⟨(by have := BtL.out; omega), (by have := BtD.out; omega), (by have := BtX.out; omega)⟩ (by have := Bx.out; omega) HhI.out).mono ?_
      rw [← HGL.out, ← HGD.out, ← HGX.out]
      rintro e w9 ⟨v0, v1, v2, rfl, ho, hb⟩
      obtain ⟨b14, d14, rfl, -⟩ := ints_form ho.rows.1.rd
      obtain ⟨b15, d15, rfl, -⟩ := ints_form ho.rows.2.1.rd
      obtain ⟨b16, d16, rfl, -⟩ := ints_form ho.rows.2.2.rd
      replace EB := Lib.hid (EB.out.add hb ho)
      clear hb ho
      clear EQ c30 c31 c32 c00 c01 c02
      obtain ⟨c30, c31, c32, -, -, -, -, -, -, c00, c01, c02, -⟩ := EB.out.st.cells
      (try clear t0 t1 t2 f0 f1 f2)
      obtain ⟨-, t0, t1, t2, fr, -, -⟩ := EB.out.bx
      have f0 := fr 0
      have f1 := fr 1
      have f2 := fr 2
      clear fr
      go_wp2_with fail
      refine hK.out _ _ (by (try dsimp only); exact ⟨c30, c31, c32, c00, c01, c02⟩) (fun hHeld => ?_)
      clear hK K
      try simp only [Act.put, List.getElem_toArray, List.getElem_cons_succ, List.getElem_cons_zero, List.setIfInBounds_toArray, List.set_cons_zero, List.set_cons_succ]
      refine wpAnyH_ready (rs := [6]) (by kernel_rfl) (by simp) ?_
      refine AllReadyH.cons rfl (fun K hK => ?_) AllReadyH.nil
      go_simp
      refine hK.out _ _ (by (try dsimp only); exact ⟨EB.out.cell3 _ _ _ 0 rfl, EB.out.cell3 _ _ _ 1 rfl, EB.out.cell3 _ _ _ 2 rfl, EB.out.cell3 _ _ _ 9 rfl, EB.out.cell3 _ _ _ 10 rfl, EB.out.cell3 _ _ _ 11 rfl⟩) (fun hHeld => ?_)
      clear hK K
      try simp only [Act.put, List.getElem_toArray, List.getElem_cons_succ, List.getElem_cons_zero, List.setIfInBounds_toArray, List.set_cons_zero, List.set_cons_succ]
      refine wpAnyH_done (by kernel_rfl) ?_ _
      go_wp2_with fail
      go_meet
      exact ⟨_, _, _, _, _, _, _, _, _, rfl, Lib.hid ((EB.out.put _ _ _).subL HOL.out (List.Sublist.cons_cons _ (List.Sublist.refl _)))⟩
  obtain ⟨bq10, lo10, hi10, b17, d17, b18, d18, b19, d19, rfl, E12⟩ := hcut
  have hOL := HOL.out
  subst hOL
  clear HOL EC
  obtain ⟨c40, c41, c42, -, -, -, c20, c21, c22, -, -, -, -, -, -, -⟩ := E12.out.cells
  go_wp2_with fail
  refine (eq_ten ⟨(E12.out.rowAt 0 0 rfl rfl), (E12.out.rowAt 0 1 rfl rfl), (E12.out.rowAt 0 2 rfl rfl)⟩ ⟨(E12.out.rowAt 3 0 rfl rfl), (E12.out.rowAt 3 1 rfl rfl), (E12.out.rowAt 3 2 rfl rfl)⟩ (Nat.le_refl _) (Nat.le_refl _) ⟨(by have := HGLL.out; omega), (by have := HGLD.out; omega), (by have := HGLX.out; omega)⟩).mono ?_
  rintro e w10 ⟨rfl, hb⟩
  have E13 := Lib.hid (E12.out.step hb)
  clear hb
  have E13d := Lib.hid E13.out.drew
  clear c40 c41 c42 c20 c21 c22
  obtain ⟨-, -, -, c30, c31, c32, -, -, -, c10, c11, c12, -, -, -, -⟩ := E13.out.cells
  go_wp2
  have tk13_0 : True := trivial
  have tk13_1 : True := trivial
  go_region_held3 (fun w' => w'.cell? ⟨w6.heap.size, 0, none⟩ = some (.slice b10 tL.length d10) ∧ w'.cell? ⟨w6.heap.size, 1, none⟩ = some (.slice b11 tD.length d11) ∧ w'.cell? ⟨w6.heap.size, 2, none⟩ = some (.slice b12 tX.length d12) ∧ w'.cell? ⟨w.heap.size + 1, 0, none⟩ = some (.slice atL tL.length ctL) ∧ w'.cell? ⟨w.heap.size + 1, 1, none⟩ = some (.slice atD tD.length ctD) ∧ w'.cell? ⟨w.heap.size + 1, 2, none⟩ = some (.slice atX tX.length ctX)) (first | exact ⟨c30, c31, c32, c10, c11, c12⟩) (first
    | (go_at_call 37; have _t := tk13_0; refine (to_ten ⟨((E13d.out.rdAt 0 rfl).mono E13d.out.bel.size), ((E13d.out.rdAt 1 rfl).mono E13d.out.bel.size), ((E13d.out.rdAt 2 rfl).mono E13d.out.bel.size)⟩ (Nat.le_refl _) (by have := BtL.out; omega) (by have := BtD.out; omega) (by have := BtX.out; omega)).mono ?_; rintro e w11 ⟨v0, v1, v2, rfl, ho, hb⟩; obtain ⟨b20, d20, rfl, -⟩ := ints_form ho.rows.1.rd; obtain ⟨b21, d21, rfl, -⟩ := ints_form ho.rows.2.1.rd; obtain ⟨b22, d22, rfl, -⟩ := ints_form ho.rows.2.2.rd; have E14 := Lib.hid (E13d.out.grp hb ho); clear hb ho; obtain ⟨-, -, -, c30, c31, c32, -, -, -, c10, c11, c12, -, -, -, -⟩ := E14.out.cells; clear tk13_0)
    | (go_at_call 39; have _t := tk13_1; refine (eq_ten ⟨(E14.out.rowAt 3 0 rfl rfl), (E14.out.rowAt 3 1 rfl rfl), (E14.out.rowAt 3 2 rfl rfl)⟩ ⟨(E14.out.rowAt 0 0 rfl rfl), (E14.out.rowAt 0 1 rfl rfl), (E14.out.rowAt 0 2 rfl rfl)⟩ (Nat.le_refl _) (Nat.le_refl _) ⟨(by have := BtL.out; omega), (by have := BtD.out; omega), (by have := BtX.out; omega)⟩).mono ?_; rintro e w12 ⟨rfl, hb⟩; have E15 := Lib.hid (E14.out.step hb); clear hb; obtain ⟨-, -, -, c30, c31, c32, -, -, -, c10, c11, c12, -, -, -, -⟩ := E15.out.cells; clear tk13_1))
  go_wp2_with fail
  refine (to_row ((E15.out.rdAt 3 rfl).mono E15.out.bel.size) (Nat.le_refl _) (by have := Bx.out; omega)).mono ?_
  rintro e w13 ⟨v, rfl, ho, hb⟩
  obtain ⟨b23, d23, rfl, -⟩ := ints_form ho.rd
  have E16 := Lib.hid (E15.out.grp hb (OwnG.one ho))
  clear hb ho
  go_wp2_with fail
  refine (eq_rows (E16.out.rowAt 3 0 rfl rfl) (E16.out.rowAt 0 0 rfl rfl) rfl (by have := Bx.out; omega)).mono ?_
  rintro e w14 ⟨rfl, hb⟩
  have E17 := Lib.hid (E16.out.step hb)
  clear hb
  obtain ⟨-, -, -, c30, c31, c32, -, -, -, -, -, -, -, -, -, -⟩ := E17.out.cells
  go_wp2_with fail
  obtain ⟨m0, hm⟩ : ∃ m : Nat, m = 1 + tL.length + tD.length + tX.length := ⟨_, rfl⟩
  have M0 := Lib.hid hm
  have m0b : m0 ≤ 3145729 := by have := BtL.out; have := BtD.out; have := BtX.out; omega
  clear hm
  refine (marks_ten 1 rfl (E17.out.grpAt 4 rfl) (by have := BtL.out; omega) (by have := BtD.out; omega) (by have := BtX.out; omega) (by omega)).mono ?_
  rw [← M0.out]
  rintro e w15 ⟨rfl, ho, hk⟩
  have E18 := Lib.hid (E17.out.mark 4 rfl hk ho)
  clear ho hk
  clear c30 c31 c32
  go_wp2_with fail
  obtain ⟨m1, hm⟩ : ∃ m : Nat, m = m0 + x.length := ⟨_, rfl⟩
  have M1 := Lib.hid hm
  have m1b : m1 ≤ 4194305 := by have := Bx.out; omega
  clear hm
  refine (marks_row m0 rfl (E18.out.grpAt 3 rfl) (by have := Bx.out; omega) (by omega)).mono ?_
  rw [← M1.out]
  rintro e w16 ⟨rfl, ho, hk⟩
  have E19 := Lib.hid (E18.out.mark 3 rfl hk ho)
  clear ho hk
  obtain ⟨c40, c41, c42, -, -, -, c20, c21, c22, -, -, -, -, -, -, -⟩ := E19.out.cells
  go_wp2_with fail
  refine (eq_ten ⟨(E19.out.rowAt 2 0 rfl rfl), (E19.out.rowAt 2 1 rfl rfl), (E19.out.rowAt 2 2 rfl rfl)⟩ ⟨(E19.out.rowAt 5 0 rfl rfl), (E19.out.rowAt 5 1 rfl rfl), (E19.out.rowAt 5 2 rfl rfl)⟩ (Nat.le_refl _) (Nat.le_refl _) ⟨(by have := HGLL.out; omega), (by have := HGLD.out; omega), (by have := HGLX.out; omega)⟩).mono ?_
  rintro e w17 ⟨rfl, hb⟩
  have E20 := Lib.hid (E19.out.step hb)
  clear hb
  clear c40 c41 c42 c20 c21 c22
  obtain ⟨c40, c41, c42, -, -, -, -, -, -, -, -, -, -, -, -, -⟩ := E20.out.cells
  go_wp2_with fail
  obtain ⟨m2, hm⟩ : ∃ m : Nat, m = 1 + GL.length + GD.length + GX.length := ⟨_, rfl⟩
  have M2 := Lib.hid hm
  have m2b : m2 ≤ 52776558133249 := by have := HGLL.out; have := HGLD.out; have := HGLX.out; omega
  clear hm
  refine (marks_ten 1 rfl (E20.out.grpAt 2 rfl) (by have := HGLL.out; omega) (by have := HGLD.out; omega) (by have := HGLX.out; omega) (by omega)).mono ?_
  rw [← M2.out]
  rintro e w18 ⟨rfl, ho, hk⟩
  have E21 := Lib.hid (E20.out.mark 2 rfl hk ho)
  clear ho hk
  clear c40 c41 c42
  obtain ⟨c40, c41, c42, -, -, -, -, -, -, -, -, -, -, -, -, -⟩ := E21.out.cells
  go_wp2_with fail
  refine (helds_ten (s := 1) rfl ⟨(E21.out.rowAt 2 0 rfl rfl), (E21.out.rowAt 2 1 rfl rfl), (E21.out.rowAt 2 2 rfl rfl)⟩ (Nat.le_refl _) (by have := HGLL.out; omega) (by have := HGLD.out; omega) (by have := HGLX.out; omega) (by omega)).mono ?_
  rw [← M2.out]
  rintro e w19 ⟨rfl, hb⟩
  have E22 := Lib.hid (E21.out.step hb)
  clear hb
  clear c40 c41 c42
  go_upto_region 30 with fail
  have EC := E22
  obtain ⟨OL, HOL⟩ := St.letter EC
  go_cut [15] (fun sv wx => ∃ (bq30 lo30 hi30 : Nat) (b31 : Option Addr) (d31 : Nat) (b32 : Option Addr) (d32 : Nat) (b33 : Option Addr) (d33 : Nat), sv = .pointer (some ⟨bq30, 0, none⟩) ∧ Hid (St w wx [(bq30, 0, .slice b31 GL.length d31), (bq30, 1, .slice b32 GD.length d32), (bq30, 2, .slice b33 GX.length d33), (bq10, 0, .slice b17 GL.length d17), (bq10, 1, .slice b18 GD.length d18), (bq10, 2, .slice b19 GX.length d19), (w6.heap.size, 0, .slice b10 tL.length d10), (w6.heap.size, 1, .slice b11 tD.length d11), (w6.heap.size, 2, .slice b12 tX.length d12), (bq7, 0, .slice b7 GL.length d7), (bq7, 1, .slice b8 GD.length d8), (bq7, 2, .slice b9 GX.length d9), (w.heap.size + 1, 0, .slice atL tL.length ctL), (w.heap.size + 1, 1, .slice atD tD.length ctD), (w.heap.size + 1, 2, .slice atX tX.length ctX), (w.heap.size, 0, .int .i64 rk), (w.heap.size, 1, .int .i64 rp), (w.heap.size, 2, .int .i64 rn)] [(.slice atL tL.length ctL, tL), (.slice atD tD.length ctD, tD), (.slice atX tX.length ctX, tX), (.slice ax x.length cx, x)] ((lo30, hi30, [(.slice b31 GL.length d31, GL), (.slice b32 GD.length d32, GD), (.slice b33 GX.length d33, GX)]) :: OL)))
  case first =>
    have EP := EC
    have EC := Lib.hid EC.out.drew
    obtain ⟨-, -, -, -, -, -, -, -, -, c10, c11, c12, c00, c01, c02, -⟩ := EC.out.cells
    refine wp_region_held_drew (S := fun w' => w'.cell? ⟨w.heap.size + 1, 0, none⟩ = some (.slice atL tL.length ctL) ∧ w'.cell? ⟨w.heap.size + 1, 1, none⟩ = some (.slice atD tD.length ctD) ∧ w'.cell? ⟨w.heap.size + 1, 2, none⟩ = some (.slice atX tX.length ctX) ∧ w'.cell? ⟨w.heap.size, 0, none⟩ = some (.int .i64 rk) ∧ w'.cell? ⟨w.heap.size, 1, none⟩ = some (.int .i64 rp) ∧ w'.cell? ⟨w.heap.size, 2, none⟩ = some (.int .i64 rn)) (by kernel_rfl) (by (try dsimp only); exact ⟨c10, c11, c12, c00, c01, c02⟩) (fun hHeld => ?_)
    refine wpAnyH_take (i := 0) (v := ?_) rfl (by kernel_rfl) (by kernel_rfl) (by kernel_rfl) (fun _ _ _ h => h) (Or.inl ⟨by rfl, ?_⟩) (by assumption) ?_
    rotate_left
    · intro w hSw; (try dsimp only at hSw); go_simp <;> with_reducible rfl
    try simp only [Act.put, List.getElem_toArray, List.getElem_cons_zero, List.setIfInBounds_toArray, List.set_cons_zero, List.set_cons_succ]
    refine wpAnyH_take (i := 2) (v := ?_) rfl (by kernel_rfl) (by kernel_rfl) (by kernel_rfl) (fun _ _ _ h => h) (Or.inl ⟨by rfl, ?_⟩) (by assumption) ?_
    rotate_left
    · intro w hSw; (try dsimp only at hSw); go_simp <;> with_reducible rfl
    try simp only [Act.put, List.getElem_toArray, List.getElem_cons_succ, List.getElem_cons_zero, List.setIfInBounds_toArray, List.set_cons_zero, List.set_cons_succ]
    refine wpAnyH_take (i := 4) (v := ?_) rfl (by kernel_rfl) (by kernel_rfl) (by kernel_rfl) (fun _ _ _ h => h) (Or.inl ⟨by rfl, ?_⟩) (by assumption) ?_
    rotate_left
    · intro w hSw; (try dsimp only at hSw); go_simp <;> with_reducible rfl
    try simp only [Act.put, List.getElem_toArray, List.getElem_cons_succ, List.getElem_cons_zero, List.setIfInBounds_toArray, List.set_cons_zero, List.set_cons_succ]
    refine wpAnyH_ready (rs := [1, 7]) (by kernel_rfl) (by simp) ?_
    refine AllReadyH.cons rfl (fun K hK => ?_) (AllReadyH.cons rfl (fun K hK => ?_) AllReadyH.nil)
    · go_simp
      go_at_call 36
      have EQ := EC
      refine (to_ring rk rp rn _).mono ?_
      rintro e w20 ⟨rfl, hb⟩
      replace EC := Lib.hid (EC.out.step hb)
      clear hb
      clear EQ c10 c11 c12 c00 c01 c02
      obtain ⟨-, -, -, -, -, -, -, -, -, c10, c11, c12, c00, c01, c02, -⟩ := EC.out.cells
      go_wp2_with fail
      refine hK.out _ _ (by (try dsimp only); exact ⟨c10, c11, c12, c00, c01, c02⟩) (fun hHeld => ?_)
      clear hK K
      try simp only [Act.put, List.getElem_toArray, List.getElem_cons_succ, List.getElem_cons_zero, List.setIfInBounds_toArray, List.set_cons_zero, List.set_cons_succ]
      refine wpAnyH_ready (rs := [3, 7]) (by kernel_rfl) (by simp) ?_
      refine AllReadyH.cons rfl (fun K hK => ?_) (AllReadyH.cons rfl (fun K hK => ?_) AllReadyH.nil)
      · go_simp
        go_at_call 37
        have EQ := EC
        refine (to_ten ⟨((EQ.out.rdAt 0 rfl).mono EQ.out.bel.size), ((EQ.out.rdAt 1 rfl).mono EQ.out.bel.size), ((EQ.out.rdAt 2 rfl).mono EQ.out.bel.size)⟩ (Nat.le_refl _) (by have := BtL.out; omega) (by have := BtD.out; omega) (by have := BtX.out; omega)).mono ?_
        rintro e w21 ⟨v0, v1, v2, rfl, ho, hb⟩
        obtain ⟨b24, d24, rfl, -⟩ := ints_form ho.rows.1.rd
        obtain ⟨b25, d25, rfl, -⟩ := ints_form ho.rows.2.1.rd
        obtain ⟨b26, d26, rfl, -⟩ := ints_form ho.rows.2.2.rd
        replace EC := Lib.hid (EC.out.grp hb ho)
        clear hb ho
        clear EQ c10 c11 c12 c00 c01 c02
        obtain ⟨-, -, -, -, -, -, -, -, -, c10, c11, c12, c00, c01, c02, -⟩ := EC.out.cells
        go_wp2_with fail
        refine hK.out _ _ (by (try dsimp only); exact ⟨c10, c11, c12, c00, c01, c02⟩) (fun hHeld => ?_)
        clear hK K
        try simp only [Act.put, List.getElem_toArray, List.getElem_cons_succ, List.getElem_cons_zero, List.setIfInBounds_toArray, List.set_cons_zero, List.set_cons_succ]
        refine wpAnyH_ready (rs := [5, 7]) (by kernel_rfl) (by simp) ?_
        refine AllReadyH.cons rfl (fun K hK => ?_) (AllReadyH.cons rfl (fun K hK => ?_) AllReadyH.nil)
        · go_simp
          go_at_call 32
          have EQ := EC
          refine (to_row ((EQ.out.rdAt 3 rfl).mono EQ.out.bel.size) (Nat.le_refl _) (by have := Bx.out; omega)).mono ?_
          rintro e w22 ⟨v, rfl, ho, hb⟩
          obtain ⟨b27, d27, rfl, -⟩ := ints_form ho.rd
          replace EC := Lib.hid (EC.out.grp hb (OwnG.one ho))
          clear hb ho
          clear EQ c10 c11 c12 c00 c01 c02
          obtain ⟨-, -, -, -, -, -, -, -, -, c10, c11, c12, c00, c01, c02, -⟩ := EC.out.cells
          go_wp2_with fail
          refine hK.out _ _ (by (try dsimp only); exact ⟨c10, c11, c12, c00, c01, c02⟩) (fun hHeld => ?_)
          clear hK K
          try simp only [Act.put, List.getElem_toArray, List.getElem_cons_succ, List.getElem_cons_zero, List.setIfInBounds_toArray, List.set_cons_zero, List.set_cons_succ]
          refine wpAnyH_ready (rs := [6, 7]) (by kernel_rfl) (by simp) ?_
          refine AllReadyH.cons rfl (fun K hK => ?_) (AllReadyH.cons rfl (fun K hK => ?_) AllReadyH.nil)
          · go_simp
            go_at_call 43
            have EQ := EC
            refine (sum_labels_impl ⟨(EQ.out.rowAt 1 0 rfl rfl), (EQ.out.rowAt 1 1 rfl rfl), (EQ.out.rowAt 1 2 rfl rfl)⟩ (EQ.out.rowAt 0 0 rfl rfl) (Nat.le_refl _) (Nat.le_refl _) ⟨(by have := BtL.out; omega), (by have := BtD.out; omega), (by have := BtX.out; omega)⟩ (by have := Bx.out; omega) HhI.out).mono ?_
            rw [← HGL.out, ← HGD.out, ← HGX.out]
            rintro e w23 ⟨v0, v1, v2, rfl, ho, hb⟩
            obtain ⟨b28, d28, rfl, -⟩ := ints_form ho.rows.1.rd
            obtain ⟨b29, d29, rfl, -⟩ := ints_form ho.rows.2.1.rd
            obtain ⟨b30, d30, rfl, -⟩ := ints_form ho.rows.2.2.rd
            replace EC := Lib.hid (EC.out.grp hb ho)
            clear hb ho
            clear EQ c10 c11 c12 c00 c01 c02
            obtain ⟨-, -, -, -, -, -, -, -, -, c10, c11, c12, c00, c01, c02, -⟩ := EC.out.cells
            go_wp2_with fail
            refine hK.out _ _ (by (try dsimp only); exact ⟨c10, c11, c12, c00, c01, c02⟩) (fun hHeld => ?_)
            clear hK K
            try simp only [Act.put, List.getElem_toArray, List.getElem_cons_succ, List.getElem_cons_zero, List.setIfInBounds_toArray, List.set_cons_zero, List.set_cons_succ]
            refine wpAnyH_ready (rs := [7]) (by kernel_rfl) (by simp) ?_
            refine AllReadyH.cons rfl (fun K hK => ?_) AllReadyH.nil
            go_simp
            refine hK.out _ _ (by (try dsimp only); first | exact ⟨EC.out.cellA _ 9 rfl, EC.out.cellA _ 10 rfl, EC.out.cellA _ 11 rfl, EC.out.cellA _ 12 rfl, EC.out.cellA _ 13 rfl, EC.out.cellA _ 14 rfl⟩ | fail) (fun hHeld => ?_)
            clear hK K
            try simp only [Act.put, List.getElem_toArray, List.getElem_cons_succ, List.getElem_cons_zero, List.setIfInBounds_toArray, List.set_cons_zero, List.set_cons_succ]
            refine wpAnyH_ready (rs := [8]) (by kernel_rfl) (by simp) ?_
            refine AllReadyH.cons rfl (fun K hK => ?_) AllReadyH.nil
            go_simp
            refine hK.out _ _ (by (try dsimp only); exact ⟨EC.out.cellA _ 9 rfl, EC.out.cellA _ 10 rfl, EC.out.cellA _ 11 rfl, EC.out.cellA _ 12 rfl, EC.out.cellA _ 13 rfl, EC.out.cellA _ 14 rfl⟩) (fun hHeld => ?_)
            clear hK K
            try simp only [Act.put, List.getElem_toArray, List.getElem_cons_succ, List.getElem_cons_zero, List.setIfInBounds_toArray, List.set_cons_zero, List.set_cons_succ]
            refine wpAnyH_done (by kernel_rfl) ?_ _
            go_wp2_with fail
            go_meet
            exact ⟨_, _, _, _, _, _, _, _, _, rfl, Lib.hid ((EC.out.box3 _ _ _ _).subL HOL.out (List.Sublist.cons_cons _ (List.Sublist.cons _ (List.Sublist.cons _ (List.Sublist.refl _)))))⟩
          · go_simp
            refine hK.out _ _ (by (try dsimp only); first | exact ⟨EC.out.cellA _ 9 rfl, EC.out.cellA _ 10 rfl, EC.out.cellA _ 11 rfl, EC.out.cellA _ 12 rfl, EC.out.cellA _ 13 rfl, EC.out.cellA _ 14 rfl⟩ | fail) (fun hHeld => ?_)
            have EB := Lib.hid (StB.new EC.out 49)
            try simp only [World.size_alloc] at EB HOL
            clear EC c10 c11 c12 c00 c01 c02
            obtain ⟨-, -, -, -, -, -, -, -, -, c10, c11, c12, c00, c01, c02, -⟩ := EB.out.st.cells
            (try clear t0 t1 t2 f0 f1 f2)
            obtain ⟨-, t0, t1, t2, fr, -, -⟩ := EB.out.bx
            have f0 := fr 0
            have f1 := fr 1
            have f2 := fr 2
            clear fr
            clear hK K
            try simp only [Act.put, List.getElem_toArray, List.getElem_cons_succ, List.getElem_cons_zero, List.setIfInBounds_toArray, List.set_cons_zero, List.set_cons_succ]
            refine wpAnyH_ready (rs := [6]) (by kernel_rfl) (by simp) ?_
            refine AllReadyH.cons rfl (fun K hK => ?_) AllReadyH.nil
            go_simp
            go_at_call 43
            have EQ := Lib.hid EB.out.st
            refine (sum_labels_impl ⟨(EQ.out.rowAt 1 0 rfl rfl), (EQ.out.rowAt 1 1 rfl rfl), (EQ.out.rowAt 1 2 rfl rfl)⟩ (EQ.out.rowAt 0 0 rfl rfl) (Nat.le_refl _) (Nat.le_refl _) ⟨(by have := BtL.out; omega), (by have := BtD.out; omega), (by have := BtX.out; omega)⟩ (by have := Bx.out; omega) HhI.out).mono ?_
            rw [← HGL.out, ← HGD.out, ← HGX.out]
            rintro e w23 ⟨v0, v1, v2, rfl, ho, hb⟩
            obtain ⟨b28, d28, rfl, -⟩ := ints_form ho.rows.1.rd
            obtain ⟨b29, d29, rfl, -⟩ := ints_form ho.rows.2.1.rd
            obtain ⟨b30, d30, rfl, -⟩ := ints_form ho.rows.2.2.rd
            replace EB := Lib.hid (EB.out.add hb ho)
            clear hb ho
            clear EQ c10 c11 c12 c00 c01 c02
            obtain ⟨-, -, -, -, -, -, -, -, -, c10, c11, c12, c00, c01, c02, -⟩ := EB.out.st.cells
            (try clear t0 t1 t2 f0 f1 f2)
            obtain ⟨-, t0, t1, t2, fr, -, -⟩ := EB.out.bx
            have f0 := fr 0
            have f1 := fr 1
            have f2 := fr 2
            clear fr
            go_wp2_with fail
            refine hK.out _ _ (by (try dsimp only); exact ⟨c10, c11, c12, c00, c01, c02⟩) (fun hHeld => ?_)
            clear hK K
            try simp only [Act.put, List.getElem_toArray, List.getElem_cons_succ, List.getElem_cons_zero, List.setIfInBounds_toArray, List.set_cons_zero, List.set_cons_succ]
            refine wpAnyH_ready (rs := [8]) (by kernel_rfl) (by simp) ?_
            refine AllReadyH.cons rfl (fun K hK => ?_) AllReadyH.nil
            go_simp
            refine hK.out _ _ (by (try dsimp only); exact ⟨EB.out.cell3 _ _ _ 9 rfl, EB.out.cell3 _ _ _ 10 rfl, EB.out.cell3 _ _ _ 11 rfl, EB.out.cell3 _ _ _ 12 rfl, EB.out.cell3 _ _ _ 13 rfl, EB.out.cell3 _ _ _ 14 rfl⟩) (fun hHeld => ?_)
            clear hK K
            try simp only [Act.put, List.getElem_toArray, List.getElem_cons_succ, List.getElem_cons_zero, List.setIfInBounds_toArray, List.set_cons_zero, List.set_cons_succ]
            refine wpAnyH_done (by kernel_rfl) ?_ _
            go_wp2_with fail
            go_meet
            exact ⟨_, _, _, _, _, _, _, _, _, rfl, Lib.hid ((EB.out.put _ _ _).subL HOL.out (List.Sublist.cons_cons _ (List.Sublist.cons _ (List.Sublist.cons _ (List.Sublist.refl _)))))⟩
        · go_simp
          refine hK.out _ _ (by (try dsimp only); first | exact ⟨EC.out.cellA _ 9 rfl, EC.out.cellA _ 10 rfl, EC.out.cellA _ 11 rfl, EC.out.cellA _ 12 rfl, EC.out.cellA _ 13 rfl, EC.out.cellA _ 14 rfl⟩ | fail) (fun hHeld => ?_)
          have EB := Lib.hid (StB.new EC.out 49)
          try simp only [World.size_alloc] at EB HOL
          clear EC c10 c11 c12 c00 c01 c02
          obtain ⟨-, -, -, -, -, -, -, -, -, c10, c11, c12, c00, c01, c02, -⟩ := EB.out.st.cells
          (try clear t0 t1 t2 f0 f1 f2)
          obtain ⟨-, t0, t1, t2, fr, -, -⟩ := EB.out.bx
          have f0 := fr 0
          have f1 := fr 1
          have f2 := fr 2
          clear fr
          clear hK K
          try simp only [Act.put, List.getElem_toArray, List.getElem_cons_succ, List.getElem_cons_zero, List.setIfInBounds_toArray, List.set_cons_zero, List.set_cons_succ]
          refine wpAnyH_ready (rs := [5]) (by kernel_rfl) (by simp) ?_
          refine AllReadyH.cons rfl (fun K hK => ?_) AllReadyH.nil
          go_simp
          go_at_call 32
          have EQ := Lib.hid EB.out.st
          refine (to_row ((EQ.out.rdAt 3 rfl).mono EQ.out.bel.size) (Nat.le_refl _) (by have := Bx.out; omega)).mono ?_
          rintro e w22 ⟨v, rfl, ho, hb⟩
          obtain ⟨b27, d27, rfl, -⟩ := ints_form ho.rd
          replace EB := Lib.hid (EB.out.add hb (OwnG.one ho))
          clear hb ho
          clear EQ c10 c11 c12 c00 c01 c02
          obtain ⟨-, -, -, -, -, -, -, -, -, c10, c11, c12, c00, c01, c02, -⟩ := EB.out.st.cells
          (try clear t0 t1 t2 f0 f1 f2)
          obtain ⟨-, t0, t1, t2, fr, -, -⟩ := EB.out.bx
          have f0 := fr 0
          have f1 := fr 1
          have f2 := fr 2
          clear fr
          go_wp2_with fail
          refine hK.out _ _ (by (try dsimp only); exact ⟨c10, c11, c12, c00, c01, c02⟩) (fun hHeld => ?_)
          clear hK K
          try simp only [Act.put, List.getElem_toArray, List.getElem_cons_succ, List.getElem_cons_zero, List.setIfInBounds_toArray, List.set_cons_zero, List.set_cons_succ]
          refine wpAnyH_ready (rs := [6]) (by kernel_rfl) (by simp) ?_
          refine AllReadyH.cons rfl (fun K hK => ?_) AllReadyH.nil
          go_simp
          go_at_call 43
          have EQ := Lib.hid EB.out.st
          refine (sum_labels_impl ⟨(EQ.out.rowAt 1 0 rfl rfl), (EQ.out.rowAt 1 1 rfl rfl), (EQ.out.rowAt 1 2 rfl rfl)⟩ (EQ.out.rowAt 0 0 rfl rfl) (Nat.le_refl _) (Nat.le_refl _) ⟨(by have := BtL.out; omega), (by have := BtD.out; omega), (by have := BtX.out; omega)⟩ (by have := Bx.out; omega) HhI.out).mono ?_
          rw [← HGL.out, ← HGD.out, ← HGX.out]
          rintro e w23 ⟨v0, v1, v2, rfl, ho, hb⟩
          obtain ⟨b28, d28, rfl, -⟩ := ints_form ho.rows.1.rd
          obtain ⟨b29, d29, rfl, -⟩ := ints_form ho.rows.2.1.rd
          obtain ⟨b30, d30, rfl, -⟩ := ints_form ho.rows.2.2.rd
          replace EB := Lib.hid (EB.out.add hb ho)
          clear hb ho
          clear EQ c10 c11 c12 c00 c01 c02
          obtain ⟨-, -, -, -, -, -, -, -, -, c10, c11, c12, c00, c01, c02, -⟩ := EB.out.st.cells
          (try clear t0 t1 t2 f0 f1 f2)
          obtain ⟨-, t0, t1, t2, fr, -, -⟩ := EB.out.bx
          have f0 := fr 0
          have f1 := fr 1
          have f2 := fr 2
          clear fr
          go_wp2_with fail
          refine hK.out _ _ (by (try dsimp only); exact ⟨c10, c11, c12, c00, c01, c02⟩) (fun hHeld => ?_)
          clear hK K
          try simp only [Act.put, List.getElem_toArray, List.getElem_cons_succ, List.getElem_cons_zero, List.setIfInBounds_toArray, List.set_cons_zero, List.set_cons_succ]
          refine wpAnyH_ready (rs := [8]) (by kernel_rfl) (by simp) ?_
          refine AllReadyH.cons rfl (fun K hK => ?_) AllReadyH.nil
          go_simp
          refine hK.out _ _ (by (try dsimp only); exact ⟨EB.out.cell3 _ _ _ 9 rfl, EB.out.cell3 _ _ _ 10 rfl, EB.out.cell3 _ _ _ 11 rfl, EB.out.cell3 _ _ _ 12 rfl, EB.out.cell3 _ _ _ 13 rfl, EB.out.cell3 _ _ _ 14 rfl⟩) (fun hHeld => ?_)
          clear hK K
          try simp only [Act.put, List.getElem_toArray, List.getElem_cons_succ, List.getElem_cons_zero, List.setIfInBounds_toArray, List.set_cons_zero, List.set_cons_succ]
          refine wpAnyH_done (by kernel_rfl) ?_ _
          go_wp2_with fail
          go_meet
          exact ⟨_, _, _, _, _, _, _, _, _, rfl, Lib.hid ((EB.out.put _ _ _).subL HOL.out (List.Sublist.cons_cons _ (List.Sublist.cons _ (List.Sublist.cons _ (List.Sublist.refl _)))))⟩
      · go_simp
        refine hK.out _ _ (by (try dsimp only); first | exact ⟨EC.out.cellA _ 9 rfl, EC.out.cellA _ 10 rfl, EC.out.cellA _ 11 rfl, EC.out.cellA _ 12 rfl, EC.out.cellA _ 13 rfl, EC.out.cellA _ 14 rfl⟩ | fail) (fun hHeld => ?_)
        have EB := Lib.hid (StB.new EC.out 49)
        try simp only [World.size_alloc] at EB HOL
        clear EC c10 c11 c12 c00 c01 c02
        obtain ⟨-, -, -, -, -, -, -, -, -, c10, c11, c12, c00, c01, c02, -⟩ := EB.out.st.cells
        (try clear t0 t1 t2 f0 f1 f2)
        obtain ⟨-, t0, t1, t2, fr, -, -⟩ := EB.out.bx
        have f0 := fr 0
        have f1 := fr 1
        have f2 := fr 2
        clear fr
        clear hK K
        try simp only [Act.put, List.getElem_toArray, List.getElem_cons_succ, List.getElem_cons_zero, List.setIfInBounds_toArray, List.set_cons_zero, List.set_cons_succ]
        refine wpAnyH_ready (rs := [3]) (by kernel_rfl) (by simp) ?_
        refine AllReadyH.cons rfl (fun K hK => ?_) AllReadyH.nil
        go_simp
        go_at_call 37
        have EQ := Lib.hid EB.out.st
        refine (to_ten ⟨((EQ.out.rdAt 0 rfl).mono EQ.out.bel.size), ((EQ.out.rdAt 1 rfl).mono EQ.out.bel.size), ((EQ.out.rdAt 2 rfl).mono EQ.out.bel.size)⟩ (Nat.le_refl _) (by have := BtL.out; omega) (by have := BtD.out; omega) (by have := BtX.out; omega)).mono ?_
        rintro e w21 ⟨v0, v1, v2, rfl, ho, hb⟩
        obtain ⟨b24, d24, rfl, -⟩ := ints_form ho.rows.1.rd
        obtain ⟨b25, d25, rfl, -⟩ := ints_form ho.rows.2.1.rd
        obtain ⟨b26, d26, rfl, -⟩ := ints_form ho.rows.2.2.rd
        replace EB := Lib.hid (EB.out.add hb ho)
        clear hb ho
        clear EQ c10 c11 c12 c00 c01 c02
        obtain ⟨-, -, -, -, -, -, -, -, -, c10, c11, c12, c00, c01, c02, -⟩ := EB.out.st.cells
        (try clear t0 t1 t2 f0 f1 f2)
        obtain ⟨-, t0, t1, t2, fr, -, -⟩ := EB.out.bx
        have f0 := fr 0
        have f1 := fr 1
        have f2 := fr 2
        clear fr
        go_wp2_with fail
        refine hK.out _ _ (by (try dsimp only); exact ⟨c10, c11, c12, c00, c01, c02⟩) (fun hHeld => ?_)
        clear hK K
        try simp only [Act.put, List.getElem_toArray, List.getElem_cons_succ, List.getElem_cons_zero, List.setIfInBounds_toArray, List.set_cons_zero, List.set_cons_succ]
        refine wpAnyH_ready (rs := [5]) (by kernel_rfl) (by simp) ?_
        refine AllReadyH.cons rfl (fun K hK => ?_) AllReadyH.nil
        go_simp
        go_at_call 32
        have EQ := Lib.hid EB.out.st
        refine (to_row ((EQ.out.rdAt 3 rfl).mono EQ.out.bel.size) (Nat.le_refl _) (by have := Bx.out; omega)).mono ?_
        rintro e w22 ⟨v, rfl, ho, hb⟩
        obtain ⟨b27, d27, rfl, -⟩ := ints_form ho.rd
        replace EB := Lib.hid (EB.out.add hb (OwnG.one ho))
        clear hb ho
        clear EQ c10 c11 c12 c00 c01 c02
        obtain ⟨-, -, -, -, -, -, -, -, -, c10, c11, c12, c00, c01, c02, -⟩ := EB.out.st.cells
        (try clear t0 t1 t2 f0 f1 f2)
        obtain ⟨-, t0, t1, t2, fr, -, -⟩ := EB.out.bx
        have f0 := fr 0
        have f1 := fr 1
        have f2 := fr 2
        clear fr
        go_wp2_with fail
        refine hK.out _ _ (by (try dsimp only); exact ⟨c10, c11, c12, c00, c01, c02⟩) (fun hHeld => ?_)
        clear hK K
        try simp only [Act.put, List.getElem_toArray, List.getElem_cons_succ, List.getElem_cons_zero, List.setIfInBounds_toArray, List.set_cons_zero, List.set_cons_succ]
        refine wpAnyH_ready (rs := [6]) (by kernel_rfl) (by simp) ?_
        refine AllReadyH.cons rfl (fun K hK => ?_) AllReadyH.nil
        go_simp
        go_at_call 43
        have EQ := Lib.hid EB.out.st
        refine (sum_labels_impl ⟨(EQ.out.rowAt 1 0 rfl rfl), (EQ.out.rowAt 1 1 rfl rfl), (EQ.out.rowAt 1 2 rfl rfl)⟩ (EQ.out.rowAt 0 0 rfl rfl) (Nat.le_refl _) (Nat.le_refl _) ⟨(by have := BtL.out; omega), (by have := BtD.out; omega), (by have := BtX.out; omega)⟩ (by have := Bx.out; omega) HhI.out).mono ?_
        rw [← HGL.out, ← HGD.out, ← HGX.out]
        rintro e w23 ⟨v0, v1, v2, rfl, ho, hb⟩
        obtain ⟨b28, d28, rfl, -⟩ := ints_form ho.rows.1.rd
        obtain ⟨b29, d29, rfl, -⟩ := ints_form ho.rows.2.1.rd
        obtain ⟨b30, d30, rfl, -⟩ := ints_form ho.rows.2.2.rd
        replace EB := Lib.hid (EB.out.add hb ho)
        clear hb ho
        clear EQ c10 c11 c12 c00 c01 c02
        obtain ⟨-, -, -, -, -, -, -, -, -, c10, c11, c12, c00, c01, c02, -⟩ := EB.out.st.cells
        (try clear t0 t1 t2 f0 f1 f2)
        obtain ⟨-, t0, t1, t2, fr, -, -⟩ := EB.out.bx
        have f0 := fr 0
        have f1 := fr 1
        have f2 := fr 2
        clear fr
        go_wp2_with fail
        refine hK.out _ _ (by (try dsimp only); exact ⟨c10, c11, c12, c00, c01, c02⟩) (fun hHeld => ?_)
        clear hK K
        try simp only [Act.put, List.getElem_toArray, List.getElem_cons_succ, List.getElem_cons_zero, List.setIfInBounds_toArray, List.set_cons_zero, List.set_cons_succ]
        refine wpAnyH_ready (rs := [8]) (by kernel_rfl) (by simp) ?_
        refine AllReadyH.cons rfl (fun K hK => ?_) AllReadyH.nil
        go_simp
        refine hK.out _ _ (by (try dsimp only); exact ⟨EB.out.cell3 _ _ _ 9 rfl, EB.out.cell3 _ _ _ 10 rfl, EB.out.cell3 _ _ _ 11 rfl, EB.out.cell3 _ _ _ 12 rfl, EB.out.cell3 _ _ _ 13 rfl, EB.out.cell3 _ _ _ 14 rfl⟩) (fun hHeld => ?_)
        clear hK K
        try simp only [Act.put, List.getElem_toArray, List.getElem_cons_succ, List.getElem_cons_zero, List.setIfInBounds_toArray, List.set_cons_zero, List.set_cons_succ]
        refine wpAnyH_done (by kernel_rfl) ?_ _
        go_wp2_with fail
        go_meet
        exact ⟨_, _, _, _, _, _, _, _, _, rfl, Lib.hid ((EB.out.put _ _ _).subL HOL.out (List.Sublist.cons_cons _ (List.Sublist.cons _ (List.Sublist.cons _ (List.Sublist.refl _)))))⟩
    · go_simp
      refine hK.out _ _ (by (try dsimp only); first | exact ⟨EC.out.cellA _ 9 rfl, EC.out.cellA _ 10 rfl, EC.out.cellA _ 11 rfl, EC.out.cellA _ 12 rfl, EC.out.cellA _ 13 rfl, EC.out.cellA _ 14 rfl⟩ | fail) (fun hHeld => ?_)
      have EB := Lib.hid ((StB.new EP.out 49).step (Below.drew (Below.refl _ _)))
      try simp only [World.size_alloc] at EB HOL
      clear EC c10 c11 c12 c00 c01 c02
      obtain ⟨-, -, -, -, -, -, -, -, -, c10, c11, c12, c00, c01, c02, -⟩ := EB.out.st.cells
      (try clear t0 t1 t2 f0 f1 f2)
      obtain ⟨-, t0, t1, t2, fr, -, -⟩ := EB.out.bx
      have f0 := fr 0
      have f1 := fr 1
      have f2 := fr 2
      clear fr
      clear hK K
      try simp only [Act.put, List.getElem_toArray, List.getElem_cons_succ, List.getElem_cons_zero, List.setIfInBounds_toArray, List.set_cons_zero, List.set_cons_succ]
      refine wpAnyH_ready (rs := [1]) (by kernel_rfl) (by simp) ?_
      refine AllReadyH.cons rfl (fun K hK => ?_) AllReadyH.nil
      go_simp
      go_at_call 36
      have EQ := Lib.hid EB.out.st
      refine (to_ring rk rp rn _).mono ?_
      rintro e w20 ⟨rfl, hb⟩
      replace EB := Lib.hid (EB.out.step hb)
      clear hb
      clear EQ c10 c11 c12 c00 c01 c02
      obtain ⟨-, -, -, -, -, -, -, -, -, c10, c11, c12, c00, c01, c02, -⟩ := EB.out.st.cells
      (try clear t0 t1 t2 f0 f1 f2)
      obtain ⟨-, t0, t1, t2, fr, -, -⟩ := EB.out.bx
      have f0 := fr 0
      have f1 := fr 1
      have f2 := fr 2
      clear fr
      go_wp2_with fail
      refine hK.out _ _ (by (try dsimp only); exact ⟨c10, c11, c12, c00, c01, c02⟩) (fun hHeld => ?_)
      clear hK K
      try simp only [Act.put, List.getElem_toArray, List.getElem_cons_succ, List.getElem_cons_zero, List.setIfInBounds_toArray, List.set_cons_zero, List.set_cons_succ]
      refine wpAnyH_ready (rs := [3]) (by kernel_rfl) (by simp) ?_
      refine AllReadyH.cons rfl (fun K hK => ?_) AllReadyH.nil
      go_simp
      go_at_call 37
      have EQ := Lib.hid EB.out.st
      refine (to_ten ⟨((EQ.out.rdAt 0 rfl).mono EQ.out.bel.size), ((EQ.out.rdAt 1 rfl).mono EQ.out.bel.size), ((EQ.out.rdAt 2 rfl).mono EQ.out.bel.size)⟩ (Nat.le_refl _) (by have := BtL.out; omega) (by have := BtD.out; omega) (by have := BtX.out; omega)).mono ?_
      rintro e w21 ⟨v0, v1, v2, rfl, ho, hb⟩
      obtain ⟨b24, d24, rfl, -⟩ := ints_form ho.rows.1.rd
      obtain ⟨b25, d25, rfl, -⟩ := ints_form ho.rows.2.1.rd
      obtain ⟨b26, d26, rfl, -⟩ := ints_form ho.rows.2.2.rd
      replace EB := Lib.hid (EB.out.add hb ho)
      clear hb ho
      clear EQ c10 c11 c12 c00 c01 c02
      obtain ⟨-, -, -, -, -, -, -, -, -, c10, c11, c12, c00, c01, c02, -⟩ := EB.out.st.cells
      (try clear t0 t1 t2 f0 f1 f2)
      obtain ⟨-, t0, t1, t2, fr, -, -⟩ := EB.out.bx
      have f0 := fr 0
      have f1 := fr 1
      have f2 := fr 2
      clear fr
      go_wp2_with fail
      refine hK.out _ _ (by (try dsimp only); exact ⟨c10, c11, c12, c00, c01, c02⟩) (fun hHeld => ?_)
      clear hK K
      try simp only [Act.put, List.getElem_toArray, List.getElem_cons_succ, List.getElem_cons_zero, List.setIfInBounds_toArray, List.set_cons_zero, List.set_cons_succ]
      refine wpAnyH_ready (rs := [5]) (by kernel_rfl) (by simp) ?_
      refine AllReadyH.cons rfl (fun K hK => ?_) AllReadyH.nil
      go_simp
      go_at_call 32
      have EQ := Lib.hid EB.out.st
      refine (to_row ((EQ.out.rdAt 3 rfl).mono EQ.out.bel.size) (Nat.le_refl _) (by have := Bx.out; omega)).mono ?_
      rintro e w22 ⟨v, rfl, ho, hb⟩
      obtain ⟨b27, d27, rfl, -⟩ := ints_form ho.rd
      replace EB := Lib.hid (EB.out.add hb (OwnG.one ho))
      clear hb ho
      clear EQ c10 c11 c12 c00 c01 c02
      obtain ⟨-, -, -, -, -, -, -, -, -, c10, c11, c12, c00, c01, c02, -⟩ := EB.out.st.cells
      (try clear t0 t1 t2 f0 f1 f2)
      obtain ⟨-, t0, t1, t2, fr, -, -⟩ := EB.out.bx
      have f0 := fr 0
      have f1 := fr 1
      have f2 := fr 2
      clear fr
      go_wp2_with fail
      refine hK.out _ _ (by (try dsimp only); exact ⟨c10, c11, c12, c00, c01, c02⟩) (fun hHeld => ?_)
      clear hK K
      try simp only [Act.put, List.getElem_toArray, List.getElem_cons_succ, List.getElem_cons_zero, List.setIfInBounds_toArray, List.set_cons_zero, List.set_cons_succ]
      refine wpAnyH_ready (rs := [6]) (by kernel_rfl) (by simp) ?_
      refine AllReadyH.cons rfl (fun K hK => ?_) AllReadyH.nil
      go_simp
      go_at_call 43
      have EQ := Lib.hid EB.out.st
      refine (sum_labels_impl ⟨(EQ.out.rowAt 1 0 rfl rfl), (EQ.out.rowAt 1 1 rfl rfl), (EQ.out.rowAt 1 2 rfl rfl)⟩ (EQ.out.rowAt 0 0 rfl rfl) (Nat.le_refl _) (Nat.le_refl _) ⟨(by have := BtL.out; omega), (by have := BtD.out; omega), (by have := BtX.out; omega)⟩ (by have := Bx.out; omega) HhI.out).mono ?_
      rw [← HGL.out, ← HGD.out, ← HGX.out]
      rintro e w23 ⟨v0, v1, v2, rfl, ho, hb⟩
      obtain ⟨b28, d28, rfl, -⟩ := ints_form ho.rows.1.rd
      obtain ⟨b29, d29, rfl, -⟩ := ints_form ho.rows.2.1.rd
      obtain ⟨b30, d30, rfl, -⟩ := ints_form ho.rows.2.2.rd
      replace EB := Lib.hid (EB.out.add hb ho)
      clear hb ho
      clear EQ c10 c11 c12 c00 c01 c02
      obtain ⟨-, -, -, -, -, -, -, -, -, c10, c11, c12, c00, c01, c02, -⟩ := EB.out.st.cells
      (try clear t0 t1 t2 f0 f1 f2)
      obtain ⟨-, t0, t1, t2, fr, -, -⟩ := EB.out.bx
      have f0 := fr 0
      have f1 := fr 1
      have f2 := fr 2
      clear fr
      go_wp2_with fail
      refine hK.out _ _ (by (try dsimp only); exact ⟨c10, c11, c12, c00, c01, c02⟩) (fun hHeld => ?_)
      clear hK K
      try simp only [Act.put, List.getElem_toArray, List.getElem_cons_succ, List.getElem_cons_zero, List.setIfInBounds_toArray, List.set_cons_zero, List.set_cons_succ]
      refine wpAnyH_ready (rs := [8]) (by kernel_rfl) (by simp) ?_
      refine AllReadyH.cons rfl (fun K hK => ?_) AllReadyH.nil
      go_simp
      refine hK.out _ _ (by (try dsimp only); exact ⟨EB.out.cell3 _ _ _ 9 rfl, EB.out.cell3 _ _ _ 10 rfl, EB.out.cell3 _ _ _ 11 rfl, EB.out.cell3 _ _ _ 12 rfl, EB.out.cell3 _ _ _ 13 rfl, EB.out.cell3 _ _ _ 14 rfl⟩) (fun hHeld => ?_)
      clear hK K
      try simp only [Act.put, List.getElem_toArray, List.getElem_cons_succ, List.getElem_cons_zero, List.setIfInBounds_toArray, List.set_cons_zero, List.set_cons_succ]
      refine wpAnyH_done (by kernel_rfl) ?_ _
      go_wp2_with fail
      go_meet
      exact ⟨_, _, _, _, _, _, _, _, _, rfl, Lib.hid ((EB.out.put _ _ _).subL HOL.out (List.Sublist.cons_cons _ (List.Sublist.cons _ (List.Sublist.cons _ (List.Sublist.refl _)))))⟩
  obtain ⟨bq30, lo30, hi30, b31, d31, b32, d32, b33, d33, rfl, E27⟩ := hcut
  have hOL := HOL.out
  subst hOL
  clear HOL EC
  obtain ⟨c50, c51, c52, -, -, -, -, -, -, c20, c21, c22, -, -, -, -, -, -, -⟩ := E27.out.cells
  go_wp2_with fail
  refine (eq_ten ⟨(E27.out.rowAt 0 0 rfl rfl), (E27.out.rowAt 0 1 rfl rfl), (E27.out.rowAt 0 2 rfl rfl)⟩ ⟨(E27.out.rowAt 6 0 rfl rfl), (E27.out.rowAt 6 1 rfl rfl), (E27.out.rowAt 6 2 rfl rfl)⟩ (Nat.le_refl _) (Nat.le_refl _) ⟨(by have := HGLL.out; omega), (by have := HGLD.out; omega), (by have := HGLX.out; omega)⟩).mono ?_
  rintro e w24 ⟨rfl, hb⟩
  have E28 := Lib.hid (E27.out.step hb)
  clear hb
  clear c50 c51 c52 c20 c21 c22
  obtain ⟨-, -, -, c40, c41, c42, -, -, -, -, -, -, -, -, -, -, -, -, -⟩ := E28.out.cells
  go_wp2_with fail
  refine (helds_ten (s := 1) rfl ⟨(E28.out.rowAt 3 0 rfl rfl), (E28.out.rowAt 3 1 rfl rfl), (E28.out.rowAt 3 2 rfl rfl)⟩ (Nat.le_refl _) (by have := HGLL.out; omega) (by have := HGLD.out; omega) (by have := HGLX.out; omega) (by omega)).mono ?_
  rw [← M2.out]
  rintro e w25 ⟨rfl, hb⟩
  have E29 := Lib.hid (E28.out.step hb)
  clear hb
  clear c40 c41 c42
  go_wp2
  go_ret
  exact ⟨rfl, E29.out.bel⟩

theorem law_sum_labels (rk rp rn : Int)   {vtL : Value} {tL : List Int} {vtD : Value} {tD : List Int} {vtX : Value} {tX : List Int} {vx : Value} {x : List Int} (w : World) (htL : Rd w.heap.size w vtL (ints tL)) (ltL : tL.length ≤ 281474976710656) (htD : Rd w.heap.size w vtD (ints tD)) (ltD : tD.length ≤ 281474976710656) (htX : Rd w.heap.size w vtX (ints tX)) (ltX : tX.length ≤ 281474976710656) (hx : Rd w.heap.size w vx (ints x)) (lx : x.length ≤ 281474976710656) (hI : allI tL) :
    Calls Try.prog 9 #[ringV rk rp rn, tenV vtL vtD vtX, vx] w fun e w' => e = .returned (.bool true) ∧ Below w.heap.size w w' := by
  obtain ⟨atL, ctL, rfl, -⟩ := ints_form htL
  obtain ⟨atD, ctD, rfl, -⟩ := ints_form htD
  obtain ⟨atX, ctX, rfl, -⟩ := ints_form htX
  obtain ⟨ax, cx, rfl, -⟩ := ints_form hx
  by_cases sx : x.length ≤ 1048576
  case neg => exact law_sum_labels_big0 rk rp rn   atL ctL tL atD ctD tD atX ctX tX ax cx x w  (by omega) lx
  exact law_sum_labels_small rk rp rn   atL ctL tL atD ctD tD atX ctX tX ax cx x w (Lib.hid htL) (Lib.hid htD) (Lib.hid htX) (Lib.hid hx) sx ltL ltD ltX hI
end Go.Proofs.Ytgbmacppgaopfaa
