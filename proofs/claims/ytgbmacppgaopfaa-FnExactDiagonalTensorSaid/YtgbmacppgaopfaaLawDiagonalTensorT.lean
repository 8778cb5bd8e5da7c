
/- The law FnExactDiagonalTensor, walked. -/
import Derived.Test.YtgbmacppgaopfaaDiagLen
import Derived.Test.YtgbmacppgaopfaaDiagImpl
import Derived.Test.YtgbmacppgaopfaaBx
import Derived.Deep.RegionHeld3
import Derived.Deep.DeepCutAuto
namespace Go.Proofs.Ytgbmacppgaopfaa
set_option maxRecDepth 20000
open Go.RowKit

set_option maxHeartbeats 64000000 in
theorem law_diagonal_tensor_small (rk rp rn : Int)  (ia : Int) (ib : Int) (atL : Option Addr) (ctL : Nat) (tL : List Int) (atD : Option Addr) (ctD : Nat) (tD : List Int) (atX : Option Addr) (ctX : Nat) (tX : List Int) (w : World) (RtL : Hid (Rd w.heap.size w (.slice atL tL.length ctL) (ints tL))) (RtD : Hid (Rd w.heap.size w (.slice atD tD.length ctD) (ints tD))) (RtX : Hid (Rd w.heap.size w (.slice atX tX.length ctX) (ints tX)))  (ztL : tL.length ≤ 281474976710656) (ztD : tD.length ≤ 281474976710656) (ztX : tX.length ≤ 281474976710656) (hI : allI tL) :
    Calls Try.prog 11 #[ringV rk rp rn, tenV (.slice atL tL.length ctL) (.slice atD tD.length ctD) (.slice atX tX.length ctX), .int .i64 ia, .int .i64 ib] w fun e w' => e = .returned (.bool true) ∧ Below w.heap.size w w' := by
  obtain ⟨GL, hGL⟩ : ∃ G : List Int, G = if diagB rk rp rn tL tD tX ia ib = true then exL tL ib else [] := ⟨_, rfl⟩
  have HGLL : Hid (GL.length ≤ 17592186044416) := Lib.hid (by rw [hGL]; exact Nat.le_trans (diag_len_L _ _ _ _ _ _ _ _) (by omega))
  have HGL := Lib.hid hGL
  clear hGL
  obtain ⟨GD, hGD⟩ : ∃ G : List Int, G = if diagB rk rp rn tL tD tX ia ib = true then exD tL tD ib else [] := ⟨_, rfl⟩
  have HGLD : Hid (GD.length ≤ 17592186044416) := Lib.hid (by rw [hGD]; exact Nat.le_trans (diag_len_D _ _ _ _ _ _ _ _) (by omega))
  have HGD := Lib.hid hGD
  clear hGD
  obtain ⟨GX, hGX⟩ : ∃ G : List Int, G = if diagB rk rp rn tL tD tX ia ib = true then diagL rk rn tL tD tX ia ib else [] := ⟨_, rfl⟩
  have HGLX : Hid (GX.length ≤ 17592186044416) := Lib.hid (by rw [hGX]; exact Nat.le_trans (diag_len_X _ _ _ _ _ _ _ _) (by omega))
  have HGX := Lib.hid hGX
  clear hGX
  obtain ⟨ok, hok⟩ : ∃ b : Bool, b = diagB rk rp rn tL tD tX ia ib := ⟨_, rfl⟩
  have HOK := Lib.hid hok
  clear hok
  have hbb : (ok != ok) = false := by cases ok <;> rfl
  have HhI := Lib.hid hI
  clear hI
  have BtL : Hid (tL.length ≤ 281474976710656) := Lib.hid (by omega)
  have BtD : Hid (tD.length ≤ 281474976710656) := Lib.hid (by omega)
  have BtX : Hid (tX.length ≤ 281474976710656) := Lib.hid (by omega)
  have E0 := Lib.hid (St.start w (R := [(.slice atL tL.length ctL, tL), (.slice atD tD.length ctD, tD), (.slice atX tX.length ctX, tX)]) (by intro r hr; simp only [List.mem_cons, List.not_mem_nil, or_false] at hr; rcases hr with rfl | rfl | rfl <;> first | exact RtL.out | exact RtD.out | exact RtX.out))
  have E0 := Lib.hid (E0.out.box3 (.int .i64 rk) (.int .i64 rp) (.int .i64 rn) 23)
  have E0 := Lib.hid (E0.out.box3 (.slice atL tL.length ctL) (.slice atD tD.length ctD) (.slice atX tX.length ctX) 47)
  simp only [World.size_alloc] at E0
  clear RtL RtD RtX
  go_enter Try.func11, Try.ntmps11
  obtain ⟨c10, c11, c12, -, -, -, -⟩ := E0.out.cells
  go_wp2_with fail
  refine (sz_ten_full atL tL.length ctL atD tD.length ctD atX tX.length ctX 1048576 _ (by omega) (by omega) BtL.out BtD.out BtX.out).mono ?_
  rintro e w1 ⟨z, rfl, hz, hb⟩
  have E1 := Lib.hid (E0.out.step hb)
  clear hb
  rcases hz with rfl | ⟨hz0, hz1⟩
  case inl => go_wp2; go_ret; exact ⟨rfl, E1.out.bel⟩
  have qz : ¬ z < 0 := by omega
  have hzb : z ≤ 1048576 := by omega
  have BtL : Hid (tL.length ≤ 1048576) := Lib.hid (by omega)
  have BtD : Hid (tD.length ≤ 1048576) := Lib.hid (by omega)
  have BtX : Hid (tX.length ≤ 1048576) := Lib.hid (by omega)
  clear hz1
  clear c10 c11 c12
  go_upto_region 5 with fail
  have EC := E1
  obtain ⟨OL, HOL⟩ := St.letter EC
  go_cut [10, 11] (fun sv o11 wx => ∃ (bq5 lo5 hi5 : Nat) (b6 : Option Addr) (d6 : Nat) (b7 : Option Addr) (d7 : Nat) (b8 : Option Addr) (d8 : Nat), o11 = .bool ok ∧ sv = .pointer (some ⟨bq5, 0, none⟩) ∧ Hid (St w wx [(bq5, 0, .slice b6 GL.length d6), (bq5, 1, .slice b7 GD.length d7), (bq5, 2, .slice b8 GX.length d8), (w.heap.size + 1, 0, .slice atL tL.length ctL), (w.heap.size + 1, 1, .slice atD tD.length ctD), (w.heap.size + 1, 2, .slice atX tX.length ctX), (w.heap.size, 0, .int .i64 rk), (w.heap.size, 1, .int .i64 rp), (w.heap.size, 2, .int .i64 rn)] [(.slice atL tL.length ctL, tL), (.slice atD tD.length ctD, tD), (.slice atX tX.length ctX, tX)] ((lo5, hi5, [(.slice b6 GL.length d6, GL), (.slice b7 GD.length d7, GD), (.slice b8 GX.length d8, GX)]) :: OL)))
  case first =>
    have EP := EC
    have EC := Lib.hid EC.out.drew
    obtain ⟨c10, c11, c12, c00, c01, c02, -⟩ := EC.out.cells
    refine wp_region_held_drew (S := fun w' => w'.cell? ⟨w.heap.size + 1, 0, none⟩ = some (.slice atL tL.length ctL) ∧ w'.cell? ⟨w.heap.size + 1, 1, none⟩ = some (.slice atD tD.length ctD) ∧ w'.cell? ⟨w.heap.size + 1, 2, none⟩ = some (.slice atX tX.length ctX) ∧ w'.cell? ⟨w.heap.size, 0, none⟩ = some (.int .i64 rk) ∧ w'.cell? ⟨w.heap.size, 1, none⟩ = some (.int .i64 rp) ∧ w'.cell? ⟨w.heap.size, 2, none⟩ = some (.int .i64 rn)) (by kernel_rfl) (by (try dsimp only); exact ⟨c10, c11, c12, c00, c01, c02⟩) (fun hHeld => ?_)
    refine wpAnyH_take (i := 0) (v := ?_) rfl (by kernel_rfl) (by kernel_rfl) (by kernel_rfl) (fun _ _ _ h => h) (Or.inl ⟨by rfl, ?_⟩) (by assumption) ?_
    rotate_left
    · intro w hSw; (try dsimp only at hSw); go_simp <;> with_reducible rfl
    try simp only [Act.put, List.getElem_toArray, List.getElem_cons_zero, List.setIfInBounds_toArray, List.set_cons_zero, List.set_cons_succ]
    refine wpAnyH_take (i := 2) (v := ?_) rfl (by kernel_rfl) (by kernel_rfl) (by kernel_rfl) (fun _ _ _ h => h) (Or.inl ⟨by rfl, ?_⟩) (by assumption) ?_
    rotate_left
    · intro w hSw; (try dsimp only at hSw); go_simp <;> with_reducible rfl
    try simp only [Act.put, List.getElem_toArray, List.getElem_cons_succ, List.getElem_cons_zero, List.setIfInBounds_toArray, List.set_cons_zero, List.set_cons_succ]
    refine wpAnyH_take (i := 4) (v := ?_) rfl (by kernel_rfl) (by kernel_rfl) (by kernel_rfl) (fun _ _ _ h => h) (Or.inl ⟨by rfl, ?_⟩) (by assumption) ?_
    rotate_left
    · intro w hSw; (try dsimp only at hSw); go_simp <;> with_reducible rfl
    try simp only [Act.put, List.getElem_toArray, List.getElem_cons_succ, List.getElem_cons_zero, List.setIfInBounds_toArray, List.set_cons_zero, List.set_cons_succ]
    refine wpAnyH_take (i := 5) (v := ?_) rfl (by kernel_rfl) (by kernel_rfl) (by kernel_rfl) (fun _ _ _ h => h) (Or.inl ⟨by rfl, ?_⟩) (by assumption) ?_
    rotate_left
    · intro w hSw; (try dsimp only at hSw); go_simp <;> with_reducible rfl
    try simp only [Act.put, List.getElem_toArray, List.getElem_cons_succ, List.getElem_cons_zero, List.setIfInBounds_toArray, List.set_cons_zero, List.set_cons_succ]
    refine wpAnyH_ready (rs := [1, 10]) (by kernel_rfl) (by simp) ?_
    refine AllReadyH.cons rfl (fun K hK => ?_) (AllReadyH.cons rfl (fun K hK => ?_) AllReadyH.nil)
    · go_simp
      go_at_call 36
      have EQ := EC
      refine (to_ring rk rp rn _).mono ?_
      rintro e w2 ⟨rfl, hb⟩
      replace EC := Lib.hid (EC.out.step hb)
      clear hb
      clear EQ c10 c11 c12 c00 c01 c02
      obtain ⟨c10, c11, c12, c00, c01, c02, -⟩ := EC.out.cells
      go_wp2_with fail
      refine hK.out _ _ (by (try dsimp only); exact ⟨c10, c11, c12, c00, c01, c02⟩) (fun hHeld => ?_)
      clear hK K
      try simp only [Act.put, List.getElem_toArray, List.getElem_cons_succ, List.getElem_cons_zero, List.setIfInBounds_toArray, List.set_cons_zero, List.set_cons_succ]
      refine wpAnyH_ready (rs := [3, 10]) (by kernel_rfl) (by simp) ?_
      refine AllReadyH.cons rfl (fun K hK => ?_) (AllReadyH.cons rfl (fun K hK => ?_) AllReadyH.nil)
      · go_simp
        go_at_call 37
        have EQ := EC
        refine (to_ten ⟨((EQ.out.rdAt 0 rfl).mono EQ.out.bel.size), ((EQ.out.rdAt 1 rfl).mono EQ.out.bel.size), ((EQ.out.rdAt 2 rfl).mono EQ.out.bel.size)⟩ (Nat.le_refl _) (by have := BtL.out; omega) (by have := BtD.out; omega) (by have := BtX.out; omega)).mono ?_
        rintro e w3 ⟨v0, v1, v2, rfl, ho, hb⟩
        obtain ⟨b0, d0, rfl, -⟩ := ints_form ho.rows.1.rd
        obtain ⟨b1, d1, rfl, -⟩ := ints_form ho.rows.2.1.rd
        obtain ⟨b2, d2, rfl, -⟩ := ints_form ho.rows.2.2.rd
        replace EC := Lib.hid (EC.out.grp hb ho)
        clear hb ho
        clear EQ c10 c11 c12 c00 c01 c02
        obtain ⟨c10, c11, c12, c00, c01, c02, -⟩ := EC.out.cells
        go_wp2_with fail
        refine hK.out _ _ (by (try dsimp only); exact ⟨c10, c11, c12, c00, c01, c02⟩) (fun hHeld => ?_)
        clear hK K
        try simp only [Act.put, List.getElem_toArray, List.getElem_cons_succ, List.getElem_cons_zero, List.setIfInBounds_toArray, List.set_cons_zero, List.set_cons_succ]
        refine wpAnyH_ready (rs := [6, 10]) (by kernel_rfl) (by simp) ?_
        refine AllReadyH.cons rfl (fun K hK => ?_) (AllReadyH.cons rfl (fun K hK => ?_) AllReadyH.nil)
        · go_simp
          go_at_call 46
          have EQ := EC
          refine (diagonal_spec ⟨(EQ.out.rowAt 0 0 rfl rfl), (EQ.out.rowAt 0 1 rfl rfl), (EQ.out.rowAt 0 2 rfl rfl)⟩ (Nat.le_refl _) ⟨(by have := BtL.out; omega), (by have := BtD.out; omega), (by have := BtX.out; omega)⟩).mono ?_
          rw [← HGL.out, ← HGD.out, ← HGX.out, ← HOK.out]
          rintro e w4 ⟨v0, v1, v2, rfl, ho, hb⟩
          obtain ⟨b3, d3, rfl, -⟩ := ints_form ho.rows.1.rd
          obtain ⟨b4, d4, rfl, -⟩ := ints_form ho.rows.2.1.rd
          obtain ⟨b5, d5, rfl, -⟩ := ints_form ho.rows.2.2.rd
          replace EC := Lib.hid (EC.out.grp hb ho)
          clear hb ho
          clear EQ c10 c11 c12 c00 c01 c02
          obtain ⟨c10, c11, c12, c00, c01, c02, -⟩ := EC.out.cells
          go_wp2_with fail
          refine hK.out _ _ (by (try dsimp only); exact ⟨c10, c11, c12, c00, c01, c02⟩) (fun hHeld => ?_)
          clear hK K
          try simp only [Act.put, List.getElem_toArray, List.getElem_cons_succ, List.getElem_cons_zero, List.setIfInBounds_toArray, List.set_cons_zero, List.set_cons_succ]
          refine wpAnyH_take (i := 7) (v := ?_) rfl (by kernel_rfl) (by kernel_rfl) (by kernel_rfl) (fun _ _ _ h => h) (Or.inl ⟨by rfl, ?_⟩) (by assumption) ?_
          rotate_left
          · intro w hSw; (try dsimp only at hSw); go_simp <;> with_reducible rfl
          try simp only [Act.put, List.getElem_toArray, List.getElem_cons_succ, List.getElem_cons_zero, List.setIfInBounds_toArray, List.set_cons_zero, List.set_cons_succ]
          refine wpAnyH_take (i := 8) (v := ?_) rfl (by kernel_rfl) (by kernel_rfl) (by kernel_rfl) (fun _ _ _ h => h) (Or.inl ⟨by rfl, ?_⟩) (by assumption) ?_
          rotate_left
          · intro w hSw; (try dsimp only at hSw); go_simp <;> with_reducible rfl
          try simp only [Act.put, List.getElem_toArray, List.getElem_cons_succ, List.getElem_cons_zero, List.setIfInBounds_toArray, List.set_cons_zero, List.set_cons_succ]
          refine wpAnyH_take (i := 9) (v := ?_) rfl (by kernel_rfl) (by kernel_rfl) (by kernel_rfl) (fun _ _ _ h => h) (Or.inl ⟨by rfl, ?_⟩) (by assumption) ?_
          rotate_left
          · intro w hSw; (try dsimp only at hSw); go_simp <;> with_reducible rfl
          try simp only [Act.put, List.getElem_toArray, List.getElem_cons_succ, List.getElem_cons_zero, List.setIfInBounds_toArray, List.set_cons_zero, List.set_cons_succ]
          refine wpAnyH_ready (rs := [10]) (by kernel_rfl) (by simp) ?_
          refine AllReadyH.cons rfl (fun K hK => ?_) AllReadyH.nil
          go_simp
          refine hK.out _ _ (by (try dsimp only); first | exact ⟨EC.out.cellA _ 0 rfl, EC.out.cellA _ 1 rfl, EC.out.cellA _ 2 rfl, EC.out.cellA _ 3 rfl, EC.out.cellA _ 4 rfl, EC.out.cellA _ 5 rfl⟩ | fail) (fun hHeld => ?_)
          clear hK K
          try simp only [Act.put, List.getElem_toArray, List.getElem_cons_succ, List.getElem_cons_zero, List.setIfInBounds_toArray, List.set_cons_zero, List.set_cons_succ]
          refine wpAnyH_ready (rs := [11]) (by kernel_rfl) (by simp) ?_
          refine AllReadyH.cons rfl (fun K hK => ?_) AllReadyH.nil
          go_simp
          refine hK.out _ _ (by (try dsimp only); exact ⟨EC.out.cellA _ 0 rfl, EC.out.cellA _ 1 rfl, EC.out.cellA _ 2 rfl, EC.out.cellA _ 3 rfl, EC.out.cellA _ 4 rfl, EC.out.cellA _ 5 rfl⟩) (fun hHeld => ?_)
          clear hK K
          try simp only [Act.put, List.getElem_toArray, List.getElem_cons_succ, List.getElem_cons_zero, List.setIfInBounds_toArray, List.set_cons_zero, List.set_cons_succ]
          refine wpAnyH_take (i := 12) (v := ?_) rfl (by kernel_rfl) (by kernel_rfl) (by kernel_rfl) (fun _ _ _ h => h) (Or.inl ⟨by rfl, ?_⟩) (by assumption) ?_
          rotate_left
          · intro w hSw; (try dsimp only at hSw); go_simp <;> with_reducible rfl
          try simp only [Act.put, List.getElem_toArray, List.getElem_cons_succ, List.getElem_cons_zero, List.setIfInBounds_toArray, List.set_cons_zero, List.set_cons_succ]
          refine wpAnyH_done (by kernel_rfl) ?_ _
          go_wp2_with fail
          go_meet
          exact ⟨_, _, _, _, _, _, _, _, _, rfl, rfl, Lib.hid ((EC.out.box3 _ _ _ _).subL HOL.out (List.Sublist.cons_cons _ (List.Sublist.cons _ (List.Sublist.refl _))))⟩
        · go_simp
          refine hK.out _ _ (by (try dsimp only); first | exact ⟨EC.out.cellA _ 0 rfl, EC.out.cellA _ 1 rfl, EC.out.cellA _ 2 rfl, EC.out.cellA _ 3 rfl, EC.out.cellA _ 4 rfl, EC.out.cellA _ 5 rfl⟩ | fail) (fun hHeld => ?_)
          have EB := Lib.hid (StB.new EC.out 49)
          try simp only [World.size_alloc] at EB HOL
          clear EC c10 c11 c12 c00 c01 c02
          obtain ⟨c10, c11, c12, c00, c01, c02, -⟩ := EB.out.st.cells
          (try clear t0 t1 t2 f0 f1 f2)
          obtain ⟨-, t0, t1, t2, fr, -, -⟩ := EB.out.bx
          have f0 := fr 0
          have f1 := fr 1
          have f2 := fr 2
          clear fr
          clear hK K
          try simp only [Act.put, List.getElem_toArray, List.getElem_cons_succ, List.getElem_cons_zero, List.setIfInBounds_toArray, List.set_cons_zero, List.set_cons_succ]
          refine wpAnyH_ready (rs := [6]) (by kernel_rfl) (by simp) ?_
          refine AllReadyH.cons rfl (fun K hK => ?_) AllReadyH.nil
          go_simp
          go_at_call 46
          have EQ := Lib.hid EB.out.st
          refine (diagonal_spec ⟨(EQ.out.rowAt 0 0 rfl rfl), (EQ.out.rowAt 0 1 rfl rfl), (EQ.out.rowAt 0 2 rfl rfl)⟩ (Nat.le_refl _) ⟨(by have := BtL.out; omega), (by have := BtD.out; omega), (by have := BtX.out; omega)⟩).mono ?_
          rw [← HGL.out, ← HGD.out, ← HGX.out, ← HOK.out]
          rintro e w4 ⟨v0, v1, v2, rfl, ho, hb⟩
          obtain ⟨b3, d3, rfl, -⟩ := ints_form ho.rows.1.rd
          obtain ⟨b4, d4, rfl, -⟩ := ints_form ho.rows.2.1.rd
          obtain ⟨b5, d5, rfl, -⟩ := ints_form ho.rows.2.2.rd
          replace EB := Lib.hid (EB.out.add hb ho)
          clear hb ho
          clear EQ c10 c11 c12 c00 c01 c02
          obtain ⟨c10, c11, c12, c00, c01, c02, -⟩ := EB.out.st.cells
          (try clear t0 t1 t2 f0 f1 f2)
          obtain ⟨-, t0, t1, t2, fr, -, -⟩ := EB.out.bx
          have f0 := fr 0
          have f1 := fr 1
          have f2 := fr 2
          clear fr
          go_wp2_with fail
          refine hK.out _ _ (by (try dsimp only); exact ⟨c10, c11, c12, c00, c01, c02⟩) (fun hHeld => ?_)
          clear hK K
          try simp only [Act.put, List.getElem_toArray, List.getElem_cons_succ, List.getElem_cons_zero, List.setIfInBounds_toArray, List.set_cons_zero, List.set_cons_succ]
          refine wpAnyH_take (i := 7) (v := ?_) rfl (by kernel_rfl) (by kernel_rfl) (by kernel_rfl) (fun _ _ _ h => h) (Or.inl ⟨by rfl, ?_⟩) (by assumption) ?_
          rotate_left
          · intro w hSw; (try dsimp only at hSw); go_simp <;> with_reducible rfl
          try simp only [Act.put, List.getElem_toArray, List.getElem_cons_succ, List.getElem_cons_zero, List.setIfInBounds_toArray, List.set_cons_zero, List.set_cons_succ]
          refine wpAnyH_take (i := 8) (v := ?_) rfl (by kernel_rfl) (by kernel_rfl) (by kernel_rfl) (fun _ _ _ h => h) (Or.inl ⟨by rfl, ?_⟩) (by assumption) ?_
          rotate_left
          · intro w hSw; (try dsimp only at hSw); go_simp <;> with_reducible rfl
          try simp only [Act.put, List.getElem_toArray, List.getElem_cons_succ, List.getElem_cons_zero, List.setIfInBounds_toArray, List.set_cons_zero, List.set_cons_succ]
          refine wpAnyH_take (i := 9) (v := ?_) rfl (by kernel_rfl) (by kernel_rfl) (by kernel_rfl) (fun _ _ _ h => h) (Or.inl ⟨by rfl, ?_⟩) (by assumption) ?_
          rotate_left
          · intro w hSw; (try dsimp only at hSw); go_simp <;> with_reducible rfl
          try simp only [Act.put, List.getElem_toArray, List.getElem_cons_succ, List.getElem_cons_zero, List.setIfInBounds_toArray, List.set_cons_zero, List.set_cons_succ]
          refine wpAnyH_ready (rs := [11]) (by kernel_rfl) (by simp) ?_
          refine AllReadyH.cons rfl (fun K hK => ?_) AllReadyH.nil
          go_simp
          refine hK.out _ _ (by (try dsimp only); exact ⟨EB.out.cell3 _ _ _ 0 rfl, EB.out.cell3 _ _ _ 1 rfl, EB.out.cell3 _ _ _ 2 rfl, EB.out.cell3 _ _ _ 3 rfl, EB.out.cell3 _ _ _ 4 rfl, EB.out.cell3 _ _ _ 5 rfl⟩) (fun hHeld => ?_)
          clear hK K
          try simp only [Act.put, List.getElem_toArray, List.getElem_cons_succ, List.getElem_cons_zero, List.setIfInBounds_toArray, List.set_cons_zero, List.set_cons_succ]
          refine wpAnyH_take (i := 12) (v := ?_) rfl (by kernel_rfl) (by kernel_rfl) (by kernel_rfl) (fun _ _ _ h => h) (Or.inl ⟨by rfl, ?_⟩) (by assumption) ?_
          rotate_left
          · intro w hSw; (try dsimp only at hSw); go_simp <;> with_reducible rfl
          try simp only [Act.put, List.getElem_toArray, List.getElem_cons_succ, List.getElem_cons_zero, List.setIfInBounds_toArray, List.set_cons_zero, List.set_cons_succ]
          refine wpAnyH_done (by kernel_rfl) ?_ _
          go_wp2_with fail
          go_meet
          exact ⟨_, _, _, _, _, _, _, _, _, rfl, rfl, Lib.hid ((EB.out.put _ _ _).subL HOL.out (List.Sublist.cons_cons _ (List.Sublist.cons _ (List.Sublist.refl _))))⟩
      · go_simp
        refine hK.out _ _ (by (try dsimp only); first | exact ⟨EC.out.cellA _ 0 rfl, EC.out.cellA _ 1 rfl, EC.out.cellA _ 2 rfl, EC.out.cellA _ 3 rfl, EC.out.cellA _ 4 rfl, EC.out.cellA _ 5 rfl⟩ | fail) (fun hHeld => ?_)
        have EB := Lib.hid (StB.new EC.out 49)
        try simp only [World.size_alloc] at EB HOL
        clear EC c10 c11 c12 c00 c01 c02
        obtain ⟨c10, c11, c12, c00, c01, c02, -⟩ := EB.out.st.cells
        (try clear t0 t1 t2 f0 f1 f2)
        obtain ⟨-, t0, t1, t2, fr, -, -⟩ := EB.out.bx
        have f0 := fr 0
        have f1 := fr 1
        have f2 := fr 2
        clear fr
        clear hK K
        try simp only [Act.put, List.getElem_toArray, List.getElem_cons_succ, List.getElem_cons_zero, List.setIfInBounds_toArray, List.set_cons_zero, List.set_cons_succ]
        refine wpAnyH_ready (rs := [3]) (by kernel_rfl) (by simp) ?_
        refine AllReadyH.cons rfl (fun K hK => ?_) AllReadyH.nil
        go_simp
        go_at_call 37
        have EQ := Lib.hid EB.out.st
        refine (to_ten ⟨((EQ.out.rdAt 0 rfl).mono EQ.out.bel.size), ((EQ.out.rdAt 1 rfl).mono EQ.out.bel.size), ((EQ.out.rdAt 2 rfl).mono EQ.out.bel.size)⟩ (Nat.le_refl _) (by have := BtL.out; omega) (by have := BtD.out; omega) (by have := BtX.out; omega)).mono ?_
        rintro e w3 ⟨v0, v1, v2, rfl, ho, hb⟩
        obtain ⟨b0, d0, rfl, -⟩ := ints_form ho.rows.1.rd
        obtain ⟨b1, d1, rfl, -⟩ := ints_form ho.rows.2.1.rd
        obtain ⟨b2, d2, rfl, -⟩ := ints_form ho.rows.2.2.rd
        replace EB := Lib.hid (EB.out.add hb ho)
        clear hb ho
        clear EQ c10 c11 c12 c00 c01 c02
        obtain ⟨c10, c11, c12, c00, c01, c02, -⟩ := EB.out.st.cells
        (try clear t0 t1 t2 f0 f1 f2)
        obtain ⟨-, t0, t1, t2, fr, -, -⟩ := EB.out.bx
        have f0 := fr 0
        have f1 := fr 1
        have f2 := fr 2
        clear fr
        go_wp2_with fail
        refine hK.out _ _ (by (try dsimp only); exact ⟨c10, c11, c12, c00, c01, c02⟩) (fun hHeld => ?_)
        clear hK K
        try simp only [Act.put, List.getElem_toArray, List.getElem_cons_succ, List.getElem_cons_zero, List.setIfInBounds_toArray, List.set_cons_zero, List.set_cons_succ]
        refine wpAnyH_ready (rs := [6]) (by kernel_rfl) (by simp) ?_
        refine AllReadyH.cons rfl (fun K hK => ?_) AllReadyH.nil
        go_simp
        go_at_call 46
        have EQ := Lib.hid EB.out.st
        refine (diagonal_spec ⟨(EQ.out.rowAt 0 0 rfl rfl), (EQ.out.rowAt 0 1 rfl rfl), (EQ.out.rowAt 0 2 rfl rfl)⟩ (Nat.le_refl _) ⟨(by have := BtL.out; omega), (by have := BtD.out; omega), (by have := BtX.out; omega)⟩).mono ?_
        rw [← HGL.out, ← HGD.out, ← HGX.out, ← HOK.out]
        rintro e w4 ⟨v0, v1, v2, rfl, ho, hb⟩
        obtain ⟨b3, d3, rfl, -⟩ := ints_form ho.rows.1.rd
        obtain ⟨b4, d4, rfl, -⟩ := ints_form ho.rows.2.1.rd
        obtain ⟨b5, d5, rfl, -⟩ := ints_form ho.rows.2.2.rd
        replace EB := Lib.hid (EB.out.add hb ho)
        clear hb ho
        clear EQ c10 c11 c12 c00 c01 c02
        obtain ⟨c10, c11, c12, c00, c01, c02, -⟩ := EB.out.st.cells
        (try clear t0 t1 t2 f0 f1 f2)
        obtain ⟨-, t0, t1, t2, fr, -, -⟩ := EB.out.bx
        have f0 := fr 0
        have f1 := fr 1
        have f2 := fr 2
        clear fr
        go_wp2_with fail
        refine hK.out _ _ (by (try dsimp only); exact ⟨c10, c11, c12, c00, c01, c02⟩) (fun hHeld => ?_)
        clear hK K
        try simp only [Act.put, List.getElem_toArray, List.getElem_cons_succ, List.getElem_cons_zero, List.setIfInBounds_toArray, List.set_cons_zero, List.set_cons_succ]
        refine wpAnyH_take (i := 7) (v := ?_) rfl (by kernel_rfl) (by kernel_rfl) (by kernel_rfl) (fun _ _ _ h => h) (Or.inl ⟨by rfl, ?_⟩) (by assumption) ?_
        rotate_left
        · intro w hSw; (try dsimp only at hSw); go_simp <;> with_reducible rfl
        try simp only [Act.put, List.getElem_toArray, List.getElem_cons_succ, List.getElem_cons_zero, List.setIfInBounds_toArray, List.set_cons_zero, List.set_cons_succ]
        refine wpAnyH_take (i := 8) (v := ?_) rfl (by kernel_rfl) (by kernel_rfl) (by kernel_rfl) (fun _ _ _ h => h) (Or.inl ⟨by rfl, ?_⟩) (by assumption) ?_
        rotate_left
        · intro w hSw; (try dsimp only at hSw); go_simp <;> with_reducible rfl
        try simp only [Act.put, List.getElem_toArray, List.getElem_cons_succ, List.getElem_cons_zero, List.setIfInBounds_toArray, List.set_cons_zero, List.set_cons_succ]
        refine wpAnyH_take (i := 9) (v := ?_) rfl (by kernel_rfl) (by kernel_rfl) (by kernel_rfl) (fun _ _ _ h => h) (Or.inl ⟨by rfl, ?_⟩) (by assumption) ?_
        rotate_left
        · intro w hSw; (try dsimp only at hSw); go_simp <;> with_reducible rfl
        try simp only [Act.put, List.getElem_toArray, List.getElem_cons_succ, List.getElem_cons_zero, List.setIfInBounds_toArray, List.set_cons_zero, List.set_cons_succ]
        refine wpAnyH_ready (rs := [11]) (by kernel_rfl) (by simp) ?_
        refine AllReadyH.cons rfl (fun K hK => ?_) AllReadyH.nil
        go_simp
        refine hK.out _ _ (by (try dsimp only); exact ⟨EB.out.cell3 _ _ _ 0 rfl, EB.out.cell3 _ _ _ 1 rfl, EB.out.cell3 _ _ _ 2 rfl, EB.out.cell3 _ _ _ 3 rfl, EB.out.cell3 _ _ _ 4 rfl, EB.out.cell3 _ _ _ 5 rfl⟩) (fun hHeld => ?_)
        clear hK K
        try simp only [Act.put, List.getElem_toArray, List.getElem_cons_succ, List.getElem_cons_zero, List.setIfInBounds_toArray, List.set_cons_zero, List.set_cons_succ]
        refine wpAnyH_take (i := 12) (v := ?_) rfl (by kernel_rfl) (by kernel_rfl) (by kernel_rfl) (fun _ _ _ h => h) (Or.inl ⟨by rfl, ?_⟩) (by assumption) ?_
        rotate_left
        · intro w hSw; (try dsimp only at hSw); go_simp <;> with_reducible rfl
        try simp only [Act.put, List.getElem_toArray, List.getElem_cons_succ, List.getElem_cons_zero, List.setIfInBounds_toArray, List.set_cons_zero, List.set_cons_succ]
        refine wpAnyH_done (by kernel_rfl) ?_ _
        go_wp2_with fail
        go_meet
        exact ⟨_, _, _, _, _, _, _, _, _, rfl, rfl, Lib.hid ((EB.out.put _ _ _).subL HOL.out (List.Sublist.cons_cons _ (List.Sublist.cons _ (List.Sublist.refl _))))⟩
    · go_simp
      refine hK.out _ _ (by (try dsimp only); first | exact ⟨EC.out.cellA _ 0 rfl, EC.out.cellA _ 1 rfl, EC.out.cellA _ 2 rfl, EC.out.cellA _ 3 rfl, EC.out.cellA _ 4 rfl, EC.out.cellA _ 5 rfl⟩ | fail) (fun hHeld => ?_)
      have EB := Lib.hid ((StB.new EP.out 49).step (Below.drew (Below.refl _ _)))
      try simp only [World.size_alloc] at EB HOL
      clear EC c10 c11 c12 c00 c01 c02
      obtain ⟨c10, c11, c12, c00, c01, c02, -⟩ := EB.out.st.cells
      (try clear t0 t1 t2 f0 f1 f2)
      obtain ⟨-, t0, t1, t2, fr, -, -⟩ := EB.out.bx
      have f0 := fr 0
      have f1 := fr 1
      have f2 := fr 2
      clear fr
      clear hK K
      try simp only [Act.put, List.getElem_toArray, List.getElem_cons_succ, List.getElem_cons_zero, List.setIfInBounds_toArray, List.set_cons_zero, List.set_cons_succ]
      refine wpAnyH_ready (rs := [1]) (by kernel_rfl) (by simp) ?_
      refine AllReadyH.cons rfl (fun K hK => ?_) AllReadyH.nil
      go_simp
      go_at_call 36
      have EQ := Lib.hid EB.out.st
      refine (to_ring rk rp rn _).mono ?_
      rintro e w2 ⟨rfl, hb⟩
      replace EB := Lib.hid (EB.out.step hb)
      clear hb
      clear EQ c10 c11 c12 c00 c01 c02
      obtain ⟨c10, c11, c12, c00, c01, c02, -⟩ := EB.out.st.cells
      (try clear t0 t1 t2 f0 f1 f2)
      obtain ⟨-, t0, t1, t2, fr, -, -⟩ := EB.out.bx
      have f0 := fr 0
      have f1 := fr 1
      have f2 := fr 2
      clear fr
      go_wp2_with fail
      refine hK.out _ _ (by (try dsimp only); exact ⟨c10, c11, c12, c00, c01, c02⟩) (fun hHeld => ?_)
      clear hK K
      try simp only [Act.put, List.getElem_toArray, List.getElem_cons_succ, List.getElem_cons_zero, List.setIfInBounds_toArray, List.set_cons_zero, List.set_cons_succ]
      refine wpAnyH_ready (rs := [3]) (by kernel_rfl) (by simp) ?_
      refine AllReadyH.cons rfl (fun K hK => ?_) AllReadyH.nil
      go_simp
      go_at_call 37
      have EQ := Lib.hid EB.out.st
      refine (to_ten ⟨((EQ.out.rdAt 0 rfl).mono EQ.out.bel.size), ((EQ.out.rdAt 1 rfl).mono EQ.out.bel.size), ((EQ.out.rdAt 2 rfl).mono EQ.out.bel.size)⟩ (Nat.le_refl _) (by have := BtL.out; omega) (by have := BtD.out; omega) (by have := BtX.out; omega)).mono ?_
      rintro e w3 ⟨v0, v1, v2, rfl, ho, hb⟩
      obtain ⟨b0, d0, rfl, -⟩ := ints_form ho.rows.1.rd
      obtain ⟨b1, d1, rfl, -⟩ := ints_form ho.rows.2.1.rd
      obtain ⟨b2, d2, rfl, -⟩ := ints_form ho.rows.2.2.rd
      replace EB := Lib.hid (EB.out.add hb ho)
      clear hb ho
      clear EQ c10 c11 c12 c00 c01 c02
      obtain ⟨c10, c11, c12, c00, c01, c02, -⟩ := EB.out.st.cells
      (try clear t0 t1 t2 f0 f1 f2)
      obtain ⟨-, t0, t1, t2, fr, -, -⟩ := EB.out.bx
      have f0 := fr 0
      have f1 := fr 1
      have f2 := fr 2
      clear fr
      go_wp2_with fail
      refine hK.out _ _ (by (try dsimp only); exact ⟨c10, c11, c12, c00, c01, c02⟩) (fun hHeld => ?_)
      clear hK K
      try simp only [Act.put, List.getElem_toArray, List.getElem_cons_succ, List.getElem_cons_zero, List.setIfInBounds_toArray, List.set_cons_zero, List.set_cons_succ]
      refine wpAnyH_ready (rs := [6]) (by kernel_rfl) (by simp) ?_
      refine AllReadyH.cons rfl (fun K hK => ?_) AllReadyH.nil
      go_simp
      go_at_call 46
      have EQ := Lib.hid EB.out.st
      refine (diagonal_spec ⟨(EQ.out.rowAt 0 0 rfl rfl), (EQ.out.rowAt 0 1 rfl rfl), (EQ.out.rowAt 0 2 rfl rfl)⟩ (Nat.le_refl _) ⟨(by have := BtL.out; omega), (by have := BtD.out; omega), (by have := BtX.out; omega)⟩).mono ?_
      rw [← HGL.out, ← HGD.out, ← HGX.out, ← HOK.out]
      rintro e w4 ⟨v0, v1, v2, rfl, ho, hb⟩
      obtain ⟨b3, d3, rfl, -⟩ := ints_form ho.rows.1.rd
      obtain ⟨b4, d4, rfl, -⟩ := ints_form ho.rows.2.1.rd
      obtain ⟨b5, d5, rfl, -⟩ := ints_form ho.rows.2.2.rd
      replace EB := Lib.hid (EB.out.add hb ho)
      clear hb ho
      clear EQ c10 c11 c12 c00 c01 c02
      obtain ⟨c10, c11, c12, c00, c01, c02, -⟩ := EB.out.st.cells
      (try clear t0 t1 t2 f0 f1 f2)
      obtain ⟨-, t0, t1, t2, fr, -, -⟩ := EB.out.bx
      have f0 := fr 0
      have f1 := fr 1
      have f2 := fr 2
      clear fr
      go_wp2_with fail
      refine hK.out _ _ (by (try dsimp only); exact ⟨c10, c11, c12, c00, c01, c02⟩) (fun hHeld => ?_)
      clear hK K
      try simp only [Act.put, List.getElem_toArray, List.getElem_cons_succ, List.getElem_cons_zero, List.setIfInBounds_toArray, List.set_cons_zero, List.set_cons_succ]
      refine wpAnyH_take (i := 7) (v := ?_) rfl (by kernel_rfl) (by kernel_rfl) (by kernel_rfl) (fun _ _ _ h => h) (Or.inl ⟨by rfl, ?_⟩) (by assumption) ?_
      rotate_left
      · intro w hSw; (try dsimp only at hSw); go_simp <;> with_reducible rfl
      try simp only [Act.put, List.getElem_toArray, List.getElem_cons_succ, List.getElem_cons_zero, List.setIfInBounds_toArray, List.set_cons_zero, List.set_cons_succ]
      refine wpAnyH_take (i := 8) (v := ?_) rfl (by kernel_rfl) (by kernel_rfl) (by kernel_rfl) (fun _ _ _ h => h) (Or.inl ⟨by rfl, ?_⟩) (by assumption) ?_
      rotate_left
      · intro w hSw; (try dsimp only at hSw); go_simp <;> with_reducible rfl
      try simp only [Act.put, List.getElem_toArray, List.getElem_cons_succ, List.getElem_cons_zero, List.setIfInBounds_toArray, List.set_cons_zero, List.set_cons_succ]
      refine wpAnyH_take (i := 9) (v := ?_) rfl (by kernel_rfl) (by kernel_rfl) (by kernel_rfl) (fun _ _ _ h => h) (Or.inl ⟨by rfl, ?_⟩) (by assumption) ?_
      rotate_left
      · intro w hSw; (try dsimp only at hSw); go_simp <;> with_reducible rfl
      try simp only [Act.put, List.getElem_toArray, List.getElem_cons_succ, List.getElem_cons_zero, List.setIfInBounds_toArray, List.set_cons_zero, List.set_cons_succ]
      refine wpAnyH_ready (rs := [11]) (by kernel_rfl) (by simp) ?_
      refine AllReadyH.cons rfl (fun K hK => ?_) AllReadyH.nil
      go_simp
      refine hK.out _ _ (by (try dsimp only); exact ⟨EB.out.cell3 _ _ _ 0 rfl, EB.out.cell3 _ _ _ 1 rfl, EB.out.cell3 _ _ _ 2 rfl, EB.out.cell3 _ _ _ 3 rfl, EB.out.cell3 _ _ _ 4 rfl, EB.out.cell3 _ _ _ 5 rfl⟩) (fun hHeld => ?_)
      clear hK K
      try simp only [Act.put, List.getElem_toArray, List.getElem_cons_succ, List.getElem_cons_zero, List.setIfInBounds_toArray, List.set_cons_zero, List.set_cons_succ]
      refine wpAnyH_take (i := 12) (v := ?_) rfl (by kernel_rfl) (by kernel_rfl) (by kernel_rfl) (fun _ _ _ h => h) (Or.inl ⟨by rfl, ?_⟩) (by assumption) ?_
      rotate_left
      · intro w hSw; (try dsimp only at hSw); go_simp <;> with_reducible rfl
      try simp only [Act.put, List.getElem_toArray, List.getElem_cons_succ, List.getElem_cons_zero, List.setIfInBounds_toArray, List.set_cons_zero, List.set_cons_succ]
      refine wpAnyH_done (by kernel_rfl) ?_ _
      go_wp2_with fail
      go_meet
      exact ⟨_, _, _, _, _, _, _, _, _, rfl, rfl, Lib.hid ((EB.out.put _ _ _).subL HOL.out (List.Sublist.cons_cons _ (List.Sublist.cons _ (List.Sublist.refl _))))⟩
  obtain ⟨bq5, lo5, hi5, b6, d6, b7, d7, b8, d8, rfl, rfl, E5⟩ := hcut
  have hOL := HOL.out
  subst hOL
  clear HOL EC
  obtain ⟨-, -, -, c10, c11, c12, -, -, -, -⟩ := E5.out.cells
  go_wp2_with fail
  refine (to_ten ⟨((E5.out.rdAt 0 rfl).mono E5.out.bel.size), ((E5.out.rdAt 1 rfl).mono E5.out.bel.size), ((E5.out.rdAt 2 rfl).mono E5.out.bel.size)⟩ (Nat.le_refl _) (by have := BtL.out; omega) (by have := BtD.out; omega) (by have := BtX.out; omega)).mono ?_
  rintro e w5 ⟨v0, v1, v2, rfl, ho, hb⟩
  obtain ⟨b9, d9, rfl, -⟩ := ints_form ho.rows.1.rd
  obtain ⟨b10, d10, rfl, -⟩ := ints_form ho.rows.2.1.rd
  obtain ⟨b11, d11, rfl, -⟩ := ints_form ho.rows.2.2.rd
  have E6 := Lib.hid (E5.out.grp hb ho)
  clear hb ho
  have E7 := Lib.hid (E6.out.box3 (.slice b9 tL.length d9) (.slice b10 tD.length d10) (.slice b11 tX.length d11) 49)
  clear c10 c11 c12
  go_upto_region 7 with fail
  have EC := E7
  obtain ⟨OL, HOL⟩ := St.letter EC
  go_cut [13, 14] (fun sv o14 wx => ∃ (bq7 lo7 hi7 : Nat) (b15 : Option Addr) (d15 : Nat) (b16 : Option Addr) (d16 : Nat) (b17 : Option Addr) (d17 : Nat), o14 = .bool ok ∧ sv = .pointer (some ⟨bq7, 0, none⟩) ∧ Hid (St w wx [(bq7, 0, .slice b15 GL.length d15), (bq7, 1, .slice b16 GD.length d16), (bq7, 2, .slice b17 GX.length d17), (w5.heap.size, 0, .slice b9 tL.length d9), (w5.heap.size, 1, .slice b10 tD.length d10), (w5.heap.size, 2, .slice b11 tX.length d11), (bq5, 0, .slice b6 GL.length d6), (bq5, 1, .slice b7 GD.length d7), (bq5, 2, .slice b8 GX.length d8), (w.heap.size + 1, 0, .slice atL tL.length ctL), (w.heap.size + 1, 1, .slice atD tD.length ctD), (w.heap.size + 1, 2, .slice atX tX.length ctX), (w.heap.size, 0, .int .i64 rk), (w.heap.size, 1, .int .i64 rp), (w.heap.size, 2, .int .i64 rn)] [(.slice atL tL.length ctL, tL), (.slice atD tD.length ctD, tD), (.slice atX tX.length ctX, tX)] ((lo7, hi7, [(.slice b15 GL.length d15, GL), (.slice b16 GD.length d16, GD), (.slice b17 GX.length d17, GX)]) :: OL)))
  case first =>
    have EP := EC
    have EC := Lib.hid EC.out.drew
    obtain ⟨c30, c31, c32, -, -, -, -, -, -, c00, c01, c02, -⟩ := EC.out.cells
    refine wp_region_held_drew (S := fun w' => w'.cell? ⟨w5.heap.size, 0, none⟩ = some (.slice b9 tL.length d9) ∧ w'.cell? ⟨w5.heap.size, 1, none⟩ = some (.slice b10 tD.length d10) ∧ w'.cell? ⟨w5.heap.size, 2, none⟩ = some (.slice b11 tX.length d11) ∧ w'.cell? ⟨w.heap.size, 0, none⟩ = some (.int .i64 rk) ∧ w'.cell? ⟨w.heap.size, 1, none⟩ = some (.int .i64 rp) ∧ w'.cell? ⟨w.heap.size, 2, none⟩ = some (.int .i64 rn)) (by kernel_rfl) (by (try dsimp only); exact ⟨c30, c31, c32, c00, c01, c02⟩) (fun hHeld => ?_)
    refine wpAnyH_take (i := 0) (v := ?_) rfl (by kernel_rfl) (by kernel_rfl) (by kernel_rfl) (fun _ _ _ h => h) (Or.inl ⟨by rfl, ?_⟩) (by assumption) ?_
    rotate_left
    · intro w hSw; (try dsimp only at hSw); go_simp <;> with_reducible rfl
    try simp only [Act.put, List.getElem_toArray, List.getElem_cons_zero, List.setIfInBounds_toArray, List.set_cons_zero, List.set_cons_succ]
    refine wpAnyH_take (i := 2) (v := ?_) rfl (by kernel_rfl) (by kernel_rfl) (by kernel_rfl) (fun _ _ _ h => h) (Or.inl ⟨by rfl, ?_⟩) (by assumption) ?_
    rotate_left
    · intro w hSw; (try dsimp only at hSw); go_simp <;> with_reducible rfl
    try simp only [Act.put, List.getElem_toArray, List.getElem_cons_succ, List.getElem_cons_zero, List.setIfInBounds_toArray, List.set_cons_zero, List.set_cons_succ]
    refine wpAnyH_take (i := 3) (v := ?_) rfl (by kernel_rfl) (by kernel_rfl) (by kernel_rfl) (fun _ _ _ h => h) (Or.inl ⟨by rfl, ?_⟩) (by assumption) ?_
    rotate_left
    · intro w hSw; (try dsimp only at hSw); go_simp <;> with_reducible rfl
    try simp only [Act.put, List.getElem_toArray, List.getElem_cons_succ, List.getElem_cons_zero, List.setIfInBounds_toArray, List.set_cons_zero, List.set_cons_succ]
    refine wpAnyH_take (i := 4) (v := ?_) rfl (by kernel_rfl) (by kernel_rfl) (by kernel_rfl) (fun _ _ _ h => h) (Or.inl ⟨by rfl, ?_⟩) (by assumption) ?_
    rotate_left
    · intro w hSw; (try dsimp only at hSw); go_simp <;> with_reducible rfl
    try simp only [Act.put, List.getElem_toArray, List.getElem_cons_succ, List.getElem_cons_zero, List.setIfInBounds_toArray, List.set_cons_zero, List.set_cons_succ]
    refine wpAnyH_ready (rs := [1, 9]) (by kernel_rfl) (by simp) ?_
    refine AllReadyH.cons rfl (fun K hK => ?_) (AllReadyH.cons rfl (fun K hK => ?_) AllReadyH.nil)
    · go_simp
      go_at_call 36
      have EQ := EC
      refine (to_ring rk rp rn _).mono ?_
      rintro e w6 ⟨rfl, hb⟩
      replace EC := Lib.hid (EC.out.step hb)
      clear hb
      clear EQ c30 c31 c32 c00 c01 c02
      obtain ⟨c30, c31, c32, -, -, -, -, -, -, c00, c01, c02, -⟩ := EC.out.cells
      go_wp2_with fail
      refine hK.out _ _ (by (try dsimp only); exact ⟨c30, c31, c32, c00, c01, c02⟩) (fun hHeld => ?_)
      clear hK K
      try simp only [Act.put, List.getElem_toArray, List.getElem_cons_succ, List.getElem_cons_zero, List.setIfInBounds_toArray, List.set_cons_zero, List.set_cons_succ]
      refine wpAnyH_ready (rs := [5, 9]) (by kernel_rfl) (by simp) ?_
      refine AllReadyH.cons rfl (fun K hK => ?_) (AllReadyH.cons rfl (fun K hK => ?_) AllReadyH.nil)
      · go_simp
        go_at_call 47
        have EQ := EC
        refine (diagonal_impl ⟨(EQ.out.rowAt 0 0 rfl rfl), (EQ.out.rowAt 0 1 rfl rfl), (EQ.out.rowAt 0 2 rfl rfl)⟩ (Nat.le_refl _) ⟨(by have := BtL.out; omega), (by have := BtD.out; omega), (by have := BtX.out; omega)⟩ HhI.out).mono ?_
        rw [← HGL.out, ← HGD.out, ← HGX.out, ← HOK.out]
        rintro e w7 ⟨v0, v1, v2, rfl, ho, hb⟩
        obtain ⟨b12, d12, rfl, -⟩ := ints_form ho.rows.1.rd
        obtain ⟨b13, d13, rfl, -⟩ := ints_form ho.rows.2.1.rd
        obtain ⟨b14, d14, rfl, -⟩ := ints_form ho.rows.2.2.rd
        replace EC := Lib.hid (EC.out.grp hb ho)
        clear hb ho
        clear EQ c30 c31 c32 c00 c01 c02
        obtain ⟨c30, c31, c32, -, -, -, -, -, -, c00, c01, c02, -⟩ := EC.out.cells
        go_wp2_with fail
        refine hK.out _ _ (by (try dsimp only); exact ⟨c30, c31, c32, c00, c01, c02⟩) (fun hHeld => ?_)
        clear hK K
        try simp only [Act.put, List.getElem_toArray, List.getElem_cons_succ, List.getElem_cons_zero, List.setIfInBounds_toArray, List.set_cons_zero, List.set_cons_succ]
        refine wpAnyH_take (i := 6) (v := ?_) rfl (by kernel_rfl) (by kernel_rfl) (by kernel_rfl) (fun _ _ _ h => h) (Or.inl ⟨by rfl, ?_⟩) (by assumption) ?_
        rotate_left
        · intro w hSw; (try dsimp only at hSw); go_simp <;> with_reducible rfl
        try simp only [Act.put, List.getElem_toArray, List.getElem_cons_succ, List.getElem_cons_zero, List.setIfInBounds_toArray, List.set_cons_zero, List.set_cons_succ]
        refine wpAnyH_take (i := 7) (v := ?_) rfl (by kernel_rfl) (by kernel_rfl) (by kernel_rfl) (fun _ _ _ h => h) (Or.inl ⟨by rfl, ?_⟩) (by assumption) ?_
        rotate_left
        · intro w hSw; (try dsimp only at hSw); go_simp <;> with_reducible rfl
        try simp only [Act.put, List.getElem_toArray, List.getElem_cons_succ, List.getElem_cons_zero, List.setIfInBounds_toArray, List.set_cons_zero, List.set_cons_succ]
        refine wpAnyH_take (i := 8) (v := ?_) rfl (by kernel_rfl) (by kernel_rfl) (by kernel_rfl) (fun _ _ _ h => h) (Or.inl ⟨by rfl, ?_⟩) (by assumption) ?_
        rotate_left
        · intro w hSw; (try dsimp only at hSw); go_simp <;> with_reducible rfl
        try simp only [Act.put, List.getElem_toArray, List.getElem_cons_succ, List.getElem_cons_zero, List.setIfInBounds_toArray, List.set_cons_zero, List.set_cons_succ]
        refine wpAnyH_ready (rs := [9]) (by kernel_rfl) (by simp) ?_
        refine AllReadyH.cons rfl (fun K hK => ?_) AllReadyH.nil
        go_simp
        refine hK.out _ _ (by (try dsimp only); first | exact ⟨EC.out.cellA _ 0 rfl, EC.out.cellA _ 1 rfl, EC.out.cellA _ 2 rfl, EC.out.cellA _ 9 rfl, EC.out.cellA _ 10 rfl, EC.out.cellA _ 11 rfl⟩ | fail) (fun hHeld => ?_)
        clear hK K
        try simp only [Act.put, List.getElem_toArray, List.getElem_cons_succ, List.getElem_cons_zero, List.setIfInBounds_toArray, List.set_cons_zero, List.set_cons_succ]
        refine wpAnyH_ready (rs := [10]) (by kernel_rfl) (by simp) ?_
        refine AllReadyH.cons rfl (fun K hK => ?_) AllReadyH.nil
        go_simp
        refine hK.out _ _ (by (try dsimp only); exact ⟨EC.out.cellA _ 0 rfl, EC.out.cellA _ 1 rfl, EC.out.cellA _ 2 rfl, EC.out.cellA _ 9 rfl, EC.out.cellA _ 10 rfl, EC.out.cellA _ 11 rfl⟩) (fun hHeld => ?_)
        clear hK K
        try simp only [Act.put, List.getElem_toArray, List.getElem_cons_succ, List.getElem_cons_zero, List.setIfInBounds_toArray, List.set_cons_zero, List.set_cons_succ]
        refine wpAnyH_take (i := 11) (v := ?_) rfl (by kernel_rfl) (by kernel_rfl) (by kernel_rfl) (fun _ _ _ h => h) (Or.inl ⟨by rfl, ?_⟩) (by assumption) ?_
        rotate_left
        · intro w hSw; (try dsimp only at hSw); go_simp <;> with_reducible rfl
        try simp only [Act.put, List.getElem_toArray, List.getElem_cons_succ, List.getElem_cons_zero, List.setIfInBounds_toArray, List.set_cons_zero, List.set_cons_succ]
        refine wpAnyH_done (by kernel_rfl) ?_ _
        go_wp2_with fail
        go_meet
        exact ⟨_, _, _, _, _, _, _, _, _, rfl, rfl, Lib.hid ((EC.out.box3 _ _ _ _).subL HOL.out (List.Sublist.cons_cons _ (List.Sublist.refl _)))⟩
      · go_simp
        refine hK.out _ _ (by (try dsimp only); first | exact ⟨EC.out.cellA _ 0 rfl, EC.out.cellA _ 1 rfl, EC.out.cellA _ 2 rfl, EC.out.cellA _ 9 rfl, EC.out.cellA _ 10 rfl, EC.out.cellA _ 11 rfl⟩ | fail) (fun hHeld => ?_)
        have EB := Lib.hid (StB.new EC.out 49)
        try simp only [World.size_alloc] at EB HOL
        clear EC c30 c31 c32 c00 c01 c02
        obtain ⟨c30, c31, c32, -, -, -, -, -, -, c00, c01, c02, -⟩ := EB.out.st.cells
        (try clear t0 t1 t2 f0 f1 f2)
        obtain ⟨-, t0, t1, t2, fr, -, -⟩ := EB.out.bx
        have f0 := fr 0
        have f1 := fr 1
        have f2 := fr 2
        clear fr
        clear hK K
        try simp only [Act.put, List.getElem_toArray, List.getElem_cons_succ, List.getElem_cons_zero, List.setIfInBounds_toArray, List.set_cons_zero, List.set_cons_succ]
        refine wpAnyH_ready (rs := [5]) (by kernel_rfl) (by simp) ?_
        refine AllReadyH.cons rfl (fun K hK => ?_) AllReadyH.nil
        go_simp
        go_at_call 47
        have EQ := Lib.hid EB.out.st
        refine (diagonal_impl ⟨(EQ.out.rowAt 0 0 rfl rfl), (EQ.out.rowAt 0 1 rfl rfl), (EQ.out.rowAt 0 2 rfl rfl)⟩ (Nat.le_refl _) ⟨(by have := BtL.out; omega), (by have := BtD.out; omega), (by have := BtX.out; omega)⟩ HhI.out).mono ?_
        rw [← HGL.out, ← HGD.out, ← HGX.out, ← HOK.out]
        rintro e w7 ⟨v0, v1, v2, rfl, ho, hb⟩
        obtain ⟨b12, d12, rfl, -⟩ := ints_form ho.rows.1.rd
        obtain ⟨b13, d13, rfl, -⟩ := ints_form ho.rows.2.1.rd
        obtain ⟨b14, d14, rfl, -⟩ := ints_form ho.rows.2.2.rd
        replace EB := Lib.hid (EB.out.add hb ho)
        clear hb ho
        clear EQ c30 c31 c32 c00 c01 c02
        obtain ⟨c30, c31, c32, -, -, -, -, -, -, c00, c01, c02, -⟩ := EB.out.st.cells
        (try clear t0 t1 t2 f0 f1 f2)
        obtain ⟨-, t0, t1, t2, fr, -, -⟩ := EB.out.bx
        have f0 := fr 0
        have f1 := fr 1
        have f2 := fr 2
        clear fr
        go_wp2_with fail
        refine hK.out _ _ (by (try dsimp only); exact ⟨c30, c31, c32, c00, c01, c02⟩) (fun hHeld => ?_)
        clear hK K
        try simp only [Act.put, List.getElem_toArray, List.getElem_cons_succ, List.getElem_cons_zero, List.setIfInBounds_toArray, List.set_cons_zero, List.set_cons_succ]
        refine wpAnyH_take (i := 6) (v := ?_) rfl (by kernel_rfl) (by kernel_rfl) (by kernel_rfl) (fun _ _ _ h => h) (Or.inl ⟨by rfl, ?_⟩) (by assumption) ?_
        rotate_left
        · intro w hSw; (try dsimp only at hSw); go_simp <;> with_reducible rfl
        try simp only [Act.put, List.getElem_toArray, List.getElem_cons_succ, List.getElem_cons_zero, List.setIfInBounds_toArray, List.set_cons_zero, List.set_cons_succ]
        refine wpAnyH_take (i := 7) (v := ?_) rfl (by kernel_rfl) (by kernel_rfl) (by kernel_rfl) (fun _ _ _ h => h) (Or.inl ⟨by rfl, ?_⟩) (by assumption) ?_
        rotate_left
        · intro w hSw; (try dsimp only at hSw); go_simp <;> with_reducible rfl
        try simp only [Act.put, List.getElem_toArray, List.getElem_cons_succ, List.getElem_cons_zero, List.setIfInBounds_toArray, List.set_cons_zero, List.set_cons_succ]
        refine wpAnyH_take (i := 8) (v := ?_) rfl (by kernel_rfl) (by kernel_rfl) (by kernel_rfl) (fun _ _ _ h => h) (Or.inl ⟨by rfl, ?_⟩) (by assumption) ?_
        rotate_left
        · intro w hSw; (try dsimp only at hSw); go_simp <;> with_reducible rfl
        try simp only [Act.put, List.getElem_toArray, List.getElem_cons_succ, List.getElem_cons_zero, List.setIfInBounds_toArray, List.set_cons_zero, List.set_cons_succ]
        refine wpAnyH_ready (rs := [10]) (by kernel_rfl) (by simp) ?_
        refine AllReadyH.cons rfl (fun K hK => ?_) AllReadyH.nil
        go_simp
        refine hK.out _ _ (by (try dsimp only); exact ⟨EB.out.cell3 _ _ _ 0 rfl, EB.out.cell3 _ _ _ 1 rfl, EB.out.cell3 _ _ _ 2 rfl, EB.out.cell3 _ _ _ 9 rfl, EB.out.cell3 _ _ _ 10 rfl, EB.out.cell3 _ _ _ 11 rfl⟩) (fun hHeld => ?_)
        clear hK K
        try simp only [Act.put, List.getElem_toArray, List.getElem_cons_succ, List.getElem_cons_zero, List.setIfInBounds_toArray, List.set_cons_zero, List.set_cons_succ]
        refine wpAnyH_take (i := 11) (v := ?_) rfl (by kernel_rfl) (by kernel_rfl) (by kernel_rfl) (fun _ _ _ h => h) (Or.inl ⟨by rfl, ?_⟩) (by assumption) ?_
        rotate_left
        · intro w hSw; (try dsimp only at hSw); go_simp <;> with_reducible rfl
        try simp only [Act.put, List.getElem_toArray, List.getElem_cons_succ, List.getElem_cons_zero, List.setIfInBounds_toArray, List.set_cons_zero, List.set_cons_succ]
        refine wpAnyH_done (by kernel_rfl) ?_ _
        go_wp2_with fail
        go_meet
        exact ⟨_, _, _, _, _, _, _, _, _, rfl, rfl, Lib.hid ((EB.out.put _ _ _).subL HOL.out (List.Sublist.cons_cons _ (List.Sublist.refl _)))⟩
    · go_simp
      refine hK.out _ _ (by (try dsimp only); first | exact ⟨EC.out.cellA _ 0 rfl, EC.out.cellA _ 1 rfl, EC.out.cellA _ 2 rfl, EC.out.cellA _ 9 rfl, EC.out.cellA _ 10 rfl, EC.out.cellA _ 11 rfl⟩ | fail) (fun hHeld => ?_)
      have EB := Lib.hid ((StB.new EP.out 49).step (Below.drew (Below.refl _ _)))
      try simp only [World.size_alloc] at EB HOL
      clear EC c30 c31 c32 c00 c01 c02
      obtain ⟨c30, c31, c32, -, -, -, -, -, -, c00, c01, c02, -⟩ := EB.out.st.cells
      (try clear t0 t1 t2 f0 f1 f2)
      obtain ⟨-, t0, t1, t2, fr, -, -⟩ := EB.out.bx
      have f0 := fr 0
      have f1 := fr 1
      have f2 := fr 2
      clear fr
      clear hK K
      try simp only [Act.put, List.getElem_toArray, List.getElem_cons_succ, List.getElem_cons_zero, List.setIfInBounds_toArray, List.set_cons_zero, List.set_cons_succ]
      refine wpAnyH_ready (rs := [1]) (by kernel_rfl) (by simp) ?_
      refine AllReadyH.cons rfl (fun K hK => ?_) AllReadyH.nil
      go_simp
      go_at_call 36
      have EQ := Lib.hid EB.out.st
      refine (to_ring rk rp rn _).mono ?_
      rintro e w6 ⟨rfl, hb⟩
      replace EB := Lib.hid (EB.out.step hb)
      clear hb
      clear EQ c30 c31 c32 c00 c01 c02
      obtain ⟨c30, c31, c32, -, -, -, -, -, -, c00, c01, c02, -⟩ := EB.out.st.cells
      (try clear t0 t1 t2 f0 f1 f2)
      obtain ⟨-, t0, t1, t2, fr, -, -⟩ := EB.out.bx
      have f0 := fr 0
      have f1 := fr 1
      have f2 := fr 2
      clear fr
      go_wp2_with fail
      refine hK.out _ _ (by (try dsimp only); exact ⟨c30, c31, c32, c00, c01, c02⟩) (fun hHeld => ?_)
      clear hK K
      try simp only [Act.put, List.getElem_toArray, List.getElem_cons_succ, List.getElem_cons_zero, List.setIfInBounds_toArray, List.set_cons_zero, List.set_cons_succ]
      refine wpAnyH_ready (rs := [5]) (by kernel_rfl) (by simp) ?_
      refine AllReadyH.cons rfl (fun K hK => ?_) AllReadyH.nil
      go_simp
      go_at_call 47
      have EQ := Lib.hid EB.out.st
      refine (diagonal_impl ⟨(EQ.out.rowAt 0 0 rfl rfl), (EQ.out.rowAt 0 1 rfl rfl), (EQ.out.rowAt 0 2 rfl rfl)⟩ (Nat.le_refl _) ⟨(by have := BtL.out; omega), (by have := BtD.out; omega), (by have := BtX.out; omega)⟩ HhI.out).mono ?_
      rw [← HGL.out, ← HGD.out, ← HGX.out, ← HOK.out]
      rintro e w7 ⟨v0, v1, v2, rfl, ho, hb⟩
      obtain ⟨b12, d12, rfl, -⟩ := ints_form ho.rows.1.rd
      obtain ⟨b13, d13, rfl, -⟩ := ints_form ho.rows.2.1.rd
      obtain ⟨b14, d14, rfl, -⟩ := ints_form ho.rows.2.2.rd
      replace EB := Lib.hid (EB.out.add hb ho)
      clear hb ho
      clear EQ c30 c31 c32 c00 c01 c02
      obtain ⟨c30, c31, c32, -, -, -, -, -, -, c00, c01, c02, -⟩ := EB.out.st.cells
      (try clear t0 t1 t2 f0 f1 f2)
      obtain ⟨-, t0, t1, t2, fr, -, -⟩ := EB.out.bx
      have f0 := fr 0
      have f1 := fr 1
      have f2 := fr 2
      clear fr
      go_wp2_with fail
      refine hK.out _ _ (by (try dsimp only); exact ⟨c30, c31, c32, c00, c01, c02⟩) (fun hHeld => ?_)
      clear hK K
      try simp only [Act.put, List.getElem_toArray, List.getElem_cons_succ, List.getElem_cons_zero, List.setIfInBounds_toArray, List.set_cons_zero, List.set_cons_succ]
      refine wpAnyH_take (i := 6) (v := ?_) rfl (by kernel_rfl) (by kernel_rfl) (by kernel_rfl) (fun _ _ _ h => h) (Or.inl ⟨by rfl, ?_⟩) (by assumption) ?_
      rotate_left
      · intro w hSw; (try dsimp only at hSw); go_simp <;> with_reducible rfl
      try simp only [Act.put, List.getElem_toArray, List.getElem_cons_succ, List.getElem_cons_zero, List.setIfInBounds_toArray, List.set_cons_zero, List.set_cons_succ]
      refine wpAnyH_take (i := 7) (v := ?_) rfl (by kernel_rfl) (by kernel_rfl) (by kernel_rfl) (fun _ _ _ h => h) (Or.inl ⟨by rfl, ?_⟩) (by assumption) ?_
      rotate_left
      · intro w hSw; (try dsimp only at hSw); go_simp <;> with_reducible rfl
      try simp only [Act.put, List.getElem_toArray, List.getElem_cons_succ, List.getElem_cons_zero, List.setIfInBounds_toArray, List.set_cons_zero, List.set_cons_succ]
      refine wpAnyH_take (i := 8) (v := ?_) rfl (by kernel_rfl) (by kernel_rfl) (by kernel_rfl) (fun _ _ _ h => h) (Or.inl ⟨by rfl, ?_⟩) (by assumption) ?_
      rotate_left
      · intro w hSw; (try dsimp only at hSw); go_simp <;> with_reducible rfl
      try simp only [Act.put, List.getElem_toArray, List.getElem_cons_succ, List.getElem_cons_zero, List.setIfInBounds_toArray, List.set_cons_zero, List.set_cons_succ]
      refine wpAnyH_ready (rs := [10]) (by kernel_rfl) (by simp) ?_
      refine AllReadyH.cons rfl (fun K hK => ?_) AllReadyH.nil
      go_simp
      refine hK.out _ _ (by (try dsimp only); exact ⟨EB.out.cell3 _ _ _ 0 rfl, EB.out.cell3 _ _ _ 1 rfl, EB.out.cell3 _ _ _ 2 rfl, EB.out.cell3 _ _ _ 9 rfl, EB.out.cell3 _ _ _ 10 rfl, EB.out.cell3 _ _ _ 11 rfl⟩) (fun hHeld => ?_)
      clear hK K
      try simp only [Act.put, List.getElem_toArray, List.getElem_cons_succ, List.getElem_cons_zero, List.setIfInBounds_toArray, List.set_cons_zero, List.set_cons_succ]
      refine wpAnyH_take (i := 11) (v := ?_) rfl (by kernel_rfl) (by kernel_rfl) (by kernel_rfl) (fun _ _ _ h => h) (Or.inl ⟨by rfl, ?_⟩) (by assumption) ?_
      rotate_left
      · intro w hSw; (try dsimp only at hSw); go_simp <;> with_reducible rfl
      try simp only [Act.put, List.getElem_toArray, List.getElem_cons_succ, List.getElem_cons_zero, List.setIfInBounds_toArray, List.set_cons_zero, List.set_cons_succ]
      refine wpAnyH_done (by kernel_rfl) ?_ _
      go_wp2_with fail
      go_meet
      exact ⟨_, _, _, _, _, _, _, _, _, rfl, rfl, Lib.hid ((EB.out.put _ _ _).subL HOL.out (List.Sublist.cons_cons _ (List.Sublist.refl _)))⟩
  obtain ⟨bq7, lo7, hi7, b15, d15, b16, d16, b17, d17, rfl, rfl, E10⟩ := hcut
  have hOL := HOL.out
  subst hOL
  clear HOL EC
  obtain ⟨c40, c41, c42, -, -, -, c20, c21, c22, -, -, -, -, -, -, -⟩ := E10.out.cells
  go_wp2_with fail
  refine (eq_ten ⟨(E10.out.rowAt 0 0 rfl rfl), (E10.out.rowAt 0 1 rfl rfl), (E10.out.rowAt 0 2 rfl rfl)⟩ ⟨(E10.out.rowAt 2 0 rfl rfl), (E10.out.rowAt 2 1 rfl rfl), (E10.out.rowAt 2 2 rfl rfl)⟩ (Nat.le_refl _) (Nat.le_refl _) ⟨(by have := HGLL.out; omega), (by have := HGLD.out; omega), (by have := HGLX.out; omega)⟩).mono ?_
  rintro e w8 ⟨rfl, hb⟩
  have E11 := Lib.hid (E10.out.step hb)
  clear hb
  have E11d := Lib.hid E11.out.drew
  clear c40 c41 c42 c20 c21 c22
  obtain ⟨-, -, -, c30, c31, c32, -, -, -, c10, c11, c12, -, -, -, -⟩ := E11.out.cells
  go_wp2
  have tk10_0 : True := trivial
  have tk10_1 : True := trivial
  go_region_held3 (fun w' => w'.cell? ⟨w5.heap.size, 0, none⟩ = some (.slice b9 tL.length d9) ∧ w'.cell? ⟨w5.heap.size, 1, none⟩ = some (.slice b10 tD.length d10) ∧ w'.cell? ⟨w5.heap.size, 2, none⟩ = some (.slice b11 tX.length d11) ∧ w'.cell? ⟨w.heap.size + 1, 0, none⟩ = some (.slice atL tL.length ctL) ∧ w'.cell? ⟨w.heap.size + 1, 1, none⟩ = some (.slice atD tD.length ctD) ∧ w'.cell? ⟨w.heap.size + 1, 2, none⟩ = some (.slice atX tX.length ctX)) (first | exact ⟨c30, c31, c32, c10, c11, c12⟩) (first
    | (go_at_call 37; have _t := tk10_0; refine (to_ten ⟨((E11d.out.rdAt 0 rfl).mono E11d.out.bel.size), ((E11d.out.rdAt 1 rfl).mono E11d.out.bel.size), ((E11d.out.rdAt 2 rfl).mono E11d.out.bel.size)⟩ (Nat.le_refl _) (by have := BtL.out; omega) (by have := BtD.out; omega) (by have := BtX.out; omega)).mono ?_; rintro e w9 ⟨v0, v1, v2, rfl, ho, hb⟩; obtain ⟨b18, d18, rfl, -⟩ := ints_form ho.rows.1.rd; obtain ⟨b19, d19, rfl, -⟩ := ints_form ho.rows.2.1.rd; obtain ⟨b20, d20, rfl, -⟩ := ints_form ho.rows.2.2.rd; have E12 := Lib.hid (E11d.out.grp hb ho); clear hb ho; obtain ⟨-, -, -, c30, c31, c32, -, -, -, c10, c11, c12, -, -, -, -⟩ := E12.out.cells; clear tk10_0)
    | (go_at_call 39; have _t := tk10_1; refine (eq_ten ⟨(E12.out.rowAt 2 0 rfl rfl), (E12.out.rowAt 2 1 rfl rfl), (E12.out.rowAt 2 2 rfl rfl)⟩ ⟨(E12.out.rowAt 0 0 rfl rfl), (E12.out.rowAt 0 1 rfl rfl), (E12.out.rowAt 0 2 rfl rfl)⟩ (Nat.le_refl _) (Nat.le_refl _) ⟨(by have := BtL.out; omega), (by have := BtD.out; omega), (by have := BtX.out; omega)⟩).mono ?_; rintro e w10 ⟨rfl, hb⟩; have E13 := Lib.hid (E12.out.step hb); clear hb; obtain ⟨-, -, -, c30, c31, c32, -, -, -, c10, c11, c12, -, -, -, -⟩ := E13.out.cells; clear tk10_1))
  obtain ⟨-, -, -, c30, c31, c32, -, -, -, -, -, -, -, -, -, -⟩ := E13.out.cells
  go_wp2_with fail
  obtain ⟨m0, hm⟩ : ∃ m : Nat, m = 1 + tL.length + tD.length + tX.length := ⟨_, rfl⟩
  have M0 := Lib.hid hm
  have m0b : m0 ≤ 3145729 := by have := BtL.out; have := BtD.out; have := BtX.out; omega
  clear hm
  refine (marks_ten 1 rfl (E13.out.grpAt 2 rfl) (by have := BtL.out; omega) (by have := BtD.out; omega) (by have := BtX.out; omega) (by omega)).mono ?_
  rw [← M0.out]
  rintro e w11 ⟨rfl, ho, hk⟩
  have E14 := Lib.hid (E13.out.mark 2 rfl hk ho)
  clear ho hk
  clear c30 c31 c32
  obtain ⟨c40, c41, c42, -, -, -, c20, c21, c22, -, -, -, -, -, -, -⟩ := E14.out.cells
  go_wp2_with fail
  refine (eq_ten ⟨(E14.out.rowAt 1 0 rfl rfl), (E14.out.rowAt 1 1 rfl rfl), (E14.out.rowAt 1 2 rfl rfl)⟩ ⟨(E14.out.rowAt 3 0 rfl rfl), (E14.out.rowAt 3 1 rfl rfl), (E14.out.rowAt 3 2 rfl rfl)⟩ (Nat.le_refl _) (Nat.le_refl _) ⟨(by have := HGLL.out; omega), (by have := HGLD.out; omega), (by have := HGLX.out; omega)⟩).mono ?_
  rintro e w12 ⟨rfl, hb⟩
  have E15 := Lib.hid (E14.out.step hb)
  clear hb
  clear c40 c41 c42 c20 c21 c22
  obtain ⟨c40, c41, c42, -, -, -, -, -, -, -, -, -, -, -, -, -⟩ := E15.out.cells
  go_wp2_with fail
  obtain ⟨m1, hm⟩ : ∃ m : Nat, m = 1 + GL.length + GD.length + GX.length := ⟨_, rfl⟩
  have M1 := Lib.hid hm
  have m1b : m1 ≤ 52776558133249 := by have := HGLL.out; have := HGLD.out; have := HGLX.out; omega
  clear hm
  refine (marks_ten 1 rfl (E15.out.grpAt 1 rfl) (by have := HGLL.out; omega) (by have := HGLD.out; omega) (by have := HGLX.out; omega) (by omega)).mono ?_
  rw [← M1.out]
  rintro e w13 ⟨rfl, ho, hk⟩
  have E16 := Lib.hid (E15.out.mark 1 rfl hk ho)
  clear ho hk
  clear c40 c41 c42
  obtain ⟨c40, c41, c42, -, -, -, -, -, -, -, -, -, -, -, -, -⟩ := E16.out.cells
  go_wp2_with fail
  refine (helds_ten (s := 1) rfl ⟨(E16.out.rowAt 1 0 rfl rfl), (E16.out.rowAt 1 1 rfl rfl), (E16.out.rowAt 1 2 rfl rfl)⟩ (Nat.le_refl _) (by have := HGLL.out; omega) (by have := HGLD.out; omega) (by have := HGLX.out; omega) (by omega)).mono ?_
  rw [← M1.out]
  rintro e w14 ⟨rfl, hb⟩
  have E17 := Lib.hid (E16.out.step hb)
  clear hb
  clear c40 c41 c42
  go_upto_region 24 with fail
  have EC := E17
  obtain ⟨OL, HOL⟩ := St.letter EC
  go_cut [18, 19] (fun sv o19 wx => ∃ (bq24 lo24 hi24 : Nat) (b27 : Option Addr) (d27 : Nat) (b28 : Option Addr) (d28 : Nat) (b29 : Option Addr) (d29 : Nat), o19 = .bool ok ∧ sv = .pointer (some ⟨bq24, 0, none⟩) ∧ Hid (St w wx [(bq24, 0, .slice b27 GL.length d27), (bq24, 1, .slice b28 GD.length d28), (bq24, 2, .slice b29 GX.length d29), (bq7, 0, .slice b15 GL.length d15), (bq7, 1, .slice b16 GD.length d16), (bq7, 2, .slice b17 GX.length d17), (w5.heap.size, 0, .slice b9 tL.length d9), (w5.heap.size, 1, .slice b10 tD.length d10), (w5.heap.size, 2, .slice b11 tX.length d11), (bq5, 0, .slice b6 GL.length d6), (bq5, 1, .slice b7 GD.length d7), (bq5, 2, .slice b8 GX.length d8), (w.heap.size + 1, 0, .slice atL tL.length ctL), (w.heap.size + 1, 1, .slice atD tD.length ctD), (w.heap.size + 1, 2, .slice atX tX.length ctX), (w.heap.size, 0, .int .i64 rk), (w.heap.size, 1, .int .i64 rp), (w.heap.size, 2, .int .i64 rn)] [(.slice atL tL.length ctL, tL), (.slice atD tD.length ctD, tD), (.slice atX tX.length ctX, tX)] ((lo24, hi24, [(.slice b27 GL.length d27, GL), (.slice b28 GD.length d28, GD), (.slice b29 GX.length d29, GX)]) :: OL)))
  case first =>
    have EP := EC
    have EC := Lib.hid EC.out.drew
    obtain ⟨-, -, -, -, -, -, -, -, -, c10, c11, c12, c00, c01, c02, -⟩ := EC.out.cells
    refine wp_region_held_drew (S := fun w' => w'.cell? ⟨w.heap.size + 1, 0, none⟩ = some (.slice atL tL.length ctL) ∧ w'.cell? ⟨w.heap.size + 1, 1, none⟩ = some (.slice atD tD.length ctD) ∧ w'.cell? ⟨w.heap.size + 1, 2, none⟩ = some (.slice atX tX.length ctX) ∧ w'.cell? ⟨w.heap.size, 0, none⟩ = some (.int .i64 rk) ∧ w'.cell? ⟨w.heap.size, 1, none⟩ = some (.int .i64 rp) ∧ w'.cell? ⟨w.heap.size, 2, none⟩ = some (.int .i64 rn)) (by kernel_rfl) (by (try dsimp only); exact ⟨c10, c11, c12, c00, c01, c02⟩) (fun hHeld => ?_)
    refine wpAnyH_take (i := 0) (v := ?_) rfl (by kernel_rfl) (by kernel_rfl) (by kernel_rfl) (fun _ _ _ h => h) (Or.inl ⟨by rfl, ?_⟩) (by assumption) ?_
    rotate_left
    · intro w hSw; (try dsimp only at hSw); go_simp <;> with_reducible rfl
    try simp only [Act.put, List.getElem_toArray, List.getElem_cons_zero, List.setIfInBounds_toArray, List.set_cons_zero, List.set_cons_succ]
    refine wpAnyH_take (i := 2) (v := ?_) rfl (by kernel_rfl) (by kernel_rfl) (by kernel_rfl) (fun _ _ _ h => h) (Or.inl ⟨by rfl, ?_⟩) (by assumption) ?_
    rotate_left
    · intro w hSw; (try dsimp only at hSw); go_simp <;> with_reducible rfl
    try simp only [Act.put, List.getElem_toArray, List.getElem_cons_succ, List.getElem_cons_zero, List.setIfInBounds_toArray, List.set_cons_zero, List.set_cons_succ]
    refine wpAnyH_take (i := 4) (v := ?_) rfl (by kernel_rfl) (by kernel_rfl) (by kernel_rfl) (fun _ _ _ h => h) (Or.inl ⟨by rfl, ?_⟩) (by assumption) ?_
    rotate_left
    · intro w hSw; (try dsimp only at hSw); go_simp <;> with_reducible rfl
    try simp only [Act.put, List.getElem_toArray, List.getElem_cons_succ, List.getElem_cons_zero, List.setIfInBounds_toArray, List.set_cons_zero, List.set_cons_succ]
    refine wpAnyH_take (i := 5) (v := ?_) rfl (by kernel_rfl) (by kernel_rfl) (by kernel_rfl) (fun _ _ _ h => h) (Or.inl ⟨by rfl, ?_⟩) (by assumption) ?_
    rotate_left
    · intro w hSw; (try dsimp only at hSw); go_simp <;> with_reducible rfl
    try simp only [Act.put, List.getElem_toArray, List.getElem_cons_succ, List.getElem_cons_zero, List.setIfInBounds_toArray, List.set_cons_zero, List.set_cons_succ]
    refine wpAnyH_ready (rs := [1, 10]) (by kernel_rfl) (by simp) ?_
    refine AllReadyH.cons rfl (fun K hK => ?_) (AllReadyH.cons rfl (fun K hK => ?_) AllReadyH.nil)
    · go_simp
      go_at_call 36
      have EQ := EC
      refine (to_ring rk rp rn _).mono ?_
      rintro e w15 ⟨rfl, hb⟩
      replace EC := Lib.hid (EC.out.step hb)
      clear hb
      clear EQ c10 c11 c12 c00 c01 c02
      obtain ⟨-, -, -, -, -, -, -, -, -, c10, c11, c12, c00, c01, c02, -⟩ := EC.out.cells
      go_wp2_with fail
      refine hK.out _ _ (by (try dsimp only); exact ⟨c10, c11, c12, c00, c01, c02⟩) (fun hHeld => ?_)
      clear hK K
      try simp only [Act.put, List.getElem_toArray, List.getElem_cons_succ, List.getElem_cons_zero, List.setIfInBounds_toArray, List.set_cons_zero, List.set_cons_succ]
      refine wpAnyH_ready (rs := [3, 10]) (by kernel_rfl) (by simp) ?_
      refine AllReadyH.cons rfl (fun K hK => ?_) (AllReadyH.cons rfl (fun K hK => ?_) AllReadyH.nil)
      · go_simp
        go_at_call 37
        have EQ := EC
        refine (to_ten ⟨((EQ.out.rdAt 0 rfl).mono EQ.out.bel.size), ((EQ.out.rdAt 1 rfl).mono EQ.out.bel.size), ((EQ.out.rdAt 2 rfl).mono EQ.out.bel.size)⟩ (Nat.le_refl _) (by have := BtL.out; omega) (by have := BtD.out; omega) (by have := BtX.out; omega)).mono ?_
        rintro e w16 ⟨v0, v1, v2, rfl, ho, hb⟩
        obtain ⟨b21, d21, rfl, -⟩ := ints_form ho.rows.1.rd
        obtain ⟨b22, d22, rfl, -⟩ := ints_form ho.rows.2.1.rd
        obtain ⟨b23, d23, rfl, -⟩ := ints_form ho.rows.2.2.rd
        replace EC := Lib.hid (EC.out.grp hb ho)
        clear hb ho
        clear EQ c10 c11 c12 c00 c01 c02
        obtain ⟨-, -, -, -, -, -, -, -, -, c10, c11, c12, c00, c01, c02, -⟩ := EC.out.cells
        go_wp2_with fail
        refine hK.out _ _ (by (try dsimp only); exact ⟨c10, c11, c12, c00, c01, c02⟩) (fun hHeld => ?_)
        clear hK K
        try simp only [Act.put, List.getElem_toArray, List.getElem_cons_succ, List.getElem_cons_zero, List.setIfInBounds_toArray, List.set_cons_zero, List.set_cons_succ]
        refine wpAnyH_ready (rs := [6, 10]) (by kernel_rfl) (by simp) ?_
        refine AllReadyH.cons rfl (fun K hK => ?_) (AllReadyH.cons rfl (fun K hK => ?_) AllReadyH.nil)
        · go_simp
          go_at_call 47
          have EQ := EC
          refine (diagonal_impl ⟨(EQ.out.rowAt 0 0 rfl rfl), (EQ.out.rowAt 0 1 rfl rfl), (EQ.out.rowAt 0 2 rfl rfl)⟩ (Nat.le_refl _) ⟨(by have := BtL.out; omega), (by have := BtD.out; omega), (by have := BtX.out; omega)⟩ HhI.out).mono ?_
          rw [← HGL.out, ← HGD.out, ← HGX.out, ← HOK.out]
          rintro e w17 ⟨v0, v1, v2, rfl, ho, hb⟩
          obtain ⟨b24, d24, rfl, -⟩ := ints_form ho.rows.1.rd
          obtain ⟨b25, d25, rfl, -⟩ := ints_form ho.rows.2.1.rd
          obtain ⟨b26, d26, rfl, -⟩ := ints_form ho.rows.2.2.rd
          replace EC := Lib.hid (EC.out.grp hb ho)
          clear hb ho
          clear EQ c10 c11 c12 c00 c01 c02
          obtain ⟨-, -, -, -, -, -, -, -, -, c10, c11, c12, c00, c01, c02, -⟩ := EC.out.cells
          go_wp2_with fail
          refine hK.out _ _ (by (try dsimp only); exact ⟨c10, c11, c12, c00, c01, c02⟩) (fun hHeld => ?_)
          clear hK K
          try simp only [Act.put, List.getElem_toArray, List.getElem_cons_succ, List.getElem_cons_zero, List.setIfInBounds_toArray, List.set_cons_zero, List.set_cons_succ]
          refine wpAnyH_take (i := 7) (v := ?_) rfl (by kernel_rfl) (by kernel_rfl) (by kernel_rfl) (fun _ _ _ h => h) (Or.inl ⟨by rfl, ?_⟩) (by assumption) ?_
          rotate_left
          · intro w hSw; (try dsimp only at hSw); go_simp <;> with_reducible rfl
          try simp only [Act.put, List.getElem_toArray, List.getElem_cons_succ, List.getElem_cons_zero, List.setIfInBounds_toArray, List.set_cons_zero, List.set_cons_succ]
          refine wpAnyH_take (i := 8) (v := ?_) rfl (by kernel_rfl) (by kernel_rfl) (by kernel_rfl) (fun _ _ _ h => h) (Or.inl ⟨by rfl, ?_⟩) (by assumption) ?_
          rotate_left
          · intro w hSw; (try dsimp only at hSw); go_simp <;> with_reducible rfl
          try simp only [Act.put, List.getElem_toArray, List.getElem_cons_succ, List.getElem_cons_zero, List.setIfInBounds_toArray, List.set_cons_zero, List.set_cons_succ]
          refine wpAnyH_take (i := 9) (v := ?_) rfl (by kernel_rfl) (by kernel_rfl) (by kernel_rfl) (fun _ _ _ h => h) (Or.inl ⟨by rfl, ?_⟩) (by assumption) ?_
          rotate_left
          · intro w hSw; (try dsimp only at hSw); go_simp <;> with_reducible rfl
          try simp only [Act.put, List.getElem_toArray, List.getElem_cons_succ, List.getElem_cons_zero, List.setIfInBounds_toArray, List.set_cons_zero, List.set_cons_succ]
          refine wpAnyH_ready (rs := [10]) (by kernel_rfl) (by simp) ?_
          refine AllReadyH.cons rfl (fun K hK => ?_) AllReadyH.nil
          go_simp
          refine hK.out _ _ (by (try dsimp only); first | exact ⟨EC.out.cellA _ 9 rfl, EC.out.cellA _ 10 rfl, EC.out.cellA _ 11 rfl, EC.out.cellA _ 12 rfl, EC.out.cellA _ 13 rfl, EC.out.cellA _ 14 rfl⟩ | fail) (fun hHeld => ?_)
          clear hK K
          try simp only [Act.put, List.getElem_toArray, List.getElem_cons_succ, List.getElem_cons_zero, List.setIfInBounds_toArray, List.set_cons_zero, List.set_cons_succ]
          refine wpAnyH_ready (rs := [11]) (by kernel_rfl) (by simp) ?_
          refine AllReadyH.cons rfl (fun K hK => ?_) AllReadyH.nil
          go_simp
          refine hK.out _ _ (by (try dsimp only); exact ⟨EC.out.cellA _ 9 rfl, EC.out.cellA _ 10 rfl, EC.out.cellA _ 11 rfl, EC.out.cellA _ 12 rfl, EC.out.cellA _ 13 rfl, EC.out.cellA _ 14 rfl⟩) (fun hHeld => ?_)
          clear hK K
          try simp only [Act.put, List.getElem_toArray, List.getElem_cons_succ, List.getElem_cons_zero, List.setIfInBounds_toArray, List.set_cons_zero, List.set_cons_succ]
          refine wpAnyH_take (i := 12) (v := ?_) rfl (by kernel_rfl) (by kernel_rfl) (by kernel_rfl) (fun _ _ _ h => h) (Or.inl ⟨by rfl, ?_⟩) (by assumption) ?_
          rotate_left
          · intro w hSw; (try dsimp only at hSw); go_simp <;> with_reducible rfl
          try simp only [Act.put, List.getElem_toArray, List.getElem_cons_succ, List.getElem_cons_zero, List.setIfInBounds_toArray, List.set_cons_zero, List.set_cons_succ]
          refine wpAnyH_done (by kernel_rfl) ?_ _
          go_wp2_with fail
          go_meet
          exact ⟨_, _, _, _, _, _, _, _, _, rfl, rfl, Lib.hid ((EC.out.box3 _ _ _ _).subL HOL.out (List.Sublist.cons_cons _ (List.Sublist.cons _ (List.Sublist.refl _))))⟩
        · go_simp
          refine hK.out _ _ (by (try dsimp only); first | exact ⟨EC.out.cellA _ 9 rfl, EC.out.cellA _ 10 rfl, EC.out.cellA _ 11 rfl, EC.out.cellA _ 12 rfl, EC.out.cellA _ 13 rfl, EC.out.cellA _ 14 rfl⟩ | fail) (fun hHeld => ?_)
          have EB := Lib.hid (StB.new EC.out 49)
          try simp only [World.size_alloc] at EB HOL
          clear EC c10 c11 c12 c00 c01 c02
          obtain ⟨-, -, -, -, -, -, -, -, -, c10, c11, c12, c00, c01, c02, -⟩ := EB.out.st.cells
          (try clear t0 t1 t2 f0 f1 f2)
          obtain ⟨-, t0, t1, t2, fr, -, -⟩ := EB.out.bx
          have f0 := fr 0
          have f1 := fr 1
          have f2 := fr 2
          clear fr
          clear hK K
          try simp only [Act.put, List.getElem_toArray, List.getElem_cons_succ, List.getElem_cons_zero, List.setIfInBounds_toArray, List.set_cons_zero, List.set_cons_succ]
          refine wpAnyH_ready (rs := [6]) (by kernel_rfl) (by simp) ?_
          refine AllReadyH.cons rfl (fun K hK => ?_) AllReadyH.nil
          go_simp
          go_at_call 47
          have EQ := Lib.hid EB.out.st
          refine (diagonal_impl ⟨(EQ.out.rowAt 0 0 rfl rfl), (EQ.out.rowAt 0 1 rfl rfl), (EQ.out.rowAt 0 2 rfl rfl)⟩ (Nat.le_refl _) ⟨(by have := BtL.out; omega), (by have := BtD.out; omega), (by have := BtX.out; omega)⟩ HhI.out).mono ?_
          rw [← HGL.out, ← HGD.out, ← HGX.out, ← HOK.out]
          rintro e w17 ⟨v0, v1, v2, rfl, ho, hb⟩
          obtain ⟨b24, d24, rfl, -⟩ := ints_form ho.rows.1.rd
          obtain ⟨b25, d25, rfl, -⟩ := ints_form ho.rows.2.1.rd
          obtain ⟨b26, d26, rfl, -⟩ := ints_form ho.rows.2.2.rd
          replace EB := Lib.hid (EB.out.add hb ho)
          clear hb ho
          clear EQ c10 c11 c12 c00 c01 c02
          obtain ⟨-, -, -, -, -, -, -, -, -, c10, c11, c12, c00, c01, c02, -⟩ := EB.out.st.cells
          (try clear t0 t1 t2 f0 f1 f2)
          obtain ⟨-, t0, t1, t2, fr, -, -⟩ := EB.out.bx
          have f0 := fr 0
          have f1 := fr 1
          have f2 := fr 2
          clear fr
          go_wp2_with fail
          refine hK.out _ _ (by (try dsimp only); exact ⟨c10, c11, c12, c00, c01, c02⟩) (fun hHeld => ?_)
          clear hK K
          try simp only [Act.put, List.getElem_toArray, List.getElem_cons_succ, List.getElem_cons_zero, List.setIfInBounds_toArray, List.set_cons_zero, List.set_cons_succ]
          refine wpAnyH_take (i := 7) (v := ?_) rfl (by kernel_rfl) (by kernel_rfl) (by kernel_rfl) (fun _ _ _ h => h) (Or.inl ⟨by rfl, ?_⟩) (by assumption) ?_
          rotate_left
          · intro w hSw; (try dsimp only at hSw); go_simp <;> with_reducible rfl
          try simp only [Act.put, List.getElem_toArray, List.getElem_cons_succ, List.getElem_cons_zero, List.setIfInBounds_toArray, List.set_cons_zero, List.set_cons_succ]
          refine wpAnyH_take (i := 8) (v := ?_) rfl (by kernel_rfl) (by kernel_rfl) (by kernel_rfl) (fun _ _ _ h => h) (Or.inl ⟨by rfl, ?_⟩) (by assumption) ?_
          rotate_left
          · intro w hSw; (try dsimp only at hSw); go_simp <;> with_reducible rfl
          try simp only [Act.put, List.getElem_toArray, List.getElem_cons_succ, List.getElem_cons_zero, List.setIfInBounds_toArray, List.set_cons_zero, List.set_cons_succ]
          refine wpAnyH_take (i := 9) (v := ?_) rfl (by kernel_rfl) (by kernel_rfl) (by kernel_rfl) (fun _ _ _ h => h) (Or.inl ⟨by rfl, ?_⟩) (by assumption) ?_
          rotate_left
          · intro w hSw; (try dsimp only at hSw); go_simp <;> with_reducible rfl
          try simp only [Act.put, List.getElem_toArray, List.getElem_cons_succ, List.getElem_cons_zero, List.setIfInBounds_toArray, List.set_cons_zero, List.set_cons_succ]
          refine wpAnyH_ready (rs := [11]) (by kernel_rfl) (by simp) ?_
          refine AllReadyH.cons rfl (fun K hK => ?_) AllReadyH.nil
          go_simp
          refine hK.out _ _ (by (try dsimp only); exact ⟨EB.out.cell3 _ _ _ 9 rfl, EB.out.cell3 _ _ _ 10 rfl, EB.out.cell3 _ _ _ 11 rfl, EB.out.cell3 _ _ _ 12 rfl, EB.out.cell3 _ _ _ 13 rfl, EB.out.cell3 _ _ _ 14 rfl⟩) (fun hHeld => ?_)
          clear hK K
          try simp only [Act.put, List.getElem_toArray, List.getElem_cons_succ, List.getElem_cons_zero, List.setIfInBounds_toArray, List.set_cons_zero, List.set_cons_succ]
          refine wpAnyH_take (i := 12) (v := ?_) rfl (by kernel_rfl) (by kernel_rfl) (by kernel_rfl) (fun _ _ _ h => h) (Or.inl ⟨by rfl, ?_⟩) (by assumption) ?_
          rotate_left
          · intro w hSw; (try dsimp only at hSw); go_simp <;> with_reducible rfl
          try simp only [Act.put, List.getElem_toArray, List.getElem_cons_succ, List.getElem_cons_zero, List.setIfInBounds_toArray, List.set_cons_zero, List.set_cons_succ]
          refine wpAnyH_done (by kernel_rfl) ?_ _
          go_wp2_with fail
          go_meet
          exact ⟨_, _, _, _, _, _, _, _, _, rfl, rfl, Lib.hid ((EB.out.put _ _ _).subL HOL.out (List.Sublist.cons_cons _ (List.Sublist.cons _ (List.Sublist.refl _))))⟩
      · go_simp
        refine hK.out _ _ (by (try dsimp only); first | exact ⟨EC.out.cellA _ 9 rfl, EC.out.cellA _ 10 rfl, EC.out.cellA _ 11 rfl, EC.out.cellA _ 12 rfl, EC.out.cellA _ 13 rfl, EC.out.cellA _ 14 rfl⟩ | fail) (fun hHeld => ?_)
        have EB := Lib.hid (StB.new EC.out 49)
        try simp only [World.size_alloc] at EB HOL
        clear EC c10 c11 c12 c00 c01 c02
        obtain ⟨-, -, -, -, -, -, -, -, -, c10, c11, c12, c00, c01, c02, -⟩ := EB.out.st.cells
        (try clear t0 t1 t2 f0 f1 f2)
        obtain ⟨-, t0, t1, t2, fr, -, -⟩ := EB.out.bx
        have f0 := fr 0
        have f1 := fr 1
        have f2 := fr 2
        clear fr
        clear hK K
        try simp only [Act.put, List.getElem_toArray, List.getElem_cons_succ, List.getElem_cons_zero, List.setIfInBounds_toArray, List.set_cons_zero, List.set_cons_succ]
        refine wpAnyH_ready (rs := [3]) (by kernel_rfl) (by simp) ?_
        refine AllReadyH.cons rfl (fun K hK => ?_) AllReadyH.nil
        go_simp
        go_at_call 37
        have EQ := Lib.hid EB.out.st
        refine (to_ten ⟨((EQ.out.rdAt 0 rfl).mono EQ.out.bel.size), ((EQ.out.rdAt 1 rfl).mono EQ.out.bel.size), ((EQ.out.rdAt 2 rfl).mono EQ.out.bel.size)⟩ (Nat.le_refl _) (by have := BtL.out; omega) (by have := BtD.out; omega) (by have := BtX.out; omega)).mono ?_
        rintro e w16 ⟨v0, v1, v2, rfl, ho, hb⟩
        obtain ⟨b21, d21, rfl, -⟩ := ints_form ho.rows.1.rd
        obtain ⟨b22, d22, rfl, -⟩ := ints_form ho.rows.2.1.rd
        obtain ⟨b23, d23, rfl, -⟩ := ints_form ho.rows.2.2.rd
        replace EB := Lib.hid (EB.out.add hb ho)
        clear hb ho
        clear EQ c10 c11 c12 c00 c01 c02
        obtain ⟨-, -, -, -, -, -, -, -, -, c10, c11, c12, c00, c01, c02, -⟩ := EB.out.st.cells
        (try clear t0 t1 t2 f0 f1 f2)
        obtain ⟨-, t0, t1, t2, fr, -, -⟩ := EB.out.bx
        have f0 := fr 0
        have f1 := fr 1
        have f2 := fr 2
        clear fr
        go_wp2_with fail
        refine hK.out _ _ (by (try dsimp only); exact ⟨c10, c11, c12, c00, c01, c02⟩) (fun hHeld => ?_)
        clear hK K
        try simp only [Act.put, List.getElem_toArray, List.getElem_cons_succ, List.getElem_cons_zero, List.setIfInBounds_toArray, List.set_cons_zero, List.set_cons_succ]
        refine wpAnyH_ready (rs := [6]) (by kernel_rfl) (by simp) ?_
        refine AllReadyH.cons rfl (fun K hK => ?_) AllReadyH.nil
        go_simp
        go_at_call 47
        have EQ := Lib.hid EB.out.st
        refine (diagonal_impl ⟨(EQ.out.rowAt 0 0 rfl rfl), (EQ.out.rowAt 0 1 rfl rfl), (EQ.out.rowAt 0 2 rfl rfl)⟩ (Nat.le_refl _) ⟨(by have := BtL.out; omega), (by have := BtD.out; omega), (by have := BtX.out; omega)⟩ HhI.out).mono ?_
        rw [← HGL.out, ← HGD.out, ← HGX.out, ← HOK.out]
        rintro e w17 ⟨v0, v1, v2, rfl, ho, hb⟩
        obtain ⟨b24, d24, rfl, -⟩ := ints_form ho.rows.1.rd
        obtain ⟨b25, d25, rfl, -⟩ := ints_form ho.rows.2.1.rd
        obtain ⟨b26, d26, rfl, -⟩ := ints_form ho.rows.2.2.rd
        replace EB := Lib.hid (EB.out.add hb ho)
        clear hb ho
        clear EQ c10 c11 c12 c00 c01 c02
        obtain ⟨-, -, -, -, -, -, -, -, -, c10, c11, c12, c00, c01, c02, -⟩ := EB.out.st.cells
        (try clear t0 t1 t2 f0 f1 f2)
        obtain ⟨-, t0, t1, t2, fr, -, -⟩ := EB.out.bx
        have f0 := fr 0
        have f1 := fr 1
        have f2 := fr 2
        clear fr
        go_wp2_with fail
        refine hK.out _ _ (by (try dsimp only); exact ⟨c10, c11, c12, c00, c01, c02⟩) (fun hHeld => ?_)
        clear hK K
        try simp only [Act.put, List.getElem_toArray, List.getElem_cons_succ, List.getElem_cons_zero, List.setIfInBounds_toArray, List.set_cons_zero, List.set_cons_succ]
        refine wpAnyH_take (i := 7) (v := ?_) rfl (by kernel_rfl) (by kernel_rfl) (by kernel_rfl) (fun _ _ _ h => h) (Or.inl ⟨by rfl, ?_⟩) (by assumption) ?_
        rotate_left
        · intro w hSw; (try dsimp only at hSw); go_simp <;> with_reducible rfl
        try simp only [Act.put, List.getElem_toArray, List.getElem_cons_succ, List.getElem_cons_zero, List.setIfInBounds_toArray, List.set_cons_zero, List.set_cons_succ]
        refine wpAnyH_take (i := 8) (v := ?_) rfl (by kernel_rfl) (by kernel_rfl) (by kernel_rfl) (fun _ _ _ h => h) (Or.inl ⟨by rfl, ?_⟩) (by assumption) ?_
        rotate_left
        · intro w hSw; (try dsimp only at hSw); go_simp <;> with_reducible rfl
        try simp only [Act.put, List.getElem_toArray, List.getElem_cons_succ, List.getElem_cons_zero, List.setIfInBounds_toArray, List.set_cons_zero, List.set_cons_succ]
        refine wpAnyH_take (i := 9) (v := ?_) rfl (by kernel_rfl) (by kernel_rfl) (by kernel_rfl) (fun _ _ _ h => h) (Or.inl ⟨by rfl, ?_⟩) (by assumption) ?_
        rotate_left
        · intro w hSw; (try dsimp only at hSw); go_simp <;> with_reducible rfl
        try simp only [Act.put, List.getElem_toArray, List.getElem_cons_succ, List.getElem_cons_zero, List.setIfInBounds_toArray, List.set_cons_zero, List.set_cons_succ]
        refine wpAnyH_ready (rs := [11]) (by kernel_rfl) (by simp) ?_
        refine AllReadyH.cons rfl (fun K hK => ?_) AllReadyH.nil
        go_simp
        refine hK.out _ _ (by (try dsimp only); exact ⟨EB.out.cell3 _ _ _ 9 rfl, EB.out.cell3 _ _ _ 10 rfl, EB.out.cell3 _ _ _ 11 rfl, EB.out.cell3 _ _ _ 12 rfl, EB.out.cell3 _ _ _ 13 rfl, EB.out.cell3 _ _ _ 14 rfl⟩) (fun hHeld => ?_)
        clear hK K
        try simp only [Act.put, List.getElem_toArray, List.getElem_cons_succ, List.getElem_cons_zero, List.setIfInBounds_toArray, List.set_cons_zero, List.set_cons_succ]
        refine wpAnyH_take (i := 12) (v := ?_) rfl (by kernel_rfl) (by kernel_rfl) (by kernel_rfl) (fun _ _ _ h => h) (Or.inl ⟨by rfl, ?_⟩) (by assumption) ?_
        rotate_left
        · intro w hSw; (try dsimp only at hSw); go_simp <;> with_reducible rfl
        try simp only [Act.put, List.getElem_toArray, List.getElem_cons_succ, List.getElem_cons_zero, List.setIfInBounds_toArray, List.set_cons_zero, List.set_cons_succ]
        refine wpAnyH_done (by kernel_rfl) ?_ _
        go_wp2_with fail
        go_meet
        exact ⟨_, _, _, _, _, _, _, _, _, rfl, rfl, Lib.hid ((EB.out.put _ _ _).subL HOL.out (List.Sublist.cons_cons _ (List.Sublist.cons _ (List.Sublist.refl _))))⟩
    · go_simp
      refine hK.out _ _ (by (try dsimp only); first | exact ⟨EC.out.cellA _ 9 rfl, EC.out.cellA _ 10 rfl, EC.out.cellA _ 11 rfl, EC.out.cellA _ 12 rfl, EC.out.cellA _ 13 rfl, EC.out.cellA _ 14 rfl⟩ | fail) (fun hHeld => ?_)
      have EB := Lib.hid ((StB.new EP.out 49).step (Below.drew (Below.refl _ _)))
      try simp only [World.size_alloc] at EB HOL
      clear EC c10 c11 c12 c00 c01 c02
      obtain ⟨-, -, -, -, -, -, -, -, -, c10, c11, c12, c00, c01, c02, -⟩ := EB.out.st.cells
      (try clear t0 t1 t2 f0 f1 f2)
      obtain ⟨-, t0, t1, t2, fr, -, -⟩ := EB.out.bx
      have f0 := fr 0
      have f1 := fr 1
      have f2 := fr 2
      clear fr
      clear hK K
      try simp only [Act.put, List.getElem_toArray, List.getElem_cons_succ, List.getElem_cons_zero, List.setIfInBounds_toArray, List.set_cons_zero, List.set_cons_succ]
      refine wpAnyH_ready (rs := [1]) (by kernel_rfl) (by simp) ?_
      refine AllReadyH.cons rfl (fun K hK => ?_) AllReadyH.nil
      go_simp
      go_at_call 36
      have EQ := Lib.hid EB.out.st
      refine (to_ring rk rp rn _).mono ?_
      rintro e w15 ⟨rfl, hb⟩
      replace EB := Lib.hid (EB.out.step hb)
      clear hb
      clear EQ c10 c11 c12 c00 c01 c02
      obtain ⟨-, -, -, -, -, -, -, -, -, c10, c11, c12, c00, c01, c02, -⟩ := EB.out.st.cells
      (try clear t0 t1 t2 f0 f1 f2)
      obtain ⟨-, t0, t1, t2, fr, -, -⟩ := EB.out.bx
      have f0 := fr 0
      have f1 := fr 1
      have f2 := fr 2
      clear fr
      go_wp2_with fail
      refine hK.out _ _ (by (try dsimp only); exact ⟨c10, c11, c12, c00, c01, c02⟩) (fun hHeld => ?_)
      clear hK K
      try simp only [Act.put, List.getElem_toArray, List.getElem_cons_succ, List.getElem_cons_zero, List.setIfInBounds_toArray, List.set_cons_zero, List.set_cons_succ]
      refine wpAnyH_ready (rs := [3]) (by kernel_rfl) (by simp) ?_
      refine AllReadyH.cons rfl (fun K hK => ?_) AllReadyH.nil
      go_simp
      go_at_call 37
      have EQ := Lib.hid EB.out.st
      refine (to_ten ⟨((EQ.out.rdAt 0 rfl).mono EQ.out.bel.size), ((EQ.out.rdAt 1 rfl).mono EQ.out.bel.size), ((EQ.out.rdAt 2 rfl).mono EQ.out.bel.size)⟩ (Nat.le_refl _) (by have := BtL.out; omega) (by have := BtD.out; omega) (by have := BtX.out; omega)).mono ?_
      rintro e w16 ⟨v0, v1, v2, rfl, ho, hb⟩
      obtain ⟨b21, d21, rfl, -⟩ := ints_form ho.rows.1.rd
      obtain ⟨b22, d22, rfl, -⟩ := ints_form ho.rows.2.1.rd
      obtain ⟨b23, d23, rfl, -⟩ := ints_form ho.rows.2.2.rd
      replace EB := Lib.hid (EB.out.add hb ho)
      clear hb ho
      clear EQ c10 c11 c12 c00 c01 c02
      obtain ⟨-, -, -, -, -, -, -, -, -, c10, c11, c12, c00, c01, c02, -⟩ := EB.out.st.cells
      (try clear t0 t1 t2 f0 f1 f2)
      obtain ⟨-, t0, t1, t2, fr, -, -⟩ := EB.out.bx
      have f0 := fr 0
      have f1 := fr 1
      have f2 := fr 2
      clear fr
      go_wp2_with fail
      refine hK.out _ _ (by (try dsimp only); exact ⟨c10, c11, c12, c00, c01, c02⟩) (fun hHeld => ?_)
      clear hK K
      try simp only [Act.put, List.getElem_toArray, List.getElem_cons_succ, List.getElem_cons_zero, List.setIfInBounds_toArray, List.set_cons_zero, List.set_cons_succ]
      refine wpAnyH_ready (rs := [6]) (by kernel_rfl) (by simp) ?_
      refine AllReadyH.cons rfl (fun K hK => ?_) AllReadyH.nil
      go_simp
      go_at_call 47
      have EQ := Lib.hid EB.out.st
      refine (diagonal_impl ⟨(EQ.out.rowAt 0 0 rfl rfl), (EQ.out.rowAt 0 1 rfl rfl), (EQ.out.rowAt 0 2 rfl rfl)⟩ (Nat.le_refl _) ⟨(by have := BtL.out; omega), (by have := BtD.out; omega), (by have := BtX.out; omega)⟩ HhI.out).mono ?_
      rw [← HGL.out, ← HGD.out, ← HGX.out, ← HOK.out]
      rintro e w17 ⟨v0, v1, v2, rfl, ho, hb⟩
      obtain ⟨b24, d24, rfl, -⟩ := ints_form ho.rows.1.rd
      obtain ⟨b25, d25, rfl, -⟩ := ints_form ho.rows.2.1.rd
      obtain ⟨b26, d26, rfl, -⟩ := ints_form ho.rows.2.2.rd
      replace EB := Lib.hid (EB.out.add hb ho)
      clear hb ho
      clear EQ c10 c11 c12 c00 c01 c02
      obtain ⟨-, -, -, -, -, -, -, -, -, c10, c11, c12, c00, c01, c02, -⟩ := EB.out.st.cells
      (try clear t0 t1 t2 f0 f1 f2)
      obtain ⟨-, t0, t1, t2, fr, -, -⟩ := EB.out.bx
      have f0 := fr 0
      have f1 := fr 1
      have f2 := fr 2
      clear fr
      go_wp2_with fail
      refine hK.out _ _ (by (try dsimp only); exact ⟨c10, c11, c12, c00, c01, c02⟩) (fun hHeld => ?_)
      clear hK K
      try simp only [Act.put, List.getElem_toArray, List.getElem_cons_succ, List.getElem_cons_zero, List.setIfInBounds_toArray, List.set_cons_zero, List.set_cons_succ]
      refine wpAnyH_take (i := 7) (v := ?_) rfl (by kernel_rfl) (by kernel_rfl) (by kernel_rfl) (fun _ _ _ h => h) (Or.inl ⟨by rfl, ?_⟩) (by assumption) ?_
      rotate_left
      · intro w hSw; (try dsimp only at hSw); go_simp <;> with_reducible rfl
      try simp only [Act.put, List.getElem_toArray, List.getElem_cons_succ, List.getElem_cons_zero, List.setIfInBounds_toArray, List.set_cons_zero, List.set_cons_succ]
      refine wpAnyH_take (i := 8) (v := ?_) rfl (by kernel_rfl) (by kernel_rfl) (by kernel_rfl) (fun _ _ _ h => h) (Or.inl ⟨by rfl, ?_⟩) (by assumption) ?_
      rotate_left
      · intro w hSw; (try dsimp only at hSw); go_simp <;> with_reducible rfl
      try simp only [Act.put, List.getElem_toArray, List.getElem_cons_succ, List.getElem_cons_zero, List.setIfInBounds_toArray, List.set_cons_zero, List.set_cons_succ]
      refine wpAnyH_take (i := 9) (v := ?_) rfl (by kernel_rfl) (by kernel_rfl) (by kernel_rfl) (fun _ _ _ h => h) (Or.inl ⟨by rfl, ?_⟩) (by assumption) ?_
      rotate_left
      · intro w hSw; (try dsimp only at hSw); go_simp <;> with_reducible rfl
      try simp only [Act.put, List.getElem_toArray, List.getElem_cons_succ, List.getElem_cons_zero, List.setIfInBounds_toArray, List.set_cons_zero, List.set_cons_succ]
      refine wpAnyH_ready (rs := [11]) (by kernel_rfl) (by simp) ?_
      refine AllReadyH.cons rfl (fun K hK => ?_) AllReadyH.nil
      go_simp
      refine hK.out _ _ (by (try dsimp only); exact ⟨EB.out.cell3 _ _ _ 9 rfl, EB.out.cell3 _ _ _ 10 rfl, EB.out.cell3 _ _ _ 11 rfl, EB.out.cell3 _ _ _ 12 rfl, EB.out.cell3 _ _ _ 13 rfl, EB.out.cell3 _ _ _ 14 rfl⟩) (fun hHeld => ?_)
      clear hK K
      try simp only [Act.put, List.getElem_toArray, List.getElem_cons_succ, List.getElem_cons_zero, List.setIfInBounds_toArray, List.set_cons_zero, List.set_cons_succ]
      refine wpAnyH_take (i := 12) (v := ?_) rfl (by kernel_rfl) (by kernel_rfl) (by kernel_rfl) (fun _ _ _ h => h) (Or.inl ⟨by rfl, ?_⟩) (by assumption) ?_
      rotate_left
      · intro w hSw; (try dsimp only at hSw); go_simp <;> with_reducible rfl
      try simp only [Act.put, List.getElem_toArray, List.getElem_cons_succ, List.getElem_cons_zero, List.setIfInBounds_toArray, List.set_cons_zero, List.set_cons_succ]
      refine wpAnyH_done (by kernel_rfl) ?_ _
      go_wp2_with fail
      go_meet
      exact ⟨_, _, _, _, _, _, _, _, _, rfl, rfl, Lib.hid ((EB.out.put _ _ _).subL HOL.out (List.Sublist.cons_cons _ (List.Sublist.cons _ (List.Sublist.refl _))))⟩
  obtain ⟨bq24, lo24, hi24, b27, d27, b28, d28, b29, d29, rfl, rfl, E21⟩ := hcut
  have hOL := HOL.out
  subst hOL
  clear HOL EC
  obtain ⟨c50, c51, c52, -, -, -, -, -, -, c20, c21, c22, -, -, -, -, -, -, -⟩ := E21.out.cells
  go_wp2_with fail
  refine (eq_ten ⟨(E21.out.rowAt 0 0 rfl rfl), (E21.out.rowAt 0 1 rfl rfl), (E21.out.rowAt 0 2 rfl rfl)⟩ ⟨(E21.out.rowAt 4 0 rfl rfl), (E21.out.rowAt 4 1 rfl rfl), (E21.out.rowAt 4 2 rfl rfl)⟩ (Nat.le_refl _) (Nat.le_refl _) ⟨(by have := HGLL.out; omega), (by have := HGLD.out; omega), (by have := HGLX.out; omega)⟩).mono ?_
  rintro e w18 ⟨rfl, hb⟩
  have E22 := Lib.hid (E21.out.step hb)
  clear hb
  clear c50 c51 c52 c20 c21 c22
  obtain ⟨-, -, -, c40, c41, c42, -, -, -, -, -, -, -, -, -, -, -, -, -⟩ := E22.out.cells
  go_wp2_with fail
  refine (helds_ten (s := 1) rfl ⟨(E22.out.rowAt 2 0 rfl rfl), (E22.out.rowAt 2 1 rfl rfl), (E22.out.rowAt 2 2 rfl rfl)⟩ (Nat.le_refl _) (by have := HGLL.out; omega) (by have := HGLD.out; omega) (by have := HGLX.out; omega) (by omega)).mono ?_
  rw [← M1.out]
  rintro e w19 ⟨rfl, hb⟩
  have E23 := Lib.hid (E22.out.step hb)
  clear hb
  clear c40 c41 c42
  go_wp2
  go_ret
  exact ⟨rfl, E23.out.bel⟩

theorem law_diagonal_tensor (rk rp rn : Int)  (ia : Int) (ib : Int) {vtL : Value} {tL : List Int} {vtD : Value} {tD : List Int} {vtX : Value} {tX : List Int} (w : World) (htL : Rd w.heap.size w vtL (ints tL)) (ltL : tL.length ≤ 281474976710656) (htD : Rd w.heap.size w vtD (ints tD)) (ltD : tD.length ≤ 281474976710656) (htX : Rd w.heap.size w vtX (ints tX)) (ltX : tX.length ≤ 281474976710656) (hI : allI tL) :
    Calls Try.prog 11 #[ringV rk rp rn, tenV vtL vtD vtX, .int .i64 ia, .int .i64 ib] w fun e w' => e = .returned (.bool true) ∧ Below w.heap.size w w' := by
  obtain ⟨atL, ctL, rfl, -⟩ := ints_form htL
  obtain ⟨atD, ctD, rfl, -⟩ := ints_form htD
  obtain ⟨atX, ctX, rfl, -⟩ := ints_form htX
  exact law_diagonal_tensor_small rk rp rn  ia ib atL ctL tL atD ctD tD atX ctX tX w (Lib.hid htL) (Lib.hid htD) (Lib.hid htX)  ltL ltD ltX hI
end Go.Proofs.Ytgbmacppgaopfaa
