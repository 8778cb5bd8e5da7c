
/- The law FnExactSplitLabel, walked. -/
import Derived.Test.YtgdkllhgaikpnaaSplitSpec
import Derived.Test.YtgdkllhgaikpnaaRegLen
import Derived.Test.YtgdkllhgaikpnaaSplitImpl
import Derived.Test.YtgdkllhgaikpnaaBx
import Derived.Deep.RegionHeld3
import Derived.Deep.DeepCutAuto
namespace Go.Proofs.Ytgdkllhgaikpnaa
set_option maxRecDepth 20000
open Go.RowKit

set_option maxHeartbeats 400000 in
theorem law_split_label_big0 (rk rp rn : Int)  (ia : Int)   (atL : Option Addr) (ctL : Nat) (tL : List Int) (atD : Option Addr) (ctD : Nat) (tD : List Int) (atX : Option Addr) (ctX : Nat) (tX : List Int) (ax : Option Addr) (cx : Nat) (x : List Int) (au : Option Addr) (cu : Nat) (u : List Int) (w : World)  (hb : 1048576 < x.length) (hc : x.length ≤ 281474976710656) :
    Calls Try.prog 5 #[ringV rk rp rn, tenV (.slice atL tL.length ctL) (.slice atD tD.length ctD) (.slice atX tX.length ctX), .int .i64 ia, .slice ax x.length cx, .slice au u.length cu] w fun e w' => e = .returned (.bool true) ∧ Below w.heap.size w w' := by
  go_enter Try.func5, Try.ntmps5
  go_wp2
  go_ret
  exact ⟨rfl, ((Below.refl _ _).alloc (Nat.le_refl _) _).alloc (by simp; try omega) _⟩

set_option maxHeartbeats 400000 in
theorem law_split_label_big1 (rk rp rn : Int)  (ia : Int)   (atL : Option Addr) (ctL : Nat) (tL : List Int) (atD : Option Addr) (ctD : Nat) (tD : List Int) (atX : Option Addr) (ctX : Nat) (tX : List Int) (ax : Option Addr) (cx : Nat) (x : List Int) (au : Option Addr) (cu : Nat) (u : List Int) (w : World) (sx : x.length ≤ 1048576) (hb : 1048576 < u.length) (hc : u.length ≤ 281474976710656) :
    Calls Try.prog 5 #[ringV rk rp rn, tenV (.slice atL tL.length ctL) (.slice atD tD.length ctD) (.slice atX tX.length ctX), .int .i64 ia, .slice ax x.length cx, .slice au u.length cu] w fun e w' => e = .returned (.bool true) ∧ Below w.heap.size w w' := by
  go_enter Try.func5, Try.ntmps5
  go_wp2
  go_ret
  exact ⟨rfl, ((Below.refl _ _).alloc (Nat.le_refl _) _).alloc (by simp; try omega) _⟩

set_option maxHeartbeats 64000000 in
theorem law_split_label_small (rk rp rn : Int)  (ia : Int)   (atL : Option Addr) (ctL : Nat) (tL : List Int) (atD : Option Addr) (ctD : Nat) (tD : List Int) (atX : Option Addr) (ctX : Nat) (tX : List Int) (ax : Option Addr) (cx : Nat) (x : List Int) (au : Option Addr) (cu : Nat) (u : List Int) (w : World) (RtL : Hid (Rd w.heap.size w (.slice atL tL.length ctL) (ints tL))) (RtD : Hid (Rd w.heap.size w (.slice atD tD.length ctD) (ints tD))) (RtX : Hid (Rd w.heap.size w (.slice atX tX.length ctX) (ints tX))) (Rx : Hid (Rd w.heap.size w (.slice ax x.length cx) (ints x))) (Ru : Hid (Rd w.heap.size w (.slice au u.length cu) (ints u))) (sx : x.length ≤ 1048576) (su : u.length ≤ 1048576) (ztL : tL.length ≤ 281474976710656) (ztD : tD.length ≤ 281474976710656) (ztX : tX.length ≤ 281474976710656) (hI : allI tL) (hJ : allI x) :
    Calls Try.prog 5 #[ringV rk rp rn, tenV (.slice atL tL.length ctL) (.slice atD tD.length ctD) (.slice atX tX.length ctX), .int .i64 ia, .slice ax x.length cx, .slice au u.length cu] w fun e w' => e = .returned (.bool true) ∧ Below w.heap.size w w' := by
  obtain ⟨GL, hGL⟩ : ∃ G : List Int, G = if regB rk rp rn tL tD tX [ia] x u = true then restL [ia] tL ++ x else [] := ⟨_, rfl⟩
  have HGLL : Hid (GL.length ≤ 17592186044416) := Lib.hid (by rw [hGL]; exact Nat.le_trans (reg_len_L _ _ _ _ _ _ _ _ _) (by omega))
  have HGL := Lib.hid hGL
  clear hGL
  obtain ⟨GD, hGD⟩ : ∃ G : List Int, G = if regB rk rp rn tL tD tX [ia] x u = true then dimsVia tL tD (restL [ia] tL) ++ u else [] := ⟨_, rfl⟩
  have HGLD : Hid (GD.length ≤ 17592186044416) := Lib.hid (by rw [hGD]; exact Nat.le_trans (reg_len_D _ _ _ _ _ _ _ _ _) (by omega))
  have HGD := Lib.hid hGD
  clear hGD
  obtain ⟨GX, hGX⟩ : ∃ G : List Int, G = if regB rk rp rn tL tD tX [ia] x u = true then regX rk rn tL tD tX [ia] else [] := ⟨_, rfl⟩
  have HGLX : Hid (GX.length ≤ 17592186044416) := Lib.hid (by rw [hGX]; exact Nat.le_trans (reg_len_X _ _ _ _ _ _ _ _ _) (by omega))
  have HGX := Lib.hid hGX
  clear hGX
  obtain ⟨ok, hok⟩ : ∃ b : Bool, b = regB rk rp rn tL tD tX [ia] x u := ⟨_, rfl⟩
  have HOK := Lib.hid hok
  clear hok
  have hbb : (ok != ok) = false := by cases ok <;> rfl
  have HhI := Lib.hid hI
  clear hI
  have HhJ := Lib.hid hJ
  clear hJ
  have BtL : Hid (tL.length ≤ 281474976710656) := Lib.hid (by omega)
  have BtD : Hid (tD.length ≤ 281474976710656) := Lib.hid (by omega)
  have BtX : Hid (tX.length ≤ 281474976710656) := Lib.hid (by omega)
  have Bx : Hid (x.length ≤ 281474976710656) := Lib.hid (by omega)
  have Bu : Hid (u.length ≤ 281474976710656) := Lib.hid (by omega)
  have E0 := Lib.hid (St.start w (R := [(.slice atL tL.length ctL, tL), (.slice atD tD.length ctD, tD), (.slice atX tX.length ctX, tX), (.slice ax x.length cx, x), (.slice au u.length cu, u)]) (by intro r hr; simp only [List.mem_cons, List.not_mem_nil, or_false] at hr; rcases hr with rfl | rfl | rfl | rfl | rfl <;> first | exact RtL.out | exact RtD.out | exact RtX.out | exact Rx.out | exact Ru.out))
  have E0 := Lib.hid (E0.out.box3 (.int .i64 rk) (.int .i64 rp) (.int .i64 rn) 23)
  have E0 := Lib.hid (E0.out.box3 (.slice atL tL.length ctL) (.slice atD tD.length ctD) (.slice atX tX.length ctX) 40)
  simp only [World.size_alloc] at E0
  clear RtL RtD RtX Rx Ru
  go_enter Try.func5, Try.ntmps5
  obtain ⟨c10, c11, c12, -, -, -, -⟩ := E0.out.cells
  go_wp2_with fail
  refine (sz_ten_full atL tL.length ctL atD tD.length ctD atX tX.length ctX 1048576 _ (by omega) (by omega) BtL.out BtD.out BtX.out).mono ?_
  rintro e w1 ⟨z, rfl, hz, hb⟩
  have E1 := Lib.hid (E0.out.step hb)
  clear hb
  rcases hz with rfl | ⟨hz0, hz1⟩
  case inl => go_wp2; go_ret; exact ⟨rfl, E1.out.bel⟩
  have qz : ¬ z < 0 := by omega
  have hzb : z ≤ 1048576 := by omega
  have BtL : Hid (tL.length ≤ 1048576) := Lib.hid (by omega)
  have BtD : Hid (tD.length ≤ 1048576) := Lib.hid (by omega)
  have BtX : Hid (tX.length ≤ 1048576) := Lib.hid (by omega)
  clear hz1
  clear c10 c11 c12
  go_upto_region 9 with fail
  have EC := E1
  obtain ⟨OL, HOL⟩ := St.letter EC
  go_cut [12, 13] (fun sv o13 wx => ∃ (bq9 lo9 hi9 : Nat) (b8 : Option Addr) (d8 : Nat) (b9 : Option Addr) (d9 : Nat) (b10 : Option Addr) (d10 : Nat), o13 = .bool ok ∧ sv = .pointer (some ⟨bq9, 0, none⟩) ∧ Hid (St w wx [(bq9, 0, .slice b8 GL.length d8), (bq9, 1, .slice b9 GD.length d9), (bq9, 2, .slice b10 GX.length d10), (w.heap.size + 1, 0, .slice atL tL.length ctL), (w.heap.size + 1, 1, .slice atD tD.length ctD), (w.heap.size + 1, 2, .slice atX tX.length ctX), (w.heap.size, 0, .int .i64 rk), (w.heap.size, 1, .int .i64 rp), (w.heap.size, 2, .int .i64 rn)] [(.slice atL tL.length ctL, tL), (.slice atD tD.length ctD, tD), (.slice atX tX.length ctX, tX), (.slice ax x.length cx, x), (.slice au u.length cu, u)] ((lo9, hi9, [(.slice b8 GL.length d8, GL), (.slice b9 GD.length d9, GD), (.slice b10 GX.length d10, GX)]) :: OL)))
  case first =>
    have EP := EC
    have EC := Lib.hid EC.out.drew
    obtain ⟨c10, c11, c12, c00, c01, c02, -⟩ := EC.out.cells
    refine wp_region_held_drew (S := fun w' => w'.cell? ⟨w.heap.size + 1, 0, none⟩ = some (.slice atL tL.length ctL) ∧ w'.cell? ⟨w.heap.size + 1, 1, none⟩ = some (.slice atD tD.length ctD) ∧ w'.cell? ⟨w.heap.size + 1, 2, none⟩ = some (.slice atX tX.length ctX) ∧ w'.cell? ⟨w.heap.size, 0, none⟩ = some (.int .i64 rk) ∧ w'.cell? ⟨w.heap.size, 1, none⟩ = some (.int .i64 rp) ∧ w'.cell? ⟨w.heap.size, 2, none⟩ = some (.int .i64 rn)) (by kernel_rfl) (by (try dsimp only); exact ⟨c10, c11, c12, c00, c01, c02⟩) (fun hHeld => ?_)
    refine wpAnyH_take (i := 0) (v := ?_) rfl (by kernel_rfl) (by kernel_rfl) (by kernel_rfl) (fun _ _ _ h => h) (Or.inl ⟨by rfl, ?_⟩) (by assumption) ?_
    rotate_left
    · intro w hSw; (try dsimp only at hSw); go_simp <;> with_reducible rfl
    try simp only [Act.put, List.getElem_toArray, List.getElem_cons_zero, List.setIfInBounds_toArray, List.set_cons_zero, List.set_cons_succ]
    refine wpAnyH_take (i := 2) (v := ?_) rfl (by kernel_rfl) (by kernel_rfl) (by kernel_rfl) (fun _ _ _ h => h) (Or.inl ⟨by rfl, ?_⟩) (by assumption) ?_
    rotate_left
    · intro w hSw; (try dsimp only at hSw); go_simp <;> with_reducible rfl
    try simp only [Act.put, List.getElem_toArray, List.getElem_cons_succ, List.getElem_cons_zero, List.setIfInBounds_toArray, List.set_cons_zero, List.set_cons_succ]
    refine wpAnyH_take (i := 4) (v := ?_) rfl (by kernel_rfl) (by kernel_rfl) (by kernel_rfl) (fun _ _ _ h => h) (Or.inl ⟨by rfl, ?_⟩) (by assumption) ?_
    rotate_left
    · intro w hSw; (try dsimp only at hSw); go_simp <;> with_reducible rfl
    try simp only [Act.put, List.getElem_toArray, List.getElem_cons_succ, List.getElem_cons_zero, List.setIfInBounds_toArray, List.set_cons_zero, List.set_cons_succ]
    refine wpAnyH_take (i := 5) (v := ?_) rfl (by kernel_rfl) (by kernel_rfl) (by kernel_rfl) (fun _ _ _ h => h) (Or.inl ⟨by rfl, ?_⟩) (by assumption) ?_
    rotate_left
    · intro w hSw; (try dsimp only at hSw); go_simp <;> with_reducible rfl
    try simp only [Act.put, List.getElem_toArray, List.getElem_cons_succ, List.getElem_cons_zero, List.setIfInBounds_toArray, List.set_cons_zero, List.set_cons_succ]
    refine wpAnyH_take (i := 7) (v := ?_) rfl (by kernel_rfl) (by kernel_rfl) (by kernel_rfl) (fun _ _ _ h => h) (Or.inl ⟨by rfl, ?_⟩) (by assumption) ?_
    rotate_left
    · intro w hSw; (try dsimp only at hSw); go_simp <;> with_reducible rfl
    try simp only [Act.put, List.getElem_toArray, List.getElem_cons_succ, List.getElem_cons_zero, List.setIfInBounds_toArray, List.set_cons_zero, List.set_cons_succ]
    refine wpAnyH_ready (rs := [1, 13]) (by kernel_rfl) (by simp) ?_
    refine AllReadyH.cons rfl (fun K hK => ?_) (AllReadyH.cons rfl (fun K hK => ?_) AllReadyH.nil)
    · go_simp
      go_at_call 9
      have EQ := EC
      refine (to_ring rk rp rn _).mono ?_
      rintro e w2 ⟨rfl, hb⟩
      replace EC := Lib.hid (EC.out.step hb)
      clear hb
      clear EQ c10 c11 c12 c00 c01 c02
      obtain ⟨c10, c11, c12, c00, c01, c02, -⟩ := EC.out.cells
      go_wp2_with fail
      refine hK.out _ _ (by (try dsimp only); exact ⟨c10, c11, c12, c00, c01, c02⟩) (fun hHeld => ?_)
      clear hK K
      try simp only [Act.put, List.getElem_toArray, List.getElem_cons_succ, List.getElem_cons_zero, List.setIfInBounds_toArray, List.set_cons_zero, List.set_cons_succ]
      refine wpAnyH_ready (rs := [3, 13]) (by kernel_rfl) (by simp) ?_
      refine AllReadyH.cons rfl (fun K hK => ?_) (AllReadyH.cons rfl (fun K hK => ?_) AllReadyH.nil)
      · go_simp
        go_at_call 19
        have EQ := EC
        refine (to_ten ⟨((EQ.out.rdAt 0 rfl).mono EQ.out.bel.size), ((EQ.out.rdAt 1 rfl).mono EQ.out.bel.size), ((EQ.out.rdAt 2 rfl).mono EQ.out.bel.size)⟩ (Nat.le_refl _) (by have := BtL.out; omega) (by have := BtD.out; omega) (by have := BtX.out; omega)).mono ?_
        rintro e w3 ⟨v0, v1, v2, rfl, ho, hb⟩
        obtain ⟨b0, d0, rfl, -⟩ := ints_form ho.rows.1.rd
        obtain ⟨b1, d1, rfl, -⟩ := ints_form ho.rows.2.1.rd
        obtain ⟨b2, d2, rfl, -⟩ := ints_form ho.rows.2.2.rd
        replace EC := Lib.hid (EC.out.grp hb ho)
        clear hb ho
        clear EQ c10 c11 c12 c00 c01 c02
        obtain ⟨c10, c11, c12, c00, c01, c02, -⟩ := EC.out.cells
        go_wp2_with fail
        refine hK.out _ _ (by (try dsimp only); exact ⟨c10, c11, c12, c00, c01, c02⟩) (fun hHeld => ?_)
        clear hK K
        try simp only [Act.put, List.getElem_toArray, List.getElem_cons_succ, List.getElem_cons_zero, List.setIfInBounds_toArray, List.set_cons_zero, List.set_cons_succ]
        refine wpAnyH_ready (rs := [6, 13]) (by kernel_rfl) (by simp) ?_
        refine AllReadyH.cons rfl (fun K hK => ?_) (AllReadyH.cons rfl (fun K hK => ?_) AllReadyH.nil)
        · go_simp
          go_at_call 20
          have EQ := EC
          refine (to_row ((EQ.out.rdAt 3 rfl).mono EQ.out.bel.size) (Nat.le_refl _) (by have := Bx.out; omega)).mono ?_
          rintro e w4 ⟨v, rfl, ho, hb⟩
          obtain ⟨b3, d3, rfl, -⟩ := ints_form ho.rd
          replace EC := Lib.hid (EC.out.grp hb (OwnG.one ho))
          clear hb ho
          clear EQ c10 c11 c12 c00 c01 c02
          obtain ⟨c10, c11, c12, c00, c01, c02, -⟩ := EC.out.cells
          go_wp2_with fail
          refine hK.out _ _ (by (try dsimp only); exact ⟨c10, c11, c12, c00, c01, c02⟩) (fun hHeld => ?_)
          clear hK K
          try simp only [Act.put, List.getElem_toArray, List.getElem_cons_succ, List.getElem_cons_zero, List.setIfInBounds_toArray, List.set_cons_zero, List.set_cons_succ]
          refine wpAnyH_ready (rs := [8, 13]) (by kernel_rfl) (by simp) ?_
          refine AllReadyH.cons rfl (fun K hK => ?_) (AllReadyH.cons rfl (fun K hK => ?_) AllReadyH.nil)
          · go_simp
            go_at_call 20
            have EQ := EC
            refine (to_row ((EQ.out.rdAt 4 rfl).mono EQ.out.bel.size) (Nat.le_refl _) (by have := Bu.out; omega)).mono ?_
            rintro e w5 ⟨v, rfl, ho, hb⟩
            obtain ⟨b4, d4, rfl, -⟩ := ints_form ho.rd
            replace EC := Lib.hid (EC.out.grp hb (OwnG.one ho))
            clear hb ho
            clear EQ c10 c11 c12 c00 c01 c02
            obtain ⟨c10, c11, c12, c00, c01, c02, -⟩ := EC.out.cells
            go_wp2_with fail
            refine hK.out _ _ (by (try dsimp only); exact ⟨c10, c11, c12, c00, c01, c02⟩) (fun hHeld => ?_)
            clear hK K
            try simp only [Act.put, List.getElem_toArray, List.getElem_cons_succ, List.getElem_cons_zero, List.setIfInBounds_toArray, List.set_cons_zero, List.set_cons_succ]
            refine wpAnyH_ready (rs := [9, 13]) (by kernel_rfl) (by simp) ?_
            refine AllReadyH.cons rfl (fun K hK => ?_) (AllReadyH.cons rfl (fun K hK => ?_) AllReadyH.nil)
            · go_simp
              go_at_call 24
              have EQ := EC
              refine (split_label_spec ⟨(EQ.out.rowAt 2 0 rfl rfl), (EQ.out.rowAt 2 1 rfl rfl), (EQ.out.rowAt 2 2 rfl rfl)⟩ (EQ.out.rowAt 1 0 rfl rfl) (EQ.out.rowAt 0 0 rfl rfl) (Nat.le_refl _) ⟨(by have := BtL.out; omega), (by have := BtD.out; omega), (by have := BtX.out; omega)⟩ sx su).mono ?_
              rw [← HGL.out, ← HGD.out, ← HGX.out, ← HOK.out]
              rintro e w6 ⟨v0, v1, v2, rfl, ho, hb⟩
              obtain ⟨b5, d5, rfl, -⟩ := ints_form ho.rows.1.rd
              obtain ⟨b6, d6, rfl, -⟩ := ints_form ho.rows.2.1.rd
              obtain ⟨b7, d7, rfl, -⟩ := ints_form ho.rows.2.2.rd
              replace EC := Lib.hid (EC.out.grp hb ho)
              clear hb ho
              clear EQ c10 c11 c12 c00 c01 c02
              obtain ⟨c10, c11, c12, c00, c01, c02, -⟩ := EC.out.cells
              go_wp2_with fail
              refine hK.out _ _ (by (try dsimp only); exact ⟨c10, c11, c12, c00, c01, c02⟩) (fun hHeld => ?_)
              clear hK K
              try simp only [Act.put, List.getElem_toArray, List.getElem_cons_succ, List.getElem_cons_zero, List.setIfInBounds_toArray, List.set_cons_zero, List.set_cons_succ]
              refine wpAnyH_take (i := 10) (v := ?_) rfl (by kernel_rfl) (by kernel_rfl) (by kernel_rfl) (fun _ _ _ h => h) (Or.inl ⟨by rfl, ?_⟩) (by assumption) ?_
              rotate_left
              · intro w hSw; (try dsimp only at hSw); go_simp <;> with_reducible rfl
              try simp only [Act.put, List.getElem_toArray, List.getElem_cons_succ, List.getElem_cons_zero, List.setIfInBounds_toArray, List.set_cons_zero, List.set_cons_succ]
              refine wpAnyH_take (i := 11) (v := ?_) rfl (by kernel_rfl) (by kernel_rfl) (by kernel_rfl) (fun _ _ _ h => h) (Or.inl ⟨by rfl, ?_⟩) (by assumption) ?_
              rotate_left
              · intro w hSw; (try dsimp only at hSw); go_simp <;> with_reducible rfl
              try simp only [Act.put, List.getElem_toArray, List.getElem_cons_succ, List.getElem_cons_zero, List.setIfInBounds_toArray, List.set_cons_zero, List.set_cons_succ]
              refine wpAnyH_take (i := 12) (v := ?_) rfl (by kernel_rfl) (by kernel_rfl) (by kernel_rfl) (fun _ _ _ h => h) (Or.inl ⟨by rfl, ?_⟩) (by assumption) ?_
              rotate_left
              · intro w hSw; (try dsimp only at hSw); go_simp <;> with_reducible rfl
              try simp only [Act.put, List.getElem_toArray, List.getElem_cons_succ, List.getElem_cons_zero, List.setIfInBounds_toArray, List.set_cons_zero, List.set_cons_succ]
              refine wpAnyH_ready (rs := [13]) (by kernel_rfl) (by simp) ?_
              refine AllReadyH.cons rfl (fun K hK => ?_) AllReadyH.nil
              go_simp
              refine hK.out _ _ (by (try dsimp only); first | exact ⟨EC.out.cellA _ 0 rfl, EC.out.cellA _ 1 rfl, EC.out.cellA _ 2 rfl, EC.out.cellA _ 3 rfl, EC.out.cellA _ 4 rfl, EC.out.cellA _ 5 rfl⟩ | fail) (fun hHeld => ?_)
              clear hK K
              try simp only [Act.put, List.getElem_toArray, List.getElem_cons_succ, List.getElem_cons_zero, List.setIfInBounds_toArray, List.set_cons_zero, List.set_cons_succ]
              refine wpAnyH_ready (rs := [14]) (by kernel_rfl) (by simp) ?_
              refine AllReadyH.cons rfl (fun K hK => ?_) AllReadyH.nil
              go_simp
              refine hK.out _ _ (by (try dsimp only); exact ⟨EC.out.cellA _ 0 rfl, EC.out.cellA _ 1 rfl, EC.out.cellA _ 2 rfl, EC.out.cellA _ 3 rfl, EC.out.cellA _ 4 rfl, EC.out.cellA _ 5 rfl⟩) (fun hHeld => ?_)
              clear hK K
              try simp only [Act.put, List.getElem_toArray, List.getElem_cons_succ, List.getElem_cons_zero, List.setIfInBounds_toArray, List.set_cons_zero, List.set_cons_succ]
              refine wpAnyH_take (i := 15) (v := ?_) rfl (by kernel_rfl) (by kernel_rfl) (by kernel_rfl) (fun _ _ _ h => h) (Or.inl ⟨by rfl, ?_⟩) (by assumption) ?_
              rotate_left
              · intro w hSw; (try dsimp only at hSw); go_simp <;> with_reducible rfl
              try simp only [Act.put, List.getElem_toArray, List.getElem_cons_succ, List.getElem_cons_zero, List.setIfInBounds_toArray, List.set_cons_zero, List.set_cons_succ]
              refine wpAnyH_done (by kernel_rfl) ?_ _
              go_wp2_with fail
              go_meet
              exact ⟨_, _, _, _, _, _, _, _, _, rfl, rfl, Lib.hid ((EC.out.box3 _ _ _ _).subL HOL.out (List.Sublist.cons_cons _ (List.Sublist.cons _ (List.Sublist.cons _ (List.Sublist.cons _ (List.Sublist.refl _))))))⟩
            · go_simp
              refine hK.out _ _ (by (try dsimp only); first | exact ⟨EC.out.cellA _ 0 rfl, EC.out.cellA _ 1 rfl, EC.out.cellA _ 2 rfl, EC.out.cellA _ 3 rfl, EC.out.cellA _ 4 rfl, EC.out.cellA _ 5 rfl⟩ | fail) (fun hHeld => ?_)
              have EB := Lib.hid (StB.new EC.out 28)
              try simp only [World.size_alloc] at EB HOL
              clear EC c10 c11 c12 c00 c01 c02
              obtain ⟨c10, c11, c12, c00, c01, c02, -⟩ := EB.out.st.cells
              (try clear t0 t1 t2 f0 f1 f2)
              obtain ⟨-, t0, t1, t2, fr, -, -⟩ := EB.out.bx
              have f0 := fr 0
              have f1 := fr 1
              have f2 := fr 2
              clear fr
              clear hK K
              try simp only [Act.put, List.getElem_toArray, List.getElem_cons_succ, List.getElem_cons_zero, List.setIfInBounds_toArray, List.set_cons_zero, List.set_cons_succ]
              refine wpAnyH_ready (rs := [9]) (by kernel_rfl) (by simp) ?_
              refine AllReadyH.cons rfl (fun K hK => ?_) AllReadyH.nil
              go_simp
              go_at_call 24
              have EQ := Lib.hid EB.out.st
              refine (split_label_spec ⟨(EQ.out.rowAt 2 0 rfl rfl), (EQ.out.rowAt 2 1 rfl rfl), (EQ.out.rowAt 2 2 rfl rfl)⟩ (EQ.out.rowAt 1 0 rfl rfl) (EQ.out.rowAt 0 0 rfl rfl) (Nat.le_refl _) ⟨(by have := BtL.out; omega), (by have := BtD.out; omega), (by have := BtX.out; omega)⟩ sx su).mono ?_
              rw [← HGL.out, ← HGD.out, ← HGX.out, ← HOK.out]
              rintro e w6 ⟨v0, v1, v2, rfl, ho, hb⟩
              obtain ⟨b5, d5, rfl, -⟩ := ints_form ho.rows.1.rd
              obtain ⟨b6, d6, rfl, -⟩ := ints_form ho.rows.2.1.rd
              obtain ⟨b7, d7, rfl, -⟩ := ints_form ho.rows.2.2.rd
              replace EB := Lib.hid (EB.out.add hb ho)
              clear hb ho
              clear EQ c10 c11 c12 c00 c01 c02
              obtain ⟨c10, c11, c12, c00, c01, c02, -⟩ := EB.out.st.cells
              (try clear t0 t1 t2 f0 f1 f2)
              obtain ⟨-, t0, t1, t2, fr, -, -⟩ := EB.out.bx
              have f0 := fr 0
              have f1 := fr 1
              have f2 := fr 2
              clear fr
              go_wp2_with fail
              refine hK.out _ _ (by (try dsimp only); exact ⟨c10, c11, c12, c00, c01, c02⟩) (fun hHeld => ?_)
              clear hK K
              try simp only [Act.put, List.getElem_toArray, List.getElem_cons_succ, List.getElem_cons_zero, List.setIfInBounds_toArray, List.set_cons_zero, List.set_cons_succ]
              refine wpAnyH_take (i := 10) (v := ?_) rfl (by kernel_rfl) (by kernel_rfl) (by kernel_rfl) (fun _ _ _ h => h) (Or.inl ⟨by rfl, ?_⟩) (by assumption) ?_
              rotate_left
              · intro w hSw; (try dsimp only at hSw); go_simp <;> with_reducible rfl
              try simp only [Act.put, List.getElem_toArray, List.getElem_cons_succ, List.getElem_cons_zero, List.setIfInBounds_toArray, List.set_cons_zero, List.set_cons_succ]
              refine wpAnyH_take (i := 11) (v := ?_) rfl (by kernel_rfl) (by kernel_rfl) (by kernel_rfl) (fun _ _ _ h => h) (Or.inl ⟨by rfl, ?_⟩) (by assumption) ?_
              rotate_left
              · intro w hSw; (try dsimp only at hSw); go_simp <;> with_reducible rfl
              try simp only [Act.put, List.getElem_toArray, List.getElem_cons_succ, List.getElem_cons_zero, List.setIfInBounds_toArray, List.set_cons_zero, List.set_cons_succ]
              refine wpAnyH_take (i := 12) (v := ?_) rfl (by kernel_rfl) (by kernel_rfl) (by kernel_rfl) (fun _ _ _ h => h) (Or.inl ⟨by rfl, ?_⟩) (by assumption) ?_
              rotate_left
              · intro w hSw; (try dsimp only at hSw); go_simp <;> with_reducible rfl
              try simp only [Act.put, List.getElem_toArray, List.getElem_cons_succ, List.getElem_cons_zero, List.setIfInBounds_toArray, List.set_cons_zero, List.set_cons_succ]
              refine wpAnyH_ready (rs := [14]) (by kernel_rfl) (by simp) ?_
              refine AllReadyH.cons rfl (fun K hK => ?_) AllReadyH.nil
              go_simp
              refine hK.out _ _ (by (try dsimp only); exact ⟨EB.out.cell3 _ _ _ 0 rfl, EB.out.cell3 _ _ _ 1 rfl, EB.out.cell3 _ _ _ 2 rfl, EB.out.cell3 _ _ _ 3 rfl, EB.out.cell3 _ _ _ 4 rfl, EB.out.cell3 _ _ _ 5 rfl⟩) (fun hHeld => ?_)
              clear hK K
              try simp only [Act.put, List.getElem_toArray, List.getElem_cons_succ, List.getElem_cons_zero, List.setIfInBounds_toArray, List.set_cons_zero, List.set_cons_succ]
              refine wpAnyH_take (i := 15) (v := ?_) rfl (by kernel_rfl) (by kernel_rfl) (by kernel_rfl) (fun _ _ _ h => h) (Or.inl ⟨by rfl, ?_⟩) (by assumption) ?_
              rotate_left
              · intro w hSw; (try dsimp only at hSw); go_simp <;> with_reducible rfl
              try simp only [Act.put, List.getElem_toArray, List.getElem_cons_succ, List.getElem_cons_zero, List.setIfInBounds_toArray, List.set_cons_zero, List.set_cons_succ]
              refine wpAnyH_done (by kernel_rfl) ?_ _
              go_wp2_with fail
              go_meet
              exact ⟨_, _, _, _, _, _, _, _, _, rfl, rfl, Lib.hid ((EB.out.put _ _ _).subL HOL.out (List.Sublist.cons_cons _ (List.Sublist.cons _ (List.Sublist.cons _ (List.Sublist.cons _ (List.Sublist.refl _))))))⟩
          · go_simp
            refine hK.out _ _ (by (try dsimp only); first | exact ⟨EC.out.cellA _ 0 rfl, EC.out.cellA _ 1 rfl, EC.out.cellA _ 2 rfl, EC.out.cellA _ 3 rfl, EC.out.cellA _ 4 rfl, EC.out.cellA _ 5 rfl⟩ | fail) (fun hHeld => ?_)
            have EB := Lib.hid (StB.new EC.out 28)
            try simp only [World.size_alloc] at EB HOL
            clear EC c10 c11 c12 c00 c01 c02
            obtain ⟨c10, c11, c12, c00, c01, c02, -⟩ := EB.out.st.cells
            (try clear t0 t1 t2 f0 f1 f2)
            obtain ⟨-, t0, t1, t2, fr, -, -⟩ := EB.out.bx
            have f0 := fr 0
            have f1 := fr 1
            have f2 := fr 2
            clear fr
            clear hK K
            try simp only [Act.put, List.getElem_toArray, List.getElem_cons_succ, List.getElem_cons_zero, List.setIfInBounds_toArray, List.set_cons_zero, List.set_cons_succ]
            refine wpAnyH_ready (rs := [8]) (by kernel_rfl) (by simp) ?_
            refine AllReadyH.cons rfl (fun K hK => ?_) AllReadyH.nil
            go_simp
            go_at_call 20
            have EQ := Lib.hid EB.out.st
            refine (to_row ((EQ.out.rdAt 4 rfl).mono EQ.out.bel.size) (Nat.le_refl _) (by have := Bu.out; omega)).mono ?_
            rintro e w5 ⟨v, rfl, ho, hb⟩
            obtain ⟨b4, d4, rfl, -⟩ := ints_form ho.rd
            replace EB := Lib.hid (EB.out.add hb (OwnG.one ho))
            clear hb ho
            clear EQ c10 c11 c12 c00 c01 c02
            obtain ⟨c10, c11, c12, c00, c01, c02, -⟩ := EB.out.st.cells
            (try clear t0 t1 t2 f0 f1 f2)
            obtain ⟨-, t0, t1, t2, fr, -, -⟩ := EB.out.bx
            have f0 := fr 0
            have f1 := fr 1
            have f2 := fr 2
            clear fr
            go_wp2_with fail
            refine hK.out _ _ (by (try dsimp only); exact ⟨c10, c11, c12, c00, c01, c02⟩) (fun hHeld => ?_)
            clear hK K
            try simp only [Act.put, List.getElem_toArray, List.getElem_cons_succ, List.getElem_cons_zero, List.setIfInBounds_toArray, List.set_cons_zero, List.set_cons_succ]
            refine wpAnyH_ready (rs := [9]) (by kernel_rfl) (by simp) ?_
            refine AllReadyH.cons rfl (fun K hK => ?_) AllReadyH.nil
            go_simp
            go_at_call 24
            have EQ := Lib.hid EB.out.st
            refine (split_label_spec ⟨(EQ.out.rowAt 2 0 rfl rfl), (EQ.out.rowAt 2 1 rfl rfl), (EQ.out.rowAt 2 2 rfl rfl)⟩ (EQ.out.rowAt 1 0 rfl rfl) (EQ.out.rowAt 0 0 rfl rfl) (Nat.le_refl _) ⟨(by have := BtL.out; omega), (by have := BtD.out; omega), (by have := BtX.out; omega)⟩ sx su).mono ?_
            rw [← HGL.out, ← HGD.out, ← HGX.out, ← HOK.out]
            rintro e w6 ⟨v0, v1, v2, rfl, ho, hb⟩
            obtain ⟨b5, d5, rfl, -⟩ := ints_form ho.rows.1.rd
            obtain ⟨b6, d6, rfl, -⟩ := ints_form ho.rows.2.1.rd
            obtain ⟨b7, d7, rfl, -⟩ := ints_form ho.rows.2.2.rd
            replace EB := Lib.hid (EB.out.add hb ho)
            clear hb ho
            clear EQ c10 c11 c12 c00 c01 c02
            obtain ⟨c10, c11, c12, c00, c01, c02, -⟩ := EB.out.st.cells
            (try clear t0 t1 t2 f0 f1 f2)
            obtain ⟨-, t0, t1, t2, fr, -, -⟩ := EB.out.bx
            have f0 := fr 0
            have f1 := fr 1
            have f2 := fr 2
            clear fr
            go_wp2_with fail
            refine hK.out _ _ (by (try dsimp only); exact ⟨c10, c11, c12, c00, c01, c02⟩) (fun hHeld => ?_)
            clear hK K
            try simp only [Act.put, List.getElem_toArray, List.getElem_cons_succ, List.getElem_cons_zero, List.setIfInBounds_toArray, List.set_cons_zero, List.set_cons_succ]
            refine wpAnyH_take (i := 10) (v := ?_) rfl (by kernel_rfl) (by kernel_rfl) (by kernel_rfl) (fun _ _ _ h => h) (Or.inl ⟨by rfl, ?_⟩) (by assumption) ?_
            rotate_left
            · intro w hSw; (try dsimp only at hSw); go_simp <;> with_reducible rfl
            try simp only [Act.put, List.getElem_toArray, List.getElem_cons_succ, List.getElem_cons_zero, List.setIfInBounds_toArray, List.set_cons_zero, List.set_cons_succ]
            refine wpAnyH_take (i := 11) (v := ?_) rfl (by kernel_rfl) (by kernel_rfl) (by kernel_rfl) (fun _ _ _ h => h) (Or.inl ⟨by rfl, ?_⟩) (by assumption) ?_
            rotate_left
            · intro w hSw; (try dsimp only at hSw); go_simp <;> with_reducible rfl
            try simp only [Act.put, List.getElem_toArray, List.getElem_cons_succ, List.getElem_cons_zero, List.setIfInBounds_toArray, List.set_cons_zero, List.set_cons_succ]
            refine wpAnyH_take (i := 12) (v := ?_) rfl (by kernel_rfl) (by kernel_rfl) (by kernel_rfl) (fun _ _ _ h => h) (Or.inl ⟨by rfl, ?_⟩) (by assumption) ?_
            rotate_left
            · intro w hSw; (try dsimp only at hSw); go_simp <;> with_reducible rfl
            try simp only [Act.put, List.getElem_toArray, List.getElem_cons_succ, List.getElem_cons_zero, List.setIfInBounds_toArray, List.set_cons_zero, List.set_cons_succ]
            refine wpAnyH_ready (rs := [14]) (by kernel_rfl) (by simp) ?_
            refine AllReadyH.cons rfl (fun K hK => ?_) AllReadyH.nil
            go_simp
            refine hK.out _ _ (by (try dsimp only); exact ⟨EB.out.cell3 _ _ _ 0 rfl, EB.out.cell3 _ _ _ 1 rfl, EB.out.cell3 _ _ _ 2 rfl, EB.out.cell3 _ _ _ 3 rfl, EB.out.cell3 _ _ _ 4 rfl, EB.out.cell3 _ _ _ 5 rfl⟩) (fun hHeld => ?_)
            clear hK K
            try simp only [Act.put, List.getElem_toArray, List.getElem_cons_succ, List.getElem_cons_zero, List.setIfInBounds_toArray, List.set_cons_zero, List.set_cons_succ]
            refine wpAnyH_take (i := 15) (v := ?_) rfl (by kernel_rfl) (by kernel_rfl) (by kernel_rfl) (fun _ _ _ h => h) (Or.inl ⟨by rfl, ?_⟩) (by assumption) ?_
            rotate_left
            · intro w hSw; (try dsimp only at hSw); go_simp <;> with_reducible rfl
            try simp only [Act.put, List.getElem_toArray, List.getElem_cons_succ, List.getElem_cons_zero, List.setIfInBounds_toArray, List.set_cons_zero, List.set_cons_succ]
            refine wpAnyH_done (by kernel_rfl) ?_ _
            go_wp2_with fail
            go_meet
            exact ⟨_, _, _, _, _, _, _, _, _, rfl, rfl, Lib.hid ((EB.out.put _ _ _).subL HOL.out (List.Sublist.cons_cons _ (List.Sublist.cons _ (List.Sublist.cons _ (List.Sublist.cons _ (List.Sublist.refl _))))))⟩
        · go_simp
          refine hK.out _ _ (by (try dsimp only); first | exact ⟨EC.out.cellA _ 0 rfl, EC.out.cellA _ 1 rfl, EC.out.cellA _ 2 rfl, EC.out.cellA _ 3 rfl, EC.out.cellA _ 4 rfl, EC.out.cellA _ 5 rfl⟩ | fail) (fun hHeld => ?_)
          have EB := Lib.hid (StB.new EC.out 28)
          try simp only [World.size_alloc] at EB HOL
          clear EC c10 c11 c12 c00 c01 c02
          obtain ⟨c10, c11, c12, c00, c01, c02, -⟩ := EB.out.st.cells
          (try clear t0 t1 t2 f0 f1 f2)
          obtain ⟨-, t0, t1, t2, fr, -, -⟩ := EB.out.bx
          have f0 := fr 0
          have f1 := fr 1
          have f2 := fr 2
          clear fr
          clear hK K
          try simp only [Act.put, List.getElem_toArray, List.getElem_cons_succ, List.getElem_cons_zero, List.setIfInBounds_toArray, List.set_cons_zero, List.set_cons_succ]
          refine wpAnyH_ready (rs := [6]) (by kernel_rfl) (by simp) ?_
          refine AllReadyH.cons rfl (fun K hK => ?_) AllReadyH.nil
          go_simp
          go_at_call 20
          have EQ := Lib.hid EB.out.st
          refine (to_row ((EQ.out.rdAt 3 rfl).mono EQ.out.bel.size) (Nat.le_refl _) (by have := Bx.out; omega)).mono ?_
          rintro e w4 ⟨v, rfl, ho, hb⟩
          obtain ⟨b3, d3, rfl, -⟩ := ints_form ho.rd
          replace EB := Lib.hid (EB.out.add hb (OwnG.one ho))
          clear hb ho
          clear EQ c10 c11 c12 c00 c01 c02
          obtain ⟨c10, c11, c12, c00, c01, c02, -⟩ := EB.out.st.cells
          (try clear t0 t1 t2 f0 f1 f2)
          obtain ⟨-, t0, t1, t2, fr, -, -⟩ := EB.out.bx
          have f0 := fr 0
          have f1 := fr 1
          have f2 := fr 2
          clear fr
          go_wp2_with fail
          refine hK.out _ _ (by (try dsimp only); exact ⟨c10, c11, c12, c00, c01, c02⟩) (fun hHeld => ?_)
          clear hK K
          try simp only [Act.put, List.getElem_toArray, List.getElem_cons_succ, List.getElem_cons_zero, List.setIfInBounds_toArray, List.set_cons_zero, List.set_cons_succ]
          refine wpAnyH_ready (rs := [8]) (by kernel_rfl) (by simp) ?_
          refine AllReadyH.cons rfl (fun K hK => ?_) AllReadyH.nil
          go_simp
          go_at_call 20
          have EQ := Lib.hid EB.out.st
          refine (to_row ((EQ.out.rdAt 4 rfl).mono EQ.out.bel.size) (Nat.le_refl _) (by have := Bu.out; omega)).mono ?_
          rintro e w5 ⟨v, rfl, ho, hb⟩
          obtain ⟨b4, d4, rfl, -⟩ := ints_form ho.rd
          replace EB := Lib.hid (EB.out.add hb (OwnG.one ho))
          clear hb ho
          clear EQ c10 c11 c12 c00 c01 c02
          obtain ⟨c10, c11, c12, c00, c01, c02, -⟩ := EB.out.st.cells
          (try clear t0 t1 t2 f0 f1 f2)
          obtain ⟨-, t0, t1, t2, fr, -, -⟩ := EB.out.bx
          have f0 := fr 0
          have f1 := fr 1
          have f2 := fr 2
          clear fr
          go_wp2_with fail
          refine hK.out _ _ (by (try dsimp only); exact ⟨c10, c11, c12, c00, c01, c02⟩) (fun hHeld => ?_)
          clear hK K
          try simp only [Act.put, List.getElem_toArray, List.getElem_cons_succ, List.getElem_cons_zero, List.setIfInBounds_toArray, List.set_cons_zero, List.set_cons_succ]
          refine wpAnyH_ready (rs := [9]) (by kernel_rfl) (by simp) ?_
          refine AllReadyH.cons rfl (fun K hK => ?_) AllReadyH.nil
          go_simp
          go_at_call 24
          have EQ := Lib.hid EB.out.st
          refine (split_label_spec ⟨(EQ.out.rowAt 2 0 rfl rfl), (EQ.out.rowAt 2 1 rfl rfl), (EQ.out.rowAt 2 2 rfl rfl)⟩ (EQ.out.rowAt 1 0 rfl rfl) (EQ.out.rowAt 0 0 rfl rfl) (Nat.le_refl _) ⟨(by have := BtL.out; omega), (by have := BtD.out; omega), (by have := BtX.out; omega)⟩ sx su).mono ?_
          rw [← HGL.out, ← HGD.out, ← HGX.out, ← HOK.out]
          rintro e w6 ⟨v0, v1, v2, rfl, ho, hb⟩
          obtain ⟨b5, d5, rfl, -⟩ := ints_form ho.rows.1.rd
          obtain ⟨b6, d6, rfl, -⟩ := ints_form ho.rows.2.1.rd
          obtain ⟨b7, d7, rfl, -⟩ := ints_form ho.rows.2.2.rd
          replace EB := Lib.hid (EB.out.add hb ho)
          clear hb ho
          clear EQ c10 c11 c12 c00 c01 c02
          obtain ⟨c10, c11, c12, c00, c01, c02, -⟩ := EB.out.st.cells
          (try clear t0 t1 t2 f0 f1 f2)
          obtain ⟨-, t0, t1, t2, fr, -, -⟩ := EB.out.bx
          have f0 := fr 0
          have f1 := fr 1
          have f2 := fr 2
          clear fr
          go_wp2_with fail
          refine hK.out _ _ (by (try dsimp only); exact ⟨c10, c11, c12, c00, c01, c02⟩) (fun hHeld => ?_)
          clear hK K
          try simp only [Act.put, List.getElem_toArray, List.getElem_cons_succ, List.getElem_cons_zero, List.setIfInBounds_toArray, List.set_cons_zero, List.set_cons_succ]
          refine wpAnyH_take (i := 10) (v := ?_) rfl (by kernel_rfl) (by kernel_rfl) (by kernel_rfl) (fun _ _ _ h => h) (Or.inl ⟨by rfl, ?_⟩) (by assumption) ?_
          rotate_left
          · intro w hSw; (try dsimp only at hSw); go_simp <;> with_reducible rfl
          try simp only [Act.put, List.getElem_toArray, List.getElem_cons_succ, List.getElem_cons_zero, List.setIfInBounds_toArray, List.set_cons_zero, List.set_cons_succ]
          refine wpAnyH_take (i := 11) (v := ?_) rfl (by kernel_rfl) (by kernel_rfl) (by kernel_rfl) (fun _ _ _ h => h) (Or.inl ⟨by rfl, ?_⟩) (by assumption) ?_
          rotate_left
          · intro w hSw; (try dsimp only at hSw); go_simp <;> with_reducible rfl
          try simp only [Act.put, List.getElem_toArray, List.getElem_cons_succ, List.getElem_cons_zero, List.setIfInBounds_toArray, List.set_cons_zero, List.set_cons_succ]
          refine wpAnyH_take (i := 12) (v := ?_) rfl (by kernel_rfl) (by kernel_rfl) (by kernel_rfl) (fun _ _ _ h => h) (Or.inl ⟨by rfl, ?_⟩) (by assumption) ?_
          rotate_left
          · intro w hSw; (try dsimp only at hSw); go_simp <;> with_reducible rfl
          try simp only [Act.put, List.getElem_toArray, List.getElem_cons_succ, List.getElem_cons_zero, List.setIfInBounds_toArray, List.set_cons_zero, List.set_cons_succ]
          refine wpAnyH_ready (rs := [14]) (by kernel_rfl) (by simp) ?_
          refine AllReadyH.cons rfl (fun K hK => ?_) AllReadyH.nil
          go_simp
          refine hK.out _ _ (by (try dsimp only); exact ⟨EB.out.cell3 _ _ _ 0 rfl, EB.out.cell3 _ _ _ 1 rfl, EB.out.cell3 _ _ _ 2 rfl, EB.out.cell3 _ _ _ 3 rfl, EB.out.cell3 _ _ _ 4 rfl, EB.out.cell3 _ _ _ 5 rfl⟩) (fun hHeld => ?_)
          clear hK K
          try simp only [Act.put, List.getElem_toArray, List.getElem_cons_succ, List.getElem_cons_zero, List.setIfInBounds_toArray, List.set_cons_zero, List.set_cons_succ]
          refine wpAnyH_take (i := 15) (v := ?_) rfl (by kernel_rfl) (by kernel_rfl) (by kernel_rfl) (fun _ _ _ h => h) (Or.inl ⟨by rfl, ?_⟩) (by assumption) ?_
          rotate_left
          · intro w hSw; (try dsimp only at hSw); go_simp <;> with_reducible rfl
          try simp only [Act.put, List.getElem_toArray, List.getElem_cons_succ, List.getElem_cons_zero, List.setIfInBounds_toArray, List.set_cons_zero, List.set_cons_succ]
          refine wpAnyH_done (by kernel_rfl) ?_ _
          go_wp2_with fail
          go_meet
          exact ⟨_, _, _, _, _, _, _, _, _, rfl, rfl, Lib.hid ((EB.out.put _ _ _).subL HOL.out (List.Sublist.cons_cons _ (List.Sublist.cons _ (List.Sublist.cons _ (List.Sublist.cons _ (List.Sublist.refl _))))))⟩
      · go_simp
        refine hK.out _ _ (by (try dsimp only); first | exact ⟨EC.out.cellA _ 0 rfl, EC.out.cellA _ 1 rfl, EC.out.cellA _ 2 rfl, EC.out.cellA _ 3 rfl, EC.out.cellA _ 4 rfl, EC.out.cellA _ 5 rfl⟩ | fail) (fun hHeld => ?_)
        have EB := Lib.hid (StB.new EC.out 28)
        try simp only [World.size_alloc] at EB HOL
        clear EC c10 c11 c12 c00 c01 c02
        obtain ⟨c10, c11, c12, c00, c01, c02, -⟩ := EB.out.st.cells
        (try clear t0 t1 t2 f0 f1 f2)
        obtain ⟨-, t0, t1, t2, fr, -, -⟩ := EB.out.bx
        have f0 := fr 0
        have f1 := fr 1
        have f2 := fr 2
        clear fr
        clear hK K
        try simp only [Act.put, List.getElem_toArray, List.getElem_cons_succ, List.getElem_cons_zero, List.setIfInBounds_toArray, List.set_cons_zero, List.set_cons_succ]
        refine wpAnyH_ready (rs := [3]) (by kernel_rfl) (by simp) ?_
        refine AllReadyH.cons rfl (fun K hK => ?_) AllReadyH.nil
        go_simp
        go_at_call 19
        have EQ := Lib.hid EB.out.st
        refine (to_ten ⟨((EQ.out.rdAt 0 rfl).mono EQ.out.bel.size), ((EQ.out.rdAt 1 rfl).mono EQ.out.bel.size), ((EQ.out.rdAt 2 rfl).mono EQ.out.bel.size)⟩ (Nat.le_refl _) (by have := BtL.out; omega) (by have := BtD.out; omega) (by have := BtX.out; omega)).mono ?_
        rintro e w3 ⟨v0, v1, v2, rfl, ho, hb⟩
        obtain ⟨b0, d0, rfl, -⟩ := ints_form ho.rows.1.rd
        obtain ⟨b1, d1, rfl, -⟩ := ints_form ho.rows.2.1.rd
        obtain ⟨b2, d2, rfl, -⟩ := ints_form ho.rows.2.2.rd
        replace EB := Lib.hid (EB.out.add hb ho)
        clear hb ho
        clear EQ c10 c11 c12 c00 c01 c02
        obtain ⟨c10, c11, c12, c00, c01, c02, -⟩ := EB.out.st.cells
        (try clear t0 t1 t2 f0 f1 f2)
        obtain ⟨-, t0, t1, t2, fr, -, -⟩ := EB.out.bx
        have f0 := fr 0
        have f1 := fr 1
        have f2 := fr 2
        clear fr
        go_wp2_with fail
        refine hK.out _ _ (by (try dsimp only); exact ⟨c10, c11, c12, c00, c01, c02⟩) (fun hHeld => ?_)
        clear hK K
        try simp only [Act.put, List.getElem_toArray, List.getElem_cons_succ, List.getElem_cons_zero, List.setIfInBounds_toArray, List.set_cons_zero, List.set_cons_succ]
        refine wpAnyH_ready (rs := [6]) (by kernel_rfl) (by simp) ?_
        refine AllReadyH.cons rfl (fun K hK => ?_) AllReadyH.nil
        go_simp
        go_at_call 20
        have EQ := Lib.hid EB.out.st
        refine (to_row ((EQ.out.rdAt 3 rfl).mono EQ.out.bel.size) (Nat.le_refl _) (by have := Bx.out; omega)).mono ?_
        rintro e w4 ⟨v, rfl, ho, hb⟩
        obtain ⟨b3, d3, rfl, -⟩ := ints_form ho.rd
        replace EB := Lib.hid (EB.out.add hb (OwnG.one ho))
        clear hb ho
        clear EQ c10 c11 c12 c00 c01 c02
        obtain ⟨c10, c11, c12, c00, c01, c02, -⟩ := EB.out.st.cells
        (try clear t0 t1 t2 f0 f1 f2)
        obtain ⟨-, t0, t1, t2, fr, -, -⟩ := EB.out.bx
        have f0 := fr 0
        have f1 := fr 1
        have f2 := fr 2
        clear fr
        go_wp2_with fail
        refine hK.out _ _ (by (try dsimp only); exact ⟨c10, c11, c12, c00, c01, c02⟩) (fun hHeld => ?_)
        clear hK K
        try simp only [Act.put, List.getElem_toArray, List.getElem_cons_succ, List.getElem_cons_zero, List.setIfInBounds_toArray, List.set_cons_zero, List.set_cons_succ]
        refine wpAnyH_ready (rs := [8]) (by kernel_rfl) (by simp) ?_
        refine AllReadyH.cons rfl (fun K hK => ?_) AllReadyH.nil
        go_simp
        go_at_call 20
        have EQ := Lib.hid EB.out.st
        refine (to_row ((EQ.out.rdAt 4 rfl).mono EQ.out.bel.size) (Nat.le_refl _) (by have := Bu.out; omega)).mono ?_
        rintro e w5 ⟨v, rfl, ho, hb⟩
        obtain ⟨b4, d4, rfl, -⟩ := ints_form ho.rd
        replace EB := Lib.hid (EB.out.add hb (OwnG.one ho))
        clear hb ho
        clear EQ c10 c11 c12 c00 c01 c02
        obtain ⟨c10, c11, c12, c00, c01, c02, -⟩ := EB.out.st.cells
        (try clear t0 t1 t2 f0 f1 f2)
        obtain ⟨-, t0, t1, t2, fr, -, -⟩ := EB.out.bx
        have f0 := fr 0
        have f1 := fr 1
        have f2 := fr 2
        clear fr
        go_wp2_with fail
        refine hK.out _ _ (by (try dsimp only); exact ⟨c10, c11, c12, c00, c01, c02⟩) (fun hHeld => ?_)
        clear hK K
        try simp only [Act.put, List.getElem_toArray, List.getElem_cons_succ, List.getElem_cons_zero, List.setIfInBounds_toArray, List.set_cons_zero, List.set_cons_succ]
        refine wpAnyH_ready (rs := [9]) (by kernel_rfl) (by simp) ?_
        refine AllReadyH.cons rfl (fun K hK => ?_) AllReadyH.nil
        go_simp
        go_at_call 24
        have EQ := Lib.hid EB.out.st
        refine (split_label_spec ⟨(EQ.out.rowAt 2 0 rfl rfl), (EQ.out.rowAt 2 1 rfl rfl), (EQ.out.rowAt 2 2 rfl rfl)⟩ (EQ.out.rowAt 1 0 rfl rfl) (EQ.out.rowAt 0 0 rfl rfl) (Nat.le_refl _) ⟨(by have := BtL.out; omega), (by have := BtD.out; omega), (by have := BtX.out; omega)⟩ sx su).mono ?_
        rw [← HGL.out, ← HGD.out, ← HGX.out, ← HOK.out]
        rintro e w6 ⟨v0, v1, v2, rfl, ho, hb⟩
        obtain ⟨b5, d5, rfl, -⟩ := ints_form ho.rows.1.rd
        obtain ⟨b6, d6, rfl, -⟩ := ints_form ho.rows.2.1.rd
        obtain ⟨b7, d7, rfl, -⟩ := ints_form ho.rows.2.2.rd
        replace EB := Lib.hid (EB.out.add hb ho)
        clear hb ho
        clear EQ c10 c11 c12 c00 c01 c02
        obtain ⟨c10, c11, c12, c00, c01, c02, -⟩ := EB.out.st.cells
        (try clear t0 t1 t2 f0 f1 f2)
        obtain ⟨-, t0, t1, t2, fr, -, -⟩ := EB.out.bx
        have f0 := fr 0
        have f1 := fr 1
        have f2 := fr 2
        clear fr
        go_wp2_with fail
        refine hK.out _ _ (by (try dsimp only); exact ⟨c10, c11, c12, c00, c01, c02⟩) (fun hHeld => ?_)
        clear hK K
        try simp only [Act.put, List.getElem_toArray, List.getElem_cons_succ, List.getElem_cons_zero, List.setIfInBounds_toArray, List.set_cons_zero, List.set_cons_succ]
        refine wpAnyH_take (i := 10) (v := ?_) rfl (by kernel_rfl) (by kernel_rfl) (by kernel_rfl) (fun _ _ _ h => h) (Or.inl ⟨by rfl, ?_⟩) (by assumption) ?_
        rotate_left
        · intro w hSw; (try dsimp only at hSw); go_simp <;> with_reducible rfl
        try simp only [Act.put, List.getElem_toArray, List.getElem_cons_succ, List.getElem_cons_zero, List.setIfInBounds_toArray, List.set_cons_zero, List.set_cons_succ]
        refine wpAnyH_take (i := 11) (v := ?_) rfl (by kernel_rfl) (by kernel_rfl) (by kernel_rfl) (fun _ _ _ h => h) (Or.inl ⟨by rfl, ?_⟩) (by assumption) ?_
        rotate_left
        · intro w hSw; (try dsimp only at hSw); go_simp <;> with_reducible rfl
        try simp only [Act.put, List.getElem_toArray, List.getElem_cons_succ, List.getElem_cons_zero, List.setIfInBounds_toArray, List.set_cons_zero, List.set_cons_succ]
        refine wpAnyH_take (i := 12) (v := ?_) rfl (by kernel_rfl) (by kernel_rfl) (by kernel_rfl) (fun _ _ _ h => h) (Or.inl ⟨by rfl, ?_⟩) (by assumption) ?_
        rotate_left
        · intro w hSw; (try dsimp only at hSw); go_simp <;> with_reducible rfl
        try simp only [Act.put, List.getElem_toArray, List.getElem_cons_succ, List.getElem_cons_zero, List.setIfInBounds_toArray, List.set_cons_zero, List.set_cons_succ]
        refine wpAnyH_ready (rs := [14]) (by kernel_rfl) (by simp) ?_
        refine AllReadyH.cons rfl (fun K hK => ?_) AllReadyH.nil
        go_simp
        refine hK.out _ _ (by (try dsimp only); exact ⟨EB.out.cell3 _ _ _ 0 rfl, EB.out.cell3 _ _ _ 1 rfl, EB.out.cell3 _ _ _ 2 rfl, EB.out.cell3 _ _ _ 3 rfl, EB.out.cell3 _ _ _ 4 rfl, EB.out.cell3 _ _ _ 5 rfl⟩) (fun hHeld => ?_)
        clear hK K
        try simp only [Act.put, List.getElem_toArray, List.getElem_cons_succ, List.getElem_cons_zero, List.setIfInBounds_toArray, List.set_cons_zero, List.set_cons_succ]
        refine wpAnyH_take (i := 15) (v := ?_) rfl (by kernel_rfl) (by kernel_rfl) (by kernel_rfl) (fun _ _ _ h => h) (Or.inl ⟨by rfl, ?_⟩) (by assumption) ?_
        rotate_left
        · intro w hSw; (try dsimp only at hSw); go_simp <;> with_reducible rfl
        try simp only [Act.put, List.getElem_toArray, List.getElem_cons_succ, List.getElem_cons_zero, List.setIfInBounds_toArray, List.set_cons_zero, List.set_cons_succ]
        refine wpAnyH_done (by kernel_rfl) ?_ _
        go_wp2_with fail
        go_meet
        exact ⟨_, _, _, _, _, _, _, _, _, rfl, rfl, Lib.hid ((EB.out.put _ _ _).subL HOL.out (List.Sublist.cons_cons _ (List.Sublist.cons _ (List.Sublist.cons _ (List.Sublist.cons _ (List.Sublist.refl _))))))⟩
    · go_simp
      refine hK.out _ _ (by (try dsimp only); first | exact ⟨EC.out.cellA _ 0 rfl, EC.out.cellA _ 1 rfl, EC.out.cellA _ 2 rfl, EC.out.cellA _ 3 rfl, EC.out.cellA _ 4 rfl, EC.out.cellA _ 5 rfl⟩ | fail) (fun hHeld => ?_)
      have EB := Lib.hid ((StB.new EP.out 28).step (Below.drew (Below.refl _ _)))
      try simp only [World.size_alloc] at EB HOL
      clear EC c10 c11 c12 c00 c01 c02
      obtain ⟨c10, c11, c12, c00, c01, c02, -⟩ := EB.out.st.cells
      (try clear t0 t1 t2 f0 f1 f2)
      obtain ⟨-, t0, t1, t2, fr, -, -⟩ := EB.out.bx
      have f0 := fr 0
      have f1 := fr 1
      have f2 := fr 2
      clear fr
      clear hK K
      try simp only [Act.put, List.getElem_toArray, List.getElem_cons_succ, List.getElem_cons_zero, List.setIfInBounds_toArray, List.set_cons_zero, List.set_cons_succ]
      refine wpAnyH_ready (rs := [1]) (by kernel_rfl) (by simp) ?_
      refine AllReadyH.cons rfl (fun K hK => ?_) AllReadyH.nil
      go_simp
      go_at_call 9
      have EQ := Lib.hid EB.out.st
      refine (to_ring rk rp rn _).mono ?_
      rintro e w2 ⟨rfl, hb⟩
      replace EB := Lib.hid (EB.out.step hb)
      clear hb
      clear EQ c10 c11 c12 c00 c01 c02
      obtain ⟨c10, c11, c12, c00, c01, c02, -⟩ := EB.out.st.cells
      (try clear t0 t1 t2 f0 f1 f2)
      obtain ⟨-, t0, t1, t2, fr, -, -⟩ := EB.out.bx
      have f0 := fr 0
      have f1 := fr 1
      have f2 := fr 2
      clear fr
      go_wp2_with fail
      refine hK.out _ _ (by (try dsimp only); exact ⟨c10, c11, c12, c00, c01, c02⟩) (fun hHeld => ?_)
      clear hK K
      try simp only [Act.put, List.getElem_toArray, List.getElem_cons_succ, List.getElem_cons_zero, List.setIfInBounds_toArray, List.set_cons_zero, List.set_cons_succ]
      refine wpAnyH_ready (rs := [3]) (by kernel_rfl) (by simp) ?_
      refine AllReadyH.cons rfl (fun K hK => ?_) AllReadyH.nil
      go_simp
      go_at_call 19
      have EQ := Lib.hid EB.out.st
      refine (to_ten ⟨((EQ.out.rdAt 0 rfl).mono EQ.out.bel.size), ((EQ.out.rdAt 1 rfl).mono EQ.out.bel.size), ((EQ.out.rdAt 2 rfl).mono EQ.out.bel.size)⟩ (Nat.le_refl _) (by have := BtL.out; omega) (by have := BtD.out; omega) (by have := BtX.out; omega)).mono ?_
      rintro e w3 ⟨v0, v1, v2, rfl, ho, hb⟩
      obtain ⟨b0, d0, rfl, -⟩ := ints_form ho.rows.1.rd
      obtain ⟨b1, d1, rfl, -⟩ := ints_form ho.rows.2.1.rd
      obtain ⟨b2, d2, rfl, -⟩ := ints_form ho.rows.2.2.rd
      replace EB := Lib.hid (EB.out.add hb ho)
      clear hb ho
      clear EQ c10 c11 c12 c00 c01 c02
      obtain ⟨c10, c11, c12, c00, c01, c02, -⟩ := EB.out.st.cells
      (try clear t0 t1 t2 f0 f1 f2)
      obtain ⟨-, t0, t1, t2, fr, -, -⟩ := EB.out.bx
      have f0 := fr 0
      have f1 := fr 1
      have f2 := fr 2
      clear fr
      go_wp2_with fail
      refine hK.out _ _ (by (try dsimp only); exact ⟨c10, c11, c12, c00, c01, c02⟩) (fun hHeld => ?_)
      clear hK K
      try simp only [Act.put, List.getElem_toArray, List.getElem_cons_succ, List.getElem_cons_zero, List.setIfInBounds_toArray, List.set_cons_zero, List.set_cons_succ]
      refine wpAnyH_ready (rs := [6]) (by kernel_rfl) (by simp) ?_
      refine AllReadyH.cons rfl (fun K hK => ?_) AllReadyH.nil
      go_simp
      go_at_call 20
      have EQ := Lib.hid EB.out.st
      refine (to_row ((EQ.out.rdAt 3 rfl).mono EQ.out.bel.size) (Nat.le_refl _) (by have := Bx.out; omega)).mono ?_
      rintro e w4 ⟨v, rfl, ho, hb⟩
      obtain ⟨b3, d3, rfl, -⟩ := ints_form ho.rd
      replace EB := Lib.hid (EB.out.add hb (OwnG.one ho))
      clear hb ho
      clear EQ c10 c11 c12 c00 c01 c02
      obtain ⟨c10, c11, c12, c00, c01, c02, -⟩ := EB.out.st.cells
      (try clear t0 t1 t2 f0 f1 f2)
      obtain ⟨-, t0, t1, t2, fr, -, -⟩ := EB.out.bx
      have f0 := fr 0
      have f1 := fr 1
      have f2 := fr 2
      clear fr
      go_wp2_with fail
      refine hK.out _ _ (by (try dsimp only); exact ⟨c10, c11, c12, c00, c01, c02⟩) (fun hHeld => ?_)
      clear hK K
      try simp only [Act.put, List.getElem_toArray, List.getElem_cons_succ, List.getElem_cons_zero, List.setIfInBounds_toArray, List.set_cons_zero, List.set_cons_succ]
      refine wpAnyH_ready (rs := [8]) (by kernel_rfl) (by simp) ?_
      refine AllReadyH.cons rfl (fun K hK => ?_) AllReadyH.nil
      go_simp
      go_at_call 20
      have EQ := Lib.hid EB.out.st
      refine (to_row ((EQ.out.rdAt 4 rfl).mono EQ.out.bel.size) (Nat.le_refl _) (by have := Bu.out; omega)).mono ?_
      rintro e w5 ⟨v, rfl, ho, hb⟩
      obtain ⟨b4, d4, rfl, -⟩ := ints_form ho.rd
      replace EB := Lib.hid (EB.out.add hb (OwnG.one ho))
      clear hb ho
      clear EQ c10 c11 c12 c00 c01 c02
      obtain ⟨c10, c11, c12, c00, c01, c02, -⟩ := EB.out.st.cells
      (try clear t0 t1 t2 f0 f1 f2)
      obtain ⟨-, t0, t1, t2, fr, -, -⟩ := EB.out.bx
      have f0 := fr 0
      have f1 := fr 1
      have f2 := fr 2
      clear fr
      go_wp2_with fail
      refine hK.out _ _ (by (try dsimp only); exact ⟨c10, c11, c12, c00, c01, c02⟩) (fun hHeld => ?_)
      clear hK K
      try simp only [Act.put, List.getElem_toArray, List.getElem_cons_succ, List.getElem_cons_zero, List.setIfInBounds_toArray, List.set_cons_zero, List.set_cons_succ]
      refine wpAnyH_ready (rs := [9]) (by kernel_rfl) (by simp) ?_
      refine AllReadyH.cons rfl (fun K hK => ?_) AllReadyH.nil
      go_simp
      go_at_call 24
      have EQ := Lib.hid EB.out.st
      refine (split_label_spec ⟨(EQ.out.rowAt 2 0 rfl rfl), (EQ.out.rowAt 2 1 rfl rfl), (EQ.out.rowAt 2 2 rfl rfl)⟩ (EQ.out.rowAt 1 0 rfl rfl) (EQ.out.rowAt 0 0 rfl rfl) (Nat.le_refl _) ⟨(by have := BtL.out; omega), (by have := BtD.out; omega), (by have := BtX.out; omega)⟩ sx su).mono ?_
      rw [← HGL.out, ← HGD.out, ← HGX.out, ← HOK.out]
      rintro e w6 ⟨v0, v1, v2, rfl, ho, hb⟩
      obtain ⟨b5, d5, rfl, -⟩ := ints_form ho.rows.1.rd
      obtain ⟨b6, d6, rfl, -⟩ := ints_form ho.rows.2.1.rd
      obtain ⟨b7, d7, rfl, -⟩ := ints_form ho.rows.2.2.rd
      replace EB := Lib.hid (EB.out.add hb ho)
      clear hb ho
      clear EQ c10 c11 c12 c00 c01 c02
      obtain ⟨c10, c11, c12, c00, c01, c02, -⟩ := EB.out.st.cells
      (try clear t0 t1 t2 f0 f1 f2)
      obtain ⟨-, t0, t1, t2, fr, -, -⟩ := EB.out.bx
      have f0 := fr 0
      have f1 := fr 1
      have f2 := fr 2
      clear fr
      go_wp2_with fail
      refine hK.out _ _ (by (try dsimp only); exact ⟨c10, c11, c12, c00, c01, c02⟩) (fun hHeld => ?_)
      clear hK K
      try simp only [Act.put, List.getElem_toArray, List.getElem_cons_succ, List.getElem_cons_zero, List.setIfInBounds_toArray, List.set_cons_zero, List.set_cons_succ]
      refine wpAnyH_take (i := 10) (v := ?_) rfl (by kernel_rfl) (by kernel_rfl) (by kernel_rfl) (fun _ _ _ h => h) (Or.inl ⟨by rfl, ?_⟩) (by assumption) ?_
      rotate_left
      · intro w hSw; (try dsimp only at hSw); go_simp <;> with_reducible rfl
      try simp only [Act.put, List.getElem_toArray, List.getElem_cons_succ, List.getElem_cons_zero, List.setIfInBounds_toArray, List.set_cons_zero, List.set_cons_succ]
      refine wpAnyH_take (i := 11) (v := ?_) rfl (by kernel_rfl) (by kernel_rfl) (by kernel_rfl) (fun _ _ _ h => h) (Or.inl ⟨by rfl, ?_⟩) (by assumption) ?_
      rotate_left
      · intro w hSw; (try dsimp only at hSw); go_simp <;> with_reducible rfl
      try simp only [Act.put, List.getElem_toArray, List.getElem_cons_succ, List.getElem_cons_zero, List.setIfInBounds_toArray, List.set_cons_zero, List.set_cons_succ]
      refine wpAnyH_take (i := 12) (v := ?_) rfl (by kernel_rfl) (by kernel_rfl) (by kernel_rfl) (fun _ _ _ h => h) (Or.inl ⟨by rfl, ?_⟩) (by assumption) ?_
      rotate_left
      · intro w hSw; (try dsimp only at hSw); go_simp <;> with_reducible rfl
      try simp only [Act.put, List.getElem_toArray, List.getElem_cons_succ, List.getElem_cons_zero, List.setIfInBounds_toArray, List.set_cons_zero, List.set_cons_succ]
      refine wpAnyH_ready (rs := [14]) (by kernel_rfl) (by simp) ?_
      refine AllReadyH.cons rfl (fun K hK => ?_) AllReadyH.nil
      go_simp
      refine hK.out _ _ (by (try dsimp only); exact ⟨EB.out.cell3 _ _ _ 0 rfl, EB.out.cell3 _ _ _ 1 rfl, EB.out.cell3 _ _ _ 2 rfl, EB.out.cell3 _ _ _ 3 rfl, EB.out.cell3 _ _ _ 4 rfl, EB.out.cell3 _ _ _ 5 rfl⟩) (fun hHeld => ?_)
      clear hK K
      try simp only [Act.put, List.getElem_toArray, List.getElem_cons_succ, List.getElem_cons_zero, List.setIfInBounds_toArray, List.set_cons_zero, List.set_cons_succ]
      refine wpAnyH_take (i := 15) (v := ?_) rfl (by kernel_rfl) (by kernel_rfl) (by kernel_rfl) (fun _ _ _ h => h) (Or.inl ⟨by rfl, ?_⟩) (by assumption) ?_
      rotate_left
      · intro w hSw; (try dsimp only at hSw); go_simp <;> with_reducible rfl
      try simp only [Act.put, List.getElem_toArray, List.getElem_cons_succ, List.getElem_cons_zero, List.setIfInBounds_toArray, List.set_cons_zero, List.set_cons_succ]
      refine wpAnyH_done (by kernel_rfl) ?_ _
      go_wp2_with fail
      go_meet
      exact ⟨_, _, _, _, _, _, _, _, _, rfl, rfl, Lib.hid ((EB.out.put _ _ _).subL HOL.out (List.Sublist.cons_cons _ (List.Sublist.cons _ (List.Sublist.cons _ (List.Sublist.cons _ (List.Sublist.refl _))))))⟩
  obtain ⟨bq9, lo9, hi9, b8, d8, b9, d9, b10, d10, rfl, rfl, E7⟩ := hcut
  have hOL := HOL.out
  subst hOL
  clear HOL EC
  obtain ⟨-, -, -, c10, c11, c12, -, -, -, -⟩ := E7.out.cells
  go_wp2_with fail
  refine (to_ten ⟨((E7.out.rdAt 0 rfl).mono E7.out.bel.size), ((E7.out.rdAt 1 rfl).mono E7.out.bel.size), ((E7.out.rdAt 2 rfl).mono E7.out.bel.size)⟩ (Nat.le_refl _) (by have := BtL.out; omega) (by have := BtD.out; omega) (by have := BtX.out; omega)).mono ?_
  rintro e w7 ⟨v0, v1, v2, rfl, ho, hb⟩
  obtain ⟨b11, d11, rfl, -⟩ := ints_form ho.rows.1.rd
  obtain ⟨b12, d12, rfl, -⟩ := ints_form ho.rows.2.1.rd
  obtain ⟨b13, d13, rfl, -⟩ := ints_form ho.rows.2.2.rd
  have E8 := Lib.hid (E7.out.grp hb ho)
  clear hb ho
  have E9 := Lib.hid (E8.out.box3 (.slice b11 tL.length d11) (.slice b12 tD.length d12) (.slice b13 tX.length d13) 28)
  clear c10 c11 c12
  go_wp2_with fail
  refine (to_row ((E9.out.rdAt 3 rfl).mono E9.out.bel.size) (Nat.le_refl _) (by have := Bx.out; omega)).mono ?_
  rintro e w8 ⟨v, rfl, ho, hb⟩
  obtain ⟨b14, d14, rfl, -⟩ := ints_form ho.rd
  have E10 := Lib.hid (E9.out.grp hb (OwnG.one ho))
  clear hb ho
  go_wp2_with fail
  refine (to_row ((E10.out.rdAt 4 rfl).mono E10.out.bel.size) (Nat.le_refl _) (by have := Bu.out; omega)).mono ?_
  rintro e w9 ⟨v, rfl, ho, hb⟩
  obtain ⟨b15, d15, rfl, -⟩ := ints_form ho.rd
  have E11 := Lib.hid (E10.out.grp hb (OwnG.one ho))
  clear hb ho
  go_upto_region 13 with fail
  have EC := E11
  obtain ⟨OL, HOL⟩ := St.letter EC
  go_cut [17, 18] (fun sv o18 wx => ∃ (bq13 lo13 hi13 : Nat) (b19 : Option Addr) (d19 : Nat) (b20 : Option Addr) (d20 : Nat) (b21 : Option Addr) (d21 : Nat), o18 = .bool ok ∧ sv = .pointer (some ⟨bq13, 0, none⟩) ∧ Hid (St w wx [(bq13, 0, .slice b19 GL.length d19), (bq13, 1, .slice b20 GD.length d20), (bq13, 2, .slice b21 GX.length d21), (w7.heap.size, 0, .slice b11 tL.length d11), (w7.heap.size, 1, .slice b12 tD.length d12), (w7.heap.size, 2, .slice b13 tX.length d13), (bq9, 0, .slice b8 GL.length d8), (bq9, 1, .slice b9 GD.length d9), (bq9, 2, .slice b10 GX.length d10), (w.heap.size + 1, 0, .slice atL tL.length ctL), (w.heap.size + 1, 1, .slice atD tD.length ctD), (w.heap.size + 1, 2, .slice atX tX.length ctX), (w.heap.size, 0, .int .i64 rk), (w.heap.size, 1, .int .i64 rp), (w.heap.size, 2, .int .i64 rn)] [(.slice atL tL.length ctL, tL), (.slice atD tD.length ctD, tD), (.slice atX tX.length ctX, tX), (.slice ax x.length cx, x), (.slice au u.length cu, u)] ((lo13, hi13, [(.slice b19 GL.length d19, GL), (.slice b20 GD.length d20, GD), (.slice b21 GX.length d21, GX)]) :: OL)))
  case first =>
    have EP := EC
    have EC := Lib.hid EC.out.drew
    obtain ⟨c30, c31, c32, -, -, -, -, -, -, c00, c01, c02, -⟩ := EC.out.cells
    refine wp_region_held_drew (S := fun w' => w'.cell? ⟨w7.heap.size, 0, none⟩ = some (.slice b11 tL.length d11) ∧ w'.cell? ⟨w7.heap.size, 1, none⟩ = some (.slice b12 tD.length d12) ∧ w'.cell? ⟨w7.heap.size, 2, none⟩ = some (.slice b13 tX.length d13) ∧ w'.cell? ⟨w.heap.size, 0, none⟩ = some (.int .i64 rk) ∧ w'.cell? ⟨w.heap.size, 1, none⟩ = some (.int .i64 rp) ∧ w'.cell? ⟨w.heap.size, 2, none⟩ = some (.int .i64 rn)) (by kernel_rfl) (by (try dsimp only); exact ⟨c30, c31, c32, c00, c01, c02⟩) (fun hHeld => ?_)
    refine wpAnyH_take (i := 0) (v := ?_) rfl (by kernel_rfl) (by kernel_rfl) (by kernel_rfl) (fun _ _ _ h => h) (Or.inl ⟨by rfl, ?_⟩) (by assumption) ?_
    rotate_left
    · intro w hSw; (try dsimp only at hSw); go_simp <;> with_reducible rfl
    try simp only [Act.put, List.getElem_toArray, List.getElem_cons_zero, List.setIfInBounds_toArray, List.set_cons_zero, List.set_cons_succ]
    refine wpAnyH_take (i := 2) (v := ?_) rfl (by kernel_rfl) (by kernel_rfl) (by kernel_rfl) (fun _ _ _ h => h) (Or.inl ⟨by rfl, ?_⟩) (by assumption) ?_
    rotate_left
    · intro w hSw; (try dsimp only at hSw); go_simp <;> with_reducible rfl
    try simp only [Act.put, List.getElem_toArray, List.getElem_cons_succ, List.getElem_cons_zero, List.setIfInBounds_toArray, List.set_cons_zero, List.set_cons_succ]
    refine wpAnyH_take (i := 3) (v := ?_) rfl (by kernel_rfl) (by kernel_rfl) (by kernel_rfl) (fun _ _ _ h => h) (Or.inl ⟨by rfl, ?_⟩) (by assumption) ?_
    rotate_left
    · intro w hSw; (try dsimp only at hSw); go_simp <;> with_reducible rfl
    try simp only [Act.put, List.getElem_toArray, List.getElem_cons_succ, List.getElem_cons_zero, List.setIfInBounds_toArray, List.set_cons_zero, List.set_cons_succ]
    refine wpAnyH_take (i := 4) (v := ?_) rfl (by kernel_rfl) (by kernel_rfl) (by kernel_rfl) (fun _ _ _ h => h) (Or.inl ⟨by rfl, ?_⟩) (by assumption) ?_
    rotate_left
    · intro w hSw; (try dsimp only at hSw); go_simp <;> with_reducible rfl
    try simp only [Act.put, List.getElem_toArray, List.getElem_cons_succ, List.getElem_cons_zero, List.setIfInBounds_toArray, List.set_cons_zero, List.set_cons_succ]
    refine wpAnyH_take (i := 5) (v := ?_) rfl (by kernel_rfl) (by kernel_rfl) (by kernel_rfl) (fun _ _ _ h => h) (Or.inl ⟨by rfl, ?_⟩) (by assumption) ?_
    rotate_left
    · intro w hSw; (try dsimp only at hSw); go_simp <;> with_reducible rfl
    try simp only [Act.put, List.getElem_toArray, List.getElem_cons_succ, List.getElem_cons_zero, List.setIfInBounds_toArray, List.set_cons_zero, List.set_cons_succ]
    refine wpAnyH_ready (rs := [1, 10]) (by kernel_rfl) (by simp) ?_
    refine AllReadyH.cons rfl (fun K hK => ?_) (AllReadyH.cons rfl (fun K hK => ?_) AllReadyH.nil)
    · go_simp
      go_at_call 9
      have EQ := EC
      refine (to_ring rk rp rn _).mono ?_
      rintro e w10 ⟨rfl, hb⟩
      replace EC := Lib.hid (EC.out.step hb)
      clear hb
      clear EQ c30 c31 c32 c00 c01 c02
      obtain ⟨c30, c31, c32, -, -, -, -, -, -, c00, c01, c02, -⟩ := EC.out.cells
      go_wp2_with fail
      refine hK.out _ _ (by (try dsimp only); exact ⟨c30, c31, c32, c00, c01, c02⟩) (fun hHeld => ?_)
      clear hK K
      try simp only [Act.put, List.getElem_toArray, List.getElem_cons_succ, List.getElem_cons_zero, List.setIfInBounds_toArray, List.set_cons_zero, List.set_cons_succ]
      refine wpAnyH_ready (rs := [6, 10]) (by kernel_rfl) (by simp) ?_
      refine AllReadyH.cons rfl (fun K hK => ?_) (AllReadyH.cons rfl (fun K hK => ?_) AllReadyH.nil)
      · go_simp
        go_at_call 25
        have EQ := EC
        refine (split_label_impl ⟨(EQ.out.rowAt 2 0 rfl rfl), (EQ.out.rowAt 2 1 rfl rfl), (EQ.out.rowAt 2 2 rfl rfl)⟩ (EQ.out.rowAt 1 0 rfl rfl) (EQ.out.rowAt 0 0 rfl rfl) (Nat.le_refl _) ⟨(by have := BtL.out; omega), (by have := BtD.out; omega), (by have := BtX.out; omega)⟩ sx su HhI.out HhJ.out).mono ?_
        rw [← HGL.out, ← HGD.out, ← HGX.out, ← HOK.out]
        rintro e w11 ⟨v0, v1, v2, rfl, ho, hb⟩
        obtain ⟨b16, d16, rfl, -⟩ := ints_form ho.rows.1.rd
        obtain ⟨b17, d17, rfl, -⟩ := ints_form ho.rows.2.1.rd
        obtain ⟨b18, d18, rfl, -⟩ := ints_form ho.rows.2.2.rd
        replace EC := Lib.hid (EC.out.grp hb ho)
        clear hb ho
        clear EQ c30 c31 c32 c00 c01 c02
        obtain ⟨c30, c31, c32, -, -, -, -, -, -, c00, c01, c02, -⟩ := EC.out.cells
        go_wp2_with fail
        refine hK.out _ _ (by (try dsimp only); exact ⟨c30, c31, c32, c00, c01, c02⟩) (fun hHeld => ?_)
        clear hK K
        try simp only [Act.put, List.getElem_toArray, List.getElem_cons_succ, List.getElem_cons_zero, List.setIfInBounds_toArray, List.set_cons_zero, List.set_cons_succ]
        refine wpAnyH_take (i := 7) (v := ?_) rfl (by kernel_rfl) (by kernel_rfl) (by kernel_rfl) (fun _ _ _ h => h) (Or.inl ⟨by rfl, ?_⟩) (by assumption) ?_
        rotate_left
        · intro w hSw; (try dsimp only at hSw); go_simp <;> with_reducible rfl
        try simp only [Act.put, List.getElem_toArray, List.getElem_cons_succ, List.getElem_cons_zero, List.setIfInBounds_toArray, List.set_cons_zero, List.set_cons_succ]
        refine wpAnyH_take (i := 8) (v := ?_) rfl (by kernel_rfl) (by kernel_rfl) (by kernel_rfl) (fun _ _ _ h => h) (Or.inl ⟨by rfl, ?_⟩) (by assumption) ?_
        rotate_left
        · intro w hSw; (try dsimp only at hSw); go_simp <;> with_reducible rfl
        try simp only [Act.put, List.getElem_toArray, List.getElem_cons_succ, List.getElem_cons_zero, List.setIfInBounds_toArray, List.set_cons_zero, List.set_cons_succ]
        refine wpAnyH_take (i := 9) (v := ?_) rfl (by kernel_rfl) (by kernel_rfl) (by kernel_rfl) (fun _ _ _ h => h) (Or.inl ⟨by rfl, ?_⟩) (by assumption) ?_
        rotate_left
        · intro w hSw; (try dsimp only at hSw); go_simp <;> with_reducible rfl
        try simp only [Act.put, List.getElem_toArray, List.getElem_cons_succ, List.getElem_cons_zero, List.setIfInBounds_toArray, List.set_cons_zero, List.set_cons_succ]
        refine wpAnyH_ready (rs := [10]) (by kernel_rfl) (by simp) ?_
        refine AllReadyH.cons rfl (fun K hK => ?_) AllReadyH.nil
        go_simp
        refine hK.out _ _ (by (try dsimp only); first | exact ⟨EC.out.cellA _ 0 rfl, EC.out.cellA _ 1 rfl, EC.out.cellA _ 2 rfl, EC.out.cellA _ 9 rfl, EC.out.cellA _ 10 rfl, EC.out.cellA _ 11 rfl⟩ | fail) (fun hHeld => ?_)
        clear hK K
        try simp only [Act.put, List.getElem_toArray, List.getElem_cons_succ, List.getElem_cons_zero, List.setIfInBounds_toArray, List.set_cons_zero, List.set_cons_succ]
        refine wpAnyH_ready (rs := [11]) (by kernel_rfl) (by simp) ?_
        refine AllReadyH.cons rfl (fun K hK => ?_) AllReadyH.nil
        go_simp
        refine hK.out _ _ (by (try dsimp only); exact ⟨EC.out.cellA _ 0 rfl, EC.out.cellA _ 1 rfl, EC.out.cellA _ 2 rfl, EC.out.cellA _ 9 rfl, EC.out.cellA _ 10 rfl, EC.out.cellA _ 11 rfl⟩) (fun hHeld => ?_)
        clear hK K
        try simp only [Act.put, List.getElem_toArray, List.getElem_cons_succ, List.getElem_cons_zero, List.setIfInBounds_toArray, List.set_cons_zero, List.set_cons_succ]
        refine wpAnyH_take (i := 12) (v := ?_) rfl (by kernel_rfl) (by kernel_rfl) (by kernel_rfl) (fun _ _ _ h => h) (Or.inl ⟨by rfl, ?_⟩) (by assumption) ?_
        rotate_left
        · intro w hSw; (try dsimp only at hSw); go_simp <;> with_reducible rfl
        try simp only [Act.put, List.getElem_toArray, List.getElem_cons_succ, List.getElem_cons_zero, List.setIfInBounds_toArray, List.set_cons_zero, List.set_cons_succ]
        refine wpAnyH_done (by kernel_rfl) ?_ _
        go_wp2_with fail
        go_meet
        exact ⟨_, _, _, _, _, _, _, _, _, rfl, rfl, Lib.hid ((EC.out.box3 _ _ _ _).subL HOL.out (List.Sublist.cons_cons _ (List.Sublist.refl _)))⟩
      · go_simp
        refine hK.out _ _ (by (try dsimp only); first | exact ⟨EC.out.cellA _ 0 rfl, EC.out.cellA _ 1 rfl, EC.out.cellA _ 2 rfl, EC.out.cellA _ 9 rfl, EC.out.cellA _ 10 rfl, EC.out.cellA _ 11 rfl⟩ | fail) (fun hHeld => ?_)
        have EB := Lib.hid (StB.new EC.out 28)
        try simp only [World.size_alloc] at EB HOL
        clear EC c30 c31 c32 c00 c01 c02
        obtain ⟨c30, c31, c32, -, -, -, -, -, -, c00, c01, c02, -⟩ := EB.out.st.cells
        (try clear t0 t1 t2 f0 f1 f2)
        obtain ⟨-, t0, t1, t2, fr, -, -⟩ := EB.out.bx
        have f0 := fr 0
        have f1 := fr 1
        have f2 := fr 2
        clear fr
        clear hK K
        try simp only [Act.put, List.getElem_toArray, List.getElem_cons_succ, List.getElem_cons_zero, List.setIfInBounds_toArray, List.set_cons_zero, List.set_cons_succ]
        refine wpAnyH_ready (rs := [6]) (by kernel_rfl) (by simp) ?_
        refine AllReadyH.cons rfl (fun K hK => ?_) AllReadyH.nil
        go_simp
        go_at_call 25
        have EQ := Lib.hid EB.out.st
        refine (split_label_impl ⟨(EQ.out.rowAt 2 0 rfl rfl), (EQ.out.rowAt 2 1 rfl rfl), (EQ.out.rowAt 2 2 rfl rfl)⟩ (EQ.out.rowAt 1 0 rfl rfl) (EQ.out.rowAt 0 0 rfl rfl) (Nat.le_refl _) ⟨(by have := BtL.out; omega), (by have := BtD.out; omega), (by have := BtX.out; omega)⟩ sx su HhI.out HhJ.out).mono ?_
        rw [← HGL.out, ← HGD.out, ← HGX.out, ← HOK.out]
        rintro e w11 ⟨v0, v1, v2, rfl, ho, hb⟩
        obtain ⟨b16, d16, rfl, -⟩ := ints_form ho.rows.1.rd
        obtain ⟨b17, d17, rfl, -⟩ := ints_form ho.rows.2.1.rd
        obtain ⟨b18, d18, rfl, -⟩ := ints_form ho.rows.2.2.rd
        replace EB := Lib.hid (EB.out.add hb ho)
        clear hb ho
        clear EQ c30 c31 c32 c00 c01 c02
        obtain ⟨c30, c31, c32, -, -, -, -, -, -, c00, c01, c02, -⟩ := EB.out.st.cells
        (try clear t0 t1 t2 f0 f1 f2)
        obtain ⟨-, t0, t1, t2, fr, -, -⟩ := EB.out.bx
        have f0 := fr 0
        have f1 := fr 1
        have f2 := fr 2
        clear fr
        go_wp2_with fail
        refine hK.out _ _ (by (try dsimp only); exact ⟨c30, c31, c32, c00, c01, c02⟩) (fun hHeld => ?_)
        clear hK K
        try simp only [Act.put, List.getElem_toArray, List.getElem_cons_succ, List.getElem_cons_zero, List.setIfInBounds_toArray, List.set_cons_zero, List.set_cons_succ]
        refine wpAnyH_take (i := 7) (v := ?_) rfl (by kernel_rfl) (by kernel_rfl) (by kernel_rfl) (fun _ _ _ h => h) (Or.inl ⟨by rfl, ?_⟩) (by assumption) ?_
        rotate_left
        · intro w hSw; (try dsimp only at hSw); go_simp <;> with_reducible rfl
        try simp only [Act.put, List.getElem_toArray, List.getElem_cons_succ, List.getElem_cons_zero, List.setIfInBounds_toArray, List.set_cons_zero, List.set_cons_succ]
        refine wpAnyH_take (i := 8) (v := ?_) rfl (by kernel_rfl) (by kernel_rfl) (by kernel_rfl) (fun _ _ _ h => h) (Or.inl ⟨by rfl, ?_⟩) (by assumption) ?_
        rotate_left
        · intro w hSw; (try dsimp only at hSw); go_simp <;> with_reducible rfl
        try simp only [Act.put, List.getElem_toArray, List.getElem_cons_succ, List.getElem_cons_zero, List.setIfInBounds_toArray, List.set_cons_zero, List.set_cons_succ]
        refine wpAnyH_take (i := 9) (v := ?_) rfl (by kernel_rfl) (by kernel_rfl) (by kernel_rfl) (fun _ _ _ h => h) (Or.inl ⟨by rfl, ?_⟩) (by assumption) ?_
        rotate_left
        · intro w hSw; (try dsimp only at hSw); go_simp <;> with_reducible rfl
        try simp only [Act.put, List.getElem_toArray, List.getElem_cons_succ, List.getElem_cons_zero, List.setIfInBounds_toArray, List.set_cons_zero, List.set_cons_succ]
        refine wpAnyH_ready (rs := [11]) (by kernel_rfl) (by simp) ?_
        refine AllReadyH.cons rfl (fun K hK => ?_) AllReadyH.nil
        go_simp
        refine hK.out _ _ (by (try dsimp only); exact ⟨EB.out.cell3 _ _ _ 0 rfl, EB.out.cell3 _ _ _ 1 rfl, EB.out.cell3 _ _ _ 2 rfl, EB.out.cell3 _ _ _ 9 rfl, EB.out.cell3 _ _ _ 10 rfl, EB.out.cell3 _ _ _ 11 rfl⟩) (fun hHeld => ?_)
        clear hK K
        try simp only [Act.put, List.getElem_toArray, List.getElem_cons_succ, List.getElem_cons_zero, List.setIfInBounds_toArray, List.set_cons_zero, List.set_cons_succ]
        refine wpAnyH_take (i := 12) (v := ?_) rfl (by kernel_rfl) (by kernel_rfl) (by kernel_rfl) (fun _ _ _ h => h) (Or.inl ⟨by rfl, ?_⟩) (by assumption) ?_
        rotate_left
        · intro w hSw; (try dsimp only at hSw); go_simp <;> with_reducible rfl
        try simp only [Act.put, List.getElem_toArray, List.getElem_cons_succ, List.getElem_cons_zero, List.setIfInBounds_toArray, List.set_cons_zero, List.set_cons_succ]
        refine wpAnyH_done (by kernel_rfl) ?_ _
        go_wp2_with fail
        go_meet
        exact ⟨_, _, _, _, _, _, _, _, _, rfl, rfl, Lib.hid ((EB.out.put _ _ _).subL HOL.out (List.Sublist.cons_cons _ (List.Sublist.refl _)))⟩
    · go_simp
      refine hK.out _ _ (by (try dsimp only); first | exact ⟨EC.out.cellA _ 0 rfl, EC.out.cellA _ 1 rfl, EC.out.cellA _ 2 rfl, EC.out.cellA _ 9 rfl, EC.out.cellA _ 10 rfl, EC.out.cellA _ 11 rfl⟩ | fail) (fun hHeld => ?_)
      have EB := Lib.hid ((StB.new EP.out 28).step (Below.drew (Below.refl _ _)))
      try simp only [World.size_alloc] at EB HOL
      clear EC c30 c31 c32 c00 c01 c02
      obtain ⟨c30, c31, c32, -, -, -, -, -, -, c00, c01, c02, -⟩ := EB.out.st.cells
      (try clear t0 t1 t2 f0 f1 f2)
      obtain ⟨-, t0, t1, t2, fr, -, -⟩ := EB.out.bx
      have f0 := fr 0
      have f1 := fr 1
      have f2 := fr 2
      clear fr
      clear hK K
      try simp only [Act.put, List.getElem_toArray, List.getElem_cons_succ, List.getElem_cons_zero, List.setIfInBounds_toArray, List.set_cons_zero, List.set_cons_succ]
      refine wpAnyH_ready (rs := [1]) (by kernel_rfl) (by simp) ?_
      refine AllReadyH.cons rfl (fun K hK => ?_) AllReadyH.nil
      go_simp
      go_at_call 9
      have EQ := Lib.hid EB.out.st
      refine (to_ring rk rp rn _).mono ?_
      rintro e w10 ⟨rfl, hb⟩
      replace EB := Lib.hid (EB.out.step hb)
      clear hb
      clear EQ c30 c31 c32 c00 c01 c02
      obtain ⟨c30, c31, c32, -, -, -, -, -, -, c00, c01, c02, -⟩ := EB.out.st.cells
      (try clear t0 t1 t2 f0 f1 f2)
      obtain ⟨-, t0, t1, t2, fr, -, -⟩ := EB.out.bx
      have f0 := fr 0
      have f1 := fr 1
      have f2 := fr 2
      clear fr
      go_wp2_with fail
      refine hK.out _ _ (by (try dsimp only); exact ⟨c30, c31, c32, c00, c01, c02⟩) (fun hHeld => ?_)
      clear hK K
      try simp only [Act.put, List.getElem_toArray, List.getElem_cons_succ, List.getElem_cons_zero, List.setIfInBounds_toArray, List.set_cons_zero, List.set_cons_succ]
      refine wpAnyH_ready (rs := [6]) (by kernel_rfl) (by simp) ?_
      refine AllReadyH.cons rfl (fun K hK => ?_) AllReadyH.nil
      go_simp
      go_at_call 25
      have EQ := Lib.hid EB.out.st
      refine (split_label_impl ⟨(EQ.out.rowAt 2 0 rfl rfl), (EQ.out.rowAt 2 1 rfl rfl), (EQ.out.rowAt 2 2 rfl rfl)⟩ (EQ.out.rowAt 1 0 rfl rfl) (EQ.out.rowAt 0 0 rfl rfl) (Nat.le_refl _) ⟨(by have := BtL.out; omega), (by have := BtD.out; omega), (by have := BtX.out; omega)⟩ sx su HhI.out HhJ.out).mono ?_
      rw [← HGL.out, ← HGD.out, ← HGX.out, ← HOK.out]
      rintro e w11 ⟨v0, v1, v2, rfl, ho, hb⟩
      obtain ⟨b16, d16, rfl, -⟩ := ints_form ho.rows.1.rd
      obtain ⟨b17, d17, rfl, -⟩ := ints_form ho.rows.2.1.rd
      obtain ⟨b18, d18, rfl, -⟩ := ints_form ho.rows.2.2.rd
      replace EB := Lib.hid (EB.out.add hb ho)
      clear hb ho
      clear EQ c30 c31 c32 c00 c01 c02
      obtain ⟨c30, c31, c32, -, -, -, -, -, -, c00, c01, c02, -⟩ := EB.out.st.cells
      (try clear t0 t1 t2 f0 f1 f2)
      obtain ⟨-, t0, t1, t2, fr, -, -⟩ := EB.out.bx
      have f0 := fr 0
      have f1 := fr 1
      have f2 := fr 2
      clear fr
      go_wp2_with fail
      refine hK.out _ _ (by (try dsimp only); exact ⟨c30, c31, c32, c00, c01, c02⟩) (fun hHeld => ?_)
      clear hK K
      try simp only [Act.put, List.getElem_toArray, List.getElem_cons_succ, List.getElem_cons_zero, List.setIfInBounds_toArray, List.set_cons_zero, List.set_cons_succ]
      refine wpAnyH_take (i := 7) (v := ?_) rfl (by kernel_rfl) (by kernel_rfl) (by kernel_rfl) (fun _ _ _ h => h) (Or.inl ⟨by rfl, ?_⟩) (by assumption) ?_
      rotate_left
      · intro w hSw; (try dsimp only at hSw); go_simp <;> with_reducible rfl
      try simp only [Act.put, List.getElem_toArray, List.getElem_cons_succ, List.getElem_cons_zero, List.setIfInBounds_toArray, List.set_cons_zero, List.set_cons_succ]
      refine wpAnyH_take (i := 8) (v := ?_) rfl (by kernel_rfl) (by kernel_rfl) (by kernel_rfl) (fun _ _ _ h => h) (Or.inl ⟨by rfl, ?_⟩) (by assumption) ?_
      rotate_left
      · intro w hSw; (try dsimp only at hSw); go_simp <;> with_reducible rfl
      try simp only [Act.put, List.getElem_toArray, List.getElem_cons_succ, List.getElem_cons_zero, List.setIfInBounds_toArray, List.set_cons_zero, List.set_cons_succ]
      refine wpAnyH_take (i := 9) (v := ?_) rfl (by kernel_rfl) (by kernel_rfl) (by kernel_rfl) (fun _ _ _ h => h) (Or.inl ⟨by rfl, ?_⟩) (by assumption) ?_
      rotate_left
      · intro w hSw; (try dsimp only at hSw); go_simp <;> with_reducible rfl
      try simp only [Act.put, List.getElem_toArray, List.getElem_cons_succ, List.getElem_cons_zero, List.setIfInBounds_toArray, List.set_cons_zero, List.set_cons_succ]
      refine wpAnyH_ready (rs := [11]) (by kernel_rfl) (by simp) ?_
      refine AllReadyH.cons rfl (fun K hK => ?_) AllReadyH.nil
      go_simp
      refine hK.out _ _ (by (try dsimp only); exact ⟨EB.out.cell3 _ _ _ 0 rfl, EB.out.cell3 _ _ _ 1 rfl, EB.out.cell3 _ _ _ 2 rfl, EB.out.cell3 _ _ _ 9 rfl, EB.out.cell3 _ _ _ 10 rfl, EB.out.cell3 _ _ _ 11 rfl⟩) (fun hHeld => ?_)
      clear hK K
      try simp only [Act.put, List.getElem_toArray, List.getElem_cons_succ, List.getElem_cons_zero, List.setIfInBounds_toArray, List.set_cons_zero, List.set_cons_succ]
      refine wpAnyH_take (i := 12) (v := ?_) rfl (by kernel_rfl) (by kernel_rfl) (by kernel_rfl) (fun _ _ _ h => h) (Or.inl ⟨by rfl, ?_⟩) (by assumption) ?_
      rotate_left
      · intro w hSw; (try dsimp only at hSw); go_simp <;> with_reducible rfl
      try simp only [Act.put, List.getElem_toArray, List.getElem_cons_succ, List.getElem_cons_zero, List.setIfInBounds_toArray, List.set_cons_zero, List.set_cons_succ]
      refine wpAnyH_done (by kernel_rfl) ?_ _
      go_wp2_with fail
      go_meet
      exact ⟨_, _, _, _, _, _, _, _, _, rfl, rfl, Lib.hid ((EB.out.put _ _ _).subL HOL.out (List.Sublist.cons_cons _ (List.Sublist.refl _)))⟩
  obtain ⟨bq13, lo13, hi13, b19, d19, b20, d20, b21, d21, rfl, rfl, E14⟩ := hcut
  have hOL := HOL.out
  subst hOL
  clear HOL EC
  obtain ⟨c40, c41, c42, -, -, -, c20, c21, c22, -, -, -, -, -, -, -⟩ := E14.out.cells
  go_wp2_with fail
  refine (eq_ten ⟨(E14.out.rowAt 0 0 rfl rfl), (E14.out.rowAt 0 1 rfl rfl), (E14.out.rowAt 0 2 rfl rfl)⟩ ⟨(E14.out.rowAt 4 0 rfl rfl), (E14.out.rowAt 4 1 rfl rfl), (E14.out.rowAt 4 2 rfl rfl)⟩ (Nat.le_refl _) (Nat.le_refl _) ⟨(by have := HGLL.out; omega), (by have := HGLD.out; omega), (by have := HGLX.out; omega)⟩).mono ?_
  rintro e w12 ⟨rfl, hb⟩
  have E15 := Lib.hid (E14.out.step hb)
  clear hb
  have E15d := Lib.hid E15.out.drew
  clear c40 c41 c42 c20 c21 c22
  obtain ⟨-, -, -, c30, c31, c32, -, -, -, c10, c11, c12, -, -, -, -⟩ := E15.out.cells
  go_wp2
  have tk16_0 : True := trivial
  have tk16_1 : True := trivial
  go_region_held3 (fun w' => w'.cell? ⟨w7.heap.size, 0, none⟩ = some (.slice b11 tL.length d11) ∧ w'.cell? ⟨w7.heap.size, 1, none⟩ = some (.slice b12 tD.length d12) ∧ w'.cell? ⟨w7.heap.size, 2, none⟩ = some (.slice b13 tX.length d13) ∧ w'.cell? ⟨w.heap.size + 1, 0, none⟩ = some (.slice atL tL.length ctL) ∧ w'.cell? ⟨w.heap.size + 1, 1, none⟩ = some (.slice atD tD.length ctD) ∧ w'.cell? ⟨w.heap.size + 1, 2, none⟩ = some (.slice atX tX.length ctX)) (first | exact ⟨c30, c31, c32, c10, c11, c12⟩) (first
    | (go_at_call 19; have _t := tk16_0; refine (to_ten ⟨((E15d.out.rdAt 0 rfl).mono E15d.out.bel.size), ((E15d.out.rdAt 1 rfl).mono E15d.out.bel.size), ((E15d.out.rdAt 2 rfl).mono E15d.out.bel.size)⟩ (Nat.le_refl _) (by have := BtL.out; omega) (by have := BtD.out; omega) (by have := BtX.out; omega)).mono ?_; rintro e w13 ⟨v0, v1, v2, rfl, ho, hb⟩; obtain ⟨b22, d22, rfl, -⟩ := ints_form ho.rows.1.rd; obtain ⟨b23, d23, rfl, -⟩ := ints_form ho.rows.2.1.rd; obtain ⟨b24, d24, rfl, -⟩ := ints_form ho.rows.2.2.rd; have E16 := Lib.hid (E15d.out.grp hb ho); clear hb ho; obtain ⟨-, -, -, c30, c31, c32, -, -, -, c10, c11, c12, -, -, -, -⟩ := E16.out.cells; clear tk16_0)
    | (go_at_call 12; have _t := tk16_1; refine (eq_ten ⟨(E16.out.rowAt 4 0 rfl rfl), (E16.out.rowAt 4 1 rfl rfl), (E16.out.rowAt 4 2 rfl rfl)⟩ ⟨(E16.out.rowAt 0 0 rfl rfl), (E16.out.rowAt 0 1 rfl rfl), (E16.out.rowAt 0 2 rfl rfl)⟩ (Nat.le_refl _) (Nat.le_refl _) ⟨(by have := BtL.out; omega), (by have := BtD.out; omega), (by have := BtX.out; omega)⟩).mono ?_; rintro e w14 ⟨rfl, hb⟩; have E17 := Lib.hid (E16.out.step hb); clear hb; obtain ⟨-, -, -, c30, c31, c32, -, -, -, c10, c11, c12, -, -, -, -⟩ := E17.out.cells; clear tk16_1))
  go_wp2_with fail
  refine (to_row ((E17.out.rdAt 3 rfl).mono E17.out.bel.size) (Nat.le_refl _) (by have := Bx.out; omega)).mono ?_
  rintro e w15 ⟨v, rfl, ho, hb⟩
  obtain ⟨b25, d25, rfl, -⟩ := ints_form ho.rd
  have E18 := Lib.hid (E17.out.grp hb (OwnG.one ho))
  clear hb ho
  go_wp2_with fail
  refine (eq_rows (E18.out.rowAt 4 0 rfl rfl) (E18.out.rowAt 0 0 rfl rfl) rfl (by have := Bx.out; omega)).mono ?_
  rintro e w16 ⟨rfl, hb⟩
  have E19 := Lib.hid (E18.out.step hb)
  clear hb
  go_wp2_with fail
  refine (to_row ((E19.out.rdAt 4 rfl).mono E19.out.bel.size) (Nat.le_refl _) (by have := Bu.out; omega)).mono ?_
  rintro e w17 ⟨v, rfl, ho, hb⟩
  obtain ⟨b26, d26, rfl, -⟩ := ints_form ho.rd
  have E20 := Lib.hid (E19.out.grp hb (OwnG.one ho))
  clear hb ho
  go_wp2_with fail
  refine (eq_rows (E20.out.rowAt 4 0 rfl rfl) (E20.out.rowAt 0 0 rfl rfl) rfl (by have := Bu.out; omega)).mono ?_
  rintro e w18 ⟨rfl, hb⟩
  have E21 := Lib.hid (E20.out.step hb)
  clear hb
  obtain ⟨-, -, -, c30, c31, c32, -, -, -, -, -, -, -, -, -, -⟩ := E21.out.cells
  go_wp2_with fail
  obtain ⟨m0, hm⟩ : ∃ m : Nat, m = 1 + tL.length + tD.length + tX.length := ⟨_, rfl⟩
  have M0 := Lib.hid hm
  have m0b : m0 ≤ 3145729 := by have := BtL.out; have := BtD.out; have := BtX.out; omega
  clear hm
  refine (marks_ten 1 rfl (E21.out.grpAt 6 rfl) (by have := BtL.out; omega) (by have := BtD.out; omega) (by have := BtX.out; omega) (by omega)).mono ?_
  rw [← M0.out]
  rintro e w19 ⟨rfl, ho, hk⟩
  have E22 := Lib.hid (E21.out.mark 6 rfl hk ho)
  clear ho hk
  clear c30 c31 c32
  go_wp2_with fail
  obtain ⟨m1, hm⟩ : ∃ m : Nat, m = m0 + x.length := ⟨_, rfl⟩
  have M1 := Lib.hid hm
  have m1b : m1 ≤ 4194305 := by have := Bx.out; omega
  clear hm
  refine (marks_row m0 rfl (E22.out.grpAt 5 rfl) (by have := Bx.out; omega) (by omega)).mono ?_
  rw [← M1.out]
  rintro e w20 ⟨rfl, ho, hk⟩
  have E23 := Lib.hid (E22.out.mark 5 rfl hk ho)
  clear ho hk
  go_wp2_with fail
  obtain ⟨m2, hm⟩ : ∃ m : Nat, m = m1 + u.length := ⟨_, rfl⟩
  have M2 := Lib.hid hm
  have m2b : m2 ≤ 5242881 := by have := Bu.out; omega
  clear hm
  refine (marks_row m1 rfl (E23.out.grpAt 4 rfl) (by have := Bu.out; omega) (by omega)).mono ?_
  rw [← M2.out]
  rintro e w21 ⟨rfl, ho, hk⟩
  have E24 := Lib.hid (E23.out.mark 4 rfl hk ho)
  clear ho hk
  obtain ⟨c40, c41, c42, -, -, -, c20, c21, c22, -, -, -, -, -, -, -⟩ := E24.out.cells
  go_wp2_with fail
  refine (eq_ten ⟨(E24.out.rowAt 3 0 rfl rfl), (E24.out.rowAt 3 1 rfl rfl), (E24.out.rowAt 3 2 rfl rfl)⟩ ⟨(E24.out.rowAt 7 0 rfl rfl), (E24.out.rowAt 7 1 rfl rfl), (E24.out.rowAt 7 2 rfl rfl)⟩ (Nat.le_refl _) (Nat.le_refl _) ⟨(by have := HGLL.out; omega), (by have := HGLD.out; omega), (by have := HGLX.out; omega)⟩).mono ?_
  rintro e w22 ⟨rfl, hb⟩
  have E25 := Lib.hid (E24.out.step hb)
  clear hb
  clear c40 c41 c42 c20 c21 c22
  obtain ⟨c40, c41, c42, -, -, -, -, -, -, -, -, -, -, -, -, -⟩ := E25.out.cells
  go_wp2_with fail
  obtain ⟨m3, hm⟩ : ∃ m : Nat, m = 1 + GL.length + GD.length + GX.length := ⟨_, rfl⟩
  have M3 := Lib.hid hm
  have m3b : m3 ≤ 52776558133249 := by have := HGLL.out; have := HGLD.out; have := HGLX.out; omega
  clear hm
  refine (marks_ten 1 rfl (E25.out.grpAt 3 rfl) (by have := HGLL.out; omega) (by have := HGLD.out; omega) (by have := HGLX.out; omega) (by omega)).mono ?_
  rw [← M3.out]
  rintro e w23 ⟨rfl, ho, hk⟩
  have E26 := Lib.hid (E25.out.mark 3 rfl hk ho)
  clear ho hk
  clear c40 c41 c42
  obtain ⟨c40, c41, c42, -, -, -, -, -, -, -, -, -, -, -, -, -⟩ := E26.out.cells
  go_wp2_with fail
  refine (helds_ten (s := 1) rfl ⟨(E26.out.rowAt 3 0 rfl rfl), (E26.out.rowAt 3 1 rfl rfl), (E26.out.rowAt 3 2 rfl rfl)⟩ (Nat.le_refl _) (by have := HGLL.out; omega) (by have := HGLD.out; omega) (by have := HGLX.out; omega) (by omega)).mono ?_
  rw [← M3.out]
  rintro e w24 ⟨rfl, hb⟩
  have E27 := Lib.hid (E26.out.step hb)
  clear hb
  clear c40 c41 c42
  go_upto_region 36 with fail
  have EC := E27
  obtain ⟨OL, HOL⟩ := St.letter EC
  go_cut [22, 23] (fun sv o23 wx => ∃ (bq36 lo36 hi36 : Nat) (b35 : Option Addr) (d35 : Nat) (b36 : Option Addr) (d36 : Nat) (b37 : Option Addr) (d37 : Nat), o23 = .bool ok ∧ sv = .pointer (some ⟨bq36, 0, none⟩) ∧ Hid (St w wx [(bq36, 0, .slice b35 GL.length d35), (bq36, 1, .slice b36 GD.length d36), (bq36, 2, .slice b37 GX.length d37), (bq13, 0, .slice b19 GL.length d19), (bq13, 1, .slice b20 GD.length d20), (bq13, 2, .slice b21 GX.length d21), (w7.heap.size, 0, .slice b11 tL.length d11), (w7.heap.size, 1, .slice b12 tD.length d12), (w7.heap.size, 2, .slice b13 tX.length d13), (bq9, 0, .slice b8 GL.length d8), (bq9, 1, .slice b9 GD.length d9), (bq9, 2, .slice b10 GX.length d10), (w.heap.size + 1, 0, .slice atL tL.length ctL), (w.heap.size + 1, 1, .slice atD tD.length ctD), (w.heap.size + 1, 2, .slice atX tX.length ctX), (w.heap.size, 0, .int .i64 rk), (w.heap.size, 1, .int .i64 rp), (w.heap.size, 2, .int .i64 rn)] [(.slice atL tL.length ctL, tL), (.slice atD tD.length ctD, tD), (.slice atX tX.length ctX, tX), (.slice ax x.length cx, x), (.slice au u.length cu, u)] ((lo36, hi36, [(.slice b35 GL.length d35, GL), (.slice b36 GD.length d36, GD), (.slice b37 GX.length d37, GX)]) :: OL)))
  case first =>
    have EP := EC
    have EC := Lib.hid EC.out.drew
    obtain ⟨-, -, -, -, -, -, -, -, -, c10, c11, c12, c00, c01, c02, -⟩ := EC.out.cells
    refine wp_region_held_drew (S := fun w' => w'.cell? ⟨w.heap.size + 1, 0, none⟩ = some (.slice atL tL.length ctL) ∧ w'.cell? ⟨w.heap.size + 1, 1, none⟩ = some (.slice atD tD.length ctD) ∧ w'.cell? ⟨w.heap.size + 1, 2, none⟩ = some (.slice atX tX.length ctX) ∧ w'.cell? ⟨w.heap.size, 0, none⟩ = some (.int .i64 rk) ∧ w'.cell? ⟨w.heap.size, 1, none⟩ = some (.int .i64 rp) ∧ w'.cell? ⟨w.heap.size, 2, none⟩ = some (.int .i64 rn)) (by kernel_rfl) (by (try dsimp only); exact ⟨c10, c11, c12, c00, c01, c02⟩) (fun hHeld => ?_)
    refine wpAnyH_take (i := 0) (v := ?_) rfl (by kernel_rfl) (by kernel_rfl) (by kernel_rfl) (fun _ _ _ h => h) (Or.inl ⟨by rfl, ?_⟩) (by assumption) ?_
    rotate_left
    · intro w hSw; (try dsimp only at hSw); go_simp <;> with_reducible rfl
    try simp only [Act.put, List.getElem_toArray, List.getElem_cons_zero, List.setIfInBounds_toArray, List.set_cons_zero, List.set_cons_succ]
    refine wpAnyH_take (i := 2) (v := ?_) rfl (by kernel_rfl) (by kernel_rfl) (by kernel_rfl) (fun _ _ _ h => h) (Or.inl ⟨by rfl, ?_⟩) (by assumption) ?_
    rotate_left
    · intro w hSw; (try dsimp only at hSw); go_simp <;> with_reducible rfl
    try simp only [Act.put, List.getElem_toArray, List.getElem_cons_succ, List.getElem_cons_zero, List.setIfInBounds_toArray, List.set_cons_zero, List.set_cons_succ]
    refine wpAnyH_take (i := 4) (v := ?_) rfl (by kernel_rfl) (by kernel_rfl) (by kernel_rfl) (fun _ _ _ h => h) (Or.inl ⟨by rfl, ?_⟩) (by assumption) ?_
    rotate_left
    · intro w hSw; (try dsimp only at hSw); go_simp <;> with_reducible rfl
    try simp only [Act.put, List.getElem_toArray, List.getElem_cons_succ, List.getElem_cons_zero, List.setIfInBounds_toArray, List.set_cons_zero, List.set_cons_succ]
    refine wpAnyH_take (i := 5) (v := ?_) rfl (by kernel_rfl) (by kernel_rfl) (by kernel_rfl) (fun _ _ _ h => h) (Or.inl ⟨by rfl, ?_⟩) (by assumption) ?_
    rotate_left
    · intro w hSw; (try dsimp only at hSw); go_simp <;> with_reducible rfl
    try simp only [Act.put, List.getElem_toArray, List.getElem_cons_succ, List.getElem_cons_zero, List.setIfInBounds_toArray, List.set_cons_zero, List.set_cons_succ]
    refine wpAnyH_take (i := 7) (v := ?_) rfl (by kernel_rfl) (by kernel_rfl) (by kernel_rfl) (fun _ _ _ h => h) (Or.inl ⟨by rfl, ?_⟩) (by assumption) ?_
    rotate_left
    · intro w hSw; (try dsimp only at hSw); go_simp <;> with_reducible rfl
    try simp only [Act.put, List.getElem_toArray, List.getElem_cons_succ, List.getElem_cons_zero, List.setIfInBounds_toArray, List.set_cons_zero, List.set_cons_succ]
    refine wpAnyH_ready (rs := [1, 13]) (by kernel_rfl) (by simp) ?_
    refine AllReadyH.cons rfl (fun K hK => ?_) (AllReadyH.cons rfl (fun K hK => ?_) AllReadyH.nil)
    · go_simp
      go_at_call 9
      have EQ := EC
      refine (to_ring rk rp rn _).mono ?_
      rintro e w25 ⟨rfl, hb⟩
      replace EC := Lib.hid (EC.out.step hb)
      clear hb
      clear EQ c10 c11 c12 c00 c01 c02
      obtain ⟨-, -, -, -, -, -, -, -, -, c10, c11, c12, c00, c01, c02, -⟩ := EC.out.cells
      go_wp2_with fail
      refine hK.out _ _ (by (try dsimp only); exact ⟨c10, c11, c12, c00, c01, c02⟩) (fun hHeld => ?_)
      clear hK K
      try simp only [Act.put, List.getElem_toArray, List.getElem_cons_succ, List.getElem_cons_zero, List.setIfInBounds_toArray, List.set_cons_zero, List.set_cons_succ]
      refine wpAnyH_ready (rs := [3, 13]) (by kernel_rfl) (by simp) ?_
      refine AllReadyH.cons rfl (fun K hK => ?_) (AllReadyH.cons rfl (fun K hK => ?_) AllReadyH.nil)
      · go_simp
        go_at_call 19
        have EQ := EC
        refine (to_ten ⟨((EQ.out.rdAt 0 rfl).mono EQ.out.bel.size), ((EQ.out.rdAt 1 rfl).mono EQ.out.bel.size), ((EQ.out.rdAt 2 rfl).mono EQ.out.bel.size)⟩ (Nat.le_refl _) (by have := BtL.out; omega) (by have := BtD.out; omega) (by have := BtX.out; omega)).mono ?_
        rintro e w26 ⟨v0, v1, v2, rfl, ho, hb⟩
        obtain ⟨b27, d27, rfl, -⟩ := ints_form ho.rows.1.rd
        obtain ⟨b28, d28, rfl, -⟩ := ints_form ho.rows.2.1.rd
        obtain ⟨b29, d29, rfl, -⟩ := ints_form ho.rows.2.2.rd
        replace EC := Lib.hid (EC.out.grp hb ho)
        clear hb ho
        clear EQ c10 c11 c12 c00 c01 c02
        obtain ⟨-, -, -, -, -, -, -, -, -, c10, c11, c12, c00, c01, c02, -⟩ := EC.out.cells
        go_wp2_with fail
        refine hK.out _ _ (by (try dsimp only); exact ⟨c10, c11, c12, c00, c01, c02⟩) (fun hHeld => ?_)
        clear hK K
        try simp only [Act.put, List.getElem_toArray, List.getElem_cons_succ, List.getElem_cons_zero, List.setIfInBounds_toArray, List.set_cons_zero, List.set_cons_succ]
        refine wpAnyH_ready (rs := [6, 13]) (by kernel_rfl) (by simp) ?_
        refine AllReadyH.cons rfl (fun K hK => ?_) (AllReadyH.cons rfl (fun K hK => ?_) AllReadyH.nil)
        · go_simp
          go_at_call 20
          have EQ := EC
          refine (to_row ((EQ.out.rdAt 3 rfl).mono EQ.out.bel.size) (Nat.le_refl _) (by have := Bx.out; omega)).mono ?_
          rintro e w27 ⟨v, rfl, ho, hb⟩
          obtain ⟨b30, d30, rfl, -⟩ := ints_form ho.rd
          replace EC := Lib.hid (EC.out.grp hb (OwnG.one ho))
          clear hb ho
          clear EQ c10 c11 c12 c00 c01 c02
          obtain ⟨-, -, -, -, -, -, -, -, -, c10, c11, c12, c00, c01, c02, -⟩ := EC.out.cells
          go_wp2_with fail
          refine hK.out _ _ (by (try dsimp only); exact ⟨c10, c11, c12, c00, c01, c02⟩) (fun hHeld => ?_)
          clear hK K
          try simp only [Act.put, List.getElem_toArray, List.getElem_cons_succ, List.getElem_cons_zero, List.setIfInBounds_toArray, List.set_cons_zero, List.set_cons_succ]
          refine wpAnyH_ready (rs := [8, 13]) (by kernel_rfl) (by simp) ?_
          refine AllReadyH.cons rfl (fun K hK => ?_) (AllReadyH.cons rfl (fun K hK => ?_) AllReadyH.nil)
          · go_simp
            go_at_call 20
            have EQ := EC
            refine (to_row ((EQ.out.rdAt 4 rfl).mono EQ.out.bel.size) (Nat.le_refl _) (by have := Bu.out; omega)).mono ?_
            rintro e w28 ⟨v, rfl, ho, hb⟩
            obtain ⟨b31, d31, rfl, -⟩ := ints_form ho.rd
            replace EC := Lib.hid (EC.out.grp hb (OwnG.one ho))
            clear hb ho
            clear EQ c10 c11 c12 c00 c01 c02
            obtain ⟨-, -, -, -, -, -, -, -, -, c10, c11, c12, c00, c01, c02, -⟩ := EC.out.cells
            go_wp2_with fail
            refine hK.out _ _ (by (try dsimp only); exact ⟨c10, c11, c12, c00, c01, c02⟩) (fun hHeld => ?_)
            clear hK K
            try simp only [Act.put, List.getElem_toArray, List.getElem_cons_succ, List.getElem_cons_zero, List.setIfInBounds_toArray, List.set_cons_zero, List.set_cons_succ]
            refine wpAnyH_ready (rs := [9, 13]) (by kernel_rfl) (by simp) ?_
            refine AllReadyH.cons rfl (fun K hK => ?_) (AllReadyH.cons rfl (fun K hK => ?_) AllReadyH.nil)
            · go_simp
              go_at_call 25
              have EQ := EC
              refine (split_label_impl ⟨(EQ.out.rowAt 2 0 rfl rfl), (EQ.out.rowAt 2 1 rfl rfl), (EQ.out.rowAt 2 2 rfl rfl)⟩ (EQ.out.rowAt 1 0 rfl rfl) (EQ.out.rowAt 0 0 rfl rfl) (Nat.le_refl _) ⟨(by have := BtL.out; omega), (by have := BtD.out; omega), (by have := BtX.out; omega)⟩ sx su HhI.out HhJ.out).mono ?_
              rw [← HGL.out, ← HGD.out, ← HGX.out, ← HOK.out]
              rintro e w29 ⟨v0, v1, v2, rfl, ho, hb⟩
              obtain ⟨b32, d32, rfl, -⟩ := ints_form ho.rows.1.rd
              obtain ⟨b33, d33, rfl, -⟩ := ints_form ho.rows.2.1.rd
              obtain ⟨b34, d34, rfl, -⟩ := ints_form ho.rows.2.2.rd
              replace EC := Lib.hid (EC.out.grp hb ho)
              clear hb ho
              clear EQ c10 c11 c12 c00 c01 c02
              obtain ⟨-, -, -, -, -, -, -, -, -, c10, c11, c12, c00, c01, c02, -⟩ := EC.out.cells
              go_wp2_with fail
              refine hK.out _ _ (by (try dsimp only); exact ⟨c10, c11, c12, c00, c01, c02⟩) (fun hHeld => ?_)
              clear hK K
              try simp only [Act.put, List.getElem_toArray, List.getElem_cons_succ, List.getElem_cons_zero, List.setIfInBounds_toArray, List.set_cons_zero, List.set_cons_succ]
              refine wpAnyH_take (i := 10) (v := ?_) rfl (by kernel_rfl) (by kernel_rfl) (by kernel_rfl) (fun _ _ _ h => h) (Or.inl ⟨by rfl, ?_⟩) (by assumption) ?_
              rotate_left
              · intro w hSw; (try dsimp only at hSw); go_simp <;> with_reducible rfl
              try simp only [Act.put, List.getElem_toArray, List.getElem_cons_succ, List.getElem_cons_zero, List.setIfInBounds_toArray, List.set_cons_zero, List.set_cons_succ]
              refine wpAnyH_take (i := 11) (v := ?_) rfl (by kernel_rfl) (by kernel_rfl) (by kernel_rfl) (fun _ _ _ h => h) (Or.inl ⟨by rfl, ?_⟩) (by assumption) ?_
              rotate_left
              · intro w hSw; (try dsimp only at hSw); go_simp <;> with_reducible rfl
              try simp only [Act.put, List.getElem_toArray, List.getElem_cons_succ, List.getElem_cons_zero, List.setIfInBounds_toArray, List.set_cons_zero, List.set_cons_succ]
              refine wpAnyH_take (i := 12) (v := ?_) rfl (by kernel_rfl) (by kernel_rfl) (by kernel_rfl) (fun _ _ _ h => h) (Or.inl ⟨by rfl, ?_⟩) (by assumption) ?_
              rotate_left
              · intro w hSw; (try dsimp only at hSw); go_simp <;> with_reducible rfl
              try simp only [Act.put, List.getElem_toArray, List.getElem_cons_succ, List.getElem_cons_zero, List.setIfInBounds_toArray, List.set_cons_zero, List.set_cons_succ]
              refine wpAnyH_ready (rs := [13]) (by kernel_rfl) (by simp) ?_
              refine AllReadyH.cons rfl (fun K hK => ?_) AllReadyH.nil
              go_simp
              refine hK.out _ _ (by (try dsimp only); first | exact ⟨EC.out.cellA _ 9 rfl, EC.out.cellA _ 10 rfl, EC.out.cellA _ 11 rfl, EC.out.cellA _ 12 rfl, EC.out.cellA _ 13 rfl, EC.out.cellA _ 14 rfl⟩ | fail) (fun hHeld => ?_)
              clear hK K
              try simp only [Act.put, List.getElem_toArray, List.getElem_cons_succ, List.getElem_cons_zero, List.setIfInBounds_toArray, List.set_cons_zero, List.set_cons_succ]
              refine wpAnyH_ready (rs := [14]) (by kernel_rfl) (by simp) ?_
              refine AllReadyH.cons rfl (fun K hK => ?_) AllReadyH.nil
              go_simp
              refine hK.out _ _ (by (try dsimp only); exact ⟨EC.out.cellA _ 9 rfl, EC.out.cellA _ 10 rfl, EC.out.cellA _ 11 rfl, EC.out.cellA _ 12 rfl, EC.out.cellA _ 13 rfl, EC.out.cellA _ 14 rfl⟩) (fun hHeld => ?_)
              clear hK K
              try simp only [Act.put, List.getElem_toArray, List.getElem_cons_succ, List.getElem_cons_zero, List.setIfInBounds_toArray, List.set_cons_zero, List.set_cons_succ]
              refine wpAnyH_take (i := 15) (v := ?_) rfl (by kernel_rfl) (by kernel_rfl) (by kernel_rfl) (fun _ _ _ h => h) (Or.inl ⟨by rfl, ?_⟩) (by assumption) ?_
              rotate_left
              · intro w hSw; (try dsimp only at hSw); go_simp <;> with_reducible rfl
              try simp only [Act.put, List.getElem_toArray, List.getElem_cons_succ, List.getElem_cons_zero, List.setIfInBounds_toArray, List.set_cons_zero, List.set_cons_succ]
              refine wpAnyH_done (by kernel_rfl) ?_ _
              go_wp2_with fail
              go_meet
              exact ⟨_, _, _, _, _, _, _, _, _, rfl, rfl, Lib.hid ((EC.out.box3 _ _ _ _).subL HOL.out (List.Sublist.cons_cons _ (List.Sublist.cons _ (List.Sublist.cons _ (List.Sublist.cons _ (List.Sublist.refl _))))))⟩
            · go_simp
              refine hK.out _ _ (by (try dsimp only); first | exact ⟨EC.out.cellA _ 9 rfl, EC.out.cellA _ 10 rfl, EC.out.cellA _ 11 rfl, EC.out.cellA _ 12 rfl, EC.out.cellA _ 13 rfl, EC.out.cellA _ 14 rfl⟩ | fail) (fun hHeld => ?_)
              have EB := Lib.hid (StB.new EC.out 28)
              try simp only [World.size_alloc] at EB HOL
              clear EC c10 c11 c12 c00 c01 c02
              obtain ⟨-, -, -, -, -, -, -, -, -, c10, c11, c12, c00, c01, c02, -⟩ := EB.out.st.cells
              (try clear t0 t1 t2 f0 f1 f2)
              obtain ⟨-, t0, t1, t2, fr, -, -⟩ := EB.out.bx
              have f0 := fr 0
              have f1 := fr 1
              have f2 := fr 2
              clear fr
              clear hK K
              try simp only [Act.put, List.getElem_toArray, List.getElem_cons_succ, List.getElem_cons_zero, List.setIfInBounds_toArray, List.set_cons_zero, List.set_cons_succ]
              refine wpAnyH_ready (rs := [9]) (by kernel_rfl) (by simp) ?_
              refine AllReadyH.cons rfl (fun K hK => ?_) AllReadyH.nil
              go_simp
              go_at_call 25
              have EQ := Lib.hid EB.out.st
              refine (split_label_impl ⟨(EQ.out.rowAt 2 0 rfl rfl), (EQ.out.rowAt 2 1 rfl rfl), (EQ.out.rowAt 2 2 rfl rfl)⟩ (EQ.out.rowAt 1 0 rfl rfl) (EQ.out.rowAt 0 0 rfl rfl) (Nat.le_refl _) ⟨(by have := BtL.out; omega), (by have := BtD.out; omega), (by have := BtX.out; omega)⟩ sx su HhI.out HhJ.out).mono ?_
              rw [← HGL.out, ← HGD.out, ← HGX.out, ← HOK.out]
              rintro e w29 ⟨v0, v1, v2, rfl, ho, hb⟩
              obtain ⟨b32, d32, rfl, -⟩ := ints_form ho.rows.1.rd
              obtain ⟨b33, d33, rfl, -⟩ := ints_form ho.rows.2.1.rd
              obtain ⟨b34, d34, rfl, -⟩ := ints_form ho.rows.2.2.rd
              replace EB := Lib.hid (EB.out.add hb ho)
              clear hb ho
              clear EQ c10 c11 c12 c00 c01 c02
              obtain ⟨-, -, -, -, -, -, -, -, -, c10, c11, c12, c00, c01, c02, -⟩ := EB.out.st.cells
              (try clear t0 t1 t2 f0 f1 f2)
              obtain ⟨-, t0, t1, t2, fr, -, -⟩ := EB.out.bx
              have f0 := fr 0
              have f1 := fr 1
              have f2 := fr 2
              clear fr
              go_wp2_with fail
              refine hK.out _ _ (by (try dsimp only); exact ⟨c10, c11, c12, c00, c01, c02⟩) (fun hHeld => ?_)
              clear hK K
              try simp only [Act.put, List.getElem_toArray, List.getElem_cons_succ, List.getElem_cons_zero, List.setIfInBounds_toArray, List.set_cons_zero, List.set_cons_succ]
              refine wpAnyH_take (i := 10) (v := ?_) rfl (by kernel_rfl) (by kernel_rfl) (by kernel_rfl) (fun _ _ _ h => h) (Or.inl ⟨by rfl, ?_⟩) (by assumption) ?_
              rotate_left
              · intro w hSw; (try dsimp only at hSw); go_simp <;> with_reducible rfl
              try simp only [Act.put, List.getElem_toArray, List.getElem_cons_succ, List.getElem_cons_zero, List.setIfInBounds_toArray, List.set_cons_zero, List.set_cons_succ]
              refine wpAnyH_take (i := 11) (v := ?_) rfl (by kernel_rfl) (by kernel_rfl) (by kernel_rfl) (fun _ _ _ h => h) (Or.inl ⟨by rfl, ?_⟩) (by assumption) ?_
              rotate_left
              · intro w hSw; (try dsimp only at hSw); go_simp <;> with_reducible rfl
              try simp only [Act.put, List.getElem_toArray, List.getElem_cons_succ, List.getElem_cons_zero, List.setIfInBounds_toArray, List.set_cons_zero, List.set_cons_succ]
              refine wpAnyH_take (i := 12) (v := ?_) rfl (by kernel_rfl) (by kernel_rfl) (by kernel_rfl) (fun _ _ _ h => h) (Or.inl ⟨by rfl, ?_⟩) (by assumption) ?_
              rotate_left
              · intro w hSw; (try dsimp only at hSw); go_simp <;> with_reducible rfl
              try simp only [Act.put, List.getElem_toArray, List.getElem_cons_succ, List.getElem_cons_zero, List.setIfInBounds_toArray, List.set_cons_zero, List.set_cons_succ]
              refine wpAnyH_ready (rs := [14]) (by kernel_rfl) (by simp) ?_
              refine AllReadyH.cons rfl (fun K hK => ?_) AllReadyH.nil
              go_simp
              refine hK.out _ _ (by (try dsimp only); exact ⟨EB.out.cell3 _ _ _ 9 rfl, EB.out.cell3 _ _ _ 10 rfl, EB.out.cell3 _ _ _ 11 rfl, EB.out.cell3 _ _ _ 12 rfl, EB.out.cell3 _ _ _ 13 rfl, EB.out.cell3 _ _ _ 14 rfl⟩) (fun hHeld => ?_)
              clear hK K
              try simp only [Act.put, List.getElem_toArray, List.getElem_cons_succ, List.getElem_cons_zero, List.setIfInBounds_toArray, List.set_cons_zero, List.set_cons_succ]
              refine wpAnyH_take (i := 15) (v := ?_) rfl (by kernel_rfl) (by kernel_rfl) (by kernel_rfl) (fun _ _ _ h => h) (Or.inl ⟨by rfl, ?_⟩) (by assumption) ?_
              rotate_left
              · intro w hSw; (try dsimp only at hSw); go_simp <;> with_reducible rfl
              try simp only [Act.put, List.getElem_toArray, List.getElem_cons_succ, List.getElem_cons_zero, List.setIfInBounds_toArray, List.set_cons_zero, List.set_cons_succ]
              refine wpAnyH_done (by kernel_rfl) ?_ _
              go_wp2_with fail
              go_meet
              exact ⟨_, _, _, _, _, _, _, _, _, rfl, rfl, Lib.hid ((EB.out.put _ _ _).subL HOL.out (List.Sublist.cons_cons _ (List.Sublist.cons _ (List.Sublist.cons _ (List.Sublist.cons _ (List.Sublist.refl _))))))⟩
          · go_simp
            refine hK.out _ _ (by (try dsimp only); first | exact ⟨EC.out.cellA _ 9 rfl, EC.out.cellA _ 10 rfl, EC.out.cellA _ 11 rfl, EC.out.cellA _ 12 rfl, EC.out.cellA _ 13 rfl, EC.out.cellA _ 14 rfl⟩ | fail) (fun hHeld => ?_)
            have EB := Lib.hid (StB.new EC.out 28)
            try simp only [World.size_alloc] at EB HOL
            clear EC c10 c11 c12 c00 c01 c02
            obtain ⟨-, -, -, -, -, -, -, -, -, c10, c11, c12, c00, c01, c02, -⟩ := EB.out.st.cells
            (try clear t0 t1 t2 f0 f1 f2)
            obtain ⟨-, t0, t1, t2, fr, -, -⟩ := EB.out.bx
            have f0 := fr 0
            have f1 := fr 1
            have f2 := fr 2
            clear fr
            clear hK K
            try simp only [Act.put, List.getElem_toArray, List.getElem_cons_succ, List.getElem_cons_zero, List.setIfInBounds_toArray, List.set_cons_zero, List.set_cons_succ]
            refine wpAnyH_ready (rs := [8]) (by kernel_rfl) (by simp) ?_
            refine AllReadyH.cons rfl (fun K hK => ?_) AllReadyH.nil
            go_simp
            go_at_call 20
            have EQ := Lib.hid EB.out.st
            refine (to_row ((EQ.out.rdAt 4 rfl).mono EQ.out.bel.size) (Nat.le_refl _) (by have := Bu.out; omega)).mono ?_
            rintro e w28 ⟨v, rfl, ho, hb⟩
            obtain ⟨b31, d31, rfl, -⟩ := ints_form ho.rd
            replace EB := Lib.hid (EB.out.add hb (OwnG.one ho))
            clear hb ho
            clear EQ c10 c11 c12 c00 c01 c02
            obtain ⟨-, -, -, -, -, -, -, -, -, c10, c11, c12, c00, c01, c02, -⟩ := EB.out.st.cells
            (try clear t0 t1 t2 f0 f1 f2)
            obtain ⟨-, t0, t1, t2, fr, -, -⟩ := EB.out.bx
            have f0 := fr 0
            have f1 := fr 1
            have f2 := fr 2
            clear fr
            go_wp2_with fail
            refine hK.out _ _ (by (try dsimp only); exact ⟨c10, c11, c12, c00, c01, c02⟩) (fun hHeld => ?_)
            clear hK K
            try simp only [Act.put, List.getElem_toArray, List.getElem_cons_succ, List.getElem_cons_zero, List.setIfInBounds_toArray, List.set_cons_zero, List.set_cons_succ]
            refine wpAnyH_ready (rs := [9]) (by kernel_rfl) (by simp) ?_
            refine AllReadyH.cons rfl (fun K hK => ?_) AllReadyH.nil
            go_simp
            go_at_call 25
            have EQ := Lib.hid EB.out.st
            refine (split_label_impl ⟨(EQ.out.rowAt 2 0 rfl rfl), (EQ.out.rowAt 2 1 rfl rfl), (EQ.out.rowAt 2 2 rfl rfl)⟩ (EQ.out.rowAt 1 0 rfl rfl) (EQ.out.rowAt 0 0 rfl rfl) (Nat.le_refl _) ⟨(by have := BtL.out; omega), (by have := BtD.out; omega), (by have := BtX.out; omega)⟩ sx su HhI.out HhJ.out).mono ?_
            rw [← HGL.out, ← HGD.out, ← HGX.out, ← HOK.out]
            rintro e w29 ⟨v0, v1, v2, rfl, ho, hb⟩
            obtain ⟨b32, d32, rfl, -⟩ := ints_form ho.rows.1.rd
            obtain ⟨b33, d33, rfl, -⟩ := ints_form ho.rows.2.1.rd
            obtain ⟨b34, d34, rfl, -⟩ := ints_form ho.rows.2.2.rd
            replace EB := Lib.hid (EB.out.add hb ho)
            clear hb ho
            clear EQ c10 c11 c12 c00 c01 c02
            obtain ⟨-, -, -, -, -, -, -, -, -, c10, c11, c12, c00, c01, c02, -⟩ := EB.out.st.cells
            (try clear t0 t1 t2 f0 f1 f2)
            obtain ⟨-, t0, t1, t2, fr, -, -⟩ := EB.out.bx
            have f0 := fr 0
            have f1 := fr 1
            have f2 := fr 2
            clear fr
            go_wp2_with fail
            refine hK.out _ _ (by (try dsimp only); exact ⟨c10, c11, c12, c00, c01, c02⟩) (fun hHeld => ?_)
            clear hK K
            try simp only [Act.put, List.getElem_toArray, List.getElem_cons_succ, List.getElem_cons_zero, List.setIfInBounds_toArray, List.set_cons_zero, List.set_cons_succ]
            refine wpAnyH_take (i := 10) (v := ?_) rfl (by kernel_rfl) (by kernel_rfl) (by kernel_rfl) (fun _ _ _ h => h) (Or.inl ⟨by rfl, ?_⟩) (by assumption) ?_
            rotate_left
            · intro w hSw; (try dsimp only at hSw); go_simp <;> with_reducible rfl
            try simp only [Act.put, List.getElem_toArray, List.getElem_cons_succ, List.getElem_cons_zero, List.setIfInBounds_toArray, List.set_cons_zero, List.set_cons_succ]
            refine wpAnyH_take (i := 11) (v := ?_) rfl (by kernel_rfl) (by kernel_rfl) (by kernel_rfl) (fun _ _ _ h => h) (Or.inl ⟨by rfl, ?_⟩) (by assumption) ?_
            rotate_left
            · intro w hSw; (try dsimp only at hSw); go_simp <;> with_reducible rfl
            try simp only [Act.put, List.getElem_toArray, List.getElem_cons_succ, List.getElem_cons_zero, List.setIfInBounds_toArray, List.set_cons_zero, List.set_cons_succ]
            refine wpAnyH_take (i := 12) (v := ?_) rfl (by kernel_rfl) (by kernel_rfl) (by kernel_rfl) (fun _ _ _ h => h) (Or.inl ⟨by rfl, ?_⟩) (by assumption) ?_
            rotate_left
            · intro w hSw; (try dsimp only at hSw); go_simp <;> with_reducible rfl
            try simp only [Act.put, List.getElem_toArray, List.getElem_cons_succ, List.getElem_cons_zero, List.setIfInBounds_toArray, List.set_cons_zero, List.set_cons_succ]
            refine wpAnyH_ready (rs := [14]) (by kernel_rfl) (by simp) ?_
            refine AllReadyH.cons rfl (fun K hK => ?_) AllReadyH.nil
            go_simp
            refine hK.out _ _ (by (try dsimp only); exact ⟨EB.out.cell3 _ _ _ 9 rfl, EB.out.cell3 _ _ _ 10 rfl, EB.out.cell3 _ _ _ 11 rfl, EB.out.cell3 _ _ _ 12 rfl, EB.out.cell3 _ _ _ 13 rfl, EB.out.cell3 _ _ _ 14 rfl⟩) (fun hHeld => ?_)
            clear hK K
            try simp only [Act.put, List.getElem_toArray, List.getElem_cons_succ, List.getElem_cons_zero, List.setIfInBounds_toArray, List.set_cons_zero, List.set_cons_succ]
            refine wpAnyH_take (i := 15) (v := ?_) rfl (by kernel_rfl) (by kernel_rfl) (by kernel_rfl) (fun _ _ _ h => h) (Or.inl ⟨by rfl, ?_⟩) (by assumption) ?_
            rotate_left
            · intro w hSw; (try dsimp only at hSw); go_simp <;> with_reducible rfl
            try simp only [Act.put, List.getElem_toArray, List.getElem_cons_succ, List.getElem_cons_zero, List.setIfInBounds_toArray, List.set_cons_zero, List.set_cons_succ]
            refine wpAnyH_done (by kernel_rfl) ?_ _
            go_wp2_with fail
            go_meet
            exact ⟨_, _, _, _, _, _, _, _, _, rfl, rfl, Lib.hid ((EB.out.put _ _ _).subL HOL.out (List.Sublist.cons_cons _ (List.Sublist.cons _ (List.Sublist.cons _ (List.Sublist.cons _ (List.Sublist.refl _))))))⟩
        · go_simp
          refine hK.out _ _ (by (try dsimp only); first | exact ⟨EC.out.cellA _ 9 rfl, EC.out.cellA _ 10 rfl, EC.out.cellA _ 11 rfl, EC.out.cellA _ 12 rfl, EC.out.cellA _ 13 rfl, EC.out.cellA _ 14 rfl⟩ | fail) (fun hHeld => ?_)
          have EB := Lib.hid (StB.new EC.out 28)
          try simp only [World.size_alloc] at EB HOL
          clear EC c10 c11 c12 c00 c01 c02
          obtain ⟨-, -, -, -, -, -, -, -, -, c10, c11, c12, c00, c01, c02, -⟩ := EB.out.st.cells
          (try clear t0 t1 t2 f0 f1 f2)
          obtain ⟨-, t0, t1, t2, fr, -, -⟩ := EB.out.bx
          have f0 := fr 0
          have f1 := fr 1
          have f2 := fr 2
          clear fr
          clear hK K
          try simp only [Act.put, List.getElem_toArray, List.getElem_cons_succ, List.getElem_cons_zero, List.setIfInBounds_toArray, List.set_cons_zero, List.set_cons_succ]
          refine wpAnyH_ready (rs := [6]) (by kernel_rfl) (by simp) ?_
          refine AllReadyH.cons rfl (fun K hK => ?_) AllReadyH.nil
          go_simp
          go_at_call 20
          have EQ := Lib.hid EB.out.st
          refine (to_row ((EQ.out.rdAt 3 rfl).mono EQ.out.bel.size) (Nat.le_refl _) (by have := Bx.out; omega)).mono ?_
          rintro e w27 ⟨v, rfl, ho, hb⟩
          obtain ⟨b30, d30, rfl, -⟩ := ints_form ho.rd
          replace EB := Lib.hid (EB.out.add hb (OwnG.one ho))
          clear hb ho
          clear EQ c10 c11 c12 c00 c01 c02
          obtain ⟨-, -, -, -, -, -, -, -, -, c10, c11, c12, c00, c01, c02, -⟩ := EB.out.st.cells
          (try clear t0 t1 t2 f0 f1 f2)
          obtain ⟨-, t0, t1, t2, fr, -, -⟩ := EB.out.bx
          have f0 := fr 0
          have f1 := fr 1
          have f2 := fr 2
          clear fr
          go_wp2_with fail
          refine hK.out _ _ (by (try dsimp only); exact ⟨c10, c11, c12, c00, c01, c02⟩) (fun hHeld => ?_)
          clear hK K
          try simp only [Act.put, List.getElem_toArray, List.getElem_cons_succ, List.getElem_cons_zero, List.setIfInBounds_toArray, List.set_cons_zero, List.set_cons_succ]
          refine wpAnyH_ready (rs := [8]) (by kernel_rfl) (by simp) ?_
          refine AllReadyH.cons rfl (fun K hK => ?_) AllReadyH.nil
          go_simp
          go_at_call 20
          have EQ := Lib.hid EB.out.st
          refine (to_row ((EQ.out.rdAt 4 rfl).mono EQ.out.bel.size) (Nat.le_refl _) (by have := Bu.out; omega)).mono ?_
          rintro e w28 ⟨v, rfl, ho, hb⟩
          obtain ⟨b31, d31, rfl, -⟩ := ints_form ho.rd
          replace EB := Lib.hid (EB.out.add hb (OwnG.one ho))
          clear hb ho
          clear EQ c10 c11 c12 c00 c01 c02
          obtain ⟨-, -, -, -, -, -, -, -, -, c10, c11, c12, c00, c01, c02, -⟩ := EB.out.st.cells
          (try clear t0 t1 t2 f0 f1 f2)
          obtain ⟨-, t0, t1, t2, fr, -, -⟩ := EB.out.bx
          have f0 := fr 0
          have f1 := fr 1
          have f2 := fr 2
          clear fr
          go_wp2_with fail
          refine hK.out _ _ (by (try dsimp only); exact ⟨c10, c11, c12, c00, c01, c02⟩) (fun hHeld => ?_)
          clear hK K
          try simp only [Act.put, List.getElem_toArray, List.getElem_cons_succ, List.getElem_cons_zero, List.setIfInBounds_toArray, List.set_cons_zero, List.set_cons_succ]
          refine wpAnyH_ready (rs := [9]) (by kernel_rfl) (by simp) ?_
          refine AllReadyH.cons rfl (fun K hK => ?_) AllReadyH.nil
          go_simp
          go_at_call 25
          have EQ := Lib.hid EB.out.st
          refine (split_label_impl ⟨(EQ.out.rowAt 2 0 rfl rfl), (EQ.out.rowAt 2 1 rfl rfl), (EQ.out.rowAt 2 2 rfl rfl)⟩ (EQ.out.rowAt 1 0 rfl rfl) (EQ.out.rowAt 0 0 rfl rfl) (Nat.le_refl _) ⟨(by have := BtL.out; omega), (by have := BtD.out; omega), (by have := BtX.out; omega)⟩ sx su HhI.out HhJ.out).mono ?_
          rw [← HGL.out, ← HGD.out, ← HGX.out, ← HOK.out]
          rintro e w29 ⟨v0, v1, v2, rfl, ho, hb⟩
          obtain ⟨b32, d32, rfl, -⟩ := ints_form ho.rows.1.rd
          obtain ⟨b33, d33, rfl, -⟩ := ints_form ho.rows.2.1.rd
          obtain ⟨b34, d34, rfl, -⟩ := ints_form ho.rows.2.2.rd
          replace EB := Lib.hid (EB.out.add hb ho)
          clear hb ho
          clear EQ c10 c11 c12 c00 c01 c02
          obtain ⟨-, -, -, -, -, -, -, -, -, c10, c11, c12, c00, c01, c02, -⟩ := EB.out.st.cells
          (try clear t0 t1 t2 f0 f1 f2)
          obtain ⟨-, t0, t1, t2, fr, -, -⟩ := EB.out.bx
          have f0 := fr 0
          have f1 := fr 1
          have f2 := fr 2
          clear fr
          go_wp2_with fail
          refine hK.out _ _ (by (try dsimp only); exact ⟨c10, c11, c12, c00, c01, c02⟩) (fun hHeld => ?_)
          clear hK K
          try simp only [Act.put, List.getElem_toArray, List.getElem_cons_succ, List.getElem_cons_zero, List.setIfInBounds_toArray, List.set_cons_zero, List.set_cons_succ]
          refine wpAnyH_take (i := 10) (v := ?_) rfl (by kernel_rfl) (by kernel_rfl) (by kernel_rfl) (fun _ _ _ h => h) (Or.inl ⟨by rfl, ?_⟩) (by assumption) ?_
          rotate_left
          · intro w hSw; (try dsimp only at hSw); go_simp <;> with_reducible rfl
          try simp only [Act.put, List.getElem_toArray, List.getElem_cons_succ, List.getElem_cons_zero, List.setIfInBounds_toArray, List.set_cons_zero, List.set_cons_succ]
          refine wpAnyH_take (i := 11) (v := ?_) rfl (by kernel_rfl) (by kernel_rfl) (by kernel_rfl) (fun _ _ _ h => h) (Or.inl ⟨by rfl, ?_⟩) (by assumption) ?_
          rotate_left
          · intro w hSw; (try dsimp only at hSw); go_simp <;> with_reducible rfl
          try simp only [Act.put, List.getElem_toArray, List.getElem_cons_succ, List.getElem_cons_zero, List.setIfInBounds_toArray, List.set_cons_zero, List.set_cons_succ]
          refine wpAnyH_take (i := 12) (v := ?_) rfl (by kernel_rfl) (by kernel_rfl) (by kernel_rfl) (fun _ _ _ h => h) (Or.inl ⟨by rfl, ?_⟩) (by assumption) ?_
          rotate_left
          · intro w hSw; (try dsimp only at hSw); go_simp <;> with_reducible rfl
          try simp only [Act.put, List.getElem_toArray, List.getElem_cons_succ, List.getElem_cons_zero, List.setIfInBounds_toArray, List.set_cons_zero, List.set_cons_succ]
          refine wpAnyH_ready (rs := [14]) (by kernel_rfl) (by simp) ?_
          refine AllReadyH.cons rfl (fun K hK => ?_) AllReadyH.nil
          go_simp
          refine hK.out _ _ (by (try dsimp only); exact ⟨EB.out.cell3 _ _ _ 9 rfl, EB.out.cell3 _ _ _ 10 rfl, EB.out.cell3 _ _ _ 11 rfl, EB.out.cell3 _ _ _ 12 rfl, EB.out.cell3 _ _ _ 13 rfl, EB.out.cell3 _ _ _ 14 rfl⟩) (fun hHeld => ?_)
          clear hK K
          try simp only [Act.put, List.getElem_toArray, List.getElem_cons_succ, List.getElem_cons_zero, List.setIfInBounds_toArray, List.set_cons_zero, List.set_cons_succ]
          refine wpAnyH_take (i := 15) (v := ?_) rfl (by kernel_rfl) (by kernel_rfl) (by kernel_rfl) (fun _ _ _ h => h) (Or.inl ⟨by rfl, ?_⟩) (by assumption) ?_
          rotate_left
          · intro w hSw; (try dsimp only at hSw); go_simp <;> with_reducible rfl
          try simp only [Act.put, List.getElem_toArray, List.getElem_cons_succ, List.getElem_cons_zero, List.setIfInBounds_toArray, List.set_cons_zero, List.set_cons_succ]
          refine wpAnyH_done (by kernel_rfl) ?_ _
          go_wp2_with fail
          go_meet
          exact ⟨_, _, _, _, _, _, _, _, _, rfl, rfl, Lib.hid ((EB.out.put _ _ _).subL HOL.out (List.Sublist.cons_cons _ (List.Sublist.cons _ (List.Sublist.cons _ (List.Sublist.cons _ (List.Sublist.refl _))))))⟩
      · go_simp
        refine hK.out _ _ (by (try dsimp only); first | exact ⟨EC.out.cellA _ 9 rfl, EC.out.cellA _ 10 rfl, EC.out.cellA _ 11 rfl, EC.out.cellA _ 12 rfl, EC.out.cellA _ 13 rfl, EC.out.cellA _ 14 rfl⟩ | fail) (fun hHeld => ?_)
        have EB := Lib.hid (StB.new EC.out 28)
        try simp only [World.size_alloc] at EB HOL
        clear EC c10 c11 c12 c00 c01 c02
        obtain ⟨-, -, -, -, -, -, -, -, -, c10, c11, c12, c00, c01, c02, -⟩ := EB.out.st.cells
        (try clear t0 t1 t2 f0 f1 f2)
        obtain ⟨-, t0, t1, t2, fr, -, -⟩ := EB.out.bx
        have f0 := fr 0
        have f1 := fr 1
        have f2 := fr 2
        clear fr
        clear hK K
        try simp only [Act.put, List.getElem_toArray, List.getElem_cons_succ, List.getElem_cons_zero, List.setIfInBounds_toArray, List.set_cons_zero, List.set_cons_succ]
        refine wpAnyH_ready (rs := [3]) (by kernel_rfl) (by simp) ?_
        refine AllReadyH.cons rfl (fun K hK => ?_) AllReadyH.nil
        go_simp
        go_at_call 19
        have EQ := Lib.hid EB.out.st
        refine (to_ten ⟨((EQ.out.rdAt 0 rfl).mono EQ.out.bel.size), ((EQ.out.rdAt 1 rfl).mono EQ.out.bel.size), ((EQ.out.rdAt 2 rfl).mono EQ.out.bel.size)⟩ (Nat.le_refl _) (by have := BtL.out; omega) (by have := BtD.out; omega) (by have := BtX.out; omega)).mono ?_
        rintro e w26 ⟨v0, v1, v2, rfl, ho, hb⟩
        obtain ⟨b27, d27, rfl, -⟩ := ints_form ho.rows.1.rd
        obtain ⟨b28, d28, rfl, -⟩ := ints_form ho.rows.2.1.rd
        obtain ⟨b29, d29, rfl, -⟩ := ints_form ho.rows.2.2.rd
        replace EB := Lib.hid (EB.out.add hb ho)
        clear hb ho
        clear EQ c10 c11 c12 c00 c01 c02
        obtain ⟨-, -, -, -, -, -, -, -, -, c10, c11, c12, c00, c01, c02, -⟩ := EB.out.st.cells
        (try clear t0 t1 t2 f0 f1 f2)
        obtain ⟨-, t0, t1, t2, fr, -, -⟩ := EB.out.bx
        have f0 := fr 0
        have f1 := fr 1
        have f2 := fr 2
        clear fr
        go_wp2_with fail
        refine hK.out _ _ (by (try dsimp only); exact ⟨c10, c11, c12, c00, c01, c02⟩) (fun hHeld => ?_)
        clear hK K
        try simp only [Act.put, List.getElem_toArray, List.getElem_cons_succ, List.getElem_cons_zero, List.setIfInBounds_toArray, List.set_cons_zero, List.set_cons_succ]
        refine wpAnyH_ready (rs := [6]) (by kernel_rfl) (by simp) ?_
        refine AllReadyH.cons rfl (fun K hK => ?_) AllReadyH.nil
        go_simp
        go_at_call 20
        have EQ := Lib.hid EB.out.st
        refine (to_row ((EQ.out.rdAt 3 rfl).mono EQ.out.bel.size) (Nat.le_refl _) (by have := Bx.out; omega)).mono ?_
        rintro e w27 ⟨v, rfl, ho, hb⟩
        obtain ⟨b30, d30, rfl, -⟩ := ints_form ho.rd
        replace EB := Lib.hid (EB.out.add hb (OwnG.one ho))
        clear hb ho
        clear EQ c10 c11 c12 c00 c01 c02
        obtain ⟨-, -, -, -, -, -, -, -, -, c10, c11, c12, c00, c01, c02, -⟩ := EB.out.st.cells
        (try clear t0 t1 t2 f0 f1 f2)
        obtain ⟨-, t0, t1, t2, fr, -, -⟩ := EB.out.bx
        have f0 := fr 0
        have f1 := fr 1
        have f2 := fr 2
        clear fr
        go_wp2_with fail
        refine hK.out _ _ (by (try dsimp only); exact ⟨c10, c11, c12, c00, c01, c02⟩) (fun hHeld => ?_)
        clear hK K
        try simp only [Act.put, List.getElem_toArray, List.getElem_cons_succ, List.getElem_cons_zero, List.setIfInBounds_toArray, List.set_cons_zero, List.set_cons_succ]
        refine wpAnyH_ready (rs := [8]) (by kernel_rfl) (by simp) ?_
        refine AllReadyH.cons rfl (fun K hK => ?_) AllReadyH.nil
        go_simp
        go_at_call 20
        have EQ := Lib.hid EB.out.st
        refine (to_row ((EQ.out.rdAt 4 rfl).mono EQ.out.bel.size) (Nat.le_refl _) (by have := Bu.out; omega)).mono ?_
        rintro e w28 ⟨v, rfl, ho, hb⟩
        obtain ⟨b31, d31, rfl, -⟩ := ints_form ho.rd
        replace EB := Lib.hid (EB.out.add hb (OwnG.one ho))
        clear hb ho
        clear EQ c10 c11 c12 c00 c01 c02
        obtain ⟨-, -, -, -, -, -, -, -, -, c10, c11, c12, c00, c01, c02, -⟩ := EB.out.st.cells
        (try clear t0 t1 t2 f0 f1 f2)
        obtain ⟨-, t0, t1, t2, fr, -, -⟩ := EB.out.bx
        have f0 := fr 0
        have f1 := fr 1
        have f2 := fr 2
        clear fr
        go_wp2_with fail
        refine hK.out _ _ (by (try dsimp only); exact ⟨c10, c11, c12, c00, c01, c02⟩) (fun hHeld => ?_)
        clear hK K
        try simp only [Act.put, List.getElem_toArray, List.getElem_cons_succ, List.getElem_cons_zero, List.setIfInBounds_toArray, List.set_cons_zero, List.set_cons_succ]
        refine wpAnyH_ready (rs := [9]) (by kernel_rfl) (by simp) ?_
        refine AllReadyH.cons rfl (fun K hK => ?_) AllReadyH.nil
        go_simp
        go_at_call 25
        have EQ := Lib.hid EB.out.st
        refine (split_label_impl ⟨(EQ.out.rowAt 2 0 rfl rfl), (EQ.out.rowAt 2 1 rfl rfl), (EQ.out.rowAt 2 2 rfl rfl)⟩ (EQ.out.rowAt 1 0 rfl rfl) (EQ.out.rowAt 0 0 rfl rfl) (Nat.le_refl _) ⟨(by have := BtL.out; omega), (by have := BtD.out; omega), (by have := BtX.out; omega)⟩ sx su HhI.out HhJ.out).mono ?_
        rw [← HGL.out, ← HGD.out, ← HGX.out, ← HOK.out]
        rintro e w29 ⟨v0, v1, v2, rfl, ho, hb⟩
        obtain ⟨b32, d32, rfl, -⟩ := ints_form ho.rows.1.rd
        obtain ⟨b33, d33, rfl, -⟩ := ints_form ho.rows.2.1.rd
        obtain ⟨b34, d34, rfl, -⟩ := ints_form ho.rows.2.2.rd
        replace EB := Lib.hid (EB.out.add hb ho)
        clear hb ho
        clear EQ c10 c11 c12 c00 c01 c02
        obtain ⟨-, -, -, -, -, -, -, -, -, c10, c11, c12, c00, c01, c02, -⟩ := EB.out.st.cells
        (try clear t0 t1 t2 f0 f1 f2)
        obtain ⟨-, t0, t1, t2, fr, -, -⟩ := EB.out.bx
        have f0 := fr 0
        have f1 := fr 1
        have f2 := fr 2
        clear fr
        go_wp2_with fail
        refine hK.out _ _ (by (try dsimp only); exact ⟨c10, c11, c12, c00, c01, c02⟩) (fun hHeld => ?_)
        clear hK K
        try simp only [Act.put, List.getElem_toArray, List.getElem_cons_succ, List.getElem_cons_zero, List.setIfInBounds_toArray, List.set_cons_zero, List.set_cons_succ]
        refine wpAnyH_take (i := 10) (v := ?_) rfl (by kernel_rfl) (by kernel_rfl) (by kernel_rfl) (fun _ _ _ h => h) (Or.inl ⟨by rfl, ?_⟩) (by assumption) ?_
        rotate_left
        · intro w hSw; (try dsimp only at hSw); go_simp <;> with_reducible rfl
        try simp only [Act.put, List.getElem_toArray, List.getElem_cons_succ, List.getElem_cons_zero, List.setIfInBounds_toArray, List.set_cons_zero, List.set_cons_succ]
        refine wpAnyH_take (i := 11) (v := ?_) rfl (by kernel_rfl) (by kernel_rfl) (by kernel_rfl) (fun _ _ _ h => h) (Or.inl ⟨by rfl, ?_⟩) (by assumption) ?_
        rotate_left
        · intro w hSw; (try dsimp only at hSw); go_simp <;> with_reducible rfl
        try simp only [Act.put, List.getElem_toArray, List.getElem_cons_succ, List.getElem_cons_zero, List.setIfInBounds_toArray, List.set_cons_zero, List.set_cons_succ]
        refine wpAnyH_take (i := 12) (v := ?_) rfl (by kernel_rfl) (by kernel_rfl) (by kernel_rfl) (fun _ _ _ h => h) (Or.inl ⟨by rfl, ?_⟩) (by assumption) ?_
        rotate_left
        · intro w hSw; (try dsimp only at hSw); go_simp <;> with_reducible rfl
        try simp only [Act.put, List.getElem_toArray, List.getElem_cons_succ, List.getElem_cons_zero, List.setIfInBounds_toArray, List.set_cons_zero, List.set_cons_succ]
        refine wpAnyH_ready (rs := [14]) (by kernel_rfl) (by simp) ?_
        refine AllReadyH.cons rfl (fun K hK => ?_) AllReadyH.nil
        go_simp
        refine hK.out _ _ (by (try dsimp only); exact ⟨EB.out.cell3 _ _ _ 9 rfl, EB.out.cell3 _ _ _ 10 rfl, EB.out.cell3 _ _ _ 11 rfl, EB.out.cell3 _ _ _ 12 rfl, EB.out.cell3 _ _ _ 13 rfl, EB.out.cell3 _ _ _ 14 rfl⟩) (fun hHeld => ?_)
        clear hK K
        try simp only [Act.put, List.getElem_toArray, List.getElem_cons_succ, List.getElem_cons_zero, List.setIfInBounds_toArray, List.set_cons_zero, List.set_cons_succ]
        refine wpAnyH_take (i := 15) (v := ?_) rfl (by kernel_rfl) (by kernel_rfl) (by kernel_rfl) (fun _ _ _ h => h) (Or.inl ⟨by rfl, ?_⟩) (by assumption) ?_
        rotate_left
        · intro w hSw; (try dsimp only at hSw); go_simp <;> with_reducible rfl
        try simp only [Act.put, List.getElem_toArray, List.getElem_cons_succ, List.getElem_cons_zero, List.setIfInBounds_toArray, List.set_cons_zero, List.set_cons_succ]
        refine wpAnyH_done (by kernel_rfl) ?_ _
        go_wp2_with fail
        go_meet
        exact ⟨_, _, _, _, _, _, _, _, _, rfl, rfl, Lib.hid ((EB.out.put _ _ _).subL HOL.out (List.Sublist.cons_cons _ (List.Sublist.cons _ (List.Sublist.cons _ (List.Sublist.cons _ (List.Sublist.refl _))))))⟩
    · go_simp
      refine hK.out _ _ (by (try dsimp only); first | exact ⟨EC.out.cellA _ 9 rfl, EC.out.cellA _ 10 rfl, EC.out.cellA _ 11 rfl, EC.out.cellA _ 12 rfl, EC.out.cellA _ 13 rfl, EC.out.cellA _ 14 rfl⟩ | fail) (fun hHeld => ?_)
      have EB := Lib.hid ((StB.new EP.out 28).step (Below.drew (Below.refl _ _)))
      try simp only [World.size_alloc] at EB HOL
      clear EC c10 c11 c12 c00 c01 c02
      obtain ⟨-, -, -, -, -, -, -, -, -, c10, c11, c12, c00, c01, c02, -⟩ := EB.out.st.cells
      (try clear t0 t1 t2 f0 f1 f2)
      obtain ⟨-, t0, t1, t2, fr, -, -⟩ := EB.out.bx
      have f0 := fr 0
      have f1 := fr 1
      have f2 := fr 2
      clear fr
      clear hK K
      try simp only [Act.put, List.getElem_toArray, List.getElem_cons_succ, List.getElem_cons_zero, List.setIfInBounds_toArray, List.set_cons_zero, List.set_cons_succ]
      refine wpAnyH_ready (rs := [1]) (by kernel_rfl) (by simp) ?_
      refine AllReadyH.cons rfl (fun K hK => ?_) AllReadyH.nil
      go_simp
      go_at_call 9
      have EQ := Lib.hid EB.out.st
      refine (to_ring rk rp rn _).mono ?_
      rintro e w25 ⟨rfl, hb⟩
      replace EB := Lib.hid (EB.out.step hb)
      clear hb
      clear EQ c10 c11 c12 c00 c01 c02
      obtain ⟨-, -, -, -, -, -, -, -, -, c10, c11, c12, c00, c01, c02, -⟩ := EB.out.st.cells
      (try clear t0 t1 t2 f0 f1 f2)
      obtain ⟨-, t0, t1, t2, fr, -, -⟩ := EB.out.bx
      have f0 := fr 0
      have f1 := fr 1
      have f2 := fr 2
      clear fr
      go_wp2_with fail
      refine hK.out _ _ (by (try dsimp only); exact ⟨c10, c11, c12, c00, c01, c02⟩) (fun hHeld => ?_)
      clear hK K
      try simp only [Act.put, List.getElem_toArray, List.getElem_cons_succ, List.getElem_cons_zero, List.setIfInBounds_toArray, List.set_cons_zero, List.set_cons_succ]
      refine wpAnyH_ready (rs := [3]) (by kernel_rfl) (by simp) ?_
      refine AllReadyH.cons rfl (fun K hK => ?_) AllReadyH.nil
      go_simp
      go_at_call 19
      have EQ := Lib.hid EB.out.st
      refine (to_ten ⟨((EQ.out.rdAt 0 rfl).mono EQ.out.bel.size), ((EQ.out.rdAt 1 rfl).mono EQ.out.bel.size), ((EQ.out.rdAt 2 rfl).mono EQ.out.bel.size)⟩ (Nat.le_refl _) (by have := BtL.out; omega) (by have := BtD.out; omega) (by have := BtX.out; omega)).mono ?_
      rintro e w26 ⟨v0, v1, v2, rfl, ho, hb⟩
      obtain ⟨b27, d27, rfl, -⟩ := ints_form ho.rows.1.rd
      obtain ⟨b28, d28, rfl, -⟩ := ints_form ho.rows.2.1.rd
      obtain ⟨b29, d29, rfl, -⟩ := ints_form ho.rows.2.2.rd
      replace EB := Lib.hid (EB.out.add hb ho)
      clear hb ho
      clear EQ c10 c11 c12 c00 c01 c02
      obtain ⟨-, -, -, -, -, -, -, -, -, c10, c11, c12, c00, c01, c02, -⟩ := EB.out.st.cells
      (try clear t0 t1 t2 f0 f1 f2)
      obtain ⟨-, t0, t1, t2, fr, -, -⟩ := EB.out.bx
      have f0 := fr 0
      have f1 := fr 1
      have f2 := fr 2
      clear fr
      go_wp2_with fail
      refine hK.out _ _ (by (try dsimp only); exact ⟨c10, c11, c12, c00, c01, c02⟩) (fun hHeld => ?_)
      clear hK K
      try simp only [Act.put, List.getElem_toArray, List.getElem_cons_succ, List.getElem_cons_zero, List.setIfInBounds_toArray, List.set_cons_zero, List.set_cons_succ]
      refine wpAnyH_ready (rs := [6]) (by kernel_rfl) (by simp) ?_
      refine AllReadyH.cons rfl (fun K hK => ?_) AllReadyH.nil
      go_simp
      go_at_call 20
      have EQ := Lib.hid EB.out.st
      refine (to_row ((EQ.out.rdAt 3 rfl).mono EQ.out.bel.size) (Nat.le_refl _) (by have := Bx.out; omega)).mono ?_
      rintro e w27 ⟨v, rfl, ho, hb⟩
      obtain ⟨b30, d30, rfl, -⟩ := ints_form ho.rd
      replace EB := Lib.hid (EB.out.add hb (OwnG.one ho))
      clear hb ho
      clear EQ c10 c11 c12 c00 c01 c02
      obtain ⟨-, -, -, -, -, -, -, -, -, c10, c11, c12, c00, c01, c02, -⟩ := EB.out.st.cells
      (try clear t0 t1 t2 f0 f1 f2)
      obtain ⟨-, t0, t1, t2, fr, -, -⟩ := EB.out.bx
      have f0 := fr 0
      have f1 := fr 1
      have f2 := fr 2
      clear fr
      go_wp2_with fail
      refine hK.out _ _ (by (try dsimp only); exact ⟨c10, c11, c12, c00, c01, c02⟩) (fun hHeld => ?_)
      clear hK K
      try simp only [Act.put, List.getElem_toArray, List.getElem_cons_succ, List.getElem_cons_zero, List.setIfInBounds_toArray, List.set_cons_zero, List.set_cons_succ]
      refine wpAnyH_ready (rs := [8]) (by kernel_rfl) (by simp) ?_
      refine AllReadyH.cons rfl (fun K hK => ?_) AllReadyH.nil
      go_simp
      go_at_call 20
      have EQ := Lib.hid EB.out.st
      refine (to_row ((EQ.out.rdAt 4 rfl).mono EQ.out.bel.size) (Nat.le_refl _) (by have := Bu.out; omega)).mono ?_
      rintro e w28 ⟨v, rfl, ho, hb⟩
      obtain ⟨b31, d31, rfl, -⟩ := ints_form ho.rd
      replace EB := Lib.hid (EB.out.add hb (OwnG.one ho))
      clear hb ho
      clear EQ c10 c11 c12 c00 c01 c02
      obtain ⟨-, -, -, -, -, -, -, -, -, c10, c11, c12, c00, c01, c02, -⟩ := EB.out.st.cells
      (try clear t0 t1 t2 f0 f1 f2)
      obtain ⟨-, t0, t1, t2, fr, -, -⟩ := EB.out.bx
      have f0 := fr 0
      have f1 := fr 1
      have f2 := fr 2
      clear fr
      go_wp2_with fail
      refine hK.out _ _ (by (try dsimp only); exact ⟨c10, c11, c12, c00, c01, c02⟩) (fun hHeld => ?_)
      clear hK K
      try simp only [Act.put, List.getElem_toArray, List.getElem_cons_succ, List.getElem_cons_zero, List.setIfInBounds_toArray, List.set_cons_zero, List.set_cons_succ]
      refine wpAnyH_ready (rs := [9]) (by kernel_rfl) (by simp) ?_
      refine AllReadyH.cons rfl (fun K hK => ?_) AllReadyH.nil
      go_simp
      go_at_call 25
      have EQ := Lib.hid EB.out.st
      refine (split_label_impl ⟨(EQ.out.rowAt 2 0 rfl rfl), (EQ.out.rowAt 2 1 rfl rfl), (EQ.out.rowAt 2 2 rfl rfl)⟩ (EQ.out.rowAt 1 0 rfl rfl) (EQ.out.rowAt 0 0 rfl rfl) (Nat.le_refl _) ⟨(by have := BtL.out; omega), (by have := BtD.out; omega), (by have := BtX.out; omega)⟩ sx su HhI.out HhJ.out).mono ?_
      rw [← HGL.out, ← HGD.out, ← HGX.out, ← HOK.out]
      rintro e w29 ⟨v0, v1, v2, rfl, ho, hb⟩
      obtain ⟨b32, d32, rfl, -⟩ := ints_form ho.rows.1.rd
      obtain ⟨b33, d33, rfl, -⟩ := ints_form ho.rows.2.1.rd
      obtain ⟨b34, d34, rfl, -⟩ := ints_form ho.rows.2.2.rd
      replace EB := Lib.hid (EB.out.add hb ho)
      clear hb ho
      clear EQ c10 c11 c12 c00 c01 c02
      obtain ⟨-, -, -, -, -, -, -, -, -, c10, c11, c12, c00, c01, c02, -⟩ := EB.out.st.cells
      (try clear t0 t1 t2 f0 f1 f2)
      obtain ⟨-, t0, t1, t2, fr, -, -⟩ := EB.out.bx
      have f0 := fr 0
      have f1 := fr 1
      have f2 := fr 2
      clear fr
      go_wp2_with fail
      refine hK.out _ _ (by (try dsimp only); exact ⟨c10, c11, c12, c00, c01, c02⟩) (fun hHeld => ?_)
      clear hK K
      try simp only [Act.put, List.getElem_toArray, List.getElem_cons_succ, List.getElem_cons_zero, List.setIfInBounds_toArray, List.set_cons_zero, List.set_cons_succ]
      refine wpAnyH_take (i := 10) (v := ?_) rfl (by kernel_rfl) (by kernel_rfl) (by kernel_rfl) (fun _ _ _ h => h) (Or.inl ⟨by rfl, ?_⟩) (by assumption) ?_
      rotate_left
      · intro w hSw; (try dsimp only at hSw); go_simp <;> with_reducible rfl
      try simp only [Act.put, List.getElem_toArray, List.getElem_cons_succ, List.getElem_cons_zero, List.setIfInBounds_toArray, List.set_cons_zero, List.set_cons_succ]
      refine wpAnyH_take (i := 11) (v := ?_) rfl (by kernel_rfl) (by kernel_rfl) (by kernel_rfl) (fun _ _ _ h => h) (Or.inl ⟨by rfl, ?_⟩) (by assumption) ?_
      rotate_left
      · intro w hSw; (try dsimp only at hSw); go_simp <;> with_reducible rfl
      try simp only [Act.put, List.getElem_toArray, List.getElem_cons_succ, List.getElem_cons_zero, List.setIfInBounds_toArray, List.set_cons_zero, List.set_cons_succ]
      refine wpAnyH_take (i := 12) (v := ?_) rfl (by kernel_rfl) (by kernel_rfl) (by kernel_rfl) (fun _ _ _ h => h) (Or.inl ⟨by rfl, ?_⟩) (by assumption) ?_
      rotate_left
      · intro w hSw; (try dsimp only at hSw); go_simp <;> with_reducible rfl
      try simp only [Act.put, List.getElem_toArray, List.getElem_cons_succ, List.getElem_cons_zero, List.setIfInBounds_toArray, List.set_cons_zero, List.set_cons_succ]
      refine wpAnyH_ready (rs := [14]) (by kernel_rfl) (by simp) ?_
      refine AllReadyH.cons rfl (fun K hK => ?_) AllReadyH.nil
      go_simp
      refine hK.out _ _ (by (try dsimp only); exact ⟨EB.out.cell3 _ _ _ 9 rfl, EB.out.cell3 _ _ _ 10 rfl, EB.out.cell3 _ _ _ 11 rfl, EB.out.cell3 _ _ _ 12 rfl, EB.out.cell3 _ _ _ 13 rfl, EB.out.cell3 _ _ _ 14 rfl⟩) (fun hHeld => ?_)
      clear hK K
      try simp only [Act.put, List.getElem_toArray, List.getElem_cons_succ, List.getElem_cons_zero, List.setIfInBounds_toArray, List.set_cons_zero, List.set_cons_succ]
      refine wpAnyH_take (i := 15) (v := ?_) rfl (by kernel_rfl) (by kernel_rfl) (by kernel_rfl) (fun _ _ _ h => h) (Or.inl ⟨by rfl, ?_⟩) (by assumption) ?_
      rotate_left
      · intro w hSw; (try dsimp only at hSw); go_simp <;> with_reducible rfl
      try simp only [Act.put, List.getElem_toArray, List.getElem_cons_succ, List.getElem_cons_zero, List.setIfInBounds_toArray, List.set_cons_zero, List.set_cons_succ]
      refine wpAnyH_done (by kernel_rfl) ?_ _
      go_wp2_with fail
      go_meet
      exact ⟨_, _, _, _, _, _, _, _, _, rfl, rfl, Lib.hid ((EB.out.put _ _ _).subL HOL.out (List.Sublist.cons_cons _ (List.Sublist.cons _ (List.Sublist.cons _ (List.Sublist.cons _ (List.Sublist.refl _))))))⟩
  obtain ⟨bq36, lo36, hi36, b35, d35, b36, d36, b37, d37, rfl, rfl, E33⟩ := hcut
  have hOL := HOL.out
  subst hOL
  clear HOL EC
  obtain ⟨c50, c51, c52, -, -, -, -, -, -, c20, c21, c22, -, -, -, -, -, -, -⟩ := E33.out.cells
  go_wp2_with fail
  refine (eq_ten ⟨(E33.out.rowAt 0 0 rfl rfl), (E33.out.rowAt 0 1 rfl rfl), (E33.out.rowAt 0 2 rfl rfl)⟩ ⟨(E33.out.rowAt 8 0 rfl rfl), (E33.out.rowAt 8 1 rfl rfl), (E33.out.rowAt 8 2 rfl rfl)⟩ (Nat.le_refl _) (Nat.le_refl _) ⟨(by have := HGLL.out; omega), (by have := HGLD.out; omega), (by have := HGLX.out; omega)⟩).mono ?_
  rintro e w30 ⟨rfl, hb⟩
  have E34 := Lib.hid (E33.out.step hb)
  clear hb
  clear c50 c51 c52 c20 c21 c22
  obtain ⟨-, -, -, c40, c41, c42, -, -, -, -, -, -, -, -, -, -, -, -, -⟩ := E34.out.cells
  go_wp2_with fail
  refine (helds_ten (s := 1) rfl ⟨(E34.out.rowAt 4 0 rfl rfl), (E34.out.rowAt 4 1 rfl rfl), (E34.out.rowAt 4 2 rfl rfl)⟩ (Nat.le_refl _) (by have := HGLL.out; omega) (by have := HGLD.out; omega) (by have := HGLX.out; omega) (by omega)).mono ?_
  rw [← M3.out]
  rintro e w31 ⟨rfl, hb⟩
  have E35 := Lib.hid (E34.out.step hb)
  clear hb
  clear c40 c41 c42
  go_wp2
  go_ret
  exact ⟨rfl, E35.out.bel⟩

theorem law_split_label (rk rp rn : Int)  (ia : Int)   {vtL : Value} {tL : List Int} {vtD : Value} {tD : List Int} {vtX : Value} {tX : List Int} {vx : Value} {x : List Int} {vu : Value} {u : List Int} (w : World) (htL : Rd w.heap.size w vtL (ints tL)) (ltL : tL.length ≤ 281474976710656) (htD : Rd w.heap.size w vtD (ints tD)) (ltD : tD.length ≤ 281474976710656) (htX : Rd w.heap.size w vtX (ints tX)) (ltX : tX.length ≤ 281474976710656) (hx : Rd w.heap.size w vx (ints x)) (lx : x.length ≤ 281474976710656) (hu : Rd w.heap.size w vu (ints u)) (lu : u.length ≤ 281474976710656) (hI : allI tL) (hJ : allI x) :
    Calls Try.prog 5 #[ringV rk rp rn, tenV vtL vtD vtX, .int .i64 ia, vx, vu] w fun e w' => e = .returned (.bool true) ∧ Below w.heap.size w w' := by
  obtain ⟨atL, ctL, rfl, -⟩ := ints_form htL
  obtain ⟨atD, ctD, rfl, -⟩ := ints_form htD
  obtain ⟨atX, ctX, rfl, -⟩ := ints_form htX
  obtain ⟨ax, cx, rfl, -⟩ := ints_form hx
  obtain ⟨au, cu, rfl, -⟩ := ints_form hu
  by_cases sx : x.length ≤ 1048576
  case neg => exact law_split_label_big0 rk rp rn  ia   atL ctL tL atD ctD tD atX ctX tX ax cx x au cu u w  (by omega) lx
  by_cases su : u.length ≤ 1048576
  case neg => exact law_split_label_big1 rk rp rn  ia   atL ctL tL atD ctD tD atX ctX tX ax cx x au cu u w sx (by omega) lu
  exact law_split_label_small rk rp rn  ia   atL ctL tL atD ctD tD atX ctX tX ax cx x au cu u w (Lib.hid htL) (Lib.hid htD) (Lib.hid htX) (Lib.hid hx) (Lib.hid hu) sx su ltL ltD ltX hI hJ
end Go.Proofs.Ytgdkllhgaikpnaa
