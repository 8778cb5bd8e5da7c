
/- The law FnExactContractPair, walked. -/
import Derived.Test.YtgbmacppgaopfaaSpecW
import Derived.Test.YtgbmacppgaopfaaPairImpl
import Derived.Test.YtgbmacppgaopfaaBx
import Derived.Deep.RegionHeld3
import Derived.Deep.DeepCutAuto
namespace Go.Proofs.Ytgbmacppgaopfaa
set_option maxRecDepth 20000
open Go.RowKit

set_option maxHeartbeats 400000 in
theorem law_contract_pair_big0 (rk rp rn : Int)    (atL : Option Addr) (ctL : Nat) (tL : List Int) (atD : Option Addr) (ctD : Nat) (tD : List Int) (atX : Option Addr) (ctX : Nat) (tX : List Int) (auL : Option Addr) (cuL : Nat) (uL : List Int) (auD : Option Addr) (cuD : Nat) (uD : List Int) (auX : Option Addr) (cuX : Nat) (uX : List Int) (ax : Option Addr) (cx : Nat) (x : List Int) (w : World)  (hb : 1048576 < x.length) (hc : x.length ≤ 281474976710656) :
    Calls Try.prog 8 #[ringV rk rp rn, tenV (.slice atL tL.length ctL) (.slice atD tD.length ctD) (.slice atX tX.length ctX), tenV (.slice auL uL.length cuL) (.slice auD uD.length cuD) (.slice auX uX.length cuX), .slice ax x.length cx] w fun e w' => e = .returned (.bool true) ∧ Below w.heap.size w w' := by
  go_enter Try.func8, Try.ntmps8
  go_wp2
  go_ret
  exact ⟨rfl, (((Below.refl _ _).alloc (Nat.le_refl _) _).alloc (by simp; try omega) _).alloc (by simp; try omega) _⟩

set_option maxHeartbeats 64000000 in
theorem law_contract_pair_small (rk rp rn : Int)    (atL : Option Addr) (ctL : Nat) (tL : List Int) (atD : Option Addr) (ctD : Nat) (tD : List Int) (atX : Option Addr) (ctX : Nat) (tX : List Int) (auL : Option Addr) (cuL : Nat) (uL : List Int) (auD : Option Addr) (cuD : Nat) (uD : List Int) (auX : Option Addr) (cuX : Nat) (uX : List Int) (ax : Option Addr) (cx : Nat) (x : List Int) (w : World) (RtL : Hid (Rd w.heap.size w (.slice atL tL.length ctL) (ints tL))) (RtD : Hid (Rd w.heap.size w (.slice atD tD.length ctD) (ints tD))) (RtX : Hid (Rd w.heap.size w (.slice atX tX.length ctX) (ints tX))) (RuL : Hid (Rd w.heap.size w (.slice auL uL.length cuL) (ints uL))) (RuD : Hid (Rd w.heap.size w (.slice auD uD.length cuD) (ints uD))) (RuX : Hid (Rd w.heap.size w (.slice auX uX.length cuX) (ints uX))) (Rx : Hid (Rd w.heap.size w (.slice ax x.length cx) (ints x))) (sx : x.length ≤ 1048576) (ztL : tL.length ≤ 281474976710656) (ztD : tD.length ≤ 281474976710656) (ztX : tX.length ≤ 281474976710656) (zuL : uL.length ≤ 281474976710656) (zuD : uD.length ≤ 281474976710656) (zuX : uX.length ≤ 281474976710656) (hI : allI tL) (hJ : allI uL) :
    Calls Try.prog 8 #[ringV rk rp rn, tenV (.slice atL tL.length ctL) (.slice atD tD.length ctD) (.slice atX tX.length ctX), tenV (.slice auL uL.length cuL) (.slice auD uD.length cuD) (.slice auX uX.length cuX), .slice ax x.length cx] w fun e w' => e = .returned (.bool true) ∧ Below w.heap.size w w' := by
  obtain ⟨GL, hGL⟩ : ∃ G : List Int, G = if pairB rk rp rn tL tD tX uL uD uX x = true then keepL (joinL tL uL) x else [] := ⟨_, rfl⟩
  have HGLL : Hid (GL.length ≤ 17592186044416) := Lib.hid (by rw [hGL]; exact Nat.le_trans (pair_len_L _ _ _ _ _ _ _ _ _ _) (by omega))
  have HGL := Lib.hid hGL
  clear hGL
  obtain ⟨GD, hGD⟩ : ∃ G : List Int, G = if pairB rk rp rn tL tD tX uL uD uX x = true then keepD (joinL tL uL) (joinD tL tD uL uD) x else [] := ⟨_, rfl⟩
  have HGLD : Hid (GD.length ≤ 17592186044416) := Lib.hid (by rw [hGD]; exact Nat.le_trans (pair_len_D _ _ _ _ _ _ _ _ _ _) (by omega))
  have HGD := Lib.hid hGD
  clear hGD
  obtain ⟨GX, hGX⟩ : ∃ G : List Int, G = if pairB rk rp rn tL tD tX uL uD uX x = true then pairL rk rp rn tL tD tX uL uD uX x else [] := ⟨_, rfl⟩
  have HGLX : Hid (GX.length ≤ 17592186044416) := Lib.hid (by rw [hGX]; exact Nat.le_trans (pair_len_X _ _ _ _ _ _ _ _ _ _) (by omega))
  have HGX := Lib.hid hGX
  clear hGX
  obtain ⟨ok, hok⟩ : ∃ b : Bool, b = pairB rk rp rn tL tD tX uL uD uX x := ⟨_, rfl⟩
  have HOK := Lib.hid hok
  clear hok
  have hbb : (ok != ok) = false := by cases ok <;> rfl
  have HhI := Lib.hid hI
  clear hI
  have HhJ := Lib.hid hJ
  clear hJ
  have BtL : Hid (tL.length ≤ 281474976710656) := Lib.hid (by omega)
  have BtD : Hid (tD.length ≤ 281474976710656) := Lib.hid (by omega)
  have BtX : Hid (tX.length ≤ 281474976710656) := Lib.hid (by omega)
  have BuL : Hid (uL.length ≤ 281474976710656) := Lib.hid (by omega)
  have BuD : Hid (uD.length ≤ 281474976710656) := Lib.hid (by omega)
  have BuX : Hid (uX.length ≤ 281474976710656) := Lib.hid (by omega)
  have Bx : Hid (x.length ≤ 281474976710656) := Lib.hid (by omega)
  have E0 := Lib.hid (St.start w (R := [(.slice atL tL.length ctL, tL), (.slice atD tD.length ctD, tD), (.slice atX tX.length ctX, tX), (.slice auL uL.length cuL, uL), (.slice auD uD.length cuD, uD), (.slice auX uX.length cuX, uX), (.slice ax x.length cx, x)]) (by intro r hr; simp only [List.mem_cons, List.not_mem_nil, or_false] at hr; rcases hr with rfl | rfl | rfl | rfl | rfl | rfl | rfl <;> first | exact RtL.out | exact RtD.out | exact RtX.out | exact RuL.out | exact RuD.out | exact RuX.out | exact Rx.out))
  have E0 := Lib.hid (E0.out.box3 (.int .i64 rk) (.int .i64 rp) (.int .i64 rn) 23)
  have E0 := Lib.hid (E0.out.box3 (.slice atL tL.length ctL) (.slice atD tD.length ctD) (.slice atX tX.length ctX) 47)
  have E0 := Lib.hid (E0.out.box3 (.slice auL uL.length cuL) (.slice auD uD.length cuD) (.slice auX uX.length cuX) 47)
  simp only [World.size_alloc] at E0
  clear RtL RtD RtX RuL RuD RuX Rx
  go_enter Try.func8, Try.ntmps8
  obtain ⟨-, -, -, c10, c11, c12, -, -, -, -⟩ := E0.out.cells
  go_wp2_with fail
  refine (sz_ten_full atL tL.length ctL atD tD.length ctD atX tX.length ctX 1048576 _ (by omega) (by omega) BtL.out BtD.out BtX.out).mono ?_
  rintro e w1 ⟨z, rfl, hz, hb⟩
  have E1 := Lib.hid (E0.out.step hb)
  clear hb
  rcases hz with rfl | ⟨hz0, hz1⟩
  case inl => go_wp2; go_ret; exact ⟨rfl, E1.out.bel⟩
  have qz : ¬ z < 0 := by omega
  have hzb : z ≤ 1048576 := by omega
  have BtL : Hid (tL.length ≤ 1048576) := Lib.hid (by omega)
  have BtD : Hid (tD.length ≤ 1048576) := Lib.hid (by omega)
  have BtX : Hid (tX.length ≤ 1048576) := Lib.hid (by omega)
  clear hz1
  clear c10 c11 c12
  obtain ⟨c20, c21, c22, -, -, -, -, -, -, -⟩ := E1.out.cells
  go_wp2_with fail
  refine (sz_ten_full auL uL.length cuL auD uD.length cuD auX uX.length cuX z _ (by omega) (by omega) BuL.out BuD.out BuX.out).mono ?_
  rintro e w2 ⟨za, rfl, hz, hb⟩
  have E2 := Lib.hid (E1.out.step hb)
  clear hb
  rcases hz with rfl | ⟨hza0, hz1⟩
  case inl => go_wp2; go_ret; exact ⟨rfl, E2.out.bel⟩
  have qza : ¬ za < 0 := by omega
  have hzab : za ≤ 1048576 := by omega
  have BuL : Hid (uL.length ≤ 1048576) := Lib.hid (by omega)
  have BuD : Hid (uD.length ≤ 1048576) := Lib.hid (by omega)
  have BuX : Hid (uX.length ≤ 1048576) := Lib.hid (by omega)
  clear hz1
  clear c20 c21 c22
  go_upto_region 10 with fail
  have EC := E2
  obtain ⟨OL, HOL⟩ := St.letter EC
  go_cut [10, 11] (fun sv o11 wx => ∃ (bq10 lo10 hi10 : Nat) (b10 : Option Addr) (d10 : Nat) (b11 : Option Addr) (d11 : Nat) (b12 : Option Addr) (d12 : Nat), o11 = .bool ok ∧ sv = .pointer (some ⟨bq10, 0, none⟩) ∧ Hid (St w wx [(bq10, 0, .slice b10 GL.length d10), (bq10, 1, .slice b11 GD.length d11), (bq10, 2, .slice b12 GX.length d12), (w.heap.size + 1 + 1, 0, .slice auL uL.length cuL), (w.heap.size + 1 + 1, 1, .slice auD uD.length cuD), (w.heap.size + 1 + 1, 2, .slice auX uX.length cuX), (w.heap.size + 1, 0, .slice atL tL.length ctL), (w.heap.size + 1, 1, .slice atD tD.length ctD), (w.heap.size + 1, 2, .slice atX tX.length ctX), (w.heap.size, 0, .int .i64 rk), (w.heap.size, 1, .int .i64 rp), (w.heap.size, 2, .int .i64 rn)] [(.slice atL tL.length ctL, tL), (.slice atD tD.length ctD, tD), (.slice atX tX.length ctX, tX), (.slice auL uL.length cuL, uL), (.slice auD uD.length cuD, uD), (.slice auX uX.length cuX, uX), (.slice ax x.length cx, x)] ((lo10, hi10, [(.slice b10 GL.length d10, GL), (.slice b11 GD.length d11, GD), (.slice b12 GX.length d12, GX)]) :: OL)))
  case first =>
    have EP := EC
    have EC := Lib.hid EC.out.drew
    obtain ⟨c20, c21, c22, c10, c11, c12, c00, c01, c02, -⟩ := EC.out.cells
    refine wp_region_held_drew (S := fun w' => w'.cell? ⟨w.heap.size + 1 + 1, 0, none⟩ = some (.slice auL uL.length cuL) ∧ w'.cell? ⟨w.heap.size + 1 + 1, 1, none⟩ = some (.slice auD uD.length cuD) ∧ w'.cell? ⟨w.heap.size + 1 + 1, 2, none⟩ = some (.slice auX uX.length cuX) ∧ w'.cell? ⟨w.heap.size + 1, 0, none⟩ = some (.slice atL tL.length ctL) ∧ w'.cell? ⟨w.heap.size + 1, 1, none⟩ = some (.slice atD tD.length ctD) ∧ w'.cell? ⟨w.heap.size + 1, 2, none⟩ = some (.slice atX tX.length ctX) ∧ w'.cell? ⟨w.heap.size, 0, none⟩ = some (.int .i64 rk) ∧ w'.cell? ⟨w.heap.size, 1, none⟩ = some (.int .i64 rp) ∧ w'.cell? ⟨w.heap.size, 2, none⟩ = some (.int .i64 rn)) (by kernel_rfl) (by (try dsimp only); exact ⟨c20, c21, c22, c10, c11, c12, c00, c01, c02⟩) (fun hHeld => ?_)
    refine wpAnyH_take (i := 0) (v := ?_) rfl (by kernel_rfl) (by kernel_rfl) (by kernel_rfl) (fun _ _ _ h => h) (Or.inl ⟨by rfl, ?_⟩) (by assumption) ?_
    rotate_left
    · intro w hSw; (try dsimp only at hSw); go_simp <;> with_reducible rfl
    try simp only [Act.put, List.getElem_toArray, List.getElem_cons_zero, List.setIfInBounds_toArray, List.set_cons_zero, List.set_cons_succ]
    refine wpAnyH_take (i := 2) (v := ?_) rfl (by kernel_rfl) (by kernel_rfl) (by kernel_rfl) (fun _ _ _ h => h) (Or.inl ⟨by rfl, ?_⟩) (by assumption) ?_
    rotate_left
    · intro w hSw; (try dsimp only at hSw); go_simp <;> with_reducible rfl
    try simp only [Act.put, List.getElem_toArray, List.getElem_cons_succ, List.getElem_cons_zero, List.setIfInBounds_toArray, List.set_cons_zero, List.set_cons_succ]
    refine wpAnyH_take (i := 4) (v := ?_) rfl (by kernel_rfl) (by kernel_rfl) (by kernel_rfl) (fun _ _ _ h => h) (Or.inl ⟨by rfl, ?_⟩) (by assumption) ?_
    rotate_left
    · intro w hSw; (try dsimp only at hSw); go_simp <;> with_reducible rfl
    try simp only [Act.put, List.getElem_toArray, List.getElem_cons_succ, List.getElem_cons_zero, List.setIfInBounds_toArray, List.set_cons_zero, List.set_cons_succ]
    refine wpAnyH_take (i := 6) (v := ?_) rfl (by kernel_rfl) (by kernel_rfl) (by kernel_rfl) (fun _ _ _ h => h) (Or.inl ⟨by rfl, ?_⟩) (by assumption) ?_
    rotate_left
    · intro w hSw; (try dsimp only at hSw); go_simp <;> with_reducible rfl
    try simp only [Act.put, List.getElem_toArray, List.getElem_cons_succ, List.getElem_cons_zero, List.setIfInBounds_toArray, List.set_cons_zero, List.set_cons_succ]
    refine wpAnyH_ready (rs := [1, 12]) (by kernel_rfl) (by simp) ?_
    refine AllReadyH.cons rfl (fun K hK => ?_) (AllReadyH.cons rfl (fun K hK => ?_) AllReadyH.nil)
    · go_simp
      go_at_call 36
      have EQ := EC
      refine (to_ring rk rp rn _).mono ?_
      rintro e w3 ⟨rfl, hb⟩
      replace EC := Lib.hid (EC.out.step hb)
      clear hb
      clear EQ c20 c21 c22 c10 c11 c12 c00 c01 c02
      obtain ⟨c20, c21, c22, c10, c11, c12, c00, c01, c02, -⟩ := EC.out.cells
      go_wp2_with fail
      refine hK.out _ _ (by (try dsimp only); exact ⟨c20, c21, c22, c10, c11, c12, c00, c01, c02⟩) (fun hHeld => ?_)
      clear hK K
      try simp only [Act.put, List.getElem_toArray, List.getElem_cons_succ, List.getElem_cons_zero, List.setIfInBounds_toArray, List.set_cons_zero, List.set_cons_succ]
      refine wpAnyH_ready (rs := [3, 12]) (by kernel_rfl) (by simp) ?_
      refine AllReadyH.cons rfl (fun K hK => ?_) (AllReadyH.cons rfl (fun K hK => ?_) AllReadyH.nil)
      · go_simp
        go_at_call 37
        have EQ := EC
        refine (to_ten ⟨((EQ.out.rdAt 0 rfl).mono EQ.out.bel.size), ((EQ.out.rdAt 1 rfl).mono EQ.out.bel.size), ((EQ.out.rdAt 2 rfl).mono EQ.out.bel.size)⟩ (Nat.le_refl _) (by have := BtL.out; omega) (by have := BtD.out; omega) (by have := BtX.out; omega)).mono ?_
        rintro e w4 ⟨v0, v1, v2, rfl, ho, hb⟩
        obtain ⟨b0, d0, rfl, -⟩ := ints_form ho.rows.1.rd
        obtain ⟨b1, d1, rfl, -⟩ := ints_form ho.rows.2.1.rd
        obtain ⟨b2, d2, rfl, -⟩ := ints_form ho.rows.2.2.rd
        replace EC := Lib.hid (EC.out.grp hb ho)
        clear hb ho
        clear EQ c20 c21 c22 c10 c11 c12 c00 c01 c02
        obtain ⟨c20, c21, c22, c10, c11, c12, c00, c01, c02, -⟩ := EC.out.cells
        go_wp2_with fail
        refine hK.out _ _ (by (try dsimp only); exact ⟨c20, c21, c22, c10, c11, c12, c00, c01, c02⟩) (fun hHeld => ?_)
        clear hK K
        try simp only [Act.put, List.getElem_toArray, List.getElem_cons_succ, List.getElem_cons_zero, List.setIfInBounds_toArray, List.set_cons_zero, List.set_cons_succ]
        refine wpAnyH_ready (rs := [5, 12]) (by kernel_rfl) (by simp) ?_
        refine AllReadyH.cons rfl (fun K hK => ?_) (AllReadyH.cons rfl (fun K hK => ?_) AllReadyH.nil)
        · go_simp
          go_at_call 37
          have EQ := EC
          refine (to_ten ⟨((EQ.out.rdAt 3 rfl).mono EQ.out.bel.size), ((EQ.out.rdAt 4 rfl).mono EQ.out.bel.size), ((EQ.out.rdAt 5 rfl).mono EQ.out.bel.size)⟩ (Nat.le_refl _) (by have := BuL.out; omega) (by have := BuD.out; omega) (by have := BuX.out; omega)).mono ?_
          rintro e w5 ⟨v0, v1, v2, rfl, ho, hb⟩
          obtain ⟨b3, d3, rfl, -⟩ := ints_form ho.rows.1.rd
          obtain ⟨b4, d4, rfl, -⟩ := ints_form ho.rows.2.1.rd
          obtain ⟨b5, d5, rfl, -⟩ := ints_form ho.rows.2.2.rd
          replace EC := Lib.hid (EC.out.grp hb ho)
          clear hb ho
          clear EQ c20 c21 c22 c10 c11 c12 c00 c01 c02
          obtain ⟨c20, c21, c22, c10, c11, c12, c00, c01, c02, -⟩ := EC.out.cells
          go_wp2_with fail
          refine hK.out _ _ (by (try dsimp only); exact ⟨c20, c21, c22, c10, c11, c12, c00, c01, c02⟩) (fun hHeld => ?_)
          clear hK K
          try simp only [Act.put, List.getElem_toArray, List.getElem_cons_succ, List.getElem_cons_zero, List.setIfInBounds_toArray, List.set_cons_zero, List.set_cons_succ]
          refine wpAnyH_ready (rs := [7, 12]) (by kernel_rfl) (by simp) ?_
          refine AllReadyH.cons rfl (fun K hK => ?_) (AllReadyH.cons rfl (fun K hK => ?_) AllReadyH.nil)
          · go_simp
            go_at_call 32
            have EQ := EC
            refine (to_row ((EQ.out.rdAt 6 rfl).mono EQ.out.bel.size) (Nat.le_refl _) (by have := Bx.out; omega)).mono ?_
            rintro e w6 ⟨v, rfl, ho, hb⟩
            obtain ⟨b6, d6, rfl, -⟩ := ints_form ho.rd
            replace EC := Lib.hid (EC.out.grp hb (OwnG.one ho))
            clear hb ho
            clear EQ c20 c21 c22 c10 c11 c12 c00 c01 c02
            obtain ⟨c20, c21, c22, c10, c11, c12, c00, c01, c02, -⟩ := EC.out.cells
            go_wp2_with fail
            refine hK.out _ _ (by (try dsimp only); exact ⟨c20, c21, c22, c10, c11, c12, c00, c01, c02⟩) (fun hHeld => ?_)
            clear hK K
            try simp only [Act.put, List.getElem_toArray, List.getElem_cons_succ, List.getElem_cons_zero, List.setIfInBounds_toArray, List.set_cons_zero, List.set_cons_succ]
            refine wpAnyH_ready (rs := [8, 12]) (by kernel_rfl) (by simp) ?_
            refine AllReadyH.cons rfl (fun K hK => ?_) (AllReadyH.cons rfl (fun K hK => ?_) AllReadyH.nil)
            · go_simp
              go_at_call 35
              have EQ := EC
              refine (contract_pair_spec ⟨(EQ.out.rowAt 2 0 rfl rfl), (EQ.out.rowAt 2 1 rfl rfl), (EQ.out.rowAt 2 2 rfl rfl)⟩ ⟨(EQ.out.rowAt 1 0 rfl rfl), (EQ.out.rowAt 1 1 rfl rfl), (EQ.out.rowAt 1 2 rfl rfl)⟩ (EQ.out.rowAt 0 0 rfl rfl) (Nat.le_refl _) (Nat.le_refl _) (Nat.le_refl _) ⟨(by have := BtL.out; omega), (by have := BtD.out; omega), (by have := BtX.out; omega)⟩ ⟨(by have := BuL.out; omega), (by have := BuD.out; omega), (by have := BuX.out; omega)⟩ (by have := Bx.out; omega)).mono ?_
              rw [← HGL.out, ← HGD.out, ← HGX.out, ← HOK.out]
              rintro e w7 ⟨v0, v1, v2, rfl, ho, hb⟩
              obtain ⟨b7, d7, rfl, -⟩ := ints_form ho.rows.1.rd
              obtain ⟨b8, d8, rfl, -⟩ := ints_form ho.rows.2.1.rd
              obtain ⟨b9, d9, rfl, -⟩ := ints_form ho.rows.2.2.rd
              replace EC := Lib.hid (EC.out.grp hb ho)
              clear hb ho
              clear EQ c20 c21 c22 c10 c11 c12 c00 c01 c02
              obtain ⟨c20, c21, c22, c10, c11, c12, c00, c01, c02, -⟩ := EC.out.cells
              go_wp2_with fail
              refine hK.out _ _ (by (try dsimp only); exact ⟨c20, c21, c22, c10, c11, c12, c00, c01, c02⟩) (fun hHeld => ?_)
              clear hK K
              try simp only [Act.put, List.getElem_toArray, List.getElem_cons_succ, List.getElem_cons_zero, List.setIfInBounds_toArray, List.set_cons_zero, List.set_cons_succ]
              refine wpAnyH_take (i := 9) (v := ?_) rfl (by kernel_rfl) (by kernel_rfl) (by kernel_rfl) (fun _ _ _ h => h) (Or.inl ⟨by rfl, ?_⟩) (by assumption) ?_
              rotate_left
              · intro w hSw; (try dsimp only at hSw); go_simp <;> with_reducible rfl
              try simp only [Act.put, List.getElem_toArray, List.getElem_cons_succ, List.getElem_cons_zero, List.setIfInBounds_toArray, List.set_cons_zero, List.set_cons_succ]
              refine wpAnyH_take (i := 10) (v := ?_) rfl (by kernel_rfl) (by kernel_rfl) (by kernel_rfl) (fun _ _ _ h => h) (Or.inl ⟨by rfl, ?_⟩) (by assumption) ?_
              rotate_left
              · intro w hSw; (try dsimp only at hSw); go_simp <;> with_reducible rfl
              try simp only [Act.put, List.getElem_toArray, List.getElem_cons_succ, List.getElem_cons_zero, List.setIfInBounds_toArray, List.set_cons_zero, List.set_cons_succ]
              refine wpAnyH_take (i := 11) (v := ?_) rfl (by kernel_rfl) (by kernel_rfl) (by kernel_rfl) (fun _ _ _ h => h) (Or.inl ⟨by rfl, ?_⟩) (by assumption) ?_
              rotate_left
              · intro w hSw; (try dsimp only at hSw); go_simp <;> with_reducible rfl
              try simp only [Act.put, List.getElem_toArray, List.getElem_cons_succ, List.getElem_cons_zero, List.setIfInBounds_toArray, List.set_cons_zero, List.set_cons_succ]
              refine wpAnyH_ready (rs := [12]) (by kernel_rfl) (by simp) ?_
              refine AllReadyH.cons rfl (fun K hK => ?_) AllReadyH.nil
              go_simp
              refine hK.out _ _ (by (try dsimp only); first | exact ⟨EC.out.cellA _ 0 rfl, EC.out.cellA _ 1 rfl, EC.out.cellA _ 2 rfl, EC.out.cellA _ 3 rfl, EC.out.cellA _ 4 rfl, EC.out.cellA _ 5 rfl, EC.out.cellA _ 6 rfl, EC.out.cellA _ 7 rfl, EC.out.cellA _ 8 rfl⟩ | fail) (fun hHeld => ?_)
              clear hK K
              try simp only [Act.put, List.getElem_toArray, List.getElem_cons_succ, List.getElem_cons_zero, List.setIfInBounds_toArray, List.set_cons_zero, List.set_cons_succ]
              refine wpAnyH_ready (rs := [13]) (by kernel_rfl) (by simp) ?_
              refine AllReadyH.cons rfl (fun K hK => ?_) AllReadyH.nil
              go_simp
              refine hK.out _ _ (by (try dsimp only); exact ⟨EC.out.cellA _ 0 rfl, EC.out.cellA _ 1 rfl, EC.out.cellA _ 2 rfl, EC.out.cellA _ 3 rfl, EC.out.cellA _ 4 rfl, EC.out.cellA _ 5 rfl, EC.out.cellA _ 6 rfl, EC.out.cellA _ 7 rfl, EC.out.cellA _ 8 rfl⟩) (fun hHeld => ?_)
              clear hK K
              try simp only [Act.put, List.getElem_toArray, List.getElem_cons_succ, List.getElem_cons_zero, List.setIfInBounds_toArray, List.set_cons_zero, List.set_cons_succ]
              refine wpAnyH_take (i := 14) (v := ?_) rfl (by kernel_rfl) (by kernel_rfl) (by kernel_rfl) (fun _ _ _ h => h) (Or.inl ⟨by rfl, ?_⟩) (by assumption) ?_
              rotate_left
              · intro w hSw; (try dsimp only at hSw); go_simp <;> with_reducible rfl
              try simp only [Act.put, List.getElem_toArray, List.getElem_cons_succ, List.getElem_cons_zero, List.setIfInBounds_toArray, List.set_cons_zero, List.set_cons_succ]
              refine wpAnyH_done (by kernel_rfl) ?_ _
              go_wp2_with fail
              go_meet
              exact ⟨_, _, _, _, _, _, _, _, _, rfl, rfl, Lib.hid ((EC.out.box3 _ _ _ _).subL HOL.out (List.Sublist.cons_cons _ (List.Sublist.cons _ (List.Sublist.cons _ (List.Sublist.cons _ (List.Sublist.refl _))))))⟩
            · go_simp
              refine hK.out _ _ (by (try dsimp only); first | exact ⟨EC.out.cellA _ 0 rfl, EC.out.cellA _ 1 rfl, EC.out.cellA _ 2 rfl, EC.out.cellA _ 3 rfl, EC.out.cellA _ 4 rfl, EC.out.cellA _ 5 rfl, EC.out.cellA _ 6 rfl, EC.out.cellA _ 7 rfl, EC.out.cellA _ 8 rfl⟩ | fail) (fun hHeld => ?_)
              have EB := Lib.hid (StB.new EC.out 49)
              try simp only [World.size_alloc] at EB HOL
              clear EC c20 c21 c22 c10 c11 c12 c00 c01 c02
              obtain ⟨c20, c21, c22, c10, c11, c12, c00, c01, c02, -⟩ := EB.out.st.cells
              (try clear t0 t1 t2 f0 f1 f2)
              obtain ⟨-, t0, t1, t2, fr, -, -⟩ := EB.out.bx
              have f0 := fr 0
              have f1 := fr 1
              have f2 := fr 2
              clear fr
              clear hK K
              try simp only [Act.put, List.getElem_toArray, List.getElem_cons_succ, List.getElem_cons_zero, List.setIfInBounds_toArray, List.set_cons_zero, List.set_cons_succ]
              refine wpAnyH_ready (rs := [8]) (by kernel_rfl) (by simp) ?_
              refine AllReadyH.cons rfl (fun K hK => ?_) AllReadyH.nil
              go_simp
              go_at_call 35
              have EQ := Lib.hid EB.out.st
              refine (contract_pair_spec ⟨(EQ.out.rowAt 2 0 rfl rfl), (EQ.out.rowAt 2 1 rfl rfl), (EQ.out.rowAt 2 2 rfl rfl)⟩ ⟨(EQ.out.rowAt 1 0 rfl rfl), (EQ.out.rowAt 1 1 rfl rfl), (EQ.out.rowAt 1 2 rfl rfl)⟩ (EQ.out.rowAt 0 0 rfl rfl) (Nat.le_refl _) (Nat.le_refl _) (Nat.le_refl _) ⟨(by have := BtL.out; omega), (by have := BtD.out; omega), (by have := BtX.out; omega)⟩ ⟨(by have := BuL.out; omega), (by have := BuD.out; omega), (by have := BuX.out; omega)⟩ (by have := Bx.out; omega)).mono ?_
              rw [← HGL.out, ← HGD.out, ← HGX.out, ← HOK.out]
              rintro e w7 ⟨v0, v1, v2, rfl, ho, hb⟩
              obtain ⟨b7, d7, rfl, -⟩ := ints_form ho.rows.1.rd
              obtain ⟨b8, d8, rfl, -⟩ := ints_form ho.rows.2.1.rd
              obtain ⟨b9, d9, rfl, -⟩ := ints_form ho.rows.2.2.rd
              replace EB := Lib.hid (EB.out.add hb ho)
              clear hb ho
              clear EQ c20 c21 c22 c10 c11 c12 c00 c01 c02
              obtain ⟨c20, c21, c22, c10, c11, c12, c00, c01, c02, -⟩ := EB.out.st.cells
              (try clear t0 t1 t2 f0 f1 f2)
              obtain ⟨-, t0, t1, t2, fr, -, -⟩ := EB.out.bx
              have f0 := fr 0
              have f1 := fr 1
              have f2 := fr 2
              clear fr
              go_wp2_with fail
              refine hK.out _ _ (by (try dsimp only); exact ⟨c20, c21, c22, c10, c11, c12, c00, c01, c02⟩) (fun hHeld => ?_)
              clear hK K
              try simp only [Act.put, List.getElem_toArray, List.getElem_cons_succ, List.getElem_cons_zero, List.setIfInBounds_toArray, List.set_cons_zero, List.set_cons_succ]
              refine wpAnyH_take (i := 9) (v := ?_) rfl (by kernel_rfl) (by kernel_rfl) (by kernel_rfl) (fun _ _ _ h => h) (Or.inl ⟨by rfl, ?_⟩) (by assumption) ?_
              rotate_left
              · intro w hSw; (try dsimp only at hSw); go_simp <;> with_reducible rfl
              try simp only [Act.put, List.getElem_toArray, List.getElem_cons_succ, List.getElem_cons_zero, List.setIfInBounds_toArray, List.set_cons_zero, List.set_cons_succ]
              refine wpAnyH_take (i := 10) (v := ?_) rfl (by kernel_rfl) (by kernel_rfl) (by kernel_rfl) (fun _ _ _ h => h) (Or.inl ⟨by rfl, ?_⟩) (by assumption) ?_
              rotate_left
              · intro w hSw; (try dsimp only at hSw); go_simp <;> with_reducible rfl
              try simp only [Act.put, List.getElem_toArray, List.getElem_cons_succ, List.getElem_cons_zero, List.setIfInBounds_toArray, List.set_cons_zero, List.set_cons_succ]
              refine wpAnyH_take (i := 11) (v := ?_) rfl (by kernel_rfl) (by kernel_rfl) (by kernel_rfl) (fun _ _ _ h => h) (Or.inl ⟨by rfl, ?_⟩) (by assumption) ?_
              rotate_left
              · intro w hSw; (try dsimp only at hSw); go_simp <;> with_reducible rfl
              try simp only [Act.put, List.getElem_toArray, List.getElem_cons_succ, List.getElem_cons_zero, List.setIfInBounds_toArray, List.set_cons_zero, List.set_cons_succ]
              refine wpAnyH_ready (rs := [13]) (by kernel_rfl) (by simp) ?_
              refine AllReadyH.cons rfl (fun K hK => ?_) AllReadyH.nil
              go_simp
              refine hK.out _ _ (by (try dsimp only); exact ⟨EB.out.cell3 _ _ _ 0 rfl, EB.out.cell3 _ _ _ 1 rfl, EB.out.cell3 _ _ _ 2 rfl, EB.out.cell3 _ _ _ 3 rfl, EB.out.cell3 _ _ _ 4 rfl, EB.out.cell3 _ _ _ 5 rfl, EB.out.cell3 _ _ _ 6 rfl, EB.out.cell3 _ _ _ 7 rfl, EB.out.cell3 _ _ _ 8 rfl⟩) (fun hHeld => ?_)
              clear hK K
              try simp only [Act.put, List.getElem_toArray, List.getElem_cons_succ, List.getElem_cons_zero, List.setIfInBounds_toArray, List.set_cons_zero, List.set_cons_succ]
              refine wpAnyH_take (i := 14) (v := ?_) rfl (by kernel_rfl) (by kernel_rfl) (by kernel_rfl) (fun _ _ _ h => h) (Or.inl ⟨by rfl, ?_⟩) (by assumption) ?_
              rotate_left
              · intro w hSw; (try dsimp only at hSw); go_simp <;> with_reducible rfl
              try simp only [Act.put, List.getElem_toArray, List.getElem_cons_succ, List.getElem_cons_zero, List.setIfInBounds_toArray, List.set_cons_zero, List.set_cons_succ]
              refine wpAnyH_done (by kernel_rfl) ?_ _
              go_wp2_with fail
              go_meet
              exact ⟨_, _, _, _, _, _, _, _, _, rfl, rfl, Lib.hid ((EB.out.put _ _ _).subL HOL.out (List.Sublist.cons_cons _ (List.Sublist.cons _ (List.Sublist.cons _ (List.Sublist.cons _ (List.Sublist.refl _))))))⟩
          · go_simp
            refine hK.out _ _ (by (try dsimp only); first | exact ⟨EC.out.cellA _ 0 rfl, EC.out.cellA _ 1 rfl, EC.out.cellA _ 2 rfl, EC.out.cellA _ 3 rfl, EC.out.cellA _ 4 rfl, EC.out.cellA _ 5 rfl, EC.out.cellA _ 6 rfl, EC.out.cellA _ 7 rfl, EC.out.cellA _ 8 rfl⟩ | fail) (fun hHeld => ?_)
            have EB := Lib.hid (StB.new EC.out 49)
            try simp only [World.size_alloc] at EB HOL
            clear EC c20 c21 c22 c10 c11 c12 c00 c01 c02
            obtain ⟨c20, c21, c22, c10, c11, c12, c00, c01, c02, -⟩ := EB.out.st.cells
            (try clear t0 t1 t2 f0 f1 f2)
            obtain ⟨-, t0, t1, t2, fr, -, -⟩ := EB.out.bx
            have f0 := fr 0
            have f1 := fr 1
            have f2 := fr 2
            clear fr
            clear hK K
            try simp only [Act.put, List.getElem_toArray, List.getElem_cons_succ, List.getElem_cons_zero, List.setIfInBounds_toArray, List.set_cons_zero, List.set_cons_succ]
            refine wpAnyH_ready (rs := [7]) (by kernel_rfl) (by simp) ?_
            refine AllReadyH.cons rfl (fun K hK => ?_) AllReadyH.nil
            go_simp
            go_at_call 32
            have EQ := Lib.hid EB.out.st
            refine (to_row ((EQ.out.rdAt 6 rfl).mono EQ.out.bel.size) (Nat.le_refl _) (by have := Bx.out; omega)).mono ?_
            rintro e w6 ⟨v, rfl, ho, hb⟩
            obtain ⟨b6, d6, rfl, -⟩ := ints_form ho.rd
            replace EB := Lib.hid (EB.out.add hb (OwnG.one ho))
            clear hb ho
            clear EQ c20 c21 c22 c10 c11 c12 c00 c01 c02
            obtain ⟨c20, c21, c22, c10, c11, c12, c00, c01, c02, -⟩ := EB.out.st.cells
            (try clear t0 t1 t2 f0 f1 f2)
            obtain ⟨-, t0, t1, t2, fr, -, -⟩ := EB.out.bx
            have f0 := fr 0
            have f1 := fr 1
            have f2 := fr 2
            clear fr
            go_wp2_with fail
            refine hK.out _ _ (by (try dsimp only); exact ⟨c20, c21, c22, c10, c11, c12, c00, c01, c02⟩) (fun hHeld => ?_)
            clear hK K
            try simp only [Act.put, List.getElem_toArray, List.getElem_cons_succ, List.getElem_cons_zero, List.setIfInBounds_toArray, List.set_cons_zero, List.set_cons_succ]
            refine wpAnyH_ready (rs := [8]) (by kernel_rfl) (by simp) ?_
            refine AllReadyH.cons rfl (fun K hK => ?_) AllReadyH.nil
            go_simp
            go_at_call 35
            have EQ := Lib.hid EB.out.st
            refine (contract_pair_spec ⟨(EQ.out.rowAt 2 0 rfl rfl), (EQ.out.rowAt 2 1 rfl rfl), (EQ.out.rowAt 2 2 rfl rfl)⟩ ⟨(EQ.out.rowAt 1 0 rfl rfl), (EQ.out.rowAt 1 1 rfl rfl), (EQ.out.rowAt 1 2 rfl rfl)⟩ (EQ.out.rowAt 0 0 rfl rfl) (Nat.le_refl _) (Nat.le_refl _) (Nat.le_refl _) ⟨(by have := BtL.out; omega), (by have := BtD.out; omega), (by have := BtX.out; omega)⟩ ⟨(by have := BuL.out; omega), (by have := BuD.out; omega), (by have := BuX.out; omega)⟩ (by have := Bx.out; omega)).mono ?_
            rw [← HGL.out, ← HGD.out, ← HGX.out, ← HOK.out]
            rintro e w7 ⟨v0, v1, v2, rfl, ho, hb⟩
            obtain ⟨b7, d7, rfl, -⟩ := ints_form ho.rows.1.rd
            obtain ⟨b8, d8, rfl, -⟩ := ints_form ho.rows.2.1.rd
            obtain ⟨b9, d9, rfl, -⟩ := ints_form ho.rows.2.2.rd
            replace EB := Lib.hid (EB.out.add hb ho)
            clear hb ho
            clear EQ c20 c21 c22 c10 c11 c12 c00 c01 c02
            obtain ⟨c20, c21, c22, c10, c11, c12, c00, c01, c02, -⟩ := EB.out.st.cells
            (try clear t0 t1 t2 f0 f1 f2)
            obtain ⟨-, t0, t1, t2, fr, -, -⟩ := EB.out.bx
            have f0 := fr 0
            have f1 := fr 1
            have f2 := fr 2
            clear fr
            go_wp2_with fail
            refine hK.out _ _ (by (try dsimp only); exact ⟨c20, c21, c22, c10, c11, c12, c00, c01, c02⟩) (fun hHeld => ?_)
            clear hK K
            try simp only [Act.put, List.getElem_toArray, List.getElem_cons_succ, List.getElem_cons_zero, List.setIfInBounds_toArray, List.set_cons_zero, List.set_cons_succ]
            refine wpAnyH_take (i := 9) (v := ?_) rfl (by kernel_rfl) (by kernel_rfl) (by kernel_rfl) (fun _ _ _ h => h) (Or.inl ⟨by rfl, ?_⟩) (by assumption) ?_
            rotate_left
            · intro w hSw; (try dsimp only at hSw); go_simp <;> with_reducible rfl
            try simp only [Act.put, List.getElem_toArray, List.getElem_cons_succ, List.getElem_cons_zero, List.setIfInBounds_toArray, List.set_cons_zero, List.set_cons_succ]
            refine wpAnyH_take (i := 10) (v := ?_) rfl (by kernel_rfl) (by kernel_rfl) (by kernel_rfl) (fun _ _ _ h => h) (Or.inl ⟨by rfl, ?_⟩) (by assumption) ?_
            rotate_left
            · intro w hSw; (try dsimp only at hSw); go_simp <;> with_reducible rfl
            try simp only [Act.put, List.getElem_toArray, List.getElem_cons_succ, List.getElem_cons_zero, List.setIfInBounds_toArray, List.set_cons_zero, List.set_cons_succ]
            refine wpAnyH_take (i := 11) (v := ?_) rfl (by kernel_rfl) (by kernel_rfl) (by kernel_rfl) (fun _ _ _ h => h) (Or.inl ⟨by rfl, ?_⟩) (by assumption) ?_
            rotate_left
            · intro w hSw; (try dsimp only at hSw); go_simp <;> with_reducible rfl
            try simp only [Act.put, List.getElem_toArray, List.getElem_cons_succ, List.getElem_cons_zero, List.setIfInBounds_toArray, List.set_cons_zero, List.set_cons_succ]
            refine wpAnyH_ready (rs := [13]) (by kernel_rfl) (by simp) ?_
            refine AllReadyH.cons rfl (fun K hK => ?_) AllReadyH.nil
            go_simp
            refine hK.out _ _ (by (try dsimp only); exact ⟨EB.out.cell3 _ _ _ 0 rfl, EB.out.cell3 _ _ _ 1 rfl, EB.out.cell3 _ _ _ 2 rfl, EB.out.cell3 _ _ _ 3 rfl, EB.out.cell3 _ _ _ 4 rfl, EB.out.cell3 _ _ _ 5 rfl, EB.out.cell3 _ _ _ 6 rfl, EB.out.cell3 _ _ _ 7 rfl, EB.out.cell3 _ _ _ 8 rfl⟩) (fun hHeld => ?_)
            clear hK K
            try simp only [Act.put, List.getElem_toArray, List.getElem_cons_succ, List.getElem_cons_zero, List.setIfInBounds_toArray, List.set_cons_zero, List.set_cons_succ]
            refine wpAnyH_take (i := 14) (v := ?_) rfl (by kernel_rfl) (by kernel_rfl) (by kernel_rfl) (fun _ _ _ h => h) (Or.inl ⟨by rfl, ?_⟩) (by assumption) ?_
            rotate_left
            · intro w hSw; (try dsimp only at hSw); go_simp <;> with_reducible rfl
            try simp only [Act.put, List.getElem_toArray, List.getElem_cons_succ, List.getElem_cons_zero, List.setIfInBounds_toArray, List.set_cons_zero, List.set_cons_succ]
            refine wpAnyH_done (by kernel_rfl) ?_ _
            go_wp2_with fail
            go_meet
            exact ⟨_, _, _, _, _, _, _, _, _, rfl, rfl, Lib.hid ((EB.out.put _ _ _).subL HOL.out (List.Sublist.cons_cons _ (List.Sublist.cons _ (List.Sublist.cons _ (List.Sublist.cons _ (List.Sublist.refl _))))))⟩
        · go_simp
          refine hK.out _ _ (by (try dsimp only); first | exact ⟨EC.out.cellA _ 0 rfl, EC.out.cellA _ 1 rfl, EC.out.cellA _ 2 rfl, EC.out.cellA _ 3 rfl, EC.out.cellA _ 4 rfl, EC.out.cellA _ 5 rfl, EC.out.cellA _ 6 rfl, EC.out.cellA _ 7 rfl, EC.out.cellA _ 8 rfl⟩ | fail) (fun hHeld => ?_)
          have EB := Lib.hid (StB.new EC.out 49)
          try simp only [World.size_alloc] at EB HOL
          clear EC c20 c21 c22 c10 c11 c12 c00 c01 c02
          obtain ⟨c20, c21, c22, c10, c11, c12, c00, c01, c02, -⟩ := EB.out.st.cells
          (try clear t0 t1 t2 f0 f1 f2)
          obtain ⟨-, t0, t1, t2, fr, -, -⟩ := EB.out.bx
          have f0 := fr 0
          have f1 := fr 1
          have f2 := fr 2
          clear fr
          clear hK K
          try simp only [Act.put, List.getElem_toArray, List.getElem_cons_succ, List.getElem_cons_zero, List.setIfInBounds_toArray, List.set_cons_zero, List.set_cons_succ]
          refine wpAnyH_ready (rs := [5]) (by kernel_rfl) (by simp) ?_
          refine AllReadyH.cons rfl (fun K hK => ?_) AllReadyH.nil
          go_simp
          go_at_call 37
          have EQ := Lib.hid EB.out.st
          refine (to_ten ⟨((EQ.out.rdAt 3 rfl).mono EQ.out.bel.size), ((EQ.out.rdAt 4 rfl).mono EQ.out.bel.size), ((EQ.out.rdAt 5 rfl).mono EQ.out.bel.size)⟩ (Nat.le_refl _) (by have := BuL.out; omega) (by have := BuD.out; omega) (by have := BuX.out; omega)).mono ?_
          rintro e w5 ⟨v0, v1, v2, rfl, ho, hb⟩
          obtain ⟨b3, d3, rfl, -⟩ := ints_form ho.rows.1.rd
          obtain ⟨b4, d4, rfl, -⟩ := ints_form ho.rows.2.1.rd
          obtain ⟨b5, d5, rfl, -⟩ := ints_form ho.rows.2.2.rd
          replace EB := Lib.hid (EB.out.add hb ho)
          clear hb ho
          clear EQ c20 c21 c22 c10 c11 c12 c00 c01 c02
          obtain ⟨c20, c21, c22, c10, c11, c12, c00, c01, c02, -⟩ := EB.out.st.cells
          (try clear t0 t1 t2 f0 f1 f2)
          obtain ⟨-, t0, t1, t2, fr, -, -⟩ := EB.out.bx
          have f0 := fr 0
          have f1 := fr 1
          have f2 := fr 2
          clear fr
          go_wp2_with fail
          refine hK.out _ _ (by (try dsimp only); exact ⟨c20, c21, c22, c10, c11, c12, c00, c01, c02⟩) (fun hHeld => ?_)
          clear hK K
          try simp only [Act.put, List.getElem_toArray, List.getElem_cons_succ, List.getElem_cons_zero, List.setIfInBounds_toArray, List.set_cons_zero, List.set_cons_succ]
          refine wpAnyH_ready (rs := [7]) (by kernel_rfl) (by simp) ?_
          refine AllReadyH.cons rfl (fun K hK => ?_) AllReadyH.nil
          go_simp
          go_at_call 32
          have EQ := Lib.hid EB.out.st
          refine (to_row ((EQ.out.rdAt 6 rfl).mono EQ.out.bel.size) (Nat.le_refl _) (by have := Bx.out; omega)).mono ?_
          rintro e w6 ⟨v, rfl, ho, hb⟩
          obtain ⟨b6, d6, rfl, -⟩ := ints_form ho.rd
          replace EB := Lib.hid (EB.out.add hb (OwnG.one ho))
          clear hb ho
          clear EQ c20 c21 c22 c10 c11 c12 c00 c01 c02
          obtain ⟨c20, c21, c22, c10, c11, c12, c00, c01, c02, -⟩ := EB.out.st.cells
          (try clear t0 t1 t2 f0 f1 f2)
          obtain ⟨-, t0, t1, t2, fr, -, -⟩ := EB.out.bx
          have f0 := fr 0
          have f1 := fr 1
          have f2 := fr 2
          clear fr
          go_wp2_with fail
          refine hK.out _ _ (by (try dsimp only); exact ⟨c20, c21, c22, c10, c11, c12, c00, c01, c02⟩) (fun hHeld => ?_)
          clear hK K
          try simp only [Act.put, List.getElem_toArray, List.getElem_cons_succ, List.getElem_cons_zero, List.setIfInBounds_toArray, List.set_cons_zero, List.set_cons_succ]
          refine wpAnyH_ready (rs := [8]) (by kernel_rfl) (by simp) ?_
          refine AllReadyH.cons rfl (fun K hK => ?_) AllReadyH.nil
          go_simp
          go_at_call 35
          have EQ := Lib.hid EB.out.st
          refine (contract_pair_spec ⟨(EQ.out.rowAt 2 0 rfl rfl), (EQ.out.rowAt 2 1 rfl rfl), (EQ.out.rowAt 2 2 rfl rfl)⟩ ⟨(EQ.out.rowAt 1 0 rfl rfl), (EQ.out.rowAt 1 1 rfl rfl), (EQ.out.rowAt 1 2 rfl rfl)⟩ (EQ.out.rowAt 0 0 rfl rfl) (Nat.le_refl _) (Nat.le_refl _) (Nat.le_refl _) ⟨(by have := BtL.out; omega), (by have := BtD.out; omega), (by have := BtX.out; omega)⟩ ⟨(by have := BuL.out; omega), (by have := BuD.out; omega), (by have := BuX.out; omega)⟩ (by have := Bx.out; omega)).mono ?_
          rw [← HGL.out, ← HGD.out, ← HGX.out, ← HOK.out]
          rintro e w7 ⟨v0, v1, v2, rfl, ho, hb⟩
          obtain ⟨b7, d7, rfl, -⟩ := ints_form ho.rows.1.rd
          obtain ⟨b8, d8, rfl, -⟩ := ints_form ho.rows.2.1.rd
          obtain ⟨b9, d9, rfl, -⟩ := ints_form ho.rows.2.2.rd
          replace EB := Lib.hid (EB.out.add hb ho)
          clear hb ho
          clear EQ c20 c21 c22 c10 c11 c12 c00 c01 c02
          obtain ⟨c20, c21, c22, c10, c11, c12, c00, c01, c02, -⟩ := EB.out.st.cells
          (try clear t0 t1 t2 f0 f1 f2)
          obtain ⟨-, t0, t1, t2, fr, -, -⟩ := EB.out.bx
          have f0 := fr 0
          have f1 := fr 1
          have f2 := fr 2
          clear fr
          go_wp2_with fail
          refine hK.out _ _ (by (try dsimp only); exact ⟨c20, c21, c22, c10, c11, c12, c00, c01, c02⟩) (fun hHeld => ?_)
          clear hK K
          try simp only [Act.put, List.getElem_toArray, List.getElem_cons_succ, List.getElem_cons_zero, List.setIfInBounds_toArray, List.set_cons_zero, List.set_cons_succ]
          refine wpAnyH_take (i := 9) (v := ?_) rfl (by kernel_rfl) (by kernel_rfl) (by kernel_rfl) (fun _ _ _ h => h) (Or.inl ⟨by rfl, ?_⟩) (by assumption) ?_
          rotate_left
          · intro w hSw; (try dsimp only at hSw); go_simp <;> with_reducible rfl
          try simp only [Act.put, List.getElem_toArray, List.getElem_cons_succ, List.getElem_cons_zero, List.setIfInBounds_toArray, List.set_cons_zero, List.set_cons_succ]
          refine wpAnyH_take (i := 10) (v := ?_) rfl (by kernel_rfl) (by kernel_rfl) (by kernel_rfl) (fun _ _ _ h => h) (Or.inl ⟨by rfl, ?_⟩) (by assumption) ?_
          rotate_left
          · intro w hSw; (try dsimp only at hSw); go_simp <;> with_reducible rfl
          try simp only [Act.put, List.getElem_toArray, List.getElem_cons_succ, List.getElem_cons_zero, List.setIfInBounds_toArray, List.set_cons_zero, List.set_cons_succ]
          refine wpAnyH_take (i := 11) (v := ?_) rfl (by kernel_rfl) (by kernel_rfl) (by kernel_rfl) (fun _ _ _ h => h) (Or.inl ⟨by rfl, ?_⟩) (by assumption) ?_
          rotate_left
          · intro w hSw; (try dsimp only at hSw); go_simp <;> with_reducible rfl
          try simp only [Act.put, List.getElem_toArray, List.getElem_cons_succ, List.getElem_cons_zero, List.setIfInBounds_toArray, List.set_cons_zero, List.set_cons_succ]
          refine wpAnyH_ready (rs := [13]) (by kernel_rfl) (by simp) ?_
          refine AllReadyH.cons rfl (fun K hK => ?_) AllReadyH.nil
          go_simp
          refine hK.out _ _ (by (try dsimp only); exact ⟨EB.out.cell3 _ _ _ 0 rfl, EB.out.cell3 _ _ _ 1 rfl, EB.out.cell3 _ _ _ 2 rfl, EB.out.cell3 _ _ _ 3 rfl, EB.out.cell3 _ _ _ 4 rfl, EB.out.cell3 _ _ _ 5 rfl, EB.out.cell3 _ _ _ 6 rfl, EB.out.cell3 _ _ _ 7 rfl, EB.out.cell3 _ _ _ 8 rfl⟩) (fun hHeld => ?_)
          clear hK K
          try simp only [Act.put, List.getElem_toArray, List.getElem_cons_succ, List.getElem_cons_zero, List.setIfInBounds_toArray, List.set_cons_zero, List.set_cons_succ]
          refine wpAnyH_take (i := 14) (v := ?_) rfl (by kernel_rfl) (by kernel_rfl) (by kernel_rfl) (fun _ _ _ h => h) (Or.inl ⟨by rfl, ?_⟩) (by assumption) ?_
          rotate_left
          · intro w hSw; (try dsimp only at hSw); go_simp <;> with_reducible rfl
          try simp only [Act.put, List.getElem_toArray, List.getElem_cons_succ, List.getElem_cons_zero, List.setIfInBounds_toArray, List.set_cons_zero, List.set_cons_succ]
          refine wpAnyH_done (by kernel_rfl) ?_ _
          go_wp2_with fail
          go_meet
          exact ⟨_, _, _, _, _, _, _, _, _, rfl, rfl, Lib.hid ((EB.out.put _ _ _).subL HOL.out (List.Sublist.cons_cons _ (List.Sublist.cons _ (List.Sublist.cons _ (List.Sublist.cons _ (List.Sublist.refl _))))))⟩
      · go_simp
        refine hK.out _ _ (by (try dsimp only); first | exact ⟨EC.out.cellA _ 0 rfl, EC.out.cellA _ 1 rfl, EC.out.cellA _ 2 rfl, EC.out.cellA _ 3 rfl, EC.out.cellA _ 4 rfl, EC.out.cellA _ 5 rfl, EC.out.cellA _ 6 rfl, EC.out.cellA _ 7 rfl, EC.out.cellA _ 8 rfl⟩ | fail) (fun hHeld => ?_)
        have EB := Lib.hid (StB.new EC.out 49)
        try simp only [World.size_alloc] at EB HOL
        clear EC c20 c21 c22 c10 c11 c12 c00 c01 c02
        obtain ⟨c20, c21, c22, c10, c11, c12, c00, c01, c02, -⟩ := EB.out.st.cells
        (try clear t0 t1 t2 f0 f1 f2)
        obtain ⟨-, t0, t1, t2, fr, -, -⟩ := EB.out.bx
        have f0 := fr 0
        have f1 := fr 1
        have f2 := fr 2
        clear fr
        clear hK K
        try simp only [Act.put, List.getElem_toArray, List.getElem_cons_succ, List.getElem_cons_zero, List.setIfInBounds_toArray, List.set_cons_zero, List.set_cons_succ]
        refine wpAnyH_ready (rs := [3]) (by kernel_rfl) (by simp) ?_
        refine AllReadyH.cons rfl (fun K hK => ?_) AllReadyH.nil
        go_simp
        go_at_call 37
        have EQ := Lib.hid EB.out.st
        refine (to_ten ⟨((EQ.out.rdAt 0 rfl).mono EQ.out.bel.size), ((EQ.out.rdAt 1 rfl).mono EQ.out.bel.size), ((EQ.out.rdAt 2 rfl).mono EQ.out.bel.size)⟩ (Nat.le_refl _) (by have := BtL.out; omega) (by have := BtD.out; omega) (by have := BtX.out; omega)).mono ?_
        rintro e w4 ⟨v0, v1, v2, rfl, ho, hb⟩
        obtain ⟨b0, d0, rfl, -⟩ := ints_form ho.rows.1.rd
        obtain ⟨b1, d1, rfl, -⟩ := ints_form ho.rows.2.1.rd
        obtain ⟨b2, d2, rfl, -⟩ := ints_form ho.rows.2.2.rd
        replace EB := Lib.hid (EB.out.add hb ho)
        clear hb ho
        clear EQ c20 c21 c22 c10 c11 c12 c00 c01 c02
        obtain ⟨c20, c21, c22, c10, c11, c12, c00, c01, c02, -⟩ := EB.out.st.cells
        (try clear t0 t1 t2 f0 f1 f2)
        obtain ⟨-, t0, t1, t2, fr, -, -⟩ := EB.out.bx
        have f0 := fr 0
        have f1 := fr 1
        have f2 := fr 2
        clear fr
        go_wp2_with fail
        refine hK.out _ _ (by (try dsimp only); exact ⟨c20, c21, c22, c10, c11, c12, c00, c01, c02⟩) (fun hHeld => ?_)
        clear hK K
        try simp only [Act.put, List.getElem_toArray, List.getElem_cons_succ, List.getElem_cons_zero, List.setIfInBounds_toArray, List.set_cons_zero, List.set_cons_succ]
        refine wpAnyH_ready (rs := [5]) (by kernel_rfl) (by simp) ?_
        refine AllReadyH.cons rfl (fun K hK => ?_) AllReadyH.nil
        go_simp
        go_at_call 37
        have EQ := Lib.hid EB.out.st
        refine (to_ten ⟨((EQ.out.rdAt 3 rfl).mono EQ.out.bel.size), ((EQ.out.rdAt 4 rfl).mono EQ.out.bel.size), ((EQ.out.rdAt 5 rfl).mono EQ.out.bel.size)⟩ (Nat.le_refl _) (by have := BuL.out; omega) (by have := BuD.out; omega) (by have := BuX.out; omega)).mono ?_
        rintro e w5 ⟨v0, v1, v2, rfl, ho, hb⟩
        obtain ⟨b3, d3, rfl, -⟩ := ints_form ho.rows.1.rd
        obtain ⟨b4, d4, rfl, -⟩ := ints_form ho.rows.2.1.rd
        obtain ⟨b5, d5, rfl, -⟩ := ints_form ho.rows.2.2.rd
        replace EB := Lib.hid (EB.out.add hb ho)
        clear hb ho
        clear EQ c20 c21 c22 c10 c11 c12 c00 c01 c02
        obtain ⟨c20, c21, c22, c10, c11, c12, c00, c01, c02, -⟩ := EB.out.st.cells
        (try clear t0 t1 t2 f0 f1 f2)
        obtain ⟨-, t0, t1, t2, fr, -, -⟩ := EB.out.bx
        have f0 := fr 0
        have f1 := fr 1
        have f2 := fr 2
        clear fr
        go_wp2_with fail
        refine hK.out _ _ (by (try dsimp only); exact ⟨c20, c21, c22, c10, c11, c12, c00, c01, c02⟩) (fun hHeld => ?_)
        clear hK K
        try simp only [Act.put, List.getElem_toArray, List.getElem_cons_succ, List.getElem_cons_zero, List.setIfInBounds_toArray, List.set_cons_zero, List.set_cons_succ]
        refine wpAnyH_ready (rs := [7]) (by kernel_rfl) (by simp) ?_
        refine AllReadyH.cons rfl (fun K hK => ?_) AllReadyH.nil
        go_simp
        go_at_call 32
        have EQ := Lib.hid EB.out.st
        refine (to_row ((EQ.out.rdAt 6 rfl).mono EQ.out.bel.size) (Nat.le_refl _) (by have := Bx.out; omega)).mono ?_
        rintro e w6 ⟨v, rfl, ho, hb⟩
        obtain ⟨b6, d6, rfl, -⟩ := ints_form ho.rd
        replace EB := Lib.hid (EB.out.add hb (OwnG.one ho))
        clear hb ho
        clear EQ c20 c21 c22 c10 c11 c12 c00 c01 c02
        obtain ⟨c20, c21, c22, c10, c11, c12, c00, c01, c02, -⟩ := EB.out.st.cells
        (try clear t0 t1 t2 f0 f1 f2)
        obtain ⟨-, t0, t1, t2, fr, -, -⟩ := EB.out.bx
        have f0 := fr 0
        have f1 := fr 1
        have f2 := fr 2
        clear fr
        go_wp2_with fail
        refine hK.out _ _ (by (try dsimp only); exact ⟨c20, c21, c22, c10, c11, c12, c00, c01, c02⟩) (fun hHeld => ?_)
        clear hK K
        try simp only [Act.put, List.getElem_toArray, List.getElem_cons_succ, List.getElem_cons_zero, List.setIfInBounds_toArray, List.set_cons_zero, List.set_cons_succ]
        refine wpAnyH_ready (rs := [8]) (by kernel_rfl) (by simp) ?_
        refine AllReadyH.cons rfl (fun K hK => ?_) AllReadyH.nil
        go_simp
        go_at_call 35
        have EQ := Lib.hid EB.out.st
        refine (contract_pair_spec ⟨(EQ.out.rowAt 2 0 rfl rfl), (EQ.out.rowAt 2 1 rfl rfl), (EQ.out.rowAt 2 2 rfl rfl)⟩ ⟨(EQ.out.rowAt 1 0 rfl rfl), (EQ.out.rowAt 1 1 rfl rfl), (EQ.out.rowAt 1 2 rfl rfl)⟩ (EQ.out.rowAt 0 0 rfl rfl) (Nat.le_refl _) (Nat.le_refl _) (Nat.le_refl _) ⟨(by have := BtL.out; omega), (by have := BtD.out; omega), (by have := BtX.out; omega)⟩ ⟨(by have := BuL.out; omega), (by have := BuD.out; omega), (by have := BuX.out; omega)⟩ (by have := Bx.out; omega)).mono ?_
        rw [← HGL.out, ← HGD.out, ← HGX.out, ← HOK.out]
        rintro e w7 ⟨v0, v1, v2, rfl, ho, hb⟩
        obtain ⟨b7, d7, rfl, -⟩ := ints_form ho.rows.1.rd
        obtain ⟨b8, d8, rfl, -⟩ := ints_form ho.rows.2.1.rd
        obtain ⟨b9, d9, rfl, -⟩ := ints_form ho.rows.2.2.rd
        replace EB := Lib.hid (EB.out.add hb ho)
        clear hb ho
        clear EQ c20 c21 c22 c10 c11 c12 c00 c01 c02
        obtain ⟨c20, c21, c22, c10, c11, c12, c00, c01, c02, -⟩ := EB.out.st.cells
        (try clear t0 t1 t2 f0 f1 f2)
        obtain ⟨-, t0, t1, t2, fr, -, -⟩ := EB.out.bx
        have f0 := fr 0
        have f1 := fr 1
        have f2 := fr 2
        clear fr
        go_wp2_with fail
        refine hK.out _ _ (by (try dsimp only); exact ⟨c20, c21, c22, c10, c11, c12, c00, c01, c02⟩) (fun hHeld => ?_)
        clear hK K
        try simp only [Act.put, List.getElem_toArray, List.getElem_cons_succ, List.getElem_cons_zero, List.setIfInBounds_toArray, List.set_cons_zero, List.set_cons_succ]
        refine wpAnyH_take (i := 9) (v := ?_) rfl (by kernel_rfl) (by kernel_rfl) (by kernel_rfl) (fun _ _ _ h => h) (Or.inl ⟨by rfl, ?_⟩) (by assumption) ?_
        rotate_left
        · intro w hSw; (try dsimp only at hSw); go_simp <;> with_reducible rfl
        try simp only [Act.put, List.getElem_toArray, List.getElem_cons_succ, List.getElem_cons_zero, List.setIfInBounds_toArray, List.set_cons_zero, List.set_cons_succ]
        refine wpAnyH_take (i := 10) (v := ?_) rfl (by kernel_rfl) (by kernel_rfl) (by kernel_rfl) (fun _ _ _ h => h) (Or.inl ⟨by rfl, ?_⟩) (by assumption) ?_
        rotate_left
        · intro w hSw; (try dsimp only at hSw); go_simp <;> with_reducible rfl
        try simp only [Act.put, List.getElem_toArray, List.getElem_cons_succ, List.getElem_cons_zero, List.setIfInBounds_toArray, List.set_cons_zero, List.set_cons_succ]
        refine wpAnyH_take (i := 11) (v := ?_) rfl (by kernel_rfl) (by kernel_rfl) (by kernel_rfl) (fun _ _ _ h => h) (Or.inl ⟨by rfl, ?_⟩) (by assumption) ?_
        rotate_left
        · intro w hSw; (try dsimp only at hSw); go_simp <;> with_reducible rfl
        try simp only [Act.put, List.getElem_toArray, List.getElem_cons_succ, List.getElem_cons_zero, List.setIfInBounds_toArray, List.set_cons_zero, List.set_cons_succ]
        refine wpAnyH_ready (rs := [13]) (by kernel_rfl) (by simp) ?_
        refine AllReadyH.cons rfl (fun K hK => ?_) AllReadyH.nil
        go_simp
        refine hK.out _ _ (by (try dsimp only); exact ⟨EB.out.cell3 _ _ _ 0 rfl, EB.out.cell3 _ _ _ 1 rfl, EB.out.cell3 _ _ _ 2 rfl, EB.out.cell3 _ _ _ 3 rfl, EB.out.cell3 _ _ _ 4 rfl, EB.out.cell3 _ _ _ 5 rfl, EB.out.cell3 _ _ _ 6 rfl, EB.out.cell3 _ _ _ 7 rfl, EB.out.cell3 _ _ _ 8 rfl⟩) (fun hHeld => ?_)
        clear hK K
        try simp only [Act.put, List.getElem_toArray, List.getElem_cons_succ, List.getElem_cons_zero, List.setIfInBounds_toArray, List.set_cons_zero, List.set_cons_succ]
        refine wpAnyH_take (i := 14) (v := ?_) rfl (by kernel_rfl) (by kernel_rfl) (by kernel_rfl) (fun _ _ _ h => h) (Or.inl ⟨by rfl, ?_⟩) (by assumption) ?_
        rotate_left
        · intro w hSw; (try dsimp only at hSw); go_simp <;> with_reducible rfl
        try simp only [Act.put, List.getElem_toArray, List.getElem_cons_succ, List.getElem_cons_zero, List.setIfInBounds_toArray, List.set_cons_zero, List.set_cons_succ]
        refine wpAnyH_done (by kernel_rfl) ?_ _
        go_wp2_with fail
        go_meet
        exact ⟨_, _, _, _, _, _, _, _, _, rfl, rfl, Lib.hid ((EB.out.put _ _ _).subL HOL.out (List.Sublist.cons_cons _ (List.Sublist.cons _ (List.Sublist.cons _ (List.Sublist.cons _ (List.Sublist.refl _))))))⟩
    · go_simp
      refine hK.out _ _ (by (try dsimp only); first | exact ⟨EC.out.cellA _ 0 rfl, EC.out.cellA _ 1 rfl, EC.out.cellA _ 2 rfl, EC.out.cellA _ 3 rfl, EC.out.cellA _ 4 rfl, EC.out.cellA _ 5 rfl, EC.out.cellA _ 6 rfl, EC.out.cellA _ 7 rfl, EC.out.cellA _ 8 rfl⟩ | fail) (fun hHeld => ?_)
      have EB := Lib.hid ((StB.new EP.out 49).step (Below.drew (Below.refl _ _)))
      try simp only [World.size_alloc] at EB HOL
      clear EC c20 c21 c22 c10 c11 c12 c00 c01 c02
      obtain ⟨c20, c21, c22, c10, c11, c12, c00, c01, c02, -⟩ := EB.out.st.cells
      (try clear t0 t1 t2 f0 f1 f2)
      obtain ⟨-, t0, t1, t2, fr, -, -⟩ := EB.out.bx
      have f0 := fr 0
      have f1 := fr 1
      have f2 := fr 2
      clear fr
      clear hK K
      try simp only [Act.put, List.getElem_toArray, List.getElem_cons_succ, List.getElem_cons_zero, List.setIfInBounds_toArray, List.set_cons_zero, List.set_cons_succ]
      refine wpAnyH_ready (rs := [1]) (by kernel_rfl) (by simp) ?_
      refine AllReadyH.cons rfl (fun K hK => ?_) AllReadyH.nil
      go_simp
      go_at_call 36
      have EQ := Lib.hid EB.out.st
      refine (to_ring rk rp rn _).mono ?_
      rintro e w3 ⟨rfl, hb⟩
      replace EB := Lib.hid (EB.out.step hb)
      clear hb
      clear EQ c20 c21 c22 c10 c11 c12 c00 c01 c02
      obtain ⟨c20, c21, c22, c10, c11, c12, c00, c01, c02, -⟩ := EB.out.st.cells
      (try clear t0 t1 t2 f0 f1 f2)
      obtain ⟨-, t0, t1, t2, fr, -, -⟩ := EB.out.bx
      have f0 := fr 0
      have f1 := fr 1
      have f2 := fr 2
      clear fr
      go_wp2_with fail
      refine hK.out _ _ (by (try dsimp only); exact ⟨c20, c21, c22, c10, c11, c12, c00, c01, c02⟩) (fun hHeld => ?_)
      clear hK K
      try simp only [Act.put, List.getElem_toArray, List.getElem_cons_succ, List.getElem_cons_zero, List.setIfInBounds_toArray, List.set_cons_zero, List.set_cons_succ]
      refine wpAnyH_ready (rs := [3]) (by kernel_rfl) (by simp) ?_
      refine AllReadyH.cons rfl (fun K hK => ?_) AllReadyH.nil
      go_simp
      go_at_call 37
      have EQ := Lib.hid EB.out.st
      refine (to_ten ⟨((EQ.out.rdAt 0 rfl).mono EQ.out.bel.size), ((EQ.out.rdAt 1 rfl).mono EQ.out.bel.size), ((EQ.out.rdAt 2 rfl).mono EQ.out.bel.size)⟩ (Nat.le_refl _) (by have := BtL.out; omega) (by have := BtD.out; omega) (by have := BtX.out; omega)).mono ?_
      rintro e w4 ⟨v0, v1, v2, rfl, ho, hb⟩
      obtain ⟨b0, d0, rfl, -⟩ := ints_form ho.rows.1.rd
      obtain ⟨b1, d1, rfl, -⟩ := ints_form ho.rows.2.1.rd
      obtain ⟨b2, d2, rfl, -⟩ := ints_form ho.rows.2.2.rd
      replace EB := Lib.hid (EB.out.add hb ho)
      clear hb ho
      clear EQ c20 c21 c22 c10 c11 c12 c00 c01 c02
      obtain ⟨c20, c21, c22, c10, c11, c12, c00, c01, c02, -⟩ := EB.out.st.cells
      (try clear t0 t1 t2 f0 f1 f2)
      obtain ⟨-, t0, t1, t2, fr, -, -⟩ := EB.out.bx
      have f0 := fr 0
      have f1 := fr 1
      have f2 := fr 2
      clear fr
      go_wp2_with fail
      refine hK.out _ _ (by (try dsimp only); exact ⟨c20, c21, c22, c10, c11, c12, c00, c01, c02⟩) (fun hHeld => ?_)
      clear hK K
      try simp only [Act.put, List.getElem_toArray, List.getElem_cons_succ, List.getElem_cons_zero, List.setIfInBounds_toArray, List.set_cons_zero, List.set_cons_succ]
      refine wpAnyH_ready (rs := [5]) (by kernel_rfl) (by simp) ?_
      refine AllReadyH.cons rfl (fun K hK => ?_) AllReadyH.nil
      go_simp
      go_at_call 37
      have EQ := Lib.hid EB.out.st
      refine (to_ten ⟨((EQ.out.rdAt 3 rfl).mono EQ.out.bel.size), ((EQ.out.rdAt 4 rfl).mono EQ.out.bel.size), ((EQ.out.rdAt 5 rfl).mono EQ.out.bel.size)⟩ (Nat.le_refl _) (by have := BuL.out; omega) (by have := BuD.out; omega) (by have := BuX.out; omega)).mono ?_
      rintro e w5 ⟨v0, v1, v2, rfl, ho, hb⟩
      obtain ⟨b3, d3, rfl, -⟩ := ints_form ho.rows.1.rd
      obtain ⟨b4, d4, rfl, -⟩ := ints_form ho.rows.2.1.rd
      obtain ⟨b5, d5, rfl, -⟩ := ints_form ho.rows.2.2.rd
      replace EB := Lib.hid (EB.out.add hb ho)
      clear hb ho
      clear EQ c20 c21 c22 c10 c11 c12 c00 c01 c02
      obtain ⟨c20, c21, c22, c10, c11, c12, c00, c01, c02, -⟩ := EB.out.st.cells
      (try clear t0 t1 t2 f0 f1 f2)
      obtain ⟨-, t0, t1, t2, fr, -, -⟩ := EB.out.bx
      have f0 := fr 0
      have f1 := fr 1
      have f2 := fr 2
      clear fr
      go_wp2_with fail
      refine hK.out _ _ (by (try dsimp only); exact ⟨c20, c21, c22, c10, c11, c12, c00, c01, c02⟩) (fun hHeld => ?_)
      clear hK K
      try simp only [Act.put, List.getElem_toArray, List.getElem_cons_succ, List.getElem_cons_zero, List.setIfInBounds_toArray, List.set_cons_zero, List.set_cons_succ]
      refine wpAnyH_ready (rs := [7]) (by kernel_rfl) (by simp) ?_
      refine AllReadyH.cons rfl (fun K hK => ?_) AllReadyH.nil
      go_simp
      go_at_call 32
      have EQ := Lib.hid EB.out.st
      refine (to_row ((EQ.out.rdAt 6 rfl).mono EQ.out.bel.size) (Nat.le_refl _) (by have := Bx.out; omega)).mono ?_
      rintro e w6 ⟨v, rfl, ho, hb⟩
      obtain ⟨b6, d6, rfl, -⟩ := ints_form ho.rd
      replace EB := Lib.hid (EB.out.add hb (OwnG.one ho))
      clear hb ho
      clear EQ c20 c21 c22 c10 c11 c12 c00 c01 c02
      obtain ⟨c20, c21, c22, c10, c11, c12, c00, c01, c02, -⟩ := EB.out.st.cells
      (try clear t0 t1 t2 f0 f1 f2)
      obtain ⟨-, t0, t1, t2, fr, -, -⟩ := EB.out.bx
      have f0 := fr 0
      have f1 := fr 1
      have f2 := fr 2
      clear fr
      go_wp2_with fail
      refine hK.out _ _ (by (try dsimp only); exact ⟨c20, c21, c22, c10, c11, c12, c00, c01, c02⟩) (fun hHeld => ?_)
      clear hK K
      try simp only [Act.put, List.getElem_toArray, List.getElem_cons_succ, List.getElem_cons_zero, List.setIfInBounds_toArray, List.set_cons_zero, List.set_cons_succ]
      refine wpAnyH_ready (rs := [8]) (by kernel_rfl) (by simp) ?_
      refine AllReadyH.cons rfl (fun K hK => ?_) AllReadyH.nil
      go_simp
      go_at_call 35
      have EQ := Lib.hid EB.out.st
      refine (contract_pair_spec ⟨(EQ.out.rowAt 2 0 rfl rfl), (EQ.out.rowAt 2 1 rfl rfl), (EQ.out.rowAt 2 2 rfl rfl)⟩ ⟨(EQ.out.rowAt 1 0 rfl rfl), (EQ.out.rowAt 1 1 rfl rfl), (EQ.out.rowAt 1 2 rfl rfl)⟩ (EQ.out.rowAt 0 0 rfl rfl) (Nat.le_refl _) (Nat.le_refl _) (Nat.le_refl _) ⟨(by have := BtL.out; omega), (by have := BtD.out; omega), (by have := BtX.out; omega)⟩ ⟨(by have := BuL.out; omega), (by have := BuD.out; omega), (by have := BuX.out; omega)⟩ (by have := Bx.out; omega)).mono ?_
      rw [← HGL.out, ← HGD.out, ← HGX.out, ← HOK.out]
      rintro e w7 ⟨v0, v1, v2, rfl, ho, hb⟩
      obtain ⟨b7, d7, rfl, -⟩ := ints_form ho.rows.1.rd
      obtain ⟨b8, d8, rfl, -⟩ := ints_form ho.rows.2.1.rd
      obtain ⟨b9, d9, rfl, -⟩ := ints_form ho.rows.2.2.rd
      replace EB := Lib.hid (EB.out.add hb ho)
      clear hb ho
      clear EQ c20 c21 c22 c10 c11 c12 c00 c01 c02
      obtain ⟨c20, c21, c22, c10, c11, c12, c00, c01, c02, -⟩ := EB.out.st.cells
      (try clear t0 t1 t2 f0 f1 f2)
      obtain ⟨-, t0, t1, t2, fr, -, -⟩ := EB.out.bx
      have f0 := fr 0
      have f1 := fr 1
      have f2 := fr 2
      clear fr
      go_wp2_with fail
      refine hK.out _ _ (by (try dsimp only); exact ⟨c20, c21, c22, c10, c11, c12, c00, c01, c02⟩) (fun hHeld => ?_)
      clear hK K
      try simp only [Act.put, List.getElem_toArray, List.getElem_cons_succ, List.getElem_cons_zero, List.setIfInBounds_toArray, List.set_cons_zero, List.set_cons_succ]
      refine wpAnyH_take (i := 9) (v := ?_) rfl (by kernel_rfl) (by kernel_rfl) (by kernel_rfl) (fun _ _ _ h => h) (Or.inl ⟨by rfl, ?_⟩) (by assumption) ?_
      rotate_left
      · intro w hSw; (try dsimp only at hSw); go_simp <;> with_reducible rfl
      try simp only [Act.put, List.getElem_toArray, List.getElem_cons_succ, List.getElem_cons_zero, List.setIfInBounds_toArray, List.set_cons_zero, List.set_cons_succ]
      refine wpAnyH_take (i := 10) (v := ?_) rfl (by kernel_rfl) (by kernel_rfl) (by kernel_rfl) (fun _ _ _ h => h) (Or.inl ⟨by rfl, ?_⟩) (by assumption) ?_
      rotate_left
      · intro w hSw; (try dsimp only at hSw); go_simp <;> with_reducible rfl
      try simp only [Act.put, List.getElem_toArray, List.getElem_cons_succ, List.getElem_cons_zero, List.setIfInBounds_toArray, List.set_cons_zero, List.set_cons_succ]
      refine wpAnyH_take (i := 11) (v := ?_) rfl (by kernel_rfl) (by kernel_rfl) (by kernel_rfl) (fun _ _ _ h => h) (Or.inl ⟨by rfl, ?_⟩) (by assumption) ?_
      rotate_left
      · intro w hSw; (try dsimp only at hSw); go_simp <;> with_reducible rfl
      try simp only [Act.put, List.getElem_toArray, List.getElem_cons_succ, List.getElem_cons_zero, List.setIfInBounds_toArray, List.set_cons_zero, List.set_cons_succ]
      refine wpAnyH_ready (rs := [13]) (by kernel_rfl) (by simp) ?_
      refine AllReadyH.cons rfl (fun K hK => ?_) AllReadyH.nil
      go_simp
      refine hK.out _ _ (by (try dsimp only); exact ⟨EB.out.cell3 _ _ _ 0 rfl, EB.out.cell3 _ _ _ 1 rfl, EB.out.cell3 _ _ _ 2 rfl, EB.out.cell3 _ _ _ 3 rfl, EB.out.cell3 _ _ _ 4 rfl, EB.out.cell3 _ _ _ 5 rfl, EB.out.cell3 _ _ _ 6 rfl, EB.out.cell3 _ _ _ 7 rfl, EB.out.cell3 _ _ _ 8 rfl⟩) (fun hHeld => ?_)
      clear hK K
      try simp only [Act.put, List.getElem_toArray, List.getElem_cons_succ, List.getElem_cons_zero, List.setIfInBounds_toArray, List.set_cons_zero, List.set_cons_succ]
      refine wpAnyH_take (i := 14) (v := ?_) rfl (by kernel_rfl) (by kernel_rfl) (by kernel_rfl) (fun _ _ _ h => h) (Or.inl ⟨by rfl, ?_⟩) (by assumption) ?_
      rotate_left
      · intro w hSw; (try dsimp only at hSw); go_simp <;> with_reducible rfl
      try simp only [Act.put, List.getElem_toArray, List.getElem_cons_succ, List.getElem_cons_zero, List.setIfInBounds_toArray, List.set_cons_zero, List.set_cons_succ]
      refine wpAnyH_done (by kernel_rfl) ?_ _
      go_wp2_with fail
      go_meet
      exact ⟨_, _, _, _, _, _, _, _, _, rfl, rfl, Lib.hid ((EB.out.put _ _ _).subL HOL.out (List.Sublist.cons_cons _ (List.Sublist.cons _ (List.Sublist.cons _ (List.Sublist.cons _ (List.Sublist.refl _))))))⟩
  obtain ⟨bq10, lo10, hi10, b10, d10, b11, d11, b12, d12, rfl, rfl, E8⟩ := hcut
  have hOL := HOL.out
  subst hOL
  clear HOL EC
  obtain ⟨-, -, -, -, -, -, c10, c11, c12, -, -, -, -⟩ := E8.out.cells
  go_wp2_with fail
  refine (to_ten ⟨((E8.out.rdAt 0 rfl).mono E8.out.bel.size), ((E8.out.rdAt 1 rfl).mono E8.out.bel.size), ((E8.out.rdAt 2 rfl).mono E8.out.bel.size)⟩ (Nat.le_refl _) (by have := BtL.out; omega) (by have := BtD.out; omega) (by have := BtX.out; omega)).mono ?_
  rintro e w8 ⟨v0, v1, v2, rfl, ho, hb⟩
  obtain ⟨b13, d13, rfl, -⟩ := ints_form ho.rows.1.rd
  obtain ⟨b14, d14, rfl, -⟩ := ints_form ho.rows.2.1.rd
  obtain ⟨b15, d15, rfl, -⟩ := ints_form ho.rows.2.2.rd
  have E9 := Lib.hid (E8.out.grp hb ho)
  clear hb ho
  have E10 := Lib.hid (E9.out.box3 (.slice b13 tL.length d13) (.slice b14 tD.length d14) (.slice b15 tX.length d15) 49)
  clear c10 c11 c12
  obtain ⟨-, -, -, -, -, -, c20, c21, c22, -, -, -, -, -, -, -⟩ := E10.out.cells
  go_wp2_with fail
  refine (to_ten ⟨((E10.out.rdAt 3 rfl).mono E10.out.bel.size), ((E10.out.rdAt 4 rfl).mono E10.out.bel.size), ((E10.out.rdAt 5 rfl).mono E10.out.bel.size)⟩ (Nat.le_refl _) (by have := BuL.out; omega) (by have := BuD.out; omega) (by have := BuX.out; omega)).mono ?_
  rintro e w9 ⟨v0, v1, v2, rfl, ho, hb⟩
  obtain ⟨b16, d16, rfl, -⟩ := ints_form ho.rows.1.rd
  obtain ⟨b17, d17, rfl, -⟩ := ints_form ho.rows.2.1.rd
  obtain ⟨b18, d18, rfl, -⟩ := ints_form ho.rows.2.2.rd
  have E11 := Lib.hid (E10.out.grp hb ho)
  clear hb ho
  have E12 := Lib.hid (E11.out.box3 (.slice b16 uL.length d16) (.slice b17 uD.length d17) (.slice b18 uX.length d18) 49)
  clear c20 c21 c22
  go_wp2_with fail
  refine (to_row ((E12.out.rdAt 6 rfl).mono E12.out.bel.size) (Nat.le_refl _) (by have := Bx.out; omega)).mono ?_
  rintro e w10 ⟨v, rfl, ho, hb⟩
  obtain ⟨b19, d19, rfl, -⟩ := ints_form ho.rd
  have E13 := Lib.hid (E12.out.grp hb (OwnG.one ho))
  clear hb ho
  go_upto_region 14 with fail
  have EC := E13
  obtain ⟨OL, HOL⟩ := St.letter EC
  go_cut [15, 16] (fun sv o16 wx => ∃ (bq14 lo14 hi14 : Nat) (b23 : Option Addr) (d23 : Nat) (b24 : Option Addr) (d24 : Nat) (b25 : Option Addr) (d25 : Nat), o16 = .bool ok ∧ sv = .pointer (some ⟨bq14, 0, none⟩) ∧ Hid (St w wx [(bq14, 0, .slice b23 GL.length d23), (bq14, 1, .slice b24 GD.length d24), (bq14, 2, .slice b25 GX.length d25), (w9.heap.size, 0, .slice b16 uL.length d16), (w9.heap.size, 1, .slice b17 uD.length d17), (w9.heap.size, 2, .slice b18 uX.length d18), (w8.heap.size, 0, .slice b13 tL.length d13), (w8.heap.size, 1, .slice b14 tD.length d14), (w8.heap.size, 2, .slice b15 tX.length d15), (bq10, 0, .slice b10 GL.length d10), (bq10, 1, .slice b11 GD.length d11), (bq10, 2, .slice b12 GX.length d12), (w.heap.size + 1 + 1, 0, .slice auL uL.length cuL), (w.heap.size + 1 + 1, 1, .slice auD uD.length cuD), (w.heap.size + 1 + 1, 2, .slice auX uX.length cuX), (w.heap.size + 1, 0, .slice atL tL.length ctL), (w.heap.size + 1, 1, .slice atD tD.length ctD), (w.heap.size + 1, 2, .slice atX tX.length ctX), (w.heap.size, 0, .int .i64 rk), (w.heap.size, 1, .int .i64 rp), (w.heap.size, 2, .int .i64 rn)] [(.slice atL tL.length ctL, tL), (.slice atD tD.length ctD, tD), (.slice atX tX.length ctX, tX), (.slice auL uL.length cuL, uL), (.slice auD uD.length cuD, uD), (.slice auX uX.length cuX, uX), (.slice ax x.length cx, x)] ((lo14, hi14, [(.slice b23 GL.length d23, GL), (.slice b24 GD.length d24, GD), (.slice b25 GX.length d25, GX)]) :: OL)))
  case first =>
    have EP := EC
    have EC := Lib.hid EC.out.drew
    obtain ⟨c50, c51, c52, c40, c41, c42, -, -, -, -, -, -, -, -, -, c00, c01, c02, -⟩ := EC.out.cells
    refine wp_region_held_drew (S := fun w' => w'.cell? ⟨w9.heap.size, 0, none⟩ = some (.slice b16 uL.length d16) ∧ w'.cell? ⟨w9.heap.size, 1, none⟩ = some (.slice b17 uD.length d17) ∧ w'.cell? ⟨w9.heap.size, 2, none⟩ = some (.slice b18 uX.length d18) ∧ w'.cell? ⟨w8.heap.size, 0, none⟩ = some (.slice b13 tL.length d13) ∧ w'.cell? ⟨w8.heap.size, 1, none⟩ = some (.slice b14 tD.length d14) ∧ w'.cell? ⟨w8.heap.size, 2, none⟩ = some (.slice b15 tX.length d15) ∧ w'.cell? ⟨w.heap.size, 0, none⟩ = some (.int .i64 rk) ∧ w'.cell? ⟨w.heap.size, 1, none⟩ = some (.int .i64 rp) ∧ w'.cell? ⟨w.heap.size, 2, none⟩ = some (.int .i64 rn)) (by kernel_rfl) (by (try dsimp only); exact ⟨c50, c51, c52, c40, c41, c42, c00, c01, c02⟩) (fun hHeld => ?_)
    refine wpAnyH_take (i := 0) (v := ?_) rfl (by kernel_rfl) (by kernel_rfl) (by kernel_rfl) (fun _ _ _ h => h) (Or.inl ⟨by rfl, ?_⟩) (by assumption) ?_
    rotate_left
    · intro w hSw; (try dsimp only at hSw); go_simp <;> with_reducible rfl
    try simp only [Act.put, List.getElem_toArray, List.getElem_cons_zero, List.setIfInBounds_toArray, List.set_cons_zero, List.set_cons_succ]
    refine wpAnyH_take (i := 2) (v := ?_) rfl (by kernel_rfl) (by kernel_rfl) (by kernel_rfl) (fun _ _ _ h => h) (Or.inl ⟨by rfl, ?_⟩) (by assumption) ?_
    rotate_left
    · intro w hSw; (try dsimp only at hSw); go_simp <;> with_reducible rfl
    try simp only [Act.put, List.getElem_toArray, List.getElem_cons_succ, List.getElem_cons_zero, List.setIfInBounds_toArray, List.set_cons_zero, List.set_cons_succ]
    refine wpAnyH_take (i := 3) (v := ?_) rfl (by kernel_rfl) (by kernel_rfl) (by kernel_rfl) (fun _ _ _ h => h) (Or.inl ⟨by rfl, ?_⟩) (by assumption) ?_
    rotate_left
    · intro w hSw; (try dsimp only at hSw); go_simp <;> with_reducible rfl
    try simp only [Act.put, List.getElem_toArray, List.getElem_cons_succ, List.getElem_cons_zero, List.setIfInBounds_toArray, List.set_cons_zero, List.set_cons_succ]
    refine wpAnyH_take (i := 4) (v := ?_) rfl (by kernel_rfl) (by kernel_rfl) (by kernel_rfl) (fun _ _ _ h => h) (Or.inl ⟨by rfl, ?_⟩) (by assumption) ?_
    rotate_left
    · intro w hSw; (try dsimp only at hSw); go_simp <;> with_reducible rfl
    try simp only [Act.put, List.getElem_toArray, List.getElem_cons_succ, List.getElem_cons_zero, List.setIfInBounds_toArray, List.set_cons_zero, List.set_cons_succ]
    refine wpAnyH_ready (rs := [1, 9]) (by kernel_rfl) (by simp) ?_
    refine AllReadyH.cons rfl (fun K hK => ?_) (AllReadyH.cons rfl (fun K hK => ?_) AllReadyH.nil)
    · go_simp
      go_at_call 36
      have EQ := EC
      refine (to_ring rk rp rn _).mono ?_
      rintro e w11 ⟨rfl, hb⟩
      replace EC := Lib.hid (EC.out.step hb)
      clear hb
      clear EQ c50 c51 c52 c40 c41 c42 c00 c01 c02
      obtain ⟨c50, c51, c52, c40, c41, c42, -, -, -, -, -, -, -, -, -, c00, c01, c02, -⟩ := EC.out.cells
      go_wp2_with fail
      refine hK.out _ _ (by (try dsimp only); exact ⟨c50, c51, c52, c40, c41, c42, c00, c01, c02⟩) (fun hHeld => ?_)
      clear hK K
      try simp only [Act.put, List.getElem_toArray, List.getElem_cons_succ, List.getElem_cons_zero, List.setIfInBounds_toArray, List.set_cons_zero, List.set_cons_succ]
      refine wpAnyH_ready (rs := [5, 9]) (by kernel_rfl) (by simp) ?_
      refine AllReadyH.cons rfl (fun K hK => ?_) (AllReadyH.cons rfl (fun K hK => ?_) AllReadyH.nil)
      · go_simp
        go_at_call 38
        have EQ := EC
        refine (contract_pair_impl ⟨(EQ.out.rowAt 2 0 rfl rfl), (EQ.out.rowAt 2 1 rfl rfl), (EQ.out.rowAt 2 2 rfl rfl)⟩ ⟨(EQ.out.rowAt 1 0 rfl rfl), (EQ.out.rowAt 1 1 rfl rfl), (EQ.out.rowAt 1 2 rfl rfl)⟩ (EQ.out.rowAt 0 0 rfl rfl) (Nat.le_refl _) (Nat.le_refl _) (Nat.le_refl _) ⟨(by have := BtL.out; omega), (by have := BtD.out; omega), (by have := BtX.out; omega)⟩ ⟨(by have := BuL.out; omega), (by have := BuD.out; omega), (by have := BuX.out; omega)⟩ (by have := Bx.out; omega) HhI.out HhJ.out).mono ?_
        rw [← HGL.out, ← HGD.out, ← HGX.out, ← HOK.out]
        rintro e w12 ⟨v0, v1, v2, rfl, ho, hb⟩
        obtain ⟨b20, d20, rfl, -⟩ := ints_form ho.rows.1.rd
        obtain ⟨b21, d21, rfl, -⟩ := ints_form ho.rows.2.1.rd
        obtain ⟨b22, d22, rfl, -⟩ := ints_form ho.rows.2.2.rd
        replace EC := Lib.hid (EC.out.grp hb ho)
        clear hb ho
        clear EQ c50 c51 c52 c40 c41 c42 c00 c01 c02
        obtain ⟨c50, c51, c52, c40, c41, c42, -, -, -, -, -, -, -, -, -, c00, c01, c02, -⟩ := EC.out.cells
        go_wp2_with fail
        refine hK.out _ _ (by (try dsimp only); exact ⟨c50, c51, c52, c40, c41, c42, c00, c01, c02⟩) (fun hHeld => ?_)
        clear hK K
        try simp only [Act.put, List.getElem_toArray, List.getElem_cons_succ, List.getElem_cons_zero, List.setIfInBounds_toArray, List.set_cons_zero, List.set_cons_succ]
        refine wpAnyH_take (i := 6) (v := ?_) rfl (by kernel_rfl) (by kernel_rfl) (by kernel_rfl) (fun _ _ _ h => h) (Or.inl ⟨by rfl, ?_⟩) (by assumption) ?_
        rotate_left
        · intro w hSw; (try dsimp only at hSw); go_simp <;> with_reducible rfl
        try simp only [Act.put, List.getElem_toArray, List.getElem_cons_succ, List.getElem_cons_zero, List.setIfInBounds_toArray, List.set_cons_zero, List.set_cons_succ]
        refine wpAnyH_take (i := 7) (v := ?_) rfl (by kernel_rfl) (by kernel_rfl) (by kernel_rfl) (fun _ _ _ h => h) (Or.inl ⟨by rfl, ?_⟩) (by assumption) ?_
        rotate_left
        · intro w hSw; (try dsimp only at hSw); go_simp <;> with_reducible rfl
        try simp only [Act.put, List.getElem_toArray, List.getElem_cons_succ, List.getElem_cons_zero, List.setIfInBounds_toArray, List.set_cons_zero, List.set_cons_succ]
        refine wpAnyH_take (i := 8) (v := ?_) rfl (by kernel_rfl) (by kernel_rfl) (by kernel_rfl) (fun _ _ _ h => h) (Or.inl ⟨by rfl, ?_⟩) (by assumption) ?_
        rotate_left
        · intro w hSw; (try dsimp only at hSw); go_simp <;> with_reducible rfl
        try simp only [Act.put, List.getElem_toArray, List.getElem_cons_succ, List.getElem_cons_zero, List.setIfInBounds_toArray, List.set_cons_zero, List.set_cons_succ]
        refine wpAnyH_ready (rs := [9]) (by kernel_rfl) (by simp) ?_
        refine AllReadyH.cons rfl (fun K hK => ?_) AllReadyH.nil
        go_simp
        refine hK.out _ _ (by (try dsimp only); first | exact ⟨EC.out.cellA _ 0 rfl, EC.out.cellA _ 1 rfl, EC.out.cellA _ 2 rfl, EC.out.cellA _ 3 rfl, EC.out.cellA _ 4 rfl, EC.out.cellA _ 5 rfl, EC.out.cellA _ 15 rfl, EC.out.cellA _ 16 rfl, EC.out.cellA _ 17 rfl⟩ | fail) (fun hHeld => ?_)
        clear hK K
        try simp only [Act.put, List.getElem_toArray, List.getElem_cons_succ, List.getElem_cons_zero, List.setIfInBounds_toArray, List.set_cons_zero, List.set_cons_succ]
        refine wpAnyH_ready (rs := [10]) (by kernel_rfl) (by simp) ?_
        refine AllReadyH.cons rfl (fun K hK => ?_) AllReadyH.nil
        go_simp
        refine hK.out _ _ (by (try dsimp only); exact ⟨EC.out.cellA _ 0 rfl, EC.out.cellA _ 1 rfl, EC.out.cellA _ 2 rfl, EC.out.cellA _ 3 rfl, EC.out.cellA _ 4 rfl, EC.out.cellA _ 5 rfl, EC.out.cellA _ 15 rfl, EC.out.cellA _ 16 rfl, EC.out.cellA _ 17 rfl⟩) (fun hHeld => ?_)
        clear hK K
        try simp only [Act.put, List.getElem_toArray, List.getElem_cons_succ, List.getElem_cons_zero, List.setIfInBounds_toArray, List.set_cons_zero, List.set_cons_succ]
        refine wpAnyH_take (i := 11) (v := ?_) rfl (by kernel_rfl) (by kernel_rfl) (by kernel_rfl) (fun _ _ _ h => h) (Or.inl ⟨by rfl, ?_⟩) (by assumption) ?_
        rotate_left
        · intro w hSw; (try dsimp only at hSw); go_simp <;> with_reducible rfl
        try simp only [Act.put, List.getElem_toArray, List.getElem_cons_succ, List.getElem_cons_zero, List.setIfInBounds_toArray, List.set_cons_zero, List.set_cons_succ]
        refine wpAnyH_done (by kernel_rfl) ?_ _
        go_wp2_with fail
        go_meet
        exact ⟨_, _, _, _, _, _, _, _, _, rfl, rfl, Lib.hid ((EC.out.box3 _ _ _ _).subL HOL.out (List.Sublist.cons_cons _ (List.Sublist.refl _)))⟩
      · go_simp
        refine hK.out _ _ (by (try dsimp only); first | exact ⟨EC.out.cellA _ 0 rfl, EC.out.cellA _ 1 rfl, EC.out.cellA _ 2 rfl, EC.out.cellA _ 3 rfl, EC.out.cellA _ 4 rfl, EC.out.cellA _ 5 rfl, EC.out.cellA _ 15 rfl, EC.out.cellA _ 16 rfl, EC.out.cellA _ 17 rfl⟩ | fail) (fun hHeld => ?_)
        have EB := Lib.hid (StB.new EC.out 49)
        try simp only [World.size_alloc] at EB HOL
        clear EC c50 c51 c52 c40 c41 c42 c00 c01 c02
        obtain ⟨c50, c51, c52, c40, c41, c42, -, -, -, -, -, -, -, -, -, c00, c01, c02, -⟩ := EB.out.st.cells
        (try clear t0 t1 t2 f0 f1 f2)
        obtain ⟨-, t0, t1, t2, fr, -, -⟩ := EB.out.bx
        have f0 := fr 0
        have f1 := fr 1
        have f2 := fr 2
        clear fr
        clear hK K
        try simp only [Act.put, List.getElem_toArray, List.getElem_cons_succ, List.getElem_cons_zero, List.setIfInBounds_toArray, List.set_cons_zero, List.set_cons_succ]
        refine wpAnyH_ready (rs := [5]) (by kernel_rfl) (by simp) ?_
        refine AllReadyH.cons rfl (fun K hK => ?_) AllReadyH.nil
        go_simp
        go_at_call 38
        have EQ := Lib.hid EB.out.st
        refine (contract_pair_impl ⟨(EQ.out.rowAt 2 0 rfl rfl), (EQ.out.rowAt 2 1 rfl rfl), (EQ.out.rowAt 2 2 rfl rfl)⟩ ⟨(EQ.out.rowAt 1 0 rfl rfl), (EQ.out.rowAt 1 1 rfl rfl), (EQ.out.rowAt 1 2 rfl rfl)⟩ (EQ.out.rowAt 0 0 rfl rfl) (Nat.le_refl _) (Nat.le_refl _) (Nat.le_refl _) ⟨(by have := BtL.out; omega), (by have := BtD.out; omega), (by have := BtX.out; omega)⟩ ⟨(by have := BuL.out; omega), (by have := BuD.out; omega), (by have := BuX.out; omega)⟩ (by have := Bx.out; omega) HhI.out HhJ.out).mono ?_
        rw [← HGL.out, ← HGD.out, ← HGX.out, ← HOK.out]
        rintro e w12 ⟨v0, v1, v2, rfl, ho, hb⟩
        obtain ⟨b20, d20, rfl, -⟩ := ints_form ho.rows.1.rd
        obtain ⟨b21, d21, rfl, -⟩ := ints_form ho.rows.2.1.rd
        obtain ⟨b22, d22, rfl, -⟩ := ints_form ho.rows.2.2.rd
        replace EB := Lib.hid (EB.out.add hb ho)
        clear hb ho
        clear EQ c50 c51 c52 c40 c41 c42 c00 c01 c02
        obtain ⟨c50, c51, c52, c40, c41, c42, -, -, -, -, -, -, -, -, -, c00, c01, c02, -⟩ := EB.out.st.cells
        (try clear t0 t1 t2 f0 f1 f2)
        obtain ⟨-, t0, t1, t2, fr, -, -⟩ := EB.out.bx
        have f0 := fr 0
        have f1 := fr 1
        have f2 := fr 2
        clear fr
        go_wp2_with fail
        refine hK.out _ _ (by (try dsimp only); exact ⟨c50, c51, c52, c40, c41, c42, c00, c01, c02⟩) (fun hHeld => ?_)
        clear hK K
        try simp only [Act.put, List.getElem_toArray, List.getElem_cons_succ, List.getElem_cons_zero, List.setIfInBounds_toArray, List.set_cons_zero, List.set_cons_succ]
        refine wpAnyH_take (i := 6) (v := ?_) rfl (by kernel_rfl) (by kernel_rfl) (by kernel_rfl) (fun _ _ _ h => h) (Or.inl ⟨by rfl, ?_⟩) (by assumption) ?_
        rotate_left
        · intro w hSw; (try dsimp only at hSw); go_simp <;> with_reducible rfl
        try simp only [Act.put, List.getElem_toArray, List.getElem_cons_succ, List.getElem_cons_zero, List.setIfInBounds_toArray, List.set_cons_zero, List.set_cons_succ]
        refine wpAnyH_take (i := 7) (v := ?_) rfl (by kernel_rfl) (by kernel_rfl) (by kernel_rfl) (fun _ _ _ h => h) (Or.inl ⟨by rfl, ?_⟩) (by assumption) ?_
        rotate_left
        · intro w hSw; (try dsimp only at hSw); go_simp <;> with_reducible rfl
        try simp only [Act.put, List.getElem_toArray, List.getElem_cons_succ, List.getElem_cons_zero, List.setIfInBounds_toArray, List.set_cons_zero, List.set_cons_succ]
        refine wpAnyH_take (i := 8) (v := ?_) rfl (by kernel_rfl) (by kernel_rfl) (by kernel_rfl) (fun _ _ _ h => h) (Or.inl ⟨by rfl, ?_⟩) (by assumption) ?_
        rotate_left
        · intro w hSw; (try dsimp only at hSw); go_simp <;> with_reducible rfl
        try simp only [Act.put, List.getElem_toArray, List.getElem_cons_succ, List.getElem_cons_zero, List.setIfInBounds_toArray, List.set_cons_zero, List.set_cons_succ]
        refine wpAnyH_ready (rs := [10]) (by kernel_rfl) (by simp) ?_
        refine AllReadyH.cons rfl (fun K hK => ?_) AllReadyH.nil
        go_simp
        refine hK.out _ _ (by (try dsimp only); exact ⟨EB.out.cell3 _ _ _ 0 rfl, EB.out.cell3 _ _ _ 1 rfl, EB.out.cell3 _ _ _ 2 rfl, EB.out.cell3 _ _ _ 3 rfl, EB.out.cell3 _ _ _ 4 rfl, EB.out.cell3 _ _ _ 5 rfl, EB.out.cell3 _ _ _ 15 rfl, EB.out.cell3 _ _ _ 16 rfl, EB.out.cell3 _ _ _ 17 rfl⟩) (fun hHeld => ?_)
        clear hK K
        try simp only [Act.put, List.getElem_toArray, List.getElem_cons_succ, List.getElem_cons_zero, List.setIfInBounds_toArray, List.set_cons_zero, List.set_cons_succ]
        refine wpAnyH_take (i := 11) (v := ?_) rfl (by kernel_rfl) (by kernel_rfl) (by kernel_rfl) (fun _ _ _ h => h) (Or.inl ⟨by rfl, ?_⟩) (by assumption) ?_
        rotate_left
        · intro w hSw; (try dsimp only at hSw); go_simp <;> with_reducible rfl
        try simp only [Act.put, List.getElem_toArray, List.getElem_cons_succ, List.getElem_cons_zero, List.setIfInBounds_toArray, List.set_cons_zero, List.set_cons_succ]
        refine wpAnyH_done (by kernel_rfl) ?_ _
        go_wp2_with fail
        go_meet
        exact ⟨_, _, _, _, _, _, _, _, _, rfl, rfl, Lib.hid ((EB.out.put _ _ _).subL HOL.out (List.Sublist.cons_cons _ (List.Sublist.refl _)))⟩
    · go_simp
      refine hK.out _ _ (by (try dsimp only); first | exact ⟨EC.out.cellA _ 0 rfl, EC.out.cellA _ 1 rfl, EC.out.cellA _ 2 rfl, EC.out.cellA _ 3 rfl, EC.out.cellA _ 4 rfl, EC.out.cellA _ 5 rfl, EC.out.cellA _ 15 rfl, EC.out.cellA _ 16 rfl, EC.out.cellA _ 17 rfl⟩ | fail) (fun hHeld => ?_)
      have EB := Lib.hid ((StB.new EP.out 49).step (Below.drew (Below.refl _ _)))
      try simp only [World.size_alloc] at EB HOL
      clear EC c50 c51 c52 c40 c41 c42 c00 c01 c02
      obtain ⟨c50, c51, c52, c40, c41, c42, -, -, -, -, -, -, -, -, -, c00, c01, c02, -⟩ := EB.out.st.cells
      (try clear t0 t1 t2 f0 f1 f2)
      obtain ⟨-, t0, t1, t2, fr, -, -⟩ := EB.out.bx
      have f0 := fr 0
      have f1 := fr 1
      have f2 := fr 2
      clear fr
      clear hK K
      try simp only [Act.put, List.getElem_toArray, List.getElem_cons_succ, List.getElem_cons_zero, List.setIfInBounds_toArray, List.set_cons_zero, List.set_cons_succ]
      refine wpAnyH_ready (rs := [1]) (by kernel_rfl) (by simp) ?_
      refine AllReadyH.cons rfl (fun K hK => ?_) AllReadyH.nil
      go_simp
      go_at_call 36
      have EQ := Lib.hid EB.out.st
      refine (to_ring rk rp rn _).mono ?_
      rintro e w11 ⟨rfl, hb⟩
      replace EB := Lib.hid (EB.out.step hb)
      clear hb
      clear EQ c50 c51 c52 c40 c41 c42 c00 c01 c02
      obtain ⟨c50, c51, c52, c40, c41, c42, -, -, -, -, -, -, -, -, -, c00, c01, c02, -⟩ := EB.out.st.cells
      (try clear t0 t1 t2 f0 f1 f2)
      obtain ⟨-, t0, t1, t2, fr, -, -⟩ := EB.out.bx
      have f0 := fr 0
      have f1 := fr 1
      have f2 := fr 2
      clear fr
      go_wp2_with fail
      refine hK.out _ _ (by (try dsimp only); exact ⟨c50, c51, c52, c40, c41, c42, c00, c01, c02⟩) (fun hHeld => ?_)
      clear hK K
      try simp only [Act.put, List.getElem_toArray, List.getElem_cons_succ, List.getElem_cons_zero, List.setIfInBounds_toArray, List.set_cons_zero, List.set_cons_succ]
      refine wpAnyH_ready (rs := [5]) (by kernel_rfl) (by simp) ?_
      refine AllReadyH.cons rfl (fun K hK => ?_) AllReadyH.nil
      go_simp
      go_at_call 38
      have EQ := Lib.hid EB.out.st
      refine (contract_pair_impl ⟨(EQ.out.rowAt 2 0 rfl rfl), (EQ.out.rowAt 2 1 rfl rfl), (EQ.out.rowAt 2 2 rfl rfl)⟩ ⟨(EQ.out.rowAt 1 0 rfl rfl), (EQ.out.rowAt 1 1 rfl rfl), (EQ.out.rowAt 1 2 rfl rfl)⟩ (EQ.out.rowAt 0 0 rfl rfl) (Nat.le_refl _) (Nat.le_refl _) (Nat.le_refl _) ⟨(by have := BtL.out; omega), (by have := BtD.out; omega), (by have := BtX.out; omega)⟩ ⟨(by have := BuL.out; omega), (by have := BuD.out; omega), (by have := BuX.out; omega)⟩ (by have := Bx.out; omega) HhI.out HhJ.out).mono ?_
      rw [← HGL.out, ← HGD.out, ← HGX.out, ← HOK.out]
      rintro e w12 ⟨v0, v1, v2, rfl, ho, hb⟩
      obtain ⟨b20, d20, rfl, -⟩ := ints_form ho.rows.1.rd
      obtain ⟨b21, d21, rfl, -⟩ := ints_form ho.rows.2.1.rd
      obtain ⟨b22, d22, rfl, -⟩ := ints_form ho.rows.2.2.rd
      replace EB := Lib.hid (EB.out.add hb ho)
      clear hb ho
      clear EQ c50 c51 c52 c40 c41 c42 c00 c01 c02
      obtain ⟨c50, c51, c52, c40, c41, c42, -, -, -, -, -, -, -, -, -, c00, c01, c02, -⟩ := EB.out.st.cells
      (try clear t0 t1 t2 f0 f1 f2)
      obtain ⟨-, t0, t1, t2, fr, -, -⟩ := EB.out.bx
      have f0 := fr 0
      have f1 := fr 1
      have f2 := fr 2
      clear fr
      go_wp2_with fail
      refine hK.out _ _ (by (try dsimp only); exact ⟨c50, c51, c52, c40, c41, c42, c00, c01, c02⟩) (fun hHeld => ?_)
      clear hK K
      try simp only [Act.put, List.getElem_toArray, List.getElem_cons_succ, List.getElem_cons_zero, List.setIfInBounds_toArray, List.set_cons_zero, List.set_cons_succ]
      refine wpAnyH_take (i := 6) (v := ?_) rfl (by kernel_rfl) (by kernel_rfl) (by kernel_rfl) (fun _ _ _ h => h) (Or.inl ⟨by rfl, ?_⟩) (by assumption) ?_
      rotate_left
      · intro w hSw; (try dsimp only at hSw); go_simp <;> with_reducible rfl
      try simp only [Act.put, List.getElem_toArray, List.getElem_cons_succ, List.getElem_cons_zero, List.setIfInBounds_toArray, List.set_cons_zero, List.set_cons_succ]
      refine wpAnyH_take (i := 7) (v := ?_) rfl (by kernel_rfl) (by kernel_rfl) (by kernel_rfl) (fun _ _ _ h => h) (Or.inl ⟨by rfl, ?_⟩) (by assumption) ?_
      rotate_left
      · intro w hSw; (try dsimp only at hSw); go_simp <;> with_reducible rfl
      try simp only [Act.put, List.getElem_toArray, List.getElem_cons_succ, List.getElem_cons_zero, List.setIfInBounds_toArray, List.set_cons_zero, List.set_cons_succ]
      refine wpAnyH_take (i := 8) (v := ?_) rfl (by kernel_rfl) (by kernel_rfl) (by kernel_rfl) (fun _ _ _ h => h) (Or.inl ⟨by rfl, ?_⟩) (by assumption) ?_
      rotate_left
      · intro w hSw; (try dsimp only at hSw); go_simp <;> with_reducible rfl
      try simp only [Act.put, List.getElem_toArray, List.getElem_cons_succ, List.getElem_cons_zero, List.setIfInBounds_toArray, List.set_cons_zero, List.set_cons_succ]
      refine wpAnyH_ready (rs := [10]) (by kernel_rfl) (by simp) ?_
      refine AllReadyH.cons rfl (fun K hK => ?_) AllReadyH.nil
      go_simp
      refine hK.out _ _ (by (try dsimp only); exact ⟨EB.out.cell3 _ _ _ 0 rfl, EB.out.cell3 _ _ _ 1 rfl, EB.out.cell3 _ _ _ 2 rfl, EB.out.cell3 _ _ _ 3 rfl, EB.out.cell3 _ _ _ 4 rfl, EB.out.cell3 _ _ _ 5 rfl, EB.out.cell3 _ _ _ 15 rfl, EB.out.cell3 _ _ _ 16 rfl, EB.out.cell3 _ _ _ 17 rfl⟩) (fun hHeld => ?_)
      clear hK K
      try simp only [Act.put, List.getElem_toArray, List.getElem_cons_succ, List.getElem_cons_zero, List.setIfInBounds_toArray, List.set_cons_zero, List.set_cons_succ]
      refine wpAnyH_take (i := 11) (v := ?_) rfl (by kernel_rfl) (by kernel_rfl) (by kernel_rfl) (fun _ _ _ h => h) (Or.inl ⟨by rfl, ?_⟩) (by assumption) ?_
      rotate_left
      · intro w hSw; (try dsimp only at hSw); go_simp <;> with_reducible rfl
      try simp only [Act.put, List.getElem_toArray, List.getElem_cons_succ, List.getElem_cons_zero, List.setIfInBounds_toArray, List.set_cons_zero, List.set_cons_succ]
      refine wpAnyH_done (by kernel_rfl) ?_ _
      go_wp2_with fail
      go_meet
      exact ⟨_, _, _, _, _, _, _, _, _, rfl, rfl, Lib.hid ((EB.out.put _ _ _).subL HOL.out (List.Sublist.cons_cons _ (List.Sublist.refl _)))⟩
  obtain ⟨bq14, lo14, hi14, b23, d23, b24, d24, b25, d25, rfl, rfl, E16⟩ := hcut
  have hOL := HOL.out
  subst hOL
  clear HOL EC
  obtain ⟨c60, c61, c62, -, -, -, -, -, -, c30, c31, c32, -, -, -, -, -, -, -, -, -, -⟩ := E16.out.cells
  go_wp2_with fail
  refine (eq_ten ⟨(E16.out.rowAt 0 0 rfl rfl), (E16.out.rowAt 0 1 rfl rfl), (E16.out.rowAt 0 2 rfl rfl)⟩ ⟨(E16.out.rowAt 4 0 rfl rfl), (E16.out.rowAt 4 1 rfl rfl), (E16.out.rowAt 4 2 rfl rfl)⟩ (Nat.le_refl _) (Nat.le_refl _) ⟨(by have := HGLL.out; omega), (by have := HGLD.out; omega), (by have := HGLX.out; omega)⟩).mono ?_
  rintro e w13 ⟨rfl, hb⟩
  have E17 := Lib.hid (E16.out.step hb)
  clear hb
  have E17d := Lib.hid E17.out.drew
  clear c60 c61 c62 c30 c31 c32
  obtain ⟨-, -, -, -, -, -, c40, c41, c42, -, -, -, -, -, -, c10, c11, c12, -, -, -, -⟩ := E17.out.cells
  go_wp2
  have tk17_0 : True := trivial
  have tk17_1 : True := trivial
  go_region_held3 (fun w' => w'.cell? ⟨w8.heap.size, 0, none⟩ = some (.slice b13 tL.length d13) ∧ w'.cell? ⟨w8.heap.size, 1, none⟩ = some (.slice b14 tD.length d14) ∧ w'.cell? ⟨w8.heap.size, 2, none⟩ = some (.slice b15 tX.length d15) ∧ w'.cell? ⟨w.heap.size + 1, 0, none⟩ = some (.slice atL tL.length ctL) ∧ w'.cell? ⟨w.heap.size + 1, 1, none⟩ = some (.slice atD tD.length ctD) ∧ w'.cell? ⟨w.heap.size + 1, 2, none⟩ = some (.slice atX tX.length ctX)) (first | exact ⟨c40, c41, c42, c10, c11, c12⟩) (first
    | (go_at_call 37; have _t := tk17_0; refine (to_ten ⟨((E17d.out.rdAt 0 rfl).mono E17d.out.bel.size), ((E17d.out.rdAt 1 rfl).mono E17d.out.bel.size), ((E17d.out.rdAt 2 rfl).mono E17d.out.bel.size)⟩ (Nat.le_refl _) (by have := BtL.out; omega) (by have := BtD.out; omega) (by have := BtX.out; omega)).mono ?_; rintro e w14 ⟨v0, v1, v2, rfl, ho, hb⟩; obtain ⟨b26, d26, rfl, -⟩ := ints_form ho.rows.1.rd; obtain ⟨b27, d27, rfl, -⟩ := ints_form ho.rows.2.1.rd; obtain ⟨b28, d28, rfl, -⟩ := ints_form ho.rows.2.2.rd; have E18 := Lib.hid (E17d.out.grp hb ho); clear hb ho; obtain ⟨-, -, -, -, -, -, c40, c41, c42, -, -, -, -, -, -, c10, c11, c12, -, -, -, -⟩ := E18.out.cells; clear tk17_0)
    | (go_at_call 39; have _t := tk17_1; refine (eq_ten ⟨(E18.out.rowAt 4 0 rfl rfl), (E18.out.rowAt 4 1 rfl rfl), (E18.out.rowAt 4 2 rfl rfl)⟩ ⟨(E18.out.rowAt 0 0 rfl rfl), (E18.out.rowAt 0 1 rfl rfl), (E18.out.rowAt 0 2 rfl rfl)⟩ (Nat.le_refl _) (Nat.le_refl _) ⟨(by have := BtL.out; omega), (by have := BtD.out; omega), (by have := BtX.out; omega)⟩).mono ?_; rintro e w15 ⟨rfl, hb⟩; have E19 := Lib.hid (E18.out.step hb); clear hb; obtain ⟨-, -, -, -, -, -, c40, c41, c42, -, -, -, -, -, -, c10, c11, c12, -, -, -, -⟩ := E19.out.cells; clear tk17_1))
  have E19d := Lib.hid E19.out.drew
  obtain ⟨-, -, -, c50, c51, c52, -, -, -, -, -, -, c20, c21, c22, -, -, -, -, -, -, -⟩ := E19.out.cells
  go_wp2
  have tk19_0 : True := trivial
  have tk19_1 : True := trivial
  go_region_held3 (fun w' => w'.cell? ⟨w9.heap.size, 0, none⟩ = some (.slice b16 uL.length d16) ∧ w'.cell? ⟨w9.heap.size, 1, none⟩ = some (.slice b17 uD.length d17) ∧ w'.cell? ⟨w9.heap.size, 2, none⟩ = some (.slice b18 uX.length d18) ∧ w'.cell? ⟨w.heap.size + 1 + 1, 0, none⟩ = some (.slice auL uL.length cuL) ∧ w'.cell? ⟨w.heap.size + 1 + 1, 1, none⟩ = some (.slice auD uD.length cuD) ∧ w'.cell? ⟨w.heap.size + 1 + 1, 2, none⟩ = some (.slice auX uX.length cuX)) (first | exact ⟨c50, c51, c52, c20, c21, c22⟩) (first
    | (go_at_call 37; have _t := tk19_0; refine (to_ten ⟨((E19d.out.rdAt 3 rfl).mono E19d.out.bel.size), ((E19d.out.rdAt 4 rfl).mono E19d.out.bel.size), ((E19d.out.rdAt 5 rfl).mono E19d.out.bel.size)⟩ (Nat.le_refl _) (by have := BuL.out; omega) (by have := BuD.out; omega) (by have := BuX.out; omega)).mono ?_; rintro e w16 ⟨v0, v1, v2, rfl, ho, hb⟩; obtain ⟨b29, d29, rfl, -⟩ := ints_form ho.rows.1.rd; obtain ⟨b30, d30, rfl, -⟩ := ints_form ho.rows.2.1.rd; obtain ⟨b31, d31, rfl, -⟩ := ints_form ho.rows.2.2.rd; have E20 := Lib.hid (E19d.out.grp hb ho); clear hb ho; obtain ⟨-, -, -, c50, c51, c52, -, -, -, -, -, -, c20, c21, c22, -, -, -, -, -, -, -⟩ := E20.out.cells; clear tk19_0)
    | (go_at_call 39; have _t := tk19_1; refine (eq_ten ⟨(E20.out.rowAt 4 0 rfl rfl), (E20.out.rowAt 4 1 rfl rfl), (E20.out.rowAt 4 2 rfl rfl)⟩ ⟨(E20.out.rowAt 0 0 rfl rfl), (E20.out.rowAt 0 1 rfl rfl), (E20.out.rowAt 0 2 rfl rfl)⟩ (Nat.le_refl _) (Nat.le_refl _) ⟨(by have := BuL.out; omega), (by have := BuD.out; omega), (by have := BuX.out; omega)⟩).mono ?_; rintro e w17 ⟨rfl, hb⟩; have E21 := Lib.hid (E20.out.step hb); clear hb; obtain ⟨-, -, -, c50, c51, c52, -, -, -, -, -, -, c20, c21, c22, -, -, -, -, -, -, -⟩ := E21.out.cells; clear tk19_1))
  go_wp2_with fail
  refine (to_row ((E21.out.rdAt 6 rfl).mono E21.out.bel.size) (Nat.le_refl _) (by have := Bx.out; omega)).mono ?_
  rintro e w18 ⟨v, rfl, ho, hb⟩
  obtain ⟨b32, d32, rfl, -⟩ := ints_form ho.rd
  have E22 := Lib.hid (E21.out.grp hb (OwnG.one ho))
  clear hb ho
  go_wp2_with fail
  refine (eq_rows (E22.out.rowAt 4 0 rfl rfl) (E22.out.rowAt 0 0 rfl rfl) rfl (by have := Bx.out; omega)).mono ?_
  rintro e w19 ⟨rfl, hb⟩
  have E23 := Lib.hid (E22.out.step hb)
  clear hb
  obtain ⟨-, -, -, -, -, -, c40, c41, c42, -, -, -, -, -, -, -, -, -, -, -, -, -⟩ := E23.out.cells
  go_wp2_with fail
  obtain ⟨m0, hm⟩ : ∃ m : Nat, m = 1 + tL.length + tD.length + tX.length := ⟨_, rfl⟩
  have M0 := Lib.hid hm
  have m0b : m0 ≤ 3145729 := by have := BtL.out; have := BtD.out; have := BtX.out; omega
  clear hm
  refine (marks_ten 1 rfl (E23.out.grpAt 6 rfl) (by have := BtL.out; omega) (by have := BtD.out; omega) (by have := BtX.out; omega) (by omega)).mono ?_
  rw [← M0.out]
  rintro e w20 ⟨rfl, ho, hk⟩
  have E24 := Lib.hid (E23.out.mark 6 rfl hk ho)
  clear ho hk
  clear c40 c41 c42
  obtain ⟨-, -, -, c50, c51, c52, -, -, -, -, -, -, -, -, -, -, -, -, -, -, -, -⟩ := E24.out.cells
  go_wp2_with fail
  obtain ⟨m1, hm⟩ : ∃ m : Nat, m = m0 + uL.length + uD.length + uX.length := ⟨_, rfl⟩
  have M1 := Lib.hid hm
  have m1b : m1 ≤ 6291457 := by have := BuL.out; have := BuD.out; have := BuX.out; omega
  clear hm
  refine (marks_ten m0 rfl (E24.out.grpAt 5 rfl) (by have := BuL.out; omega) (by have := BuD.out; omega) (by have := BuX.out; omega) (by omega)).mono ?_
  rw [← M1.out]
  rintro e w21 ⟨rfl, ho, hk⟩
  have E25 := Lib.hid (E24.out.mark 5 rfl hk ho)
  clear ho hk
  clear c50 c51 c52
  go_wp2_with fail
  obtain ⟨m2, hm⟩ : ∃ m : Nat, m = m1 + x.length := ⟨_, rfl⟩
  have M2 := Lib.hid hm
  have m2b : m2 ≤ 7340033 := by have := Bx.out; omega
  clear hm
  refine (marks_row m1 rfl (E25.out.grpAt 4 rfl) (by have := Bx.out; omega) (by omega)).mono ?_
  rw [← M2.out]
  rintro e w22 ⟨rfl, ho, hk⟩
  have E26 := Lib.hid (E25.out.mark 4 rfl hk ho)
  clear ho hk
  obtain ⟨c60, c61, c62, -, -, -, -, -, -, c30, c31, c32, -, -, -, -, -, -, -, -, -, -⟩ := E26.out.cells
  go_wp2_with fail
  refine (eq_ten ⟨(E26.out.rowAt 3 0 rfl rfl), (E26.out.rowAt 3 1 rfl rfl), (E26.out.rowAt 3 2 rfl rfl)⟩ ⟨(E26.out.rowAt 7 0 rfl rfl), (E26.out.rowAt 7 1 rfl rfl), (E26.out.rowAt 7 2 rfl rfl)⟩ (Nat.le_refl _) (Nat.le_refl _) ⟨(by have := HGLL.out; omega), (by have := HGLD.out; omega), (by have := HGLX.out; omega)⟩).mono ?_
  rintro e w23 ⟨rfl, hb⟩
  have E27 := Lib.hid (E26.out.step hb)
  clear hb
  clear c60 c61 c62 c30 c31 c32
  obtain ⟨c60, c61, c62, -, -, -, -, -, -, -, -, -, -, -, -, -, -, -, -, -, -, -⟩ := E27.out.cells
  go_wp2_with fail
  obtain ⟨m3, hm⟩ : ∃ m : Nat, m = 1 + GL.length + GD.length + GX.length := ⟨_, rfl⟩
  have M3 := Lib.hid hm
  have m3b : m3 ≤ 52776558133249 := by have := HGLL.out; have := HGLD.out; have := HGLX.out; omega
  clear hm
  refine (marks_ten 1 rfl (E27.out.grpAt 3 rfl) (by have := HGLL.out; omega) (by have := HGLD.out; omega) (by have := HGLX.out; omega) (by omega)).mono ?_
  rw [← M3.out]
  rintro e w24 ⟨rfl, ho, hk⟩
  have E28 := Lib.hid (E27.out.mark 3 rfl hk ho)
  clear ho hk
  clear c60 c61 c62
  obtain ⟨c60, c61, c62, -, -, -, -, -, -, -, -, -, -, -, -, -, -, -, -, -, -, -⟩ := E28.out.cells
  go_wp2_with fail
  refine (helds_ten (s := 1) rfl ⟨(E28.out.rowAt 3 0 rfl rfl), (E28.out.rowAt 3 1 rfl rfl), (E28.out.rowAt 3 2 rfl rfl)⟩ (Nat.le_refl _) (by have := HGLL.out; omega) (by have := HGLD.out; omega) (by have := HGLX.out; omega) (by omega)).mono ?_
  rw [← M3.out]
  rintro e w25 ⟨rfl, hb⟩
  have E29 := Lib.hid (E28.out.step hb)
  clear hb
  clear c60 c61 c62
  go_upto_region 37 with fail
  have EC := E29
  obtain ⟨OL, HOL⟩ := St.letter EC
  go_cut [20, 21] (fun sv o21 wx => ∃ (bq37 lo37 hi37 : Nat) (b43 : Option Addr) (d43 : Nat) (b44 : Option Addr) (d44 : Nat) (b45 : Option Addr) (d45 : Nat), o21 = .bool ok ∧ sv = .pointer (some ⟨bq37, 0, none⟩) ∧ Hid (St w wx [(bq37, 0, .slice b43 GL.length d43), (bq37, 1, .slice b44 GD.length d44), (bq37, 2, .slice b45 GX.length d45), (bq14, 0, .slice b23 GL.length d23), (bq14, 1, .slice b24 GD.length d24), (bq14, 2, .slice b25 GX.length d25), (w9.heap.size, 0, .slice b16 uL.length d16), (w9.heap.size, 1, .slice b17 uD.length d17), (w9.heap.size, 2, .slice b18 uX.length d18), (w8.heap.size, 0, .slice b13 tL.length d13), (w8.heap.size, 1, .slice b14 tD.length d14), (w8.heap.size, 2, .slice b15 tX.length d15), (bq10, 0, .slice b10 GL.length d10), (bq10, 1, .slice b11 GD.length d11), (bq10, 2, .slice b12 GX.length d12), (w.heap.size + 1 + 1, 0, .slice auL uL.length cuL), (w.heap.size + 1 + 1, 1, .slice auD uD.length cuD), (w.heap.size + 1 + 1, 2, .slice auX uX.length cuX), (w.heap.size + 1, 0, .slice atL tL.length ctL), (w.heap.size + 1, 1, .slice atD tD.length ctD), (w.heap.size + 1, 2, .slice atX tX.length ctX), (w.heap.size, 0, .int .i64 rk), (w.heap.size, 1, .int .i64 rp), (w.heap.size, 2, .int .i64 rn)] [(.slice atL tL.length ctL, tL), (.slice atD tD.length ctD, tD), (.slice atX tX.length ctX, tX), (.slice auL uL.length cuL, uL), (.slice auD uD.length cuD, uD), (.slice auX uX.length cuX, uX), (.slice ax x.length cx, x)] ((lo37, hi37, [(.slice b43 GL.length d43, GL), (.slice b44 GD.length d44, GD), (.slice b45 GX.length d45, GX)]) :: OL)))
  case first =>
    have EP := EC
    have EC := Lib.hid EC.out.drew
    obtain ⟨-, -, -, -, -, -, -, -, -, -, -, -, c20, c21, c22, c10, c11, c12, c00, c01, c02, -⟩ := EC.out.cells
    refine wp_region_held_drew (S := fun w' => w'.cell? ⟨w.heap.size + 1 + 1, 0, none⟩ = some (.slice auL uL.length cuL) ∧ w'.cell? ⟨w.heap.size + 1 + 1, 1, none⟩ = some (.slice auD uD.length cuD) ∧ w'.cell? ⟨w.heap.size + 1 + 1, 2, none⟩ = some (.slice auX uX.length cuX) ∧ w'.cell? ⟨w.heap.size + 1, 0, none⟩ = some (.slice atL tL.length ctL) ∧ w'.cell? ⟨w.heap.size + 1, 1, none⟩ = some (.slice atD tD.length ctD) ∧ w'.cell? ⟨w.heap.size + 1, 2, none⟩ = some (.slice atX tX.length ctX) ∧ w'.cell? ⟨w.heap.size, 0, none⟩ = some (.int .i64 rk) ∧ w'.cell? ⟨w.heap.size, 1, none⟩ = some (.int .i64 rp) ∧ w'.cell? ⟨w.heap.size, 2, none⟩ = some (.int .i64 rn)) (by kernel_rfl) (by (try dsimp only); exact ⟨c20, c21, c22, c10, c11, c12, c00, c01, c02⟩) (fun hHeld => ?_)
    refine wpAnyH_take (i := 0) (v := ?_) rfl (by kernel_rfl) (by kernel_rfl) (by kernel_rfl) (fun _ _ _ h => h) (Or.inl ⟨by rfl, ?_⟩) (by assumption) ?_
    rotate_left
    · intro w hSw; (try dsimp only at hSw); go_simp <;> with_reducible rfl
    try simp only [Act.put, List.getElem_toArray, List.getElem_cons_zero, List.setIfInBounds_toArray, List.set_cons_zero, List.set_cons_succ]
    refine wpAnyH_take (i := 2) (v := ?_) rfl (by kernel_rfl) (by kernel_rfl) (by kernel_rfl) (fun _ _ _ h => h) (Or.inl ⟨by rfl, ?_⟩) (by assumption) ?_
    rotate_left
    · intro w hSw; (try dsimp only at hSw); go_simp <;> with_reducible rfl
    try simp only [Act.put, List.getElem_toArray, List.getElem_cons_succ, List.getElem_cons_zero, List.setIfInBounds_toArray, List.set_cons_zero, List.set_cons_succ]
    refine wpAnyH_take (i := 4) (v := ?_) rfl (by kernel_rfl) (by kernel_rfl) (by kernel_rfl) (fun _ _ _ h => h) (Or.inl ⟨by rfl, ?_⟩) (by assumption) ?_
    rotate_left
    · intro w hSw; (try dsimp only at hSw); go_simp <;> with_reducible rfl
    try simp only [Act.put, List.getElem_toArray, List.getElem_cons_succ, List.getElem_cons_zero, List.setIfInBounds_toArray, List.set_cons_zero, List.set_cons_succ]
    refine wpAnyH_take (i := 6) (v := ?_) rfl (by kernel_rfl) (by kernel_rfl) (by kernel_rfl) (fun _ _ _ h => h) (Or.inl ⟨by rfl, ?_⟩) (by assumption) ?_
    rotate_left
    · intro w hSw; (try dsimp only at hSw); go_simp <;> with_reducible rfl
    try simp only [Act.put, List.getElem_toArray, List.getElem_cons_succ, List.getElem_cons_zero, List.setIfInBounds_toArray, List.set_cons_zero, List.set_cons_succ]
    refine wpAnyH_ready (rs := [1, 12]) (by kernel_rfl) (by simp) ?_
    refine AllReadyH.cons rfl (fun K hK => ?_) (AllReadyH.cons rfl (fun K hK => ?_) AllReadyH.nil)
    · go_simp
      go_at_call 36
      have EQ := EC
      refine (to_ring rk rp rn _).mono ?_
      rintro e w26 ⟨rfl, hb⟩
      replace EC := Lib.hid (EC.out.step hb)
      clear hb
      clear EQ c20 c21 c22 c10 c11 c12 c00 c01 c02
      obtain ⟨-, -, -, -, -, -, -, -, -, -, -, -, c20, c21, c22, c10, c11, c12, c00, c01, c02, -⟩ := EC.out.cells
      go_wp2_with fail
      refine hK.out _ _ (by (try dsimp only); exact ⟨c20, c21, c22, c10, c11, c12, c00, c01, c02⟩) (fun hHeld => ?_)
      clear hK K
      try simp only [Act.put, List.getElem_toArray, List.getElem_cons_succ, List.getElem_cons_zero, List.setIfInBounds_toArray, List.set_cons_zero, List.set_cons_succ]
      refine wpAnyH_ready (rs := [3, 12]) (by kernel_rfl) (by simp) ?_
      refine AllReadyH.cons rfl (fun K hK => ?_) (AllReadyH.cons rfl (fun K hK => ?_) AllReadyH.nil)
      · go_simp
        go_at_call 37
        have EQ := EC
        refine (to_ten ⟨((EQ.out.rdAt 0 rfl).mono EQ.out.bel.size), ((EQ.out.rdAt 1 rfl).mono EQ.out.bel.size), ((EQ.out.rdAt 2 rfl).mono EQ.out.bel.size)⟩ (Nat.le_refl _) (by have := BtL.out; omega) (by have := BtD.out; omega) (by have := BtX.out; omega)).mono ?_
        rintro e w27 ⟨v0, v1, v2, rfl, ho, hb⟩
        obtain ⟨b33, d33, rfl, -⟩ := ints_form ho.rows.1.rd
        obtain ⟨b34, d34, rfl, -⟩ := ints_form ho.rows.2.1.rd
        obtain ⟨b35, d35, rfl, -⟩ := ints_form ho.rows.2.2.rd
        replace EC := Lib.hid (EC.out.grp hb ho)
        clear hb ho
        clear EQ c20 c21 c22 c10 c11 c12 c00 c01 c02
        obtain ⟨-, -, -, -, -, -, -, -, -, -, -, -, c20, c21, c22, c10, c11, c12, c00, c01, c02, -⟩ := EC.out.cells
        go_wp2_with fail
        refine hK.out _ _ (by (try dsimp only); exact ⟨c20, c21, c22, c10, c11, c12, c00, c01, c02⟩) (fun hHeld => ?_)
        clear hK K
        try simp only [Act.put, List.getElem_toArray, List.getElem_cons_succ, List.getElem_cons_zero, List.setIfInBounds_toArray, List.set_cons_zero, List.set_cons_succ]
        refine wpAnyH_ready (rs := [5, 12]) (by kernel_rfl) (by simp) ?_
        refine AllReadyH.cons rfl (fun K hK => ?_) (AllReadyH.cons rfl (fun K hK => ?_) AllReadyH.nil)
        · go_simp
          go_at_call 37
          have EQ := EC
          refine (to_ten ⟨((EQ.out.rdAt 3 rfl).mono EQ.out.bel.size), ((EQ.out.rdAt 4 rfl).mono EQ.out.bel.size), ((EQ.out.rdAt 5 rfl).mono EQ.out.bel.size)⟩ (Nat.le_refl _) (by have := BuL.out; omega) (by have := BuD.out; omega) (by have := BuX.out; omega)).mono ?_
          rintro e w28 ⟨v0, v1, v2, rfl, ho, hb⟩
          obtain ⟨b36, d36, rfl, -⟩ := ints_form ho.rows.1.rd
          obtain ⟨b37, d37, rfl, -⟩ := ints_form ho.rows.2.1.rd
          obtain ⟨b38, d38, rfl, -⟩ := ints_form ho.rows.2.2.rd
          replace EC := Lib.hid (EC.out.grp hb ho)
          clear hb ho
          clear EQ c20 c21 c22 c10 c11 c12 c00 c01 c02
          obtain ⟨-, -, -, -, -, -, -, -, -, -, -, -, c20, c21, c22, c10, c11, c12, c00, c01, c02, -⟩ := EC.out.cells
          go_wp2_with fail
          refine hK.out _ _ (by (try dsimp only); exact ⟨c20, c21, c22, c10, c11, c12, c00, c01, c02⟩) (fun hHeld => ?_)
          clear hK K
          try simp only [Act.put, List.getElem_toArray, List.getElem_cons_succ, List.getElem_cons_zero, List.setIfInBounds_toArray, List.set_cons_zero, List.set_cons_succ]
          refine wpAnyH_ready (rs := [7, 12]) (by kernel_rfl) (by simp) ?_
          refine AllReadyH.cons rfl (fun K hK => ?_) (AllReadyH.cons rfl (fun K hK => ?_) AllReadyH.nil)
          · go_simp
            go_at_call 32
            have EQ := EC
            refine (to_row ((EQ.out.rdAt 6 rfl).mono EQ.out.bel.size) (Nat.le_refl _) (by have := Bx.out; omega)).mono ?_
            rintro e w29 ⟨v, rfl, ho, hb⟩
            obtain ⟨b39, d39, rfl, -⟩ := ints_form ho.rd
            replace EC := Lib.hid (EC.out.grp hb (OwnG.one ho))
            clear hb ho
            clear EQ c20 c21 c22 c10 c11 c12 c00 c01 c02
            obtain ⟨-, -, -, -, -, -, -, -, -, -, -, -, c20, c21, c22, c10, c11, c12, c00, c01, c02, -⟩ := EC.out.cells
            go_wp2_with fail
            refine hK.out _ _ (by (try dsimp only); exact ⟨c20, c21, c22, c10, c11, c12, c00, c01, c02⟩) (fun hHeld => ?_)
            clear hK K
            try simp only [Act.put, List.getElem_toArray, List.getElem_cons_succ, List.getElem_cons_zero, List.setIfInBounds_toArray, List.set_cons_zero, List.set_cons_succ]
            refine wpAnyH_ready (rs := [8, 12]) (by kernel_rfl) (by simp) ?_
            refine AllReadyH.cons rfl (fun K hK => ?_) (AllReadyH.cons rfl (fun K hK => ?_) AllReadyH.nil)
            · go_simp
              go_at_call 38
              have EQ := EC
              refine (contract_pair_impl ⟨(EQ.out.rowAt 2 0 rfl rfl), (EQ.out.rowAt 2 1 rfl rfl), (EQ.out.rowAt 2 2 rfl rfl)⟩ ⟨(EQ.out.rowAt 1 0 rfl rfl), (EQ.out.rowAt 1 1 rfl rfl), (EQ.out.rowAt 1 2 rfl rfl)⟩ (EQ.out.rowAt 0 0 rfl rfl) (Nat.le_refl _) (Nat.le_refl _) (Nat.le_refl _) ⟨(by have := BtL.out; omega), (by have := BtD.out; omega), (by have := BtX.out; omega)⟩ ⟨(by have := BuL.out; omega), (by have := BuD.out; omega), (by have := BuX.out; omega)⟩ (by have := Bx.out; omega) HhI.out HhJ.out).mono ?_
              rw [← HGL.out, ← HGD.out, ← HGX.out, ← HOK.out]
              rintro e w30 ⟨v0, v1, v2, rfl, ho, hb⟩
              obtain ⟨b40, d40, rfl, -⟩ := ints_form ho.rows.1.rd
              obtain ⟨b41, d41, rfl, -⟩ := ints_form ho.rows.2.1.rd
              obtain ⟨b42, d42, rfl, -⟩ := ints_form ho.rows.2.2.rd
              replace EC := Lib.hid (EC.out.grp hb ho)
              clear hb ho
              clear EQ c20 c21 c22 c10 c11 c12 c00 c01 c02
              obtain ⟨-, -, -, -, -, -, -, -, -, -, -, -, c20, c21, c22, c10, c11, c12, c00, c01, c02, -⟩ := EC.out.cells
              go_wp2_with fail
              refine hK.out _ _ (by (try dsimp only); exact ⟨c20, c21, c22, c10, c11, c12, c00, c01, c02⟩) (fun hHeld => ?_)
              clear hK K
              try simp only [Act.put, List.getElem_toArray, List.getElem_cons_succ, List.getElem_cons_zero, List.setIfInBounds_toArray, List.set_cons_zero, List.set_cons_succ]
              refine wpAnyH_take (i := 9) (v := ?_) rfl (by kernel_rfl) (by kernel_rfl) (by kernel_rfl) (fun _ _ _ h => h) (Or.inl ⟨by rfl, ?_⟩) (by assumption) ?_
              rotate_left
              · intro w hSw; (try dsimp only at hSw); go_simp <;> with_reducible rfl
              try simp only [Act.put, List.getElem_toArray, List.getElem_cons_succ, List.getElem_cons_zero, List.setIfInBounds_toArray, List.set_cons_zero, List.set_cons_succ]
              refine wpAnyH_take (i := 10) (v := ?_) rfl (by kernel_rfl) (by kernel_rfl) (by kernel_rfl) (fun _ _ _ h => h) (Or.inl ⟨by rfl, ?_⟩) (by assumption) ?_
              rotate_left
              · intro w hSw; (try dsimp only at hSw); go_simp <;> with_reducible rfl
              try simp only [Act.put, List.getElem_toArray, List.getElem_cons_succ, List.getElem_cons_zero, List.setIfInBounds_toArray, List.set_cons_zero, List.set_cons_succ]
              refine wpAnyH_take (i := 11) (v := ?_) rfl (by kernel_rfl) (by kernel_rfl) (by kernel_rfl) (fun _ _ _ h => h) (Or.inl ⟨by rfl, ?_⟩) (by assumption) ?_
              rotate_left
              · intro w hSw; (try dsimp only at hSw); go_simp <;> with_reducible rfl
              try simp only [Act.put, List.getElem_toArray, List.getElem_cons_succ, List.getElem_cons_zero, List.setIfInBounds_toArray, List.set_cons_zero, List.set_cons_succ]
              refine wpAnyH_ready (rs := [12]) (by kernel_rfl) (by simp) ?_
              refine AllReadyH.cons rfl (fun K hK => ?_) AllReadyH.nil
              go_simp
              refine hK.out _ _ (by (try dsimp only); first | exact ⟨EC.out.cellA _ 12 rfl, EC.out.cellA _ 13 rfl, EC.out.cellA _ 14 rfl, EC.out.cellA _ 15 rfl, EC.out.cellA _ 16 rfl, EC.out.cellA _ 17 rfl, EC.out.cellA _ 18 rfl, EC.out.cellA _ 19 rfl, EC.out.cellA _ 20 rfl⟩ | fail) (fun hHeld => ?_)
              clear hK K
              try simp only [Act.put, List.getElem_toArray, List.getElem_cons_succ, List.getElem_cons_zero, List.setIfInBounds_toArray, List.set_cons_zero, List.set_cons_succ]
              refine wpAnyH_ready (rs := [13]) (by kernel_rfl) (by simp) ?_
              refine AllReadyH.cons rfl (fun K hK => ?_) AllReadyH.nil
              go_simp
              refine hK.out _ _ (by (try dsimp only); exact ⟨EC.out.cellA _ 12 rfl, EC.out.cellA _ 13 rfl, EC.out.cellA _ 14 rfl, EC.out.cellA _ 15 rfl, EC.out.cellA _ 16 rfl, EC.out.cellA _ 17 rfl, EC.out.cellA _ 18 rfl, EC.out.cellA _ 19 rfl, EC.out.cellA _ 20 rfl⟩) (fun hHeld => ?_)
              clear hK K
              try simp only [Act.put, List.getElem_toArray, List.getElem_cons_succ, List.getElem_cons_zero, List.setIfInBounds_toArray, List.set_cons_zero, List.set_cons_succ]
              refine wpAnyH_take (i := 14) (v := ?_) rfl (by kernel_rfl) (by kernel_rfl) (by kernel_rfl) (fun _ _ _ h => h) (Or.inl ⟨by rfl, ?_⟩) (by assumption) ?_
              rotate_left
              · intro w hSw; (try dsimp only at hSw); go_simp <;> with_reducible rfl
              try simp only [Act.put, List.getElem_toArray, List.getElem_cons_succ, List.getElem_cons_zero, List.setIfInBounds_toArray, List.set_cons_zero, List.set_cons_succ]
              refine wpAnyH_done (by kernel_rfl) ?_ _
              go_wp2_with fail
              go_meet
              exact ⟨_, _, _, _, _, _, _, _, _, rfl, rfl, Lib.hid ((EC.out.box3 _ _ _ _).subL HOL.out (List.Sublist.cons_cons _ (List.Sublist.cons _ (List.Sublist.cons _ (List.Sublist.cons _ (List.Sublist.refl _))))))⟩
            · go_simp
              refine hK.out _ _ (by (try dsimp only); first | exact ⟨EC.out.cellA _ 12 rfl, EC.out.cellA _ 13 rfl, EC.out.cellA _ 14 rfl, EC.out.cellA _ 15 rfl, EC.out.cellA _ 16 rfl, EC.out.cellA _ 17 rfl, EC.out.cellA _ 18 rfl, EC.out.cellA _ 19 rfl, EC.out.cellA _ 20 rfl⟩ | fail) (fun hHeld => ?_)
              have EB := Lib.hid (StB.new EC.out 49)
              try simp only [World.size_alloc] at EB HOL
              clear EC c20 c21 c22 c10 c11 c12 c00 c01 c02
              obtain ⟨-, -, -, -, -, -, -, -, -, -, -, -, c20, c21, c22, c10, c11, c12, c00, c01, c02, -⟩ := EB.out.st.cells
              (try clear t0 t1 t2 f0 f1 f2)
              obtain ⟨-, t0, t1, t2, fr, -, -⟩ := EB.out.bx
              have f0 := fr 0
              have f1 := fr 1
              have f2 := fr 2
              clear fr
              clear hK K
              try simp only [Act.put, List.getElem_toArray, List.getElem_cons_succ, List.getElem_cons_zero, List.setIfInBounds_toArray, List.set_cons_zero, List.set_cons_succ]
              refine wpAnyH_ready (rs := [8]) (by kernel_rfl) (by simp) ?_
              refine AllReadyH.cons rfl (fun K hK => ?_) AllReadyH.nil
              go_simp
              go_at_call 38
              have EQ := Lib.hid EB.out.st
              refine (contract_pair_impl ⟨(EQ.out.rowAt 2 0 rfl rfl), (EQ.out.rowAt 2 1 rfl rfl), (EQ.out.rowAt 2 2 rfl rfl)⟩ ⟨(EQ.out.rowAt 1 0 rfl rfl), (EQ.out.rowAt 1 1 rfl rfl), (EQ.out.rowAt 1 2 rfl rfl)⟩ (EQ.out.rowAt 0 0 rfl rfl) (Nat.le_refl _) (Nat.le_refl _) (Nat.le_refl _) ⟨(by have := BtL.out; omega), (by have := BtD.out; omega), (by have := BtX.out; omega)⟩ ⟨(by have := BuL.out; omega), (by have := BuD.out; omega), (by have := BuX.out; omega)⟩ (by have := Bx.out; omega) HhI.out HhJ.out).mono ?_
              rw [← HGL.out, ← HGD.out, ← HGX.out, ← HOK.out]
              rintro e w30 ⟨v0, v1, v2, rfl, ho, hb⟩
              obtain ⟨b40, d40, rfl, -⟩ := ints_form ho.rows.1.rd
              obtain ⟨b41, d41, rfl, -⟩ := ints_form ho.rows.2.1.rd
              obtain ⟨b42, d42, rfl, -⟩ := ints_form ho.rows.2.2.rd
              replace EB := Lib.hid (EB.out.add hb ho)
              clear hb ho
              clear EQ c20 c21 c22 c10 c11 c12 c00 c01 c02
              obtain ⟨-, -, -, -, -, -, -, -, -, -, -, -, c20, c21, c22, c10, c11, c12, c00, c01, c02, -⟩ := EB.out.st.cells
              (try clear t0 t1 t2 f0 f1 f2)
              obtain ⟨-, t0, t1, t2, fr, -, -⟩ := EB.out.bx
              have f0 := fr 0
              have f1 := fr 1
              have f2 := fr 2
              clear fr
              go_wp2_with fail
              refine hK.out _ _ (by (try dsimp only); exact ⟨c20, c21, c22, c10, c11, c12, c00, c01, c02⟩) (fun hHeld => ?_)
              clear hK K
              try simp only [Act.put, List.getElem_toArray, List.getElem_cons_succ, List.getElem_cons_zero, List.setIfInBounds_toArray, List.set_cons_zero, List.set_cons_succ]
              refine wpAnyH_take (i := 9) (v := ?_) rfl (by kernel_rfl) (by kernel_rfl) (by kernel_rfl) (fun _ _ _ h => h) (Or.inl ⟨by rfl, ?_⟩) (by assumption) ?_
              rotate_left
              · intro w hSw; (try dsimp only at hSw); go_simp <;> with_reducible rfl
              try simp only [Act.put, List.getElem_toArray, List.getElem_cons_succ, List.getElem_cons_zero, List.setIfInBounds_toArray, List.set_cons_zero, List.set_cons_succ]
              refine wpAnyH_take (i := 10) (v := ?_) rfl (by kernel_rfl) (by kernel_rfl) (by kernel_rfl) (fun _ _ _ h => h) (Or.inl ⟨by rfl, ?_⟩) (by assumption) ?_
              rotate_left
              · intro w hSw; (try dsimp only at hSw); go_simp <;> with_reducible rfl
              try simp only [Act.put, List.getElem_toArray, List.getElem_cons_succ, List.getElem_cons_zero, List.setIfInBounds_toArray, List.set_cons_zero, List.set_cons_succ]
              refine wpAnyH_take (i := 11) (v := ?_) rfl (by kernel_rfl) (by kernel_rfl) (by kernel_rfl) (fun _ _ _ h => h) (Or.inl ⟨by rfl, ?_⟩) (by assumption) ?_
              rotate_left
              · intro w hSw; (try dsimp only at hSw); go_simp <;> with_reducible rfl
              try simp only [Act.put, List.getElem_toArray, List.getElem_cons_succ, List.getElem_cons_zero, List.setIfInBounds_toArray, List.set_cons_zero, List.set_cons_succ]
              refine wpAnyH_ready (rs := [13]) (by kernel_rfl) (by simp) ?_
              refine AllReadyH.cons rfl (fun K hK => ?_) AllReadyH.nil
              go_simp
              refine hK.out _ _ (by (try dsimp only); exact ⟨EB.out.cell3 _ _ _ 12 rfl, EB.out.cell3 _ _ _ 13 rfl, EB.out.cell3 _ _ _ 14 rfl, EB.out.cell3 _ _ _ 15 rfl, EB.out.cell3 _ _ _ 16 rfl, EB.out.cell3 _ _ _ 17 rfl, EB.out.cell3 _ _ _ 18 rfl, EB.out.cell3 _ _ _ 19 rfl, EB.out.cell3 _ _ _ 20 rfl⟩) (fun hHeld => ?_)
              clear hK K
              try simp only [Act.put, List.getElem_toArray, List.getElem_cons_succ, List.getElem_cons_zero, List.setIfInBounds_toArray, List.set_cons_zero, List.set_cons_succ]
              refine wpAnyH_take (i := 14) (v := ?_) rfl (by kernel_rfl) (by kernel_rfl) (by kernel_rfl) (fun _ _ _ h => h) (Or.inl ⟨by rfl, ?_⟩) (by assumption) ?_
              rotate_left
              · intro w hSw; (try dsimp only at hSw); go_simp <;> with_reducible rfl
              try simp only [Act.put, List.getElem_toArray, List.getElem_cons_succ, List.getElem_cons_zero, List.setIfInBounds_toArray, List.set_cons_zero, List.set_cons_succ]
              refine wpAnyH_done (by kernel_rfl) ?_ _
              go_wp2_with fail
              go_meet
              exact ⟨_, _, _, _, _, _, _, _, _, rfl, rfl, Lib.hid ((EB.out.put _ _ _).subL HOL.out (List.Sublist.cons_cons _ (List.Sublist.cons _ (List.Sublist.cons _ (List.Sublist.cons _ (List.Sublist.refl _))))))⟩
          · go_simp
            refine hK.out _ _ (by (try dsimp only); first | exact ⟨EC.out.cellA _ 12 rfl, EC.out.cellA _ 13 rfl, EC.out.cellA _ 14 rfl, EC.out.cellA _ 15 rfl, EC.out.cellA _ 16 rfl, EC.out.cellA _ 17 rfl, EC.out.cellA _ 18 rfl, EC.out.cellA _ 19 rfl, EC.out.cellA _ 20 rfl⟩ | fail) (fun hHeld => ?_)
            have EB := Lib.hid (StB.new EC.out 49)
            try simp only [World.size_alloc] at EB HOL
            clear EC c20 c21 c22 c10 c11 c12 c00 c01 c02
            obtain ⟨-, -, -, -, -, -, -, -, -, -, -, -, c20, c21, c22, c10, c11, c12, c00, c01, c02, -⟩ := EB.out.st.cells
            (try clear t0 t1 t2 f0 f1 f2)
            obtain ⟨-, t0, t1, t2, fr, -, -⟩ := EB.out.bx
            have f0 := fr 0
            have f1 := fr 1
            have f2 := fr 2
            clear fr
            clear hK K
            try simp only [Act.put, List.getElem_toArray, List.getElem_cons_succ, List.getElem_cons_zero, List.setIfInBounds_toArray, List.set_cons_zero, List.set_cons_succ]
            refine wpAnyH_ready (rs := [7]) (by kernel_rfl) (by simp) ?_
            refine AllReadyH.cons rfl (fun K hK => ?_) AllReadyH.nil
            go_simp
            go_at_call 32
            have EQ := Lib.hid EB.out.st
            refine (to_row ((EQ.out.rdAt 6 rfl).mono EQ.out.bel.size) (Nat.le_refl _) (by have := Bx.out; omega)).mono ?_
            rintro e w29 ⟨v, rfl, ho, hb⟩
            obtain ⟨b39, d39, rfl, -⟩ := ints_form ho.rd
            replace EB := Lib.hid (EB.out.add hb (OwnG.one ho))
            clear hb ho
            clear EQ c20 c21 c22 c10 c11 c12 c00 c01 c02
            obtain ⟨-, -, -, -, -, -, -, -, -, -, -, -, c20, c21, c22, c10, c11, c12, c00, c01, c02, -⟩ := EB.out.st.cells
            (try clear t0 t1 t2 f0 f1 f2)
            obtain ⟨-, t0, t1, t2, fr, -, -⟩ := EB.out.bx
            have f0 := fr 0
            have f1 := fr 1
            have f2 := fr 2
            clear fr
            go_wp2_with fail
            refine hK.out _ _ (by (try dsimp only); exact ⟨c20, c21, c22, c10, c11, c12, c00, c01, c02⟩) (fun hHeld => ?_)
            clear hK K
            try simp only [Act.put, List.getElem_toArray, List.getElem_cons_succ, List.getElem_cons_zero, List.setIfInBounds_toArray, List.set_cons_zero, List.set_cons_succ]
            refine wpAnyH_ready (rs := [8]) (by kernel_rfl) (by simp) ?_
            refine AllReadyH.cons rfl (fun K hK => ?_) AllReadyH.nil
            go_simp
            go_at_call 38
            have EQ := Lib.hid EB.out.st
            refine (contract_pair_impl ⟨(EQ.out.rowAt 2 0 rfl rfl), (EQ.out.rowAt 2 1 rfl rfl), (EQ.out.rowAt 2 2 rfl rfl)⟩ ⟨(EQ.out.rowAt 1 0 rfl rfl), (EQ.out.rowAt 1 1 rfl rfl), (EQ.out.rowAt 1 2 rfl rfl)⟩ (EQ.out.rowAt 0 0 rfl rfl) (Nat.le_refl _) (Nat.le_refl _) (Nat.le_refl _) ⟨(by have := BtL.out; omega), (by have := BtD.out; omega), (by have := BtX.out; omega)⟩ ⟨(by have := BuL.out; omega), (by have := BuD.out; omega), (by have := BuX.out; omega)⟩ (by have := Bx.out; omega) HhI.out HhJ.out).mono ?_
            rw [← HGL.out, ← HGD.out, ← HGX.out, ← HOK.out]
            rintro e w30 ⟨v0, v1, v2, rfl, ho, hb⟩
            obtain ⟨b40, d40, rfl, -⟩ := ints_form ho.rows.1.rd
            obtain ⟨b41, d41, rfl, -⟩ := ints_form ho.rows.2.1.rd
            obtain ⟨b42, d42, rfl, -⟩ := ints_form ho.rows.2.2.rd
            replace EB := Lib.hid (EB.out.add hb ho)
            clear hb ho
            clear EQ c20 c21 c22 c10 c11 c12 c00 c01 c02
            obtain ⟨-, -, -, -, -, -, -, -, -, -, -, -, c20, c21, c22, c10, c11, c12, c00, c01, c02, -⟩ := EB.out.st.cells
            (try clear t0 t1 t2 f0 f1 f2)
            obtain ⟨-, t0, t1, t2, fr, -, -⟩ := EB.out.bx
            have f0 := fr 0
            have f1 := fr 1
            have f2 := fr 2
            clear fr
            go_wp2_with fail
            refine hK.out _ _ (by (try dsimp only); exact ⟨c20, c21, c22, c10, c11, c12, c00, c01, c02⟩) (fun hHeld => ?_)
            clear hK K
            try simp only [Act.put, List.getElem_toArray, List.getElem_cons_succ, List.getElem_cons_zero, List.setIfInBounds_toArray, List.set_cons_zero, List.set_cons_succ]
            refine wpAnyH_take (i := 9) (v := ?_) rfl (by kernel_rfl) (by kernel_rfl) (by kernel_rfl) (fun _ _ _ h => h) (Or.inl ⟨by rfl, ?_⟩) (by assumption) ?_
            rotate_left
            · intro w hSw; (try dsimp only at hSw); go_simp <;> with_reducible rfl
            try simp only [Act.put, List.getElem_toArray, List.getElem_cons_succ, List.getElem_cons_zero, List.setIfInBounds_toArray, List.set_cons_zero, List.set_cons_succ]
            refine wpAnyH_take (i := 10) (v := ?_) rfl (by kernel_rfl) (by kernel_rfl) (by kernel_rfl) (fun _ _ _ h => h) (Or.inl ⟨by rfl, ?_⟩) (by assumption) ?_
            rotate_left
            · intro w hSw; (try dsimp only at hSw); go_simp <;> with_reducible rfl
            try simp only [Act.put, List.getElem_toArray, List.getElem_cons_succ, List.getElem_cons_zero, List.setIfInBounds_toArray, List.set_cons_zero, List.set_cons_succ]
            refine wpAnyH_take (i := 11) (v := ?_) rfl (by kernel_rfl) (by kernel_rfl) (by kernel_rfl) (fun _ _ _ h => h) (Or.inl ⟨by rfl, ?_⟩) (by assumption) ?_
            rotate_left
            · intro w hSw; (try dsimp only at hSw); go_simp <;> with_reducible rfl
            try simp only [Act.put, List.getElem_toArray, List.getElem_cons_succ, List.getElem_cons_zero, List.setIfInBounds_toArray, List.set_cons_zero, List.set_cons_succ]
            refine wpAnyH_ready (rs := [13]) (by kernel_rfl) (by simp) ?_
            refine AllReadyH.cons rfl (fun K hK => ?_) AllReadyH.nil
            go_simp
            refine hK.out _ _ (by (try dsimp only); exact ⟨EB.out.cell3 _ _ _ 12 rfl, EB.out.cell3 _ _ _ 13 rfl, EB.out.cell3 _ _ _ 14 rfl, EB.out.cell3 _ _ _ 15 rfl, EB.out.cell3 _ _ _ 16 rfl, EB.out.cell3 _ _ _ 17 rfl, EB.out.cell3 _ _ _ 18 rfl, EB.out.cell3 _ _ _ 19 rfl, EB.out.cell3 _ _ _ 20 rfl⟩) (fun hHeld => ?_)
            clear hK K
            try simp only [Act.put, List.getElem_toArray, List.getElem_cons_succ, List.getElem_cons_zero, List.setIfInBounds_toArray, List.set_cons_zero, List.set_cons_succ]
            refine wpAnyH_take (i := 14) (v := ?_) rfl (by kernel_rfl) (by kernel_rfl) (by kernel_rfl) (fun _ _ _ h => h) (Or.inl ⟨by rfl, ?_⟩) (by assumption) ?_
            rotate_left
            · intro w hSw; (try dsimp only at hSw); go_simp <;> with_reducible rfl
            try simp only [Act.put, List.getElem_toArray, List.getElem_cons_succ, List.getElem_cons_zero, List.setIfInBounds_toArray, List.set_cons_zero, List.set_cons_succ]
            refine wpAnyH_done (by kernel_rfl) ?_ _
            go_wp2_with fail
            go_meet
            exact ⟨_, _, _, _, _, _, _, _, _, rfl, rfl, Lib.hid ((EB.out.put _ _ _).subL HOL.out (List.Sublist.cons_cons _ (List.Sublist.cons _ (List.Sublist.cons _ (List.Sublist.cons _ (List.Sublist.refl _))))))⟩
        · go_simp
          refine hK.out _ _ (by (try dsimp only); first | exact ⟨EC.out.cellA _ 12 rfl, EC.out.cellA _ 13 rfl, EC.out.cellA _ 14 rfl, EC.out.cellA _ 15 rfl, EC.out.cellA _ 16 rfl, EC.out.cellA _ 17 rfl, EC.out.cellA _ 18 rfl, EC.out.cellA _ 19 rfl, EC.out.cellA _ 20 rfl⟩ | fail) (fun hHeld => ?_)
          have EB := Lib.hid (StB.new EC.out 49)
          try simp only [World.size_alloc] at EB HOL
          clear EC c20 c21 c22 c10 c11 c12 c00 c01 c02
          obtain ⟨-, -, -, -, -, -, -, -, -, -, -, -, c20, c21, c22, c10, c11, c12, c00, c01, c02, -⟩ := EB.out.st.cells
          (try clear t0 t1 t2 f0 f1 f2)
          obtain ⟨-, t0, t1, t2, fr, -, -⟩ := EB.out.bx
          have f0 := fr 0
          have f1 := fr 1
          have f2 := fr 2
          clear fr
          clear hK K
          try simp only [Act.put, List.getElem_toArray, List.getElem_cons_succ, List.getElem_cons_zero, List.setIfInBounds_toArray, List.set_cons_zero, List.set_cons_succ]
          refine wpAnyH_ready (rs := [5]) (by kernel_rfl) (by simp) ?_
          refine AllReadyH.cons rfl (fun K hK => ?_) AllReadyH.nil
          go_simp
          go_at_call 37
          have EQ := Lib.hid EB.out.st
          refine (to_ten ⟨((EQ.out.rdAt 3 rfl).mono EQ.out.bel.size), ((EQ.out.rdAt 4 rfl).mono EQ.out.bel.size), ((EQ.out.rdAt 5 rfl).mono EQ.out.bel.size)⟩ (Nat.le_refl _) (by have := BuL.out; omega) (by have := BuD.out; omega) (by have := BuX.out; omega)).mono ?_
          rintro e w28 ⟨v0, v1, v2, rfl, ho, hb⟩
          obtain ⟨b36, d36, rfl, -⟩ := ints_form ho.rows.1.rd
          obtain ⟨b37, d37, rfl, -⟩ := ints_form ho.rows.2.1.rd
          obtain ⟨b38, d38, rfl, -⟩ := ints_form ho.rows.2.2.rd
          replace EB := Lib.hid (EB.out.add hb ho)
          clear hb ho
          clear EQ c20 c21 c22 c10 c11 c12 c00 c01 c02
          obtain ⟨-, -, -, -, -, -, -, -, -, -, -, -, c20, c21, c22, c10, c11, c12, c00, c01, c02, -⟩ := EB.out.st.cells
          (try clear t0 t1 t2 f0 f1 f2)
          obtain ⟨-, t0, t1, t2, fr, -, -⟩ := EB.out.bx
          have f0 := fr 0
          have f1 := fr 1
          have f2 := fr 2
          clear fr
          go_wp2_with fail
          refine hK.out _ _ (by (try dsimp only); exact ⟨c20, c21, c22, c10, c11, c12, c00, c01, c02⟩) (fun hHeld => ?_)
          clear hK K
          try simp only [Act.put, List.getElem_toArray, List.getElem_cons_succ, List.getElem_cons_zero, List.setIfInBounds_toArray, List.set_cons_zero, List.set_cons_succ]
          refine wpAnyH_ready (rs := [7]) (by kernel_rfl) (by simp) ?_
          refine AllReadyH.cons rfl (fun K hK => ?_) AllReadyH.nil
          go_simp
          go_at_call 32
          have EQ := Lib.hid EB.out.st
          refine (to_row ((EQ.out.rdAt 6 rfl).mono EQ.out.bel.size) (Nat.le_refl _) (by have := Bx.out; omega)).mono ?_
          rintro e w29 ⟨v, rfl, ho, hb⟩
          obtain ⟨b39, d39, rfl, -⟩ := ints_form ho.rd
          replace EB := Lib.hid (EB.out.add hb (OwnG.one ho))
          clear hb ho
          clear EQ c20 c21 c22 c10 c11 c12 c00 c01 c02
          obtain ⟨-, -, -, -, -, -, -, -, -, -, -, -, c20, c21, c22, c10, c11, c12, c00, c01, c02, -⟩ := EB.out.st.cells
          (try clear t0 t1 t2 f0 f1 f2)
          obtain ⟨-, t0, t1, t2, fr, -, -⟩ := EB.out.bx
          have f0 := fr 0
          have f1 := fr 1
          have f2 := fr 2
          clear fr
          go_wp2_with fail
          refine hK.out _ _ (by (try dsimp only); exact ⟨c20, c21, c22, c10, c11, c12, c00, c01, c02⟩) (fun hHeld => ?_)
          clear hK K
          try simp only [Act.put, List.getElem_toArray, List.getElem_cons_succ, List.getElem_cons_zero, List.setIfInBounds_toArray, List.set_cons_zero, List.set_cons_succ]
          refine wpAnyH_ready (rs := [8]) (by kernel_rfl) (by simp) ?_
          refine AllReadyH.cons rfl (fun K hK => ?_) AllReadyH.nil
          go_simp
          go_at_call 38
          have EQ := Lib.hid EB.out.st
          refine (contract_pair_impl ⟨(EQ.out.rowAt 2 0 rfl rfl), (EQ.out.rowAt 2 1 rfl rfl), (EQ.out.rowAt 2 2 rfl rfl)⟩ ⟨(EQ.out.rowAt 1 0 rfl rfl), (EQ.out.rowAt 1 1 rfl rfl), (EQ.out.rowAt 1 2 rfl rfl)⟩ (EQ.out.rowAt 0 0 rfl rfl) (Nat.le_refl _) (Nat.le_refl _) (Nat.le_refl _) ⟨(by have := BtL.out; omega), (by have := BtD.out; omega), (by have := BtX.out; omega)⟩ ⟨(by have := BuL.out; omega), (by have := BuD.out; omega), (by have := BuX.out; omega)⟩ (by have := Bx.out; omega) HhI.out HhJ.out).mono ?_
          rw [← HGL.out, ← HGD.out, ← HGX.out, ← HOK.out]
          rintro e w30 ⟨v0, v1, v2, rfl, ho, hb⟩
          obtain ⟨b40, d40, rfl, -⟩ := ints_form ho.rows.1.rd
          obtain ⟨b41, d41, rfl, -⟩ := ints_form ho.rows.2.1.rd
          obtain ⟨b42, d42, rfl, -⟩ := ints_form ho.rows.2.2.rd
          replace EB := Lib.hid (EB.out.add hb ho)
          clear hb ho
          clear EQ c20 c21 c22 c10 c11 c12 c00 c01 c02
          obtain ⟨-, -, -, -, -, -, -, -, -, -, -, -, c20, c21, c22, c10, c11, c12, c00, c01, c02, -⟩ := EB.out.st.cells
          (try clear t0 t1 t2 f0 f1 f2)
          obtain ⟨-, t0, t1, t2, fr, -, -⟩ := EB.out.bx
          have f0 := fr 0
          have f1 := fr 1
          have f2 := fr 2
          clear fr
          go_wp2_with fail
          refine hK.out _ _ (by (try dsimp only); exact ⟨c20, c21, c22, c10, c11, c12, c00, c01, c02⟩) (fun hHeld => ?_)
          clear hK K
          try simp only [Act.put, List.getElem_toArray, List.getElem_cons_succ, List.getElem_cons_zero, List.setIfInBounds_toArray, List.set_cons_zero, List.set_cons_succ]
          refine wpAnyH_take (i := 9) (v := ?_) rfl (by kernel_rfl) (by kernel_rfl) (by kernel_rfl) (fun _ _ _ h => h) (Or.inl ⟨by rfl, ?_⟩) (by assumption) ?_
          rotate_left
          · intro w hSw; (try dsimp only at hSw); go_simp <;> with_reducible rfl
          try simp only [Act.put, List.getElem_toArray, List.getElem_cons_succ, List.getElem_cons_zero, List.setIfInBounds_toArray, List.set_cons_zero, List.set_cons_succ]
          refine wpAnyH_take (i := 10) (v := ?_) rfl (by kernel_rfl) (by kernel_rfl) (by kernel_rfl) (fun _ _ _ h => h) (Or.inl ⟨by rfl, ?_⟩) (by assumption) ?_
          rotate_left
          · intro w hSw; (try dsimp only at hSw); go_simp <;> with_reducible rfl
          try simp only [Act.put, List.getElem_toArray, List.getElem_cons_succ, List.getElem_cons_zero, List.setIfInBounds_toArray, List.set_cons_zero, List.set_cons_succ]
          refine wpAnyH_take (i := 11) (v := ?_) rfl (by kernel_rfl) (by kernel_rfl) (by kernel_rfl) (fun _ _ _ h => h) (Or.inl ⟨by rfl, ?_⟩) (by assumption) ?_
          rotate_left
          · intro w hSw; (try dsimp only at hSw); go_simp <;> with_reducible rfl
          try simp only [Act.put, List.getElem_toArray, List.getElem_cons_succ, List.getElem_cons_zero, List.setIfInBounds_toArray, List.set_cons_zero, List.set_cons_succ]
          refine wpAnyH_ready (rs := [13]) (by kernel_rfl) (by simp) ?_
          refine AllReadyH.cons rfl (fun K hK => ?_) AllReadyH.nil
          go_simp
          refine hK.out _ _ (by (try dsimp only); exact ⟨EB.out.cell3 _ _ _ 12 rfl, EB.out.cell3 _ _ _ 13 rfl, EB.out.cell3 _ _ _ 14 rfl, EB.out.cell3 _ _ _ 15 rfl, EB.out.cell3 _ _ _ 16 rfl, EB.out.cell3 _ _ _ 17 rfl, EB.out.cell3 _ _ _ 18 rfl, EB.out.cell3 _ _ _ 19 rfl, EB.out.cell3 _ _ _ 20 rfl⟩) (fun hHeld => ?_)
          clear hK K
          try simp only [Act.put, List.getElem_toArray, List.getElem_cons_succ, List.getElem_cons_zero, List.setIfInBounds_toArray, List.set_cons_zero, List.set_cons_succ]
          refine wpAnyH_take (i := 14) (v := ?_) rfl (by kernel_rfl) (by kernel_rfl) (by kernel_rfl) (fun _ _ _ h => h) (Or.inl ⟨by rfl, ?_⟩) (by assumption) ?_
          rotate_left
          · intro w hSw; (try dsimp only at hSw); go_simp <;> with_reducible rfl
          try simp only [Act.put, List.getElem_toArray, List.getElem_cons_succ, List.getElem_cons_zero, List.setIfInBounds_toArray, List.set_cons_zero, List.set_cons_succ]
          refine wpAnyH_done (by kernel_rfl) ?_ _
          go_wp2_with fail
          go_meet
          exact ⟨_, _, _, _, _, _, _, _, _, rfl, rfl, Lib.hid ((EB.out.put _ _ _).subL HOL.out (List.Sublist.cons_cons _ (List.Sublist.cons _ (List.Sublist.cons _ (List.Sublist.cons _ (List.Sublist.refl _))))))⟩
      · go_simp
        refine hK.out _ _ (by (try dsimp only); first | exact ⟨EC.out.cellA _ 12 rfl, EC.out.cellA _ 13 rfl, EC.out.cellA _ 14 rfl, EC.out.cellA _ 15 rfl, EC.out.cellA _ 16 rfl, EC.out.cellA _ 17 rfl, EC.out.cellA _ 18 rfl, EC.out.cellA _ 19 rfl, EC.out.cellA _ 20 rfl⟩ | fail) (fun hHeld => ?_)
        have EB := Lib.hid (StB.new EC.out 49)
        try simp only [World.size_alloc] at EB HOL
        clear EC c20 c21 c22 c10 c11 c12 c00 c01 c02
        obtain ⟨-, -, -, -, -, -, -, -, -, -, -, -, c20, c21, c22, c10, c11, c12, c00, c01, c02, -⟩ := EB.out.st.cells
        (try clear t0 t1 t2 f0 f1 f2)
        obtain ⟨-, t0, t1, t2, fr, -, -⟩ := EB.out.bx
        have f0 := fr 0
        have f1 := fr 1
        have f2 := fr 2
        clear fr
        clear hK K
        try simp only [Act.put, List.getElem_toArray, List.getElem_cons_succ, List.getElem_cons_zero, List.setIfInBounds_toArray, List.set_cons_zero, List.set_cons_succ]
        refine wpAnyH_ready (rs := [3]) (by kernel_rfl) (by simp) ?_
        refine AllReadyH.cons rfl (fun K hK => ?_) AllReadyH.nil
        go_simp
        go_at_call 37
        have EQ := Lib.hid EB.out.st
        refine (to_ten ⟨((EQ.out.rdAt 0 rfl).mono EQ.out.bel.size), ((EQ.out.rdAt 1 rfl).mono EQ.out.bel.size), ((EQ.out.rdAt 2 rfl).mono EQ.out.bel.size)⟩ (Nat.le_refl _) (by have := BtL.out; omega) (by have := BtD.out; omega) (by have := BtX.out; omega)).mono ?_
        rintro e w27 ⟨v0, v1, v2, rfl, ho, hb⟩
        obtain ⟨b33, d33, rfl, -⟩ := ints_form ho.rows.1.rd
        obtain ⟨b34, d34, rfl, -⟩ := ints_form ho.rows.2.1.rd
        obtain ⟨b35, d35, rfl, -⟩ := ints_form ho.rows.2.2.rd
        replace EB := Lib.hid (EB.out.add hb ho)
        clear hb ho
        clear EQ c20 c21 c22 c10 c11 c12 c00 c01 c02
        obtain ⟨-, -, -, -, -, -, -, -, -, -, -, -, c20, c21, c22, c10, c11, c12, c00, c01, c02, -⟩ := EB.out.st.cells
        (try clear t0 t1 t2 f0 f1 f2)
        obtain ⟨-, t0, t1, t2, fr, -, -⟩ := EB.out.bx
        have f0 := fr 0
        have f1 := fr 1
        have f2 := fr 2
        clear fr
        go_wp2_with fail
        refine hK.out _ _ (by (try dsimp only); exact ⟨c20, c21, c22, c10, c11, c12, c00, c01, c02⟩) (fun hHeld => ?_)
        clear hK K
        try simp only [Act.put, List.getElem_toArray, List.getElem_cons_succ, List.getElem_cons_zero, List.setIfInBounds_toArray, List.set_cons_zero, List.set_cons_succ]
        refine wpAnyH_ready (rs := [5]) (by kernel_rfl) (by simp) ?_
        refine AllReadyH.cons rfl (fun K hK => ?_) AllReadyH.nil
        go_simp
        go_at_call 37
        have EQ := Lib.hid EB.out.st
        refine (to_ten ⟨((EQ.out.rdAt 3 rfl).mono EQ.out.bel.size), ((EQ.out.rdAt 4 rfl).mono EQ.out.bel.size), ((EQ.out.rdAt 5 rfl).mono EQ.out.bel.size)⟩ (Nat.le_refl _) (by have := BuL.out; omega) (by have := BuD.out; omega) (by have := BuX.out; omega)).mono ?_
        rintro e w28 ⟨v0, v1, v2, rfl, ho, hb⟩
        obtain ⟨b36, d36, rfl, -⟩ := ints_form ho.rows.1.rd
        obtain ⟨b37, d37, rfl, -⟩ := ints_form ho.rows.2.1.rd
        obtain ⟨b38, d38, rfl, -⟩ := ints_form ho.rows.2.2.rd
        replace EB := Lib.hid (EB.out.add hb ho)
        clear hb ho
        clear EQ c20 c21 c22 c10 c11 c12 c00 c01 c02
        obtain ⟨-, -, -, -, -, -, -, -, -, -, -, -, c20, c21, c22, c10, c11, c12, c00, c01, c02, -⟩ := EB.out.st.cells
        (try clear t0 t1 t2 f0 f1 f2)
        obtain ⟨-, t0, t1, t2, fr, -, -⟩ := EB.out.bx
        have f0 := fr 0
        have f1 := fr 1
        have f2 := fr 2
        clear fr
        go_wp2_with fail
        refine hK.out _ _ (by (try dsimp only); exact ⟨c20, c21, c22, c10, c11, c12, c00, c01, c02⟩) (fun hHeld => ?_)
        clear hK K
        try simp only [Act.put, List.getElem_toArray, List.getElem_cons_succ, List.getElem_cons_zero, List.setIfInBounds_toArray, List.set_cons_zero, List.set_cons_succ]
        refine wpAnyH_ready (rs := [7]) (by kernel_rfl) (by simp) ?_
        refine AllReadyH.cons rfl (fun K hK => ?_) AllReadyH.nil
        go_simp
        go_at_call 32
        have EQ := Lib.hid EB.out.st
        refine (to_row ((EQ.out.rdAt 6 rfl).mono EQ.out.bel.size) (Nat.le_refl _) (by have := Bx.out; omega)).mono ?_
        rintro e w29 ⟨v, rfl, ho, hb⟩
        obtain ⟨b39, d39, rfl, -⟩ := ints_form ho.rd
        replace EB := Lib.hid (EB.out.add hb (OwnG.one ho))
        clear hb ho
        clear EQ c20 c21 c22 c10 c11 c12 c00 c01 c02
        obtain ⟨-, -, -, -, -, -, -, -, -, -, -, -, c20, c21, c22, c10, c11, c12, c00, c01, c02, -⟩ := EB.out.st.cells
        (try clear t0 t1 t2 f0 f1 f2)
        obtain ⟨-, t0, t1, t2, fr, -, -⟩ := EB.out.bx
        have f0 := fr 0
        have f1 := fr 1
        have f2 := fr 2
        clear fr
        go_wp2_with fail
        refine hK.out _ _ (by (try dsimp only); exact ⟨c20, c21, c22, c10, c11, c12, c00, c01, c02⟩) (fun hHeld => ?_)
        clear hK K
        try simp only [Act.put, List.getElem_toArray, List.getElem_cons_succ, List.getElem_cons_zero, List.setIfInBounds_toArray, List.set_cons_zero, List.set_cons_succ]
        refine wpAnyH_ready (rs := [8]) (by kernel_rfl) (by simp) ?_
        refine AllReadyH.cons rfl (fun K hK => ?_) AllReadyH.nil
        go_simp
        go_at_call 38
        have EQ := Lib.hid EB.out.st
        refine (contract_pair_impl ⟨(EQ.out.rowAt 2 0 rfl rfl), (EQ.out.rowAt 2 1 rfl rfl), (EQ.out.rowAt 2 2 rfl rfl)⟩ ⟨(EQ.out.rowAt 1 0 rfl rfl), (EQ.out.rowAt 1 1 rfl rfl), (EQ.out.rowAt 1 2 rfl rfl)⟩ (EQ.out.rowAt 0 0 rfl rfl) (Nat.le_refl _) (Nat.le_refl _) (Nat.le_refl _) ⟨(by have := BtL.out; omega), (by have := BtD.out; omega), (by have := BtX.out; omega)⟩ ⟨(by have := BuL.out; omega), (by have := BuD.out; omega), (by have := BuX.out; omega)⟩ (by have := Bx.out; omega) HhI.out HhJ.out).mono ?_
        rw [← HGL.out, ← HGD.out, ← HGX.out, ← HOK.out]
        rintro e w30 ⟨v0, v1, v2, rfl, ho, hb⟩
        obtain ⟨b40, d40, rfl, -⟩ := ints_form ho.rows.1.rd
        obtain ⟨b41, d41, rfl, -⟩ := ints_form ho.rows.2.1.rd
        obtain ⟨b42, d42, rfl, -⟩ := ints_form ho.rows.2.2.rd
        replace EB := Lib.hid (EB.out.add hb ho)
        clear hb ho
        clear EQ c20 c21 c22 c10 c11 c12 c00 c01 c02
        obtain ⟨-, -, -, -, -, -, -, -, -, -, -, -, c20, c21, c22, c10, c11, c12, c00, c01, c02, -⟩ := EB.out.st.cells
        (try clear t0 t1 t2 f0 f1 f2)
        obtain ⟨-, t0, t1, t2, fr, -, -⟩ := EB.out.bx
        have f0 := fr 0
        have f1 := fr 1
        have f2 := fr 2
        clear fr
        go_wp2_with fail
        refine hK.out _ _ (by (try dsimp only); exact ⟨c20, c21, c22, c10, c11, c12, c00, c01, c02⟩) (fun hHeld => ?_)
        clear hK K
        try simp only [Act.put, List.getElem_toArray, List.getElem_cons_succ, List.getElem_cons_zero, List.setIfInBounds_toArray, List.set_cons_zero, List.set_cons_succ]
        refine wpAnyH_take (i := 9) (v := ?_) rfl (by kernel_rfl) (by kernel_rfl) (by kernel_rfl) (fun _ _ _ h => h) (Or.inl ⟨by rfl, ?_⟩) (by assumption) ?_
        rotate_left
        · intro w hSw; (try dsimp only at hSw); go_simp <;> with_reducible rfl
        try simp only [Act.put, List.getElem_toArray, List.getElem_cons_succ, List.getElem_cons_zero, List.setIfInBounds_toArray, List.set_cons_zero, List.set_cons_succ]
        refine wpAnyH_take (i := 10) (v := ?_) rfl (by kernel_rfl) (by kernel_rfl) (by kernel_rfl) (fun _ _ _ h => h) (Or.inl ⟨by rfl, ?_⟩) (by assumption) ?_
        rotate_left
        · intro w hSw; (try dsimp only at hSw); go_simp <;> with_reducible rfl
        try simp only [Act.put, List.getElem_toArray, List.getElem_cons_succ, List.getElem_cons_zero, List.setIfInBounds_toArray, List.set_cons_zero, List.set_cons_succ]
        refine wpAnyH_take (i := 11) (v := ?_) rfl (by kernel_rfl) (by kernel_rfl) (by kernel_rfl) (fun _ _ _ h => h) (Or.inl ⟨by rfl, ?_⟩) (by assumption) ?_
        rotate_left
        · intro w hSw; (try dsimp only at hSw); go_simp <;> with_reducible rfl
        try simp only [Act.put, List.getElem_toArray, List.getElem_cons_succ, List.getElem_cons_zero, List.setIfInBounds_toArray, List.set_cons_zero, List.set_cons_succ]
        refine wpAnyH_ready (rs := [13]) (by kernel_rfl) (by simp) ?_
        refine AllReadyH.cons rfl (fun K hK => ?_) AllReadyH.nil
        go_simp
        refine hK.out _ _ (by (try dsimp only); exact ⟨EB.out.cell3 _ _ _ 12 rfl, EB.out.cell3 _ _ _ 13 rfl, EB.out.cell3 _ _ _ 14 rfl, EB.out.cell3 _ _ _ 15 rfl, EB.out.cell3 _ _ _ 16 rfl, EB.out.cell3 _ _ _ 17 rfl, EB.out.cell3 _ _ _ 18 rfl, EB.out.cell3 _ _ _ 19 rfl, EB.out.cell3 _ _ _ 20 rfl⟩) (fun hHeld => ?_)
        clear hK K
        try simp only [Act.put, List.getElem_toArray, List.getElem_cons_succ, List.getElem_cons_zero, List.setIfInBounds_toArray, List.set_cons_zero, List.set_cons_succ]
        refine wpAnyH_take (i := 14) (v := ?_) rfl (by kernel_rfl) (by kernel_rfl) (by kernel_rfl) (fun _ _ _ h => h) (Or.inl ⟨by rfl, ?_⟩) (by assumption) ?_
        rotate_left
        · intro w hSw; (try dsimp only at hSw); go_simp <;> with_reducible rfl
        try simp only [Act.put, List.getElem_toArray, List.getElem_cons_succ, List.getElem_cons_zero, List.setIfInBounds_toArray, List.set_cons_zero, List.set_cons_succ]
        refine wpAnyH_done (by kernel_rfl) ?_ _
        go_wp2_with fail
        go_meet
        exact ⟨_, _, _, _, _, _, _, _, _, rfl, rfl, Lib.hid ((EB.out.put _ _ _).subL HOL.out (List.Sublist.cons_cons _ (List.Sublist.cons _ (List.Sublist.cons _ (List.Sublist.cons _ (List.Sublist.refl _))))))⟩
    · go_simp
      refine hK.out _ _ (by (try dsimp only); first | exact ⟨EC.out.cellA _ 12 rfl, EC.out.cellA _ 13 rfl, EC.out.cellA _ 14 rfl, EC.out.cellA _ 15 rfl, EC.out.cellA _ 16 rfl, EC.out.cellA _ 17 rfl, EC.out.cellA _ 18 rfl, EC.out.cellA _ 19 rfl, EC.out.cellA _ 20 rfl⟩ | fail) (fun hHeld => ?_)
      have EB := Lib.hid ((StB.new EP.out 49).step (Below.drew (Below.refl _ _)))
      try simp only [World.size_alloc] at EB HOL
      clear EC c20 c21 c22 c10 c11 c12 c00 c01 c02
      obtain ⟨-, -, -, -, -, -, -, -, -, -, -, -, c20, c21, c22, c10, c11, c12, c00, c01, c02, -⟩ := EB.out.st.cells
      (try clear t0 t1 t2 f0 f1 f2)
      obtain ⟨-, t0, t1, t2, fr, -, -⟩ := EB.out.bx
      have f0 := fr 0
      have f1 := fr 1
      have f2 := fr 2
      clear fr
      clear hK K
      try simp only [Act.put, List.getElem_toArray, List.getElem_cons_succ, List.getElem_cons_zero, List.setIfInBounds_toArray, List.set_cons_zero, List.set_cons_succ]
      refine wpAnyH_ready (rs := [1]) (by kernel_rfl) (by simp) ?_
      refine AllReadyH.cons rfl (fun K hK => ?_) AllReadyH.nil
      go_simp
      go_at_call 36
      have EQ := Lib.hid EB.out.st
      refine (to_ring rk rp rn _).mono ?_
      rintro e w26 ⟨rfl, hb⟩
      replace EB := Lib.hid (EB.out.step hb)
      clear hb
      clear EQ c20 c21 c22 c10 c11 c12 c00 c01 c02
      obtain ⟨-, -, -, -, -, -, -, -, -, -, -, -, c20, c21, c22, c10, c11, c12, c00, c01, c02, -⟩ := EB.out.st.cells
      (try clear t0 t1 t2 f0 f1 f2)
      obtain ⟨-, t0, t1, t2, fr, -, -⟩ := EB.out.bx
      have f0 := fr 0
      have f1 := fr 1
      have f2 := fr 2
      clear fr
      go_wp2_with fail
      refine hK.out _ _ (by (try dsimp only); exact ⟨c20, c21, c22, c10, c11, c12, c00, c01, c02⟩) (fun hHeld => ?_)
      clear hK K
      try simp only [Act.put, List.getElem_toArray, List.getElem_cons_succ, List.getElem_cons_zero, List.setIfInBounds_toArray, List.set_cons_zero, List.set_cons_succ]
      refine wpAnyH_ready (rs := [3]) (by kernel_rfl) (by simp) ?_
      refine AllReadyH.cons rfl (fun K hK => ?_) AllReadyH.nil
      go_simp
      go_at_call 37
      have EQ := Lib.hid EB.out.st
      refine (to_ten ⟨((EQ.out.rdAt 0 rfl).mono EQ.out.bel.size), ((EQ.out.rdAt 1 rfl).mono EQ.out.bel.size), ((EQ.out.rdAt 2 rfl).mono EQ.out.bel.size)⟩ (Nat.le_refl _) (by have := BtL.out; omega) (by have := BtD.out; omega) (by have := BtX.out; omega)).mono ?_
      rintro e w27 ⟨v0, v1, v2, rfl, ho, hb⟩
      obtain ⟨b33, d33, rfl, -⟩ := ints_form ho.rows.1.rd
      obtain ⟨b34, d34, rfl, -⟩ := ints_form ho.rows.2.1.rd
      obtain ⟨b35, d35, rfl, -⟩ := ints_form ho.rows.2.2.rd
      replace EB := Lib.hid (EB.out.add hb ho)
      clear hb ho
      clear EQ c20 c21 c22 c10 c11 c12 c00 c01 c02
      obtain ⟨-, -, -, -, -, -, -, -, -, -, -, -, c20, c21, c22, c10, c11, c12, c00, c01, c02, -⟩ := EB.out.st.cells
      (try clear t0 t1 t2 f0 f1 f2)
      obtain ⟨-, t0, t1, t2, fr, -, -⟩ := EB.out.bx
      have f0 := fr 0
      have f1 := fr 1
      have f2 := fr 2
      clear fr
      go_wp2_with fail
      refine hK.out _ _ (by (try dsimp only); exact ⟨c20, c21, c22, c10, c11, c12, c00, c01, c02⟩) (fun hHeld => ?_)
      clear hK K
      try simp only [Act.put, List.getElem_toArray, List.getElem_cons_succ, List.getElem_cons_zero, List.setIfInBounds_toArray, List.set_cons_zero, List.set_cons_succ]
      refine wpAnyH_ready (rs := [5]) (by kernel_rfl) (by simp) ?_
      refine AllReadyH.cons rfl (fun K hK => ?_) AllReadyH.nil
      go_simp
      go_at_call 37
      have EQ := Lib.hid EB.out.st
      refine (to_ten ⟨((EQ.out.rdAt 3 rfl).mono EQ.out.bel.size), ((EQ.out.rdAt 4 rfl).mono EQ.out.bel.size), ((EQ.out.rdAt 5 rfl).mono EQ.out.bel.size)⟩ (Nat.le_refl _) (by have := BuL.out; omega) (by have := BuD.out; omega) (by have := BuX.out; omega)).mono ?_
      rintro e w28 ⟨v0, v1, v2, rfl, ho, hb⟩
      obtain ⟨b36, d36, rfl, -⟩ := ints_form ho.rows.1.rd
      obtain ⟨b37, d37, rfl, -⟩ := ints_form ho.rows.2.1.rd
      obtain ⟨b38, d38, rfl, -⟩ := ints_form ho.rows.2.2.rd
      replace EB := Lib.hid (EB.out.add hb ho)
      clear hb ho
      clear EQ c20 c21 c22 c10 c11 c12 c00 c01 c02
      obtain ⟨-, -, -, -, -, -, -, -, -, -, -, -, c20, c21, c22, c10, c11, c12, c00, c01, c02, -⟩ := EB.out.st.cells
      (try clear t0 t1 t2 f0 f1 f2)
      obtain ⟨-, t0, t1, t2, fr, -, -⟩ := EB.out.bx
      have f0 := fr 0
      have f1 := fr 1
      have f2 := fr 2
      clear fr
      go_wp2_with fail
      refine hK.out _ _ (by (try dsimp only); exact ⟨c20, c21, c22, c10, c11, c12, c00, c01, c02⟩) (fun hHeld => ?_)
      clear hK K
      try simp only [Act.put, List.getElem_toArray, List.getElem_cons_succ, List.getElem_cons_zero, List.setIfInBounds_toArray, List.set_cons_zero, List.set_cons_succ]
      refine wpAnyH_ready (rs := [7]) (by kernel_rfl) (by simp) ?_
      refine AllReadyH.cons rfl (fun K hK => ?_) AllReadyH.nil
      go_simp
      go_at_call 32
      have EQ := Lib.hid EB.out.st
      refine (to_row ((EQ.out.rdAt 6 rfl).mono EQ.out.bel.size) (Nat.le_refl _) (by have := Bx.out; omega)).mono ?_
      rintro e w29 ⟨v, rfl, ho, hb⟩
      obtain ⟨b39, d39, rfl, -⟩ := ints_form ho.rd
      replace EB := Lib.hid (EB.out.add hb (OwnG.one ho))
      clear hb ho
      clear EQ c20 c21 c22 c10 c11 c12 c00 c01 c02
      obtain ⟨-, -, -, -, -, -, -, -, -, -, -, -, c20, c21, c22, c10, c11, c12, c00, c01, c02, -⟩ := EB.out.st.cells
      (try clear t0 t1 t2 f0 f1 f2)
      obtain ⟨-, t0, t1, t2, fr, -, -⟩ := EB.out.bx
      have f0 := fr 0
      have f1 := fr 1
      have f2 := fr 2
      clear fr
      go_wp2_with fail
      refine hK.out _ _ (by (try dsimp only); exact ⟨c20, c21, c22, c10, c11, c12, c00, c01, c02⟩) (fun hHeld => ?_)
      clear hK K
      try simp only [Act.put, List.getElem_toArray, List.getElem_cons_succ, List.getElem_cons_zero, List.setIfInBounds_toArray, List.set_cons_zero, List.set_cons_succ]
      refine wpAnyH_ready (rs := [8]) (by kernel_rfl) (by simp) ?_
      refine AllReadyH.cons rfl (fun K hK => ?_) AllReadyH.nil
      go_simp
      go_at_call 38
      have EQ := Lib.hid EB.out.st
      refine (contract_pair_impl ⟨(EQ.out.rowAt 2 0 rfl rfl), (EQ.out.rowAt 2 1 rfl rfl), (EQ.out.rowAt 2 2 rfl rfl)⟩ ⟨(EQ.out.rowAt 1 0 rfl rfl), (EQ.out.rowAt 1 1 rfl rfl), (EQ.out.rowAt 1 2 rfl rfl)⟩ (EQ.out.rowAt 0 0 rfl rfl) (Nat.le_refl _) (Nat.le_refl _) (Nat.le_refl _) ⟨(by have := BtL.out; omega), (by have := BtD.out; omega), (by have := BtX.out; omega)⟩ ⟨(by have := BuL.out; omega), (by have := BuD.out; omega), (by have := BuX.out; omega)⟩ (by have := Bx.out; omega) HhI.out HhJ.out).mono ?_
      rw [← HGL.out, ← HGD.out, ← HGX.out, ← HOK.out]
      rintro e w30 ⟨v0, v1, v2, rfl, ho, hb⟩
      obtain ⟨b40, d40, rfl, -⟩ := ints_form ho.rows.1.rd
      obtain ⟨b41, d41, rfl, -⟩ := ints_form ho.rows.2.1.rd
      obtain ⟨b42, d42, rfl, -⟩ := ints_form ho.rows.2.2.rd
      replace EB := Lib.hid (EB.out.add hb ho)
      clear hb ho
      clear EQ c20 c21 c22 c10 c11 c12 c00 c01 c02
      obtain ⟨-, -, -, -, -, -, -, -, -, -, -, -, c20, c21, c22, c10, c11, c12, c00, c01, c02, -⟩ := EB.out.st.cells
      (try clear t0 t1 t2 f0 f1 f2)
      obtain ⟨-, t0, t1, t2, fr, -, -⟩ := EB.out.bx
      have f0 := fr 0
      have f1 := fr 1
      have f2 := fr 2
      clear fr
      go_wp2_with fail
      refine hK.out _ _ (by (try dsimp only); exact ⟨c20, c21, c22, c10, c11, c12, c00, c01, c02⟩) (fun hHeld => ?_)
      clear hK K
      try simp only [Act.put, List.getElem_toArray, List.getElem_cons_succ, List.getElem_cons_zero, List.setIfInBounds_toArray, List.set_cons_zero, List.set_cons_succ]
      refine wpAnyH_take (i := 9) (v := ?_) rfl (by kernel_rfl) (by kernel_rfl) (by kernel_rfl) (fun _ _ _ h => h) (Or.inl ⟨by rfl, ?_⟩) (by assumption) ?_
      rotate_left
      · intro w hSw; (try dsimp only at hSw); go_simp <;> with_reducible rfl
      try simp only [Act.put, List.getElem_toArray, List.getElem_cons_succ, List.getElem_cons_zero, List.setIfInBounds_toArray, List.set_cons_zero, List.set_cons_succ]
      refine wpAnyH_take (i := 10) (v := ?_) rfl (by kernel_rfl) (by kernel_rfl) (by kernel_rfl) (fun _ _ _ h => h) (Or.inl ⟨by rfl, ?_⟩) (by assumption) ?_
      rotate_left
      · intro w hSw; (try dsimp only at hSw); go_simp <;> with_reducible rfl
      try simp only [Act.put, List.getElem_toArray, List.getElem_cons_succ, List.getElem_cons_zero, List.setIfInBounds_toArray, List.set_cons_zero, List.set_cons_succ]
      refine wpAnyH_take (i := 11) (v := ?_) rfl (by kernel_rfl) (by kernel_rfl) (by kernel_rfl) (fun _ _ _ h => h) (Or.inl ⟨by rfl, ?_⟩) (by assumption) ?_
      rotate_left
      · intro w hSw; (try dsimp only at hSw); go_simp <;> with_reducible rfl
      try simp only [Act.put, List.getElem_toArray, List.getElem_cons_succ, List.getElem_cons_zero, List.setIfInBounds_toArray, List.set_cons_zero, List.set_cons_succ]
      refine wpAnyH_ready (rs := [13]) (by kernel_rfl) (by simp) ?_
      refine AllReadyH.cons rfl (fun K hK => ?_) AllReadyH.nil
      go_simp
      refine hK.out _ _ (by (try dsimp only); exact ⟨EB.out.cell3 _ _ _ 12 rfl, EB.out.cell3 _ _ _ 13 rfl, EB.out.cell3 _ _ _ 14 rfl, EB.out.cell3 _ _ _ 15 rfl, EB.out.cell3 _ _ _ 16 rfl, EB.out.cell3 _ _ _ 17 rfl, EB.out.cell3 _ _ _ 18 rfl, EB.out.cell3 _ _ _ 19 rfl, EB.out.cell3 _ _ _ 20 rfl⟩) (fun hHeld => ?_)
      clear hK K
      try simp only [Act.put, List.getElem_toArray, List.getElem_cons_succ, List.getElem_cons_zero, List.setIfInBounds_toArray, List.set_cons_zero, List.set_cons_succ]
      refine wpAnyH_take (i := 14) (v := ?_) rfl (by kernel_rfl) (by kernel_rfl) (by kernel_rfl) (fun _ _ _ h => h) (Or.inl ⟨by rfl, ?_⟩) (by assumption) ?_
      rotate_left
      · intro w hSw; (try dsimp only at hSw); go_simp <;> with_reducible rfl
      try simp only [Act.put, List.getElem_toArray, List.getElem_cons_succ, List.getElem_cons_zero, List.setIfInBounds_toArray, List.set_cons_zero, List.set_cons_succ]
      refine wpAnyH_done (by kernel_rfl) ?_ _
      go_wp2_with fail
      go_meet
      exact ⟨_, _, _, _, _, _, _, _, _, rfl, rfl, Lib.hid ((EB.out.put _ _ _).subL HOL.out (List.Sublist.cons_cons _ (List.Sublist.cons _ (List.Sublist.cons _ (List.Sublist.cons _ (List.Sublist.refl _))))))⟩
  obtain ⟨bq37, lo37, hi37, b43, d43, b44, d44, b45, d45, rfl, rfl, E35⟩ := hcut
  have hOL := HOL.out
  subst hOL
  clear HOL EC
  obtain ⟨c70, c71, c72, -, -, -, -, -, -, -, -, -, c30, c31, c32, -, -, -, -, -, -, -, -, -, -⟩ := E35.out.cells
  go_wp2_with fail
  refine (eq_ten ⟨(E35.out.rowAt 0 0 rfl rfl), (E35.out.rowAt 0 1 rfl rfl), (E35.out.rowAt 0 2 rfl rfl)⟩ ⟨(E35.out.rowAt 8 0 rfl rfl), (E35.out.rowAt 8 1 rfl rfl), (E35.out.rowAt 8 2 rfl rfl)⟩ (Nat.le_refl _) (Nat.le_refl _) ⟨(by have := HGLL.out; omega), (by have := HGLD.out; omega), (by have := HGLX.out; omega)⟩).mono ?_
  rintro e w31 ⟨rfl, hb⟩
  have E36 := Lib.hid (E35.out.step hb)
  clear hb
  clear c70 c71 c72 c30 c31 c32
  obtain ⟨-, -, -, c60, c61, c62, -, -, -, -, -, -, -, -, -, -, -, -, -, -, -, -, -, -, -⟩ := E36.out.cells
  go_wp2_with fail
  refine (helds_ten (s := 1) rfl ⟨(E36.out.rowAt 4 0 rfl rfl), (E36.out.rowAt 4 1 rfl rfl), (E36.out.rowAt 4 2 rfl rfl)⟩ (Nat.le_refl _) (by have := HGLL.out; omega) (by have := HGLD.out; omega) (by have := HGLX.out; omega) (by omega)).mono ?_
  rw [← M3.out]
  rintro e w32 ⟨rfl, hb⟩
  have E37 := Lib.hid (E36.out.step hb)
  clear hb
  clear c60 c61 c62
  go_wp2
  go_ret
  exact ⟨rfl, E37.out.bel⟩

theorem law_contract_pair (rk rp rn : Int)    {vtL : Value} {tL : List Int} {vtD : Value} {tD : List Int} {vtX : Value} {tX : List Int} {vuL : Value} {uL : List Int} {vuD : Value} {uD : List Int} {vuX : Value} {uX : List Int} {vx : Value} {x : List Int} (w : World) (htL : Rd w.heap.size w vtL (ints tL)) (ltL : tL.length ≤ 281474976710656) (htD : Rd w.heap.size w vtD (ints tD)) (ltD : tD.length ≤ 281474976710656) (htX : Rd w.heap.size w vtX (ints tX)) (ltX : tX.length ≤ 281474976710656) (huL : Rd w.heap.size w vuL (ints uL)) (luL : uL.length ≤ 281474976710656) (huD : Rd w.heap.size w vuD (ints uD)) (luD : uD.length ≤ 281474976710656) (huX : Rd w.heap.size w vuX (ints uX)) (luX : uX.length ≤ 281474976710656) (hx : Rd w.heap.size w vx (ints x)) (lx : x.length ≤ 281474976710656) (hI : allI tL) (hJ : allI uL) :
    Calls Try.prog 8 #[ringV rk rp rn, tenV vtL vtD vtX, tenV vuL vuD vuX, vx] w fun e w' => e = .returned (.bool true) ∧ Below w.heap.size w w' := by
  obtain ⟨atL, ctL, rfl, -⟩ := ints_form htL
  obtain ⟨atD, ctD, rfl, -⟩ := ints_form htD
  obtain ⟨atX, ctX, rfl, -⟩ := ints_form htX
  obtain ⟨auL, cuL, rfl, -⟩ := ints_form huL
  obtain ⟨auD, cuD, rfl, -⟩ := ints_form huD
  obtain ⟨auX, cuX, rfl, -⟩ := ints_form huX
  obtain ⟨ax, cx, rfl, -⟩ := ints_form hx
  by_cases sx : x.length ≤ 1048576
  case neg => exact law_contract_pair_big0 rk rp rn    atL ctL tL atD ctD tD atX ctX tX auL cuL uL auD cuD uD auX cuX uX ax cx x w  (by omega) lx
  exact law_contract_pair_small rk rp rn    atL ctL tL atD ctD tD atX ctX tX auL cuL uL auD cuD uD auX cuX uX ax cx x w (Lib.hid htL) (Lib.hid htD) (Lib.hid htX) (Lib.hid huL) (Lib.hid huD) (Lib.hid huX) (Lib.hid hx) sx ltL ltD ltX luL luD luX hI hJ
end Go.Proofs.Ytgbmacppgaopfaa
