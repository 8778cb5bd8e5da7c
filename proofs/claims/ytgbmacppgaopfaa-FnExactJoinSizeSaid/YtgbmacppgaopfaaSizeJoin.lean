
/- impl.JoinSize. -/
import Derived.Test.YtgbmacppgaopfaaPairImpl
import Derived.Test.YtgbmacppgaopfaaPairMath
namespace Go.Proofs.Ytgbmacppgaopfaa
set_option maxRecDepth 20000
open Go.RowKit

set_option maxHeartbeats 6400000 in
theorem join_size_impl {B B' : Nat} {lv dv xv lu du xu : Value} {L D X L' D' X' : List Int} {w : World} (ha : RdT B w lv dv xv L D X) (hb : RdT B' w lu du xu L' D' X') (hB : B ≤ w.heap.size) (hB' : B' ≤ w.heap.size) (hn : LenT L D X) (hn' : LenT L' D' X') (hI : allI L) (hJ : allI L') :
    Calls Try.prog 45 #[tenV lv dv xv, tenV lu du xu] w fun e w' => e = .returned (.int .i64 (joinSizeI L D L' D')) ∧ Below w.heap.size w w' := by
  have HA : Hid (RdT w.heap.size w lv dv xv L D X) := Lib.hid ⟨ha.l.mono hB, ha.d.mono hB, ha.x.mono hB⟩
  have HU : Hid (RdT w.heap.size w lu du xu L' D' X') := Lib.hid ⟨hb.l.mono hB', hb.d.mono hB', hb.x.mono hB'⟩
  obtain ⟨al, cl, rfl, -⟩ := ints_form ha.l
  obtain ⟨ad, cd, rfl, -⟩ := ints_form ha.d
  obtain ⟨ax, cx, rfl, -⟩ := ints_form ha.x
  obtain ⟨bl, kl, rfl, -⟩ := ints_form hb.l
  obtain ⟨bd, kd, rfl, -⟩ := ints_form hb.d
  obtain ⟨bx, kx, rfl, -⟩ := ints_form hb.x
  generalize L.length = m1 at HA ⊢
  generalize D.length = m2 at HA ⊢
  generalize X.length = m3 at HA ⊢
  generalize L'.length = m4 at HU ⊢
  generalize D'.length = m5 at HU ⊢
  generalize X'.length = m6 at HU ⊢
  have S0 : Hid (Rs w ((w.alloc (.cells #[.slice al m1 cl, .slice ad m2 cd, .slice ax m3 cx] 49)).alloc (.cells #[.slice bl m4 kl, .slice bd m5 kd, .slice bx m6 kx] 49)) [(w.heap.size + 1, .slice bl m4 kl, .slice bd m5 kd, .slice bx m6 kx), (w.heap.size, .slice al m1 cl, .slice ad m2 cd, .slice ax m3 cx)] []) := by
    have h := ((Rs.start w).box (.slice al m1 cl) (.slice ad m2 cd) (.slice ax m3 cx) 49).box (.slice bl m4 kl) (.slice bd m5 kd) (.slice bx m6 kx) 49
    simp only [World.size_alloc] at h
    exact h
  have HS1 := Lib.hid (size_impl (HA.out.below S0.out.bel (Nat.le_refl _)) S0.out.bel.size hn hI)
  have HS2 := Lib.hid (fun (W : World) (hb : Below w.heap.size w W) => size_impl (HU.out.below hb (Nat.le_refl _)) hb.size hn' hJ)
  obtain ⟨z1, hz1⟩ : ∃ z, z = sizeI L D := ⟨_, rfl⟩
  obtain ⟨z2, hz2⟩ : ∃ z, z = sizeI L' D' := ⟨_, rfl⟩
  obtain ⟨r, hr⟩ : ∃ z, z = joinSizeI L D L' D' := ⟨_, rfl⟩
  rw [← hz1] at HS1
  rw [← hz2] at HS2
  rw [← hr]
  clear ha hb hB hB' hn hn' hI hJ
  obtain ⟨⟨a0, a1, a2⟩, -⟩ := S0.out.at (r := w.heap.size) (a := .slice al m1 cl) (b := .slice ad m2 cd) (c := .slice ax m3 cx) (by simp)
  by_cases h1 : z1 < 0
  · obtain rfl : r = -1 := by rw [hr]; unfold joinSizeI; rw [if_pos (.inl (by rw [← hz1]; exact h1))]
    clear hr hz1 hz2
    go_enter Try.func45, Try.ntmps45
    go_wp2_with fail
    refine HS1.out.mono ?_
    rintro e w1 ⟨rfl, hb⟩
    have S1 := Lib.hid (S0.out.step hb)
    clear hb HS1 HS2 a0 a1 a2
    go_wp2
    go_ret
    exact ⟨rfl, S1.out.bel⟩
  · by_cases h2 : z2 < 0
    · obtain rfl : r = -1 := by rw [hr]; unfold joinSizeI; rw [if_pos (.inr (by rw [← hz2]; exact h2))]
      clear hr hz1 hz2
      go_enter Try.func45, Try.ntmps45
      go_wp2_with fail
      refine HS1.out.mono ?_
      rintro e w1 ⟨rfl, hb⟩
      have S1 := Lib.hid (S0.out.step hb)
      clear hb HS1 a0 a1 a2
      obtain ⟨⟨b0, b1, b2⟩, -⟩ := S1.out.at (r := w.heap.size + 1) (a := .slice bl m4 kl) (b := .slice bd m5 kd) (c := .slice bx m6 kx) (by simp)
      go_wp2_with fail
      refine (HS2.out _ S1.out.bel).mono ?_
      rintro e w2 ⟨rfl, hb⟩
      have S2 := Lib.hid (S1.out.step hb)
      clear hb HS2 b0 b1 b2
      go_wp2
      go_ret
      exact ⟨rfl, S2.out.bel⟩
    · obtain ⟨hax, hp1, hp2⟩ := sizeI_ax (L := L) (D := D) (by rw [← hz1]; exact h1)
      obtain ⟨hax', hp1', hp2'⟩ := sizeI_ax (L := L') (D := D') (by rw [← hz2]; exact h2)
      have hjp := join_prod hax.wide hax'.wide ⟨hp1, by omega⟩ hp2'
      have hr2 : r = joinI L D L' D' := by rw [hr]; unfold joinSizeI; rw [if_neg]; rw [← hz1, ← hz2]; omega
      have AX := Lib.hid (And.intro hax hax')
      have HP := Lib.hid (And.intro hp2 hp2')
      have HX1 := Lib.hid (fun (W : World) (hb : Below w.heap.size w W) (h0 : 0 < W.heap.size) => axes_impl (HA.out.below hb (Nat.le_refl _)) hb.size h0 hax.2.1 hax.1 hax.2.2.2.1 hp2)
      have HX2 := Lib.hid (fun (W : World) (hb : Below w.heap.size w W) (h0 : 0 < W.heap.size) => axes_impl (HU.out.below hb (Nat.le_refl _)) hb.size h0 hax'.2.1 hax'.1 hax'.2.2.2.1 hp2')
      have HC : Hid (∀ W bs, Rs w W [(w.heap.size + 1, .slice bl m4 kl, .slice bd m5 kd, .slice bx m6 kx), (w.heap.size, .slice al m1 cl, .slice ad m2 cd, .slice ax m3 cx)] bs → (W.cell? ⟨w.heap.size, 0, none⟩ = some (.slice al m1 cl) ∧ W.cell? ⟨w.heap.size, 1, none⟩ = some (.slice ad m2 cd) ∧ W.cell? ⟨w.heap.size, 2, none⟩ = some (.slice ax m3 cx) ∧ W.cell? ⟨w.heap.size + 1, 0, none⟩ = some (.slice bl m4 kl) ∧ W.cell? ⟨w.heap.size + 1, 1, none⟩ = some (.slice bd m5 kd) ∧ W.cell? ⟨w.heap.size + 1, 2, none⟩ = some (.slice bx m6 kx)) ∧ 0 < W.heap.size) := Lib.hid (fun W bs h => by
        obtain ⟨⟨a0, a1, a2⟩, -⟩ := h.at (r := w.heap.size) (a := .slice al m1 cl) (b := .slice ad m2 cd) (c := .slice ax m3 cx) (by simp)
        obtain ⟨⟨b0, b1, b2⟩, -⟩ := h.at (r := w.heap.size + 1) (a := .slice bl m4 kl) (b := .slice bd m5 kd) (c := .slice bx m6 kx) (by simp)
        exact ⟨⟨a0, a1, a2, b0, b1, b2⟩, by have h2 := (h.bx (w.heap.size, .slice al m1 cl, .slice ad m2 cd, .slice ax m3 cx) (by simp)).lt; exact Nat.lt_of_le_of_lt (Nat.zero_le _) h2⟩)
      clear hz1 hz2 hr hp1 hp2 hp1' hp2'
      have TK1 : True := trivial
      have TK2 : True := trivial
      by_cases hf : FitV L D L' D'
      · have hr3 : r = min (prodL (joinD L D L' D')) 65537 := by
          rw [hr2]
          unfold joinI
          rw [if_pos (fitV_true.2 hf)]
          have h9 := capW_fold (D := joinD L D L' D') (fun d hd => (joinD_in hax'.2.1 hax.2.2.2.1 hax'.2.2.2.1 d hd).1) 1 (by omega) (by omega)
          rw [Int.one_mul] at h9
          exact h9
        have HJN := Lib.hid (fun (W : World) (u v : Value) (B B' : Nat) (ha : RdA B W u (axesL L D)) (hb : RdA B' W v (axesL L' D')) (hB : B ≤ W.heap.size) (hB' : B' ≤ W.heap.size) => join_ten_yes hax.wide hax'.wide hf ha hb hB hB')
        have HCT := Lib.hid (fun (W : World) (v : Value) (B : Nat) (ha : RdA B W v (axJ (joinL L L') (dimJ L D L' D') (stepI L D))) (hB : B ≤ W.heap.size) => count_impl (by rw [axJ_len]; have h1 := join_len L L'; have h2 := hax.1; have h3 := hax'.1; omega) (by rw [axJ_dims]; intro d hd; obtain ⟨n, hn, rfl⟩ := List.mem_map.1 hd; exact dimJ_in hax.wide hax'.wide n hn) (by rw [axJ_dims, joinD_map hax.2.2.2.2 hax.2.1]; omega) ha hB)
        rw [axJ_dims, joinD_map hax.2.2.2.2 hax.2.1] at HCT
        generalize prodL (joinD L D L' D') = pj at HCT hr3 hjp
        have HR3 := Lib.hid hr3
        clear hax hax' hf hr2 hr3
        go_enter Try.func45, Try.ntmps45
        go_wp2_with fail
        refine HS1.out.mono ?_
        rintro e w1 ⟨rfl, hb⟩
        have S1 := Lib.hid (S0.out.step hb)
        clear hb HS1 a0 a1 a2
        obtain ⟨⟨b0, b1, b2⟩, -⟩ := S1.out.at (r := w.heap.size + 1) (a := .slice bl m4 kl) (b := .slice bd m5 kd) (c := .slice bx m6 kx) (by simp)
        go_wp2_with fail
        refine (HS2.out _ S1.out.bel).mono ?_
        rintro e w2 ⟨rfl, hb⟩
        have S2 := Lib.hid (S1.out.step hb).drew
        clear hb HS2 b0 b1 b2 S1 S0
        obtain ⟨⟨a0, a1, a2, b0, b1, b2⟩, s0⟩ := HC.out _ _ S2.out
        go_wp2_with fail
        go_region_held3 (fun W => (W.cell? ⟨w.heap.size, 0, none⟩ = some (.slice al m1 cl) ∧ W.cell? ⟨w.heap.size, 1, none⟩ = some (.slice ad m2 cd) ∧ W.cell? ⟨w.heap.size, 2, none⟩ = some (.slice ax m3 cx) ∧ W.cell? ⟨w.heap.size + 1, 0, none⟩ = some (.slice bl m4 kl) ∧ W.cell? ⟨w.heap.size + 1, 1, none⟩ = some (.slice bd m5 kd) ∧ W.cell? ⟨w.heap.size + 1, 2, none⟩ = some (.slice bx m6 kx))) (exact ⟨a0, a1, a2, b0, b1, b2⟩) (first
          | (go_at_call 88; have _t := TK1; refine (HX1.out _ S2.out.bel s0).mono ?_; rintro e w3 ⟨vA, rfl, ho, hb⟩; have RA := Lib.hid ho.rd; have S3 := Lib.hid (S2.out.step hb); clear ho hb TK1 _t a0 a1 a2 b0 b1 b2 s0; obtain ⟨⟨a0, a1, a2, b0, b1, b2⟩, s0⟩ := HC.out _ _ S3.out)
          | (go_at_call 88; have _t := TK2; refine (HX2.out _ S3.out.bel s0).mono ?_; rintro e w4 ⟨vB, rfl, ho, hb⟩; have RB := Lib.hid ho.rd; have RA4 := Lib.hid (RA.out.below hb (Nat.le_refl _)); have HLE := Lib.hid hb.size; have S4 := Lib.hid (S3.out.step hb); clear ho hb TK2 _t a0 a1 a2 b0 b1 b2 s0; obtain ⟨⟨a0, a1, a2, b0, b1, b2⟩, s0⟩ := HC.out _ _ S4.out)
          | (go_at_call 87; refine (HJN.out _ _ _ _ _ RA4.out RB.out HLE.out (Nat.le_refl _)).mono ?_; rintro e w5 ⟨vx, vy, rfl, hox, hoy, hb⟩; have RX := Lib.hid hox.rd; have S5 := Lib.hid (S4.out.step hb); clear hox hoy hb a0 a1 a2 b0 b1 b2 s0; obtain ⟨⟨a0, a1, a2, b0, b1, b2⟩, s0⟩ := HC.out _ _ S5.out))
        clear a0 a1 a2 b0 b1 b2 s0 HX1 HX2 HJN
        go_wp2_with fail
        refine (HCT.out _ _ _ RX.out (Nat.le_refl _)).mono ?_
        rintro e w6 ⟨rfl, hb⟩
        have S6 := Lib.hid (S5.out.step hb)
        clear hb
        go_wp2
        all_goals
          go_ret
          exact ⟨by rw [HR3.out]; first | rfl | (simp; done) | (simp; omega), S6.out.bel⟩
      · obtain rfl : r = -1 := by
          rw [hr2]
          unfold joinI
          rw [fitV_false hf]; simp
        have HJN := Lib.hid (fun (W : World) (u v : Value) (B B' : Nat) (ha : RdA B W u (axesL L D)) (hb : RdA B' W v (axesL L' D')) (hB : B ≤ W.heap.size) (hB' : B' ≤ W.heap.size) => join_ten_no hax.wide hax'.wide hf ha hb hB hB')
        clear hax hax' hf hr2 hjp
        go_enter Try.func45, Try.ntmps45
        go_wp2_with fail
        refine HS1.out.mono ?_
        rintro e w1 ⟨rfl, hb⟩
        have S1 := Lib.hid (S0.out.step hb)
        clear hb HS1 a0 a1 a2
        obtain ⟨⟨b0, b1, b2⟩, -⟩ := S1.out.at (r := w.heap.size + 1) (a := .slice bl m4 kl) (b := .slice bd m5 kd) (c := .slice bx m6 kx) (by simp)
        go_wp2_with fail
        refine (HS2.out _ S1.out.bel).mono ?_
        rintro e w2 ⟨rfl, hb⟩
        have S2 := Lib.hid (S1.out.step hb).drew
        clear hb HS2 b0 b1 b2 S1 S0
        obtain ⟨⟨a0, a1, a2, b0, b1, b2⟩, s0⟩ := HC.out _ _ S2.out
        go_wp2_with fail
        go_region_held3 (fun W => (W.cell? ⟨w.heap.size, 0, none⟩ = some (.slice al m1 cl) ∧ W.cell? ⟨w.heap.size, 1, none⟩ = some (.slice ad m2 cd) ∧ W.cell? ⟨w.heap.size, 2, none⟩ = some (.slice ax m3 cx) ∧ W.cell? ⟨w.heap.size + 1, 0, none⟩ = some (.slice bl m4 kl) ∧ W.cell? ⟨w.heap.size + 1, 1, none⟩ = some (.slice bd m5 kd) ∧ W.cell? ⟨w.heap.size + 1, 2, none⟩ = some (.slice bx m6 kx))) (exact ⟨a0, a1, a2, b0, b1, b2⟩) (first
          | (go_at_call 88; have _t := TK1; refine (HX1.out _ S2.out.bel s0).mono ?_; rintro e w3 ⟨vA, rfl, ho, hb⟩; have RA := Lib.hid ho.rd; have S3 := Lib.hid (S2.out.step hb); clear ho hb TK1 _t a0 a1 a2 b0 b1 b2 s0; obtain ⟨⟨a0, a1, a2, b0, b1, b2⟩, s0⟩ := HC.out _ _ S3.out)
          | (go_at_call 88; have _t := TK2; refine (HX2.out _ S3.out.bel s0).mono ?_; rintro e w4 ⟨vB, rfl, ho, hb⟩; have RB := Lib.hid ho.rd; have RA4 := Lib.hid (RA.out.below hb (Nat.le_refl _)); have HLE := Lib.hid hb.size; have S4 := Lib.hid (S3.out.step hb); clear ho hb TK2 _t a0 a1 a2 b0 b1 b2 s0; obtain ⟨⟨a0, a1, a2, b0, b1, b2⟩, s0⟩ := HC.out _ _ S4.out)
          | (go_at_call 87; refine (HJN.out _ _ _ _ _ RA4.out RB.out HLE.out (Nat.le_refl _)).mono ?_; rintro e w5 ⟨rfl, hb⟩; have S5 := Lib.hid (S4.out.step hb); clear hb a0 a1 a2 b0 b1 b2 s0; obtain ⟨⟨a0, a1, a2, b0, b1, b2⟩, s0⟩ := HC.out _ _ S5.out))
        clear a0 a1 a2 b0 b1 b2 s0 HX1 HX2 HJN
        go_wp2
        go_ret
        exact ⟨rfl, S5.out.bel⟩
end Go.Proofs.Ytgbmacppgaopfaa
