
/- impl.SameTensor. -/
import Derived.Test.YtgbmacppgaopfabGreatPermuted
import Derived.Test.YtgbmacppgaopfabGreatAxes
import Derived.Test.YtgbmacppgaopfabGreatPermutedMath
import Derived.Test.YtgbmacppgaopfabGreatTenOkImpl
namespace Go.Proofs.YtgbmacppgaopfabGreat
set_option maxRecDepth 20000
open Go.RowKit

theorem beq_list (a b : List Int) : (a == b) = decide (a = b) := by
  by_cases h : a = b
  · simp [h]
  · simp [h]
/-- What is known of a tensor in ascending order. -/
theorem sorted_axes {k p q : Int} {L D X : List Int} (h : tensorB k p q L D X = true) : (sortL L).length = (dimsVia L D (sortL L)).length ∧ (sortL L).length ≤ 12 ∧ (∀ d ∈ dimsVia L D (sortL L), 1 ≤ d ∧ d ≤ 8) ∧ prodL (dimsVia L D (sortL L)) ≤ 4096 ∧ (permDataL k q L D X (sortL L)).length ≤ 24576 := by
  have hp := PF.of h (sort_set (tensorB_axes h).1)
  have hl := perm_lens h
  refine ⟨by rw [dimsVia_len], hl.1, hp.dims.1, by rw [hp.dims.2.1]; have := hp.n1; omega, hl.2.2⟩
set_option maxHeartbeats 6400000 in
theorem same_tensor_impl {B B' : Nat} {lv dv xv lu du xu : Value} {k p q : Int} {L D X L' D' X' : List Int} {w : World} (ha : RdT B w lv dv xv L D X) (hb : RdT B' w lu du xu L' D' X') (hB : B ≤ w.heap.size) (hB' : B' ≤ w.heap.size) (hn : LenT L D X) (hn' : LenT L' D' X') (hI : allI L) (hJ : allI L') :
    Calls Tryz.prog 16 #[ringV k p q, tenV lv dv xv, tenV lu du xu] w fun e w' => e = .returned (.bool (sameB k p q L D X L' D' X')) ∧ Below w.heap.size w w' := by
  have HA := Lib.hid ha
  have HU := Lib.hid hb
  have HB := Lib.hid (And.intro hB hB')
  have HII := Lib.hid (And.intro hI hJ)
  obtain ⟨al, cl, rfl, -⟩ := ints_form ha.l
  obtain ⟨ad, cd, rfl, -⟩ := ints_form ha.d
  obtain ⟨ax, cx, rfl, -⟩ := ints_form ha.x
  obtain ⟨bl, kl, rfl, -⟩ := ints_form hb.l
  obtain ⟨bd, kd, rfl, -⟩ := ints_form hb.d
  obtain ⟨bx, kx, rfl, -⟩ := ints_form hb.x
  obtain ⟨m1, hm1⟩ : ∃ m, m = L.length := ⟨_, rfl⟩
  obtain ⟨m2, hm2⟩ : ∃ m, m = D.length := ⟨_, rfl⟩
  obtain ⟨m3, hm3⟩ : ∃ m, m = X.length := ⟨_, rfl⟩
  obtain ⟨m4, hm4⟩ : ∃ m, m = L'.length := ⟨_, rfl⟩
  obtain ⟨m5, hm5⟩ : ∃ m, m = D'.length := ⟨_, rfl⟩
  obtain ⟨m6, hm6⟩ : ∃ m, m = X'.length := ⟨_, rfl⟩
  rw [← hm1, ← hm2, ← hm3] at HA ⊢
  rw [← hm4, ← hm5, ← hm6] at HU ⊢
  have R0 : Hid (Rs w (((w.alloc (.cells #[.int .i64 k, .int .i64 p, .int .i64 q] 24)).alloc (.cells #[.slice al m1 cl, .slice ad m2 cd, .slice ax m3 cx] 28)).alloc (.cells #[.slice bl m4 kl, .slice bd m5 kd, .slice bx m6 kx] 28)) [(w.heap.size + 1 + 1, .slice bl m4 kl, .slice bd m5 kd, .slice bx m6 kx), (w.heap.size + 1, .slice al m1 cl, .slice ad m2 cd, .slice ax m3 cx), (w.heap.size, .int .i64 k, .int .i64 p, .int .i64 q)] []) := by
    have h := (((Rs.start w).box (.int .i64 k) (.int .i64 p) (.int .i64 q) 24).box (.slice al m1 cl) (.slice ad m2 cd) (.slice ax m3 cx) 28).box (.slice bl m4 kl) (.slice bd m5 kd) (.slice bx m6 kx) 28
    simp only [World.size_alloc] at h
    exact h
  have OKA := Lib.hid (fun (w1 : World) (hb : Below w.heap.size w w1) => tensor_ok_impl (k := k) (p := p) (n := q) (HA.out.below hb HB.out.1) (Nat.le_trans HB.out.1 hb.size) hn HII.out.1)
  have OKU := Lib.hid (fun (w1 : World) (hb : Below w.heap.size w w1) => tensor_ok_impl (k := k) (p := p) (n := q) (HU.out.below hb HB.out.2) (Nat.le_trans HB.out.2 hb.size) hn' HII.out.2)
  have SOA := Lib.hid (fun (w1 : World) (hb : Below w.heap.size w w1) (ht : tensorB k p q L D X = true) => ascending_impl (HA.out.below hb HB.out.1) (Nat.le_trans HB.out.1 hb.size) ht)
  have SOU := Lib.hid (fun (w1 : World) (hb : Below w.heap.size w w1) (ht : tensorB k p q L' D' X' = true) => ascending_impl (HU.out.below hb HB.out.2) (Nat.le_trans HB.out.2 hb.size) ht)
  obtain ⟨ta, hta⟩ : ∃ b, b = tensorB k p q L D X := ⟨_, rfl⟩
  obtain ⟨tu, htu⟩ : ∃ b, b = tensorB k p q L' D' X' := ⟨_, rfl⟩
  obtain ⟨r, hr⟩ : ∃ b, b = sameB k p q L D X L' D' X' := ⟨_, rfl⟩
  rw [← hta] at OKA
  rw [← htu] at OKU
  rw [← hr]
  have HTA := Lib.hid hta
  have HTU := Lib.hid htu
  have HR := Lib.hid hr
  clear ha hb hB hB' hn hn' hI hJ hm1 hm2 hm3 hm4 hm5 hm6 hta htu hr
  obtain ⟨⟨r0, r1, r2⟩, -⟩ := R0.out.at (r := w.heap.size) (a := .int .i64 k) (b := .int .i64 p) (c := .int .i64 q) (by simp)
  obtain ⟨⟨a0, a1, a2⟩, -⟩ := R0.out.at (r := w.heap.size + 1) (a := (.slice al m1 cl)) (b := (.slice ad m2 cd)) (c := (.slice ax m3 cx)) (by simp)
  obtain ⟨⟨b0, b1, b2⟩, -⟩ := R0.out.at (r := w.heap.size + 1 + 1) (a := (.slice bl m4 kl)) (b := (.slice bd m5 kd)) (c := (.slice bx m6 kx)) (by simp)
  cases ta with
  | false =>
    have HF : Hid (r = false) := by show r = false; rw [HR.out]; unfold sameB; rw [← HTA.out]; rfl
    go_enter Tryz.func16, Tryz.ntmps16
    go_wp2_with fail
    refine (OKA.out _ R0.out.bel).mono ?_
    clear r0 r1 r2 a0 a1 a2 b0 b1 b2
    rintro e w1 ⟨rfl, hb⟩
    have R1 := Lib.hid (R0.out.step hb)
    clear hb
    obtain ⟨⟨r0, r1, r2⟩, -⟩ := R1.out.at (r := w.heap.size) (a := .int .i64 k) (b := .int .i64 p) (c := .int .i64 q) (by simp)
    obtain ⟨⟨a0, a1, a2⟩, -⟩ := R1.out.at (r := w.heap.size + 1) (a := (.slice al m1 cl)) (b := (.slice ad m2 cd)) (c := (.slice ax m3 cx)) (by simp)
    obtain ⟨⟨b0, b1, b2⟩, -⟩ := R1.out.at (r := w.heap.size + 1 + 1) (a := (.slice bl m4 kl)) (b := (.slice bd m5 kd)) (c := (.slice bx m6 kx)) (by simp)
    go_wp2
    go_ret
    exact ⟨by rw [HF.out]; rfl, R1.out.bel⟩
  | true =>
    cases tu with
    | false =>
      have HF : Hid (r = false) := by show r = false; rw [HR.out]; unfold sameB; rw [← HTA.out, ← HTU.out]; rfl
      go_enter Tryz.func16, Tryz.ntmps16
      go_wp2_with fail
      refine (OKA.out _ R0.out.bel).mono ?_
      clear r0 r1 r2 a0 a1 a2 b0 b1 b2
      rintro e w1 ⟨rfl, hb⟩
      have R1 := Lib.hid (R0.out.step hb)
      clear hb
      obtain ⟨⟨r0, r1, r2⟩, -⟩ := R1.out.at (r := w.heap.size) (a := .int .i64 k) (b := .int .i64 p) (c := .int .i64 q) (by simp)
      obtain ⟨⟨a0, a1, a2⟩, -⟩ := R1.out.at (r := w.heap.size + 1) (a := (.slice al m1 cl)) (b := (.slice ad m2 cd)) (c := (.slice ax m3 cx)) (by simp)
      obtain ⟨⟨b0, b1, b2⟩, -⟩ := R1.out.at (r := w.heap.size + 1 + 1) (a := (.slice bl m4 kl)) (b := (.slice bd m5 kd)) (c := (.slice bx m6 kx)) (by simp)
      go_wp2_with fail
      refine (OKU.out _ R1.out.bel).mono ?_
      clear r0 r1 r2 a0 a1 a2 b0 b1 b2
      rintro e w2 ⟨rfl, hb⟩
      have R2 := Lib.hid (R1.out.step hb)
      clear hb
      go_wp2
      go_ret
      exact ⟨by rw [HF.out]; rfl, R2.out.bel⟩
    | true =>
      have QA := Lib.hid (fun (w1 : World) (hb : Below w.heap.size w w1) => SOA.out w1 hb HTA.out.symm)
      have QU := Lib.hid (fun (w1 : World) (hb : Below w.heap.size w w1) => SOU.out w1 hb HTU.out.symm)
      have LA := Lib.hid (sorted_axes HTA.out.symm)
      have LU := Lib.hid (sorted_axes HTU.out.symm)
      have HF : Hid (r = (decide (sortL L = sortL L') && (decide (dimsVia L D (sortL L) = dimsVia L' D' (sortL L')) && decide (permDataL k q L D X (sortL L) = permDataL k q L' D' X' (sortL L'))))) := by show r = _; rw [HR.out]; unfold sameB; rw [← HTA.out, ← HTU.out]; rfl
      obtain ⟨sl, hsl⟩ : ∃ l, l = sortL L := ⟨_, rfl⟩
      obtain ⟨sd, hsd⟩ : ∃ l, l = dimsVia L D (sortL L) := ⟨_, rfl⟩
      obtain ⟨sx, hsx⟩ : ∃ l, l = permDataL k q L D X (sortL L) := ⟨_, rfl⟩
      obtain ⟨ul, hul⟩ : ∃ l, l = sortL L' := ⟨_, rfl⟩
      obtain ⟨ud, hud⟩ : ∃ l, l = dimsVia L' D' (sortL L') := ⟨_, rfl⟩
      obtain ⟨ux, hux⟩ : ∃ l, l = permDataL k q L' D' X' (sortL L') := ⟨_, rfl⟩
      rw [← hsl, ← hul, hsl, ← hsd, hul, ← hud, ← hsx, ← hux, ← hsl, ← hul] at HF
      rw [← hsd, ← hsx, ← hsl] at QA LA
      rw [← hud, ← hux, ← hul] at QU LU
      obtain ⟨eb, heb⟩ : ∃ b, b = (decide (sl = ul) && decide (sd = ud)) := ⟨_, rfl⟩
      have HEB : Hid (decide (axesL sl sd = axesL ul ud) = eb) := Lib.hid (by rw [heb]; exact axes_same LA.out.1 LU.out.1)
      have HFE : Hid (r = (eb && (sx == ux))) := Lib.hid (by rw [HF.out, heb, beq_list, Bool.and_assoc])
      clear hsl hsd hsx hul hud hux HR SOA SOU heb HF
      go_enter Tryz.func16, Tryz.ntmps16
      go_wp2_with fail
      refine (OKA.out _ R0.out.bel).mono ?_
      clear r0 r1 r2 a0 a1 a2 b0 b1 b2
      rintro e w1 ⟨rfl, hb⟩
      have R1 := Lib.hid (R0.out.step hb)
      clear hb
      obtain ⟨⟨r0, r1, r2⟩, -⟩ := R1.out.at (r := w.heap.size) (a := .int .i64 k) (b := .int .i64 p) (c := .int .i64 q) (by simp)
      obtain ⟨⟨a0, a1, a2⟩, -⟩ := R1.out.at (r := w.heap.size + 1) (a := (.slice al m1 cl)) (b := (.slice ad m2 cd)) (c := (.slice ax m3 cx)) (by simp)
      obtain ⟨⟨b0, b1, b2⟩, -⟩ := R1.out.at (r := w.heap.size + 1 + 1) (a := (.slice bl m4 kl)) (b := (.slice bd m5 kd)) (c := (.slice bx m6 kx)) (by simp)
      go_wp2_with fail
      refine (OKU.out _ R1.out.bel).mono ?_
      clear r0 r1 r2 a0 a1 a2 b0 b1 b2
      rintro e w2 ⟨rfl, hb⟩
      have R2 := Lib.hid (R1.out.step hb)
      clear hb
      have R2d := Lib.hid R2.out.drew
      have TK1 : True := trivial
      have TK2 : True := trivial
      obtain ⟨⟨r0, r1, r2⟩, -⟩ := R2.out.at (r := w.heap.size) (a := .int .i64 k) (b := .int .i64 p) (c := .int .i64 q) (by simp)
      obtain ⟨⟨a0, a1, a2⟩, -⟩ := R2.out.at (r := w.heap.size + 1) (a := (.slice al m1 cl)) (b := (.slice ad m2 cd)) (c := (.slice ax m3 cx)) (by simp)
      obtain ⟨⟨b0, b1, b2⟩, -⟩ := R2.out.at (r := w.heap.size + 1 + 1) (a := (.slice bl m4 kl)) (b := (.slice bd m5 kd)) (c := (.slice bx m6 kx)) (by simp)
      go_wp2
      clear r0 r1 r2 a0 a1 a2 b0 b1 b2
      obtain ⟨⟨r0, r1, r2⟩, -⟩ := R2d.out.at (r := w.heap.size) (a := .int .i64 k) (b := .int .i64 p) (c := .int .i64 q) (by simp)
      obtain ⟨⟨a0, a1, a2⟩, -⟩ := R2d.out.at (r := w.heap.size + 1) (a := (.slice al m1 cl)) (b := (.slice ad m2 cd)) (c := (.slice ax m3 cx)) (by simp)
      obtain ⟨⟨b0, b1, b2⟩, -⟩ := R2d.out.at (r := w.heap.size + 1 + 1) (a := (.slice bl m4 kl)) (b := (.slice bd m5 kd)) (c := (.slice bx m6 kx)) (by simp)
      refine wp_region_held_drew (S := (fun w' => w'.cell? ⟨w.heap.size, 0, none⟩ = some (.int .i64 k) ∧ w'.cell? ⟨w.heap.size, 1, none⟩ = some (.int .i64 p) ∧ w'.cell? ⟨w.heap.size, 2, none⟩ = some (.int .i64 q))) (by kernel_rfl) (by (try dsimp only); first | with_reducible exact ⟨r0, r1, r2⟩ | with_reducible exact ⟨x0, x1, x2⟩ | with_reducible exact ⟨y0, y1, y2⟩) (fun hHeld => ?_)
      refine wpAnyH_take (i := 1) (v := ?_) rfl (by kernel_rfl) (by kernel_rfl) (by kernel_rfl) (fun _ _ _ h => h) (Or.inl ⟨by rfl, ?_⟩) (by assumption) ?_
      rotate_left
      · intro w hSw; (try dsimp only at hSw); go_simp <;> with_reducible rfl
      try simp only [Act.put, List.getElem_toArray, List.getElem_cons_succ, List.getElem_cons_zero, List.setIfInBounds_toArray, List.set_cons_zero, List.set_cons_succ]
      refine wpAnyH_take (i := 4) (v := ?_) rfl (by kernel_rfl) (by kernel_rfl) (by kernel_rfl) (fun _ _ _ h => h) (Or.inl ⟨by rfl, ?_⟩) (by assumption) ?_
      rotate_left
      · intro w hSw; (try dsimp only at hSw); go_simp <;> with_reducible rfl
      try simp only [Act.put, List.getElem_toArray, List.getElem_cons_succ, List.getElem_cons_zero, List.setIfInBounds_toArray, List.set_cons_zero, List.set_cons_succ]
      refine wpAnyH_ready (rs := [0, 3]) (by kernel_rfl) (by simp) ?_
      refine AllReadyH.cons rfl (fun K hK => ?_) (AllReadyH.cons rfl (fun K hK => ?_) AllReadyH.nil)
      focus
        go_simp
        refine hK.out _ _ (by (try dsimp only); first | with_reducible exact ⟨r0, r1, r2⟩ | with_reducible exact ⟨x0, x1, x2⟩ | with_reducible exact ⟨y0, y1, y2⟩) (fun hHeld => ?_)
        clear hK K
        try simp only [Act.put, List.getElem_toArray, List.getElem_cons_succ, List.getElem_cons_zero, List.setIfInBounds_toArray, List.set_cons_zero, List.set_cons_succ]
        refine wpAnyH_ready (rs := [2, 3]) (by kernel_rfl) (by simp) ?_
        refine AllReadyH.cons rfl (fun K hK => ?_) (AllReadyH.cons rfl (fun K hK => ?_) AllReadyH.nil)
        focus
          go_simp
          (go_at_call 54; first | (have _t := TK1; refine (QA.out _ R2d.out.bel).mono ?_; rintro e w3 ⟨v1, v2, v3, rfl, ho, hb⟩; have R3 := Lib.hid (R2d.out.new3 hb ho); obtain ⟨g1, j1, rfl, -⟩ := ints_form ho.rows.1.rd; obtain ⟨g2, j2, rfl, -⟩ := ints_form ho.rows.2.1.rd; obtain ⟨g3, j3, rfl, -⟩ := ints_form ho.rows.2.2.rd; clear hb ho _t TK1; clear r0 r1 r2 a0 a1 a2 b0 b1 b2; obtain ⟨⟨r0, r1, r2⟩, -⟩ := R3.out.at (r := w.heap.size) (a := .int .i64 k) (b := .int .i64 p) (c := .int .i64 q) (by simp); obtain ⟨⟨a0, a1, a2⟩, -⟩ := R3.out.at (r := w.heap.size + 1) (a := (.slice al m1 cl)) (b := (.slice ad m2 cd)) (c := (.slice ax m3 cx)) (by simp); obtain ⟨⟨b0, b1, b2⟩, -⟩ := R3.out.at (r := w.heap.size + 1 + 1) (a := (.slice bl m4 kl)) (b := (.slice bd m5 kd)) (c := (.slice bx m6 kx)) (by simp)) | (have _t := TK2; refine (QU.out _ R3.out.bel).mono ?_; rintro e w4 ⟨v4, v5, v6, rfl, ho, hb⟩; have R4 := Lib.hid (R3.out.new3 hb ho); obtain ⟨g4, j4, rfl, -⟩ := ints_form ho.rows.1.rd; obtain ⟨g5, j5, rfl, -⟩ := ints_form ho.rows.2.1.rd; obtain ⟨g6, j6, rfl, -⟩ := ints_form ho.rows.2.2.rd; clear hb ho _t TK2; clear r0 r1 r2 a0 a1 a2 b0 b1 b2; obtain ⟨⟨r0, r1, r2⟩, -⟩ := R4.out.at (r := w.heap.size) (a := .int .i64 k) (b := .int .i64 p) (c := .int .i64 q) (by simp); obtain ⟨⟨a0, a1, a2⟩, -⟩ := R4.out.at (r := w.heap.size + 1) (a := (.slice al m1 cl)) (b := (.slice ad m2 cd)) (c := (.slice ax m3 cx)) (by simp); obtain ⟨⟨b0, b1, b2⟩, -⟩ := R4.out.at (r := w.heap.size + 1 + 1) (a := (.slice bl m4 kl)) (b := (.slice bd m5 kd)) (c := (.slice bx m6 kx)) (by simp); obtain ⟨-, f0, f1, f2⟩ := R4.out.at (r := w.heap.size + 1) (a := .slice al m1 cl) (b := .slice ad m2 cd) (c := .slice ax m3 cx) (by simp); have R5 := Lib.hid (R4.out.swapB.set3 (.slice g1 sl.length j1) (.slice g2 sd.length j2) (.slice g3 sx.length j3)).swapB; obtain ⟨⟨x0, x1, x2⟩, -⟩ := R5.out.at (r := w.heap.size) (a := .int .i64 k) (b := .int .i64 p) (c := .int .i64 q) (by simp); obtain ⟨⟨z0, z1, z2⟩, h0, h1, h2⟩ := R5.out.at (r := w.heap.size + 1 + 1) (a := .slice bl m4 kl) (b := .slice bd m5 kd) (c := .slice bx m6 kx) (by simp); have R6 := Lib.hid (R5.out.set3 (.slice g4 ul.length j4) (.slice g5 ud.length j5) (.slice g6 ux.length j6)); obtain ⟨⟨y0, y1, y2⟩, -⟩ := R6.out.at (r := w.heap.size) (a := .int .i64 k) (b := .int .i64 p) (c := .int .i64 q) (by simp)))
          go_wp2_with fail
          refine hK.out _ _ (by (try dsimp only); first | with_reducible exact ⟨r0, r1, r2⟩ | with_reducible exact ⟨x0, x1, x2⟩ | with_reducible exact ⟨y0, y1, y2⟩) (fun hHeld => ?_)
          clear hK K
          try simp only [Act.put, List.getElem_toArray, List.getElem_cons_succ, List.getElem_cons_zero, List.setIfInBounds_toArray, List.set_cons_zero, List.set_cons_succ]
          refine wpAnyH_ready (rs := [3]) (by kernel_rfl) (by simp) ?_
          refine AllReadyH.cons rfl (fun K hK => ?_) AllReadyH.nil
          go_simp
          refine hK.out _ _ (by (try dsimp only); first | with_reducible exact ⟨r0, r1, r2⟩ | with_reducible exact ⟨x0, x1, x2⟩ | with_reducible exact ⟨y0, y1, y2⟩) (fun hHeld => ?_)
          clear hK K
          try simp only [Act.put, List.getElem_toArray, List.getElem_cons_succ, List.getElem_cons_zero, List.setIfInBounds_toArray, List.set_cons_zero, List.set_cons_succ]
          refine wpAnyH_ready (rs := [5]) (by kernel_rfl) (by simp) ?_
          refine AllReadyH.cons rfl (fun K hK => ?_) AllReadyH.nil
          go_simp
          (go_at_call 54; first | (have _t := TK1; refine (QA.out _ R2d.out.bel).mono ?_; rintro e w3 ⟨v1, v2, v3, rfl, ho, hb⟩; have R3 := Lib.hid (R2d.out.new3 hb ho); obtain ⟨g1, j1, rfl, -⟩ := ints_form ho.rows.1.rd; obtain ⟨g2, j2, rfl, -⟩ := ints_form ho.rows.2.1.rd; obtain ⟨g3, j3, rfl, -⟩ := ints_form ho.rows.2.2.rd; clear hb ho _t TK1; clear r0 r1 r2 a0 a1 a2 b0 b1 b2; obtain ⟨⟨r0, r1, r2⟩, -⟩ := R3.out.at (r := w.heap.size) (a := .int .i64 k) (b := .int .i64 p) (c := .int .i64 q) (by simp); obtain ⟨⟨a0, a1, a2⟩, -⟩ := R3.out.at (r := w.heap.size + 1) (a := (.slice al m1 cl)) (b := (.slice ad m2 cd)) (c := (.slice ax m3 cx)) (by simp); obtain ⟨⟨b0, b1, b2⟩, -⟩ := R3.out.at (r := w.heap.size + 1 + 1) (a := (.slice bl m4 kl)) (b := (.slice bd m5 kd)) (c := (.slice bx m6 kx)) (by simp)) | (have _t := TK2; refine (QU.out _ R3.out.bel).mono ?_; rintro e w4 ⟨v4, v5, v6, rfl, ho, hb⟩; have R4 := Lib.hid (R3.out.new3 hb ho); obtain ⟨g4, j4, rfl, -⟩ := ints_form ho.rows.1.rd; obtain ⟨g5, j5, rfl, -⟩ := ints_form ho.rows.2.1.rd; obtain ⟨g6, j6, rfl, -⟩ := ints_form ho.rows.2.2.rd; clear hb ho _t TK2; clear r0 r1 r2 a0 a1 a2 b0 b1 b2; obtain ⟨⟨r0, r1, r2⟩, -⟩ := R4.out.at (r := w.heap.size) (a := .int .i64 k) (b := .int .i64 p) (c := .int .i64 q) (by simp); obtain ⟨⟨a0, a1, a2⟩, -⟩ := R4.out.at (r := w.heap.size + 1) (a := (.slice al m1 cl)) (b := (.slice ad m2 cd)) (c := (.slice ax m3 cx)) (by simp); obtain ⟨⟨b0, b1, b2⟩, -⟩ := R4.out.at (r := w.heap.size + 1 + 1) (a := (.slice bl m4 kl)) (b := (.slice bd m5 kd)) (c := (.slice bx m6 kx)) (by simp); obtain ⟨-, f0, f1, f2⟩ := R4.out.at (r := w.heap.size + 1) (a := .slice al m1 cl) (b := .slice ad m2 cd) (c := .slice ax m3 cx) (by simp); have R5 := Lib.hid (R4.out.swapB.set3 (.slice g1 sl.length j1) (.slice g2 sd.length j2) (.slice g3 sx.length j3)).swapB; obtain ⟨⟨x0, x1, x2⟩, -⟩ := R5.out.at (r := w.heap.size) (a := .int .i64 k) (b := .int .i64 p) (c := .int .i64 q) (by simp); obtain ⟨⟨z0, z1, z2⟩, h0, h1, h2⟩ := R5.out.at (r := w.heap.size + 1 + 1) (a := .slice bl m4 kl) (b := .slice bd m5 kd) (c := .slice bx m6 kx) (by simp); have R6 := Lib.hid (R5.out.set3 (.slice g4 ul.length j4) (.slice g5 ud.length j5) (.slice g6 ux.length j6)); obtain ⟨⟨y0, y1, y2⟩, -⟩ := R6.out.at (r := w.heap.size) (a := .int .i64 k) (b := .int .i64 p) (c := .int .i64 q) (by simp)))
          go_wp2_with fail
          refine hK.out _ _ (by (try dsimp only); first | with_reducible exact ⟨r0, r1, r2⟩ | with_reducible exact ⟨x0, x1, x2⟩ | with_reducible exact ⟨y0, y1, y2⟩) (fun hHeld => ?_)
          clear hK K
          try simp only [Act.put, List.getElem_toArray, List.getElem_cons_succ, List.getElem_cons_zero, List.setIfInBounds_toArray, List.set_cons_zero, List.set_cons_succ]
          refine wpAnyH_ready (rs := [6]) (by kernel_rfl) (by simp) ?_
          refine AllReadyH.cons rfl (fun K hK => ?_) AllReadyH.nil
          go_simp
          refine hK.out _ _ (by (try dsimp only); first | with_reducible exact ⟨r0, r1, r2⟩ | with_reducible exact ⟨x0, x1, x2⟩ | with_reducible exact ⟨y0, y1, y2⟩) (fun hHeld => ?_)
          clear hK K
          try simp only [Act.put, List.getElem_toArray, List.getElem_cons_succ, List.getElem_cons_zero, List.setIfInBounds_toArray, List.set_cons_zero, List.set_cons_succ]
          refine wpAnyH_ready (rs := [7]) (by kernel_rfl) (by simp) ?_
          refine AllReadyH.cons rfl (fun K hK => ?_) AllReadyH.nil
          go_simp
          refine hK.out _ _ (by (try dsimp only); first | with_reducible exact ⟨r0, r1, r2⟩ | with_reducible exact ⟨x0, x1, x2⟩ | with_reducible exact ⟨y0, y1, y2⟩) (fun hHeld => ?_)
          clear hK K
          try simp only [Act.put, List.getElem_toArray, List.getElem_cons_succ, List.getElem_cons_zero, List.setIfInBounds_toArray, List.set_cons_zero, List.set_cons_succ]
          refine wpAnyH_done (by kernel_rfl) ?_ _
        rotate_left 1
        focus
          go_simp
          refine hK.out _ _ (by (try dsimp only); first | with_reducible exact ⟨r0, r1, r2⟩ | with_reducible exact ⟨x0, x1, x2⟩ | with_reducible exact ⟨y0, y1, y2⟩) (fun hHeld => ?_)
          clear hK K
          try simp only [Act.put, List.getElem_toArray, List.getElem_cons_succ, List.getElem_cons_zero, List.setIfInBounds_toArray, List.set_cons_zero, List.set_cons_succ]
          refine wpAnyH_ready (rs := [2]) (by kernel_rfl) (by simp) ?_
          refine AllReadyH.cons rfl (fun K hK => ?_) AllReadyH.nil
          go_simp
          (go_at_call 54; first | (have _t := TK1; refine (QA.out _ R2d.out.bel).mono ?_; rintro e w3 ⟨v1, v2, v3, rfl, ho, hb⟩; have R3 := Lib.hid (R2d.out.new3 hb ho); obtain ⟨g1, j1, rfl, -⟩ := ints_form ho.rows.1.rd; obtain ⟨g2, j2, rfl, -⟩ := ints_form ho.rows.2.1.rd; obtain ⟨g3, j3, rfl, -⟩ := ints_form ho.rows.2.2.rd; clear hb ho _t TK1; clear r0 r1 r2 a0 a1 a2 b0 b1 b2; obtain ⟨⟨r0, r1, r2⟩, -⟩ := R3.out.at (r := w.heap.size) (a := .int .i64 k) (b := .int .i64 p) (c := .int .i64 q) (by simp); obtain ⟨⟨a0, a1, a2⟩, -⟩ := R3.out.at (r := w.heap.size + 1) (a := (.slice al m1 cl)) (b := (.slice ad m2 cd)) (c := (.slice ax m3 cx)) (by simp); obtain ⟨⟨b0, b1, b2⟩, -⟩ := R3.out.at (r := w.heap.size + 1 + 1) (a := (.slice bl m4 kl)) (b := (.slice bd m5 kd)) (c := (.slice bx m6 kx)) (by simp)) | (have _t := TK2; refine (QU.out _ R3.out.bel).mono ?_; rintro e w4 ⟨v4, v5, v6, rfl, ho, hb⟩; have R4 := Lib.hid (R3.out.new3 hb ho); obtain ⟨g4, j4, rfl, -⟩ := ints_form ho.rows.1.rd; obtain ⟨g5, j5, rfl, -⟩ := ints_form ho.rows.2.1.rd; obtain ⟨g6, j6, rfl, -⟩ := ints_form ho.rows.2.2.rd; clear hb ho _t TK2; clear r0 r1 r2 a0 a1 a2 b0 b1 b2; obtain ⟨⟨r0, r1, r2⟩, -⟩ := R4.out.at (r := w.heap.size) (a := .int .i64 k) (b := .int .i64 p) (c := .int .i64 q) (by simp); obtain ⟨⟨a0, a1, a2⟩, -⟩ := R4.out.at (r := w.heap.size + 1) (a := (.slice al m1 cl)) (b := (.slice ad m2 cd)) (c := (.slice ax m3 cx)) (by simp); obtain ⟨⟨b0, b1, b2⟩, -⟩ := R4.out.at (r := w.heap.size + 1 + 1) (a := (.slice bl m4 kl)) (b := (.slice bd m5 kd)) (c := (.slice bx m6 kx)) (by simp); obtain ⟨-, f0, f1, f2⟩ := R4.out.at (r := w.heap.size + 1) (a := .slice al m1 cl) (b := .slice ad m2 cd) (c := .slice ax m3 cx) (by simp); have R5 := Lib.hid (R4.out.swapB.set3 (.slice g1 sl.length j1) (.slice g2 sd.length j2) (.slice g3 sx.length j3)).swapB; obtain ⟨⟨x0, x1, x2⟩, -⟩ := R5.out.at (r := w.heap.size) (a := .int .i64 k) (b := .int .i64 p) (c := .int .i64 q) (by simp); obtain ⟨⟨z0, z1, z2⟩, h0, h1, h2⟩ := R5.out.at (r := w.heap.size + 1 + 1) (a := .slice bl m4 kl) (b := .slice bd m5 kd) (c := .slice bx m6 kx) (by simp); have R6 := Lib.hid (R5.out.set3 (.slice g4 ul.length j4) (.slice g5 ud.length j5) (.slice g6 ux.length j6)); obtain ⟨⟨y0, y1, y2⟩, -⟩ := R6.out.at (r := w.heap.size) (a := .int .i64 k) (b := .int .i64 p) (c := .int .i64 q) (by simp)))
          go_wp2_with fail
          refine hK.out _ _ (by (try dsimp only); first | with_reducible exact ⟨r0, r1, r2⟩ | with_reducible exact ⟨x0, x1, x2⟩ | with_reducible exact ⟨y0, y1, y2⟩) (fun hHeld => ?_)
          clear hK K
          try simp only [Act.put, List.getElem_toArray, List.getElem_cons_succ, List.getElem_cons_zero, List.setIfInBounds_toArray, List.set_cons_zero, List.set_cons_succ]
          refine wpAnyH_ready (rs := [5]) (by kernel_rfl) (by simp) ?_
          refine AllReadyH.cons rfl (fun K hK => ?_) AllReadyH.nil
          go_simp
          (go_at_call 54; first | (have _t := TK1; refine (QA.out _ R2d.out.bel).mono ?_; rintro e w3 ⟨v1, v2, v3, rfl, ho, hb⟩; have R3 := Lib.hid (R2d.out.new3 hb ho); obtain ⟨g1, j1, rfl, -⟩ := ints_form ho.rows.1.rd; obtain ⟨g2, j2, rfl, -⟩ := ints_form ho.rows.2.1.rd; obtain ⟨g3, j3, rfl, -⟩ := ints_form ho.rows.2.2.rd; clear hb ho _t TK1; clear r0 r1 r2 a0 a1 a2 b0 b1 b2; obtain ⟨⟨r0, r1, r2⟩, -⟩ := R3.out.at (r := w.heap.size) (a := .int .i64 k) (b := .int .i64 p) (c := .int .i64 q) (by simp); obtain ⟨⟨a0, a1, a2⟩, -⟩ := R3.out.at (r := w.heap.size + 1) (a := (.slice al m1 cl)) (b := (.slice ad m2 cd)) (c := (.slice ax m3 cx)) (by simp); obtain ⟨⟨b0, b1, b2⟩, -⟩ := R3.out.at (r := w.heap.size + 1 + 1) (a := (.slice bl m4 kl)) (b := (.slice bd m5 kd)) (c := (.slice bx m6 kx)) (by simp)) | (have _t := TK2; refine (QU.out _ R3.out.bel).mono ?_; rintro e w4 ⟨v4, v5, v6, rfl, ho, hb⟩; have R4 := Lib.hid (R3.out.new3 hb ho); obtain ⟨g4, j4, rfl, -⟩ := ints_form ho.rows.1.rd; obtain ⟨g5, j5, rfl, -⟩ := ints_form ho.rows.2.1.rd; obtain ⟨g6, j6, rfl, -⟩ := ints_form ho.rows.2.2.rd; clear hb ho _t TK2; clear r0 r1 r2 a0 a1 a2 b0 b1 b2; obtain ⟨⟨r0, r1, r2⟩, -⟩ := R4.out.at (r := w.heap.size) (a := .int .i64 k) (b := .int .i64 p) (c := .int .i64 q) (by simp); obtain ⟨⟨a0, a1, a2⟩, -⟩ := R4.out.at (r := w.heap.size + 1) (a := (.slice al m1 cl)) (b := (.slice ad m2 cd)) (c := (.slice ax m3 cx)) (by simp); obtain ⟨⟨b0, b1, b2⟩, -⟩ := R4.out.at (r := w.heap.size + 1 + 1) (a := (.slice bl m4 kl)) (b := (.slice bd m5 kd)) (c := (.slice bx m6 kx)) (by simp); obtain ⟨-, f0, f1, f2⟩ := R4.out.at (r := w.heap.size + 1) (a := .slice al m1 cl) (b := .slice ad m2 cd) (c := .slice ax m3 cx) (by simp); have R5 := Lib.hid (R4.out.swapB.set3 (.slice g1 sl.length j1) (.slice g2 sd.length j2) (.slice g3 sx.length j3)).swapB; obtain ⟨⟨x0, x1, x2⟩, -⟩ := R5.out.at (r := w.heap.size) (a := .int .i64 k) (b := .int .i64 p) (c := .int .i64 q) (by simp); obtain ⟨⟨z0, z1, z2⟩, h0, h1, h2⟩ := R5.out.at (r := w.heap.size + 1 + 1) (a := .slice bl m4 kl) (b := .slice bd m5 kd) (c := .slice bx m6 kx) (by simp); have R6 := Lib.hid (R5.out.set3 (.slice g4 ul.length j4) (.slice g5 ud.length j5) (.slice g6 ux.length j6)); obtain ⟨⟨y0, y1, y2⟩, -⟩ := R6.out.at (r := w.heap.size) (a := .int .i64 k) (b := .int .i64 p) (c := .int .i64 q) (by simp)))
          go_wp2_with fail
          refine hK.out _ _ (by (try dsimp only); first | with_reducible exact ⟨r0, r1, r2⟩ | with_reducible exact ⟨x0, x1, x2⟩ | with_reducible exact ⟨y0, y1, y2⟩) (fun hHeld => ?_)
          clear hK K
          try simp only [Act.put, List.getElem_toArray, List.getElem_cons_succ, List.getElem_cons_zero, List.setIfInBounds_toArray, List.set_cons_zero, List.set_cons_succ]
          refine wpAnyH_ready (rs := [6]) (by kernel_rfl) (by simp) ?_
          refine AllReadyH.cons rfl (fun K hK => ?_) AllReadyH.nil
          go_simp
          refine hK.out _ _ (by (try dsimp only); first | with_reducible exact ⟨r0, r1, r2⟩ | with_reducible exact ⟨x0, x1, x2⟩ | with_reducible exact ⟨y0, y1, y2⟩) (fun hHeld => ?_)
          clear hK K
          try simp only [Act.put, List.getElem_toArray, List.getElem_cons_succ, List.getElem_cons_zero, List.setIfInBounds_toArray, List.set_cons_zero, List.set_cons_succ]
          refine wpAnyH_ready (rs := [7]) (by kernel_rfl) (by simp) ?_
          refine AllReadyH.cons rfl (fun K hK => ?_) AllReadyH.nil
          go_simp
          refine hK.out _ _ (by (try dsimp only); first | with_reducible exact ⟨r0, r1, r2⟩ | with_reducible exact ⟨x0, x1, x2⟩ | with_reducible exact ⟨y0, y1, y2⟩) (fun hHeld => ?_)
          clear hK K
          try simp only [Act.put, List.getElem_toArray, List.getElem_cons_succ, List.getElem_cons_zero, List.setIfInBounds_toArray, List.set_cons_zero, List.set_cons_succ]
          refine wpAnyH_done (by kernel_rfl) ?_ _
        rotate_left 1
      rotate_left 2
      focus
        go_simp
        refine hK.out _ _ (by (try dsimp only); first | with_reducible exact ⟨r0, r1, r2⟩ | with_reducible exact ⟨x0, x1, x2⟩ | with_reducible exact ⟨y0, y1, y2⟩) (fun hHeld => ?_)
        clear hK K
        try simp only [Act.put, List.getElem_toArray, List.getElem_cons_succ, List.getElem_cons_zero, List.setIfInBounds_toArray, List.set_cons_zero, List.set_cons_succ]
        refine wpAnyH_ready (rs := [0]) (by kernel_rfl) (by simp) ?_
        refine AllReadyH.cons rfl (fun K hK => ?_) AllReadyH.nil
        go_simp
        refine hK.out _ _ (by (try dsimp only); first | with_reducible exact ⟨r0, r1, r2⟩ | with_reducible exact ⟨x0, x1, x2⟩ | with_reducible exact ⟨y0, y1, y2⟩) (fun hHeld => ?_)
        clear hK K
        try simp only [Act.put, List.getElem_toArray, List.getElem_cons_succ, List.getElem_cons_zero, List.setIfInBounds_toArray, List.set_cons_zero, List.set_cons_succ]
        refine wpAnyH_ready (rs := [2]) (by kernel_rfl) (by simp) ?_
        refine AllReadyH.cons rfl (fun K hK => ?_) AllReadyH.nil
        go_simp
        (go_at_call 54; first | (have _t := TK1; refine (QA.out _ R2d.out.bel).mono ?_; rintro e w3 ⟨v1, v2, v3, rfl, ho, hb⟩; have R3 := Lib.hid (R2d.out.new3 hb ho); obtain ⟨g1, j1, rfl, -⟩ := ints_form ho.rows.1.rd; obtain ⟨g2, j2, rfl, -⟩ := ints_form ho.rows.2.1.rd; obtain ⟨g3, j3, rfl, -⟩ := ints_form ho.rows.2.2.rd; clear hb ho _t TK1; clear r0 r1 r2 a0 a1 a2 b0 b1 b2; obtain ⟨⟨r0, r1, r2⟩, -⟩ := R3.out.at (r := w.heap.size) (a := .int .i64 k) (b := .int .i64 p) (c := .int .i64 q) (by simp); obtain ⟨⟨a0, a1, a2⟩, -⟩ := R3.out.at (r := w.heap.size + 1) (a := (.slice al m1 cl)) (b := (.slice ad m2 cd)) (c := (.slice ax m3 cx)) (by simp); obtain ⟨⟨b0, b1, b2⟩, -⟩ := R3.out.at (r := w.heap.size + 1 + 1) (a := (.slice bl m4 kl)) (b := (.slice bd m5 kd)) (c := (.slice bx m6 kx)) (by simp)) | (have _t := TK2; refine (QU.out _ R3.out.bel).mono ?_; rintro e w4 ⟨v4, v5, v6, rfl, ho, hb⟩; have R4 := Lib.hid (R3.out.new3 hb ho); obtain ⟨g4, j4, rfl, -⟩ := ints_form ho.rows.1.rd; obtain ⟨g5, j5, rfl, -⟩ := ints_form ho.rows.2.1.rd; obtain ⟨g6, j6, rfl, -⟩ := ints_form ho.rows.2.2.rd; clear hb ho _t TK2; clear r0 r1 r2 a0 a1 a2 b0 b1 b2; obtain ⟨⟨r0, r1, r2⟩, -⟩ := R4.out.at (r := w.heap.size) (a := .int .i64 k) (b := .int .i64 p) (c := .int .i64 q) (by simp); obtain ⟨⟨a0, a1, a2⟩, -⟩ := R4.out.at (r := w.heap.size + 1) (a := (.slice al m1 cl)) (b := (.slice ad m2 cd)) (c := (.slice ax m3 cx)) (by simp); obtain ⟨⟨b0, b1, b2⟩, -⟩ := R4.out.at (r := w.heap.size + 1 + 1) (a := (.slice bl m4 kl)) (b := (.slice bd m5 kd)) (c := (.slice bx m6 kx)) (by simp); obtain ⟨-, f0, f1, f2⟩ := R4.out.at (r := w.heap.size + 1) (a := .slice al m1 cl) (b := .slice ad m2 cd) (c := .slice ax m3 cx) (by simp); have R5 := Lib.hid (R4.out.swapB.set3 (.slice g1 sl.length j1) (.slice g2 sd.length j2) (.slice g3 sx.length j3)).swapB; obtain ⟨⟨x0, x1, x2⟩, -⟩ := R5.out.at (r := w.heap.size) (a := .int .i64 k) (b := .int .i64 p) (c := .int .i64 q) (by simp); obtain ⟨⟨z0, z1, z2⟩, h0, h1, h2⟩ := R5.out.at (r := w.heap.size + 1 + 1) (a := .slice bl m4 kl) (b := .slice bd m5 kd) (c := .slice bx m6 kx) (by simp); have R6 := Lib.hid (R5.out.set3 (.slice g4 ul.length j4) (.slice g5 ud.length j5) (.slice g6 ux.length j6)); obtain ⟨⟨y0, y1, y2⟩, -⟩ := R6.out.at (r := w.heap.size) (a := .int .i64 k) (b := .int .i64 p) (c := .int .i64 q) (by simp)))
        go_wp2_with fail
        refine hK.out _ _ (by (try dsimp only); first | with_reducible exact ⟨r0, r1, r2⟩ | with_reducible exact ⟨x0, x1, x2⟩ | with_reducible exact ⟨y0, y1, y2⟩) (fun hHeld => ?_)
        clear hK K
        try simp only [Act.put, List.getElem_toArray, List.getElem_cons_succ, List.getElem_cons_zero, List.setIfInBounds_toArray, List.set_cons_zero, List.set_cons_succ]
        refine wpAnyH_ready (rs := [5]) (by kernel_rfl) (by simp) ?_
        refine AllReadyH.cons rfl (fun K hK => ?_) AllReadyH.nil
        go_simp
        (go_at_call 54; first | (have _t := TK1; refine (QA.out _ R2d.out.bel).mono ?_; rintro e w3 ⟨v1, v2, v3, rfl, ho, hb⟩; have R3 := Lib.hid (R2d.out.new3 hb ho); obtain ⟨g1, j1, rfl, -⟩ := ints_form ho.rows.1.rd; obtain ⟨g2, j2, rfl, -⟩ := ints_form ho.rows.2.1.rd; obtain ⟨g3, j3, rfl, -⟩ := ints_form ho.rows.2.2.rd; clear hb ho _t TK1; clear r0 r1 r2 a0 a1 a2 b0 b1 b2; obtain ⟨⟨r0, r1, r2⟩, -⟩ := R3.out.at (r := w.heap.size) (a := .int .i64 k) (b := .int .i64 p) (c := .int .i64 q) (by simp); obtain ⟨⟨a0, a1, a2⟩, -⟩ := R3.out.at (r := w.heap.size + 1) (a := (.slice al m1 cl)) (b := (.slice ad m2 cd)) (c := (.slice ax m3 cx)) (by simp); obtain ⟨⟨b0, b1, b2⟩, -⟩ := R3.out.at (r := w.heap.size + 1 + 1) (a := (.slice bl m4 kl)) (b := (.slice bd m5 kd)) (c := (.slice bx m6 kx)) (by simp)) | (have _t := TK2; refine (QU.out _ R3.out.bel).mono ?_; rintro e w4 ⟨v4, v5, v6, rfl, ho, hb⟩; have R4 := Lib.hid (R3.out.new3 hb ho); obtain ⟨g4, j4, rfl, -⟩ := ints_form ho.rows.1.rd; obtain ⟨g5, j5, rfl, -⟩ := ints_form ho.rows.2.1.rd; obtain ⟨g6, j6, rfl, -⟩ := ints_form ho.rows.2.2.rd; clear hb ho _t TK2; clear r0 r1 r2 a0 a1 a2 b0 b1 b2; obtain ⟨⟨r0, r1, r2⟩, -⟩ := R4.out.at (r := w.heap.size) (a := .int .i64 k) (b := .int .i64 p) (c := .int .i64 q) (by simp); obtain ⟨⟨a0, a1, a2⟩, -⟩ := R4.out.at (r := w.heap.size + 1) (a := (.slice al m1 cl)) (b := (.slice ad m2 cd)) (c := (.slice ax m3 cx)) (by simp); obtain ⟨⟨b0, b1, b2⟩, -⟩ := R4.out.at (r := w.heap.size + 1 + 1) (a := (.slice bl m4 kl)) (b := (.slice bd m5 kd)) (c := (.slice bx m6 kx)) (by simp); obtain ⟨-, f0, f1, f2⟩ := R4.out.at (r := w.heap.size + 1) (a := .slice al m1 cl) (b := .slice ad m2 cd) (c := .slice ax m3 cx) (by simp); have R5 := Lib.hid (R4.out.swapB.set3 (.slice g1 sl.length j1) (.slice g2 sd.length j2) (.slice g3 sx.length j3)).swapB; obtain ⟨⟨x0, x1, x2⟩, -⟩ := R5.out.at (r := w.heap.size) (a := .int .i64 k) (b := .int .i64 p) (c := .int .i64 q) (by simp); obtain ⟨⟨z0, z1, z2⟩, h0, h1, h2⟩ := R5.out.at (r := w.heap.size + 1 + 1) (a := .slice bl m4 kl) (b := .slice bd m5 kd) (c := .slice bx m6 kx) (by simp); have R6 := Lib.hid (R5.out.set3 (.slice g4 ul.length j4) (.slice g5 ud.length j5) (.slice g6 ux.length j6)); obtain ⟨⟨y0, y1, y2⟩, -⟩ := R6.out.at (r := w.heap.size) (a := .int .i64 k) (b := .int .i64 p) (c := .int .i64 q) (by simp)))
        go_wp2_with fail
        refine hK.out _ _ (by (try dsimp only); first | with_reducible exact ⟨r0, r1, r2⟩ | with_reducible exact ⟨x0, x1, x2⟩ | with_reducible exact ⟨y0, y1, y2⟩) (fun hHeld => ?_)
        clear hK K
        try simp only [Act.put, List.getElem_toArray, List.getElem_cons_succ, List.getElem_cons_zero, List.setIfInBounds_toArray, List.set_cons_zero, List.set_cons_succ]
        refine wpAnyH_ready (rs := [6]) (by kernel_rfl) (by simp) ?_
        refine AllReadyH.cons rfl (fun K hK => ?_) AllReadyH.nil
        go_simp
        refine hK.out _ _ (by (try dsimp only); first | with_reducible exact ⟨r0, r1, r2⟩ | with_reducible exact ⟨x0, x1, x2⟩ | with_reducible exact ⟨y0, y1, y2⟩) (fun hHeld => ?_)
        clear hK K
        try simp only [Act.put, List.getElem_toArray, List.getElem_cons_succ, List.getElem_cons_zero, List.setIfInBounds_toArray, List.set_cons_zero, List.set_cons_succ]
        refine wpAnyH_ready (rs := [7]) (by kernel_rfl) (by simp) ?_
        refine AllReadyH.cons rfl (fun K hK => ?_) AllReadyH.nil
        go_simp
        refine hK.out _ _ (by (try dsimp only); first | with_reducible exact ⟨r0, r1, r2⟩ | with_reducible exact ⟨x0, x1, x2⟩ | with_reducible exact ⟨y0, y1, y2⟩) (fun hHeld => ?_)
        clear hK K
        try simp only [Act.put, List.getElem_toArray, List.getElem_cons_succ, List.getElem_cons_zero, List.setIfInBounds_toArray, List.set_cons_zero, List.set_cons_succ]
        refine wpAnyH_done (by kernel_rfl) ?_ _
      rotate_left 1
      all_goals
        go_wp2
        have R6d := Lib.hid R6.out.drew
        clear r0 r1 r2 a0 a1 a2 b0 b1 b2 x0 x1 x2 y0 y1 y2 z0 z1 z2 f0 f1 f2 h0 h1 h2
        have TK3 : True := trivial
        have TK4 : True := trivial
        obtain ⟨⟨a0, a1, a2⟩, -⟩ := R6d.out.at (r := w.heap.size + 1) (a := (.slice g1 sl.length j1)) (b := (.slice g2 sd.length j2)) (c := (.slice g3 sx.length j3)) (by simp)
        obtain ⟨⟨b0, b1, b2⟩, -⟩ := R6d.out.at (r := w.heap.size + 1 + 1) (a := (.slice g4 ul.length j4)) (b := (.slice g5 ud.length j5)) (c := (.slice g6 ux.length j6)) (by simp)
        cases eb with
        | false =>
          have HFF : Hid (r = false) := Lib.hid (by rw [HFE.out]; rfl)
          refine wp_region_held_drew (S := (fun w' => (w'.cell? ⟨w.heap.size + 1, 0, none⟩ = some (.slice g1 sl.length j1) ∧ w'.cell? ⟨w.heap.size + 1, 1, none⟩ = some (.slice g2 sd.length j2) ∧ w'.cell? ⟨w.heap.size + 1, 2, none⟩ = some (.slice g3 sx.length j3)) ∧ (w'.cell? ⟨w.heap.size + 1 + 1, 0, none⟩ = some (.slice g4 ul.length j4) ∧ w'.cell? ⟨w.heap.size + 1 + 1, 1, none⟩ = some (.slice g5 ud.length j5) ∧ w'.cell? ⟨w.heap.size + 1 + 1, 2, none⟩ = some (.slice g6 ux.length j6)))) (by kernel_rfl) (by (try dsimp only); with_reducible exact ⟨⟨a0, a1, a2⟩, ⟨b0, b1, b2⟩⟩) (fun hHeld => ?_)
          refine wpAnyH_take (i := 0) (v := ?_) rfl (by kernel_rfl) (by kernel_rfl) (by kernel_rfl) (fun _ _ _ h => h) (Or.inl ⟨by rfl, ?_⟩) (by assumption) ?_
          rotate_left
          · intro w hSw; (try dsimp only at hSw); go_simp <;> with_reducible rfl
          try simp only [Act.put, List.getElem_toArray, List.getElem_cons_zero, List.setIfInBounds_toArray, List.set_cons_zero, List.set_cons_succ]
          refine wpAnyH_take (i := 2) (v := ?_) rfl (by kernel_rfl) (by kernel_rfl) (by kernel_rfl) (fun _ _ _ h => h) (Or.inl ⟨by rfl, ?_⟩) (by assumption) ?_
          rotate_left
          · intro w hSw; (try dsimp only at hSw); go_simp <;> with_reducible rfl
          try simp only [Act.put, List.getElem_toArray, List.getElem_cons_succ, List.getElem_cons_zero, List.setIfInBounds_toArray, List.set_cons_zero, List.set_cons_succ]
          refine wpAnyH_ready (rs := [1]) (by kernel_rfl) (by simp) ?_
          refine AllReadyH.cons rfl (fun K hK => ?_) AllReadyH.nil
          go_simp
          (go_at_call 56; first | (have _t := TK3; refine (axes_impl ⟨R6d.out.rd (v := .slice g1 sl.length j1) (xs := sl) (by simp), R6d.out.rd (v := .slice g2 sd.length j2) (xs := sd) (by simp), R6d.out.rd (v := .slice g3 sx.length j3) (xs := sx) (by simp)⟩ (Nat.le_refl _) (Nat.lt_of_le_of_lt (Nat.zero_le _) (R6d.out.bx (w.heap.size + 1 + 1, .slice g4 ul.length j4, .slice g5 ud.length j5, .slice g6 ux.length j6) (by simp)).lt) LA.out.1 LA.out.2.1 LA.out.2.2.1 LA.out.2.2.2.1).mono ?_; rintro e w5 ⟨va, rfl, ho, hb⟩; have R7 := Lib.hid (R6d.out.step hb); have RA := Lib.hid ho.rd; clear hb ho _t TK3; clear a0 a1 a2 b0 b1 b2; obtain ⟨⟨a0, a1, a2⟩, -⟩ := R7.out.at (r := w.heap.size + 1) (a := (.slice g1 sl.length j1)) (b := (.slice g2 sd.length j2)) (c := (.slice g3 sx.length j3)) (by simp); obtain ⟨⟨b0, b1, b2⟩, -⟩ := R7.out.at (r := w.heap.size + 1 + 1) (a := (.slice g4 ul.length j4)) (b := (.slice g5 ud.length j5)) (c := (.slice g6 ux.length j6)) (by simp)) | (have _t := TK4; refine (axes_impl ⟨R7.out.rd (v := .slice g4 ul.length j4) (xs := ul) (by simp), R7.out.rd (v := .slice g5 ud.length j5) (xs := ud) (by simp), R7.out.rd (v := .slice g6 ux.length j6) (xs := ux) (by simp)⟩ (Nat.le_refl _) (Nat.lt_of_le_of_lt (Nat.zero_le _) (R7.out.bx (w.heap.size + 1 + 1, .slice g4 ul.length j4, .slice g5 ud.length j5, .slice g6 ux.length j6) (by simp)).lt) LU.out.1 LU.out.2.1 LU.out.2.2.1 LU.out.2.2.2.1).mono ?_; rintro e w6 ⟨vb, rfl, ho, hb⟩; have R8 := Lib.hid (R7.out.step hb); have RA2 := Lib.hid (RA.out.below hb (Nat.le_refl _)); have RB := Lib.hid ho.rd; have HLE := Lib.hid hb.size; clear hb ho _t TK4; clear a0 a1 a2 b0 b1 b2; obtain ⟨⟨a0, a1, a2⟩, -⟩ := R8.out.at (r := w.heap.size + 1) (a := (.slice g1 sl.length j1)) (b := (.slice g2 sd.length j2)) (c := (.slice g3 sx.length j3)) (by simp); obtain ⟨⟨b0, b1, b2⟩, -⟩ := R8.out.at (r := w.heap.size + 1 + 1) (a := (.slice g4 ul.length j4)) (b := (.slice g5 ud.length j5)) (c := (.slice g6 ux.length j6)) (by simp)))
          go_wp2_with fail
          refine hK.out _ _ (by (try dsimp only); with_reducible exact ⟨⟨a0, a1, a2⟩, ⟨b0, b1, b2⟩⟩) (fun hHeld => ?_)
          clear hK K
          try simp only [Act.put, List.getElem_toArray, List.getElem_cons_succ, List.getElem_cons_zero, List.setIfInBounds_toArray, List.set_cons_zero, List.set_cons_succ]
          refine wpAnyH_ready (rs := [3]) (by kernel_rfl) (by simp) ?_
          refine AllReadyH.cons rfl (fun K hK => ?_) AllReadyH.nil
          go_simp
          (go_at_call 56; first | (have _t := TK3; refine (axes_impl ⟨R6d.out.rd (v := .slice g1 sl.length j1) (xs := sl) (by simp), R6d.out.rd (v := .slice g2 sd.length j2) (xs := sd) (by simp), R6d.out.rd (v := .slice g3 sx.length j3) (xs := sx) (by simp)⟩ (Nat.le_refl _) (Nat.lt_of_le_of_lt (Nat.zero_le _) (R6d.out.bx (w.heap.size + 1 + 1, .slice g4 ul.length j4, .slice g5 ud.length j5, .slice g6 ux.length j6) (by simp)).lt) LA.out.1 LA.out.2.1 LA.out.2.2.1 LA.out.2.2.2.1).mono ?_; rintro e w5 ⟨va, rfl, ho, hb⟩; have R7 := Lib.hid (R6d.out.step hb); have RA := Lib.hid ho.rd; clear hb ho _t TK3; clear a0 a1 a2 b0 b1 b2; obtain ⟨⟨a0, a1, a2⟩, -⟩ := R7.out.at (r := w.heap.size + 1) (a := (.slice g1 sl.length j1)) (b := (.slice g2 sd.length j2)) (c := (.slice g3 sx.length j3)) (by simp); obtain ⟨⟨b0, b1, b2⟩, -⟩ := R7.out.at (r := w.heap.size + 1 + 1) (a := (.slice g4 ul.length j4)) (b := (.slice g5 ud.length j5)) (c := (.slice g6 ux.length j6)) (by simp)) | (have _t := TK4; refine (axes_impl ⟨R7.out.rd (v := .slice g4 ul.length j4) (xs := ul) (by simp), R7.out.rd (v := .slice g5 ud.length j5) (xs := ud) (by simp), R7.out.rd (v := .slice g6 ux.length j6) (xs := ux) (by simp)⟩ (Nat.le_refl _) (Nat.lt_of_le_of_lt (Nat.zero_le _) (R7.out.bx (w.heap.size + 1 + 1, .slice g4 ul.length j4, .slice g5 ud.length j5, .slice g6 ux.length j6) (by simp)).lt) LU.out.1 LU.out.2.1 LU.out.2.2.1 LU.out.2.2.2.1).mono ?_; rintro e w6 ⟨vb, rfl, ho, hb⟩; have R8 := Lib.hid (R7.out.step hb); have RA2 := Lib.hid (RA.out.below hb (Nat.le_refl _)); have RB := Lib.hid ho.rd; have HLE := Lib.hid hb.size; clear hb ho _t TK4; clear a0 a1 a2 b0 b1 b2; obtain ⟨⟨a0, a1, a2⟩, -⟩ := R8.out.at (r := w.heap.size + 1) (a := (.slice g1 sl.length j1)) (b := (.slice g2 sd.length j2)) (c := (.slice g3 sx.length j3)) (by simp); obtain ⟨⟨b0, b1, b2⟩, -⟩ := R8.out.at (r := w.heap.size + 1 + 1) (a := (.slice g4 ul.length j4)) (b := (.slice g5 ud.length j5)) (c := (.slice g6 ux.length j6)) (by simp)))
          go_wp2_with fail
          refine hK.out _ _ (by (try dsimp only); with_reducible exact ⟨⟨a0, a1, a2⟩, ⟨b0, b1, b2⟩⟩) (fun hHeld => ?_)
          clear hK K
          try simp only [Act.put, List.getElem_toArray, List.getElem_cons_succ, List.getElem_cons_zero, List.setIfInBounds_toArray, List.set_cons_zero, List.set_cons_succ]
          refine wpAnyH_ready (rs := [4]) (by kernel_rfl) (by simp) ?_
          refine AllReadyH.cons rfl (fun K hK => ?_) AllReadyH.nil
          go_simp
          (go_at_call 55; refine (equal_axes RA2.out RB.out HLE.out (Nat.le_refl _) (by rw [axesL_len]; have := LA.out.2.1; omega)).mono ?_; rw [HEB.out]; rintro e w7 ⟨rfl, hb⟩; have R9 := Lib.hid (R8.out.step hb); clear hb; clear a0 a1 a2 b0 b1 b2; obtain ⟨⟨a0, a1, a2⟩, -⟩ := R9.out.at (r := w.heap.size + 1) (a := (.slice g1 sl.length j1)) (b := (.slice g2 sd.length j2)) (c := (.slice g3 sx.length j3)) (by simp); obtain ⟨⟨b0, b1, b2⟩, -⟩ := R9.out.at (r := w.heap.size + 1 + 1) (a := (.slice g4 ul.length j4)) (b := (.slice g5 ud.length j5)) (c := (.slice g6 ux.length j6)) (by simp))
          go_wp2_with fail
          refine hK.out _ _ (by (try dsimp only); with_reducible exact ⟨⟨a0, a1, a2⟩, ⟨b0, b1, b2⟩⟩) (fun hHeld => ?_)
          clear hK K
          try simp only [Act.put, List.getElem_toArray, List.getElem_cons_succ, List.getElem_cons_zero, List.setIfInBounds_toArray, List.set_cons_zero, List.set_cons_succ]
          refine wpAnyH_take (i := 5) (v := ?_) rfl (by kernel_rfl) (by kernel_rfl) (by kernel_rfl) (fun _ _ _ h => h) (Or.inl ⟨by rfl, ?_⟩) (by assumption) ?_
          rotate_left
          · intro w hSw; (try dsimp only at hSw); go_simp <;> with_reducible rfl
          try simp only [Act.put, List.getElem_toArray, List.getElem_cons_succ, List.getElem_cons_zero, List.setIfInBounds_toArray, List.set_cons_zero, List.set_cons_succ]
          refine wpAnyH_take (i := 6) (v := undef) rfl (by kernel_rfl) (by kernel_rfl) (by kernel_rfl) (fun _ _ _ h => h) (Or.inr ⟨by rfl, rfl⟩) (by assumption) ?_
          try simp only [Act.put, List.getElem_toArray, List.getElem_cons_succ, List.getElem_cons_zero, List.setIfInBounds_toArray, List.set_cons_zero, List.set_cons_succ]
          refine wpAnyH_take (i := 7) (v := undef) rfl (by kernel_rfl) (by kernel_rfl) (by kernel_rfl) (fun _ _ _ h => h) (Or.inr ⟨by rfl, rfl⟩) (by assumption) ?_
          try simp only [Act.put, List.getElem_toArray, List.getElem_cons_succ, List.getElem_cons_zero, List.setIfInBounds_toArray, List.set_cons_zero, List.set_cons_succ]
          refine wpAnyH_take (i := 8) (v := undef) rfl (by kernel_rfl) (by kernel_rfl) (by kernel_rfl) (fun _ _ _ h => h) (Or.inr ⟨by rfl, rfl⟩) (by assumption) ?_
          try simp only [Act.put, List.getElem_toArray, List.getElem_cons_succ, List.getElem_cons_zero, List.setIfInBounds_toArray, List.set_cons_zero, List.set_cons_succ]
          refine wpAnyH_take (i := 9) (v := undef) rfl (by kernel_rfl) (by kernel_rfl) (by kernel_rfl) (fun _ _ _ h => h) (Or.inr ⟨by rfl, rfl⟩) (by assumption) ?_
          try simp only [Act.put, List.getElem_toArray, List.getElem_cons_succ, List.getElem_cons_zero, List.setIfInBounds_toArray, List.set_cons_zero, List.set_cons_succ]
          refine wpAnyH_take (i := 10) (v := undef) rfl (by kernel_rfl) (by kernel_rfl) (by kernel_rfl) (fun _ _ _ h => h) (Or.inr ⟨by rfl, rfl⟩) (by assumption) ?_
          try simp only [Act.put, List.getElem_toArray, List.getElem_cons_succ, List.getElem_cons_zero, List.setIfInBounds_toArray, List.set_cons_zero, List.set_cons_succ]
          refine wpAnyH_take (i := 11) (v := ?_) rfl (by kernel_rfl) (by kernel_rfl) (by kernel_rfl) (fun _ _ _ h => h) (Or.inl ⟨by rfl, ?_⟩) (by assumption) ?_
          rotate_left
          · intro w hSw; (try dsimp only at hSw); go_simp <;> with_reducible rfl
          try simp only [Act.put, List.getElem_toArray, List.getElem_cons_succ, List.getElem_cons_zero, List.setIfInBounds_toArray, List.set_cons_zero, List.set_cons_succ]
          refine wpAnyH_take (i := 12) (v := ?_) rfl (by kernel_rfl) (by kernel_rfl) (by kernel_rfl) (fun _ _ _ h => h) (Or.inl ⟨by rfl, ?_⟩) (by assumption) ?_
          rotate_left
          · intro w hSw; (try dsimp only at hSw); go_simp <;> with_reducible rfl
          try simp only [Act.put, List.getElem_toArray, List.getElem_cons_succ, List.getElem_cons_zero, List.setIfInBounds_toArray, List.set_cons_zero, List.set_cons_succ]
          refine wpAnyH_done (by kernel_rfl) ?_ _
          go_wp2
          go_ret
          exact ⟨by rw [HFF.out]; rfl, R9.out.bel⟩
        | true =>
          have HFF : Hid (r = (sx == ux)) := Lib.hid (by rw [HFE.out]; rfl)
          refine wp_region_held_drew (S := (fun w' => (w'.cell? ⟨w.heap.size + 1, 0, none⟩ = some (.slice g1 sl.length j1) ∧ w'.cell? ⟨w.heap.size + 1, 1, none⟩ = some (.slice g2 sd.length j2) ∧ w'.cell? ⟨w.heap.size + 1, 2, none⟩ = some (.slice g3 sx.length j3)) ∧ (w'.cell? ⟨w.heap.size + 1 + 1, 0, none⟩ = some (.slice g4 ul.length j4) ∧ w'.cell? ⟨w.heap.size + 1 + 1, 1, none⟩ = some (.slice g5 ud.length j5) ∧ w'.cell? ⟨w.heap.size + 1 + 1, 2, none⟩ = some (.slice g6 ux.length j6)))) (by kernel_rfl) (by (try dsimp only); with_reducible exact ⟨⟨a0, a1, a2⟩, ⟨b0, b1, b2⟩⟩) (fun hHeld => ?_)
          refine wpAnyH_take (i := 0) (v := ?_) rfl (by kernel_rfl) (by kernel_rfl) (by kernel_rfl) (fun _ _ _ h => h) (Or.inl ⟨by rfl, ?_⟩) (by assumption) ?_
          rotate_left
          · intro w hSw; (try dsimp only at hSw); go_simp <;> with_reducible rfl
          try simp only [Act.put, List.getElem_toArray, List.getElem_cons_zero, List.setIfInBounds_toArray, List.set_cons_zero, List.set_cons_succ]
          refine wpAnyH_take (i := 2) (v := ?_) rfl (by kernel_rfl) (by kernel_rfl) (by kernel_rfl) (fun _ _ _ h => h) (Or.inl ⟨by rfl, ?_⟩) (by assumption) ?_
          rotate_left
          · intro w hSw; (try dsimp only at hSw); go_simp <;> with_reducible rfl
          try simp only [Act.put, List.getElem_toArray, List.getElem_cons_succ, List.getElem_cons_zero, List.setIfInBounds_toArray, List.set_cons_zero, List.set_cons_succ]
          refine wpAnyH_ready (rs := [1]) (by kernel_rfl) (by simp) ?_
          refine AllReadyH.cons rfl (fun K hK => ?_) AllReadyH.nil
          go_simp
          (go_at_call 56; first | (have _t := TK3; refine (axes_impl ⟨R6d.out.rd (v := .slice g1 sl.length j1) (xs := sl) (by simp), R6d.out.rd (v := .slice g2 sd.length j2) (xs := sd) (by simp), R6d.out.rd (v := .slice g3 sx.length j3) (xs := sx) (by simp)⟩ (Nat.le_refl _) (Nat.lt_of_le_of_lt (Nat.zero_le _) (R6d.out.bx (w.heap.size + 1 + 1, .slice g4 ul.length j4, .slice g5 ud.length j5, .slice g6 ux.length j6) (by simp)).lt) LA.out.1 LA.out.2.1 LA.out.2.2.1 LA.out.2.2.2.1).mono ?_; rintro e w5 ⟨va, rfl, ho, hb⟩; have R7 := Lib.hid (R6d.out.step hb); have RA := Lib.hid ho.rd; clear hb ho _t TK3; clear a0 a1 a2 b0 b1 b2; obtain ⟨⟨a0, a1, a2⟩, -⟩ := R7.out.at (r := w.heap.size + 1) (a := (.slice g1 sl.length j1)) (b := (.slice g2 sd.length j2)) (c := (.slice g3 sx.length j3)) (by simp); obtain ⟨⟨b0, b1, b2⟩, -⟩ := R7.out.at (r := w.heap.size + 1 + 1) (a := (.slice g4 ul.length j4)) (b := (.slice g5 ud.length j5)) (c := (.slice g6 ux.length j6)) (by simp)) | (have _t := TK4; refine (axes_impl ⟨R7.out.rd (v := .slice g4 ul.length j4) (xs := ul) (by simp), R7.out.rd (v := .slice g5 ud.length j5) (xs := ud) (by simp), R7.out.rd (v := .slice g6 ux.length j6) (xs := ux) (by simp)⟩ (Nat.le_refl _) (Nat.lt_of_le_of_lt (Nat.zero_le _) (R7.out.bx (w.heap.size + 1 + 1, .slice g4 ul.length j4, .slice g5 ud.length j5, .slice g6 ux.length j6) (by simp)).lt) LU.out.1 LU.out.2.1 LU.out.2.2.1 LU.out.2.2.2.1).mono ?_; rintro e w6 ⟨vb, rfl, ho, hb⟩; have R8 := Lib.hid (R7.out.step hb); have RA2 := Lib.hid (RA.out.below hb (Nat.le_refl _)); have RB := Lib.hid ho.rd; have HLE := Lib.hid hb.size; clear hb ho _t TK4; clear a0 a1 a2 b0 b1 b2; obtain ⟨⟨a0, a1, a2⟩, -⟩ := R8.out.at (r := w.heap.size + 1) (a := (.slice g1 sl.length j1)) (b := (.slice g2 sd.length j2)) (c := (.slice g3 sx.length j3)) (by simp); obtain ⟨⟨b0, b1, b2⟩, -⟩ := R8.out.at (r := w.heap.size + 1 + 1) (a := (.slice g4 ul.length j4)) (b := (.slice g5 ud.length j5)) (c := (.slice g6 ux.length j6)) (by simp)))
          go_wp2_with fail
          refine hK.out _ _ (by (try dsimp only); with_reducible exact ⟨⟨a0, a1, a2⟩, ⟨b0, b1, b2⟩⟩) (fun hHeld => ?_)
          clear hK K
          try simp only [Act.put, List.getElem_toArray, List.getElem_cons_succ, List.getElem_cons_zero, List.setIfInBounds_toArray, List.set_cons_zero, List.set_cons_succ]
          refine wpAnyH_ready (rs := [3]) (by kernel_rfl) (by simp) ?_
          refine AllReadyH.cons rfl (fun K hK => ?_) AllReadyH.nil
          go_simp
          (go_at_call 56; first | (have _t := TK3; refine (axes_impl ⟨R6d.out.rd (v := .slice g1 sl.length j1) (xs := sl) (by simp), R6d.out.rd (v := .slice g2 sd.length j2) (xs := sd) (by simp), R6d.out.rd (v := .slice g3 sx.length j3) (xs := sx) (by simp)⟩ (Nat.le_refl _) (Nat.lt_of_le_of_lt (Nat.zero_le _) (R6d.out.bx (w.heap.size + 1 + 1, .slice g4 ul.length j4, .slice g5 ud.length j5, .slice g6 ux.length j6) (by simp)).lt) LA.out.1 LA.out.2.1 LA.out.2.2.1 LA.out.2.2.2.1).mono ?_; rintro e w5 ⟨va, rfl, ho, hb⟩; have R7 := Lib.hid (R6d.out.step hb); have RA := Lib.hid ho.rd; clear hb ho _t TK3; clear a0 a1 a2 b0 b1 b2; obtain ⟨⟨a0, a1, a2⟩, -⟩ := R7.out.at (r := w.heap.size + 1) (a := (.slice g1 sl.length j1)) (b := (.slice g2 sd.length j2)) (c := (.slice g3 sx.length j3)) (by simp); obtain ⟨⟨b0, b1, b2⟩, -⟩ := R7.out.at (r := w.heap.size + 1 + 1) (a := (.slice g4 ul.length j4)) (b := (.slice g5 ud.length j5)) (c := (.slice g6 ux.length j6)) (by simp)) | (have _t := TK4; refine (axes_impl ⟨R7.out.rd (v := .slice g4 ul.length j4) (xs := ul) (by simp), R7.out.rd (v := .slice g5 ud.length j5) (xs := ud) (by simp), R7.out.rd (v := .slice g6 ux.length j6) (xs := ux) (by simp)⟩ (Nat.le_refl _) (Nat.lt_of_le_of_lt (Nat.zero_le _) (R7.out.bx (w.heap.size + 1 + 1, .slice g4 ul.length j4, .slice g5 ud.length j5, .slice g6 ux.length j6) (by simp)).lt) LU.out.1 LU.out.2.1 LU.out.2.2.1 LU.out.2.2.2.1).mono ?_; rintro e w6 ⟨vb, rfl, ho, hb⟩; have R8 := Lib.hid (R7.out.step hb); have RA2 := Lib.hid (RA.out.below hb (Nat.le_refl _)); have RB := Lib.hid ho.rd; have HLE := Lib.hid hb.size; clear hb ho _t TK4; clear a0 a1 a2 b0 b1 b2; obtain ⟨⟨a0, a1, a2⟩, -⟩ := R8.out.at (r := w.heap.size + 1) (a := (.slice g1 sl.length j1)) (b := (.slice g2 sd.length j2)) (c := (.slice g3 sx.length j3)) (by simp); obtain ⟨⟨b0, b1, b2⟩, -⟩ := R8.out.at (r := w.heap.size + 1 + 1) (a := (.slice g4 ul.length j4)) (b := (.slice g5 ud.length j5)) (c := (.slice g6 ux.length j6)) (by simp)))
          go_wp2_with fail
          refine hK.out _ _ (by (try dsimp only); with_reducible exact ⟨⟨a0, a1, a2⟩, ⟨b0, b1, b2⟩⟩) (fun hHeld => ?_)
          clear hK K
          try simp only [Act.put, List.getElem_toArray, List.getElem_cons_succ, List.getElem_cons_zero, List.setIfInBounds_toArray, List.set_cons_zero, List.set_cons_succ]
          refine wpAnyH_ready (rs := [4]) (by kernel_rfl) (by simp) ?_
          refine AllReadyH.cons rfl (fun K hK => ?_) AllReadyH.nil
          go_simp
          (go_at_call 55; refine (equal_axes RA2.out RB.out HLE.out (Nat.le_refl _) (by rw [axesL_len]; have := LA.out.2.1; omega)).mono ?_; rw [HEB.out]; rintro e w7 ⟨rfl, hb⟩; have R9 := Lib.hid (R8.out.step hb); clear hb; clear a0 a1 a2 b0 b1 b2; obtain ⟨⟨a0, a1, a2⟩, -⟩ := R9.out.at (r := w.heap.size + 1) (a := (.slice g1 sl.length j1)) (b := (.slice g2 sd.length j2)) (c := (.slice g3 sx.length j3)) (by simp); obtain ⟨⟨b0, b1, b2⟩, -⟩ := R9.out.at (r := w.heap.size + 1 + 1) (a := (.slice g4 ul.length j4)) (b := (.slice g5 ud.length j5)) (c := (.slice g6 ux.length j6)) (by simp))
          go_wp2_with fail
          refine hK.out _ _ (by (try dsimp only); with_reducible exact ⟨⟨a0, a1, a2⟩, ⟨b0, b1, b2⟩⟩) (fun hHeld => ?_)
          clear hK K
          try simp only [Act.put, List.getElem_toArray, List.getElem_cons_succ, List.getElem_cons_zero, List.setIfInBounds_toArray, List.set_cons_zero, List.set_cons_succ]
          refine wpAnyH_take (i := 5) (v := ?_) rfl (by kernel_rfl) (by kernel_rfl) (by kernel_rfl) (fun _ _ _ h => h) (Or.inl ⟨by rfl, ?_⟩) (by assumption) ?_
          rotate_left
          · intro w hSw; (try dsimp only at hSw); go_simp <;> with_reducible rfl
          try simp only [Act.put, List.getElem_toArray, List.getElem_cons_succ, List.getElem_cons_zero, List.setIfInBounds_toArray, List.set_cons_zero, List.set_cons_succ]
          refine wpAnyH_take (i := 6) (v := ?_) rfl (by kernel_rfl) (by kernel_rfl) (by kernel_rfl) (fun _ _ _ h => h) (Or.inl ⟨by rfl, ?_⟩) (by assumption) ?_
          rotate_left
          · intro w hSw; (try dsimp only at hSw); go_simp <;> with_reducible rfl
          try simp only [Act.put, List.getElem_toArray, List.getElem_cons_succ, List.getElem_cons_zero, List.setIfInBounds_toArray, List.set_cons_zero, List.set_cons_succ]
          refine wpAnyH_take (i := 7) (v := ?_) rfl (by kernel_rfl) (by kernel_rfl) (by kernel_rfl) (fun _ _ _ h => h) (Or.inl ⟨by rfl, ?_⟩) (by assumption) ?_
          rotate_left
          · intro w hSw; (try dsimp only at hSw); go_simp <;> with_reducible rfl
          try simp only [Act.put, List.getElem_toArray, List.getElem_cons_succ, List.getElem_cons_zero, List.setIfInBounds_toArray, List.set_cons_zero, List.set_cons_succ]
          refine wpAnyH_take (i := 8) (v := ?_) rfl (by kernel_rfl) (by kernel_rfl) (by kernel_rfl) (fun _ _ _ h => h) (Or.inl ⟨by rfl, ?_⟩) (by assumption) ?_
          rotate_left
          · intro w hSw; (try dsimp only at hSw); go_simp <;> with_reducible rfl
          try simp only [Act.put, List.getElem_toArray, List.getElem_cons_succ, List.getElem_cons_zero, List.setIfInBounds_toArray, List.set_cons_zero, List.set_cons_succ]
          refine wpAnyH_take (i := 9) (v := ?_) rfl (by kernel_rfl) (by kernel_rfl) (by kernel_rfl) (fun _ _ _ h => h) (Or.inl ⟨by rfl, ?_⟩) (by assumption) ?_
          rotate_left
          · intro w hSw; (try dsimp only at hSw); go_simp <;> with_reducible rfl
          try simp only [Act.put, List.getElem_toArray, List.getElem_cons_succ, List.getElem_cons_zero, List.setIfInBounds_toArray, List.set_cons_zero, List.set_cons_succ]
          refine wpAnyH_ready (rs := [10]) (by kernel_rfl) (by simp) ?_
          refine AllReadyH.cons rfl (fun K hK => ?_) AllReadyH.nil
          go_simp
          (go_at_call 57; refine (equal_any (R9.out.rd (v := .slice g3 sx.length j3) (xs := sx) (by simp)) (R9.out.rd (v := .slice g6 ux.length j6) (xs := ux) (by simp)) (by have := LA.out.2.2.2.2; omega) (by have := LU.out.2.2.2.2; omega)).mono ?_; rintro e w8 ⟨rfl, hb⟩; have R10 := Lib.hid (R9.out.step hb); clear hb; clear a0 a1 a2 b0 b1 b2; obtain ⟨⟨a0, a1, a2⟩, -⟩ := R10.out.at (r := w.heap.size + 1) (a := (.slice g1 sl.length j1)) (b := (.slice g2 sd.length j2)) (c := (.slice g3 sx.length j3)) (by simp); obtain ⟨⟨b0, b1, b2⟩, -⟩ := R10.out.at (r := w.heap.size + 1 + 1) (a := (.slice g4 ul.length j4)) (b := (.slice g5 ud.length j5)) (c := (.slice g6 ux.length j6)) (by simp))
          go_wp2_with fail
          refine hK.out _ _ (by (try dsimp only); with_reducible exact ⟨⟨a0, a1, a2⟩, ⟨b0, b1, b2⟩⟩) (fun hHeld => ?_)
          clear hK K
          try simp only [Act.put, List.getElem_toArray, List.getElem_cons_succ, List.getElem_cons_zero, List.setIfInBounds_toArray, List.set_cons_zero, List.set_cons_succ]
          refine wpAnyH_take (i := 11) (v := ?_) rfl (by kernel_rfl) (by kernel_rfl) (by kernel_rfl) (fun _ _ _ h => h) (Or.inl ⟨by rfl, ?_⟩) (by assumption) ?_
          rotate_left
          · intro w hSw; (try dsimp only at hSw); go_simp <;> with_reducible rfl
          try simp only [Act.put, List.getElem_toArray, List.getElem_cons_succ, List.getElem_cons_zero, List.setIfInBounds_toArray, List.set_cons_zero, List.set_cons_succ]
          refine wpAnyH_take (i := 12) (v := ?_) rfl (by kernel_rfl) (by kernel_rfl) (by kernel_rfl) (fun _ _ _ h => h) (Or.inl ⟨by rfl, ?_⟩) (by assumption) ?_
          rotate_left
          · intro w hSw; (try dsimp only at hSw); go_simp <;> with_reducible rfl
          try simp only [Act.put, List.getElem_toArray, List.getElem_cons_succ, List.getElem_cons_zero, List.setIfInBounds_toArray, List.set_cons_zero, List.set_cons_succ]
          refine wpAnyH_done (by kernel_rfl) ?_ _
          all_goals
            go_wp2
            go_ret
            exact ⟨by rw [HFF.out]; rfl, R10.out.bel⟩
end Go.Proofs.YtgbmacppgaopfabGreat
