
/- impl.ContractPair. -/
import Derived.Test.YtfdjlahaiogabaaPairFn
import Derived.Test.YtfdjlahaiogabaaContrSpec
import Derived.Test.YtfdjlahaiogabaaTenOkImpl
namespace Go.Proofs.Ytfdjlahaiogabaa
set_option maxRecDepth 20000
open Go.RowKit

theorem pairB_fit {k p q : Int} {L D X L' D' X' keep : List Int} (h1 : tensorB k p q L D X = true) (h2 : tensorB k p q L' D' X' = true) (hf : FitV L D L' D') (hp : prodL (joinD L D L' D') ≤ 65536) : pairB k p q L D X L' D' X' keep = zeroTenB k p q (keepL (joinL L L') keep) (keepD (joinL L L') (joinD L D L' D') keep) := by
  unfold pairB pfB smallB zeroTenB
  rw [h1, h2, fitV_true.2 hf, decide_eq_true hp, (tensorB_inv h1).1]
  simp
set_option maxHeartbeats 6400000 in
theorem contract_pair_impl {B B' B'' : Nat} {lv dv xv lu du xu kv : Value} {k p q : Int} {L D X L' D' X' keep : List Int} {w : World} (ha : RdT B w lv dv xv L D X) (hb : RdT B' w lu du xu L' D' X') (hk : Rd B'' w kv (ints keep)) (hB : B ≤ w.heap.size) (hB' : B' ≤ w.heap.size) (hB'' : B'' ≤ w.heap.size) (hn : LenT L D X) (hn' : LenT L' D' X') (hkl : keep.length ≤ 281474976710656) (hI : allI L) (hJ : allI L') :
    Calls Try.prog 50 #[ringV k p q, tenV lv dv xv, tenV lu du xu, kv] w (NewTen2 w (if pairB k p q L D X L' D' X' keep = true then keepL (joinL L L') keep else []) (if pairB k p q L D X L' D' X' keep = true then keepD (joinL L L') (joinD L D L' D') keep else []) (if pairB k p q L D X L' D' X' keep = true then pairL k p q L D X L' D' X' keep else []) (pairB k p q L D X L' D' X' keep)) := by
  have HA : Hid (RdT w.heap.size w lv dv xv L D X) := Lib.hid ⟨ha.l.mono hB, ha.d.mono hB, ha.x.mono hB⟩
  have HU : Hid (RdT w.heap.size w lu du xu L' D' X') := Lib.hid ⟨hb.l.mono hB', hb.d.mono hB', hb.x.mono hB'⟩
  have HK : Hid (Rd w.heap.size w kv (ints keep)) := Lib.hid (hk.mono hB'')
  obtain ⟨al, cl, rfl, -⟩ := ints_form ha.l
  obtain ⟨ad, cd, rfl, -⟩ := ints_form ha.d
  obtain ⟨ax, cx, rfl, -⟩ := ints_form ha.x
  obtain ⟨bl, kl, rfl, -⟩ := ints_form hb.l
  obtain ⟨bd, kd, rfl, -⟩ := ints_form hb.d
  obtain ⟨bx, kx, rfl, -⟩ := ints_form hb.x
  obtain ⟨ak, ck, rfl, -⟩ := ints_form hk
  generalize L.length = m1 at HA ⊢
  generalize D.length = m2 at HA ⊢
  generalize X.length = m3 at HA ⊢
  generalize L'.length = m4 at HU ⊢
  generalize D'.length = m5 at HU ⊢
  generalize X'.length = m6 at HU ⊢
  obtain ⟨mk, hmk⟩ : ∃ m, m = keep.length := ⟨_, rfl⟩
  rw [← hmk] at HK ⊢
  have S0 : Hid (Rs w ((((w.alloc (.cells #[.int .i64 k, .int .i64 p, .int .i64 q] 31)).alloc (.cells #[.slice al m1 cl, .slice ad m2 cd, .slice ax m3 cx] 28)).alloc (.cells #[.slice bl m4 kl, .slice bd m5 kd, .slice bx m6 kx] 28)).alloc (.cells #[nilV, nilV, nilV] 28)) [(w.heap.size + 1 + 1 + 1, nilV, nilV, nilV), (w.heap.size + 1 + 1, .slice bl m4 kl, .slice bd m5 kd, .slice bx m6 kx), (w.heap.size + 1, .slice al m1 cl, .slice ad m2 cd, .slice ax m3 cx), (w.heap.size, .int .i64 k, .int .i64 p, .int .i64 q)] []) := by
    have h := ((((Rs.start w).box (.int .i64 k) (.int .i64 p) (.int .i64 q) 31).box (.slice al m1 cl) (.slice ad m2 cd) (.slice ax m3 cx) 28).box (.slice bl m4 kl) (.slice bd m5 kd) (.slice bx m6 kx) 28).box nilV nilV nilV 28
    simp only [World.size_alloc] at h
    exact h
  have HT1 := Lib.hid (tensor_ok_impl (k := k) (p := p) (n := q) (HA.out.below S0.out.bel (Nat.le_refl _)) S0.out.bel.size hn hI)
  have HT2 := Lib.hid (fun (W : World) (hb : Below w.heap.size w W) => tensor_ok_impl (k := k) (p := p) (n := q) (HU.out.below hb (Nat.le_refl _)) hb.size hn' hJ)
  obtain ⟨zb, hzb⟩ : ∃ z, z = pairB k p q L D X L' D' X' keep := ⟨_, rfl⟩
  rw [← hzb]
  obtain ⟨zl, hzl⟩ : ∃ l, l = if zb = true then keepL (joinL L L') keep else [] := ⟨_, rfl⟩
  obtain ⟨zd, hzd⟩ : ∃ l, l = if zb = true then keepD (joinL L L') (joinD L D L' D') keep else [] := ⟨_, rfl⟩
  obtain ⟨zx, hzx⟩ : ∃ l, l = if zb = true then pairL k p q L D X L' D' X' keep else [] := ⟨_, rfl⟩
  rw [← hzl, ← hzd, ← hzx]
  have HZL := Lib.hid hzl
  have HZD := Lib.hid hzd
  have HZX := Lib.hid hzx
  obtain ⟨t1b, ht1⟩ : ∃ z, z = tensorB k p q L D X := ⟨_, rfl⟩
  obtain ⟨t2b, ht2⟩ : ∃ z, z = tensorB k p q L' D' X' := ⟨_, rfl⟩
  rw [← ht1] at HT1
  rw [← ht2] at HT2
  have HC : Hid (∀ W rs, Rs w W [(w.heap.size + 1 + 1 + 1, nilV, nilV, nilV), (w.heap.size + 1 + 1, .slice bl m4 kl, .slice bd m5 kd, .slice bx m6 kx), (w.heap.size + 1, .slice al m1 cl, .slice ad m2 cd, .slice ax m3 cx), (w.heap.size, .int .i64 k, .int .i64 p, .int .i64 q)] rs → (W.cell? ⟨w.heap.size, 0, none⟩ = some (.int .i64 k) ∧ W.cell? ⟨w.heap.size, 1, none⟩ = some (.int .i64 p) ∧ W.cell? ⟨w.heap.size, 2, none⟩ = some (.int .i64 q) ∧ W.cell? ⟨w.heap.size + 1, 0, none⟩ = some (.slice al m1 cl) ∧ W.cell? ⟨w.heap.size + 1, 1, none⟩ = some (.slice ad m2 cd) ∧ W.cell? ⟨w.heap.size + 1, 2, none⟩ = some (.slice ax m3 cx) ∧ W.cell? ⟨w.heap.size + 1 + 1, 0, none⟩ = some (.slice bl m4 kl) ∧ W.cell? ⟨w.heap.size + 1 + 1, 1, none⟩ = some (.slice bd m5 kd) ∧ W.cell? ⟨w.heap.size + 1 + 1, 2, none⟩ = some (.slice bx m6 kx)) ∧ 0 < W.heap.size) := Lib.hid (fun W rs h => by
    obtain ⟨⟨r0, r1, r2⟩, -⟩ := h.at (r := w.heap.size) (a := .int .i64 k) (b := .int .i64 p) (c := .int .i64 q) (by simp)
    obtain ⟨⟨a0, a1, a2⟩, -⟩ := h.at (r := w.heap.size + 1) (a := .slice al m1 cl) (b := .slice ad m2 cd) (c := .slice ax m3 cx) (by simp)
    obtain ⟨⟨b0, b1, b2⟩, -⟩ := h.at (r := w.heap.size + 1 + 1) (a := .slice bl m4 kl) (b := .slice bd m5 kd) (c := .slice bx m6 kx) (by simp)
    exact ⟨⟨r0, r1, r2, a0, a1, a2, b0, b1, b2⟩, by have h2 := (h.bx (w.heap.size, .int .i64 k, .int .i64 p, .int .i64 q) (by simp)).lt; exact Nat.lt_of_le_of_lt (Nat.zero_le _) h2⟩)
  clear ha hb hk hB hB' hB'' hn hn' hI hzl hzd hzx
  obtain ⟨⟨r0, r1, r2, a0, a1, a2, b0, b1, b2⟩, s0⟩ := HC.out _ _ S0.out
  cases t1b with
  | false =>
    obtain rfl : zb = false := by rw [hzb]; unfold pairB; rw [← ht1]; simp
    clear hzb ht1 ht2 hJ
    obtain rfl : zl = [] := by rw [HZL.out]; simp
    obtain rfl : zd = [] := by rw [HZD.out]; simp
    obtain rfl : zx = [] := by rw [HZX.out]; simp
    go_enter Try.func50, Try.ntmps50
    go_wp2_with fail
    refine HT1.out.mono ?_
    rintro e w1 ⟨rfl, hb⟩
    have S1 := Lib.hid (S0.out.step hb)
    clear hb HT1 r0 r1 r2 a0 a1 a2 b0 b1 b2 s0 S0
    obtain ⟨⟨t0, t1, t2⟩, f0, f1, f2⟩ := S1.out.at (r := w.heap.size + 1 + 1 + 1) (a := nilV) (b := nilV) (c := nilV) (by simp)
    go_wp2
    refine bodyPost_ret (v := .tuple #[tenV nilV nilV nilV, .bool false]) (by simp [results, Try.results50, go_sem, t0, t1, t2]) rfl ?_
    exact NewTen2.nils (((S1.out.bel.setCell (by show w.heap.size ≤ w.heap.size + 1 + 1 + 1; omega) _).setCell (by show w.heap.size ≤ w.heap.size + 1 + 1 + 1; omega) _).setCell (by show w.heap.size ≤ w.heap.size + 1 + 1 + 1; omega) _)
  | true =>
    cases t2b with
    | false =>
      obtain rfl : zb = false := by rw [hzb]; unfold pairB; rw [← ht2]; simp
      clear hzb ht1 ht2 hJ
      obtain rfl : zl = [] := by rw [HZL.out]; simp
      obtain rfl : zd = [] := by rw [HZD.out]; simp
      obtain rfl : zx = [] := by rw [HZX.out]; simp
      go_enter Try.func50, Try.ntmps50
      go_wp2_with fail
      refine HT1.out.mono ?_
      rintro e w1 ⟨rfl, hb⟩
      have S1 := Lib.hid (S0.out.step hb)
      clear hb HT1 r0 r1 r2 a0 a1 a2 b0 b1 b2 s0 S0
      obtain ⟨⟨r0, r1, r2, a0, a1, a2, b0, b1, b2⟩, s0⟩ := HC.out _ _ S1.out
      go_wp2_with fail
      refine (HT2.out _ S1.out.bel).mono ?_
      rintro e w2 ⟨rfl, hb⟩
      have S2 := Lib.hid (S1.out.step hb)
      clear hb HT2 r0 r1 r2 a0 a1 a2 b0 b1 b2 s0 S1
      obtain ⟨⟨t0, t1, t2⟩, f0, f1, f2⟩ := S2.out.at (r := w.heap.size + 1 + 1 + 1) (a := nilV) (b := nilV) (c := nilV) (by simp)
      go_wp2
      refine bodyPost_ret (v := .tuple #[tenV nilV nilV nilV, .bool false]) (by simp [results, Try.results50, go_sem, t0, t1, t2]) rfl ?_
      exact NewTen2.nils (((S2.out.bel.setCell (by show w.heap.size ≤ w.heap.size + 1 + 1 + 1; omega) _).setCell (by show w.heap.size ≤ w.heap.size + 1 + 1 + 1; omega) _).setCell (by show w.heap.size ≤ w.heap.size + 1 + 1 + 1; omega) _)
    | true =>
      have hax := tensor_axes ht1.symm
      have hax' := tensor_axes ht2.symm
      have hrb := (tensorB_inv ht1.symm).1
      obtain ⟨wd, hw, hw1, hw6⟩ := width_pos hrb
      have hF1 := TenF.of ht1.symm hw
      have hF2 := TenF.of ht2.symm hw
      have hp1 : 1 ≤ prodL D ∧ prodL D ≤ 4096 := by have h1 := hF1.pr; have h2 := hF1.n1; omega
      have hp2 : prodL D' ≤ 4096 := by have h1 := hF2.pr; have h2 := hF2.n1; omega
      have hjp := join_prod hax hax' hp1 hp2
      have HX1 := Lib.hid (fun (W : World) (hb : Below w.heap.size w W) (h0 : 0 < W.heap.size) => axes_impl (HA.out.below hb (Nat.le_refl _)) hb.size h0 hax.2.1 hax.1 hax.2.2.2.1 hp1.2)
      have HX2 := Lib.hid (fun (W : World) (hb : Below w.heap.size w W) (h0 : 0 < W.heap.size) => axes_impl (HU.out.below hb (Nat.le_refl _)) hb.size h0 hax'.2.1 hax'.1 hax'.2.2.2.1 hp2)
      have TK1 : True := trivial
      have TK2 : True := trivial
      by_cases hf : FitV L D L' D'
      · have HJN := Lib.hid (fun (W : World) (u v : Value) (B B' : Nat) (ha : RdA B W u (axesL L D)) (hb : RdA B' W v (axesL L' D')) (hB : B ≤ W.heap.size) (hB' : B' ≤ W.heap.size) => join_ten_yes hax hax' hf ha hb hB hB')
        have HCT := Lib.hid (fun (W : World) (v : Value) (B : Nat) (ha : RdA B W v (axJ (joinL L L') (dimJ L D L' D') (stepI L D))) (hB : B ≤ W.heap.size) => count_impl (by rw [axJ_len]; have h1 := join_len L L'; have h2 := hax.1; have h3 := hax'.1; omega) (by rw [axJ_dims]; intro d hd; obtain ⟨n, hn, rfl⟩ := List.mem_map.1 hd; exact dimJ_in hax hax' n hn) (by rw [axJ_dims, joinD_map hax.2.2.2.2 hax.2.1]; omega) ha hB)
        rw [axJ_dims, joinD_map hax.2.2.2.2 hax.2.1] at HCT
        obtain ⟨pj, hpj⟩ : ∃ z, z = prodL (joinD L D L' D') := ⟨_, rfl⟩
        rw [← hpj] at HCT hjp
        by_cases hbig : 65536 < pj
        · obtain rfl : zb = false := by
            rw [hzb]; unfold pairB pfB smallB
            rw [← hpj, decide_eq_false (show ¬ pj ≤ 65536 by omega)]; simp
          clear hzb ht1 ht2 hJ hpj hax hax' hrb hw hF1 hF2 hp1 hp2 hf
          obtain rfl : zl = [] := by rw [HZL.out]; simp
          obtain rfl : zd = [] := by rw [HZD.out]; simp
          obtain rfl : zx = [] := by rw [HZX.out]; simp
          go_enter Try.func50, Try.ntmps50
          go_wp2_with fail
          refine HT1.out.mono ?_
          rintro e w1 ⟨rfl, hb⟩
          have S1 := Lib.hid (S0.out.step hb)
          clear hb HT1 r0 r1 r2 a0 a1 a2 b0 b1 b2 s0 S0
          obtain ⟨⟨r0, r1, r2, a0, a1, a2, b0, b1, b2⟩, s0⟩ := HC.out _ _ S1.out
          go_wp2_with fail
          refine (HT2.out _ S1.out.bel).mono ?_
          rintro e w2 ⟨rfl, hb⟩
          have S2 := Lib.hid (S1.out.step hb).drew
          clear hb HT2 r0 r1 r2 a0 a1 a2 b0 b1 b2 s0 S1
          obtain ⟨⟨r0, r1, r2, a0, a1, a2, b0, b1, b2⟩, s0⟩ := HC.out _ _ S2.out
          go_wp2_with fail
          go_region_held3 (fun W => (W.cell? ⟨w.heap.size, 0, none⟩ = some (.int .i64 k) ∧ W.cell? ⟨w.heap.size, 1, none⟩ = some (.int .i64 p) ∧ W.cell? ⟨w.heap.size, 2, none⟩ = some (.int .i64 q) ∧ W.cell? ⟨w.heap.size + 1, 0, none⟩ = some (.slice al m1 cl) ∧ W.cell? ⟨w.heap.size + 1, 1, none⟩ = some (.slice ad m2 cd) ∧ W.cell? ⟨w.heap.size + 1, 2, none⟩ = some (.slice ax m3 cx) ∧ W.cell? ⟨w.heap.size + 1 + 1, 0, none⟩ = some (.slice bl m4 kl) ∧ W.cell? ⟨w.heap.size + 1 + 1, 1, none⟩ = some (.slice bd m5 kd) ∧ W.cell? ⟨w.heap.size + 1 + 1, 2, none⟩ = some (.slice bx m6 kx))) (exact ⟨r0, r1, r2, a0, a1, a2, b0, b1, b2⟩) (first
          | (go_at_call 90; have _t := TK1; refine (HX1.out _ S2.out.bel s0).mono ?_; rintro e w3 ⟨vA, rfl, ho, hb⟩; have RA := Lib.hid ho.rd; have S3 := Lib.hid (S2.out.step hb); clear ho hb TK1 _t r0 r1 r2 a0 a1 a2 b0 b1 b2 s0; obtain ⟨⟨r0, r1, r2, a0, a1, a2, b0, b1, b2⟩, s0⟩ := HC.out _ _ S3.out)
          | (go_at_call 90; have _t := TK2; refine (HX2.out _ S3.out.bel s0).mono ?_; rintro e w4 ⟨vB, rfl, ho, hb⟩; have RB := Lib.hid ho.rd; have RA4 := Lib.hid (RA.out.below hb (Nat.le_refl _)); have HLE := Lib.hid hb.size; have S4 := Lib.hid (S3.out.step hb); clear ho hb TK2 _t r0 r1 r2 a0 a1 a2 b0 b1 b2 s0; obtain ⟨⟨r0, r1, r2, a0, a1, a2, b0, b1, b2⟩, s0⟩ := HC.out _ _ S4.out)
          | (go_at_call 102; refine (HJN.out _ _ _ _ _ RA4.out RB.out HLE.out (Nat.le_refl _)).mono ?_; rintro e w5 ⟨vx, vy, rfl, hox, hoy, hb⟩; have RX := Lib.hid hox.rd; have RY := Lib.hid hoy.rd; have S5 := Lib.hid (S4.out.step hb); clear hox hoy hb r0 r1 r2 a0 a1 a2 b0 b1 b2 s0; obtain ⟨⟨r0, r1, r2, a0, a1, a2, b0, b1, b2⟩, s0⟩ := HC.out _ _ S5.out))
          clear r0 r1 r2 a0 a1 a2 b0 b1 b2 s0 HX1 HX2 HJN
          go_wp2_with fail
          refine (HCT.out _ _ _ RX.out (Nat.le_refl _)).mono ?_
          rintro e w6 ⟨rfl, hb⟩
          have S6 := Lib.hid (S5.out.step hb)
          clear hb HCT
          obtain ⟨⟨t0, t1, t2⟩, f0, f1, f2⟩ := S6.out.at (r := w.heap.size + 1 + 1 + 1) (a := nilV) (b := nilV) (c := nilV) (by simp)
          go_wp2
          refine bodyPost_ret (v := .tuple #[tenV nilV nilV nilV, .bool false]) (by simp [results, Try.results50, go_sem, t0, t1, t2]) rfl ?_
          exact NewTen2.nils (((S6.out.bel.setCell (by show w.heap.size ≤ w.heap.size + 1 + 1 + 1; omega) _).setCell (by show w.heap.size ≤ w.heap.size + 1 + 1 + 1; omega) _).setCell (by show w.heap.size ≤ w.heap.size + 1 + 1 + 1; omega) _)
        · obtain ⟨N, hN⟩ : ∃ N : Nat, pj = (N : Int) := ⟨pj.toNat, by omega⟩
          subst hN
          have hN6 : N ≤ 65536 := by omega
          obtain ⟨J, hJ2⟩ : ∃ l, l = joinL L L' := ⟨_, rfl⟩
          obtain ⟨JD, hJD⟩ : ∃ l, l = joinD L D L' D' := ⟨_, rfl⟩
          obtain ⟨dJ, hdJ⟩ : ∃ f, f = dimJ L D L' D' := ⟨_, rfl⟩
          have hjm := joinD_map (L' := L') (D' := D') hax.2.2.2.2 hax.2.1
          have hnd := join_nodup hax.2.2.2.2 hax'.2.2.2.2
          have hj24 : (joinL L L').length ≤ 24 := by have h1 := join_len L L'; have h2 := hax.1; have h3 := hax'.1; omega
          have hdin := dimJ_in hax hax'
          have hall : allI (joinL L L') := fun z hz => by
            rcases List.mem_append.1 hz with h | h
            · have h1 := hax.2.2.1 z h; unfold inI; omega
            · exact hJ z (rest_sub h).1
          have hs1 := SubAx.left (L' := L') (D' := D') hax.2.2.2.2 hax.2.1
          have hs2 := SubAx.right hax.2.1 hax'.2.2.2.2 hax'.2.1 hf
          have hjge : ∀ x ∈ joinD L D L' D', 1 ≤ x := fun x hx => (joinD_in hax'.2.1 hax.2.2.2.1 hax'.2.2.2.1 x hx).1
          have hjl : (joinL L L').length = (joinD L D L' D').length := (joinD_len hax.2.1).symm
          have hof1 := offs_steps hs1 hjm hnd hF1.dim hjge
          have hof2 := offs_steps hs2 hjm hnd hF2.dim hjge
          have hpa1 := joinA_pa (L1 := L) hax hax' hF1.dim hp1.2 (by rw [← hpj]; omega)
          have hpa2 := joinA_pa (L1 := L') hax hax' hF2.dim hp2 (by rw [← hpj]; omega)
          have hlt1 : ∀ c, offJ L D (joinL L L') (joinD L D L' D') c < (prodL D).toNat := fun c => by have h := (hs1.off hjl hF1.dim hjge hnd c).2; omega
          have hlt2 : ∀ c, offJ L' D' (joinL L L') (joinD L D L' D') c < (prodL D').toNat := fun c => by have h := (hs2.off hjl hF2.dim hjge hnd c).2; omega
          have hkd := keepD_map (J := joinL L L') (d := dimJ L D L' D') keep
          rw [hjm] at hkd
          have hzb2 : zb = zeroTenB k p q (keepL (joinL L L') keep) ((keepL (joinL L L') keep).map (dimJ L D L' D')) := by
            rw [hzb, pairB_fit ht1.symm ht2.symm hf (by rw [← hpj]; omega), hkd]
          have hzx2 : zx = if zb = true then accL k p q (offJ (keepL (joinL L L') keep) ((keepL (joinL L L') keep).map (dimJ L D L' D')) (joinL L L') (joinD L D L' D')) (termJ k p wd L D X L' D' X' (joinL L L') (joinD L D L' D')) (prodL ((keepL (joinL L L') keep).map (dimJ L D L' D'))).toNat N else [] := by
            rw [HZX.out]
            unfold pairL
            rw [hkd, hw, Int.toNat_natCast, ← hpj, Int.toNat_natCast]
          have hzd2 : zd = if zb = true then (keepL (joinL L L') keep).map (dimJ L D L' D') else [] := by rw [HZD.out, hkd]
          have hzl2 := HZL.out
          have hte : ∀ c, ElemV k p q (termJ k p wd L D X L' D' X' (joinL L L') (joinD L D L' D') c) := fun c => termJ_elem hrb hw hF1.lX hF2.lX hF1.wX hF2.wX (hlt1 c) (hlt2 c)
          have hpn : prodL (joinD L D L' D') = (N : Int) := hpj.symm
          rw [hpn, Int.toNat_natCast] at hof1 hof2
          rw [← hJ2] at hjm hnd hj24 hdin hall hof1 hof2 hpa1 hpa2 hlt1 hlt2 hzb2 hzx2 hzd2 hzl2 hte HJN HCT
          rw [← hJD] at hjm hof1 hof2 hlt1 hlt2 hzx2 hte hpn
          rw [← hdJ] at hjm hdin hof1 hof2 hpa1 hpa2 hzb2 hzx2 hzd2 HJN HCT
          have HSO := Lib.hid (fun (W : World) (B B' K : Nat) (av kv c1 c2 c3 c4 c5 : Value) (sJ : Int → Int) (ha : RdA B W av (axJ J dJ sJ)) (hk : Rd B' W kv (ints keep)) (hB : B ≤ W.heap.size) (hB' : B' ≤ W.heap.size) (hK : ∀ (args : Array Value) (w : World), (callFunc K args).run Try.prog w = .ok (.enter K args) w) (hG : ∀ (j : Nat) (V : World), j < N → Below W.heap.size W V → Calls Try.prog K #[.int .i64 j, c1, c2, c3, c4, c5] V (ClosF W V (termJ k p wd L D X L' D' X' J JD j))) => sum_over5 (K := K) (wd := wd) dJ sJ hrb hw hnd hj24 hall hdin (by rw [hjm]; exact hpn) hN6 (by exact hkl) ha hk hB hB' hK (fun j _ => hte j) hG)
          rw [hjm, ← hzb2, ← hzl2, ← hzd2, ← hzx2] at HSO
          have HO1 := Lib.hid (fun (W : World) (v : Value) (B : Nat) (ha : RdA B W v (axJ J dJ (stepI L D))) (hB : B ≤ W.heap.size) => offsets_impl hpa1 ha hB)
          have HO2 := Lib.hid (fun (W : World) (v : Value) (B : Nat) (ha : RdA B W v (axJ J dJ (stepI L' D'))) (hB : B ≤ W.heap.size) => offsets_impl hpa2 ha hB)
          rw [hof1] at HO1
          rw [hof2] at HO2
          obtain ⟨O1, hO1⟩ : ∃ l, l = (List.range N).map fun c : Nat => (offJ L D J JD c : Int) := ⟨_, rfl⟩
          obtain ⟨O2, hO2⟩ : ∃ l, l = (List.range N).map fun c : Nat => (offJ L' D' J JD c : Int) := ⟨_, rfl⟩
          rw [← hO1] at HO1
          rw [← hO2] at HO2
          have HOL : Hid (O1.length = N ∧ O2.length = N) := Lib.hid ⟨by rw [hO1]; simp, by rw [hO2]; simp⟩
          have HOA : Hid (∀ c, c < N → O1[c]? = some (offJ L D J JD c : Int) ∧ O2[c]? = some (offJ L' D' J JD c : Int)) := Lib.hid (fun c hc => ⟨by rw [hO1, List.getElem?_map, List.getElem?_range hc]; rfl, by rw [hO2, List.getElem?_map, List.getElem?_range hc]; rfl⟩)
          have HRB := Lib.hid hrb
          have HW := Lib.hid hw
          have HF1 := Lib.hid hF1
          have HF2 := Lib.hid hF2
          have HL1 := Lib.hid hlt1
          have HL2 := Lib.hid hlt2
          have hNN : 0 < N := by omega
          clear hzb hzb2 hzx2 hzd2 hzl2 ht1 ht2 hJ hpj hax hax' hrb hw hF1 hF2 hp1 hp2 hf hjm hnd hj24 hdin hall hof1 hof2 hpa1 hpa2 hlt1 hlt2 hte hpn hs1 hs2 hjge hjl hkd hO1 hO2 hJ2 hJD hdJ hkl
          go_enter Try.func50, Try.ntmps50
          go_wp2_with fail
          refine HT1.out.mono ?_
          rintro e w1 ⟨rfl, hb⟩
          have S1 := Lib.hid (S0.out.step hb)
          clear hb HT1 r0 r1 r2 a0 a1 a2 b0 b1 b2 s0 S0
          obtain ⟨⟨r0, r1, r2, a0, a1, a2, b0, b1, b2⟩, s0⟩ := HC.out _ _ S1.out
          go_wp2_with fail
          refine (HT2.out _ S1.out.bel).mono ?_
          rintro e w2 ⟨rfl, hb⟩
          have S2 := Lib.hid (S1.out.step hb).drew
          clear hb HT2 r0 r1 r2 a0 a1 a2 b0 b1 b2 s0 S1
          obtain ⟨⟨r0, r1, r2, a0, a1, a2, b0, b1, b2⟩, s0⟩ := HC.out _ _ S2.out
          go_wp2_with fail
          go_region_held3 (fun W => (W.cell? ⟨w.heap.size, 0, none⟩ = some (.int .i64 k) ∧ W.cell? ⟨w.heap.size, 1, none⟩ = some (.int .i64 p) ∧ W.cell? ⟨w.heap.size, 2, none⟩ = some (.int .i64 q) ∧ W.cell? ⟨w.heap.size + 1, 0, none⟩ = some (.slice al m1 cl) ∧ W.cell? ⟨w.heap.size + 1, 1, none⟩ = some (.slice ad m2 cd) ∧ W.cell? ⟨w.heap.size + 1, 2, none⟩ = some (.slice ax m3 cx) ∧ W.cell? ⟨w.heap.size + 1 + 1, 0, none⟩ = some (.slice bl m4 kl) ∧ W.cell? ⟨w.heap.size + 1 + 1, 1, none⟩ = some (.slice bd m5 kd) ∧ W.cell? ⟨w.heap.size + 1 + 1, 2, none⟩ = some (.slice bx m6 kx))) (exact ⟨r0, r1, r2, a0, a1, a2, b0, b1, b2⟩) (first
          | (go_at_call 90; have _t := TK1; refine (HX1.out _ S2.out.bel s0).mono ?_; rintro e w3 ⟨vA, rfl, ho, hb⟩; have RA := Lib.hid ho.rd; have S3 := Lib.hid (S2.out.step hb); clear ho hb TK1 _t r0 r1 r2 a0 a1 a2 b0 b1 b2 s0; obtain ⟨⟨r0, r1, r2, a0, a1, a2, b0, b1, b2⟩, s0⟩ := HC.out _ _ S3.out)
          | (go_at_call 90; have _t := TK2; refine (HX2.out _ S3.out.bel s0).mono ?_; rintro e w4 ⟨vB, rfl, ho, hb⟩; have RB := Lib.hid ho.rd; have RA4 := Lib.hid (RA.out.below hb (Nat.le_refl _)); have HLE := Lib.hid hb.size; have S4 := Lib.hid (S3.out.step hb); clear ho hb TK2 _t r0 r1 r2 a0 a1 a2 b0 b1 b2 s0; obtain ⟨⟨r0, r1, r2, a0, a1, a2, b0, b1, b2⟩, s0⟩ := HC.out _ _ S4.out)
          | (go_at_call 102; refine (HJN.out _ _ _ _ _ RA4.out RB.out HLE.out (Nat.le_refl _)).mono ?_; rintro e w5 ⟨vx, vy, rfl, hox, hoy, hb⟩; have RX := Lib.hid hox.rd; have RY := Lib.hid hoy.rd; have S5 := Lib.hid (S4.out.step hb); clear hox hoy hb r0 r1 r2 a0 a1 a2 b0 b1 b2 s0; obtain ⟨⟨r0, r1, r2, a0, a1, a2, b0, b1, b2⟩, s0⟩ := HC.out _ _ S5.out))
          clear r0 r1 r2 a0 a1 a2 b0 b1 b2 s0 HX1 HX2 HJN
          go_wp2_with fail
          refine (HCT.out _ _ _ RX.out (Nat.le_refl _)).mono ?_
          rintro e w6 ⟨rfl, hb⟩
          have S6 := Lib.hid (S5.out.step hb)
          have RX6 := Lib.hid (RX.out.below hb (Nat.le_refl _))
          have RY6 := Lib.hid (RY.out.below hb (Nat.le_refl _))
          have HL6 := Lib.hid hb.size
          clear hb HCT
          go_wp2_with fail
          refine (HO1.out _ _ _ RX6.out HL6.out).mono ?_
          rintro e w7 ⟨v1, rfl, ho, hb⟩
          obtain ⟨p1, d1, rfl, -⟩ := ints_form ho.rd
          have S7 := Lib.hid (S6.out.new hb ho)
          rw [HOL.out.1] at S7 ⊢
          have RX7 := Lib.hid (RX6.out.below hb HL6.out)
          have RY7 := Lib.hid (RY6.out.below hb HL6.out)
          have HL7 := Lib.hid (Nat.le_trans HL6.out hb.size)
          clear ho hb HO1
          go_wp2_with fail
          refine (HO2.out _ _ _ RY7.out HL7.out).mono ?_
          rintro e w8 ⟨v2, rfl, ho, hb⟩
          obtain ⟨p2, d2, rfl, -⟩ := ints_form ho.rd
          have S8 := Lib.hid (S7.out.new hb ho)
          rw [HOL.out.2] at S8 ⊢
          have RX8 := Lib.hid (RX7.out.below hb HL7.out)
          have HL8 := Lib.hid (Nat.le_trans HL7.out hb.size)
          clear ho hb HO2
          obtain ⟨g1, rfl, -, hg1, hc1, -⟩ := (S8.out.own1 (v := .slice p1 N d1) (xs := O1) (by simp)).slot HOL.out.1 hNN
          obtain ⟨g2, rfl, -, hg2, hc2, -⟩ := (S8.out.own1 (v := .slice p2 N d2) (xs := O2) (by simp)).slot HOL.out.2 hNN
          have HC1 := Lib.hid hc1
          have HC2 := Lib.hid hc2
          clear hc1 hc2
          obtain ⟨W9, hW9⟩ : ∃ W, W = (w8.alloc (.cells #[.slice (some ⟨g1, 0, none⟩) N d1] 24)).alloc (.cells #[.slice (some ⟨g2, 0, none⟩) N d2] 24) := ⟨_, rfl⟩
          have hb9 : Below w8.heap.size w8 W9 := by rw [hW9]; exact ((Below.refl _ _).alloc (Nat.le_refl _) _).alloc (by simp) _
          have hs9 : W9.heap.size = w8.heap.size + 1 + 1 := by rw [hW9]; simp
          have hi9 : W9.cell? ⟨w8.heap.size, 0, none⟩ = some (.slice (some ⟨g1, 0, none⟩) N d1) := by rw [hW9]; simp
          have hj9 : W9.cell? ⟨w8.heap.size + 1, 0, none⟩ = some (.slice (some ⟨g2, 0, none⟩) N d2) := by
            have h := (Boxed.new (w8.alloc (.cells #[.slice (some ⟨g1, 0, none⟩) N d1] 24)) 24 (.slice (some ⟨g2, 0, none⟩) N d2)).cell
            rw [World.size_alloc] at h
            rw [hW9]; exact h
          have S9 := Lib.hid (S8.out.step hb9)
          obtain ⟨⟨r0, r1, r2, a0, a1, a2, b0, b1, b2⟩, s0⟩ := HC.out _ _ S9.out
          have hlt8 : w.heap.size + 1 + 1 + 1 < w8.heap.size := (S8.out.bx (w.heap.size + 1 + 1 + 1, nilV, nilV, nilV) (by simp)).lt
          have HLT := Lib.hid hlt8
          have HCALL := Lib.hid (HSO.out W9 w5.heap.size w.heap.size 106 vx (.slice ak keep.length ck) (.pointer (some ⟨w.heap.size, 0, none⟩)) (.pointer (some ⟨w.heap.size + 1, 0, none⟩)) (.pointer (some ⟨w8.heap.size, 0, none⟩)) (.pointer (some ⟨w.heap.size + 1 + 1, 0, none⟩)) (.pointer (some ⟨w8.heap.size + 1, 0, none⟩)) (stepI L D) (RX8.out.below hb9 HL8.out) (by rw [← hmk]; exact HK.out.below S9.out.bel (Nat.le_refl _)) (Nat.le_trans HL8.out hb9.size) S9.out.bel.size (enters_of Try.func106 (by kernel_rfl) rfl) (fun j V hj hV =>
            (pair_fn (br := w.heap.size) (ba := w.heap.size + 1) (bi := w8.heap.size) (bb := w.heap.size + 1 + 1) (bj := w8.heap.size + 1) (gi := g1) (gj := g2) (ni := N) (nj := N) hV (by omega)
              ⟨r0, r1, r2, a0, a1, a2, b0, b1, b2, hi9, hj9, (hb9.cell (p := ⟨g1, j, none⟩) hg1).trans (HC1.out j _ (HOA.out j hj).1), (hb9.cell (p := ⟨g2, j, none⟩) hg2).trans (HC2.out j _ (HOA.out j hj).2)⟩
              hj hj (HA.out.below S9.out.bel (Nat.le_refl _)) (HU.out.below S9.out.bel (Nat.le_refl _)) S9.out.bel.size HRB.out HW.out hw1 hw6 HF1.out.n1.2 HF2.out.n1.2 HF1.out.lX HF2.out.lX HF1.out.wX HF2.out.wX (HL1.out j) (HL2.out j)).mono fun e w' h => ClosF.new h (by
                have h1 := (termJ_elem (k := k) (p := p) (q := q) HRB.out HW.out HF1.out.lX HF2.out.lX HF1.out.wX HF2.out.wX (HL1.out j) (HL2.out j)).1
                have h2 := HW.out
                show 0 < (termJ k p wd L D X L' D' X' J JD j).length
                omega)))
          rw [hW9] at HCALL
          clear hb9 hs9 hi9 hj9 hlt8
          rw [hW9] at r0 r1 r2 a0 a1 a2 b0 b1 b2
          go_wp2_with fail
          refine HCALL.out.mono ?_
          rw [← hW9]
          rintro e w10 ⟨u1, u2, u3, rfl, ho, hb⟩
          obtain ⟨x1, n1', y1, rfl⟩ := (show Own _ _ _ u1 zl from ho.1 (u1, zl) (by simp)).slice
          obtain ⟨x2, n2', y2, rfl⟩ := (show Own _ _ _ u2 zd from ho.1 (u2, zd) (by simp)).slice
          obtain ⟨x3, n3', y3, rfl⟩ := (show Own _ _ _ u3 zx from ho.1 (u3, zx) (by simp)).slice
          have SA := Lib.hid (S9.out.step hb)
          have RA10 := Lib.hid ((Rs.start W9).new3 hb ho)
          have HL9 := Lib.hid (Nat.le_trans S8.out.bel.size (show w8.heap.size ≤ W9.heap.size by rw [hW9]; simp; omega))
          have HR9 : Hid (w.heap.size + 1 + 1 + 1 < W9.heap.size) := Lib.hid (Nat.lt_of_lt_of_le HLT.out (by rw [hW9]; simp; omega))
          clear ho hb HCALL r0 r1 r2 a0 a1 a2 b0 b1 b2 s0
          obtain ⟨⟨t0, t1, t2⟩, f0, f1, f2⟩ := SA.out.at (r := w.heap.size + 1 + 1 + 1) (a := nilV) (b := nilV) (c := nilV) (by simp)
          go_wp2
          refine bodyPost_ret (v := .tuple #[tenV (.slice x1 n1' y1) (.slice x2 n2' y2) (.slice x3 n3' y3), .bool zb]) (by simp [results, Try.results50, go_sem, t0, t1, t2]) rfl ?_
          have h2 := (RA10.out.ownG.set3 (r := w.heap.size + 1 + 1 + 1) HR9.out (.slice x1 n1' y1) (.slice x2 n2' y2) (.slice x3 n3' y3))
          refine ⟨_, _, _, rfl, OwnG.wide h2 HL9.out (by simp) (Nat.le_refl _), ?_⟩
          exact (((SA.out.bel.setCell (p := ⟨w.heap.size + 1 + 1 + 1, 0, none⟩) (by show w.heap.size ≤ w.heap.size + 1 + 1 + 1; omega) _).setCell (p := ⟨w.heap.size + 1 + 1 + 1, 1, none⟩) (by show w.heap.size ≤ w.heap.size + 1 + 1 + 1; omega) _).setCell (p := ⟨w.heap.size + 1 + 1 + 1, 2, none⟩) (by show w.heap.size ≤ w.heap.size + 1 + 1 + 1; omega) _)
      · obtain rfl : zb = false := by
          rw [hzb]; unfold pairB pfB
          rw [fitV_false hf]; simp
        have HJN := Lib.hid (fun (W : World) (u v : Value) (B B' : Nat) (ha : RdA B W u (axesL L D)) (hb : RdA B' W v (axesL L' D')) (hB : B ≤ W.heap.size) (hB' : B' ≤ W.heap.size) => join_ten_no hax hax' hf ha hb hB hB')
        clear hzb ht1 ht2 hJ hax hax' hrb hw hF1 hF2 hp1 hp2 hf hjp
        obtain rfl : zl = [] := by rw [HZL.out]; simp
        obtain rfl : zd = [] := by rw [HZD.out]; simp
        obtain rfl : zx = [] := by rw [HZX.out]; simp
        go_enter Try.func50, Try.ntmps50
        go_wp2_with fail
        refine HT1.out.mono ?_
        rintro e w1 ⟨rfl, hb⟩
        have S1 := Lib.hid (S0.out.step hb)
        clear hb HT1 r0 r1 r2 a0 a1 a2 b0 b1 b2 s0 S0
        obtain ⟨⟨r0, r1, r2, a0, a1, a2, b0, b1, b2⟩, s0⟩ := HC.out _ _ S1.out
        go_wp2_with fail
        refine (HT2.out _ S1.out.bel).mono ?_
        rintro e w2 ⟨rfl, hb⟩
        have S2 := Lib.hid (S1.out.step hb).drew
        clear hb HT2 r0 r1 r2 a0 a1 a2 b0 b1 b2 s0 S1
        obtain ⟨⟨r0, r1, r2, a0, a1, a2, b0, b1, b2⟩, s0⟩ := HC.out _ _ S2.out
        go_wp2_with fail
        go_region_held3 (fun W => (W.cell? ⟨w.heap.size, 0, none⟩ = some (.int .i64 k) ∧ W.cell? ⟨w.heap.size, 1, none⟩ = some (.int .i64 p) ∧ W.cell? ⟨w.heap.size, 2, none⟩ = some (.int .i64 q) ∧ W.cell? ⟨w.heap.size + 1, 0, none⟩ = some (.slice al m1 cl) ∧ W.cell? ⟨w.heap.size + 1, 1, none⟩ = some (.slice ad m2 cd) ∧ W.cell? ⟨w.heap.size + 1, 2, none⟩ = some (.slice ax m3 cx) ∧ W.cell? ⟨w.heap.size + 1 + 1, 0, none⟩ = some (.slice bl m4 kl) ∧ W.cell? ⟨w.heap.size + 1 + 1, 1, none⟩ = some (.slice bd m5 kd) ∧ W.cell? ⟨w.heap.size + 1 + 1, 2, none⟩ = some (.slice bx m6 kx))) (exact ⟨r0, r1, r2, a0, a1, a2, b0, b1, b2⟩) (first
          | (go_at_call 90; have _t := TK1; refine (HX1.out _ S2.out.bel s0).mono ?_; rintro e w3 ⟨vA, rfl, ho, hb⟩; have RA := Lib.hid ho.rd; have S3 := Lib.hid (S2.out.step hb); clear ho hb TK1 _t r0 r1 r2 a0 a1 a2 b0 b1 b2 s0; obtain ⟨⟨r0, r1, r2, a0, a1, a2, b0, b1, b2⟩, s0⟩ := HC.out _ _ S3.out)
          | (go_at_call 90; have _t := TK2; refine (HX2.out _ S3.out.bel s0).mono ?_; rintro e w4 ⟨vB, rfl, ho, hb⟩; have RB := Lib.hid ho.rd; have RA4 := Lib.hid (RA.out.below hb (Nat.le_refl _)); have HLE := Lib.hid hb.size; have S4 := Lib.hid (S3.out.step hb); clear ho hb TK2 _t r0 r1 r2 a0 a1 a2 b0 b1 b2 s0; obtain ⟨⟨r0, r1, r2, a0, a1, a2, b0, b1, b2⟩, s0⟩ := HC.out _ _ S4.out)
          | (go_at_call 102; refine (HJN.out _ _ _ _ _ RA4.out RB.out HLE.out (Nat.le_refl _)).mono ?_; rintro e w5 ⟨rfl, hb⟩; have S5 := Lib.hid (S4.out.step hb); clear hb r0 r1 r2 a0 a1 a2 b0 b1 b2 s0; obtain ⟨⟨r0, r1, r2, a0, a1, a2, b0, b1, b2⟩, s0⟩ := HC.out _ _ S5.out))
        clear r0 r1 r2 a0 a1 a2 b0 b1 b2 s0 HX1 HX2 HJN
        obtain ⟨⟨t0, t1, t2⟩, f0, f1, f2⟩ := S5.out.at (r := w.heap.size + 1 + 1 + 1) (a := nilV) (b := nilV) (c := nilV) (by simp)
        go_wp2
        refine bodyPost_ret (v := .tuple #[tenV nilV nilV nilV, .bool false]) (by simp [results, Try.results50, go_sem, t0, t1, t2]) rfl ?_
        exact NewTen2.nils (((S5.out.bel.setCell (by show w.heap.size ≤ w.heap.size + 1 + 1 + 1; omega) _).setCell (by show w.heap.size ≤ w.heap.size + 1 + 1 + 1; omega) _).setCell (by show w.heap.size ≤ w.heap.size + 1 + 1 + 1; omega) _)
end Go.Proofs.Ytfdjlahaiogabaa
