
/- spec.l07Join: two tensors with the same axes, element by element. -/
import Derived.Test.YtceidekfcnmeaaaPermSpec
import Derived.Test.YtceidekfcnmeaaaTimesOne
import Derived.Test.YtceidekfcnmeaaaElem
namespace Go.Proofs.Ytceidekfcnmeaaa
set_option maxRecDepth 20000
open Go.RowKit

/-- The sum, or the product, of the elements at an offset. -/
def joinF (k p : Int) (wd : Nat) (X Y : List Int) (pr : Bool) (i : Nat) : List Int := if pr = true then timesL k p (getL wd X i) (getL wd Y i) else plusL k p (getL wd X i) (getL wd Y i)
theorem joinF_elem {k p q : Int} {X Y : List Int} {wd N i : Nat} (hr : ringB k p q = true) (hw : widthI k q = (wd : Int)) (hX : X.length = N * wd) (hY : Y.length = N * wd) (wX : Within (topI k p q) X) (wY : Within (topI k p q) Y) (pr : Bool) (hi : i < N) : ElemV k p q (joinF k p wd X Y pr i) := by
  have h1 := getL_elem hw hX wX hi
  have h2 := getL_elem hw hY wY hi
  unfold joinF
  split
  · exact timesL_elem hr h1 h2
  · exact plusL_elem hr h1 h2
end Go.Proofs.Ytceidekfcnmeaaa
namespace Go.Proofs.Ytceidekfcnmeaaa
set_option maxRecDepth 20000
open Go.RowKit

/-- An element times the one at an offset. -/
def scaleF (k p : Int) (wd : Nat) (x X : List Int) (i : Nat) : List Int := timesL k p x (getL wd X i)
noncomputable def scaleB (k p q : Int) (L D X x : List Int) : Bool := tensorB k p q L D X && elemB k p q x
def scaleTenL (k p q : Int) (D X x : List Int) : List Int := gatherL (scaleF k p (widthI k q).toNat x X) (prodL D).toNat
end Go.Proofs.Ytceidekfcnmeaaa
namespace Go.Proofs.Ytceidekfcnmeaaa
set_option maxRecDepth 20000
open Go.RowKit

/-- Are both tensors valid, with the same labels. -/
noncomputable def bothB (k p q : Int) (L D X L' D' X' : List Int) : Bool := tensorB k p q L D X && (tensorB k p q L' D' X' && setV L L')
noncomputable def fitB (k p q : Int) (L D X L' D' X' : List Int) : Bool := bothB k p q L D X L' D' X' && decide (dimsVia L' D' L = D)
theorem set_sym {L L' : List Int} (h : SetV L L') : SetV L' L := setV_perm h.perm.symm h.nodup
set_option maxHeartbeats 6400000 in
theorem fits_spec {B B' : Nat} {lv dv xv lu du xu : Value} {k p q : Int} {L D X L' D' X' : List Int} {w : World} (ha : RdT B w lv dv xv L D X) (hb : RdT B' w lu du xu L' D' X') (hB : B ≤ w.heap.size) (hB' : B' ≤ w.heap.size) (hn : LenT L D X) (hn' : LenT L' D' X') :
    Calls Try.prog 19 #[ringV k p q, tenV lv dv xv, tenV lu du xu] w (NewTen2 w (if bothB k p q L D X L' D' X' = true then L else []) (if bothB k p q L D X L' D' X' = true then dimsVia L' D' L else []) (if bothB k p q L D X L' D' X' = true then permDataL k q L' D' X' L else []) (fitB k p q L D X L' D' X')) := by
  have HA := Lib.hid ha
  have HU := Lib.hid hb
  have HB := Lib.hid (And.intro hB hB')
  obtain ⟨al, cl, rfl, -⟩ := ints_form ha.l
  obtain ⟨ad, cd, rfl, -⟩ := ints_form ha.d
  obtain ⟨ax, cx, rfl, -⟩ := ints_form ha.x
  obtain ⟨bl, kl, rfl, -⟩ := ints_form hb.l
  obtain ⟨bd, kd, rfl, -⟩ := ints_form hb.d
  obtain ⟨bx, kx, rfl, -⟩ := ints_form hb.x
  obtain ⟨m1, hm1⟩ : ∃ m, m = L.length := ⟨_, rfl⟩
  obtain ⟨m2, hm2⟩ : ∃ m, m = D.length := ⟨_, rfl⟩
  obtain ⟨m3, hm3⟩ : ∃ m, m = X.length := ⟨_, rfl⟩
  obtain ⟨m4, hm4⟩ : ∃ m, m = L'.length := ⟨_, rfl⟩
  obtain ⟨m5, hm5⟩ : ∃ m, m = D'.length := ⟨_, rfl⟩
  obtain ⟨m6, hm6⟩ : ∃ m, m = X'.length := ⟨_, rfl⟩
  rw [← hm1, ← hm2, ← hm3] at HA ⊢
  rw [← hm4, ← hm5, ← hm6] at HU ⊢
  have R0 : Hid (Rs w ((((w.alloc (.cells #[.int .i64 k, .int .i64 p, .int .i64 q] 31)).alloc (.cells #[.slice al m1 cl, .slice ad m2 cd, .slice ax m3 cx] 28)).alloc (.cells #[.slice bl m4 kl, .slice bd m5 kd, .slice bx m6 kx] 28)).alloc (.cells #[nilV, nilV, nilV] 28)) [(w.heap.size + 1 + 1 + 1, nilV, nilV, nilV), (w.heap.size + 1 + 1, .slice bl m4 kl, .slice bd m5 kd, .slice bx m6 kx), (w.heap.size + 1, .slice al m1 cl, .slice ad m2 cd, .slice ax m3 cx), (w.heap.size, .int .i64 k, .int .i64 p, .int .i64 q)] []) := by
    have h := ((((Rs.start w).box (.int .i64 k) (.int .i64 p) (.int .i64 q) 31).box (.slice al m1 cl) (.slice ad m2 cd) (.slice ax m3 cx) 28).box (.slice bl m4 kl) (.slice bd m5 kd) (.slice bx m6 kx) 28).box nilV nilV nilV 28
    simp only [World.size_alloc] at h
    exact h
  have OKA := Lib.hid (fun (w1 : World) (hb : Below w.heap.size w w1) => tensor_ok_spec (k := k) (p := p) (n := q) (HA.out.below hb HB.out.1) (Nat.le_trans HB.out.1 hb.size) hn)
  have OKU := Lib.hid (fun (w1 : World) (hb : Below w.heap.size w w1) => tensor_ok_spec (k := k) (p := p) (n := q) (HU.out.below hb HB.out.2) (Nat.le_trans HB.out.2 hb.size) hn')
  have HSE := Lib.hid (fun (w1 : World) (hb : Below w.heap.size w w1) => set_spec ((HA.out.below hb HB.out.1).l.mono (Nat.le_trans HB.out.1 hb.size)) ((HU.out.below hb HB.out.2).l.mono (Nat.le_trans HB.out.2 hb.size)) hn.l hn'.l)
  have HPE := Lib.hid (fun (w1 : World) (hb : Below w.heap.size w w1) (ht : tensorB k p q L' D' X' = true) (hs : SetV L' L) =>
    have hx := HA.out.below hb HB.out.1
    have hy := HU.out.below hb HB.out.2
    permute_spec (B := w1.heap.size) ⟨hy.l.mono (Nat.le_trans HB.out.2 hb.size), hy.d.mono (Nat.le_trans HB.out.2 hb.size), hy.x.mono (Nat.le_trans HB.out.2 hb.size)⟩ (hx.l.mono (Nat.le_trans HB.out.1 hb.size)) (Nat.le_refl _) ht hs)
  obtain ⟨ta, hta⟩ : ∃ b, b = tensorB k p q L D X := ⟨_, rfl⟩
  obtain ⟨tu, htu⟩ : ∃ b, b = tensorB k p q L' D' X' := ⟨_, rfl⟩
  obtain ⟨sb, hsb⟩ : ∃ b, b = setV L L' := ⟨_, rfl⟩
  obtain ⟨bo, hbo⟩ : ∃ b, b = bothB k p q L D X L' D' X' := ⟨_, rfl⟩
  obtain ⟨fb, hfb⟩ : ∃ b, b = fitB k p q L D X L' D' X' := ⟨_, rfl⟩
  have HBO : Hid (bo = (ta && (tu && sb))) := Lib.hid (by rw [hbo, hta, htu, hsb]; rfl)
  have HFB : Hid (fb = (bo && decide (dimsVia L' D' L = D))) := Lib.hid (by rw [hfb, hbo]; rfl)
  rw [← hta] at OKA
  rw [← htu] at OKU
  rw [← hsb] at HSE
  rw [← hbo, ← hfb]
  have HTA := Lib.hid hta
  have HTU := Lib.hid htu
  have HSB := Lib.hid hsb
  have HLN := Lib.hid (And.intro hn hn')
  clear ha hb hB hB' hn hn' hm1 hm2 hm3 hm4 hm5 hm6 hta htu hsb hbo hfb
  obtain ⟨⟨r0, r1, r2⟩, -⟩ := R0.out.at (r := w.heap.size) (a := .int .i64 k) (b := .int .i64 p) (c := .int .i64 q) (by simp)
  obtain ⟨⟨s0, s1, s2⟩, -⟩ := R0.out.at (r := w.heap.size + 1) (a := (.slice al m1 cl)) (b := (.slice ad m2 cd)) (c := (.slice ax m3 cx)) (by simp)
  obtain ⟨⟨b0, b1, b2⟩, -⟩ := R0.out.at (r := w.heap.size + 1 + 1) (a := (.slice bl m4 kl)) (b := (.slice bd m5 kd)) (c := (.slice bx m6 kx)) (by simp)
  cases ta with
  | false =>
    obtain rfl : bo = false := by rw [HBO.out]; rfl
    obtain rfl : fb = false := by rw [HFB.out]; rfl
    simp only [Bool.false_eq_true, if_false]
    go_enter Try.func19, Try.ntmps19
    go_wp2_with fail
    refine (OKA.out _ R0.out.bel).mono ?_
    clear r0 r1 r2 s0 s1 s2 b0 b1 b2
    rintro e w1 ⟨rfl, hb⟩
    have R1 := Lib.hid (R0.out.step hb)
    clear hb
    obtain ⟨⟨r0, r1, r2⟩, -⟩ := R1.out.at (r := w.heap.size) (a := .int .i64 k) (b := .int .i64 p) (c := .int .i64 q) (by simp)
    obtain ⟨⟨s0, s1, s2⟩, -⟩ := R1.out.at (r := w.heap.size + 1) (a := (.slice al m1 cl)) (b := (.slice ad m2 cd)) (c := (.slice ax m3 cx)) (by simp)
    obtain ⟨⟨b0, b1, b2⟩, -⟩ := R1.out.at (r := w.heap.size + 1 + 1) (a := (.slice bl m4 kl)) (b := (.slice bd m5 kd)) (c := (.slice bx m6 kx)) (by simp)
    skip
    obtain ⟨⟨t0, t1, t2⟩, f0, f1, f2⟩ := R1.out.at (r := w.heap.size + 1 + 1 + 1) (a := nilV) (b := nilV) (c := nilV) (by simp)
    go_wp2
    refine bodyPost_ret (v := .tuple #[tenV nilV nilV nilV, .bool false]) (by simp [results, Try.results19, go_sem, t0, t1, t2]) rfl ?_
    exact NewTen2.nils (R1.out.set3 _ _ _).bel
  | true =>
    cases tu with
    | false =>
      obtain rfl : bo = false := by rw [HBO.out]; rfl
      obtain rfl : fb = false := by rw [HFB.out]; rfl
      simp only [Bool.false_eq_true, if_false]
      go_enter Try.func19, Try.ntmps19
      go_wp2_with fail
      refine (OKA.out _ R0.out.bel).mono ?_
      clear r0 r1 r2 s0 s1 s2 b0 b1 b2
      rintro e w1 ⟨rfl, hb⟩
      have R1 := Lib.hid (R0.out.step hb)
      clear hb
      obtain ⟨⟨r0, r1, r2⟩, -⟩ := R1.out.at (r := w.heap.size) (a := .int .i64 k) (b := .int .i64 p) (c := .int .i64 q) (by simp)
      obtain ⟨⟨s0, s1, s2⟩, -⟩ := R1.out.at (r := w.heap.size + 1) (a := (.slice al m1 cl)) (b := (.slice ad m2 cd)) (c := (.slice ax m3 cx)) (by simp)
      obtain ⟨⟨b0, b1, b2⟩, -⟩ := R1.out.at (r := w.heap.size + 1 + 1) (a := (.slice bl m4 kl)) (b := (.slice bd m5 kd)) (c := (.slice bx m6 kx)) (by simp)
      go_wp2_with fail
      refine (OKU.out _ R1.out.bel).mono ?_
      clear r0 r1 r2 s0 s1 s2 b0 b1 b2
      rintro e w2 ⟨rfl, hb⟩
      have R2 := Lib.hid (R1.out.step hb)
      clear hb
      obtain ⟨⟨r0, r1, r2⟩, -⟩ := R2.out.at (r := w.heap.size) (a := .int .i64 k) (b := .int .i64 p) (c := .int .i64 q) (by simp)
      obtain ⟨⟨s0, s1, s2⟩, -⟩ := R2.out.at (r := w.heap.size + 1) (a := (.slice al m1 cl)) (b := (.slice ad m2 cd)) (c := (.slice ax m3 cx)) (by simp)
      obtain ⟨⟨b0, b1, b2⟩, -⟩ := R2.out.at (r := w.heap.size + 1 + 1) (a := (.slice bl m4 kl)) (b := (.slice bd m5 kd)) (c := (.slice bx m6 kx)) (by simp)
      skip
      obtain ⟨⟨t0, t1, t2⟩, f0, f1, f2⟩ := R2.out.at (r := w.heap.size + 1 + 1 + 1) (a := nilV) (b := nilV) (c := nilV) (by simp)
      go_wp2
      refine bodyPost_ret (v := .tuple #[tenV nilV nilV nilV, .bool false]) (by simp [results, Try.results19, go_sem, t0, t1, t2]) rfl ?_
      exact NewTen2.nils (R2.out.set3 _ _ _).bel
    | true =>
      cases sb with
      | false =>
        obtain rfl : bo = false := by rw [HBO.out]; rfl
        obtain rfl : fb = false := by rw [HFB.out]; rfl
        simp only [Bool.false_eq_true, if_false]
        go_enter Try.func19, Try.ntmps19
        go_wp2_with fail
        refine (OKA.out _ R0.out.bel).mono ?_
        clear r0 r1 r2 s0 s1 s2 b0 b1 b2
        rintro e w1 ⟨rfl, hb⟩
        have R1 := Lib.hid (R0.out.step hb)
        clear hb
        obtain ⟨⟨r0, r1, r2⟩, -⟩ := R1.out.at (r := w.heap.size) (a := .int .i64 k) (b := .int .i64 p) (c := .int .i64 q) (by simp)
        obtain ⟨⟨s0, s1, s2⟩, -⟩ := R1.out.at (r := w.heap.size + 1) (a := (.slice al m1 cl)) (b := (.slice ad m2 cd)) (c := (.slice ax m3 cx)) (by simp)
        obtain ⟨⟨b0, b1, b2⟩, -⟩ := R1.out.at (r := w.heap.size + 1 + 1) (a := (.slice bl m4 kl)) (b := (.slice bd m5 kd)) (c := (.slice bx m6 kx)) (by simp)
        go_wp2_with fail
        refine (OKU.out _ R1.out.bel).mono ?_
        clear r0 r1 r2 s0 s1 s2 b0 b1 b2
        rintro e w2 ⟨rfl, hb⟩
        have R2 := Lib.hid (R1.out.step hb)
        clear hb
        obtain ⟨⟨r0, r1, r2⟩, -⟩ := R2.out.at (r := w.heap.size) (a := .int .i64 k) (b := .int .i64 p) (c := .int .i64 q) (by simp)
        obtain ⟨⟨s0, s1, s2⟩, -⟩ := R2.out.at (r := w.heap.size + 1) (a := (.slice al m1 cl)) (b := (.slice ad m2 cd)) (c := (.slice ax m3 cx)) (by simp)
        obtain ⟨⟨b0, b1, b2⟩, -⟩ := R2.out.at (r := w.heap.size + 1 + 1) (a := (.slice bl m4 kl)) (b := (.slice bd m5 kd)) (c := (.slice bx m6 kx)) (by simp)
        go_wp2_with fail
        refine (HSE.out _ R2.out.bel).mono ?_
        rintro e w3 ⟨rfl, rfl⟩
        skip
        obtain ⟨⟨t0, t1, t2⟩, f0, f1, f2⟩ := R2.out.at (r := w.heap.size + 1 + 1 + 1) (a := nilV) (b := nilV) (c := nilV) (by simp)
        go_wp2
        refine bodyPost_ret (v := .tuple #[tenV nilV nilV nilV, .bool false]) (by simp [results, Try.results19, go_sem, t0, t1, t2]) rfl ?_
        exact NewTen2.nils (R2.out.set3 _ _ _).bel
      | true =>
        obtain rfl : bo = true := by rw [HBO.out]; rfl
        have HFF : Hid (fb = decide (dimsVia L' D' L = D)) := Lib.hid (by rw [HFB.out]; rfl)
        simp only [if_true]
        have HQ := Lib.hid (fun (w1 : World) (hb : Below w.heap.size w w1) => HPE.out w1 hb HTU.out.symm (set_sym (setV_true.1 HSB.out.symm)))
        have HDL : Hid (permX (widthI k q).toNat L' D' X' L (prodL D').toNat = permDataL k q L' D' X' L) := Lib.hid rfl
        rw [HDL.out] at HQ
        clear HPE
        have HDV : Hid ((dimsVia L' D' L).length ≤ 281474976710656) := Lib.hid (by rw [dimsVia_len]; exact HLN.out.1.l)
        obtain ⟨sd, hsd⟩ : ∃ l, l = dimsVia L' D' L := ⟨_, rfl⟩
        obtain ⟨sx, hsx⟩ : ∃ l, l = permDataL k q L' D' X' L := ⟨_, rfl⟩
        rw [← hsd] at HFF HDV HQ
        rw [← hsx] at HQ
        rw [← hsd, ← hsx]
        clear hsd hsx HDL HFB
        go_enter Try.func19, Try.ntmps19
        go_wp2_with fail
        refine (OKA.out _ R0.out.bel).mono ?_
        clear r0 r1 r2 s0 s1 s2 b0 b1 b2
        rintro e w1 ⟨rfl, hb⟩
        have R1 := Lib.hid (R0.out.step hb)
        clear hb
        obtain ⟨⟨r0, r1, r2⟩, -⟩ := R1.out.at (r := w.heap.size) (a := .int .i64 k) (b := .int .i64 p) (c := .int .i64 q) (by simp)
        obtain ⟨⟨s0, s1, s2⟩, -⟩ := R1.out.at (r := w.heap.size + 1) (a := (.slice al m1 cl)) (b := (.slice ad m2 cd)) (c := (.slice ax m3 cx)) (by simp)
        obtain ⟨⟨b0, b1, b2⟩, -⟩ := R1.out.at (r := w.heap.size + 1 + 1) (a := (.slice bl m4 kl)) (b := (.slice bd m5 kd)) (c := (.slice bx m6 kx)) (by simp)
        go_wp2_with fail
        refine (OKU.out _ R1.out.bel).mono ?_
        clear r0 r1 r2 s0 s1 s2 b0 b1 b2
        rintro e w2 ⟨rfl, hb⟩
        have R2 := Lib.hid (R1.out.step hb)
        clear hb
        obtain ⟨⟨r0, r1, r2⟩, -⟩ := R2.out.at (r := w.heap.size) (a := .int .i64 k) (b := .int .i64 p) (c := .int .i64 q) (by simp)
        obtain ⟨⟨s0, s1, s2⟩, -⟩ := R2.out.at (r := w.heap.size + 1) (a := (.slice al m1 cl)) (b := (.slice ad m2 cd)) (c := (.slice ax m3 cx)) (by simp)
        obtain ⟨⟨b0, b1, b2⟩, -⟩ := R2.out.at (r := w.heap.size + 1 + 1) (a := (.slice bl m4 kl)) (b := (.slice bd m5 kd)) (c := (.slice bx m6 kx)) (by simp)
        go_wp2_with fail
        refine (HSE.out _ R2.out.bel).mono ?_
        rintro e w3 ⟨rfl, rfl⟩
        go_wp2_with fail
        refine (HQ.out _ R2.out.bel).mono ?_
        clear r0 r1 r2 s0 s1 s2 b0 b1 b2
        rintro e w4 ⟨v1, v2, v3, rfl, ho, hb⟩
        have R3 := Lib.hid (R2.out.new3 hb ho)
        obtain ⟨g1, j1, rfl, -⟩ := ints_form ho.rows.1.rd
        obtain ⟨g2, j2, rfl, -⟩ := ints_form ho.rows.2.1.rd
        obtain ⟨g3, j3, rfl, -⟩ := ints_form ho.rows.2.2.rd
        clear ho hb
        obtain ⟨o1, ho1⟩ : ∃ m, m = L.length := ⟨_, rfl⟩
        obtain ⟨o2, ho2⟩ : ∃ m, m = sd.length := ⟨_, rfl⟩
        obtain ⟨o3, ho3⟩ : ∃ m, m = sx.length := ⟨_, rfl⟩
        rw [← ho1, ← ho2, ← ho3] at R3 ⊢
        clear ho1 ho2 ho3
        have R4 := Lib.hid (R3.out.box (.slice g1 o1 j1) (.slice g2 o2 j2) (.slice g3 o3 j3) 28)
        have R5 := Lib.hid R4.out.drew
        have HEQ := Lib.hid (equal_spec (R5.out.rd (v := .slice g2 o2 j2) (xs := sd) (by simp)) (HA.out.below R5.out.bel HB.out.1).d HDV.out HLN.out.1.d)
        rw [← HFF.out] at HEQ
        obtain ⟨⟨s0, s1, s2⟩, -⟩ := R4.out.at (r := w.heap.size + 1) (a := (.slice al m1 cl)) (b := (.slice ad m2 cd)) (c := (.slice ax m3 cx)) (by simp)
        obtain ⟨⟨u0, u1, u2⟩, -⟩ := R4.out.at (r := w4.heap.size) (a := (.slice g1 o1 j1)) (b := (.slice g2 o2 j2)) (c := (.slice g3 o3 j3)) (by simp)
        go_wp2
        clear s0 s1 s2 u0 u1 u2
        obtain ⟨⟨s0, s1, s2⟩, -⟩ := R5.out.at (r := w.heap.size + 1) (a := (.slice al m1 cl)) (b := (.slice ad m2 cd)) (c := (.slice ax m3 cx)) (by simp)
        obtain ⟨⟨u0, u1, u2⟩, -⟩ := R5.out.at (r := w4.heap.size) (a := (.slice g1 o1 j1)) (b := (.slice g2 o2 j2)) (c := (.slice g3 o3 j3)) (by simp)
        obtain ⟨⟨p0, p1, p2⟩, q0, q1, q2⟩ := R4.out.at (r := w.heap.size + 1 + 1 + 1) (a := nilV) (b := nilV) (c := nilV) (by simp)
        obtain ⟨⟨t0, t1, t2⟩, f0, f1, f2⟩ := R5.out.at (r := w.heap.size + 1 + 1 + 1) (a := nilV) (b := nilV) (c := nilV) (by simp)
        have R6 := Lib.hid ((R4.out.swapB.set3 (.slice g1 o1 j1) (.slice g2 o2 j2) (.slice g3 o3 j3)).drew)
        obtain ⟨⟨x0, x1, x2⟩, -⟩ := R6.out.at (r := w.heap.size + 1) (a := (.slice al m1 cl)) (b := (.slice ad m2 cd)) (c := (.slice ax m3 cx)) (by simp)
        obtain ⟨⟨y0, y1, y2⟩, -⟩ := R6.out.at (r := w4.heap.size) (a := (.slice g1 o1 j1)) (b := (.slice g2 o2 j2)) (c := (.slice g3 o3 j3)) (by simp)
        refine wp_region_held_drew (S := (fun w' => (w'.cell? ⟨w.heap.size + 1, 0, none⟩ = some (.slice al m1 cl) ∧ w'.cell? ⟨w.heap.size + 1, 1, none⟩ = some (.slice ad m2 cd) ∧ w'.cell? ⟨w.heap.size + 1, 2, none⟩ = some (.slice ax m3 cx)) ∧ (w'.cell? ⟨w4.heap.size, 0, none⟩ = some (.slice g1 o1 j1) ∧ w'.cell? ⟨w4.heap.size, 1, none⟩ = some (.slice g2 o2 j2) ∧ w'.cell? ⟨w4.heap.size, 2, none⟩ = some (.slice g3 o3 j3)))) (by kernel_rfl) (by (try dsimp only); first | with_reducible exact ⟨⟨s0, s1, s2⟩, ⟨u0, u1, u2⟩⟩ | with_reducible exact ⟨⟨x0, x1, x2⟩, ⟨y0, y1, y2⟩⟩) (fun hHeld => ?_)
        refine wpAnyH_take (i := 0) (v := ?_) rfl (by kernel_rfl) (by kernel_rfl) (by kernel_rfl) (fun _ _ _ h => h) (Or.inl ⟨by rfl, ?_⟩) (by assumption) ?_
        rotate_left
        · intro w hSw; (try dsimp only at hSw); go_simp <;> with_reducible rfl
        try simp only [Act.put, List.getElem_toArray, List.getElem_cons_zero, List.setIfInBounds_toArray, List.set_cons_zero, List.set_cons_succ]
        refine wpAnyH_take (i := 1) (v := ?_) rfl (by kernel_rfl) (by kernel_rfl) (by kernel_rfl) (fun _ _ _ h => h) (Or.inl ⟨by rfl, ?_⟩) (by assumption) ?_
        rotate_left
        · intro w hSw; (try dsimp only at hSw); go_simp <;> with_reducible rfl
        try simp only [Act.put, List.getElem_toArray, List.getElem_cons_succ, List.getElem_cons_zero, List.setIfInBounds_toArray, List.set_cons_zero, List.set_cons_succ]
        refine wpAnyH_take (i := 2) (v := ?_) rfl (by kernel_rfl) (by kernel_rfl) (by kernel_rfl) (fun _ _ _ h => h) (Or.inl ⟨by rfl, ?_⟩) (by assumption) ?_
        rotate_left
        · intro w hSw; (try dsimp only at hSw); go_simp <;> with_reducible rfl
        try simp only [Act.put, List.getElem_toArray, List.getElem_cons_succ, List.getElem_cons_zero, List.setIfInBounds_toArray, List.set_cons_zero, List.set_cons_succ]
        refine wpAnyH_take (i := 3) (v := ?_) rfl (by kernel_rfl) (by kernel_rfl) (by kernel_rfl) (fun _ _ _ h => h) (Or.inl ⟨by rfl, ?_⟩) (by assumption) ?_
        rotate_left
        · intro w hSw; (try dsimp only at hSw); go_simp <;> with_reducible rfl
        try simp only [Act.put, List.getElem_toArray, List.getElem_cons_succ, List.getElem_cons_zero, List.setIfInBounds_toArray, List.set_cons_zero, List.set_cons_succ]
        refine wpAnyH_take (i := 4) (v := ?_) rfl (by kernel_rfl) (by kernel_rfl) (by kernel_rfl) (fun _ _ _ h => h) (Or.inl ⟨by rfl, ?_⟩) (by assumption) ?_
        rotate_left
        · intro w hSw; (try dsimp only at hSw); go_simp <;> with_reducible rfl
        try simp only [Act.put, List.getElem_toArray, List.getElem_cons_succ, List.getElem_cons_zero, List.setIfInBounds_toArray, List.set_cons_zero, List.set_cons_succ]
        refine wpAnyH_ready (rs := [5]) (by kernel_rfl) (by simp) ?_
        refine AllReadyH.cons rfl (fun K hK => ?_) AllReadyH.nil
        go_simp
        (go_at_call 39; refine HEQ.out.mono ?_; rintro e w5 ⟨rfl, rfl⟩)
        go_wp2_with fail
        refine hK.out _ _ (by (try dsimp only); first | with_reducible exact ⟨⟨s0, s1, s2⟩, ⟨u0, u1, u2⟩⟩ | with_reducible exact ⟨⟨x0, x1, x2⟩, ⟨y0, y1, y2⟩⟩) (fun hHeld => ?_)
        clear hK K
        try simp only [Act.put, List.getElem_toArray, List.getElem_cons_succ, List.getElem_cons_zero, List.setIfInBounds_toArray, List.set_cons_zero, List.set_cons_succ]
        refine wpAnyH_ready (rs := [6]) (by kernel_rfl) (by simp) ?_
        refine AllReadyH.cons rfl (fun K hK => ?_) AllReadyH.nil
        go_simp
        refine hK.out _ _ (by (try dsimp only); first | with_reducible exact ⟨⟨s0, s1, s2⟩, ⟨u0, u1, u2⟩⟩ | with_reducible exact ⟨⟨x0, x1, x2⟩, ⟨y0, y1, y2⟩⟩) (fun hHeld => ?_)
        clear hK K
        try simp only [Act.put, List.getElem_toArray, List.getElem_cons_succ, List.getElem_cons_zero, List.setIfInBounds_toArray, List.set_cons_zero, List.set_cons_succ]
        refine wpAnyH_take (i := 7) (v := ?_) rfl (by kernel_rfl) (by kernel_rfl) (by kernel_rfl) (fun _ _ _ h => h) (Or.inl ⟨by rfl, ?_⟩) (by assumption) ?_
        rotate_left
        · intro w hSw; (try dsimp only at hSw); go_simp <;> with_reducible rfl
        try simp only [Act.put, List.getElem_toArray, List.getElem_cons_succ, List.getElem_cons_zero, List.setIfInBounds_toArray, List.set_cons_zero, List.set_cons_succ]
        refine wpAnyH_done (by kernel_rfl) ?_ _
        all_goals
          go_wp2
          refine bodyPost_ret (v := .tuple #[tenV (.slice g1 o1 j1) (.slice g2 o2 j2) (.slice g3 o3 j3), .bool fb]) (by simp [results, Try.results19, go_sem, p0, p1, p2]) rfl ?_
          exact ⟨_, _, _, rfl, R6.out.ownG, R6.out.bel⟩
end Go.Proofs.Ytceidekfcnmeaaa
namespace Go.Proofs.Ytceidekfcnmeaaa
set_option maxRecDepth 20000
open Go.RowKit

/-- The data of the sum, or of the product. -/
noncomputable def joinTenL (k p q : Int) (L D X L' D' X' : List Int) (pr : Bool) : List Int := gatherL (joinF k p (widthI k q).toNat X (permDataL k q L' D' X' L) pr) (prodL D).toNat
theorem getL_within {t : Int} {wd n : Nat} {X : List Int} (h : Within t X) : Within t (getL wd X n) := fun x hx => by
  unfold getL at hx
  exact h x (List.mem_of_mem_drop (List.mem_of_mem_take hx))
theorem permX_inside {t : Int} {wd N : Nat} {L D X labels : List Int} (h : Within t X) : Within t (permX wd L D X labels N) := fun x hx => by
  unfold permX at hx
  obtain ⟨n, -, hn⟩ := List.mem_flatMap.1 hx
  exact getL_within h x hn
theorem both_parts {k p q : Int} {L D X L' D' X' : List Int} (h : fitB k p q L D X L' D' X' = true) : tensorB k p q L D X = true ∧ tensorB k p q L' D' X' = true ∧ SetV L' L ∧ dimsVia L' D' L = D := by
  unfold fitB bothB at h
  simp only [Bool.and_eq_true, decide_eq_true_eq] at h
  obtain ⟨⟨h1, h2, h3⟩, h4⟩ := h
  exact ⟨h1, h2, set_sym (setV_true.1 h3), h4⟩
/-- What the join asks. -/
theorem fit_facts {k p q : Int} {L D X L' D' X' : List Int} (h : fitB k p q L D X L' D' X' = true) : PF k p q L D X L L.length (widthI k q).toNat (prodL D).toNat ∧ (permDataL k q L' D' X' L).length = X.length ∧ Within (topI k p q) X ∧ Within (topI k p q) (permDataL k q L' D' X' L) := by
  obtain ⟨h1, h2, h3, h4⟩ := both_parts h
  have hp := PF.of h1 (setV_perm (List.Perm.refl L) (tensor_axes h1).2.2.2.2)
  have hq := PF.of h2 h3
  refine ⟨hp, ?_, (tensorB_inv h1).2.2.2, permX_inside (tensorB_inv h2).2.2.2⟩
  unfold permDataL
  rw [hq.len, hp.lX]
  congr 1
  have e1 := hq.dims.2.1
  rw [h4] at e1
  rw [e1, Int.toNat_natCast]
end Go.Proofs.Ytceidekfcnmeaaa
