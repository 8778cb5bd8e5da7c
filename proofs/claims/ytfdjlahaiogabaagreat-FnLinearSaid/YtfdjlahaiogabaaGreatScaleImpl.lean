
/- impl.ScaleTensor. -/
import Derived.Test.YtfdjlahaiogabaaGreatAddImpl
import Derived.Test.YtfdjlahaiogabaaGreatFill
import Derived.Test.YtfdjlahaiogabaaGreatAddSpec
import Derived.Test.YtfdjlahaiogabaaGreatTenOkImpl
namespace Go.Proofs.YtfdjlahaiogabaaGreat
set_option maxRecDepth 20000
open Go.RowKit

theorem scaleF_elem {k p q : Int} {x X : List Int} {wd N i : Nat} (hr : ringB k p q = true) (hw : widthI k q = (wd : Int)) (hx : ElemV k p q x) (hX : X.length = N * wd) (wX : Within (topI k p q) X) (hi : i < N) : ElemV k p q (scaleF k p wd x X i) := timesL_elem hr hx (getL_elem hw hX wX hi)
theorem holds_single (k p n : Int) (xs : List Int) (h : ringB k p n = true) : holdsB k p n [xs] = elemB k p n xs := by simp [holdsB, h]
set_option maxHeartbeats 6400000 in
theorem scale_fn {B br bx bt : Nat} {lv dv xv gv : Value} {k p q : Int} {L D X x : List Int} {wd N j : Nat} {w : World} (hc : br < w.heap.size ∧ bx < w.heap.size ∧ bt < w.heap.size) (hcells : (w.cell? ⟨br, 0, none⟩ = some (.int .i64 k) ∧ w.cell? ⟨br, 1, none⟩ = some (.int .i64 p) ∧ w.cell? ⟨br, 2, none⟩ = some (.int .i64 q) ∧ w.cell? ⟨bx, 0, none⟩ = some gv ∧ w.cell? ⟨bt, 0, none⟩ = some lv ∧ w.cell? ⟨bt, 1, none⟩ = some dv ∧ w.cell? ⟨bt, 2, none⟩ = some xv)) (ha : RdT B w lv dv xv L D X) (hg : Rd B w gv (ints x)) (hB : B ≤ w.heap.size) (hr : ringB k p q = true) (hx : ElemV k p q x) (hw : widthI k q = (wd : Int)) (hw1 : 1 ≤ wd) (hw2 : wd ≤ 6) (hN : N ≤ 4096) (hX : X.length = N * wd) (wX : Within (topI k p q) X) (hj : j < N) :
    Calls Tryz.prog 54 #[.int .i64 j, .pointer (some ⟨br, 0, none⟩), .pointer (some ⟨bx, 0, none⟩), .pointer (some ⟨bt, 0, none⟩)] w (NewRow w (scaleF k p wd x X j)) := by
  have hjj := Nat.mul_le_mul_right wd (show j + 1 ≤ N by omega)
  rw [Nat.add_mul, Nat.one_mul] at hjj
  have HY := Lib.hid (getL_elem hw hX wX hj)
  have HX := Lib.hid hx
  have HR := Lib.hid hr
  have HBB := Lib.hid hB
  have HG := Lib.hid (fun (W : World) (hb : Below w.heap.size w W) => hg.below hb hB)
  have HE1 := Lib.hid (fun (W : World) (hb : Below w.heap.size w W) => elem_rd (k := k) (p := p) (q := q) wd j (ha.below hb hB) (Nat.le_trans hB hb.size) hw hw1 hw2 (by omega) (by rw [hX]; exact hjj))
  have HC : Hid (∀ W, Below w.heap.size w W → (W.cell? ⟨br, 0, none⟩ = some (.int .i64 k) ∧ W.cell? ⟨br, 1, none⟩ = some (.int .i64 p) ∧ W.cell? ⟨br, 2, none⟩ = some (.int .i64 q) ∧ W.cell? ⟨bx, 0, none⟩ = some gv ∧ W.cell? ⟨bt, 0, none⟩ = some lv ∧ W.cell? ⟨bt, 1, none⟩ = some dv ∧ W.cell? ⟨bt, 2, none⟩ = some xv)) := Lib.hid (fun W hb => by
    obtain ⟨l1, l2, l3⟩ := hc
    obtain ⟨r0, r1, r2, x0, s0, s1, s2⟩ := hcells
    exact ⟨(hb.cell (p := ⟨br, 0, none⟩) l1).trans r0, (hb.cell (p := ⟨br, 1, none⟩) l1).trans r1, (hb.cell (p := ⟨br, 2, none⟩) l1).trans r2, (hb.cell (p := ⟨bx, 0, none⟩) l2).trans x0, (hb.cell (p := ⟨bt, 0, none⟩) l3).trans s0, (hb.cell (p := ⟨bt, 1, none⟩) l3).trans s1, (hb.cell (p := ⟨bt, 2, none⟩) l3).trans s2⟩)
  have HRES : Hid (scaleF k p wd x X j = timesL k p x (getL wd X j)) := Lib.hid rfl
  rw [HRES.out]
  obtain ⟨y, hy⟩ : ∃ y, y = getL wd X j := ⟨_, rfl⟩
  rw [← hy] at HY HE1 ⊢
  clear hc hcells ha hg hB hr hw hw1 hw2 hN hX wX hj hjj hx hy HRES
  have HB1 := Lib.hid ((Below.refl w.heap.size w).drew)
  obtain ⟨r0, r1, r2, x0, s0, s1, s2⟩ := HC.out _ HB1.out
  go_enter Tryz.func54, Tryz.ntmps54
  go_wp2
  go_region_held3 (fun W => (W.cell? ⟨br, 0, none⟩ = some (.int .i64 k) ∧ W.cell? ⟨br, 1, none⟩ = some (.int .i64 p) ∧ W.cell? ⟨br, 2, none⟩ = some (.int .i64 q) ∧ W.cell? ⟨bx, 0, none⟩ = some gv ∧ W.cell? ⟨bt, 0, none⟩ = some lv ∧ W.cell? ⟨bt, 1, none⟩ = some dv ∧ W.cell? ⟨bt, 2, none⟩ = some xv)) (exact ⟨r0, r1, r2, x0, s0, s1, s2⟩) (first
    | (go_at_call 42; refine (HE1.out _ HB1.out).mono ?_; rintro e w2 ⟨v1, rfl, hv, hb⟩; have RY := Lib.hid hv; have HB2 := Lib.hid (HB1.out.trans (hb.mono HB1.out.size)); clear hv hb r0 r1 r2 x0 s0 s1 s2; obtain ⟨r0, r1, r2, x0, s0, s1, s2⟩ := HC.out _ HB2.out)
    | (go_at_call 55; refine (times_impl HR.out (HG.out _ HB2.out) RY.out (Nat.le_trans HBB.out HB2.out.size) HX.out HY.out).mono ?_; rintro e w4 ⟨v3, rfl, ho, hb⟩; have HO := Lib.hid ((OwnG.one ho).wide HB2.out.size (Nat.le_refl _) (Nat.le_refl _)).row; have HB4 := Lib.hid (HB2.out.trans (hb.mono HB2.out.size)); clear ho hb r0 r1 r2 x0 s0 s1 s2; obtain ⟨r0, r1, r2, x0, s0, s1, s2⟩ := HC.out _ HB4.out))
  clear r0 r1 r2 x0 s0 s1 s2
  go_wp2
  go_ret
  exact ⟨_, rfl, HO.out, HB4.out⟩
set_option maxHeartbeats 6400000 in
theorem scale_tensor_impl {B : Nat} {lv dv xv gv : Value} {k p q : Int} {L D X x : List Int} {w : World} (h : RdT B w lv dv xv L D X) (hg : Rd B w gv (ints x)) (hB : B ≤ w.heap.size) (hn : LenT L D X) (hng : x.length ≤ 281474976710656) (hI : allI L) :
    Calls Tryz.prog 19 #[ringV k p q, tenV lv dv xv, gv] w (NewTen w (if scaleB k p q L D X x = true then L else []) (if scaleB k p q L D X x = true then D else []) (if scaleB k p q L D X x = true then scaleTenL k p q D X x else [])) := by
  have hmf : ∀ (fn : Fn) (first cap : Array Value) (w : World), (Instr.makeFunc fn first cap).run Tryz.prog w = .ok (.func fn first cap) w := fun _ _ _ _ => rfl
  have HA : Hid (RdT w.heap.size w lv dv xv L D X) := Lib.hid ⟨h.l.mono hB, h.d.mono hB, h.x.mono hB⟩
  have HG : Hid (Rd w.heap.size w gv (ints x)) := Lib.hid (hg.mono hB)
  have HN := Lib.hid hn
  have HI := Lib.hid hI
  obtain ⟨al, cl, rfl, -⟩ := ints_form h.l
  obtain ⟨ad, cd, rfl, -⟩ := ints_form h.d
  obtain ⟨ax, cx, rfl, -⟩ := ints_form h.x
  obtain ⟨ag, cg, rfl, -⟩ := ints_form hg
  obtain ⟨m1, hm1⟩ : ∃ m, m = L.length := ⟨_, rfl⟩
  obtain ⟨m2, hm2⟩ : ∃ m, m = D.length := ⟨_, rfl⟩
  obtain ⟨m3, hm3⟩ : ∃ m, m = X.length := ⟨_, rfl⟩
  obtain ⟨m4, hm4⟩ : ∃ m, m = x.length := ⟨_, rfl⟩
  rw [← hm1, ← hm2, ← hm3] at HA ⊢
  rw [← hm4] at HG ⊢
  have R0 : Hid (Rs w ((((w.alloc (.cells #[.int .i64 k, .int .i64 p, .int .i64 q] 24)).alloc (.cells #[.slice al m1 cl, .slice ad m2 cd, .slice ax m3 cx] 28)).alloc (.cells #[.slice ag m4 cg] 26)).alloc (.cells #[nilV, nilV, nilV] 28)) [(w.heap.size + 1 + 1 + 1, nilV, nilV, nilV), (w.heap.size + 1, .slice al m1 cl, .slice ad m2 cd, .slice ax m3 cx), (w.heap.size, .int .i64 k, .int .i64 p, .int .i64 q)] []) := by
    have h := ((((Rs.start w).box (.int .i64 k) (.int .i64 p) (.int .i64 q) 24).box (.slice al m1 cl) (.slice ad m2 cd) (.slice ax m3 cx) 28).alloc (.cells #[.slice ag m4 cg] 26)).box nilV nilV nilV 28
    simp only [World.size_alloc] at h
    exact h
  have FC0 : Hid (((((w.alloc (.cells #[.int .i64 k, .int .i64 p, .int .i64 q] 24)).alloc (.cells #[.slice al m1 cl, .slice ad m2 cd, .slice ax m3 cx] 28)).alloc (.cells #[.slice ag m4 cg] 26)).alloc (.cells #[nilV, nilV, nilV] 28)).cell? ⟨w.heap.size + 1 + 1, 0, none⟩ = some (.slice ag m4 cg)) := by
    show _ = _
    rw [World.cell?_alloc_past _ _ _ (by simp), World.cell?_alloc_at _ _ _ _ (by simp)]; rfl
  have OKA := Lib.hid (tensor_ok_impl (k := k) (p := p) (n := q) (HA.out.below R0.out.bel (Nat.le_refl _)) R0.out.bel.size hn hI)
  have HEO := Lib.hid (fun (hr : ringB k p q = true) (w1 : World) (hb : Below w.heap.size w w1) => by
    have h := holds_impl (k := k) (p := p) (n := q) (rows := [x]) (RdRows.one (B := w.heap.size) (b := w1.heap.size) (HG.out.below (hb.alloc hb.size (.cells #[.slice ag m4 cg] 26)) (Nat.le_refl _)) hb.size (by simp [World.cell?_alloc_at])) (by simp) (by simp) (by simpa using hng)
    rw [holds_single _ _ _ _ hr] at h
    exact h)
  obtain ⟨ta, hta⟩ : ∃ b, b = tensorB k p q L D X := ⟨_, rfl⟩
  obtain ⟨eb, heb⟩ : ∃ b, b = elemB k p q x := ⟨_, rfl⟩
  obtain ⟨fb, hfb⟩ : ∃ b, b = scaleB k p q L D X x := ⟨_, rfl⟩
  have HFB : Hid (fb = (ta && eb)) := Lib.hid (by rw [hfb, hta, heb]; rfl)
  have HTA := Lib.hid hta
  have HEB := Lib.hid heb
  rw [← hta] at OKA
  rw [← heb] at HEO
  rw [← hfb]
  obtain ⟨zl, hzl⟩ : ∃ l, l = (if fb = true then L else []) := ⟨_, rfl⟩
  obtain ⟨zd, hzd⟩ : ∃ l, l = (if fb = true then D else []) := ⟨_, rfl⟩
  obtain ⟨zx, hzx⟩ : ∃ l, l = (if fb = true then scaleTenL k p q D X x else []) := ⟨_, rfl⟩
  have HNO : Hid (fb = false → zl = [] ∧ zd = [] ∧ zx = []) := Lib.hid (fun h => by subst h; exact ⟨hzl, hzd, hzx⟩)
  have HYES : Hid (fb = true → zl = L ∧ zd = D ∧ zx = scaleTenL k p q D X x) := Lib.hid (fun h => by subst h; exact ⟨hzl, hzd, hzx⟩)
  rw [← hzl, ← hzd, ← hzx]
  clear hzl hzd hzx
  clear h hg hB hn hng hI hm1 hm2 hm3 hm4 hta heb hfb
  obtain ⟨⟨r0, r1, r2⟩, -⟩ := R0.out.at (r := w.heap.size) (a := .int .i64 k) (b := .int .i64 p) (c := .int .i64 q) (by simp)
  obtain ⟨⟨s0, s1, s2⟩, -⟩ := R0.out.at (r := w.heap.size + 1) (a := .slice al m1 cl) (b := .slice ad m2 cd) (c := .slice ax m3 cx) (by simp)
  have x0 := FC0.out
  cases ta with
  | false =>
    obtain rfl : fb = false := HFB.out
    obtain ⟨rfl, rfl, rfl⟩ := HNO.out rfl
    go_enter Tryz.func19, Tryz.ntmps19
    go_wp2_with fail
    refine OKA.out.mono ?_
    clear r0 r1 r2 s0 s1 s2 x0
    rintro e w1 ⟨rfl, hb⟩
    have R1 := Lib.hid (R0.out.step hb)
    clear hb
    obtain ⟨⟨t0, t1, t2⟩, f0, f1, f2⟩ := R1.out.at (r := w.heap.size + 1 + 1 + 1) (a := nilV) (b := nilV) (c := nilV) (by simp)
    go_wp2
    refine bodyPost_ret (v := tenV nilV nilV nilV) (by simp [results, Tryz.results19, go_sem, t0, t1, t2]) rfl ?_
    exact NewTen.nils (((R1.out.bel.setCell (by simp; omega) _).setCell (by simp; omega) _).setCell (by simp; omega) _)
  | true =>
    have HEQ := Lib.hid (HEO.out (tensorB_inv HTA.out.symm).1)
    clear HEO
    go_enter Tryz.func19, Tryz.ntmps19
    go_wp2_with fail
    refine OKA.out.mono ?_
    clear r0 r1 r2 s0 s1 s2 x0
    rintro e w1 ⟨rfl, hb⟩
    have R1 := Lib.hid (R0.out.step hb)
    have FC1 := Lib.hid ((hb.cell (p := ⟨w.heap.size + 1 + 1, 0, none⟩) (by simp)).trans FC0.out)
    clear hb
    obtain ⟨⟨r0, r1, r2⟩, -⟩ := R1.out.at (r := w.heap.size) (a := .int .i64 k) (b := .int .i64 p) (c := .int .i64 q) (by simp)
    obtain ⟨⟨s0, s1, s2⟩, -⟩ := R1.out.at (r := w.heap.size + 1) (a := .slice al m1 cl) (b := .slice ad m2 cd) (c := .slice ax m3 cx) (by simp)
    have x0 := FC1.out
    go_wp2_with fail
    refine (HEQ.out _ R1.out.bel).mono ?_
    clear r0 r1 r2 s0 s1 s2 x0
    rintro e w2 ⟨rfl, hb⟩
    have R2 := Lib.hid ((R1.out.alloc _).step hb)
    have FC2 := Lib.hid ((((Below.refl _ _).alloc (Nat.le_refl _) _).trans (hb.mono (by simp))).cell (p := ⟨w.heap.size + 1 + 1, 0, none⟩) (by have := (R1.out.bx (w.heap.size + 1 + 1 + 1, nilV, nilV, nilV) (by simp)).lt; simp at this ⊢; omega) |>.trans FC1.out)
    clear hb
    cases eb with
    | false =>
      obtain rfl : fb = false := HFB.out
      obtain ⟨rfl, rfl, rfl⟩ := HNO.out rfl
      obtain ⟨⟨t0, t1, t2⟩, f0, f1, f2⟩ := R2.out.at (r := w.heap.size + 1 + 1 + 1) (a := nilV) (b := nilV) (c := nilV) (by simp)
      go_wp2
      refine bodyPost_ret (v := tenV nilV nilV nilV) (by simp [results, Tryz.results19, go_sem, t0, t1, t2]) rfl ?_
      exact NewTen.nils (((R2.out.bel.setCell (by simp; omega) _).setCell (by simp; omega) _).setCell (by simp; omega) _)
    | true =>
      obtain rfl : fb = true := HFB.out
      have HY3 := Lib.hid (HYES.out (by simp))
      have htb := HTA.out.symm
      have hp := PF.of htb (setV_perm (List.Perm.refl L) (tensor_axes htb).2.2.2.2)
      have hwx := (tensorB_inv htb).2.2.2
      have hrb := (tensorB_inv htb).1
      have hx1 := hp.lX
      have hex : ElemV k p q x := elemB_true.1 HEB.out.symm
      have hjt : scaleTenL k p q D X x = gatherL (scaleF k p (widthI k q).toNat x X) (prodL D).toNat := rfl
      obtain ⟨wd, hwd⟩ : ∃ n, n = (widthI k q).toNat := ⟨_, rfl⟩
      rw [← hwd] at hp hx1 hjt
      have hs := tensorB_prod htb
      have HCM := Lib.hid (fun (j : Nat) (W : World) (hj : j < (prodL D).toNat) (hb : Below w2.heap.size w2 W) => scale_fn (B := w2.heap.size) (br := w.heap.size) (bx := w.heap.size + 1 + 1) (bt := w.heap.size + 1) (lv := .slice al m1 cl) (dv := .slice ad m2 cd) (xv := .slice ax m3 cx) (gv := .slice ag m4 cg) (k := k) (p := p) (q := q) (L := L) (D := D) (X := X) (x := x) (wd := wd) (N := (prodL D).toNat) (j := j) (w := W)
        (by have := (R2.out.bx (w.heap.size + 1 + 1 + 1, nilV, nilV, nilV) (by simp)).lt; have := hb.size; simp at *; omega)
        (by
          have hl := (R2.out.bx (w.heap.size + 1 + 1 + 1, nilV, nilV, nilV) (by simp)).lt
          have hc : ∀ {b i : Nat} {v : Value}, b < w2.heap.size → w2.cell? ⟨b, i, none⟩ = some v → W.cell? ⟨b, i, none⟩ = some v := fun hlt hc => (hb.cell (p := ⟨_, _, none⟩) hlt).trans hc
          have hA := R2.out.bx (w.heap.size + 1, .slice al m1 cl, .slice ad m2 cd, .slice ax m3 cx) (by simp)
          have hR := R2.out.bx (w.heap.size, .int .i64 k, .int .i64 p, .int .i64 q) (by simp)
          exact ⟨hc hR.lt hR.c0, hc hR.lt hR.c1, hc hR.lt hR.c2, hc (by simp at hl; omega) FC2.out, hc hA.lt hA.c0, hc hA.lt hA.c1, hc hA.lt hA.c2⟩)
        (have h := HA.out.below (R2.out.bel.trans (hb.mono R2.out.bel.size)) (Nat.le_refl _); ⟨h.l.mono R2.out.bel.size, h.d.mono R2.out.bel.size, h.x.mono R2.out.bel.size⟩)
        ((HG.out.below (R2.out.bel.trans (hb.mono R2.out.bel.size)) (Nat.le_refl _)).mono R2.out.bel.size)
        hb.size hrb hex hp.hw hp.w6.1 hp.w6.2 hs.2.2 hx1 hwx hj)
      have HFL := Lib.hid (filled_impl3 (k := k) (p := p) (q := q) (K := 54) (wt := wd) (F := scaleF k p wd x X) (HA.out.below R2.out.bel (Nat.le_refl _)) R2.out.bel.size HN.out HI.out htb hp.w6.1 hp.w6.2 (fun _ _ => by kernel_rfl) (fun i hi => by have h1 := (scaleF_elem hrb hp.hw hex hx1 hwx hi).1; have h2 := hp.hw; omega) (fun j W hj hb => HCM.out j W hj hb))
      have HJT := Lib.hid hjt
      clear HCM hp hwx hx1 hex hjt hwd hs hrb htb
      obtain ⟨⟨r0, r1, r2⟩, -⟩ := R2.out.at (r := w.heap.size) (a := .int .i64 k) (b := .int .i64 p) (c := .int .i64 q) (by simp)
      obtain ⟨⟨s0, s1, s2⟩, -⟩ := R2.out.at (r := w.heap.size + 1) (a := .slice al m1 cl) (b := .slice ad m2 cd) (c := .slice ax m3 cx) (by simp)
      have x0 := FC2.out
      go_wp2_with fail
      refine HFL.out.mono ?_
      clear r0 r1 r2 s0 s1 s2 x0
      rintro e w5 ⟨l', d', x', rfl, ho, hb⟩
      have R5 := Lib.hid (R2.out.step hb)
      obtain ⟨a1, c1, rfl, -⟩ := ints_form ho.rows.1.rd
      obtain ⟨a2, c2, rfl, -⟩ := ints_form ho.rows.2.1.rd
      obtain ⟨a3, c3, rfl, -⟩ := ints_form ho.rows.2.2.rd
      have lt1 := (R2.out.bx (w.heap.size + 1 + 1 + 1, nilV, nilV, nilV) (by simp)).lt
      have hz1 := R2.out.bel.size
      obtain ⟨res, hres⟩ : ∃ l, l = gatherL (scaleF k p wd x X) (prodL D).toNat := ⟨_, rfl⟩
      have HZR : Hid (zl = L ∧ zd = D ∧ zx = res) := Lib.hid ⟨HY3.out.1, HY3.out.2.1, by rw [HY3.out.2.2, HJT.out, hres]⟩
      rw [← hres] at ho ⊢
      obtain ⟨q1, hq1⟩ : ∃ m, m = L.length := ⟨_, rfl⟩
      obtain ⟨q2, hq2⟩ : ∃ m, m = D.length := ⟨_, rfl⟩
      obtain ⟨q3, hq3⟩ : ∃ m, m = res.length := ⟨_, rfl⟩
      rw [← hq1, ← hq2, ← hq3] at ho ⊢
      have HO := Lib.hid (ho.set3 lt1 (.slice a1 q1 c1) (.slice a2 q2 c2) (.slice a3 q3 c3))
      clear hb ho hq1 hq2 hq3 hres HFL
      obtain ⟨⟨t0, t1, t2⟩, f0, f1, f2⟩ := R5.out.at (r := w.heap.size + 1 + 1 + 1) (a := nilV) (b := nilV) (c := nilV) (by simp)
      go_wp2
      refine bodyPost_ret (v := tenV (.slice a1 q1 c1) (.slice a2 q2 c2) (.slice a3 q3 c3)) (by simp [results, Tryz.results19, go_sem, t0, t1, t2]) rfl ?_
      rw [← HZR.out.1, ← HZR.out.2.1, ← HZR.out.2.2] at HO
      refine ⟨_, _, _, rfl, ?_, ((R5.out.bel.setCell (by simp; omega) _).setCell (by simp; omega) _).setCell (by simp; omega) _⟩
      exact HO.out.wide hz1 (by simp) (by simp)
end Go.Proofs.YtfdjlahaiogabaaGreat
