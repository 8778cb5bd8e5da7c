
/- spec.ContractPair, spec.SumLabels. -/
import Derived.Test.YtgabcdploeledaaPairSpec
namespace Go.Proofs.Ytgabcdploeledaa
set_option maxRecDepth 20000
open Go.RowKit

noncomputable def pairB (k p q : Int) (L D X L' D' X' keep : List Int) : Bool := tensorB k p q L D X && (tensorB k p q L' D' X' && pfB L D L' D' keep)
theorem pairB_parts {k p q : Int} {L D X L' D' X' keep : List Int} (h : pairB k p q L D X L' D' X' keep = true) : tensorB k p q L D X = true ∧ tensorB k p q L' D' X' = true ∧ FitV L D L' D' ∧ prodL (joinD L D L' D') ≤ 65536 ∧ ¬ sizeI (keepL (joinL L L') keep) (keepD (joinL L L') (joinD L D L' D') keep) < 0 := by
  unfold pairB pfB smallB at h
  simp only [Bool.and_eq_true, decide_eq_true_eq] at h
  obtain ⟨h1, h2, h3, h4, h5⟩ := h
  exact ⟨h1, h2, fitV_true.1 h3, h4, by omega⟩
theorem width_pos {k p q : Int} (h : ringB k p q = true) : ∃ wd : Nat, widthI k q = (wd : Int) ∧ 1 ≤ wd ∧ wd ≤ 6 := by
  have h1 := ring_width h
  exact ⟨(widthI k q).toNat, by omega, by omega, by omega⟩
theorem pairL_len {k p q : Int} {L D X L' D' X' keep : List Int} {wd N1 N2 : Nat} (hr : ringB k p q = true) (hw : widthI k q = (wd : Int)) (hw6 : wd ≤ 6) (fa : TenF k p q L D X wd N1) (fb : TenF k p q L' D' X' wd N2) (hf : FitV L D L' D') (hK : ¬ sizeI (keepL (joinL L L') keep) (keepD (joinL L L') (joinD L D L' D') keep) < 0) : (pairL k p q L D X L' D' X' keep).length ≤ 24576 := by
  have HJA := joinD_ax fa.ax fb.ax
  have HKA := sizeI_axes hK
  have SJA : SubAx L D (joinL L L') (joinD L D L' D') := SubAx.left fa.ax.2.2.2.2 fa.ax.2.1
  have SJB : SubAx L' D' (joinL L L') (joinD L D L' D') := SubAx.right fa.ax.2.1 fb.ax.2.2.2.2 fb.ax.2.1 hf
  have hJ1 : ∀ d ∈ joinD L D L' D', 1 ≤ d := fun d hd => (HJA.1 d hd).1
  unfold pairL
  rw [hw, Int.toNat_natCast, acc_len (wd := wd) (N := (prodL (joinD L D L' D')).toNat) hr hw (fun n _ => termJ_elem hr hw fa.lX fb.lX fa.wX fb.wX (by have h := (SJA.off HJA.2.2.2 fa.dim hJ1 HJA.2.1 n).2; rw [fa.pr] at h; omega) (by have h := (SJB.off HJA.2.2.2 fb.dim hJ1 HJA.2.1 n).2; rw [fb.pr] at h; omega)) (Nat.le_refl _)]
  exact Nat.le_trans (Nat.mul_le_mul (show _ ≤ 4096 by omega) hw6) (by omega)
set_option maxHeartbeats 6400000 in
theorem contract_pair_spec {B B' B'' : Nat} {lv dv xv lu du xu kv : Value} {k p q : Int} {L D X L' D' X' keep : List Int} {w : World} (ha : RdT B w lv dv xv L D X) (hb : RdT B' w lu du xu L' D' X') (hk : Rd B'' w kv (ints keep)) (hB : B ≤ w.heap.size) (hB' : B' ≤ w.heap.size) (hB'' : B'' ≤ w.heap.size) (hn : LenT L D X) (hn' : LenT L' D' X') (hkl : keep.length ≤ 281474976710656) :
    Calls Try.prog 17 #[ringV k p q, tenV lv dv xv, tenV lu du xu, kv] w (NewTen2 w (if pairB k p q L D X L' D' X' keep = true then keepL (joinL L L') keep else []) (if pairB k p q L D X L' D' X' keep = true then keepD (joinL L L') (joinD L D L' D') keep else []) (if pairB k p q L D X L' D' X' keep = true then pairL k p q L D X L' D' X' keep else []) (pairB k p q L D X L' D' X' keep)) := by
  have HA : Hid (RdT w.heap.size w lv dv xv L D X) := Lib.hid ⟨ha.l.mono hB, ha.d.mono hB, ha.x.mono hB⟩
  have HU : Hid (RdT w.heap.size w lu du xu L' D' X') := Lib.hid ⟨hb.l.mono hB', hb.d.mono hB', hb.x.mono hB'⟩
  have HK : Hid (Rd w.heap.size w kv (ints keep)) := Lib.hid (hk.mono hB'')
  obtain ⟨al, cl, rfl, -⟩ := ints_form ha.l
  obtain ⟨ad, cd, rfl, -⟩ := ints_form ha.d
  obtain ⟨ax, cx, rfl, -⟩ := ints_form ha.x
  obtain ⟨m1, hm1⟩ : ∃ m, m = L.length := ⟨_, rfl⟩
  obtain ⟨m2, hm2⟩ : ∃ m, m = D.length := ⟨_, rfl⟩
  obtain ⟨m3, hm3⟩ : ∃ m, m = X.length := ⟨_, rfl⟩
  rw [← hm1, ← hm2, ← hm3] at HA ⊢
  obtain ⟨ak, ck, rfl, -⟩ := ints_form hk
  obtain ⟨mk, hmk⟩ : ∃ m, m = keep.length := ⟨_, rfl⟩
  rw [← hmk] at HK ⊢
  obtain ⟨bl, kl, rfl, -⟩ := ints_form hb.l
  obtain ⟨bd, kd, rfl, -⟩ := ints_form hb.d
  obtain ⟨bx, kx, rfl, -⟩ := ints_form hb.x
  obtain ⟨m4, hm4⟩ : ∃ m, m = L'.length := ⟨_, rfl⟩
  obtain ⟨m5, hm5⟩ : ∃ m, m = D'.length := ⟨_, rfl⟩
  obtain ⟨m6, hm6⟩ : ∃ m, m = X'.length := ⟨_, rfl⟩
  rw [← hm4, ← hm5, ← hm6] at HU ⊢
  have R0 : Hid (Rs w ((((w.alloc (.cells #[.int .i64 k, .int .i64 p, .int .i64 q] 31)).alloc (.cells #[.slice al m1 cl, .slice ad m2 cd, .slice ax m3 cx] 28)).alloc (.cells #[.slice bl m4 kl, .slice bd m5 kd, .slice bx m6 kx] 28)).alloc (.cells #[nilV, nilV, nilV] 28)) [(w.heap.size + 1 + 1 + 1, nilV, nilV, nilV), (w.heap.size + 1 + 1, .slice bl m4 kl, .slice bd m5 kd, .slice bx m6 kx), (w.heap.size + 1, .slice al m1 cl, .slice ad m2 cd, .slice ax m3 cx), (w.heap.size, .int .i64 k, .int .i64 p, .int .i64 q)] []) := by
    have h := ((((Rs.start w).box (.int .i64 k) (.int .i64 p) (.int .i64 q) 31).box (.slice al m1 cl) (.slice ad m2 cd) (.slice ax m3 cx) 28).box (.slice bl m4 kl) (.slice bd m5 kd) (.slice bx m6 kx) 28).box nilV nilV nilV 28
    simp only [World.size_alloc] at h
    exact h
  have OKA := Lib.hid (fun (w1 : World) (hb : Below w.heap.size w w1) => tensor_ok_spec (k := k) (p := p) (n := q) (HA.out.below hb (Nat.le_refl _)) hb.size hn)
  have OKU := Lib.hid (fun (w1 : World) (hb : Below w.heap.size w w1) => tensor_ok_spec (k := k) (p := p) (n := q) (HU.out.below hb (Nat.le_refl _)) hb.size hn')
  have HPF := Lib.hid (fun (hx : AxesV L D) (hx' : AxesV L' D') (w1 : World) (hb : Below w.heap.size w w1) => fits_pair_spec (HA.out.below hb (Nat.le_refl _)) (HU.out.below hb (Nat.le_refl _)) (HK.out.below hb (Nat.le_refl _)) hb.size hb.size hx hx' hkl)
  obtain ⟨ta, hta⟩ : ∃ b, b = tensorB k p q L D X := ⟨_, rfl⟩
  obtain ⟨tu, htu⟩ : ∃ b, b = tensorB k p q L' D' X' := ⟨_, rfl⟩
  obtain ⟨pf, hpf⟩ : ∃ b, b = pfB L D L' D' keep := ⟨_, rfl⟩
  obtain ⟨fb, hfb⟩ : ∃ b, b = pairB k p q L D X L' D' X' keep := ⟨_, rfl⟩
  have HFB : Hid (fb = (ta && (tu && pf))) := Lib.hid (by rw [hfb, hta, htu, hpf]; rfl)
  have HTA := Lib.hid hta
  have HTU := Lib.hid htu
  have HFF := Lib.hid hfb
  have HKL := Lib.hid hkl
  rw [← hta] at OKA
  rw [← htu] at OKU
  rw [← hpf] at HPF
  rw [← hfb]
  obtain ⟨zl, hzl⟩ : ∃ l, l = (if fb = true then keepL (joinL L L') keep else []) := ⟨_, rfl⟩
  obtain ⟨zd, hzd⟩ : ∃ l, l = (if fb = true then keepD (joinL L L') (joinD L D L' D') keep else []) := ⟨_, rfl⟩
  obtain ⟨zx, hzx⟩ : ∃ l, l = (if fb = true then pairL k p q L D X L' D' X' keep else []) := ⟨_, rfl⟩
  have HNO : Hid (fb = false → zl = [] ∧ zd = [] ∧ zx = []) := Lib.hid (fun h => by subst h; exact ⟨hzl, hzd, hzx⟩)
  have HYES : Hid (fb = true → zl = keepL (joinL L L') keep ∧ zd = keepD (joinL L L') (joinD L D L' D') keep ∧ zx = pairL k p q L D X L' D' X' keep) := Lib.hid (fun h => by subst h; exact ⟨hzl, hzd, hzx⟩)
  rw [← hzl, ← hzd, ← hzx]
  clear hzl hzd hzx
  clear ha hb hk hB hB' hB'' hn hn' hkl hm1 hm2 hm3 hm4 hm5 hm6 hmk hta htu hpf hfb
  obtain ⟨⟨r0, r1, r2⟩, -⟩ := R0.out.at (r := w.heap.size) (a := .int .i64 k) (b := .int .i64 p) (c := .int .i64 q) (by simp)
  obtain ⟨⟨a0, a1, a2⟩, -⟩ := R0.out.at (r := w.heap.size + 1) (a := .slice al m1 cl) (b := .slice ad m2 cd) (c := .slice ax m3 cx) (by simp)
  obtain ⟨⟨b0, b1, b2⟩, -⟩ := R0.out.at (r := w.heap.size + 1 + 1) (a := .slice bl m4 kl) (b := .slice bd m5 kd) (c := .slice bx m6 kx) (by simp)
  cases ta with
  | false =>
    obtain rfl : fb = false := HFB.out
    obtain ⟨rfl, rfl, rfl⟩ := HNO.out rfl
    go_enter Try.func17, Try.ntmps17
    go_wp2_with fail
    refine (OKA.out _ R0.out.bel).mono ?_
    clear r0 r1 r2 a0 a1 a2 b0 b1 b2
    rintro e w1 ⟨rfl, hb⟩
    have R1 := Lib.hid (R0.out.step hb)
    clear hb
    obtain ⟨⟨t0, t1, t2⟩, f0, f1, f2⟩ := R1.out.at (r := w.heap.size + 1 + 1 + 1) (a := nilV) (b := nilV) (c := nilV) (by simp)
    go_wp2
    refine bodyPost_ret (v := .tuple #[tenV nilV nilV nilV, .bool false]) (by simp [results, Try.results17, go_sem, t0, t1, t2]) rfl ?_
    exact NewTen2.nils (((R1.out.bel.setCell (by simp; omega) _).setCell (by simp; omega) _).setCell (by simp; omega) _)
  | true =>
    cases tu with
    | false =>
      obtain rfl : fb = false := HFB.out
      obtain ⟨rfl, rfl, rfl⟩ := HNO.out rfl
      go_enter Try.func17, Try.ntmps17
      go_wp2_with fail
      refine (OKA.out _ R0.out.bel).mono ?_
      clear r0 r1 r2 a0 a1 a2 b0 b1 b2
      rintro e w1 ⟨rfl, hb⟩
      have R1 := Lib.hid (R0.out.step hb)
      clear hb
      obtain ⟨⟨r0, r1, r2⟩, -⟩ := R1.out.at (r := w.heap.size) (a := .int .i64 k) (b := .int .i64 p) (c := .int .i64 q) (by simp)
      obtain ⟨⟨a0, a1, a2⟩, -⟩ := R1.out.at (r := w.heap.size + 1) (a := .slice al m1 cl) (b := .slice ad m2 cd) (c := .slice ax m3 cx) (by simp)
      obtain ⟨⟨b0, b1, b2⟩, -⟩ := R1.out.at (r := w.heap.size + 1 + 1) (a := .slice bl m4 kl) (b := .slice bd m5 kd) (c := .slice bx m6 kx) (by simp)
      go_wp2_with fail
      refine (OKU.out _ R1.out.bel).mono ?_
      clear r0 r1 r2 a0 a1 a2 b0 b1 b2
      rintro e w2 ⟨rfl, hb⟩
      have R2 := Lib.hid (R1.out.step hb)
      clear hb
      obtain ⟨⟨t0, t1, t2⟩, f0, f1, f2⟩ := R2.out.at (r := w.heap.size + 1 + 1 + 1) (a := nilV) (b := nilV) (c := nilV) (by simp)
      go_wp2
      refine bodyPost_ret (v := .tuple #[tenV nilV nilV nilV, .bool false]) (by simp [results, Try.results17, go_sem, t0, t1, t2]) rfl ?_
      exact NewTen2.nils (((R2.out.bel.setCell (by simp; omega) _).setCell (by simp; omega) _).setCell (by simp; omega) _)
    | true =>
      have HQF := Lib.hid (HPF.out (tensor_axes HTA.out.symm) (tensor_axes HTU.out.symm))
      clear HPF
      go_enter Try.func17, Try.ntmps17
      go_wp2_with fail
      refine (OKA.out _ R0.out.bel).mono ?_
      clear r0 r1 r2 a0 a1 a2 b0 b1 b2
      rintro e w1 ⟨rfl, hb⟩
      have R1 := Lib.hid (R0.out.step hb)
      clear hb
      obtain ⟨⟨r0, r1, r2⟩, -⟩ := R1.out.at (r := w.heap.size) (a := .int .i64 k) (b := .int .i64 p) (c := .int .i64 q) (by simp)
      obtain ⟨⟨a0, a1, a2⟩, -⟩ := R1.out.at (r := w.heap.size + 1) (a := .slice al m1 cl) (b := .slice ad m2 cd) (c := .slice ax m3 cx) (by simp)
      obtain ⟨⟨b0, b1, b2⟩, -⟩ := R1.out.at (r := w.heap.size + 1 + 1) (a := .slice bl m4 kl) (b := .slice bd m5 kd) (c := .slice bx m6 kx) (by simp)
      go_wp2_with fail
      refine (OKU.out _ R1.out.bel).mono ?_
      clear r0 r1 r2 a0 a1 a2 b0 b1 b2
      rintro e w2 ⟨rfl, hb⟩
      have R2 := Lib.hid (R1.out.step hb)
      clear hb
      obtain ⟨⟨r0, r1, r2⟩, -⟩ := R2.out.at (r := w.heap.size) (a := .int .i64 k) (b := .int .i64 p) (c := .int .i64 q) (by simp)
      obtain ⟨⟨a0, a1, a2⟩, -⟩ := R2.out.at (r := w.heap.size + 1) (a := .slice al m1 cl) (b := .slice ad m2 cd) (c := .slice ax m3 cx) (by simp)
      obtain ⟨⟨b0, b1, b2⟩, -⟩ := R2.out.at (r := w.heap.size + 1 + 1) (a := .slice bl m4 kl) (b := .slice bd m5 kd) (c := .slice bx m6 kx) (by simp)
      go_wp2_with fail
      refine (HQF.out _ R2.out.bel).mono ?_
      clear r0 r1 r2 a0 a1 a2 b0 b1 b2
      rintro e w3 ⟨rfl, hb⟩
      have R3 := Lib.hid (R2.out.step hb)
      clear hb
      cases pf with
      | false =>
        obtain rfl : fb = false := HFB.out
        obtain ⟨rfl, rfl, rfl⟩ := HNO.out rfl
        obtain ⟨⟨t0, t1, t2⟩, f0, f1, f2⟩ := R3.out.at (r := w.heap.size + 1 + 1 + 1) (a := nilV) (b := nilV) (c := nilV) (by simp)
        go_wp2
        refine bodyPost_ret (v := .tuple #[tenV nilV nilV nilV, .bool false]) (by simp [results, Try.results17, go_sem, t0, t1, t2]) rfl ?_
        exact NewTen2.nils (((R3.out.bel.setCell (by simp; omega) _).setCell (by simp; omega) _).setCell (by simp; omega) _)
      | true =>
        obtain rfl : fb = true := HFB.out
        have HY3 := Lib.hid (HYES.out (by simp))
        obtain ⟨h1, h2, h3, h4, h5⟩ := pairB_parts HFF.out.symm
        have hrb := (tensorB_inv h1).1
        obtain ⟨wd, hw, hw1, hw6⟩ := width_pos hrb
        have HPP := Lib.hid (pair_spec (k := k) (p := p) (q := q) (HA.out.below R3.out.bel (Nat.le_refl _)) (HU.out.below R3.out.bel (Nat.le_refl _)) (HK.out.below R3.out.bel (Nat.le_refl _)) R3.out.bel.size hrb hw hw1 hw6 (TenF.of h1 hw) (TenF.of h2 hw) h3 h4 h5 HKL.out)
        clear h1 h2 h3 h4 h5 hrb hw hw1 hw6 HQF
        obtain ⟨⟨r0, r1, r2⟩, -⟩ := R3.out.at (r := w.heap.size) (a := .int .i64 k) (b := .int .i64 p) (c := .int .i64 q) (by simp)
        obtain ⟨⟨a0, a1, a2⟩, -⟩ := R3.out.at (r := w.heap.size + 1) (a := .slice al m1 cl) (b := .slice ad m2 cd) (c := .slice ax m3 cx) (by simp)
        obtain ⟨⟨b0, b1, b2⟩, -⟩ := R3.out.at (r := w.heap.size + 1 + 1) (a := .slice bl m4 kl) (b := .slice bd m5 kd) (c := .slice bx m6 kx) (by simp)
        go_wp2_with fail
        refine HPP.out.mono ?_
        clear r0 r1 r2 a0 a1 a2 b0 b1 b2
        clear HPP
        rintro e w5 ⟨l', d', x', rfl, ho, hb⟩
        have R5 := Lib.hid (R3.out.step hb)
        obtain ⟨a1, c1, rfl, -⟩ := ints_form ho.rows.1.rd
        obtain ⟨a2, c2, rfl, -⟩ := ints_form ho.rows.2.1.rd
        obtain ⟨a3, c3, rfl, -⟩ := ints_form ho.rows.2.2.rd
        have lt1 := (R3.out.bx (w.heap.size + 1 + 1 + 1, nilV, nilV, nilV) (by simp)).lt
        have hz1 := R3.out.bel.size
        rw [← HY3.out.1, ← HY3.out.2.1, ← HY3.out.2.2] at ho
        rw [← HY3.out.1, ← HY3.out.2.1, ← HY3.out.2.2]
        obtain ⟨q1, hq1⟩ : ∃ m, m = zl.length := ⟨_, rfl⟩
        obtain ⟨q2, hq2⟩ : ∃ m, m = zd.length := ⟨_, rfl⟩
        obtain ⟨q3, hq3⟩ : ∃ m, m = zx.length := ⟨_, rfl⟩
        rw [← hq1, ← hq2, ← hq3] at ho ⊢
        have HO := Lib.hid (ho.set3 lt1 (.slice a1 q1 c1) (.slice a2 q2 c2) (.slice a3 q3 c3))
        clear hb ho hq1 hq2 hq3
        obtain ⟨⟨t0, t1, t2⟩, f0, f1, f2⟩ := R5.out.at (r := w.heap.size + 1 + 1 + 1) (a := nilV) (b := nilV) (c := nilV) (by simp)
        go_wp2
        refine bodyPost_ret (v := .tuple #[tenV (.slice a1 q1 c1) (.slice a2 q2 c2) (.slice a3 q3 c3), .bool true]) (by simp [results, Try.results17, go_sem, t0, t1, t2]) rfl ?_
        refine ⟨_, _, _, rfl, ?_, ((R5.out.bel.setCell (by simp; omega) _).setCell (by simp; omega) _).setCell (by simp; omega) _⟩
        exact HO.out.wide hz1 (by simp) (by simp)
theorem prodL_sub {A C : List Int} (h : A.Sublist C) (h1 : ∀ d ∈ C, 1 ≤ d) : prodL A ≤ prodL C := by
  induction h with
  | slnil => exact Int.le_refl _
  | cons a hs ih =>
    rename_i l1 l2
    rw [prodL_cons]
    have h2 := ih (fun d hd => h1 d (List.mem_cons_of_mem _ hd))
    have h3 := h1 a (by simp)
    have h4 := prodL_pos (D := l2) (fun d hd => h1 d (List.mem_cons_of_mem _ hd))
    have h5 := Int.mul_le_mul_of_nonneg_right h3 (show 0 ≤ prodL l2 by omega)
    omega
  | cons_cons a hs ih =>
    rw [prodL_cons, prodL_cons]
    have h2 := ih (fun d hd => h1 d (List.mem_cons_of_mem _ hd))
    have h3 := h1 a (by simp)
    exact Int.mul_le_mul_of_nonneg_left h2 (by omega)
/-- What is kept of a tensor's own axes is small enough. -/
theorem sum_fits {L D keep : List Int} (h : AxesV L D) (hP : prodL D ≤ 4096) : joinL L [] = L ∧ joinD L D [] [] = D ∧ ¬ sizeI (keepL (joinL L []) keep) (keepD (joinL L []) (joinD L D [] []) keep) < 0 := by
  have e1 : joinL L [] = L := by simp [joinL, restL]
  have e2 : joinD L D [] [] = D := by simp [joinD, restL, dimsVia]
  refine ⟨e1, e2, ?_⟩
  rw [e1, e2]
  have hsub : (keepL L keep).Sublist L := List.filter_sublist
  have hds : (keepD L D keep).Sublist D := by
    have h2 := hsub.map (fun n => D.getD (L.idxOf n) 0)
    have h3 := dims_self h.2.2.2.2 h.2.1
    unfold keepD
    rw [← h3]
    unfold dimsVia at h3 ⊢
    rw [h3]
    rw [h3] at h2
    exact h2
  have hax : AxesV (keepL L keep) (keepD L D keep) := ⟨Nat.le_trans hsub.length_le h.1, by unfold keepD dimsVia; simp, fun x hx => h.2.2.1 x (hsub.subset hx), fun d hd => h.2.2.2.1 d (hds.subset hd), keep_nodup h.2.2.2.2⟩
  have hp := prodL_sub hds (fun d hd => (h.2.2.2.1 d hd).1)
  have hp1 := prodL_pos (D := keepD L D keep) (fun d hd => (hax.2.2.2.1 d hd).1)
  unfold sizeI
  rw [if_pos ⟨axesB_true.2 hax, by omega⟩]
  omega
theorem one_ten {k p q : Int} {wd : Nat} (hr : ringB k p q = true) (hw : widthI k q = (wd : Int)) : TenF k p q [] [] (oneL k p q) wd 1 :=
  ⟨⟨by simp, rfl, by simp, by simp, List.nodup_nil⟩, rfl, by omega, by have h := (oneL_elem hr).1; omega, (oneL_elem hr).2⟩
set_option maxHeartbeats 6400000 in
theorem l08_sum_spec {B : Nat} {lv dv xv kv : Value} {k p q : Int} {L D X keep : List Int} {w : World} (ha : RdT B w lv dv xv L D X) (hk : Rd B w kv (ints keep)) (hB : B ≤ w.heap.size) (ht : tensorB k p q L D X = true) (hkl : keep.length ≤ 281474976710656) :
    Calls Try.prog 68 #[ringV k p q, tenV lv dv xv, kv] w (NewTen w (keepL (joinL L []) keep) (keepD (joinL L []) (joinD L D [] []) keep) (pairL k p q L D X [] [] (oneL k p q) keep)) := by
  have HA : Hid (RdT w.heap.size w lv dv xv L D X) := Lib.hid ⟨ha.l.mono hB, ha.d.mono hB, ha.x.mono hB⟩
  have HK : Hid (Rd w.heap.size w kv (ints keep)) := Lib.hid (hk.mono hB)
  obtain ⟨al, cl, rfl, -⟩ := ints_form ha.l
  obtain ⟨ad, cd, rfl, -⟩ := ints_form ha.d
  obtain ⟨ax, cx, rfl, -⟩ := ints_form ha.x
  obtain ⟨m1, hm1⟩ : ∃ m, m = L.length := ⟨_, rfl⟩
  obtain ⟨m2, hm2⟩ : ∃ m, m = D.length := ⟨_, rfl⟩
  obtain ⟨m3, hm3⟩ : ∃ m, m = X.length := ⟨_, rfl⟩
  rw [← hm1, ← hm2, ← hm3] at HA ⊢
  obtain ⟨ak, ck, rfl, -⟩ := ints_form hk
  obtain ⟨mk, hmk⟩ : ∃ m, m = keep.length := ⟨_, rfl⟩
  rw [← hmk] at HK ⊢
  have R0 : Hid (Rs w (((w.alloc (.cells #[.int .i64 k, .int .i64 p, .int .i64 q] 31)).alloc (.cells #[.slice al m1 cl, .slice ad m2 cd, .slice ax m3 cx] 28)).alloc (.cells #[nilV, nilV, nilV] 28)) [(w.heap.size + 1 + 1, nilV, nilV, nilV), (w.heap.size + 1, .slice al m1 cl, .slice ad m2 cd, .slice ax m3 cx), (w.heap.size, .int .i64 k, .int .i64 p, .int .i64 q)] []) := by
    have h := (((Rs.start w).box (.int .i64 k) (.int .i64 p) (.int .i64 q) 31).box (.slice al m1 cl) (.slice ad m2 cd) (.slice ax m3 cx) 28).box nilV nilV nilV 28
    simp only [World.size_alloc] at h
    exact h
  have hrb := (tensorB_inv ht).1
  obtain ⟨wd, hw, hw1, hw6⟩ := width_pos hrb
  have hsz := tensor_axes ht
  have hP : prodL D ≤ 4096 := by have h := (TenF.of ht hw).pr; have h2 := (TenF.of ht hw).n1; omega
  obtain ⟨e1, e2, h5⟩ := sum_fits (keep := keep) hsz hP
  have HON := Lib.hid (fun w1 => one_spec k p q w1 hrb)
  have HPP := Lib.hid (fun (w1 : World) (hb : Below w.heap.size w w1) {v : Value} (hv : Rd w1.heap.size w1 v (ints (oneL k p q))) => pair_spec (B := w1.heap.size) (w := w1) (k := k) (p := p) (q := q) (lu := nilV) (du := nilV) (L' := []) (D' := []) (keep := keep) (have h := HA.out.below hb (Nat.le_refl _); ⟨h.l.mono hb.size, h.d.mono hb.size, h.x.mono hb.size⟩) ⟨.inl ⟨rfl, none, 0, rfl⟩, .inl ⟨rfl, none, 0, rfl⟩, hv⟩ ((HK.out.below hb (Nat.le_refl _)).mono hb.size) (Nat.le_refl _) hrb hw hw1 hw6 (TenF.of ht hw) (one_ten hrb hw) (fun j n h => by simp at h) (by rw [e2]; omega) h5 hkl)
  obtain ⟨zl, hzl⟩ : ∃ l, l = keepL (joinL L []) keep := ⟨_, rfl⟩
  obtain ⟨zd, hzd⟩ : ∃ l, l = keepD (joinL L []) (joinD L D [] []) keep := ⟨_, rfl⟩
  obtain ⟨zx, hzx⟩ : ∃ l, l = pairL k p q L D X [] [] (oneL k p q) keep := ⟨_, rfl⟩
  rw [← hzl, ← hzd, ← hzx] at HPP ⊢
  obtain ⟨on, hon⟩ : ∃ l, l = oneL k p q := ⟨_, rfl⟩
  rw [← hon] at HON HPP
  have HY3 : Hid (zl = zl ∧ zd = zd ∧ zx = zx) := Lib.hid ⟨rfl, rfl, rfl⟩
  clear ha hk hB ht hkl hm1 hm2 hm3 hmk hrb hw hw1 hw6 hsz hP e1 e2 h5 hzl hzd hzx hon
  have R1 := Lib.hid R0.out.drew
  obtain ⟨⟨r0, r1, r2⟩, -⟩ := R1.out.at (r := w.heap.size) (a := .int .i64 k) (b := .int .i64 p) (c := .int .i64 q) (by simp)
  obtain ⟨⟨a0, a1, a2⟩, -⟩ := R1.out.at (r := w.heap.size + 1) (a := .slice al m1 cl) (b := .slice ad m2 cd) (c := .slice ax m3 cx) (by simp)
  go_enter Try.func68, Try.ntmps68
  go_wp2
  go_region_held3 (fun w' => w'.cell? ⟨w.heap.size, 0, none⟩ = some (.int .i64 k) ∧ w'.cell? ⟨w.heap.size, 1, none⟩ = some (.int .i64 p) ∧ w'.cell? ⟨w.heap.size, 2, none⟩ = some (.int .i64 q) ∧ w'.cell? ⟨w.heap.size + 1, 0, none⟩ = some (.slice al m1 cl) ∧ w'.cell? ⟨w.heap.size + 1, 1, none⟩ = some (.slice ad m2 cd) ∧ w'.cell? ⟨w.heap.size + 1, 2, none⟩ = some (.slice ax m3 cx)) (first | exact ⟨r0, r1, r2, a0, a1, a2⟩ | exact ⟨y0, y1, y2, y3, y4, y5⟩) (first
    | (go_at_call 126; refine (HON.out _).mono ?_; rintro e w2 ⟨v, rfl, ho, hb⟩; have R2 := Lib.hid (R1.out.new hb ho); obtain ⟨g9, c9, rfl, -⟩ := ints_form ho.rd; clear ho hb r0 r1 r2 a0 a1 a2; obtain ⟨⟨r0, r1, r2⟩, -⟩ := R2.out.at (r := w.heap.size) (a := .int .i64 k) (b := .int .i64 p) (c := .int .i64 q) (by simp); obtain ⟨⟨a0, a1, a2⟩, -⟩ := R2.out.at (r := w.heap.size + 1) (a := .slice al m1 cl) (b := .slice ad m2 cd) (c := .slice ax m3 cx) (by simp))
    | (go_at_call 57; refine (HPP.out _ R2.out.bel (v := .slice g9 on.length c9) (R2.out.rd (by simp))).mono ?_; rintro e w5 ⟨l', d', x', rfl, ho, hb⟩; have R5 := Lib.hid (R2.out.step hb); obtain ⟨a1', c1, rfl, -⟩ := ints_form ho.rows.1.rd; obtain ⟨a2', c2, rfl, -⟩ := ints_form ho.rows.2.1.rd; obtain ⟨a3', c3, rfl, -⟩ := ints_form ho.rows.2.2.rd; have LT := Lib.hid (R2.out.bx (w.heap.size + 1 + 1, nilV, nilV, nilV) (by simp)).lt; have HZ1 := Lib.hid R2.out.bel.size; have HO := Lib.hid (ho.set3 LT.out (.slice a1' zl.length c1) (.slice a2' zd.length c2) (.slice a3' zx.length c3)); have R6 := Lib.hid (R5.out.set3 (.slice a1' zl.length c1) (.slice a2' zd.length c2) (.slice a3' zx.length c3)); clear ho hb r0 r1 r2 a0 a1 a2; obtain ⟨⟨r0, r1, r2⟩, -⟩ := R5.out.at (r := w.heap.size) (a := .int .i64 k) (b := .int .i64 p) (c := .int .i64 q) (by simp); obtain ⟨⟨a0, a1, a2⟩, -⟩ := R5.out.at (r := w.heap.size + 1) (a := .slice al m1 cl) (b := .slice ad m2 cd) (c := .slice ax m3 cx) (by simp); obtain ⟨⟨t0, t1, t2⟩, f0, f1, f2⟩ := R5.out.at (r := w.heap.size + 1 + 1) (a := nilV) (b := nilV) (c := nilV) (by simp); obtain ⟨⟨y0, y1, y2⟩, -⟩ := R6.out.at (r := w.heap.size) (a := .int .i64 k) (b := .int .i64 p) (c := .int .i64 q) (by simp); obtain ⟨⟨y3, y4, y5⟩, -⟩ := R6.out.at (r := w.heap.size + 1) (a := .slice al m1 cl) (b := .slice ad m2 cd) (c := .slice ax m3 cx) (by simp)))
  clear r0 r1 r2 a0 a1 a2 y0 y1 y2 y3 y4 y5
  go_wp2
  refine bodyPost_ret (v := tenV (.slice a1' zl.length c1) (.slice a2' zd.length c2) (.slice a3' zx.length c3)) (by simp [results, Try.results68, go_sem, t0, t1, t2]) rfl ?_
  exact ⟨_, _, _, rfl, HO.out.wide HZ1.out (by simp) (by simp), R6.out.bel⟩
set_option maxHeartbeats 6400000 in
theorem sum_labels_spec {B B' : Nat} {lv dv xv kv : Value} {k p q : Int} {L D X keep : List Int} {w : World} (ha : RdT B w lv dv xv L D X) (hk : Rd B' w kv (ints keep)) (hB : B ≤ w.heap.size) (hB' : B' ≤ w.heap.size) (hn : LenT L D X) (hkl : keep.length ≤ 281474976710656) :
    Calls Try.prog 27 #[ringV k p q, tenV lv dv xv, kv] w (NewTen w (if tensorB k p q L D X = true then keepL (joinL L []) keep else []) (if tensorB k p q L D X = true then keepD (joinL L []) (joinD L D [] []) keep else []) (if tensorB k p q L D X = true then pairL k p q L D X [] [] (oneL k p q) keep else [])) := by
  have HA : Hid (RdT w.heap.size w lv dv xv L D X) := Lib.hid ⟨ha.l.mono hB, ha.d.mono hB, ha.x.mono hB⟩
  have HK : Hid (Rd w.heap.size w kv (ints keep)) := Lib.hid (hk.mono hB')
  obtain ⟨al, cl, rfl, -⟩ := ints_form ha.l
  obtain ⟨ad, cd, rfl, -⟩ := ints_form ha.d
  obtain ⟨ax, cx, rfl, -⟩ := ints_form ha.x
  obtain ⟨m1, hm1⟩ : ∃ m, m = L.length := ⟨_, rfl⟩
  obtain ⟨m2, hm2⟩ : ∃ m, m = D.length := ⟨_, rfl⟩
  obtain ⟨m3, hm3⟩ : ∃ m, m = X.length := ⟨_, rfl⟩
  rw [← hm1, ← hm2, ← hm3] at HA ⊢
  obtain ⟨ak, ck, rfl, -⟩ := ints_form hk
  obtain ⟨mk, hmk⟩ : ∃ m, m = keep.length := ⟨_, rfl⟩
  rw [← hmk] at HK ⊢
  have R0 : Hid (Rs w (((w.alloc (.cells #[.int .i64 k, .int .i64 p, .int .i64 q] 31)).alloc (.cells #[.slice al m1 cl, .slice ad m2 cd, .slice ax m3 cx] 28)).alloc (.cells #[nilV, nilV, nilV] 28)) [(w.heap.size + 1 + 1, nilV, nilV, nilV), (w.heap.size + 1, .slice al m1 cl, .slice ad m2 cd, .slice ax m3 cx), (w.heap.size, .int .i64 k, .int .i64 p, .int .i64 q)] []) := by
    have h := (((Rs.start w).box (.int .i64 k) (.int .i64 p) (.int .i64 q) 31).box (.slice al m1 cl) (.slice ad m2 cd) (.slice ax m3 cx) 28).box nilV nilV nilV 28
    simp only [World.size_alloc] at h
    exact h
  have OKA := Lib.hid (fun (w1 : World) (hb : Below w.heap.size w w1) => tensor_ok_spec (k := k) (p := p) (n := q) (HA.out.below hb (Nat.le_refl _)) hb.size hn)
  have HSM := Lib.hid (fun (ht : tensorB k p q L D X = true) (w1 : World) (hb : Below w.heap.size w w1) => l08_sum_spec (k := k) (p := p) (q := q) (HA.out.below hb (Nat.le_refl _)) (HK.out.below hb (Nat.le_refl _)) hb.size ht hkl)
  obtain ⟨fb, hfb⟩ : ∃ b, b = tensorB k p q L D X := ⟨_, rfl⟩
  have HFB := Lib.hid hfb
  rw [← hfb] at OKA
  rw [← hfb]
  obtain ⟨zl, hzl⟩ : ∃ l, l = (if fb = true then keepL (joinL L []) keep else []) := ⟨_, rfl⟩
  obtain ⟨zd, hzd⟩ : ∃ l, l = (if fb = true then keepD (joinL L []) (joinD L D [] []) keep else []) := ⟨_, rfl⟩
  obtain ⟨zx, hzx⟩ : ∃ l, l = (if fb = true then pairL k p q L D X [] [] (oneL k p q) keep else []) := ⟨_, rfl⟩
  have HNO : Hid (fb = false → zl = [] ∧ zd = [] ∧ zx = []) := Lib.hid (fun h => by subst h; exact ⟨hzl, hzd, hzx⟩)
  have HYES : Hid (fb = true → zl = keepL (joinL L []) keep ∧ zd = keepD (joinL L []) (joinD L D [] []) keep ∧ zx = pairL k p q L D X [] [] (oneL k p q) keep) := Lib.hid (fun h => by subst h; exact ⟨hzl, hzd, hzx⟩)
  rw [← hzl, ← hzd, ← hzx]
  clear hzl hzd hzx
  clear ha hk hB hB' hn hkl hm1 hm2 hm3 hmk hfb
  obtain ⟨⟨r0, r1, r2⟩, -⟩ := R0.out.at (r := w.heap.size) (a := .int .i64 k) (b := .int .i64 p) (c := .int .i64 q) (by simp)
  obtain ⟨⟨a0, a1, a2⟩, -⟩ := R0.out.at (r := w.heap.size + 1) (a := .slice al m1 cl) (b := .slice ad m2 cd) (c := .slice ax m3 cx) (by simp)
  cases fb with
  | false =>
    obtain ⟨rfl, rfl, rfl⟩ := HNO.out rfl
    go_enter Try.func27, Try.ntmps27
    go_wp2_with fail
    refine (OKA.out _ R0.out.bel).mono ?_
    clear r0 r1 r2 a0 a1 a2
    rintro e w1 ⟨rfl, hb⟩
    have R1 := Lib.hid (R0.out.step hb)
    clear hb
    obtain ⟨⟨t0, t1, t2⟩, f0, f1, f2⟩ := R1.out.at (r := w.heap.size + 1 + 1) (a := nilV) (b := nilV) (c := nilV) (by simp)
    go_wp2
    refine bodyPost_ret (v := tenV nilV nilV nilV) (by simp [results, Try.results27, go_sem, t0, t1, t2]) rfl ?_
    exact NewTen.nils (((R1.out.bel.setCell (by simp; omega) _).setCell (by simp; omega) _).setCell (by simp; omega) _)
  | true =>
    have HY3 := Lib.hid (HYES.out (by simp))
    have HQ := Lib.hid (HSM.out HFB.out.symm)
    clear HSM
    go_enter Try.func27, Try.ntmps27
    go_wp2_with fail
    refine (OKA.out _ R0.out.bel).mono ?_
    clear r0 r1 r2 a0 a1 a2
    rintro e w1 ⟨rfl, hb⟩
    have R1 := Lib.hid (R0.out.step hb)
    clear hb
    obtain ⟨⟨r0, r1, r2⟩, -⟩ := R1.out.at (r := w.heap.size) (a := .int .i64 k) (b := .int .i64 p) (c := .int .i64 q) (by simp)
    obtain ⟨⟨a0, a1, a2⟩, -⟩ := R1.out.at (r := w.heap.size + 1) (a := .slice al m1 cl) (b := .slice ad m2 cd) (c := .slice ax m3 cx) (by simp)
    go_wp2_with fail
    refine (HQ.out _ R1.out.bel).mono ?_
    clear r0 r1 r2 a0 a1 a2
    clear HQ
    rintro e w5 ⟨l', d', x', rfl, ho, hb⟩
    have R5 := Lib.hid (R1.out.step hb)
    obtain ⟨a1, c1, rfl, -⟩ := ints_form ho.rows.1.rd
    obtain ⟨a2, c2, rfl, -⟩ := ints_form ho.rows.2.1.rd
    obtain ⟨a3, c3, rfl, -⟩ := ints_form ho.rows.2.2.rd
    have lt1 := (R1.out.bx (w.heap.size + 1 + 1, nilV, nilV, nilV) (by simp)).lt
    have hz1 := R1.out.bel.size
    rw [← HY3.out.1, ← HY3.out.2.1, ← HY3.out.2.2] at ho
    rw [← HY3.out.1, ← HY3.out.2.1, ← HY3.out.2.2]
    obtain ⟨q1, hq1⟩ : ∃ m, m = zl.length := ⟨_, rfl⟩
    obtain ⟨q2, hq2⟩ : ∃ m, m = zd.length := ⟨_, rfl⟩
    obtain ⟨q3, hq3⟩ : ∃ m, m = zx.length := ⟨_, rfl⟩
    rw [← hq1, ← hq2, ← hq3] at ho ⊢
    have HO := Lib.hid (ho.set3 lt1 (.slice a1 q1 c1) (.slice a2 q2 c2) (.slice a3 q3 c3))
    clear hb ho hq1 hq2 hq3
    obtain ⟨⟨t0, t1, t2⟩, f0, f1, f2⟩ := R5.out.at (r := w.heap.size + 1 + 1) (a := nilV) (b := nilV) (c := nilV) (by simp)
    go_wp2
    refine bodyPost_ret (v := tenV (.slice a1 q1 c1) (.slice a2 q2 c2) (.slice a3 q3 c3)) (by simp [results, Try.results27, go_sem, t0, t1, t2]) rfl ?_
    refine ⟨_, _, _, rfl, ?_, ((R5.out.bel.setCell (by simp; omega) _).setCell (by simp; omega) _).setCell (by simp; omega) _⟩
    exact HO.out.wide hz1 (by simp) (by simp)
end Go.Proofs.Ytgabcdploeledaa
namespace Go.Proofs.Ytgabcdploeledaa
set_option maxRecDepth 20000
open Go.RowKit

theorem pair_len_L (k p q : Int) (L D X L' D' X' keep : List Int) : (if pairB k p q L D X L' D' X' keep = true then keepL (joinL L L') keep else []).length ≤ 12 := by
  split
  · rename_i h; exact (sizeI_axes (pairB_parts h).2.2.2.2).1.1
  · simp
theorem pair_len_D (k p q : Int) (L D X L' D' X' keep : List Int) : (if pairB k p q L D X L' D' X' keep = true then keepD (joinL L L') (joinD L D L' D') keep else []).length ≤ 12 := by
  split
  · rename_i h
    have h1 := (sizeI_axes (pairB_parts h).2.2.2.2).1
    rw [← h1.2.1]; exact h1.1
  · simp
theorem pair_len_X (k p q : Int) (L D X L' D' X' keep : List Int) : (if pairB k p q L D X L' D' X' keep = true then pairL k p q L D X L' D' X' keep else []).length ≤ 24576 := by
  split
  · rename_i h
    obtain ⟨h1, h2, h3, -, h5⟩ := pairB_parts h
    have hrb := (tensorB_inv h1).1
    obtain ⟨wd, hw, -, hw6⟩ := width_pos hrb
    exact pairL_len hrb hw hw6 (TenF.of h1 hw) (TenF.of h2 hw) h3 h5
  · simp
theorem sum_facts {k p q : Int} {L D X : List Int} (keep : List Int) (h : tensorB k p q L D X = true) : ¬ sizeI (keepL (joinL L []) keep) (keepD (joinL L []) (joinD L D [] []) keep) < 0 := by
  have hrb := (tensorB_inv h).1
  obtain ⟨wd, hw, -, -⟩ := width_pos hrb
  have hf := TenF.of h hw
  exact (sum_fits (tensor_axes h) (by have h1 := hf.pr; have h2 := hf.n1; omega)).2.2
theorem sum_len_L (k p q : Int) (L D X keep : List Int) : (if tensorB k p q L D X = true then keepL (joinL L []) keep else []).length ≤ 12 := by
  split
  · rename_i h; exact (sizeI_axes (sum_facts keep h)).1.1
  · simp
theorem sum_len_D (k p q : Int) (L D X keep : List Int) : (if tensorB k p q L D X = true then keepD (joinL L []) (joinD L D [] []) keep else []).length ≤ 12 := by
  split
  · rename_i h
    have h1 := (sizeI_axes (sum_facts keep h)).1
    rw [← h1.2.1]; exact h1.1
  · simp
theorem sum_len_X (k p q : Int) (L D X keep : List Int) : (if tensorB k p q L D X = true then pairL k p q L D X [] [] (oneL k p q) keep else []).length ≤ 24576 := by
  split
  · rename_i h
    have hrb := (tensorB_inv h).1
    obtain ⟨wd, hw, -, hw6⟩ := width_pos hrb
    exact pairL_len hrb hw hw6 (TenF.of h hw) (one_ten hrb hw) (fun j n h => by simp at h) (sum_facts keep h)
  · simp
end Go.Proofs.Ytgabcdploeledaa
