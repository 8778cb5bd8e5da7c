
/- A join is a source; impl.SumLabels, impl.ContractPair. -/
import Derived.Test.YtgbmacppgaopfabGreatSumSrc
namespace Go.Proofs.YtgbmacppgaopfabGreat
set_option maxRecDepth 20000
open Go.RowKit

theorem join_axes_get {T1 T2 : TypeId} {x1 x2 : Value} {a aL aR : Option Addr} {m c nL cL nR cR : Nat} (W : World) :
    Calls Tryz.prog 179 #[.agg #[.slice a m c, .iface T1 x1, .iface T2 x2, .slice aL nL cL, .slice aR nR cR]] W fun e W' => e = .returned (.slice a m c) ∧ Below W.heap.size W W' := by
  go_enter Tryz.func179, Tryz.ntmps179
  go_wp2
  go_ret
  exact ⟨rfl, (Below.refl _ _).alloc (Nat.le_refl _) _⟩
/-- A join of two sources is a source. -/
theorem SrcV.join {T1 T2 : TypeId} {x1 x2 vA vL vR : Value} {Ka1 Ke1 Ka2 Ke2 N N' wd NN : Nat} {k p q : Int} {J D J' D' : List Int} {F F' : Nat → List Int} {w w' : World} (hr : ringB k p q = true) (hw : widthI k q = (wd : Int)) (h1 : SrcV w T1 x1 Ka1 Ke1 k p q J D N F) (h2 : SrcV w T2 x2 Ka2 Ke2 k p q J' D' N' F')
    (hf : FitV J D J' D') (hp : prodL (joinD J D J' D') ≤ 65536) (hNN : (prodL (joinD J D J' D')).toNat = NN) (hb : Below w.heap.size w w') (ra : RdA w'.heap.size w' vA (axesL (joinL J J') (joinD J D J' D'))) (rl : Rd w'.heap.size w' vL (ints (offsJ J D (joinL J J') (joinD J D J' D') NN))) (rr : Rd w'.heap.size w' vR (ints (offsJ J' D' (joinL J J') (joinD J D J' D') NN))) :
    SrcV w' 91 (.agg #[vA, .iface T1 x1, .iface T2 x2, vL, vR]) 179 180 k p q (joinL J J') (joinD J D J' D') NN (fun c => timesL k p (F (offJ J D (joinL J J') (joinD J D J' D') c)) (F' (offJ J' D' (joinL J J') (joinD J D J' D') c))) := by
  have hJ := h1.ax.join h2.ax
  have hJ1 : ∀ d ∈ joinD J D J' D', 1 ≤ d := fun d hd => (hJ.2.2.2.1 d hd).1
  have hpos := prodL_pos hJ1
  have hoa : ∀ c, offJ J D (joinL J J') (joinD J D J' D') c < N := fun c => by
    have h := ((SubAx.left (L' := J') (D' := D') h1.ax.2.2.2.2 h1.ax.2.1).off hJ.2.1 (fun d hd => (h1.ax.2.2.2.1 d hd).1) hJ1 hJ.2.2.2.2 c).2
    rw [h1.n] at h
    omega
  have hob : ∀ c, offJ J' D' (joinL J J') (joinD J D J' D') c < N' := fun c => by
    have h := ((SubAx.right h1.ax.2.1 h2.ax.2.2.2.2 h2.ax.2.1 hf).off hJ.2.1 (fun d hd => (h2.ax.2.2.2.1 d hd).1) hJ1 hJ.2.2.2.2 c).2
    rw [h2.n] at h
    omega
  have hel : ∀ c, ElemV k p q (timesL k p (F (offJ J D (joinL J J') (joinD J D J' D') c)) (F' (offJ J' D' (joinL J J') (joinD J D J' D') c))) := fun c => timesL_elem hr (h1.el _ (hoa c)) (h2.el _ (hob c))
  have hw1 := ring_width hr
  refine ⟨hJ, by omega, by omega, fun c _ => hel c, fun n W => join_m1 n _ W, fun n W => join_m2 n _ W, fun n W => join_m3 n _ W, fun W => join_c1 _ W, fun W a b => join_c2 _ a b W, fun W hbW _ => ?_, fun W c hc hbW => ?_⟩
  · have ra2 := (ra.below hbW (Nat.le_refl _)).mono hbW.size
    obtain ⟨a, ca, rfl⟩ := ra.form
    obtain ⟨aL, cL, rfl, -⟩ := ints_form rl
    obtain ⟨aR, cR, rfl, -⟩ := ints_form rr
    refine (join_axes_get W).mono ?_
    rintro e W' ⟨rfl, hb2⟩
    exact ⟨_, rfl, (ra2.below hb2 (Nat.le_refl _)).mono hb2.size, hb2⟩
  · refine (join_elem hr (h1.later hb) (h2.later hb) rl rr (offsJ_at hc) (offsJ_at hc) (hoa c) (hob c) hbW).mono ?_
    intro e W' h
    exact ClosF.new h (by have := (hel c).1; omega)
theorem pairB_fit {k p q : Int} {L D X L' D' X' keep : List Int} (h1 : tensorB k p q L D X = true) (h2 : tensorB k p q L' D' X' = true) (hf : FitV L D L' D') (hp : prodL (joinD L D L' D') ≤ 65536) : pairB k p q L D X L' D' X' keep = zeroTenB k p q (keepL (joinL L L') keep) (keepD (joinL L L') (joinD L D L' D') keep) := by
  unfold pairB pfB smallB zeroTenB
  rw [h1, h2, fitV_true.2 hf, decide_eq_true hp, (tensorB_inv h1).1]
  simp
set_option maxHeartbeats 6400000 in
theorem contract_pair_impl {B B' B'' : Nat} {lv dv xv lu du xu kv : Value} {k p q : Int} {L D X L' D' X' keep : List Int} {w : World} (ha : RdT B w lv dv xv L D X) (hb : RdT B' w lu du xu L' D' X') (hk : Rd B'' w kv (ints keep)) (hB : B ≤ w.heap.size) (hB' : B' ≤ w.heap.size) (hB'' : B'' ≤ w.heap.size) (hn : LenT L D X) (hn' : LenT L' D' X') (hkl : keep.length ≤ 281474976710656) (hI : allI L) (hJ : allI L') :
    Calls Tryz.prog 21 #[ringV k p q, tenV lv dv xv, tenV lu du xu, kv] w (NewTen2 w (if pairB k p q L D X L' D' X' keep = true then keepL (joinL L L') keep else []) (if pairB k p q L D X L' D' X' keep = true then keepD (joinL L L') (joinD L D L' D') keep else []) (if pairB k p q L D X L' D' X' keep = true then pairL k p q L D X L' D' X' keep else []) (pairB k p q L D X L' D' X' keep)) := by
  have HA : Hid (RdT w.heap.size w lv dv xv L D X) := Lib.hid ⟨ha.l.mono hB, ha.d.mono hB, ha.x.mono hB⟩
  have HU : Hid (RdT w.heap.size w lu du xu L' D' X') := Lib.hid ⟨hb.l.mono hB', hb.d.mono hB', hb.x.mono hB'⟩
  have HK : Hid (Rd w.heap.size w kv (ints keep)) := Lib.hid (hk.mono hB'')
  obtain ⟨al, cl, rfl, -⟩ := ints_form ha.l
  obtain ⟨ad, cd, rfl, -⟩ := ints_form ha.d
  obtain ⟨ax, cx, rfl, -⟩ := ints_form ha.x
  obtain ⟨bl, kl, rfl, -⟩ := ints_form hb.l
  obtain ⟨bd, kd, rfl, -⟩ := ints_form hb.d
  obtain ⟨bx, kx, rfl, -⟩ := ints_form hb.x
  obtain ⟨ak, ck, rfl, -⟩ := ints_form hk
  generalize L.length = m1 at HA ⊢
  generalize D.length = m2 at HA ⊢
  generalize X.length = m3 at HA ⊢
  generalize L'.length = m4 at HU ⊢
  generalize D'.length = m5 at HU ⊢
  generalize X'.length = m6 at HU ⊢
  obtain ⟨mk, hmk⟩ : ∃ m, m = keep.length := ⟨_, rfl⟩
  rw [← hmk] at HK ⊢
  have S0 : Hid (Rs w ((((w.alloc (.cells #[.int .i64 k, .int .i64 p, .int .i64 q] 24)).alloc (.cells #[.slice al m1 cl, .slice ad m2 cd, .slice ax m3 cx] 28)).alloc (.cells #[.slice bl m4 kl, .slice bd m5 kd, .slice bx m6 kx] 28)).alloc (.cells #[nilV, nilV, nilV] 28)) [(w.heap.size + 1 + 1 + 1, nilV, nilV, nilV), (w.heap.size + 1 + 1, .slice bl m4 kl, .slice bd m5 kd, .slice bx m6 kx), (w.heap.size + 1, .slice al m1 cl, .slice ad m2 cd, .slice ax m3 cx), (w.heap.size, .int .i64 k, .int .i64 p, .int .i64 q)] []) := by
    have h := ((((Rs.start w).box (.int .i64 k) (.int .i64 p) (.int .i64 q) 24).box (.slice al m1 cl) (.slice ad m2 cd) (.slice ax m3 cx) 28).box (.slice bl m4 kl) (.slice bd m5 kd) (.slice bx m6 kx) 28).box nilV nilV nilV 28
    simp only [World.size_alloc] at h
    exact h
  have HT1 := Lib.hid (tensor_ok_impl (k := k) (p := p) (n := q) (HA.out.below S0.out.bel (Nat.le_refl _)) S0.out.bel.size hn hI)
  have HT2 := Lib.hid (fun (W : World) (hb : Below w.heap.size w W) => tensor_ok_impl (k := k) (p := p) (n := q) (HU.out.below hb (Nat.le_refl _)) hb.size hn' hJ)
  obtain ⟨zb, hzb⟩ : ∃ z, z = pairB k p q L D X L' D' X' keep := ⟨_, rfl⟩
  rw [← hzb]
  obtain ⟨zl, hzl⟩ : ∃ l, l = if zb = true then keepL (joinL L L') keep else [] := ⟨_, rfl⟩
  obtain ⟨zd, hzd⟩ : ∃ l, l = if zb = true then keepD (joinL L L') (joinD L D L' D') keep else [] := ⟨_, rfl⟩
  obtain ⟨zx, hzx⟩ : ∃ l, l = if zb = true then pairL k p q L D X L' D' X' keep else [] := ⟨_, rfl⟩
  rw [← hzl, ← hzd, ← hzx]
  have HZL := Lib.hid hzl
  have HZD := Lib.hid hzd
  have HZX := Lib.hid hzx
  obtain ⟨t1b, ht1⟩ : ∃ z, z = tensorB k p q L D X := ⟨_, rfl⟩
  obtain ⟨t2b, ht2⟩ : ∃ z, z = tensorB k p q L' D' X' := ⟨_, rfl⟩
  rw [← ht1] at HT1
  rw [← ht2] at HT2
  have HC : Hid (∀ W rs, Rs w W [(w.heap.size + 1 + 1 + 1, nilV, nilV, nilV), (w.heap.size + 1 + 1, .slice bl m4 kl, .slice bd m5 kd, .slice bx m6 kx), (w.heap.size + 1, .slice al m1 cl, .slice ad m2 cd, .slice ax m3 cx), (w.heap.size, .int .i64 k, .int .i64 p, .int .i64 q)] rs → (W.cell? ⟨w.heap.size, 0, none⟩ = some (.int .i64 k) ∧ W.cell? ⟨w.heap.size, 1, none⟩ = some (.int .i64 p) ∧ W.cell? ⟨w.heap.size, 2, none⟩ = some (.int .i64 q) ∧ W.cell? ⟨w.heap.size + 1, 0, none⟩ = some (.slice al m1 cl) ∧ W.cell? ⟨w.heap.size + 1, 1, none⟩ = some (.slice ad m2 cd) ∧ W.cell? ⟨w.heap.size + 1, 2, none⟩ = some (.slice ax m3 cx) ∧ W.cell? ⟨w.heap.size + 1 + 1, 0, none⟩ = some (.slice bl m4 kl) ∧ W.cell? ⟨w.heap.size + 1 + 1, 1, none⟩ = some (.slice bd m5 kd) ∧ W.cell? ⟨w.heap.size + 1 + 1, 2, none⟩ = some (.slice bx m6 kx)) ∧ 0 < W.heap.size) := Lib.hid (fun W rs h => by
    obtain ⟨⟨r0, r1, r2⟩, -⟩ := h.at (r := w.heap.size) (a := .int .i64 k) (b := .int .i64 p) (c := .int .i64 q) (by simp)
    obtain ⟨⟨a0, a1, a2⟩, -⟩ := h.at (r := w.heap.size + 1) (a := .slice al m1 cl) (b := .slice ad m2 cd) (c := .slice ax m3 cx) (by simp)
    obtain ⟨⟨b0, b1, b2⟩, -⟩ := h.at (r := w.heap.size + 1 + 1) (a := .slice bl m4 kl) (b := .slice bd m5 kd) (c := .slice bx m6 kx) (by simp)
    exact ⟨⟨r0, r1, r2, a0, a1, a2, b0, b1, b2⟩, by have h2 := (h.bx (w.heap.size, .int .i64 k, .int .i64 p, .int .i64 q) (by simp)).lt; exact Nat.lt_of_le_of_lt (Nat.zero_le _) h2⟩)
  clear ha hb hk hB hB' hB'' hn hn' hI hzl hzd hzx
  obtain ⟨⟨r0, r1, r2, a0, a1, a2, b0, b1, b2⟩, s0⟩ := HC.out _ _ S0.out
  cases t1b with
  | false =>
    obtain rfl : zb = false := by rw [hzb]; unfold pairB; rw [← ht1]; simp
    clear hzb ht1 ht2 hJ HT2
    obtain rfl : zl = [] := by rw [HZL.out]; simp
    obtain rfl : zd = [] := by rw [HZD.out]; simp
    obtain rfl : zx = [] := by rw [HZX.out]; simp
    go_enter Tryz.func21, Tryz.ntmps21
    go_wp2_with fail
    refine HT1.out.mono ?_
    rintro e w1 ⟨rfl, hb⟩
    have S1 := Lib.hid (S0.out.step hb)
    clear hb HT1 S0
    clear r0 r1 r2 a0 a1 a2 b0 b1 b2 s0
    obtain ⟨⟨t0, t1, t2⟩, f0, f1, f2⟩ := S1.out.at (r := w.heap.size + 1 + 1 + 1) (a := nilV) (b := nilV) (c := nilV) (by simp)
    go_wp2
    refine bodyPost_ret (v := .tuple #[tenV nilV nilV nilV, .bool false]) (by simp [results, Tryz.results21, go_sem, t0, t1, t2]) rfl ?_
    exact NewTen2.nils (((S1.out.bel.setCell (by show w.heap.size ≤ w.heap.size + 1 + 1 + 1; omega) _).setCell (by show w.heap.size ≤ w.heap.size + 1 + 1 + 1; omega) _).setCell (by show w.heap.size ≤ w.heap.size + 1 + 1 + 1; omega) _)
  | true =>
  cases t2b with
  | false =>
    obtain rfl : zb = false := by rw [hzb]; unfold pairB; rw [← ht1, ← ht2]; simp
    clear hzb ht1 ht2 hJ
    obtain rfl : zl = [] := by rw [HZL.out]; simp
    obtain rfl : zd = [] := by rw [HZD.out]; simp
    obtain rfl : zx = [] := by rw [HZX.out]; simp
    go_enter Tryz.func21, Tryz.ntmps21
    go_wp2_with fail
    refine HT1.out.mono ?_
    rintro e w1 ⟨rfl, hb⟩
    have S1 := Lib.hid (S0.out.step hb)
    clear hb HT1 S0
    clear r0 r1 r2 a0 a1 a2 b0 b1 b2 s0
    obtain ⟨⟨r0, r1, r2, a0, a1, a2, b0, b1, b2⟩, s0⟩ := HC.out _ _ S1.out
    go_wp2_with fail
    refine (HT2.out _ S1.out.bel).mono ?_
    rintro e w2 ⟨rfl, hb⟩
    have S2 := Lib.hid (S1.out.step hb)
    clear hb HT2 S1
    clear r0 r1 r2 a0 a1 a2 b0 b1 b2 s0
    obtain ⟨⟨t0, t1, t2⟩, f0, f1, f2⟩ := S2.out.at (r := w.heap.size + 1 + 1 + 1) (a := nilV) (b := nilV) (c := nilV) (by simp)
    go_wp2
    refine bodyPost_ret (v := .tuple #[tenV nilV nilV nilV, .bool false]) (by simp [results, Tryz.results21, go_sem, t0, t1, t2]) rfl ?_
    exact NewTen2.nils (((S2.out.bel.setCell (by show w.heap.size ≤ w.heap.size + 1 + 1 + 1; omega) _).setCell (by show w.heap.size ≤ w.heap.size + 1 + 1 + 1; omega) _).setCell (by show w.heap.size ≤ w.heap.size + 1 + 1 + 1; omega) _)
  | true =>
    have hrb := (tensorB_inv ht1.symm).1
    obtain ⟨wd, hw, hw1, hw6⟩ := width_pos hrb
    have hF := TenF.of ht1.symm hw
    have hF' := TenF.of ht2.symm hw
    obtain ⟨N, hNN⟩ : ∃ N, N = (prodL D).toNat := ⟨_, rfl⟩
    obtain ⟨N', hNN'⟩ : ∃ N, N = (prodL D').toNat := ⟨_, rfl⟩
    rw [← hNN] at hF
    rw [← hNN'] at hF'
    have HS1 := Lib.hid (fun (W : World) (hb : Below w.heap.size w W) => SrcV.ten (N := N) (HA.out.below hb (Nat.le_refl _)) hb.size ht1.symm hw hF.pr)
    have HS2 := Lib.hid (fun (W : World) (hb : Below w.heap.size w W) => SrcV.ten (N := N') (HU.out.below hb (Nat.le_refl _)) hb.size ht2.symm hw hF'.pr)
    have HN4 : Hid (N' ≤ 4096) := Lib.hid (by have h := sizeI_ax (L := L') (D := D') (by have := (tensorB_axes ht2.symm).2; omega); omega)
    have HRW := Lib.hid (And.intro hrb hw)
    have HKL := Lib.hid (show keep.length ≤ 281474976710656 from hkl)
    have HZB := Lib.hid hzb
    have HFIT : Hid (FitV L D L' D' → prodL (joinD L D L' D') ≤ 65536 → zb = zeroTenB k p q (keepL (joinL L L') keep) (keepD (joinL L L') (joinD L D L' D') keep)) := Lib.hid (fun hf hp => hzb.trans (pairB_fit ht1.symm ht2.symm hf hp))
    have HNOT : Hid (¬ (FitV L D L' D' ∧ prodL (joinD L D L' D') ≤ 65536) → zb = false) := Lib.hid (fun h => by
      rw [hzb]
      unfold pairB pfB smallB
      by_cases hf : FitV L D L' D'
      · rw [decide_eq_false (fun hp => h ⟨hf, hp⟩)]; simp
      · rw [fitV_false hf]; simp)
    clear ht1 ht2 hzb hJ hrb hw hF hF' hNN hNN' hkl hmk
    go_enter Tryz.func21, Tryz.ntmps21
    go_wp2_with fail
    refine HT1.out.mono ?_
    rintro e w1 ⟨rfl, hb⟩
    have S1 := Lib.hid (S0.out.step hb)
    clear hb HT1 S0
    clear r0 r1 r2 a0 a1 a2 b0 b1 b2 s0
    obtain ⟨⟨r0, r1, r2, a0, a1, a2, b0, b1, b2⟩, s0⟩ := HC.out _ _ S1.out
    go_wp2_with fail
    refine (HT2.out _ S1.out.bel).mono ?_
    rintro e w2 ⟨rfl, hb⟩
    have S2 := Lib.hid (S1.out.step hb)
    clear hb HT2 S1
    clear r0 r1 r2 a0 a1 a2 b0 b1 b2 s0
    obtain ⟨⟨r0, r1, r2, a0, a1, a2, b0, b1, b2⟩, s0⟩ := HC.out _ _ S2.out
    have HJO := Lib.hid (join_of (HS1.out _ S2.out.bel) (HS2.out _ S2.out.bel) HN4.out)
    have HV1 := Lib.hid (HS1.out _ S2.out.bel)
    have HV2 := Lib.hid (HS2.out _ S2.out.bel)
    clear HS1 HS2
    go_wp2_with fail
    refine HJO.out.mono ?_
    clear HJO r0 r1 r2 a0 a1 a2 b0 b1 b2 s0
    rintro e w3 (⟨hf, hp, vA, vL, vR, rfl, rA, rL, rR, hb⟩ | ⟨hno, rfl, hb⟩)
    · have HSJ := Lib.hid (SrcV.join HRW.out.1 HRW.out.2 HV1.out HV2.out hf hp rfl hb rA rL rR)
      have HZF := Lib.hid (HFIT.out hf hp)
      obtain ⟨aA, cA, rfl⟩ := rA.form
      obtain ⟨aL, cL, rfl, -⟩ := ints_form rL
      obtain ⟨aR, cR, rfl, -⟩ := ints_form rR
      rw [offsJ_len, offsJ_len] at HSJ ⊢
      generalize (axesL (joinL L L') (joinD L D L' D')).length = nA at HSJ ⊢
      have hnew : Below w3.heap.size w3 (w3.alloc (.cells #[.slice aA nA cA, .iface 28 (tenV (.slice al m1 cl) (.slice ad m2 cd) (.slice ax m3 cx)), .iface 28 (tenV (.slice bl m4 kl) (.slice bd m5 kd) (.slice bx m6 kx)), .slice aL (prodL (joinD L D L' D')).toNat cL, .slice aR (prodL (joinD L D L' D')).toNat cR] 91)) := (Below.refl _ _).alloc (Nat.le_refl _) _
      have S3 := Lib.hid ((S2.out.step hb).step hnew)
      have hq := sum_over_join HRW.out.1 HRW.out.2 (HSJ.out.later hnew) HKL.out (HK.out.below S3.out.bel (Nat.le_refl _)) S3.out.bel.size
      rw [← HZF.out] at hq
      have hx : accL k p q (offJ (keepL (joinL L L') keep) (keepD (joinL L L') (joinD L D L' D') keep) (joinL L L') (joinD L D L' D')) (fun c => timesL k p (getL wd X (offJ L D (joinL L L') (joinD L D L' D') c)) (getL wd X' (offJ L' D' (joinL L L') (joinD L D L' D') c))) (prodL (keepD (joinL L L') (joinD L D L' D') keep)).toNat (prodL (joinD L D L' D')).toNat = pairL k p q L D X L' D' X' keep := by
        unfold pairL
        rw [HRW.out.2, Int.toNat_natCast]
        rfl
      rw [hx, ← HZL.out, ← HZD.out, ← HZX.out] at hq
      have HSO := Lib.hid hq
      have HZ1 : Hid (w.heap.size + 1 + 1 + 1 < w3.heap.size) := Lib.hid (Nat.lt_of_lt_of_le (S2.out.bx (w.heap.size + 1 + 1 + 1, nilV, nilV, nilV) (by simp)).lt hb.size)
      clear hq hx hf hp hb rA rL rR hnew HSJ S2 HZF HFIT HNOT
      generalize (prodL (joinD L D L' D')).toNat = nP at S3 HSO ⊢
      obtain ⟨⟨r0, r1, r2, a0, a1, a2, b0, b1, b2⟩, s0⟩ := HC.out _ _ S3.out
      go_wp2_with fail
      refine HSO.out.mono ?_
      rintro e w4 ⟨l5, d5, x5, rfl, ho, hb⟩
      obtain ⟨u1, n1, d1, rfl⟩ := (show Own _ _ _ l5 zl from ho.1 (l5, zl) (by simp)).slice
      obtain ⟨u2, n2, d2, rfl⟩ := (show Own _ _ _ d5 zd from ho.1 (d5, zd) (by simp)).slice
      obtain ⟨u3, n3, d3, rfl⟩ := (show Own _ _ _ x5 zx from ho.1 (x5, zx) (by simp)).slice
      have S4 := Lib.hid (S3.out.step hb)
      have HO := Lib.hid ho
      have HZ2 := Lib.hid S3.out.bel.size
      clear ho hb HSO r0 r1 r2 a0 a1 a2 b0 b1 b2 s0 S3
      obtain ⟨⟨t0, t1, t2⟩, f0, f1, f2⟩ := S4.out.at (r := w.heap.size + 1 + 1 + 1) (a := nilV) (b := nilV) (c := nilV) (by simp)
      go_wp2
      refine bodyPost_ret (v := .tuple #[tenV (.slice u1 n1 d1) (.slice u2 n2 d2) (.slice u3 n3 d3), .bool zb]) (by simp [results, Tryz.results21, go_sem, t0, t1, t2]) rfl ?_
      have HO2 := HO.out.set3 (Nat.lt_of_lt_of_le HZ1.out (by simp)) (.slice u1 n1 d1) (.slice u2 n2 d2) (.slice u3 n3 d3)
      exact ⟨_, _, _, rfl, HO2.wide HZ2.out (by simp) (by simp), ((S4.out.bel.setCell (p := ⟨w.heap.size + 1 + 1 + 1, 0, none⟩) (by show w.heap.size ≤ w.heap.size + 1 + 1 + 1; omega) _).setCell (p := ⟨w.heap.size + 1 + 1 + 1, 1, none⟩) (by show w.heap.size ≤ w.heap.size + 1 + 1 + 1; omega) _).setCell (p := ⟨w.heap.size + 1 + 1 + 1, 2, none⟩) (by show w.heap.size ≤ w.heap.size + 1 + 1 + 1; omega) _⟩
    · obtain rfl : zb = false := HNOT.out hno
      obtain rfl : zl = [] := by rw [HZL.out]; simp
      obtain rfl : zd = [] := by rw [HZD.out]; simp
      obtain rfl : zx = [] := by rw [HZX.out]; simp
      have S3 := Lib.hid ((S2.out.step hb).alloc (.cells #[nilV, .nilIface, .nilIface, nilV, nilV] 91))
      clear hno hb HFIT HNOT S2
      obtain ⟨⟨t0, t1, t2⟩, f0, f1, f2⟩ := S3.out.at (r := w.heap.size + 1 + 1 + 1) (a := nilV) (b := nilV) (c := nilV) (by simp)
      go_wp2
      refine bodyPost_ret (v := .tuple #[tenV nilV nilV nilV, .bool false]) (by simp [results, Tryz.results21, go_sem, t0, t1, t2]) rfl ?_
      exact NewTen2.nils (((S3.out.bel.setCell (by show w.heap.size ≤ w.heap.size + 1 + 1 + 1; omega) _).setCell (by show w.heap.size ≤ w.heap.size + 1 + 1 + 1; omega) _).setCell (by show w.heap.size ≤ w.heap.size + 1 + 1 + 1; omega) _)
end Go.Proofs.YtgbmacppgaopfabGreat
