
/- spec.l08Pair: the contraction, index by index. -/
import Derived.Test.YtgabcdploeledaaFitPair
import Derived.Test.YtgabcdploeledaaJoinAxes
import Derived.Test.YtgabcdploeledaaZeroTen
import Derived.Test.YtgabcdploeledaaMulElem
import Derived.Test.YtgabcdploeledaaPlusSpec
namespace Go.Proofs.Ytgabcdploeledaa
set_option maxRecDepth 20000
open Go.RowKit

/-- Two rows more, out of a call. -/
theorem Rs.new2 {w0 wr w' : World} {bs : List BxE} {rows : List RowE} {a b : Value} {x y : List Int} (h : Rs w0 wr bs rows) (hb : Below wr.heap.size wr w') (ho : OwnG w' wr.heap.size w'.heap.size [(a, x), (b, y)]) : Rs w0 w' bs ((a, x) :: (b, y) :: rows) := by
  have h1 := h.step hb
  have hlo : ∀ r ∈ [(a, x), (b, y)], ∀ g, r.1.ownBlock = some g → wr.heap.size ≤ g := fun r hr g hg => (ho.1 r hr).lo g hg
  have e : (a, x) :: (b, y) :: rows = [(a, x), (b, y)] ++ rows := rfl
  rw [e]
  refine ⟨h1.bel, fun r hr => ?_, List.pairwise_append.2 ⟨ho.2, h.apart, fun r hr s hs g hg e => ?_⟩, h1.bx, fun b hm r hr => ?_, h.dis⟩
  · rcases List.mem_append.1 hr with hr | hr
    · have hq := ho.1 r hr
      exact ⟨hq.1.1, hq.1.2.imp id (fun ⟨g, cap, cur, e, hb, q⟩ => ⟨g, cap, cur, e, Nat.le_trans h.bel.size hb, q⟩)⟩
    · exact h1.own r hr
  · have h2 := hlo r hr g hg
    have h3 := ((h.own s hs).lt g e).2
    omega
  · rcases List.mem_append.1 hr with hr | hr
    · intro e
      have h2 := hlo r hr _ e
      have h3 := (h.bx b hm).lt
      omega
    · exact h.far b hm r hr
/-- What is asked of a tensor that is contracted. -/
structure TenF (k p q : Int) (L D X : List Int) (wd N : Nat) : Prop where
  ax : AxesV L D
  pr : prodL D = (N : Int)
  n1 : 1 ≤ N ∧ N ≤ 4096
  lX : X.length = N * wd
  wX : Within (topI k p q) X
theorem TenF.of {k p q : Int} {L D X : List Int} {wd : Nat} (ht : tensorB k p q L D X = true) (hw : widthI k q = (wd : Int)) : TenF k p q L D X wd (prodL D).toNat := by
  have hp := PF.of ht (setV_perm (List.Perm.refl L) (tensor_axes ht).2.2.2.2)
  refine ⟨tensor_axes ht, hp.pD, hp.n1, ?_, (tensorB_inv ht).2.2.2⟩
  have h := hp.lX
  rw [hw, Int.toNat_natCast] at h
  exact h
theorem TenF.dim {k p q : Int} {L D X : List Int} {wd N : Nat} (h : TenF k p q L D X wd N) : ∀ d ∈ D, 1 ≤ d := fun d hd => (h.ax.2.2.2.1 d hd).1
theorem repL_gather (z : List Int) (M : Nat) : repL z M = gatherL (fun _ => z) M := by
  induction M with
  | zero => rfl
  | succ M ih => rw [repL_succ, ih, gather_succ]
set_option maxHeartbeats 64000000 in
theorem pair_spec {B : Nat} {lv dv xv lu du xu kv : Value} {k p q : Int} {L D X L' D' X' keep : List Int} {wd N1 N2 : Nat} {w : World} (ha : RdT B w lv dv xv L D X) (hb : RdT B w lu du xu L' D' X') (hk : Rd B w kv (ints keep)) (hB : B ≤ w.heap.size) (hr : ringB k p q = true) (hw : widthI k q = (wd : Int)) (hw1 : 1 ≤ wd) (hw6 : wd ≤ 6) (fa : TenF k p q L D X wd N1) (fb : TenF k p q L' D' X' wd N2) (hf : FitV L D L' D') (hP : prodL (joinD L D L' D') ≤ 65536) (hK : ¬ sizeI (keepL (joinL L L') keep) (keepD (joinL L L') (joinD L D L' D') keep) < 0) (hkl : keep.length ≤ 281474976710656) :
    Calls Try.prog 57 #[ringV k p q, tenV lv dv xv, tenV lu du xu, kv] w (NewTen w (keepL (joinL L L') keep) (keepD (joinL L L') (joinD L D L' D') keep) (pairL k p q L D X L' D' X' keep)) := by
  have HA : Hid (RdT w.heap.size w lv dv xv L D X) := Lib.hid ⟨ha.l.mono hB, ha.d.mono hB, ha.x.mono hB⟩
  have HU : Hid (RdT w.heap.size w lu du xu L' D' X') := Lib.hid ⟨hb.l.mono hB, hb.d.mono hB, hb.x.mono hB⟩
  have HK : Hid (Rd w.heap.size w kv (ints keep)) := Lib.hid (hk.mono hB)
  obtain ⟨al, cl, rfl, -⟩ := ints_form ha.l
  obtain ⟨ad, cd, rfl, -⟩ := ints_form ha.d
  obtain ⟨ax, cx, rfl, -⟩ := ints_form ha.x
  obtain ⟨bl, kl, rfl, -⟩ := ints_form hb.l
  obtain ⟨bd, kd, rfl, -⟩ := ints_form hb.d
  obtain ⟨bx, kx, rfl, -⟩ := ints_form hb.x
  obtain ⟨ak, ck, rfl, -⟩ := ints_form hk
  obtain ⟨mk, hmk⟩ : ∃ m, m = keep.length := ⟨_, rfl⟩
  rw [← hmk] at HK ⊢
  obtain ⟨m1, hm1⟩ : ∃ m, m = L.length := ⟨_, rfl⟩
  obtain ⟨m3, hm3⟩ : ∃ m, m = X.length := ⟨_, rfl⟩
  obtain ⟨m4, hm4⟩ : ∃ m, m = L'.length := ⟨_, rfl⟩
  obtain ⟨m6, hm6⟩ : ∃ m, m = X'.length := ⟨_, rfl⟩
  have ed : D.length = m1 := by rw [hm1]; exact fa.ax.2.1.symm
  have ed' : D'.length = m4 := by rw [hm4]; exact fb.ax.2.1.symm
  rw [← hm1, ed, ← hm3] at HA ⊢
  rw [← hm4, ed', ← hm6] at HU ⊢
  have HFA := Lib.hid fa
  have HFB := Lib.hid fb
  have HX : Hid (X.length ≤ 24576 ∧ X'.length ≤ 24576) := Lib.hid ⟨by rw [fa.lX]; exact Nat.le_trans (Nat.mul_le_mul fa.n1.2 hw6) (by omega), by rw [fb.lX]; exact Nat.le_trans (Nat.mul_le_mul fb.n1.2 hw6) (by omega)⟩
  have HJA := joinD_ax fa.ax fb.ax
  have HKA := sizeI_axes hK
  have SJA : SubAx L D (joinL L L') (joinD L D L' D') := SubAx.left fa.ax.2.2.2.2 fa.ax.2.1
  have SJB : SubAx L' D' (joinL L L') (joinD L D L' D') := SubAx.right fa.ax.2.1 fb.ax.2.2.2.2 fb.ax.2.1 hf
  have SJK := SubAx.keep (JD := joinD L D L' D') keep HJA.2.1
  have HJN := Lib.hid (fun (w1 : World) (hb : Below w.heap.size w w1) => join_spec (HA.out.below hb (Nat.le_refl _)) (HU.out.below hb (Nat.le_refl _)) hb.size hb.size fa.ax fb.ax)
  rw [fitV_true.2 hf] at HJN
  simp only [if_true] at HJN
  have hpl : pairL k p q L D X L' D' X' keep = accL k p q (offJ (keepL (joinL L L') keep) (keepD (joinL L L') (joinD L D L' D') keep) (joinL L L') (joinD L D L' D')) (termJ k p wd L D X L' D' X' (joinL L L') (joinD L D L' D')) (prodL (keepD (joinL L L') (joinD L D L' D') keep)).toNat (prodL (joinD L D L' D')).toNat := by
    unfold pairL
    rw [hw, Int.toNat_natCast]
  rw [hpl]
  obtain ⟨J, hJ⟩ : ∃ l, l = joinL L L' := ⟨_, rfl⟩
  obtain ⟨JD, hJD⟩ : ∃ l, l = joinD L D L' D' := ⟨_, rfl⟩
  rw [← hJ, ← hJD] at HJA HKA SJA SJB SJK HJN ⊢
  rw [← hJD] at hP
  obtain ⟨KZ, hKL⟩ : ∃ l, l = keepL J keep := ⟨_, rfl⟩
  obtain ⟨KD, hKD⟩ : ∃ l, l = keepD J JD keep := ⟨_, rfl⟩
  rw [← hKL, ← hKD] at HKA SJK ⊢
  have HKS := Lib.hid (fun (w1 : World) (hb : Below w.heap.size w w1) {u v : Value} (r1 : Rd w1.heap.size w1 u (ints J)) (r2 : Rd w1.heap.size w1 v (ints JD)) => keep_spec (keep := keep) (w := w1) r1 r2 ((HK.out.below hb (Nat.le_refl _)).mono hb.size) (Nat.le_refl _) HJA.2.2.2 HJA.2.1 HJA.2.2.1 hkl)
  rw [← hKL, ← hKD] at HKS
  have hJ1 : ∀ d ∈ JD, 1 ≤ d := fun d hd => (HJA.1 d hd).1
  have hK1 : ∀ d ∈ KD, 1 ≤ d := fun d hd => (HKA.1.2.2.2.1 d hd).1
  obtain ⟨N, hN⟩ : ∃ n, n = (prodL JD).toNat := ⟨_, rfl⟩
  obtain ⟨M, hM⟩ : ∃ n, n = (prodL KD).toNat := ⟨_, rfl⟩
  have hNP : prodL JD = (N : Int) := by have := prodL_pos hJ1; omega
  have hMP : prodL KD = (M : Int) := by omega
  have hN2 : N ≤ 65536 := by omega
  have hM2 : M ≤ 4096 ∧ 1 ≤ M := by omega
  rw [← hN, ← hM]
  have HCW : Hid (capW JD = (N : Int)) := Lib.hid (by have h := (capW_is hJ1).1; omega)
  have HCI : Hid (capI KD = (M : Int)) := Lib.hid (by have h := (capI_is hK1).1; omega)
  obtain ⟨xf, hxf⟩ : ∃ f, f = offJ L D J JD := ⟨_, rfl⟩
  obtain ⟨yf, hyf⟩ : ∃ f, f = offJ L' D' J JD := ⟨_, rfl⟩
  obtain ⟨zf, hzf⟩ : ∃ f, f = offJ KZ KD J JD := ⟨_, rfl⟩
  obtain ⟨tf, htf⟩ : ∃ f, f = termJ k p wd L D X L' D' X' J JD := ⟨_, rfl⟩
  rw [← hzf, ← htf]
  obtain ⟨nJ, hnJ⟩ : ∃ n, n = J.length := ⟨_, rfl⟩
  obtain ⟨nK, hnK⟩ : ∃ n, n = KZ.length := ⟨_, rfl⟩
  have hnJ2 : nJ ≤ 24 := by rw [hnJ]; exact HJA.2.2.1
  have hnK2 : nK ≤ 12 := by rw [hnK]; exact HKA.1.1
  have HXF : Hid (∀ n : Nat, (xf n : Int) = dotP (idxL JD (n : Int)) (stepL L D J) nJ ∧ xf n < N1) := Lib.hid (fun n => by
    have h := SJA.off HJA.2.2.2 fa.dim hJ1 HJA.2.1 n
    rw [← hxf, ← hnJ, fa.pr] at h
    exact ⟨h.1, by have := h.2; omega⟩)
  have HYF : Hid (∀ n : Nat, (yf n : Int) = dotP (idxL JD (n : Int)) (stepL L' D' J) nJ ∧ yf n < N2) := Lib.hid (fun n => by
    have h := SJB.off HJA.2.2.2 fb.dim hJ1 HJA.2.1 n
    rw [← hyf, ← hnJ, fb.pr] at h
    exact ⟨h.1, by have := h.2; omega⟩)
  have HZF : Hid (∀ n : Nat, (zf n : Int) = dotP (idxL JD (n : Int)) (stepL KZ KD J) nJ ∧ zf n < M) := Lib.hid (fun n => by
    have h := SJK.off HJA.2.2.2 hK1 hJ1 HJA.2.1 n
    rw [← hzf, ← hnJ, hMP] at h
    exact ⟨h.1, by have := h.2; omega⟩)
  have HTF : Hid (∀ n, n < N → ElemV k p q (tf n)) := Lib.hid (fun n _ => by
    rw [htf]
    exact termJ_elem hr hw fa.lX fb.lX fa.wX fb.wX (by rw [← hxf]; exact (HXF.out n).2) (by rw [← hyf]; exact (HYF.out n).2))
  have HTE : Hid (∀ n, timesL k p (getL wd X (xf n)) (getL wd X' (yf n)) = tf n) := Lib.hid (fun n => by rw [htf, hxf, hyf]; rfl)
  have HIS : Hid (∀ (n : Int) i, 0 ≤ (idxL JD n).getD i 0 ∧ (idxL JD n).getD i 0 ≤ 7) := Lib.hid (fun n i => idxL_small HJA.1 n i)
  have HSS : Hid ((∀ i, 0 ≤ (stepL L D J).getD i 0 ∧ (stepL L D J).getD i 0 ≤ 4096) ∧ (∀ i, 0 ≤ (stepL L' D' J).getD i 0 ∧ (stepL L' D' J).getD i 0 ≤ 4096) ∧ (∀ i, 0 ≤ (stepL KZ KD J).getD i 0 ∧ (stepL KZ KD J).getD i 0 ≤ 4096)) := Lib.hid ⟨fun i => stepL_small fa.dim (by rw [fa.pr]; have := fa.n1; omega) i, fun i => stepL_small fb.dim (by rw [fb.pr]; have := fb.n1; omega) i, fun i => stepL_small hK1 (by omega) i⟩
  have HSA := Lib.hid (fun (w1 : World) (hb : Below w.heap.size w w1) {u : Value} (r1 : Rd w1.heap.size w1 u (ints J)) => steps_spec (w := w1) (have h := HA.out.below hb (Nat.le_refl _); ⟨h.l.mono hb.size, h.d.mono hb.size, h.x.mono hb.size⟩) r1 (Nat.le_refl _) fa.ax (by rw [fa.pr]; have := fa.n1; omega) HJA.2.1 HJA.2.2.1 SJA.sub)
  have HSB := Lib.hid (fun (w1 : World) (hb : Below w.heap.size w w1) {u : Value} (r1 : Rd w1.heap.size w1 u (ints J)) => steps_spec (w := w1) (have h := HU.out.below hb (Nat.le_refl _); ⟨h.l.mono hb.size, h.d.mono hb.size, h.x.mono hb.size⟩) r1 (Nat.le_refl _) fb.ax (by rw [fb.pr]; have := fb.n1; omega) HJA.2.1 HJA.2.2.1 SJB.sub)
  have HSO := Lib.hid (fun (w1 : World) {u lz dz xz : Value} {Z : List Int} (rt : RdT w1.heap.size w1 lz dz xz KZ KD Z) (r1 : Rd w1.heap.size w1 u (ints J)) => steps_spec (w := w1) rt r1 (Nat.le_refl _) HKA.1 HKA.2.2.1 HJA.2.1 HJA.2.2.1 SJK.sub)
  obtain ⟨sA, hsA⟩ : ∃ l, l = stepL L D J := ⟨_, rfl⟩
  obtain ⟨sB, hsB⟩ : ∃ l, l = stepL L' D' J := ⟨_, rfl⟩
  obtain ⟨sO, hsO⟩ : ∃ l, l = stepL KZ KD J := ⟨_, rfl⟩
  rw [← hsA] at HXF HSS HSA
  rw [← hsB] at HYF HSS HSB
  rw [← hsO] at HZF HSS HSO
  have HSL : Hid (sA.length = nJ ∧ sB.length = nJ ∧ sO.length = nJ) := Lib.hid ⟨by rw [hsA, stepL_len, hnJ], by rw [hsB, stepL_len, hnJ], by rw [hsO, stepL_len, hnJ]⟩
  have HLL : Hid (J.length = nJ ∧ JD.length = nJ ∧ KZ.length = nK ∧ KD.length = nK) := Lib.hid ⟨hnJ.symm, by rw [hnJ]; exact HJA.2.2.2.symm, hnK.symm, by rw [hnK]; exact HKA.1.2.1.symm⟩
  have HJD := Lib.hid hJ1
  have HJR := Lib.hid HJA.1
  have HKDR : Hid (∀ d ∈ KD, 1 ≤ d ∧ d ≤ 8) := Lib.hid HKA.1.2.2.2.1
  have HRG := Lib.hid hr
  have HW := Lib.hid hw
  have HAL : Hid (∀ c, c ≤ N → (accL k p q zf tf M c).length = M * wd) := Lib.hid (fun c hc => acc_len hr hw HTF.out hc)
  have HAG : Hid (∀ c, c ≤ N → getL wd (accL k p q zf tf M c) (zf c) = accE k p q zf tf c (zf c)) := Lib.hid (fun c hc => acc_get hr hw HTF.out hc (HZF.out c).2)
  have HAE : Hid (∀ c, c ≤ N → ElemV k p q (accE k p q zf tf c (zf c))) := Lib.hid (fun c hc => accE_elem hr HTF.out c hc _)
  have HAP : Hid (∀ c, c < N → putL (accL k p q zf tf M c) (zf c * wd) (plusL k p (accE k p q zf tf c (zf c)) (tf c)) = accL k p q zf tf M (c + 1)) := Lib.hid (fun c hc => acc_put hr hw HTF.out hc (HZF.out c).2)
  have HGX : Hid (∀ c, ElemV k p q (getL wd X (xf c)) ∧ ElemV k p q (getL wd X' (yf c))) := Lib.hid (fun c => ⟨getL_elem hw fa.lX fa.wX (HXF.out c).2, getL_elem hw fb.lX fb.wX (HYF.out c).2⟩)
  have HMW : Hid (M * wd ≤ 24576) := Lib.hid (Nat.le_trans (Nat.mul_le_mul hM2.1 hw6) (by omega))
  have HZW : Hid ((zeroL k p q).length = wd) := Lib.hid (by have h := (zeroL_elem hr).1; omega)
  obtain ⟨mz, hmz⟩ : ∃ m, m = M * wd := ⟨_, rfl⟩
  have HMZ := Lib.hid hmz
  have R0 : Hid (Rs w ((((w.alloc (.cells #[.int .i64 k, .int .i64 p, .int .i64 q] 31)).alloc (.cells #[.slice al m1 cl, .slice ad m1 cd, .slice ax m3 cx] 28)).alloc (.cells #[.slice bl m4 kl, .slice bd m4 kd, .slice bx m6 kx] 28)).alloc (.cells #[nilV, nilV, nilV] 28)) [(w.heap.size + 1 + 1 + 1, nilV, nilV, nilV), (w.heap.size + 1 + 1, .slice bl m4 kl, .slice bd m4 kd, .slice bx m6 kx), (w.heap.size + 1, .slice al m1 cl, .slice ad m1 cd, .slice ax m3 cx), (w.heap.size, .int .i64 k, .int .i64 p, .int .i64 q)] []) := by
    have h := ((((Rs.start w).box (.int .i64 k) (.int .i64 p) (.int .i64 q) 31).box (.slice al m1 cl) (.slice ad m1 cd) (.slice ax m3 cx) 28).box (.slice bl m4 kl) (.slice bd m4 kd) (.slice bx m6 kx) 28).box nilV nilV nilV 28
    simp only [World.size_alloc] at h
    exact h
  have HN1 := Lib.hid (And.intro fa.n1 fb.n1)
  have HM34 := Lib.hid (And.intro hm3 hm6)
  obtain ⟨i0, hi, hz0, hz1, hz2⟩ := info_parts infoInt
  have J0 := Lib.hid hi
  have J1 := Lib.hid hz0
  have J2 := Lib.hid hz1
  have J3 := Lib.hid hz2
  clear ha hb hk hB fa fb hf hP hK hkl HJA HKA SJA SJB SJK hpl hJ hJD hKL hKD hJ1 hK1 hN hM hNP hMP hxf hyf hzf htf hnJ hnK hsA hsB hsO hmz hm1 hm3 hm4 hm6 ed ed' hr hw hi hz0 hz1 hz2 hmk
  obtain ⟨⟨a0, a1, a2⟩, -⟩ := R0.out.at (r := w.heap.size + 1) (a := .slice al m1 cl) (b := .slice ad m1 cd) (c := .slice ax m3 cx) (by simp)
  obtain ⟨⟨b0, b1, b2⟩, -⟩ := R0.out.at (r := w.heap.size + 1 + 1) (a := .slice bl m4 kl) (b := .slice bd m4 kd) (c := .slice bx m6 kx) (by simp)
  go_enter Try.func57, Try.ntmps57
  go_wp2_with fail
  refine (HJN.out _ R0.out.bel).mono ?_
  clear a0 a1 a2 b0 b1 b2
  rintro e w1 ⟨u, v, rfl, ho, hb⟩
  obtain ⟨g1, c1, rfl, -⟩ := ints_form (show Own _ _ _ u J from ho.1 (u, J) (by simp)).rd
  obtain ⟨g2, c2, rfl, -⟩ := ints_form (show Own _ _ _ v JD from ho.1 (v, JD) (by simp)).rd
  rw [HLL.out.1, HLL.out.2.1] at ho ⊢
  have R1 := Lib.hid (R0.out.new2 hb ho)
  clear ho hb R0
  have HQ := Lib.hid (HKS.out w1 R1.out.bel (u := .slice g1 nJ c1) (v := .slice g2 nJ c2) (R1.out.rd (by simp)) (R1.out.rd (by simp)))
  go_wp2_with fail
  refine HQ.out.mono ?_
  rintro e w2 ⟨v1, v2, v3, rfl, ho, hb⟩
  obtain ⟨g3, c3, rfl, -⟩ := ints_form ho.rows.1.rd
  obtain ⟨g4, c4, rfl, -⟩ := ints_form ho.rows.2.1.rd
  obtain ⟨g5, c5, rfl, -⟩ := ints_form ho.rows.2.2.rd
  rw [HLL.out.2.2.1, HLL.out.2.2.2] at ho ⊢
  have R2 := Lib.hid (R1.out.new3 hb ho)
  have R3 := Lib.hid (R2.out.box (.slice g3 nK c3) (.slice g4 nK c4) (.slice g5 0 c5) 28)
  clear ho hb HQ R1
  obtain ⟨ob, hob⟩ : ∃ b, b = w2.heap.size := ⟨_, rfl⟩
  obtain ⟨wk, hwk⟩ : ∃ W, W = w2.alloc (.cells #[.slice g3 nK c3, .slice g4 nK c4, .slice g5 0 c5] 28) := ⟨_, rfl⟩
  have HZT := Lib.hid (zero_ten_spec (w := w2.alloc (.cells #[.slice g3 nK c3, .slice g4 nK c4, .slice g5 0 c5] 28)) (k := k) (p := p) (q := q) M (R3.out.rd (v := .slice g3 nK c3) (xs := KZ) (by simp)) (R3.out.rd (v := .slice g4 nK c4) (xs := KD) (by simp)) (Nat.le_refl _) (by rw [HLL.out.2.2.1]; omega) (by rw [HLL.out.2.2.2]; omega) HRG.out HKDR.out HCI.out (by omega))
  obtain ⟨⟨o0, o1, o2⟩, -⟩ := R3.out.at (r := w2.heap.size) (a := .slice g3 nK c3) (b := .slice g4 nK c4) (c := .slice g5 0 c5) (by simp)
  obtain ⟨⟨r0, r1, r2⟩, -⟩ := R3.out.at (r := w.heap.size) (a := .int .i64 k) (b := .int .i64 p) (c := .int .i64 q) (by simp)
  clear hob hwk R2
  go_wp2_with fail
  refine HZT.out.mono ?_
  clear o0 o1 o2 r0 r1 r2
  rintro e w4 ⟨v1, v2, v3, rfl, ho, hb⟩
  have HRL : Hid ((repL (zeroL k p q) M).length = mz) := Lib.hid (by rw [repL_len, HZW.out, HMZ.out])
  have HR0 : Hid (repL (zeroL k p q) M = accL k p q zf tf M 0) := Lib.hid (repL_gather _ _)
  obtain ⟨z1, e1, rfl, -⟩ := ints_form ho.rows.1.rd
  obtain ⟨z2, e2, rfl, -⟩ := ints_form ho.rows.2.1.rd
  obtain ⟨z3, e3, rfl, -⟩ := ints_form ho.rows.2.2.rd
  rw [HLL.out.2.2.1, HLL.out.2.2.2, HRL.out, HR0.out] at ho
  rw [HLL.out.2.2.1, HLL.out.2.2.2, HRL.out]
  have R4 := Lib.hid (R3.out.new3 hb ho)
  obtain ⟨ob, hob⟩ : ∃ b, b = w2.heap.size := ⟨_, rfl⟩
  rw [← hob] at R4 ⊢
  have R6 := Lib.hid (((R4.out.set3 (.slice z1 nK e1) (.slice z2 nK e2) (.slice z3 mz e3)).sub (rows' := [(.slice z1 nK e1, KZ), (.slice z2 nK e2, KD), (.slice z3 mz e3, accL k p q zf tf M 0), (.slice g1 nJ c1, J), (.slice g2 nJ c2, JD)]) (List.Sublist.cons_cons _ (List.Sublist.cons_cons _ (List.Sublist.cons_cons _ (List.Sublist.cons _ (List.Sublist.cons _ (List.Sublist.cons _ (List.Sublist.refl _)))))))).third)
  obtain ⟨⟨o0, o1, o2⟩, f0, f1, f2⟩ := R4.out.at (r := ob) (a := .slice g3 nK c3) (b := .slice g4 nK c4) (c := .slice g5 0 c5) (by simp)
  generalize hbs : [(ob, Value.slice z1 nK e1, Value.slice z2 nK e2, Value.slice z3 mz e3), (w.heap.size + 1 + 1 + 1, nilV, nilV, nilV), (w.heap.size + 1 + 1, .slice bl m4 kl, .slice bd m4 kd, .slice bx m6 kx), (w.heap.size + 1, .slice al m1 cl, .slice ad m1 cd, .slice ax m3 cx), (w.heap.size, .int .i64 k, .int .i64 p, .int .i64 q)] = bs at R6
  have HBS := Lib.hid hbs
  clear ho hb HRL HR0 R3 R4 HZT hob hbs
  obtain ⟨⟨a0, a1, a2⟩, -⟩ := R6.out.at (r := w.heap.size + 1) (a := .slice al m1 cl) (b := .slice ad m1 cd) (c := .slice ax m3 cx) (by rw [← HBS.out]; simp)
  go_wp2_with fail
  refine (HSA.out _ R6.out.bel (u := .slice g1 nJ c1) (R6.out.rd (by simp))).mono ?_
  clear o0 o1 o2 f0 f1 f2 a0 a1 a2
  rintro e w5 ⟨v, rfl, ho, hb⟩
  obtain ⟨s1, d1, rfl, -⟩ := ints_form ho.rd
  rw [HSL.out.1] at ho ⊢
  have R7 := Lib.hid (R6.out.new hb ho)
  clear ho hb R6
  obtain ⟨⟨b0, b1, b2⟩, -⟩ := R7.out.at (r := w.heap.size + 1 + 1) (a := .slice bl m4 kl) (b := .slice bd m4 kd) (c := .slice bx m6 kx) (by rw [← HBS.out]; simp)
  go_wp2_with fail
  refine (HSB.out _ R7.out.bel (u := .slice g1 nJ c1) (R7.out.rd (by simp))).mono ?_
  clear b0 b1 b2
  rintro e w6 ⟨v, rfl, ho, hb⟩
  obtain ⟨s2, d2, rfl, -⟩ := ints_form ho.rd
  rw [HSL.out.2.1] at ho ⊢
  have R8 := Lib.hid (R7.out.new hb ho)
  clear ho hb R7
  obtain ⟨⟨o0, o1, o2⟩, -⟩ := R8.out.at (r := ob) (a := .slice z1 nK e1) (b := .slice z2 nK e2) (c := .slice z3 mz e3) (by rw [← HBS.out]; simp)
  go_wp2_with fail
  refine (HSO.out w6 (u := .slice g1 nJ c1) (lz := .slice z1 nK e1) (dz := .slice z2 nK e2) (xz := .slice z3 mz e3) (Z := accL k p q zf tf M 0) ⟨R8.out.rd (by simp), R8.out.rd (by simp), R8.out.rd (by simp)⟩ (R8.out.rd (by simp))).mono ?_
  clear o0 o1 o2
  rintro e w7 ⟨v, rfl, ho, hb⟩
  obtain ⟨s3, d3, rfl, -⟩ := ints_form ho.rd
  rw [HSL.out.2.2] at ho ⊢
  have R9 := Lib.hid (R8.out.new hb ho).fourth
  clear ho hb R8
  go_wp2_with (at_make; go_must (refine wpList_make_full _ rfl _ _ 24 rfl w7.heap.size 3 i0 (.int .i64 0) 1 Try.underlying24 J0.out J1.out J2.out .i64 .i64 _ _ nJ rfl rfl rfl rfl (by rw [J3.out]; omega) (by unfold maxLen; omega) (Nat.le_refl _) ?_))
  intro w8 hown hgrow
  have R10 := Lib.hid (R9.out.made (n := nJ) (w' := w8) (by simp only [Value.cells, Nat.mul_one] at hown ⊢; exact hown) hgrow)
  have HI0 : Hid (List.replicate nJ (0 : Int) = idxL JD ((0 : Nat) : Int)) := Lib.hid (by rw [← HLL.out.2.1]; exact (idxL_zero JD HJD.out).symm)
  rw [HI0.out] at R10
  obtain ⟨gi, hgi⟩ : ∃ g, g = w7.heap.size := ⟨_, rfl⟩
  rw [← hgi] at R10 ⊢
  clear hown hgrow R9 HI0 hgi
  have HPW := Lib.hid (product_work (R10.out.rd (v := .slice g2 nJ c2) (xs := JD) (by simp)) (by rw [HLL.out.2.1]; omega) HJR.out)
  rw [HCW.out] at HPW
  go_wp2_with fail
  refine HPW.out.mono ?_
  rintro e w9 ⟨rfl, rfl⟩
  clear HPW
  go_wp2
  go_loopw [17] (fun i wr => ∃ c : Nat, c ≤ N ∧ i = .int .i64 ((N : Int) - (c : Int)) ∧ Hid (Rs w wr bs [(.slice (some ⟨gi, 0, none⟩) nJ nJ, idxL JD (c : Int)), (.slice z3 mz e3, accL k p q zf tf M c), (.slice s3 nJ d3, sO), (.slice s2 nJ d2, sB), (.slice s1 nJ d1, sA), (.slice z1 nK e1, KZ), (.slice z2 nK e2, KD), (.slice g1 nJ c1, J), (.slice g2 nJ c2, JD)])) (fun i _ => (intOf i).toNat)
  case atStart => exact ⟨0, by omega, by go_num, R10⟩
  case round =>
    clear R10
    obtain ⟨c, hc, rfl, HR⟩ := hrel
    by_cases hlt : c < N
    · have q0 : (0 : Int) < (N : Int) - (c : Int) := by omega
      have hix := HIS.out (c : Int)
      have HIX := Lib.hid hix
      clear hix
      go_wp2
      go_loop [18, 19, 20, 61] (fun x y z i => ∃ (j : Nat) (dx dy dz : Int), j ≤ nJ ∧ i = .int .i64 j ∧ x = .int .i64 dx ∧ y = .int .i64 dy ∧ z = .int .i64 dz ∧ 0 ≤ dx ∧ dx ≤ 28672 * j ∧ 0 ≤ dy ∧ dy ≤ 28672 * j ∧ 0 ≤ dz ∧ dz ≤ 28672 * j ∧ Hid (dx = dotP (idxL JD (c : Int)) sA j ∧ dy = dotP (idxL JD (c : Int)) sB j ∧ dz = dotP (idxL JD (c : Int)) sO j)) (fun _ _ _ i => nJ - (intOf i).toNat)
      case atStart => exact ⟨0, 0, 0, 0, by omega, rfl, rfl, rfl, rfl, by omega, by omega, by omega, by omega, by omega, by omega, Lib.hid ⟨rfl, rfl, rfl⟩⟩
      case round =>
        obtain ⟨j, dx, dy, dz, hj, rfl, rfl, rfl, rfl, hx0, hx1, hy0, hy1, hz0, hz1, HDO⟩ := hrel
        by_cases hjl : j < nJ
        · obtain ⟨kk, X1⟩ : ∃ x, Hid ((idxL JD (c : Int))[j]? = some x) := ⟨_, List.getElem?_eq_getElem (by rw [idxL_len, HLL.out.2.1]; exact hjl)⟩
          obtain ⟨pa, X2⟩ : ∃ x, Hid (sA[j]? = some x) := ⟨_, List.getElem?_eq_getElem (by rw [HSL.out.1]; exact hjl)⟩
          obtain ⟨pb, X3⟩ : ∃ x, Hid (sB[j]? = some x) := ⟨_, List.getElem?_eq_getElem (by rw [HSL.out.2.1]; exact hjl)⟩
          obtain ⟨po, X4⟩ : ∃ x, Hid (sO[j]? = some x) := ⟨_, List.getElem?_eq_getElem (by rw [HSL.out.2.2]; exact hjl)⟩
          obtain ⟨gi', oi, ei, -, f1⟩ := (HR.out.rd (v := .slice (some ⟨gi, 0, none⟩) nJ nJ) (xs := idxL JD (c : Int)) (by simp)).cellAt X1.out
          cases ei
          rw [Nat.zero_add] at f1
          obtain ⟨bA, oA, rfl, -, f2⟩ := (HR.out.rd (v := .slice s1 nJ d1) (xs := sA) (by simp)).cellAt X2.out
          obtain ⟨bB, oB, rfl, -, f3⟩ := (HR.out.rd (v := .slice s2 nJ d2) (xs := sB) (by simp)).cellAt X3.out
          obtain ⟨bO, oO, rfl, -, f4⟩ := (HR.out.rd (v := .slice s3 nJ d3) (xs := sO) (by simp)).cellAt X4.out
          have k1 := HIX.out j
          have k2 := HSS.out.1 j
          have k3 := HSS.out.2.1 j
          have k4 := HSS.out.2.2 j
          rw [getD_at X1.out] at k1
          rw [getD_at X2.out] at k2
          rw [getD_at X3.out] at k3
          rw [getD_at X4.out] at k4
          have n2 : 0 ≤ kk * pa ∧ kk * pa ≤ 28672 := ⟨Int.mul_nonneg k1.1 k2.1, Int.le_trans (Int.mul_le_mul k1.2 k2.2 k2.1 (by omega)) (by omega)⟩
          have n3 : 0 ≤ kk * pb ∧ kk * pb ≤ 28672 := ⟨Int.mul_nonneg k1.1 k3.1, Int.le_trans (Int.mul_le_mul k1.2 k3.2 k3.1 (by omega)) (by omega)⟩
          have n4 : 0 ≤ kk * po ∧ kk * po ≤ 28672 := ⟨Int.mul_nonneg k1.1 k4.1, Int.le_trans (Int.mul_le_mul k1.2 k4.2 k4.1 (by omega)) (by omega)⟩
          have w2 : IntKind.i64.wrap (kk * pa) = kk * pa := IntWalk.i64_in _ (by omega)
          have w3 : IntKind.i64.wrap (kk * pb) = kk * pb := IntWalk.i64_in _ (by omega)
          have w4 : IntKind.i64.wrap (kk * po) = kk * po := IntWalk.i64_in _ (by omega)
          have w5 : IntKind.i64.wrap (dx + kk * pa) = dx + kk * pa := IntWalk.i64_in _ (by omega)
          have w6 : IntKind.i64.wrap (dy + kk * pb) = dy + kk * pb := IntWalk.i64_in _ (by omega)
          have w7 : IntKind.i64.wrap (dz + kk * po) = dz + kk * po := IntWalk.i64_in _ (by omega)
          have HD2 : Hid (dx + kk * pa = dotP (idxL JD (c : Int)) sA (j + 1) ∧ dy + kk * pb = dotP (idxL JD (c : Int)) sB (j + 1) ∧ dz + kk * po = dotP (idxL JD (c : Int)) sO (j + 1)) := Lib.hid (by
            rw [dotP_succ, dotP_succ, dotP_succ, getD_at X1.out, getD_at X2.out, getD_at X3.out, getD_at X4.out, HDO.out.1, HDO.out.2.1, HDO.out.2.2]
            exact ⟨rfl, rfl, rfl⟩)
          obtain ⟨n21, n22⟩ := n2
          obtain ⟨n31, n32⟩ := n3
          obtain ⟨n41, n42⟩ := n4
          clear k1 k2 k3 k4
          go_wp2
          go_round
          case rel => exact ⟨j + 1, dx + kk * pa, dy + kk * pb, dz + kk * po, by omega, by go_num, rfl, rfl, rfl, by omega, by omega, by omega, by omega, by omega, by omega, HD2⟩
          case measure => simp [intOf]; omega
        · obtain rfl : j = nJ := by omega
          obtain ⟨xn, hxn⟩ : ∃ n, n = xf c := ⟨_, rfl⟩
          obtain ⟨yn, hyn⟩ : ∃ n, n = yf c := ⟨_, rfl⟩
          obtain ⟨zn, hzn⟩ : ∃ n, n = zf c := ⟨_, rfl⟩
          obtain rfl : dx = (xn : Int) := by rw [HDO.out.1, hxn, (HXF.out c).1]
          obtain rfl : dy = (yn : Int) := by rw [HDO.out.2.1, hyn, (HYF.out c).1]
          obtain rfl : dz = (zn : Int) := by rw [HDO.out.2.2, hzn, (HZF.out c).1]
          obtain ⟨E1, hE1⟩ : ∃ l, l = accE k p q zf tf c (zf c) := ⟨_, rfl⟩
          obtain ⟨E2, hE2⟩ : ∃ l, l = getL wd X xn := ⟨_, rfl⟩
          obtain ⟨E3, hE3⟩ : ∃ l, l = getL wd X' yn := ⟨_, rfl⟩
          obtain ⟨E4, hE4⟩ : ∃ l, l = tf c := ⟨_, rfl⟩
          obtain ⟨E5, hE5⟩ : ∃ l, l = plusL k p E1 E4 := ⟨_, rfl⟩
          have HXN : Hid (xn < N1 ∧ yn < N2 ∧ zn < M) := Lib.hid ⟨by rw [hxn]; exact (HXF.out c).2, by rw [hyn]; exact (HYF.out c).2, by rw [hzn]; exact (HZF.out c).2⟩
          have HG1 : Hid (getL wd (accL k p q zf tf M c) zn = E1) := Lib.hid (by rw [hE1, hzn]; exact HAG.out c hc)
          have HG4 : Hid (timesL k p E2 E3 = E4) := Lib.hid (by rw [hE2, hE3, hE4, hxn, hyn]; exact HTE.out c)
          have HV1 : Hid (ElemV k p q E1) := Lib.hid (by rw [hE1]; exact HAE.out c hc)
          have HV2 : Hid (ElemV k p q E2 ∧ ElemV k p q E3) := Lib.hid (by rw [hE2, hE3, hxn, hyn]; exact HGX.out c)
          have HV4 : Hid (ElemV k p q E4) := Lib.hid (by rw [hE4]; exact HTF.out c hlt)
          have HV5 : Hid (E5.length = wd) := Lib.hid (by have h := (plusL_elem HRG.out HV1.out HV4.out).1; have h2 := HW.out; rw [hE5]; omega)
          have HP5 : Hid (putL (accL k p q zf tf M c) (zn * wd) E5 = accL k p q zf tf M (c + 1)) := Lib.hid (by rw [hE5, hE1, hE4, hzn]; exact HAP.out c hlt)
          have HL0 := Lib.hid (HAL.out c hc)
          have HJ1 : Hid (xn * wd + wd ≤ X.length ∧ yn * wd + wd ≤ X'.length ∧ zn * wd + wd ≤ M * wd) := Lib.hid (by
            have h1 := Nat.mul_le_mul_right wd (show xn + 1 ≤ N1 from HXN.out.1)
            have h2 := Nat.mul_le_mul_right wd (show yn + 1 ≤ N2 from HXN.out.2.1)
            have h3 := Nat.mul_le_mul_right wd (show zn + 1 ≤ M from HXN.out.2.2)
            rw [Nat.add_mul, Nat.one_mul] at h1 h2 h3
            exact ⟨by rw [HFA.out.lX]; exact h1, by rw [HFB.out.lX]; exact h2, h3⟩)
          have HE2 := Lib.hid hE2.symm
          have HE3 := Lib.hid hE3.symm
          have HE5 := Lib.hid hE5.symm
          have Q0 := Lib.hid HR.out.swap.drew
          clear HDO hxn hyn hzn hE1 hE2 hE3 hE4 hE5 hx0 hx1 hy0 hy1 hz0 hz1
          obtain ⟨⟨r0, r1, r2⟩, -⟩ := Q0.out.at (r := w.heap.size) (a := .int .i64 k) (b := .int .i64 p) (c := .int .i64 q) (by rw [← HBS.out]; simp)
          obtain ⟨⟨a0, a1, a2⟩, -⟩ := Q0.out.at (r := w.heap.size + 1) (a := .slice al m1 cl) (b := .slice ad m1 cd) (c := .slice ax m3 cx) (by rw [← HBS.out]; simp)
          obtain ⟨⟨b0, b1, b2⟩, -⟩ := Q0.out.at (r := w.heap.size + 1 + 1) (a := .slice bl m4 kl) (b := .slice bd m4 kd) (c := .slice bx m6 kx) (by rw [← HBS.out]; simp)
          obtain ⟨⟨o0, o1, o2⟩, -⟩ := Q0.out.at (r := ob) (a := .slice z1 nK e1) (b := .slice z2 nK e2) (c := .slice z3 mz e3) (by rw [← HBS.out]; simp)
          have TK1 : True := trivial
          have TK2 : True := trivial
          have TK3 : True := trivial
          go_wp2
          refine wp_region_held_drew (S := (fun w' => w'.cell? ⟨w.heap.size, 0, none⟩ = some (.int .i64 k) ∧ w'.cell? ⟨w.heap.size, 1, none⟩ = some (.int .i64 p) ∧ w'.cell? ⟨w.heap.size, 2, none⟩ = some (.int .i64 q) ∧ w'.cell? ⟨w.heap.size + 1, 0, none⟩ = some (.slice al m1 cl) ∧ w'.cell? ⟨w.heap.size + 1, 1, none⟩ = some (.slice ad m1 cd) ∧ w'.cell? ⟨w.heap.size + 1, 2, none⟩ = some (.slice ax m3 cx) ∧ w'.cell? ⟨w.heap.size + 1 + 1, 0, none⟩ = some (.slice bl m4 kl) ∧ w'.cell? ⟨w.heap.size + 1 + 1, 1, none⟩ = some (.slice bd m4 kd) ∧ w'.cell? ⟨w.heap.size + 1 + 1, 2, none⟩ = some (.slice bx m6 kx) ∧ w'.cell? ⟨ob, 0, none⟩ = some (.slice z1 nK e1) ∧ w'.cell? ⟨ob, 1, none⟩ = some (.slice z2 nK e2) ∧ w'.cell? ⟨ob, 2, none⟩ = some (.slice z3 mz e3))) (by kernel_rfl) (by (try dsimp only); exact ⟨r0, r1, r2, a0, a1, a2, b0, b1, b2, o0, o1, o2⟩) (fun hHeld => ?_)
          refine wpAnyH_take (i := 0) (v := ?_) rfl (by kernel_rfl) (by kernel_rfl) (by kernel_rfl) (fun _ _ _ h => h) (Or.inl ⟨by rfl, ?_⟩) (by assumption) ?_
          rotate_left
          · intro w hSw; (try dsimp only at hSw); go_simp <;> with_reducible rfl
          try simp only [Act.put, List.getElem_toArray, List.getElem_cons_zero, List.setIfInBounds_toArray, List.set_cons_zero, List.set_cons_succ]
          refine wpAnyH_take (i := 1) (v := ?_) rfl (by kernel_rfl) (by kernel_rfl) (by kernel_rfl) (fun _ _ _ h => h) (Or.inl ⟨by rfl, ?_⟩) (by assumption) ?_
          rotate_left
          · intro w hSw; (try dsimp only at hSw); go_simp <;> with_reducible rfl
          try simp only [Act.put, List.getElem_toArray, List.getElem_cons_succ, List.getElem_cons_zero, List.setIfInBounds_toArray, List.set_cons_zero, List.set_cons_succ]
          refine wpAnyH_take (i := 2) (v := ?_) rfl (by kernel_rfl) (by kernel_rfl) (by kernel_rfl) (fun _ _ _ h => h) (Or.inl ⟨by rfl, ?_⟩) (by assumption) ?_
          rotate_left
          · intro w hSw; (try dsimp only at hSw); go_simp <;> with_reducible rfl
          try simp only [Act.put, List.getElem_toArray, List.getElem_cons_succ, List.getElem_cons_zero, List.setIfInBounds_toArray, List.set_cons_zero, List.set_cons_succ]
          refine wpAnyH_take (i := 3) (v := ?_) rfl (by kernel_rfl) (by kernel_rfl) (by kernel_rfl) (fun _ _ _ h => h) (Or.inl ⟨by rfl, ?_⟩) (by assumption) ?_
          rotate_left
          · intro w hSw; (try dsimp only at hSw); go_simp <;> with_reducible rfl
          try simp only [Act.put, List.getElem_toArray, List.getElem_cons_succ, List.getElem_cons_zero, List.setIfInBounds_toArray, List.set_cons_zero, List.set_cons_succ]
          refine wpAnyH_take (i := 4) (v := ?_) rfl (by kernel_rfl) (by kernel_rfl) (by kernel_rfl) (fun _ _ _ h => h) (Or.inl ⟨by rfl, ?_⟩) (by assumption) ?_
          rotate_left
          · intro w hSw; (try dsimp only at hSw); go_simp <;> with_reducible rfl
          try simp only [Act.put, List.getElem_toArray, List.getElem_cons_succ, List.getElem_cons_zero, List.setIfInBounds_toArray, List.set_cons_zero, List.set_cons_succ]
          refine wpAnyH_take (i := 5) (v := ?_) rfl (by kernel_rfl) (by kernel_rfl) (by kernel_rfl) (fun _ _ _ h => h) (Or.inl ⟨by rfl, ?_⟩) (by assumption) ?_
          rotate_left
          · intro w hSw; (try dsimp only at hSw); go_simp <;> with_reducible rfl
          try simp only [Act.put, List.getElem_toArray, List.getElem_cons_succ, List.getElem_cons_zero, List.setIfInBounds_toArray, List.set_cons_zero, List.set_cons_succ]
          refine wpAnyH_take (i := 6) (v := ?_) rfl (by kernel_rfl) (by kernel_rfl) (by kernel_rfl) (fun _ _ _ h => h) (Or.inl ⟨by rfl, ?_⟩) (by assumption) ?_
          rotate_left
          · intro w hSw; (try dsimp only at hSw); go_simp <;> with_reducible rfl
          try simp only [Act.put, List.getElem_toArray, List.getElem_cons_succ, List.getElem_cons_zero, List.setIfInBounds_toArray, List.set_cons_zero, List.set_cons_succ]
          refine wpAnyH_take (i := 8) (v := ?_) rfl (by kernel_rfl) (by kernel_rfl) (by kernel_rfl) (fun _ _ _ h => h) (Or.inl ⟨by rfl, ?_⟩) (by assumption) ?_
          rotate_left
          · intro w hSw; (try dsimp only at hSw); go_simp <;> with_reducible rfl
          try simp only [Act.put, List.getElem_toArray, List.getElem_cons_succ, List.getElem_cons_zero, List.setIfInBounds_toArray, List.set_cons_zero, List.set_cons_succ]
          refine wpAnyH_take (i := 9) (v := ?_) rfl (by kernel_rfl) (by kernel_rfl) (by kernel_rfl) (fun _ _ _ h => h) (Or.inl ⟨by rfl, ?_⟩) (by assumption) ?_
          rotate_left
          · intro w hSw; (try dsimp only at hSw); go_simp <;> with_reducible rfl
          try simp only [Act.put, List.getElem_toArray, List.getElem_cons_succ, List.getElem_cons_zero, List.setIfInBounds_toArray, List.set_cons_zero, List.set_cons_succ]
          refine wpAnyH_take (i := 10) (v := ?_) rfl (by kernel_rfl) (by kernel_rfl) (by kernel_rfl) (fun _ _ _ h => h) (Or.inl ⟨by rfl, ?_⟩) (by assumption) ?_
          rotate_left
          · intro w hSw; (try dsimp only at hSw); go_simp <;> with_reducible rfl
          try simp only [Act.put, List.getElem_toArray, List.getElem_cons_succ, List.getElem_cons_zero, List.setIfInBounds_toArray, List.set_cons_zero, List.set_cons_succ]
          refine wpAnyH_take (i := 11) (v := ?_) rfl (by kernel_rfl) (by kernel_rfl) (by kernel_rfl) (fun _ _ _ h => h) (Or.inl ⟨by rfl, ?_⟩) (by assumption) ?_
          rotate_left
          · intro w hSw; (try dsimp only at hSw); go_simp <;> with_reducible rfl
          try simp only [Act.put, List.getElem_toArray, List.getElem_cons_succ, List.getElem_cons_zero, List.setIfInBounds_toArray, List.set_cons_zero, List.set_cons_succ]
          refine wpAnyH_take (i := 13) (v := ?_) rfl (by kernel_rfl) (by kernel_rfl) (by kernel_rfl) (fun _ _ _ h => h) (Or.inl ⟨by rfl, ?_⟩) (by assumption) ?_
          rotate_left
          · intro w hSw; (try dsimp only at hSw); go_simp <;> with_reducible rfl
          try simp only [Act.put, List.getElem_toArray, List.getElem_cons_succ, List.getElem_cons_zero, List.setIfInBounds_toArray, List.set_cons_zero, List.set_cons_succ]
          refine wpAnyH_take (i := 14) (v := ?_) rfl (by kernel_rfl) (by kernel_rfl) (by kernel_rfl) (fun _ _ _ h => h) (Or.inl ⟨by rfl, ?_⟩) (by assumption) ?_
          rotate_left
          · intro w hSw; (try dsimp only at hSw); go_simp <;> with_reducible rfl
          try simp only [Act.put, List.getElem_toArray, List.getElem_cons_succ, List.getElem_cons_zero, List.setIfInBounds_toArray, List.set_cons_zero, List.set_cons_succ]
          refine wpAnyH_take (i := 15) (v := ?_) rfl (by kernel_rfl) (by kernel_rfl) (by kernel_rfl) (fun _ _ _ h => h) (Or.inl ⟨by rfl, ?_⟩) (by assumption) ?_
          rotate_left
          · intro w hSw; (try dsimp only at hSw); go_simp <;> with_reducible rfl
          try simp only [Act.put, List.getElem_toArray, List.getElem_cons_succ, List.getElem_cons_zero, List.setIfInBounds_toArray, List.set_cons_zero, List.set_cons_succ]
          refine wpAnyH_ready (rs := [7]) (by kernel_rfl) (by simp) ?_
          refine AllReadyH.cons rfl (fun K hK => ?_) AllReadyH.nil
          go_simp
          (go_at_call 73; first | (have _t := TK1; refine (get_spec wd zn (⟨Q0.out.rd (v := .slice z1 nK e1) (xs := KZ) (by simp), Q0.out.rd (v := .slice z2 nK e2) (xs := KD) (by simp), Q0.out.rd (v := .slice z3 mz e3) (xs := accL k p q zf tf M c) (by simp)⟩) (Nat.le_refl _) HW.out hw1 hw6 (by have := HXN.out.2.2; omega) (by rw [HL0.out]; exact HJ1.out.2.2) (by rw [HL0.out]; have := HMW.out; omega)).mono ?_; rw [HG1.out]; rintro e x1 ⟨va, rfl, ho, hb⟩; have Q1 := Lib.hid (Q0.out.new hb ho); obtain ⟨ga, ja, rfl, -⟩ := ints_form ho.rd; clear hb ho _t TK1; clear r0 r1 r2 a0 a1 a2 b0 b1 b2 o0 o1 o2; obtain ⟨⟨r0, r1, r2⟩, -⟩ := Q1.out.at (r := w.heap.size) (a := .int .i64 k) (b := .int .i64 p) (c := .int .i64 q) (by rw [← HBS.out]; simp); obtain ⟨⟨a0, a1, a2⟩, -⟩ := Q1.out.at (r := w.heap.size + 1) (a := .slice al m1 cl) (b := .slice ad m1 cd) (c := .slice ax m3 cx) (by rw [← HBS.out]; simp); obtain ⟨⟨b0, b1, b2⟩, -⟩ := Q1.out.at (r := w.heap.size + 1 + 1) (a := .slice bl m4 kl) (b := .slice bd m4 kd) (c := .slice bx m6 kx) (by rw [← HBS.out]; simp); obtain ⟨⟨o0, o1, o2⟩, -⟩ := Q1.out.at (r := ob) (a := .slice z1 nK e1) (b := .slice z2 nK e2) (c := .slice z3 mz e3) (by rw [← HBS.out]; simp)) | (have _t := TK2; refine (get_spec wd xn (HA.out.below Q1.out.bel (Nat.le_refl _)) Q1.out.bel.size HW.out hw1 hw6 (by have := HXN.out.1; have := HN1.out.1; omega) HJ1.out.1 (by have := HX.out.1; omega)).mono ?_; rw [HE2.out]; rintro e x2 ⟨vb, rfl, ho, hb⟩; have Q2 := Lib.hid (Q1.out.new hb ho); obtain ⟨gb, jb, rfl, -⟩ := ints_form ho.rd; clear hb ho _t TK2; clear r0 r1 r2 a0 a1 a2 b0 b1 b2 o0 o1 o2; obtain ⟨⟨r0, r1, r2⟩, -⟩ := Q2.out.at (r := w.heap.size) (a := .int .i64 k) (b := .int .i64 p) (c := .int .i64 q) (by rw [← HBS.out]; simp); obtain ⟨⟨a0, a1, a2⟩, -⟩ := Q2.out.at (r := w.heap.size + 1) (a := .slice al m1 cl) (b := .slice ad m1 cd) (c := .slice ax m3 cx) (by rw [← HBS.out]; simp); obtain ⟨⟨b0, b1, b2⟩, -⟩ := Q2.out.at (r := w.heap.size + 1 + 1) (a := .slice bl m4 kl) (b := .slice bd m4 kd) (c := .slice bx m6 kx) (by rw [← HBS.out]; simp); obtain ⟨⟨o0, o1, o2⟩, -⟩ := Q2.out.at (r := ob) (a := .slice z1 nK e1) (b := .slice z2 nK e2) (c := .slice z3 mz e3) (by rw [← HBS.out]; simp)) | (have _t := TK3; refine (get_spec wd yn (HU.out.below Q2.out.bel (Nat.le_refl _)) Q2.out.bel.size HW.out hw1 hw6 (by have := HXN.out.2.1; have := HN1.out.2; omega) HJ1.out.2.1 (by have := HX.out.2; omega)).mono ?_; rw [HE3.out]; rintro e x3 ⟨vc, rfl, ho, hb⟩; have Q3 := Lib.hid (Q2.out.new hb ho); obtain ⟨gc, jc, rfl, -⟩ := ints_form ho.rd; clear hb ho _t TK3; clear r0 r1 r2 a0 a1 a2 b0 b1 b2 o0 o1 o2; obtain ⟨⟨r0, r1, r2⟩, -⟩ := Q3.out.at (r := w.heap.size) (a := .int .i64 k) (b := .int .i64 p) (c := .int .i64 q) (by rw [← HBS.out]; simp); obtain ⟨⟨a0, a1, a2⟩, -⟩ := Q3.out.at (r := w.heap.size + 1) (a := .slice al m1 cl) (b := .slice ad m1 cd) (c := .slice ax m3 cx) (by rw [← HBS.out]; simp); obtain ⟨⟨b0, b1, b2⟩, -⟩ := Q3.out.at (r := w.heap.size + 1 + 1) (a := .slice bl m4 kl) (b := .slice bd m4 kd) (c := .slice bx m6 kx) (by rw [← HBS.out]; simp); obtain ⟨⟨o0, o1, o2⟩, -⟩ := Q3.out.at (r := ob) (a := .slice z1 nK e1) (b := .slice z2 nK e2) (c := .slice z3 mz e3) (by rw [← HBS.out]; simp)))
          go_wp2_with fail
          refine hK.out _ _ (by (try dsimp only); exact ⟨r0, r1, r2, a0, a1, a2, b0, b1, b2, o0, o1, o2⟩) (fun hHeld => ?_)
          clear hK K
          try simp only [Act.put, List.getElem_toArray, List.getElem_cons_succ, List.getElem_cons_zero, List.setIfInBounds_toArray, List.set_cons_zero, List.set_cons_succ]
          refine wpAnyH_ready (rs := [12]) (by kernel_rfl) (by simp) ?_
          refine AllReadyH.cons rfl (fun K hK => ?_) AllReadyH.nil
          go_simp
          (go_at_call 73; first | (have _t := TK1; refine (get_spec wd zn (⟨Q0.out.rd (v := .slice z1 nK e1) (xs := KZ) (by simp), Q0.out.rd (v := .slice z2 nK e2) (xs := KD) (by simp), Q0.out.rd (v := .slice z3 mz e3) (xs := accL k p q zf tf M c) (by simp)⟩) (Nat.le_refl _) HW.out hw1 hw6 (by have := HXN.out.2.2; omega) (by rw [HL0.out]; exact HJ1.out.2.2) (by rw [HL0.out]; have := HMW.out; omega)).mono ?_; rw [HG1.out]; rintro e x1 ⟨va, rfl, ho, hb⟩; have Q1 := Lib.hid (Q0.out.new hb ho); obtain ⟨ga, ja, rfl, -⟩ := ints_form ho.rd; clear hb ho _t TK1; clear r0 r1 r2 a0 a1 a2 b0 b1 b2 o0 o1 o2; obtain ⟨⟨r0, r1, r2⟩, -⟩ := Q1.out.at (r := w.heap.size) (a := .int .i64 k) (b := .int .i64 p) (c := .int .i64 q) (by rw [← HBS.out]; simp); obtain ⟨⟨a0, a1, a2⟩, -⟩ := Q1.out.at (r := w.heap.size + 1) (a := .slice al m1 cl) (b := .slice ad m1 cd) (c := .slice ax m3 cx) (by rw [← HBS.out]; simp); obtain ⟨⟨b0, b1, b2⟩, -⟩ := Q1.out.at (r := w.heap.size + 1 + 1) (a := .slice bl m4 kl) (b := .slice bd m4 kd) (c := .slice bx m6 kx) (by rw [← HBS.out]; simp); obtain ⟨⟨o0, o1, o2⟩, -⟩ := Q1.out.at (r := ob) (a := .slice z1 nK e1) (b := .slice z2 nK e2) (c := .slice z3 mz e3) (by rw [← HBS.out]; simp)) | (have _t := TK2; refine (get_spec wd xn (HA.out.below Q1.out.bel (Nat.le_refl _)) Q1.out.bel.size HW.out hw1 hw6 (by have := HXN.out.1; have := HN1.out.1; omega) HJ1.out.1 (by have := HX.out.1; omega)).mono ?_; rw [HE2.out]; rintro e x2 ⟨vb, rfl, ho, hb⟩; have Q2 := Lib.hid (Q1.out.new hb ho); obtain ⟨gb, jb, rfl, -⟩ := ints_form ho.rd; clear hb ho _t TK2; clear r0 r1 r2 a0 a1 a2 b0 b1 b2 o0 o1 o2; obtain ⟨⟨r0, r1, r2⟩, -⟩ := Q2.out.at (r := w.heap.size) (a := .int .i64 k) (b := .int .i64 p) (c := .int .i64 q) (by rw [← HBS.out]; simp); obtain ⟨⟨a0, a1, a2⟩, -⟩ := Q2.out.at (r := w.heap.size + 1) (a := .slice al m1 cl) (b := .slice ad m1 cd) (c := .slice ax m3 cx) (by rw [← HBS.out]; simp); obtain ⟨⟨b0, b1, b2⟩, -⟩ := Q2.out.at (r := w.heap.size + 1 + 1) (a := .slice bl m4 kl) (b := .slice bd m4 kd) (c := .slice bx m6 kx) (by rw [← HBS.out]; simp); obtain ⟨⟨o0, o1, o2⟩, -⟩ := Q2.out.at (r := ob) (a := .slice z1 nK e1) (b := .slice z2 nK e2) (c := .slice z3 mz e3) (by rw [← HBS.out]; simp)) | (have _t := TK3; refine (get_spec wd yn (HU.out.below Q2.out.bel (Nat.le_refl _)) Q2.out.bel.size HW.out hw1 hw6 (by have := HXN.out.2.1; have := HN1.out.2; omega) HJ1.out.2.1 (by have := HX.out.2; omega)).mono ?_; rw [HE3.out]; rintro e x3 ⟨vc, rfl, ho, hb⟩; have Q3 := Lib.hid (Q2.out.new hb ho); obtain ⟨gc, jc, rfl, -⟩ := ints_form ho.rd; clear hb ho _t TK3; clear r0 r1 r2 a0 a1 a2 b0 b1 b2 o0 o1 o2; obtain ⟨⟨r0, r1, r2⟩, -⟩ := Q3.out.at (r := w.heap.size) (a := .int .i64 k) (b := .int .i64 p) (c := .int .i64 q) (by rw [← HBS.out]; simp); obtain ⟨⟨a0, a1, a2⟩, -⟩ := Q3.out.at (r := w.heap.size + 1) (a := .slice al m1 cl) (b := .slice ad m1 cd) (c := .slice ax m3 cx) (by rw [← HBS.out]; simp); obtain ⟨⟨b0, b1, b2⟩, -⟩ := Q3.out.at (r := w.heap.size + 1 + 1) (a := .slice bl m4 kl) (b := .slice bd m4 kd) (c := .slice bx m6 kx) (by rw [← HBS.out]; simp); obtain ⟨⟨o0, o1, o2⟩, -⟩ := Q3.out.at (r := ob) (a := .slice z1 nK e1) (b := .slice z2 nK e2) (c := .slice z3 mz e3) (by rw [← HBS.out]; simp)))
          go_wp2_with fail
          refine hK.out _ _ (by (try dsimp only); exact ⟨r0, r1, r2, a0, a1, a2, b0, b1, b2, o0, o1, o2⟩) (fun hHeld => ?_)
          clear hK K
          try simp only [Act.put, List.getElem_toArray, List.getElem_cons_succ, List.getElem_cons_zero, List.setIfInBounds_toArray, List.set_cons_zero, List.set_cons_succ]
          refine wpAnyH_ready (rs := [16]) (by kernel_rfl) (by simp) ?_
          refine AllReadyH.cons rfl (fun K hK => ?_) AllReadyH.nil
          go_simp
          (go_at_call 73; first | (have _t := TK1; refine (get_spec wd zn (⟨Q0.out.rd (v := .slice z1 nK e1) (xs := KZ) (by simp), Q0.out.rd (v := .slice z2 nK e2) (xs := KD) (by simp), Q0.out.rd (v := .slice z3 mz e3) (xs := accL k p q zf tf M c) (by simp)⟩) (Nat.le_refl _) HW.out hw1 hw6 (by have := HXN.out.2.2; omega) (by rw [HL0.out]; exact HJ1.out.2.2) (by rw [HL0.out]; have := HMW.out; omega)).mono ?_; rw [HG1.out]; rintro e x1 ⟨va, rfl, ho, hb⟩; have Q1 := Lib.hid (Q0.out.new hb ho); obtain ⟨ga, ja, rfl, -⟩ := ints_form ho.rd; clear hb ho _t TK1; clear r0 r1 r2 a0 a1 a2 b0 b1 b2 o0 o1 o2; obtain ⟨⟨r0, r1, r2⟩, -⟩ := Q1.out.at (r := w.heap.size) (a := .int .i64 k) (b := .int .i64 p) (c := .int .i64 q) (by rw [← HBS.out]; simp); obtain ⟨⟨a0, a1, a2⟩, -⟩ := Q1.out.at (r := w.heap.size + 1) (a := .slice al m1 cl) (b := .slice ad m1 cd) (c := .slice ax m3 cx) (by rw [← HBS.out]; simp); obtain ⟨⟨b0, b1, b2⟩, -⟩ := Q1.out.at (r := w.heap.size + 1 + 1) (a := .slice bl m4 kl) (b := .slice bd m4 kd) (c := .slice bx m6 kx) (by rw [← HBS.out]; simp); obtain ⟨⟨o0, o1, o2⟩, -⟩ := Q1.out.at (r := ob) (a := .slice z1 nK e1) (b := .slice z2 nK e2) (c := .slice z3 mz e3) (by rw [← HBS.out]; simp)) | (have _t := TK2; refine (get_spec wd xn (HA.out.below Q1.out.bel (Nat.le_refl _)) Q1.out.bel.size HW.out hw1 hw6 (by have := HXN.out.1; have := HN1.out.1; omega) HJ1.out.1 (by have := HX.out.1; omega)).mono ?_; rw [HE2.out]; rintro e x2 ⟨vb, rfl, ho, hb⟩; have Q2 := Lib.hid (Q1.out.new hb ho); obtain ⟨gb, jb, rfl, -⟩ := ints_form ho.rd; clear hb ho _t TK2; clear r0 r1 r2 a0 a1 a2 b0 b1 b2 o0 o1 o2; obtain ⟨⟨r0, r1, r2⟩, -⟩ := Q2.out.at (r := w.heap.size) (a := .int .i64 k) (b := .int .i64 p) (c := .int .i64 q) (by rw [← HBS.out]; simp); obtain ⟨⟨a0, a1, a2⟩, -⟩ := Q2.out.at (r := w.heap.size + 1) (a := .slice al m1 cl) (b := .slice ad m1 cd) (c := .slice ax m3 cx) (by rw [← HBS.out]; simp); obtain ⟨⟨b0, b1, b2⟩, -⟩ := Q2.out.at (r := w.heap.size + 1 + 1) (a := .slice bl m4 kl) (b := .slice bd m4 kd) (c := .slice bx m6 kx) (by rw [← HBS.out]; simp); obtain ⟨⟨o0, o1, o2⟩, -⟩ := Q2.out.at (r := ob) (a := .slice z1 nK e1) (b := .slice z2 nK e2) (c := .slice z3 mz e3) (by rw [← HBS.out]; simp)) | (have _t := TK3; refine (get_spec wd yn (HU.out.below Q2.out.bel (Nat.le_refl _)) Q2.out.bel.size HW.out hw1 hw6 (by have := HXN.out.2.1; have := HN1.out.2; omega) HJ1.out.2.1 (by have := HX.out.2; omega)).mono ?_; rw [HE3.out]; rintro e x3 ⟨vc, rfl, ho, hb⟩; have Q3 := Lib.hid (Q2.out.new hb ho); obtain ⟨gc, jc, rfl, -⟩ := ints_form ho.rd; clear hb ho _t TK3; clear r0 r1 r2 a0 a1 a2 b0 b1 b2 o0 o1 o2; obtain ⟨⟨r0, r1, r2⟩, -⟩ := Q3.out.at (r := w.heap.size) (a := .int .i64 k) (b := .int .i64 p) (c := .int .i64 q) (by rw [← HBS.out]; simp); obtain ⟨⟨a0, a1, a2⟩, -⟩ := Q3.out.at (r := w.heap.size + 1) (a := .slice al m1 cl) (b := .slice ad m1 cd) (c := .slice ax m3 cx) (by rw [← HBS.out]; simp); obtain ⟨⟨b0, b1, b2⟩, -⟩ := Q3.out.at (r := w.heap.size + 1 + 1) (a := .slice bl m4 kl) (b := .slice bd m4 kd) (c := .slice bx m6 kx) (by rw [← HBS.out]; simp); obtain ⟨⟨o0, o1, o2⟩, -⟩ := Q3.out.at (r := ob) (a := .slice z1 nK e1) (b := .slice z2 nK e2) (c := .slice z3 mz e3) (by rw [← HBS.out]; simp)))
          go_wp2_with fail
          refine hK.out _ _ (by (try dsimp only); exact ⟨r0, r1, r2, a0, a1, a2, b0, b1, b2, o0, o1, o2⟩) (fun hHeld => ?_)
          clear hK K
          try simp only [Act.put, List.getElem_toArray, List.getElem_cons_succ, List.getElem_cons_zero, List.setIfInBounds_toArray, List.set_cons_zero, List.set_cons_succ]
          refine wpAnyH_ready (rs := [17]) (by kernel_rfl) (by simp) ?_
          refine AllReadyH.cons rfl (fun K hK => ?_) AllReadyH.nil
          go_simp
          (go_at_call 115; refine (mul_spec HRG.out (Q3.out.rd (v := .slice gb E2.length jb) (xs := E2) (by simp)) (Q3.out.rd (v := .slice gc E3.length jc) (xs := E3) (by simp)) (Nat.le_refl _) HV2.out.1 HV2.out.2).mono ?_; rw [HG4.out]; rintro e x4 ⟨vd, rfl, ho, hb⟩; have Q4 := Lib.hid (Q3.out.new hb ho); obtain ⟨gd, jd, rfl, -⟩ := ints_form ho.rd; clear hb ho; clear r0 r1 r2 a0 a1 a2 b0 b1 b2 o0 o1 o2; obtain ⟨⟨r0, r1, r2⟩, -⟩ := Q4.out.at (r := w.heap.size) (a := .int .i64 k) (b := .int .i64 p) (c := .int .i64 q) (by rw [← HBS.out]; simp); obtain ⟨⟨a0, a1, a2⟩, -⟩ := Q4.out.at (r := w.heap.size + 1) (a := .slice al m1 cl) (b := .slice ad m1 cd) (c := .slice ax m3 cx) (by rw [← HBS.out]; simp); obtain ⟨⟨b0, b1, b2⟩, -⟩ := Q4.out.at (r := w.heap.size + 1 + 1) (a := .slice bl m4 kl) (b := .slice bd m4 kd) (c := .slice bx m6 kx) (by rw [← HBS.out]; simp); obtain ⟨⟨o0, o1, o2⟩, -⟩ := Q4.out.at (r := ob) (a := .slice z1 nK e1) (b := .slice z2 nK e2) (c := .slice z3 mz e3) (by rw [← HBS.out]; simp))
          go_wp2_with fail
          refine hK.out _ _ (by (try dsimp only); exact ⟨r0, r1, r2, a0, a1, a2, b0, b1, b2, o0, o1, o2⟩) (fun hHeld => ?_)
          clear hK K
          try simp only [Act.put, List.getElem_toArray, List.getElem_cons_succ, List.getElem_cons_zero, List.setIfInBounds_toArray, List.set_cons_zero, List.set_cons_succ]
          refine wpAnyH_ready (rs := [18]) (by kernel_rfl) (by simp) ?_
          refine AllReadyH.cons rfl (fun K hK => ?_) AllReadyH.nil
          go_simp
          (go_at_call 114; refine (plus_spec HRG.out (Q4.out.rd (v := .slice ga E1.length ja) (xs := E1) (by simp)) (Q4.out.rd (v := .slice gd E4.length jd) (xs := E4) (by simp)) (Nat.le_refl _) HV1.out HV4.out).mono ?_; rw [HE5.out]; rintro e x5 ⟨ve, rfl, ho, hb⟩; have Q5 := Lib.hid (Q4.out.new hb ho); obtain ⟨ge, je, rfl, -⟩ := ints_form ho.rd; have HNE := Lib.hid (fun g (hg : (Value.slice ge E5.length je).ownBlock = some g) => (List.pairwise_cons.1 Q5.out.apart).1 (.slice z3 mz e3, accL k p q zf tf M c) (by simp) g hg); clear hb ho; clear r0 r1 r2 a0 a1 a2 b0 b1 b2 o0 o1 o2; obtain ⟨⟨r0, r1, r2⟩, -⟩ := Q5.out.at (r := w.heap.size) (a := .int .i64 k) (b := .int .i64 p) (c := .int .i64 q) (by rw [← HBS.out]; simp); obtain ⟨⟨a0, a1, a2⟩, -⟩ := Q5.out.at (r := w.heap.size + 1) (a := .slice al m1 cl) (b := .slice ad m1 cd) (c := .slice ax m3 cx) (by rw [← HBS.out]; simp); obtain ⟨⟨b0, b1, b2⟩, -⟩ := Q5.out.at (r := w.heap.size + 1 + 1) (a := .slice bl m4 kl) (b := .slice bd m4 kd) (c := .slice bx m6 kx) (by rw [← HBS.out]; simp); obtain ⟨⟨o0, o1, o2⟩, -⟩ := Q5.out.at (r := ob) (a := .slice z1 nK e1) (b := .slice z2 nK e2) (c := .slice z3 mz e3) (by rw [← HBS.out]; simp))
          go_wp2_with fail
          refine hK.out _ _ (by (try dsimp only); exact ⟨r0, r1, r2, a0, a1, a2, b0, b1, b2, o0, o1, o2⟩) (fun hHeld => ?_)
          clear hK K
          try simp only [Act.put, List.getElem_toArray, List.getElem_cons_succ, List.getElem_cons_zero, List.setIfInBounds_toArray, List.set_cons_zero, List.set_cons_succ]
          refine wpAnyH_ready (rs := [19]) (by kernel_rfl) (by simp) ?_
          refine AllReadyH.cons rfl (fun K hK => ?_) AllReadyH.nil
          go_simp
          (go_at_call 113; refine (put_any wd zn nK e1 nK e2 z1 z2 rfl rfl (Q5.out.own1 (v := .slice z3 mz e3) (xs := accL k p q zf tf M c) (by simp)) (Q5.out.rd (v := .slice ge E5.length je) (xs := E5) (by simp)) (Nat.le_refl _) HNE.out HW.out hw1 hw6 HV5.out (by have := HXN.out.2.2; omega) (by rw [HL0.out]; exact HJ1.out.2.2) (by rw [HL0.out]; have := HMW.out; omega)).mono ?_; rw [HP5.out]; rintro e x6 ⟨rfl, ho, hg⟩; have Q6 := Lib.hid ((Q5.out.sub (rows' := [(.slice z3 mz e3, accL k p q zf tf M c), (.slice (some ⟨gi, 0, none⟩) j j, idxL JD (c : Int)), (.slice s3 j d3, sO), (.slice s2 j d2, sB), (.slice s1 j d1, sA), (.slice z1 nK e1, KZ), (.slice z2 nK e2, KD), (.slice g1 j c1, J), (.slice g2 j c2, JD)]) (List.Sublist.cons _ (List.Sublist.cons _ (List.Sublist.cons _ (List.Sublist.cons _ (List.Sublist.cons _ (List.Sublist.refl _))))))).rewrite ho.1 hg); clear ho hg; clear r0 r1 r2 a0 a1 a2 b0 b1 b2 o0 o1 o2; obtain ⟨⟨r0, r1, r2⟩, -⟩ := Q6.out.at (r := w.heap.size) (a := .int .i64 k) (b := .int .i64 p) (c := .int .i64 q) (by rw [← HBS.out]; simp); obtain ⟨⟨a0, a1, a2⟩, -⟩ := Q6.out.at (r := w.heap.size + 1) (a := .slice al m1 cl) (b := .slice ad m1 cd) (c := .slice ax m3 cx) (by rw [← HBS.out]; simp); obtain ⟨⟨b0, b1, b2⟩, -⟩ := Q6.out.at (r := w.heap.size + 1 + 1) (a := .slice bl m4 kl) (b := .slice bd m4 kd) (c := .slice bx m6 kx) (by rw [← HBS.out]; simp); obtain ⟨⟨o0, o1, o2⟩, -⟩ := Q6.out.at (r := ob) (a := .slice z1 nK e1) (b := .slice z2 nK e2) (c := .slice z3 mz e3) (by rw [← HBS.out]; simp))
          go_wp2_with fail
          refine hK.out _ _ (by (try dsimp only); exact ⟨r0, r1, r2, a0, a1, a2, b0, b1, b2, o0, o1, o2⟩) (fun hHeld => ?_)
          clear hK K
          try simp only [Act.put, List.getElem_toArray, List.getElem_cons_succ, List.getElem_cons_zero, List.setIfInBounds_toArray, List.set_cons_zero, List.set_cons_succ]
          refine wpAnyH_done (by kernel_rfl) ?_ _
          have Q7 := Lib.hid Q6.out.swap
          have HCR : Hid (CarryV JD (c : Int) j) := Lib.hid (by have h := carry_start JD (c : Int); rw [HLL.out.2.1] at h; exact h)
          have Q8 : Hid (Rs w x6 bs [(.slice (some ⟨gi, 0, none⟩) j j, odoL JD (c : Int) j), (.slice z3 mz e3, accL k p q zf tf M (c + 1)), (.slice s3 j d3, sO), (.slice s2 j d2, sB), (.slice s1 j d1, sA), (.slice z1 nK e1, KZ), (.slice z2 nK e2, KD), (.slice g1 j c1, J), (.slice g2 j c2, JD)]) := Lib.hid (by
            have e := odoL_all JD (c : Int)
            rw [HLL.out.2.1] at e
            rw [e]
            exact Q7.out)
          clear r0 r1 r2 a0 a1 a2 b0 b1 b2 o0 o1 o2 Q0 Q1 Q2 Q3 Q4 Q5 Q6 Q7 HNE HV1 HV2 HV4 HV5 HP5 HG1 HG4 HE2 HE3 HE5 HJ1 HL0 HXN HR
          go_wp2
          go_loopw [23] (fun i wr2 => ∃ jj : Nat, jj ≤ j ∧ i = .int .i64 ((jj : Int) - 1) ∧ Hid (CarryV JD (c : Int) jj) ∧ Hid (Rs w wr2 bs [(.slice (some ⟨gi, 0, none⟩) j j, odoL JD (c : Int) jj), (.slice z3 mz e3, accL k p q zf tf M (c + 1)), (.slice s3 j d3, sO), (.slice s2 j d2, sB), (.slice s1 j d1, sA), (.slice z1 nK e1, KZ), (.slice z2 nK e2, KD), (.slice g1 j c1, J), (.slice g2 j c2, JD)])) (fun i _ => (intOf i + 1).toNat)
          case atStart => exact ⟨j, by omega, rfl, HCR, Q8⟩
          case round =>
            clear Q8 HCR
            obtain ⟨jj, hjj, rfl, HCR, HQ⟩ := hrel
            cases jj with
            | zero =>
              have q1 : ¬ (0 : Int) ≤ ((0 : Nat) : Int) - 1 := by omega
              have HEN : Hid (odoL JD (c : Int) 0 = idxL JD ((c + 1 : Nat) : Int)) := Lib.hid (odo_end HCR.out HJD.out)
              rw [HEN.out] at HQ
              go_wp2
              go_roundw
              case rel => exact ⟨c + 1, by omega, by go_num, HQ⟩
              case measure => simp [intOf]; omega
            | succ jj =>
              have ej : (((jj + 1 : Nat) : Int) - 1) = (jj : Int) := by omega
              have hjn : jj < j := by omega
              have hjD : jj < JD.length := by rw [HLL.out.2.1]; exact hjn
              obtain ⟨dd, X2⟩ : ∃ x, Hid (JD[jj]? = some x) := ⟨_, List.getElem?_eq_getElem hjD⟩
              obtain ⟨ii, hii⟩ : ∃ x, x = ((c : Int) / prodL (JD.drop (jj + 1))) % JD.getD jj 0 := ⟨_, rfl⟩
              have hat : (odoL JD (c : Int) (jj + 1))[jj]? = some ii := by rw [odoL_at JD _ _ _ hjD, if_pos (by omega), hii]
              have hd1 : 1 ≤ dd ∧ dd ≤ 8 := HJR.out dd (List.mem_of_getElem? X2.out)
              have hgd : JD.getD jj 0 = dd := getD_at X2.out
              have hi0 : 0 ≤ ii := by rw [hii]; exact Int.emod_nonneg _ (by omega)
              have hi1 : ii < dd := by rw [hii, hgd]; exact Int.emod_lt_of_pos _ (by omega)
              obtain ⟨gi', ei, -, -, hcell, hfz⟩ := (HQ.out.own1 (v := .slice (some ⟨gi, 0, none⟩) j j) (xs := odoL JD (c : Int) (jj + 1)) (by simp)).slot (by rw [odoL_len, HLL.out.2.1]) (by omega)
              cases ei
              have f1 := hcell jj ii hat
              have f2 := hfz jj
              have HQ2 := Lib.hid (HQ.out.put (by rw [odoL_len, HLL.out.2.1]) jj (ii + 1))
              obtain ⟨gi', ei, -, -, hcell2, hfz2⟩ := (HQ2.out.own1 (v := .slice (some ⟨gi, 0, none⟩) j j) (xs := (odoL JD (c : Int) (jj + 1)).set jj (ii + 1)) (by simp)).slot (by rw [List.length_set, odoL_len, HLL.out.2.1]) (by omega)
              cases ei
              have f3 := hcell2 jj (ii + 1) (List.getElem?_set_self (by rw [odoL_len]; exact hjD))
              have f4 := hfz2 jj
              obtain ⟨bD, oD, rfl, -, f5⟩ := (HQ2.out.rd (v := .slice g2 j c2) (xs := JD) (by simp)).cellAt X2.out
              have HQ3 := Lib.hid HQ2.out.drew
              have HQ4 := Lib.hid (HQ3.out.put (by rw [List.length_set, odoL_len, HLL.out.2.1]) jj 0)
              have HOZ : Hid (((odoL JD (c : Int) (jj + 1)).set jj (ii + 1)).set jj 0 = odoL JD (c : Int) jj) := Lib.hid (odo_zero hjD _)
              rw [HOZ.out] at HQ4
              clear hcell hfz hcell2 hfz2 hat
              rw [ej]
              by_cases hlt2 : ii + 1 < dd
              · have HNX : Hid ((odoL JD (c : Int) (jj + 1)).set jj (ii + 1) = idxL JD ((c + 1 : Nat) : Int)) := Lib.hid (by
                  have h := odo_next HJD.out hjD HCR.out (by rw [← hii, hgd]; exact hlt2)
                  rw [← hii] at h
                  exact h)
                rw [HNX.out] at HQ3
                clear HQ4 HOZ hii hgd
                go_wp2
                go_region
                all_goals
                  go_wp2
                  go_roundw
                  case rel => exact ⟨c + 1, by omega, by go_num, HQ3⟩
                  case measure => simp [intOf]; omega
              · have HCR2 : Hid (CarryV JD (c : Int) jj) := Lib.hid (carry_step HJD.out hjD HCR.out (by rw [← hii, hgd]; omega))
                clear HQ3 HOZ hii hgd
                go_wp2
                go_region
                all_goals
                  go_wp2
                  go_roundw
                  case rel => exact ⟨jj, by omega, by go_num, HCR2, HQ4⟩
                  case measure => simp [intOf]
    · obtain rfl : c = N := by omega
      have q0 : ¬ (0 : Int) < (c : Int) - (c : Int) := by omega
      obtain ⟨⟨o0, o1, o2⟩, -⟩ := HR.out.at (r := ob) (a := .slice z1 nK e1) (b := .slice z2 nK e2) (c := .slice z3 mz e3) (by rw [← HBS.out]; simp)
      obtain ⟨⟨t0, t1, t2⟩, f0, f1, f2⟩ := HR.out.at (r := w.heap.size + 1 + 1 + 1) (a := nilV) (b := nilV) (c := nilV) (by rw [← HBS.out]; simp)
      go_wp2
      refine bodyPost_ret (v := tenV (.slice z1 nK e1) (.slice z2 nK e2) (.slice z3 mz e3)) (by simp [results, Try.results57, go_sem, t0, t1, t2]) rfl ?_
      have h := HR.out
      rw [← HBS.out] at h
      have h2 := (h.swapB.set3 (.slice z1 nK e1) (.slice z2 nK e2) (.slice z3 mz e3))
      have h3 := ((h2.sub (rows' := [(.slice z3 mz e3, accL k p q zf tf M c), (.slice z1 nK e1, KZ), (.slice z2 nK e2, KD)]) (List.Sublist.cons _ (List.Sublist.cons_cons _ (List.Sublist.cons _ (List.Sublist.cons _ (List.Sublist.cons _ (List.Sublist.cons_cons _ (List.Sublist.cons_cons _ (List.Sublist.cons _ (List.Sublist.cons _ (List.Sublist.refl _))))))))))).third).third
      exact ⟨_, _, _, rfl, h3.ownG, h3.bel⟩
end Go.Proofs.Ytgabcdploeledaa
