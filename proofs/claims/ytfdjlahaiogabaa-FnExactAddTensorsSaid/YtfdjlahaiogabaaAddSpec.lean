
/- spec.AddTensors, spec.MultiplyTensors. -/
import Derived.Test.YtfdjlahaiogabaaFitsSpec
import Derived.Test.YtfdjlahaiogabaaJoinSpec
namespace Go.Proofs.Ytfdjlahaiogabaa
set_option maxRecDepth 20000
open Go.RowKit

/-- The data of the sum, or of the product. -/
noncomputable def joinTenL (k p q : Int) (L D X L' D' X' : List Int) (pr : Bool) : List Int := gatherL (joinF k p (widthI k q).toNat X (permDataL k q L' D' X' L) pr) (prodL D).toNat
theorem getL_within {t : Int} {wd n : Nat} {X : List Int} (h : Within t X) : Within t (getL wd X n) := fun x hx => by
  unfold getL at hx
  exact h x (List.mem_of_mem_drop (List.mem_of_mem_take hx))
theorem permX_within {t : Int} {wd N : Nat} {L D X labels : List Int} (h : Within t X) : Within t (permX wd L D X labels N) := fun x hx => by
  unfold permX at hx
  obtain ⟨n, -, hn⟩ := List.mem_flatMap.1 hx
  exact getL_within h x hn
theorem both_parts {k p q : Int} {L D X L' D' X' : List Int} (h : fitB k p q L D X L' D' X' = true) : tensorB k p q L D X = true ∧ tensorB k p q L' D' X' = true ∧ SetV L' L ∧ dimsVia L' D' L = D := by
  unfold fitB bothB at h
  simp only [Bool.and_eq_true, decide_eq_true_eq] at h
  obtain ⟨⟨h1, h2, h3⟩, h4⟩ := h
  exact ⟨h1, h2, set_sym (setV_true.1 h3), h4⟩
/-- What the join asks. -/
theorem fit_facts {k p q : Int} {L D X L' D' X' : List Int} (h : fitB k p q L D X L' D' X' = true) : PF k p q L D X L L.length (widthI k q).toNat (prodL D).toNat ∧ (permDataL k q L' D' X' L).length = X.length ∧ Within (topI k p q) X ∧ Within (topI k p q) (permDataL k q L' D' X' L) := by
  obtain ⟨h1, h2, h3, h4⟩ := both_parts h
  have hp := PF.of h1 (setV_perm (List.Perm.refl L) (tensor_axes h1).2.2.2.2)
  have hq := PF.of h2 h3
  refine ⟨hp, ?_, (tensorB_inv h1).2.2.2, permX_within (tensorB_inv h2).2.2.2⟩
  unfold permDataL
  rw [hq.len, hp.lX]
  congr 1
  have e1 := hq.dims.2.1
  rw [h4] at e1
  rw [e1, Int.toNat_natCast]
set_option maxHeartbeats 3200000 in
theorem add_tensors_spec {B B' : Nat} {lv dv xv lu du xu : Value} {k p q : Int} {L D X L' D' X' : List Int} {w : World} (ha : RdT B w lv dv xv L D X) (hb : RdT B' w lu du xu L' D' X') (hB : B ≤ w.heap.size) (hB' : B' ≤ w.heap.size) (hn : LenT L D X) (hn' : LenT L' D' X') :
    Calls Try.prog 47 #[ringV k p q, tenV lv dv xv, tenV lu du xu] w (NewTen2 w (if fitB k p q L D X L' D' X' = true then L else []) (if fitB k p q L D X L' D' X' = true then D else []) (if fitB k p q L D X L' D' X' = true then joinTenL k p q L D X L' D' X' false else []) (fitB k p q L D X L' D' X')) := by
  have HA := Lib.hid ha
  have HU := Lib.hid hb
  have HB := Lib.hid (And.intro hB hB')
  obtain ⟨al, cl, rfl, -⟩ := ints_form ha.l
  obtain ⟨ad, cd, rfl, -⟩ := ints_form ha.d
  obtain ⟨ax, cx, rfl, -⟩ := ints_form ha.x
  obtain ⟨bl, kl, rfl, -⟩ := ints_form hb.l
  obtain ⟨bd, kd, rfl, -⟩ := ints_form hb.d
  obtain ⟨bx, kx, rfl, -⟩ := ints_form hb.x
  obtain ⟨m1, hm1⟩ : ∃ m, m = L.length := ⟨_, rfl⟩
  obtain ⟨m2, hm2⟩ : ∃ m, m = D.length := ⟨_, rfl⟩
  obtain ⟨m3, hm3⟩ : ∃ m, m = X.length := ⟨_, rfl⟩
  obtain ⟨m4, hm4⟩ : ∃ m, m = L'.length := ⟨_, rfl⟩
  obtain ⟨m5, hm5⟩ : ∃ m, m = D'.length := ⟨_, rfl⟩
  obtain ⟨m6, hm6⟩ : ∃ m, m = X'.length := ⟨_, rfl⟩
  rw [← hm1, ← hm2, ← hm3] at HA ⊢
  rw [← hm4, ← hm5, ← hm6] at HU ⊢
  have HM := Lib.hid (And.intro hm1 (And.intro hm2 hm3))
  have R0 : Hid (Rs w ((((w.alloc (.cells #[.int .i64 k, .int .i64 p, .int .i64 q] 31)).alloc (.cells #[.slice al m1 cl, .slice ad m2 cd, .slice ax m3 cx] 28)).alloc (.cells #[.slice bl m4 kl, .slice bd m5 kd, .slice bx m6 kx] 28)).alloc (.cells #[nilV, nilV, nilV] 28)) [(w.heap.size + 1 + 1 + 1, nilV, nilV, nilV), (w.heap.size + 1 + 1, .slice bl m4 kl, .slice bd m5 kd, .slice bx m6 kx), (w.heap.size + 1, .slice al m1 cl, .slice ad m2 cd, .slice ax m3 cx), (w.heap.size, .int .i64 k, .int .i64 p, .int .i64 q)] []) := by
    have h := ((((Rs.start w).box (.int .i64 k) (.int .i64 p) (.int .i64 q) 31).box (.slice al m1 cl) (.slice ad m2 cd) (.slice ax m3 cx) 28).box (.slice bl m4 kl) (.slice bd m5 kd) (.slice bx m6 kx) 28).box nilV nilV nilV 28
    simp only [World.size_alloc] at h
    exact h
  have HFI := Lib.hid (fits_spec (k := k) (p := p) (q := q) (HA.out.below R0.out.bel hB) (HU.out.below R0.out.bel hB') (Nat.le_trans hB R0.out.bel.size) (Nat.le_trans hB' R0.out.bel.size) hn hn')
  have HFF := Lib.hid (fun h : fitB k p q L D X L' D' X' = true => And.intro (fit_facts h) (both_parts h))
  obtain ⟨yl, hyl⟩ : ∃ l, l = (if bothB k p q L D X L' D' X' = true then L else []) := ⟨_, rfl⟩
  obtain ⟨yd, hyd⟩ : ∃ l, l = (if bothB k p q L D X L' D' X' = true then dimsVia L' D' L else []) := ⟨_, rfl⟩
  obtain ⟨yx, hyx⟩ : ∃ l, l = (if bothB k p q L D X L' D' X' = true then permDataL k q L' D' X' L else []) := ⟨_, rfl⟩
  have HY := Lib.hid (fun h : bothB k p q L D X L' D' X' = true => (show yl = L ∧ yx = permDataL k q L' D' X' L from ⟨by rw [hyl, if_pos h], by rw [hyx, if_pos h]⟩))
  have HBF := Lib.hid (fun h : fitB k p q L D X L' D' X' = true => (show bothB k p q L D X L' D' X' = true from by unfold fitB at h; simp only [Bool.and_eq_true] at h; exact h.1))
  rw [← hyl, ← hyd, ← hyx] at HFI
  obtain ⟨fb, hfb⟩ : ∃ b, b = fitB k p q L D X L' D' X' := ⟨_, rfl⟩
  rw [← hfb] at HFI HFF HBF ⊢
  clear ha hb hB hB' hn hn' hm1 hm2 hm3 hm4 hm5 hm6 hyl hyd hyx hfb
  obtain ⟨⟨r0, r1, r2⟩, -⟩ := R0.out.at (r := w.heap.size) (a := .int .i64 k) (b := .int .i64 p) (c := .int .i64 q) (by simp)
  obtain ⟨⟨s0, s1, s2⟩, -⟩ := R0.out.at (r := w.heap.size + 1) (a := (.slice al m1 cl)) (b := (.slice ad m2 cd)) (c := (.slice ax m3 cx)) (by simp)
  obtain ⟨⟨b0, b1, b2⟩, -⟩ := R0.out.at (r := w.heap.size + 1 + 1) (a := (.slice bl m4 kl)) (b := (.slice bd m5 kd)) (c := (.slice bx m6 kx)) (by simp)
  cases fb with
  | false =>
    simp only [Bool.false_eq_true, if_false]
    go_enter Try.func47, Try.ntmps47
    go_wp2_with fail
    refine HFI.out.mono ?_
    clear r0 r1 r2 s0 s1 s2 b0 b1 b2
    rintro e w1 ⟨v1, v2, v3, rfl, ho, hb⟩
    have R1 := Lib.hid (R0.out.new3 hb ho)
    obtain ⟨g1, j1, rfl, -⟩ := ints_form ho.rows.1.rd
    obtain ⟨g2, j2, rfl, -⟩ := ints_form ho.rows.2.1.rd
    obtain ⟨g3, j3, rfl, -⟩ := ints_form ho.rows.2.2.rd
    clear ho hb
    obtain ⟨o1, ho1⟩ : ∃ m, m = yl.length := ⟨_, rfl⟩
    obtain ⟨o2, ho2⟩ : ∃ m, m = yd.length := ⟨_, rfl⟩
    obtain ⟨o3, ho3⟩ : ∃ m, m = yx.length := ⟨_, rfl⟩
    rw [← ho1, ← ho2, ← ho3] at R1 ⊢
    have HOL := Lib.hid (And.intro ho1 (And.intro ho2 ho3))
    clear ho1 ho2 ho3
    have R2 := Lib.hid (R1.out.box (.slice g1 o1 j1) (.slice g2 o2 j2) (.slice g3 o3 j3) 28)
    obtain ⟨⟨t0, t1, t2⟩, f0, f1, f2⟩ := R2.out.at (r := w.heap.size + 1 + 1 + 1) (a := nilV) (b := nilV) (c := nilV) (by simp)
    go_wp2
    refine bodyPost_ret (v := .tuple #[tenV nilV nilV nilV, .bool false]) (by simp [results, Try.results47, go_sem, t0, t1, t2]) rfl ?_
    exact NewTen2.nils ((R2.out.swapB).set3 _ _ _).bel
  | true =>
    simp only [if_true]
    obtain ⟨⟨hp, hyl, hwx, hwy⟩, -⟩ := HFF.out rfl
    obtain ⟨e1, e2⟩ := HY.out (HBF.out rfl)
    rw [← e2] at hyl hwy
    have P := Lib.hid hp
    have HYL := Lib.hid hyl
    have HW := Lib.hid (And.intro hwx hwy)
    have HRES : Hid (joinTenL k p q L D X L' D' X' false = gatherL (joinF k p (widthI k q).toNat X yx false) (prodL D).toNat) := Lib.hid (by rw [e2]; rfl)
    rw [HRES.out]
    have HMM : Hid (m1 = m2) := Lib.hid (by rw [HM.out.1, HM.out.2.1, hp.lD])
    obtain rfl := HMM.out
    rw [← HM.out.1] at P
    obtain ⟨res, hres⟩ : ∃ l, l = gatherL (joinF k p (widthI k q).toNat X yx false) (prodL D).toNat := ⟨_, rfl⟩
    have HRS := Lib.hid hres
    rw [← hres]
    clear hp hyl hwx hwy e1 e2 HFF HY HBF HRES hres HMM
    go_enter Try.func47, Try.ntmps47
    go_wp2_with fail
    refine HFI.out.mono ?_
    clear r0 r1 r2 s0 s1 s2 b0 b1 b2
    rintro e w1 ⟨v1, v2, v3, rfl, ho, hb⟩
    have R1 := Lib.hid (R0.out.new3 hb ho)
    obtain ⟨g1, j1, rfl, -⟩ := ints_form ho.rows.1.rd
    obtain ⟨g2, j2, rfl, -⟩ := ints_form ho.rows.2.1.rd
    obtain ⟨g3, j3, rfl, -⟩ := ints_form ho.rows.2.2.rd
    clear ho hb
    obtain ⟨o1, ho1⟩ : ∃ m, m = yl.length := ⟨_, rfl⟩
    obtain ⟨o2, ho2⟩ : ∃ m, m = yd.length := ⟨_, rfl⟩
    obtain ⟨o3, ho3⟩ : ∃ m, m = yx.length := ⟨_, rfl⟩
    rw [← ho1, ← ho2, ← ho3] at R1 ⊢
    have HOL := Lib.hid (And.intro ho1 (And.intro ho2 ho3))
    clear ho1 ho2 ho3
    obtain rfl : m3 = o3 := by rw [HOL.out.2.2, HYL.out, HM.out.2.2]
    have R2 := Lib.hid (R1.out.box (.slice g1 o1 j1) (.slice g2 o2 j2) (.slice g3 m3 j3) 28)
    obtain ⟨⟨r0, r1, r2⟩, -⟩ := R2.out.at (r := w.heap.size) (a := .int .i64 k) (b := .int .i64 p) (c := .int .i64 q) (by simp)
    obtain ⟨⟨s0, s1, s2⟩, -⟩ := R2.out.at (r := w.heap.size + 1) (a := (.slice al m1 cl)) (b := (.slice ad m1 cd)) (c := (.slice ax m3 cx)) (by simp)
    obtain ⟨⟨u0, u1, u2⟩, -⟩ := R2.out.at (r := w1.heap.size) (a := (.slice g1 o1 j1)) (b := (.slice g2 o2 j2)) (c := (.slice g3 m3 j3)) (by simp)
    have HJ := Lib.hid (join_full (B := (w1.alloc (.cells #[.slice g1 o1 j1, .slice g2 o2 j2, .slice g3 m3 j3] 28)).heap.size) false P.out HM.out.2.2 HYL.out HW.out.1 HW.out.2 (have hr := HA.out.below R2.out.bel HB.out.1; have hle := Nat.le_trans HB.out.1 R2.out.bel.size; ⟨hr.l.mono hle, hr.d.mono hle, hr.x.mono hle⟩) (⟨R2.out.rd (v := .slice g1 o1 j1) (xs := yl) (by simp), R2.out.rd (v := .slice g2 o2 j2) (xs := yd) (by simp), R2.out.rd (v := .slice g3 m3 j3) (xs := yx) (by simp)⟩) (Nat.le_refl _))
    rw [← HRS.out] at HJ
    go_wp2_with fail
    refine HJ.out.mono ?_
    clear r0 r1 r2 s0 s1 s2 u0 u1 u2
    rintro e w2 ⟨l', d', x', rfl, ho, hb⟩
    have R3 := Lib.hid (R2.out.step hb)
    obtain ⟨a1, c1, rfl, -⟩ := ints_form ho.rows.1.rd
    obtain ⟨a2, c2, rfl, -⟩ := ints_form ho.rows.2.1.rd
    obtain ⟨a3, c3, rfl, -⟩ := ints_form ho.rows.2.2.rd
    have lt1 := (R2.out.bx (w.heap.size + 1 + 1 + 1, nilV, nilV, nilV) (by simp)).lt
    have hz1 := R2.out.bel.size
    obtain ⟨q1, hq1⟩ : ∃ m, m = L.length := ⟨_, rfl⟩
    obtain ⟨q2, hq2⟩ : ∃ m, m = D.length := ⟨_, rfl⟩
    obtain ⟨q3, hq3⟩ : ∃ m, m = res.length := ⟨_, rfl⟩
    rw [← hq1, ← hq2, ← hq3] at ho ⊢
    have HO := Lib.hid (ho.set3 lt1 (.slice a1 q1 c1) (.slice a2 q2 c2) (.slice a3 q3 c3))
    clear hb ho hq1 hq2 hq3 HJ
    obtain ⟨⟨t0, t1, t2⟩, f0, f1, f2⟩ := R3.out.at (r := w.heap.size + 1 + 1 + 1) (a := nilV) (b := nilV) (c := nilV) (by simp)
    go_wp2
    refine bodyPost_ret (v := .tuple #[tenV (.slice a1 q1 c1) (.slice a2 q2 c2) (.slice a3 q3 c3), .bool true]) (by simp [results, Try.results47, go_sem, t0, t1, t2]) rfl ?_
    have R4 := (R3.out.swapB.set3 (.slice a1 q1 c1) (.slice a2 q2 c2) (.slice a3 q3 c3))
    exact ⟨_, _, _, rfl, HO.out.wide hz1 (by simp) (by simp), R4.bel⟩
end Go.Proofs.Ytfdjlahaiogabaa
