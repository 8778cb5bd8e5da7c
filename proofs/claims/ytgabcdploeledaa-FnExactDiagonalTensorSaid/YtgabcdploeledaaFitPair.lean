
/- spec.l08Fits, spec.JoinSize. -/
import Derived.Test.YtgabcdploeledaaKeepSpec
import Derived.Test.YtgabcdploeledaaJoinAxes
import Derived.Test.YtgabcdploeledaaPairMath
namespace Go.Proofs.Ytgabcdploeledaa
set_option maxRecDepth 20000
open Go.RowKit

/-- The join and what is kept of it are small enough. -/
noncomputable def smallB (L D L' D' keep : List Int) : Bool := decide (prodL (joinD L D L' D') ≤ 65536) && decide (0 ≤ sizeI (keepL (joinL L L') keep) (keepD (joinL L L') (joinD L D L' D') keep))
noncomputable def pfB (L D L' D' keep : List Int) : Bool := fitV L D L' D' && smallB L D L' D' keep
noncomputable def joinI (L D L' D' : List Int) : Int := if fitV L D L' D' = true then capW (joinD L D L' D') else -1
noncomputable def joinSizeI (L D L' D' : List Int) : Int := if sizeI L D < 0 ∨ sizeI L' D' < 0 then -1 else joinI L D L' D'
theorem sizeI_axes {L D : List Int} (h : ¬ sizeI L D < 0) : AxesV L D ∧ 1 ≤ prodL D ∧ prodL D ≤ 4096 ∧ sizeI L D = prodL D := by
  rcases sizeI_cases L D with ⟨h1, -⟩ | ⟨h1, h2, h3, h4⟩
  · omega
  · exact ⟨h2, h3, h4, h1⟩
theorem joinD_ax {L D L' D' : List Int} (h : AxesV L D) (h' : AxesV L' D') : (∀ d ∈ joinD L D L' D', 1 ≤ d ∧ d ≤ 8) ∧ (joinL L L').Nodup ∧ (joinL L L').length ≤ 24 ∧ (joinL L L').length = (joinD L D L' D').length := by
  refine ⟨joinD_in h'.2.1 h.2.2.2.1 h'.2.2.2.1, join_nodup h.2.2.2.2 h'.2.2.2.2, ?_, (joinD_len h.2.1).symm⟩
  have h1 := join_len L L'
  have := h.1
  have := h'.1
  omega
set_option maxHeartbeats 3200000 in
theorem fits_pair_spec {B B' : Nat} {lv dv xv lu du xu kv : Value} {L D X L' D' X' keep : List Int} {w : World} (ha : RdT B w lv dv xv L D X) (hb : RdT B' w lu du xu L' D' X') (hk : Rd B w kv (ints keep)) (hB : B ≤ w.heap.size) (hB' : B' ≤ w.heap.size) (hax : AxesV L D) (hax' : AxesV L' D') (hkl : keep.length ≤ 281474976710656) :
    Calls Try.prog 56 #[tenV lv dv xv, tenV lu du xu, kv] w fun e w' => e = .returned (.bool (pfB L D L' D' keep)) ∧ Below w.heap.size w w' := by
  have HK : Hid (Rd w.heap.size w kv (ints keep)) := Lib.hid (hk.mono hB)
  obtain ⟨ak, ck, rfl, -⟩ := ints_form hk
  obtain ⟨mk, hmk⟩ : ∃ m, m = keep.length := ⟨_, rfl⟩
  rw [← hmk] at HK ⊢
  have HA : Hid (RdT w.heap.size w lv dv xv L D X) := Lib.hid ⟨ha.l.mono hB, ha.d.mono hB, ha.x.mono hB⟩
  have HU : Hid (RdT w.heap.size w lu du xu L' D' X') := Lib.hid ⟨hb.l.mono hB', hb.d.mono hB', hb.x.mono hB'⟩
  obtain ⟨al, cl, rfl, -⟩ := ints_form ha.l
  obtain ⟨ad, cd, rfl, -⟩ := ints_form ha.d
  obtain ⟨ax, cx, rfl, -⟩ := ints_form ha.x
  obtain ⟨bl, kl, rfl, -⟩ := ints_form hb.l
  obtain ⟨bd, kd, rfl, -⟩ := ints_form hb.d
  obtain ⟨bx, kx, rfl, -⟩ := ints_form hb.x
  obtain ⟨m1, hm1⟩ : ∃ m, m = L.length := ⟨_, rfl⟩
  obtain ⟨m2, hm2⟩ : ∃ m, m = D.length := ⟨_, rfl⟩
  obtain ⟨m3, hm3⟩ : ∃ m, m = X.length := ⟨_, rfl⟩
  obtain ⟨m4, hm4⟩ : ∃ m, m = L'.length := ⟨_, rfl⟩
  obtain ⟨m5, hm5⟩ : ∃ m, m = D'.length := ⟨_, rfl⟩
  obtain ⟨m6, hm6⟩ : ∃ m, m = X'.length := ⟨_, rfl⟩
  rw [← hm1, ← hm2, ← hm3] at HA ⊢
  rw [← hm4, ← hm5, ← hm6] at HU ⊢
  have R0 : Hid (Rs w ((w.alloc (.cells #[.slice al m1 cl, .slice ad m2 cd, .slice ax m3 cx] 28)).alloc (.cells #[.slice bl m4 kl, .slice bd m5 kd, .slice bx m6 kx] 28)) [(w.heap.size + 1, .slice bl m4 kl, .slice bd m5 kd, .slice bx m6 kx), (w.heap.size, .slice al m1 cl, .slice ad m2 cd, .slice ax m3 cx)] []) := by
    have h := ((Rs.start w).box (.slice al m1 cl) (.slice ad m2 cd) (.slice ax m3 cx) 28).box (.slice bl m4 kl) (.slice bd m5 kd) (.slice bx m6 kx) 28
    simp only [World.size_alloc] at h
    exact h
  have HJN := Lib.hid (fun (hax : AxesV L D) (hax' : AxesV L' D') (w1 : World) (hb : Below w.heap.size w w1) => join_spec (HA.out.below hb (Nat.le_refl _)) (HU.out.below hb (Nat.le_refl _)) hb.size hb.size hax hax')
  have HJ := Lib.hid (joinD_ax hax hax')
  have HQ := Lib.hid (HJN.out hax hax')
  have HKL := Lib.hid hkl
  obtain ⟨J, hJ⟩ : ∃ l, l = joinL L L' := ⟨_, rfl⟩
  obtain ⟨JD, hJD⟩ : ∃ l, l = joinD L D L' D' := ⟨_, rfl⟩
  obtain ⟨fb, hfb⟩ : ∃ b, b = fitV L D L' D' := ⟨_, rfl⟩
  have HRES : Hid (pfB L D L' D' keep = (fb && (decide (prodL JD ≤ 65536) && decide (0 ≤ sizeI (keepL J keep) (keepD J JD keep))))) := Lib.hid (by rw [hfb, hJ, hJD]; rfl)
  rw [HRES.out]
  rw [← hJ, ← hJD] at HJ
  rw [← hJ, ← hJD, ← hfb] at HQ
  clear ha hb hk hB hB' hax hax' hkl hm1 hm2 hm3 hm4 hm5 hm6 hmk HJN HRES hJ hJD hfb
  obtain ⟨⟨a0, a1, a2⟩, -⟩ := R0.out.at (r := w.heap.size) (a := .slice al m1 cl) (b := .slice ad m2 cd) (c := .slice ax m3 cx) (by simp)
  obtain ⟨⟨b0, b1, b2⟩, -⟩ := R0.out.at (r := w.heap.size + 1) (a := .slice bl m4 kl) (b := .slice bd m5 kd) (c := .slice bx m6 kx) (by simp)
  cases fb with
  | false =>
    obtain ⟨r, hr⟩ : ∃ b, b = (false && (decide (prodL JD ≤ 65536) && decide (0 ≤ sizeI (keepL J keep) (keepD J JD keep)))) := ⟨_, rfl⟩
    rw [← hr]
    have HR := Lib.hid hr
    clear hr
    go_enter Try.func56, Try.ntmps56
    go_wp2_with fail
    refine (HQ.out _ R0.out.bel).mono ?_
    clear a0 a1 a2 b0 b1 b2
    rintro e w1 ⟨u, v, rfl, ho, hb⟩
    have R1 := Lib.hid (R0.out.step hb)
    clear ho hb
    go_wp2
    go_ret
    exact ⟨by rw [HR.out]; rfl, R1.out.bel⟩
  | true =>
    obtain ⟨c, hc⟩ : ∃ c, c = capW JD := ⟨_, rfl⟩
    have HCW := Lib.hid (capW_is (D := JD) (fun d hd => (HJ.out.1 d hd).1))
    obtain ⟨s, hs⟩ : ∃ s, s = sizeI (keepL J keep) (keepD J JD keep) := ⟨_, rfl⟩
    have HR : Hid ((true && (decide (prodL JD ≤ 65536) && decide (0 ≤ s))) = (decide (c ≤ 65536) && decide (0 ≤ s))) := Lib.hid (by
      have h := HCW.out.1
      rw [← hc] at h
      rw [Bool.true_and]
      congr 1
      by_cases h2 : prodL JD ≤ 65536
      · rw [decide_eq_true h2, decide_eq_true (by omega)]
      · rw [decide_eq_false h2, decide_eq_false (by omega)])
    rw [← hs, HR.out]
    have HC := Lib.hid hc
    have HSZ := Lib.hid hs
    clear HR hc hs
    go_enter Try.func56, Try.ntmps56
    go_wp2_with fail
    refine (HQ.out _ R0.out.bel).mono ?_
    clear a0 a1 a2 b0 b1 b2
    rintro e w1 ⟨u, v, rfl, ho, hb⟩
    simp only [if_true] at ho
    have R1 := Lib.hid (R0.out.step hb)
    obtain ⟨g1, c1, rfl, -⟩ := ints_form (show Own _ _ _ u J from ho.1 (u, J) (by simp)).rd
    obtain ⟨g2, c2, rfl, -⟩ := ints_form (show Own _ _ _ v JD from ho.1 (v, JD) (by simp)).rd
    have RJ := Lib.hid (ho.1 (.slice g1 J.length c1, J) (by simp)).rd
    have RD := Lib.hid (ho.1 (.slice g2 JD.length c2, JD) (by simp)).rd
    clear ho hb
    have HPW := Lib.hid (product_work RD.out (by rw [← HJ.out.2.2.2]; have := HJ.out.2.2.1; omega) HJ.out.1)
    rw [← HC.out] at HPW
    go_wp2_with fail
    refine HPW.out.mono ?_
    rintro e w2 ⟨rfl, rfl⟩
    by_cases hcw : c ≤ 65536
    · have q0 : decide (c ≤ 65536) = true := by simpa using hcw
      have HKS := Lib.hid (keep_spec (keep := keep) (w := w1) (B := w1.heap.size) RJ.out RD.out ((HK.out.below R1.out.bel (Nat.le_refl _)).mono R1.out.bel.size) (Nat.le_refl _) HJ.out.2.2.2 HJ.out.2.1 HJ.out.2.2.1 HKL.out)
      go_wp2_with fail
      refine HKS.out.mono ?_
      rintro e w3 ⟨v1, v2, v3, rfl, ho, hb⟩
      have R3 := Lib.hid (R1.out.step hb)
      have HZ := Lib.hid (size_spec (w := w3) (B := w3.heap.size) ⟨ho.rows.1.rd, ho.rows.2.1.rd, ho.rows.2.2.rd⟩ (Nat.le_refl _) ⟨by have h := keep_len J keep; have := HJ.out.2.2.1; omega, by have h := keep_len J keep; have := HJ.out.2.2.1; show (dimsVia _ _ _).length ≤ _; simp only [dimsVia, List.length_map]; omega, by simp⟩)
      rw [← HSZ.out] at HZ
      clear ho hb
      go_wp2_with fail
      refine HZ.out.mono ?_
      rintro e w4 ⟨rfl, hb⟩
      have R4 := Lib.hid (R3.out.step hb)
      clear hb
      go_wp2
      go_ret
      exact ⟨by rw [q0, Bool.true_and]; rfl, R4.out.bel⟩
    · have q0 : decide (c ≤ 65536) = false := by simpa using hcw
      go_wp2
      go_ret
      exact ⟨by rw [q0, Bool.false_and]; rfl, R1.out.bel⟩
set_option maxHeartbeats 3200000 in
theorem join_size_spec {B B' : Nat} {lv dv xv lu du xu : Value} {L D X L' D' X' : List Int} {w : World} (ha : RdT B w lv dv xv L D X) (hb : RdT B' w lu du xu L' D' X') (hB : B ≤ w.heap.size) (hB' : B' ≤ w.heap.size) (hn : LenT L D X) (hn' : LenT L' D' X') :
    Calls Try.prog 31 #[tenV lv dv xv, tenV lu du xu] w fun e w' => e = .returned (.int .i64 (joinSizeI L D L' D')) ∧ Below w.heap.size w w' := by
  have HA : Hid (RdT w.heap.size w lv dv xv L D X) := Lib.hid ⟨ha.l.mono hB, ha.d.mono hB, ha.x.mono hB⟩
  have HU : Hid (RdT w.heap.size w lu du xu L' D' X') := Lib.hid ⟨hb.l.mono hB', hb.d.mono hB', hb.x.mono hB'⟩
  obtain ⟨al, cl, rfl, -⟩ := ints_form ha.l
  obtain ⟨ad, cd, rfl, -⟩ := ints_form ha.d
  obtain ⟨ax, cx, rfl, -⟩ := ints_form ha.x
  obtain ⟨bl, kl, rfl, -⟩ := ints_form hb.l
  obtain ⟨bd, kd, rfl, -⟩ := ints_form hb.d
  obtain ⟨bx, kx, rfl, -⟩ := ints_form hb.x
  obtain ⟨m1, hm1⟩ : ∃ m, m = L.length := ⟨_, rfl⟩
  obtain ⟨m2, hm2⟩ : ∃ m, m = D.length := ⟨_, rfl⟩
  obtain ⟨m3, hm3⟩ : ∃ m, m = X.length := ⟨_, rfl⟩
  obtain ⟨m4, hm4⟩ : ∃ m, m = L'.length := ⟨_, rfl⟩
  obtain ⟨m5, hm5⟩ : ∃ m, m = D'.length := ⟨_, rfl⟩
  obtain ⟨m6, hm6⟩ : ∃ m, m = X'.length := ⟨_, rfl⟩
  rw [← hm1, ← hm2, ← hm3] at HA ⊢
  rw [← hm4, ← hm5, ← hm6] at HU ⊢
  have R0 : Hid (Rs w ((w.alloc (.cells #[.slice al m1 cl, .slice ad m2 cd, .slice ax m3 cx] 28)).alloc (.cells #[.slice bl m4 kl, .slice bd m5 kd, .slice bx m6 kx] 28)) [(w.heap.size + 1, .slice bl m4 kl, .slice bd m5 kd, .slice bx m6 kx), (w.heap.size, .slice al m1 cl, .slice ad m2 cd, .slice ax m3 cx)] []) := by
    have h := ((Rs.start w).box (.slice al m1 cl) (.slice ad m2 cd) (.slice ax m3 cx) 28).box (.slice bl m4 kl) (.slice bd m5 kd) (.slice bx m6 kx) 28
    simp only [World.size_alloc] at h
    exact h
  have HJN := Lib.hid (fun (hax : AxesV L D) (hax' : AxesV L' D') (w1 : World) (hb : Below w.heap.size w w1) => join_spec (HA.out.below hb (Nat.le_refl _)) (HU.out.below hb (Nat.le_refl _)) hb.size hb.size hax hax')
  have HS1 := Lib.hid (fun (w1 : World) (hb : Below w.heap.size w w1) => size_spec (HA.out.below hb (Nat.le_refl _)) hb.size hn)
  have HS2 := Lib.hid (fun (w1 : World) (hb : Below w.heap.size w w1) => size_spec (HU.out.below hb (Nat.le_refl _)) hb.size hn')
  obtain ⟨z1, hz1⟩ : ∃ z, z = sizeI L D := ⟨_, rfl⟩
  obtain ⟨z2, hz2⟩ : ∃ z, z = sizeI L' D' := ⟨_, rfl⟩
  obtain ⟨r, hr⟩ : ∃ z, z = joinSizeI L D L' D' := ⟨_, rfl⟩
  have HR : Hid (r = if z1 < 0 ∨ z2 < 0 then -1 else joinI L D L' D') := Lib.hid (by rw [hr, hz1, hz2]; rfl)
  have HA1 := Lib.hid (fun h : ¬ z1 < 0 => (sizeI_axes (hz1 ▸ h)).1)
  have HA2 := Lib.hid (fun h : ¬ z2 < 0 => (sizeI_axes (hz2 ▸ h)).1)
  rw [← hz1] at HS1
  rw [← hz2] at HS2
  rw [← hr]
  clear ha hb hB hB' hn hn' hm1 hm2 hm3 hm4 hm5 hm6 hz1 hz2 hr
  obtain ⟨⟨a0, a1, a2⟩, -⟩ := R0.out.at (r := w.heap.size) (a := .slice al m1 cl) (b := .slice ad m2 cd) (c := .slice ax m3 cx) (by simp)
  obtain ⟨⟨b0, b1, b2⟩, -⟩ := R0.out.at (r := w.heap.size + 1) (a := .slice bl m4 kl) (b := .slice bd m5 kd) (c := .slice bx m6 kx) (by simp)
  by_cases h1 : z1 < 0
  · have q1 : decide (z1 < 0) = true := by simpa using h1
    have HRR : Hid (r = -1) := Lib.hid (by rw [HR.out, if_pos (.inl h1)])
    go_enter Try.func31, Try.ntmps31
    go_wp2_with fail
    refine (HS1.out _ R0.out.bel).mono ?_
    clear a0 a1 a2 b0 b1 b2
    rintro e w1 ⟨rfl, hb⟩
    have R1 := Lib.hid (R0.out.step hb)
    clear hb
    go_wp2
    go_ret
    exact ⟨by rw [HRR.out]; rfl, R1.out.bel⟩
  · have q1 : decide (z1 < 0) = false := by simpa using h1
    by_cases h2 : z2 < 0
    · have q2 : decide (z2 < 0) = true := by simpa using h2
      have HRR : Hid (r = -1) := Lib.hid (by rw [HR.out, if_pos (.inr h2)])
      go_enter Try.func31, Try.ntmps31
      go_wp2_with fail
      refine (HS1.out _ R0.out.bel).mono ?_
      clear a0 a1 a2 b0 b1 b2
      rintro e w1 ⟨rfl, hb⟩
      have R1 := Lib.hid (R0.out.step hb)
      clear hb
      obtain ⟨⟨a0, a1, a2⟩, -⟩ := R1.out.at (r := w.heap.size) (a := .slice al m1 cl) (b := .slice ad m2 cd) (c := .slice ax m3 cx) (by simp)
      obtain ⟨⟨b0, b1, b2⟩, -⟩ := R1.out.at (r := w.heap.size + 1) (a := .slice bl m4 kl) (b := .slice bd m5 kd) (c := .slice bx m6 kx) (by simp)
      go_wp2_with fail
      refine (HS2.out _ R1.out.bel).mono ?_
      clear a0 a1 a2 b0 b1 b2
      rintro e w2 ⟨rfl, hb⟩
      have R2 := Lib.hid (R1.out.step hb)
      clear hb
      go_wp2
      go_ret
      exact ⟨by rw [HRR.out]; rfl, R2.out.bel⟩
    · have q2 : decide (z2 < 0) = false := by simpa using h2
      have hax := HA1.out h1
      have hax' := HA2.out h2
      have HJ := Lib.hid (joinD_ax hax hax')
      have HQ := Lib.hid (HJN.out hax hax')
      have HRR : Hid (r = joinI L D L' D') := Lib.hid (by rw [HR.out, if_neg (by omega)])
      obtain ⟨J, hJ⟩ : ∃ l, l = joinL L L' := ⟨_, rfl⟩
      obtain ⟨JD, hJD⟩ : ∃ l, l = joinD L D L' D' := ⟨_, rfl⟩
      obtain ⟨fb, hfb⟩ : ∃ b, b = fitV L D L' D' := ⟨_, rfl⟩
      have HR2 : Hid (r = if fb = true then capW JD else -1) := Lib.hid (by rw [HRR.out, hfb, hJD]; rfl)
      rw [← hJ, ← hJD] at HJ
      rw [← hJ, ← hJD, ← hfb] at HQ
      clear hax hax' HJN HR HRR HA1 HA2 hJ hJD hfb
      cases fb with
      | false =>
        have HR3 : Hid (r = -1) := Lib.hid (by rw [HR2.out]; rfl)
        clear HR2
        go_enter Try.func31, Try.ntmps31
        go_wp2_with fail
        refine (HS1.out _ R0.out.bel).mono ?_
        clear a0 a1 a2 b0 b1 b2
        rintro e w1 ⟨rfl, hb⟩
        have R1 := Lib.hid (R0.out.step hb)
        clear hb
        obtain ⟨⟨a0, a1, a2⟩, -⟩ := R1.out.at (r := w.heap.size) (a := .slice al m1 cl) (b := .slice ad m2 cd) (c := .slice ax m3 cx) (by simp)
        obtain ⟨⟨b0, b1, b2⟩, -⟩ := R1.out.at (r := w.heap.size + 1) (a := .slice bl m4 kl) (b := .slice bd m5 kd) (c := .slice bx m6 kx) (by simp)
        go_wp2_with fail
        refine (HS2.out _ R1.out.bel).mono ?_
        clear a0 a1 a2 b0 b1 b2
        rintro e w2 ⟨rfl, hb⟩
        have R2 := Lib.hid (R1.out.step hb)
        clear hb
        obtain ⟨⟨a0, a1, a2⟩, -⟩ := R2.out.at (r := w.heap.size) (a := .slice al m1 cl) (b := .slice ad m2 cd) (c := .slice ax m3 cx) (by simp)
        obtain ⟨⟨b0, b1, b2⟩, -⟩ := R2.out.at (r := w.heap.size + 1) (a := .slice bl m4 kl) (b := .slice bd m5 kd) (c := .slice bx m6 kx) (by simp)
        go_wp2_with fail
        refine (HQ.out _ R2.out.bel).mono ?_
        clear a0 a1 a2 b0 b1 b2
        rintro e w3 ⟨u, v, rfl, ho, hb⟩
        have R3 := Lib.hid (R2.out.step hb)
        clear ho hb
        go_wp2
        go_ret
        exact ⟨by rw [HR3.out]; rfl, R3.out.bel⟩
      | true =>
        have HR3 : Hid (r = capW JD) := Lib.hid (by rw [HR2.out]; rfl)
        clear HR2
        go_enter Try.func31, Try.ntmps31
        go_wp2_with fail
        refine (HS1.out _ R0.out.bel).mono ?_
        clear a0 a1 a2 b0 b1 b2
        rintro e w1 ⟨rfl, hb⟩
        have R1 := Lib.hid (R0.out.step hb)
        clear hb
        obtain ⟨⟨a0, a1, a2⟩, -⟩ := R1.out.at (r := w.heap.size) (a := .slice al m1 cl) (b := .slice ad m2 cd) (c := .slice ax m3 cx) (by simp)
        obtain ⟨⟨b0, b1, b2⟩, -⟩ := R1.out.at (r := w.heap.size + 1) (a := .slice bl m4 kl) (b := .slice bd m5 kd) (c := .slice bx m6 kx) (by simp)
        go_wp2_with fail
        refine (HS2.out _ R1.out.bel).mono ?_
        clear a0 a1 a2 b0 b1 b2
        rintro e w2 ⟨rfl, hb⟩
        have R2 := Lib.hid (R1.out.step hb)
        clear hb
        obtain ⟨⟨a0, a1, a2⟩, -⟩ := R2.out.at (r := w.heap.size) (a := .slice al m1 cl) (b := .slice ad m2 cd) (c := .slice ax m3 cx) (by simp)
        obtain ⟨⟨b0, b1, b2⟩, -⟩ := R2.out.at (r := w.heap.size + 1) (a := .slice bl m4 kl) (b := .slice bd m5 kd) (c := .slice bx m6 kx) (by simp)
        go_wp2_with fail
        refine (HQ.out _ R2.out.bel).mono ?_
        clear a0 a1 a2 b0 b1 b2
        rintro e w3 ⟨u, v, rfl, ho, hb⟩
        simp only [if_true] at ho
        have R3 := Lib.hid (R2.out.step hb)
        obtain ⟨g1, c1, rfl, -⟩ := ints_form (show Own _ _ _ u J from ho.1 (u, J) (by simp)).rd
        obtain ⟨g2, c2, rfl, -⟩ := ints_form (show Own _ _ _ v JD from ho.1 (v, JD) (by simp)).rd
        have RD := Lib.hid (ho.1 (.slice g2 JD.length c2, JD) (by simp)).rd
        clear ho hb
        have HPW := Lib.hid (product_work RD.out (by rw [← HJ.out.2.2.2]; have := HJ.out.2.2.1; omega) HJ.out.1)
        rw [← HR3.out] at HPW
        go_wp2_with fail
        refine HPW.out.mono ?_
        rintro e w4 ⟨rfl, rfl⟩
        go_wp2
        go_ret
        exact ⟨rfl, R3.out.bel⟩
end Go.Proofs.Ytgabcdploeledaa
