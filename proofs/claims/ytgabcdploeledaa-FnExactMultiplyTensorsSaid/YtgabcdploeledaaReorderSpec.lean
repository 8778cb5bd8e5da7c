
/- spec.PermuteTensor, SortTensor, l06Same. -/
import Derived.Test.YtgabcdploeledaaPermSpec
import Derived.Deep.RegionHeld3
namespace Go.Proofs.Ytgabcdploeledaa
set_option maxRecDepth 20000
open Go.RowKit

/-- What a function answers that makes a tensor and says whether. -/
def NewTen2 (w : World) (L D X : List Int) (b : Bool) (e : Ending) (w' : World) : Prop := ∃ lv dv xv, e = .returned (.tuple #[tenV lv dv xv, .bool b]) ∧ OwnG w' w.heap.size w'.heap.size [(lv, L), (dv, D), (xv, X)] ∧ Below w.heap.size w w'
theorem NewTen2.nils {w w' : World} {b : Bool} (h : Below w.heap.size w w') : NewTen2 w [] [] [] b (.returned (.tuple #[tenV nilV nilV nilV, .bool b])) w' :=
  ⟨_, _, _, rfl, OwnG.three (Own.nils h.size) (Own.nils (Nat.le_refl _)) (Own.nils (Nat.le_refl _)) (Nat.le_refl _) h.size (Nat.le_refl _), h⟩
noncomputable def permB (k p q : Int) (L D X labels : List Int) : Bool := tensorB k p q L D X && setV L labels
noncomputable def permDataL (k q : Int) (L D X labels : List Int) : List Int := permX (widthI k q).toNat L D X labels (prodL D).toNat
/-- The answer box is stored: what was made stays. -/
theorem OwnG.set3 {w : World} {lo hi r : Nat} {a b c : Value} {x y z : List Int} (h : OwnG w lo hi [(a, x), (b, y), (c, z)]) (hr : r < lo) (u v t : Value) : OwnG (((w.setCell ⟨r, 0, none⟩ u).setCell ⟨r, 1, none⟩ v).setCell ⟨r, 2, none⟩ t) lo hi [(a, x), (b, y), (c, z)] := by
  obtain ⟨o1, o2, o3⟩ := h.rows
  exact OwnG.of3 h.2 (Own.set (Own.set (Own.set o1 hr _) hr _) hr _) (Own.set (Own.set (Own.set o2 hr _) hr _) hr _) (Own.set (Own.set (Own.set o3 hr _) hr _) hr _)
set_option maxHeartbeats 1600000 in
theorem permute_tensor_spec {B : Nat} {lv dv xv gv : Value} {k p q : Int} {L D X labels : List Int} {w : World} (h : RdT B w lv dv xv L D X) (hg : Rd B w gv (ints labels)) (hB : B ≤ w.heap.size) (hn : LenT L D X) (hng : labels.length ≤ 281474976710656) :
    Calls Try.prog 42 #[ringV k p q, tenV lv dv xv, gv] w (NewTen2 w (if permB k p q L D X labels = true then labels else []) (if permB k p q L D X labels = true then dimsVia L D labels else []) (if permB k p q L D X labels = true then permDataL k q L D X labels else []) (permB k p q L D X labels)) := by
  have HT := Lib.hid h
  have HG := Lib.hid hg
  have HN := Lib.hid hn
  have HB0 := Lib.hid hB
  obtain ⟨al, cl, rfl, -⟩ := ints_form h.l
  obtain ⟨ad, cd, rfl, -⟩ := ints_form h.d
  obtain ⟨ax, cx, rfl, -⟩ := ints_form h.x
  obtain ⟨ag, cg, rfl, -⟩ := ints_form hg
  obtain ⟨ml, hml⟩ : ∃ m, m = L.length := ⟨_, rfl⟩
  obtain ⟨md, hmd⟩ : ∃ m, m = D.length := ⟨_, rfl⟩
  obtain ⟨mx, hmx⟩ : ∃ m, m = X.length := ⟨_, rfl⟩
  obtain ⟨mg, hmg⟩ : ∃ m, m = labels.length := ⟨_, rfl⟩
  rw [← hml, ← hmd, ← hmx] at HT ⊢
  rw [← hmg] at HG ⊢
  have T0 := Lib.hid (Three.start w k p q (.slice al ml cl) (.slice ad md cd) (.slice ax mx cx) nilV nilV nilV 31 28 28)
  have HOK := Lib.hid (tensor_ok_spec (k := k) (p := p) (n := q) (HT.out.below T0.out.1.bel HB0.out) (Nat.le_trans HB0.out T0.out.1.bel.size) HN.out)
  have HSE := Lib.hid (fun (w1 : World) (hb : Below w.heap.size w w1) => set_spec (HT.out.l.below hb HB0.out) (HG.out.below hb HB0.out) HN.out.l hng)
  have HPE := Lib.hid (fun (w1 : World) (hb : Below w.heap.size w w1) (ht : tensorB k p q L D X = true) (hs : SetV L labels) => permute_spec (HT.out.below hb HB0.out) (HG.out.below hb HB0.out) (Nat.le_trans HB0.out hb.size) ht hs)
  obtain ⟨tb, htb⟩ : ∃ b, b = tensorB k p q L D X := ⟨_, rfl⟩
  obtain ⟨sb, hsb⟩ : ∃ b, b = setV L labels := ⟨_, rfl⟩
  obtain ⟨pb, hpb⟩ : ∃ b, b = permB k p q L D X labels := ⟨_, rfl⟩
  rw [← htb] at HOK
  rw [← hsb] at HSE
  rw [← hpb]
  have HPB : Hid (pb = (tb && sb)) := by show _ = _; rw [hpb, htb, hsb]; rfl
  have HTB := Lib.hid htb
  have HSB := Lib.hid hsb
  clear h hg hB hn hng hml hmd hmx hmg htb hsb hpb
  obtain ⟨r0, r1, r2, s0, s1, s2⟩ := T0.out.cells
  cases tb with
  | false =>
    obtain rfl : pb = false := by rw [HPB.out]; rfl
    simp only [Bool.false_eq_true, if_false]
    go_enter Try.func42, Try.ntmps42
    go_wp2_with fail
    refine HOK.out.mono ?_
    clear r0 r1 r2 s0 s1 s2
    rintro e w1 ⟨rfl, hb⟩
    have T1 := Lib.hid (T0.out.step hb)
    clear hb
    obtain ⟨t0, t1, t2, f0, f1, f2⟩ := T1.out.ans
    go_wp2
    refine bodyPost_ret (v := .tuple #[tenV nilV nilV nilV, .bool false]) (by simp [results, Try.results42, go_sem, t0, t1, t2]) rfl ?_
    exact NewTen2.nils (((T1.out.1.bel.setCell (by simp; omega) _).setCell (by simp; omega) _).setCell (by simp; omega) _)
  | true =>
    cases sb with
    | false =>
      obtain rfl : pb = false := by rw [HPB.out]; rfl
      simp only [Bool.false_eq_true, if_false]
      go_enter Try.func42, Try.ntmps42
      go_wp2_with fail
      refine HOK.out.mono ?_
      clear r0 r1 r2 s0 s1 s2
      rintro e w1 ⟨rfl, hb⟩
      have T1 := Lib.hid (T0.out.step hb)
      clear hb
      obtain ⟨r0, r1, r2, s0, s1, s2⟩ := T1.out.cells
      obtain ⟨t0, t1, t2, f0, f1, f2⟩ := T1.out.ans
      go_wp2_with fail
      refine (HSE.out _ T1.out.1.bel).mono ?_
      rintro e w2 ⟨rfl, rfl⟩
      go_wp2
      refine bodyPost_ret (v := .tuple #[tenV nilV nilV nilV, .bool false]) (by simp [results, Try.results42, go_sem, t0, t1, t2]) rfl ?_
      exact NewTen2.nils (((T1.out.1.bel.setCell (by simp; omega) _).setCell (by simp; omega) _).setCell (by simp; omega) _)
    | true =>
      obtain rfl : pb = true := by rw [HPB.out]; rfl
      simp only [if_true]
      have HQ := Lib.hid (fun (w1 : World) (hb : Below w.heap.size w w1) => HPE.out w1 hb HTB.out.symm (setV_true.1 HSB.out.symm))
      have HDL : Hid (permX (widthI k q).toNat L D X labels (prodL D).toNat = permDataL k q L D X labels) := Lib.hid rfl
      rw [HDL.out] at HQ
      clear HPE
      go_enter Try.func42, Try.ntmps42
      go_wp2_with fail
      refine HOK.out.mono ?_
      clear r0 r1 r2 s0 s1 s2
      rintro e w1 ⟨rfl, hb⟩
      have T1 := Lib.hid (T0.out.step hb)
      clear hb
      obtain ⟨r0, r1, r2, s0, s1, s2⟩ := T1.out.cells
      go_wp2_with fail
      refine (HSE.out _ T1.out.1.bel).mono ?_
      rintro e w2 ⟨rfl, rfl⟩
      go_wp2_with fail
      refine (HQ.out _ T1.out.1.bel).mono ?_
      clear r0 r1 r2 s0 s1 s2
      rintro e w3 ⟨l', d', x', rfl, ho, hb⟩
      have T3 := Lib.hid (T1.out.step hb)
      obtain ⟨a1, c1, rfl, -⟩ := ints_form ho.rows.1.rd
      obtain ⟨a2, c2, rfl, -⟩ := ints_form ho.rows.2.1.rd
      obtain ⟨a3, c3, rfl, -⟩ := ints_form ho.rows.2.2.rd
      have lt1 := T1.out.2.2.lt
      have hz1 := T1.out.1.bel.size
      obtain ⟨m1, hm1⟩ : ∃ m, m = labels.length := ⟨_, rfl⟩
      obtain ⟨m2, hm2⟩ : ∃ m, m = (dimsVia L D labels).length := ⟨_, rfl⟩
      obtain ⟨m3, hm3⟩ : ∃ m, m = (permDataL k q L D X labels).length := ⟨_, rfl⟩
      rw [← hm1, ← hm2, ← hm3] at ho ⊢
      have HO := Lib.hid (ho.set3 lt1 (.slice a1 m1 c1) (.slice a2 m2 c2) (.slice a3 m3 c3))
      clear hb ho hm1 hm2 hm3
      obtain ⟨t0, t1, t2, f0, f1, f2⟩ := T3.out.ans
      go_wp2
      refine bodyPost_ret (v := .tuple #[tenV (.slice a1 m1 c1) (.slice a2 m2 c2) (.slice a3 m3 c3), .bool true]) (by simp [results, Try.results42, go_sem, t0, t1, t2]) rfl ?_
      exact ⟨_, _, _, rfl, HO.out.wide hz1 (by simp) (by simp), ((T3.out.1.bel.setCell (by simp; omega) _).setCell (by simp; omega) _).setCell (by simp; omega) _⟩

set_option maxHeartbeats 1600000 in
theorem sort_tensor_spec {B : Nat} {lv dv xv : Value} {k p q : Int} {L D X : List Int} {w : World} (h : RdT B w lv dv xv L D X) (hB : B ≤ w.heap.size) (hn : LenT L D X) :
    Calls Try.prog 44 #[ringV k p q, tenV lv dv xv] w (NewTen w (if tensorB k p q L D X = true then sortL L else []) (if tensorB k p q L D X = true then dimsVia L D (sortL L) else []) (if tensorB k p q L D X = true then permDataL k q L D X (sortL L) else [])) := by
  have HT := Lib.hid h
  have HN := Lib.hid hn
  have HB0 := Lib.hid hB
  obtain ⟨al, cl, rfl, -⟩ := ints_form h.l
  obtain ⟨ad, cd, rfl, -⟩ := ints_form h.d
  obtain ⟨ax, cx, rfl, -⟩ := ints_form h.x
  obtain ⟨ml, hml⟩ : ∃ m, m = L.length := ⟨_, rfl⟩
  obtain ⟨md, hmd⟩ : ∃ m, m = D.length := ⟨_, rfl⟩
  obtain ⟨mx, hmx⟩ : ∃ m, m = X.length := ⟨_, rfl⟩
  rw [← hml, ← hmd, ← hmx] at HT ⊢
  have T0 := Lib.hid (Three.start w k p q (.slice al ml cl) (.slice ad md cd) (.slice ax mx cx) nilV nilV nilV 31 28 28)
  have HOK := Lib.hid (tensor_ok_spec (k := k) (p := p) (n := q) (HT.out.below T0.out.1.bel HB0.out) (Nat.le_trans HB0.out T0.out.1.bel.size) HN.out)
  obtain ⟨tb, htb⟩ : ∃ b, b = tensorB k p q L D X := ⟨_, rfl⟩
  rw [← htb] at HOK ⊢
  have HTB := Lib.hid htb
  clear h hB hn hml hmd hmx htb
  obtain ⟨r0, r1, r2, s0, s1, s2⟩ := T0.out.cells
  cases tb with
  | false =>
    simp only [Bool.false_eq_true, if_false]
    go_enter Try.func44, Try.ntmps44
    go_wp2_with fail
    refine HOK.out.mono ?_
    clear r0 r1 r2 s0 s1 s2
    rintro e w1 ⟨rfl, hb⟩
    have T1 := Lib.hid (T0.out.step hb)
    clear hb
    obtain ⟨t0, t1, t2, f0, f1, f2⟩ := T1.out.ans
    go_wp2
    refine bodyPost_ret (v := tenV nilV nilV nilV) (by simp [results, Try.results44, go_sem, t0, t1, t2]) rfl ?_
    exact NewTen.nils (((T1.out.1.bel.setCell (by simp; omega) _).setCell (by simp; omega) _).setCell (by simp; omega) _)
  | true =>
    simp only [if_true]
    obtain ⟨hax, hsv⟩ : AxesV L D ∧ SetV L (sortL L) := by
      rcases sizeI_cases L D with ⟨h, -⟩ | ⟨h1, h2, -, -⟩
      · have := (tensorB_inv HTB.out.symm).2.1; omega
      · exact ⟨h2, setV_perm (sortL_perm L) h2.2.2.2.2⟩
    have HSO := Lib.hid (fun (w1 : World) (hb : Below w.heap.size w w1) => sort_spec (HT.out.l.below hb HB0.out) (Nat.le_trans HB0.out hb.size) (by have := hax.1; omega))
    have HDL : Hid (permX (widthI k q).toNat L D X (sortL L) (prodL D).toNat = permDataL k q L D X (sortL L)) := Lib.hid rfl
    have HQ := Lib.hid (fun (w1 : World) (hb : Below w.heap.size w w1) (gv : Value) (B1 : Nat) (hB1 : B1 ≤ w1.heap.size) (hg : Rd B1 w1 gv (ints (sortL L))) (hBB : B ≤ B1) => permute_spec ⟨(HT.out.below hb HB0.out).l.mono hBB, (HT.out.below hb HB0.out).d.mono hBB, (HT.out.below hb HB0.out).x.mono hBB⟩ hg hB1 HTB.out.symm hsv)
    rw [HDL.out] at HQ
    clear hax hsv
    go_enter Try.func44, Try.ntmps44
    go_wp2_with fail
    refine HOK.out.mono ?_
    clear r0 r1 r2 s0 s1 s2
    rintro e w1 ⟨rfl, hb⟩
    have T1 := Lib.hid (T0.out.step hb)
    have T1d := Lib.hid (T1.out.step (Below.drew (Below.refl _ _)))
    clear hb
    obtain ⟨r0, r1, r2, s0, s1, s2⟩ := T1.out.cells
    go_wp2
    have AR1 : True := trivial
    have AR2 : True := trivial
    go_region_held3 (fun w' => w'.cell? ⟨w.heap.size, 0, none⟩ = some (.int .i64 k) ∧ w'.cell? ⟨w.heap.size, 1, none⟩ = some (.int .i64 p) ∧ w'.cell? ⟨w.heap.size, 2, none⟩ = some (.int .i64 q) ∧ w'.cell? ⟨w.heap.size + 1, 0, none⟩ = some (.slice al ml cl) ∧ w'.cell? ⟨w.heap.size + 1, 1, none⟩ = some (.slice ad md cd) ∧ w'.cell? ⟨w.heap.size + 1, 2, none⟩ = some (.slice ax mx cx)) (first | exact ⟨r0, r1, r2, s0, s1, s2⟩ | with_reducible exact ⟨x0, x1, x2, y0, y1, y2⟩) (first
      | (go_at_call 97; have _t := AR1; refine (HSO.out _ T1d.out.1.bel).mono ?_; rintro e w2 ⟨gv, rfl, ho, hb⟩; have T2 := Lib.hid (T1d.out.step hb); have HG2 := Lib.hid ho.rd; obtain ⟨ag, cg, rfl, -⟩ := ints_form ho.rd; clear ho hb r0 r1 r2 s0 s1 s2; obtain ⟨r0, r1, r2, s0, s1, s2⟩ := T2.out.cells; clear AR1 _t)
      | (go_at_call 94; have _t := AR2; refine (HQ.out _ T2.out.1.bel _ _ (Nat.le_refl _) HG2.out (Nat.le_trans HB0.out T2.out.1.bel.size)).mono ?_; rintro e w3 ⟨l', d', x', rfl, ho, hb⟩; have T3 := Lib.hid (T2.out.step hb); obtain ⟨a1, c1, rfl, -⟩ := ints_form ho.rows.1.rd; obtain ⟨a2, c2, rfl, -⟩ := ints_form ho.rows.2.1.rd; obtain ⟨a3, c3, rfl, -⟩ := ints_form ho.rows.2.2.rd; have HO := Lib.hid ho; clear ho hb r0 r1 r2 s0 s1 s2; obtain ⟨r0, r1, r2, s0, s1, s2⟩ := T3.out.cells; obtain ⟨t0, t1, t2, f0, f1, f2⟩ := T3.out.ans; have T4 := Lib.hid (T3.out.put (.slice a1 (sortL L).length c1) (.slice a2 (dimsVia L D (sortL L)).length c2) (.slice a3 (permDataL k q L D X (sortL L)).length c3)); obtain ⟨x0, x1, x2, y0, y1, y2⟩ := T4.out.cells; clear AR2 _t))
    go_wp2
    refine bodyPost_ret (v := tenV (.slice a1 (sortL L).length c1) (.slice a2 (dimsVia L D (sortL L)).length c2) (.slice a3 (permDataL k q L D X (sortL L)).length c3)) (by simp [results, Try.results44, go_sem, t0, t1, t2]) rfl ?_
    exact ⟨_, _, _, rfl, (HO.out.set3 T2.out.2.2.lt _ _ _).wide T2.out.1.bel.size (by simp) (by simp), ((T3.out.1.bel.setCell (by simp; omega) _).setCell (by simp; omega) _).setCell (by simp; omega) _⟩
end Go.Proofs.Ytgabcdploeledaa
namespace Go.Proofs.Ytgabcdploeledaa
set_option maxRecDepth 20000
open Go.RowKit

noncomputable def relB (k p q : Int) (L D X F T : List Int) : Bool := tensorB k p q L D X && (decide (F.length = T.length) && decide (0 ≤ sizeI (namesL L F T) D))
/-- A ring's box, a tensor's, and one that waits for the answer. -/
theorem Rs.three (w : World) (k p q : Int) (x y z : Value) (T T2 T3 : TypeId) :
    Rs w (((w.alloc (.cells #[.int .i64 k, .int .i64 p, .int .i64 q] T)).alloc (.cells #[x, y, z] T2)).alloc (.cells #[nilV, nilV, nilV] T3)) [(w.heap.size + 1 + 1, nilV, nilV, nilV), (w.heap.size + 1, x, y, z), (w.heap.size, .int .i64 k, .int .i64 p, .int .i64 q)] [] := by
  have h := (((Rs.start w).box (.int .i64 k) (.int .i64 p) (.int .i64 q) T).box x y z T2).box nilV nilV nilV T3
  simp only [World.size_alloc] at h
  exact h
set_option maxHeartbeats 800000 in
theorem same_spec {B B' : Nat} {lv dv xv lu du xu : Value} {L D X L' D' X' : List Int} {w : World} (ha : RdT B w lv dv xv L D X) (hb : RdT B' w lu du xu L' D' X') (hB : B ≤ w.heap.size) (hB' : B' ≤ w.heap.size) (hn : LenT L D X) (hn' : LenT L' D' X') :
    Calls Try.prog 98 #[tenV lv dv xv, tenV lu du xu] w fun e w' => e = .returned (.bool (decide (L = L') && (decide (D = D') && decide (X = X')))) ∧ Below w.heap.size w w' := by
  have hbel : Below w.heap.size w ((w.alloc (.cells #[lv, dv, xv] 28)).alloc (.cells #[lu, du, xu] 28)) := ((Below.refl _ _).alloc (Nat.le_refl _) _).alloc (by simp) _
  have HA := Lib.hid (ha.below hbel hB)
  have HU := Lib.hid (hb.below hbel hB')
  have E1 := Lib.hid (equal_spec HA.out.l HU.out.l hn.l hn'.l)
  have E2 := Lib.hid (equal_spec HA.out.d HU.out.d hn.d hn'.d)
  have E3 := Lib.hid (equal_spec HA.out.x HU.out.x hn.x hn'.x)
  have HBL := Lib.hid hbel
  obtain ⟨al, cl, rfl, -⟩ := ints_form ha.l
  obtain ⟨ad, cd, rfl, -⟩ := ints_form ha.d
  obtain ⟨ax, cx, rfl, -⟩ := ints_form ha.x
  obtain ⟨bl, kl, rfl, -⟩ := ints_form hb.l
  obtain ⟨bd, kd, rfl, -⟩ := ints_form hb.d
  obtain ⟨bx, kx, rfl, -⟩ := ints_form hb.x
  obtain ⟨m1, hm1⟩ : ∃ m, m = L.length := ⟨_, rfl⟩
  obtain ⟨m2, hm2⟩ : ∃ m, m = D.length := ⟨_, rfl⟩
  obtain ⟨m3, hm3⟩ : ∃ m, m = X.length := ⟨_, rfl⟩
  obtain ⟨m4, hm4⟩ : ∃ m, m = L'.length := ⟨_, rfl⟩
  obtain ⟨m5, hm5⟩ : ∃ m, m = D'.length := ⟨_, rfl⟩
  obtain ⟨m6, hm6⟩ : ∃ m, m = X'.length := ⟨_, rfl⟩
  obtain ⟨e1, he1⟩ : ∃ b, b = decide (L = L') := ⟨_, rfl⟩
  obtain ⟨e2, he2⟩ : ∃ b, b = decide (D = D') := ⟨_, rfl⟩
  obtain ⟨e3, he3⟩ : ∃ b, b = decide (X = X') := ⟨_, rfl⟩
  rw [← hm1, ← hm2, ← hm3, ← hm4, ← hm5, ← hm6] at E1 E2 E3 HBL ⊢
  rw [← he1] at E1
  rw [← he2] at E2
  rw [← he3] at E3
  rw [← he1, ← he2, ← he3]
  clear ha hb hB hB' hn hn' hbel hm1 hm2 hm3 hm4 hm5 hm6 he1 he2 he3 HA HU
  cases e1 with
  | false =>
    go_enter Try.func98, Try.ntmps98
    go_wp2_with fail
    refine E1.out.mono ?_
    rintro e w1 ⟨rfl, rfl⟩
    go_wp2
    go_ret
    exact ⟨rfl, HBL.out⟩
  | true =>
    cases e2 with
    | false =>
      go_enter Try.func98, Try.ntmps98
      go_wp2_with fail
      refine E1.out.mono ?_
      rintro e w1 ⟨rfl, rfl⟩
      go_wp2_with fail
      refine E2.out.mono ?_
      rintro e w1 ⟨rfl, rfl⟩
      go_wp2
      go_ret
      exact ⟨rfl, HBL.out⟩
    | true =>
      go_enter Try.func98, Try.ntmps98
      go_wp2_with fail
      refine E1.out.mono ?_
      rintro e w1 ⟨rfl, rfl⟩
      go_wp2_with fail
      refine E2.out.mono ?_
      rintro e w1 ⟨rfl, rfl⟩
      go_wp2_with fail
      refine E3.out.mono ?_
      rintro e w1 ⟨rfl, rfl⟩
      go_wp2
      go_ret
      exact ⟨by simp, HBL.out⟩
end Go.Proofs.Ytgabcdploeledaa
