
/- impl.FixLabels, impl.SliceTensor. -/
import Derived.Test.YtfdjlahaiogabaaCutImpl
import Derived.Test.YtfdjlahaiogabaaTenOkImpl
import Derived.Test.YtfdjlahaiogabaaFixSpec
namespace Go.Proofs.Ytfdjlahaiogabaa
set_option maxRecDepth 20000
open Go.RowKit

theorem cut_impl {B B' : Nat} {lv dv xv kv vv : Value} {k p q : Int} {L D X KL VL : List Int} {w : World} (ht : tensorB k p q L D X = true) (hKV : KL.length = VL.length) (hkl : KL.length ≤ 281474976710656) (hvI : allI VL) (h : RdT B w lv dv xv L D X) (hk : Rd B' w kv (ints KL)) (hv : Rd B' w vv (ints VL)) (hB : B ≤ w.heap.size) (hB' : B' ≤ w.heap.size) :
    Calls Try.prog 77 #[tenV lv dv xv, ringV k p q, .agg #[kv, vv]] w (NewTen2 w (if okB L D KL VL = true then fixL (cK KL VL) L else []) (if okB L D KL VL = true then fixD (cK KL VL) L D else []) (if okB L D KL VL = true then fixX (widthI k q).toNat (cK KL VL) L D X else []) (okB L D KL VL)) := by
  have hT : RdT w.heap.size w lv dv xv L D X := ⟨h.l.mono hB, h.d.mono hB, h.x.mono hB⟩
  have hlD := (TF.of ht).ax.2.1
  obtain ⟨al, cl, rfl, -⟩ := ints_form h.l
  obtain ⟨ad, cd, rfl, -⟩ := ints_form h.d
  obtain ⟨ax, cx, rfl, -⟩ := ints_form h.x
  obtain ⟨ak, ck, rfl, -⟩ := ints_form hk
  obtain ⟨av, cv, rfl, -⟩ := ints_form hv
  rw [← hlD] at hT ⊢
  have hv2 := hv.mono hB'
  rw [← hKV] at hv2 ⊢
  exact cut_full ht rfl rfl hKV.symm hkl hvI hT (hk.mono hB') hv2 (Nat.le_refl _)

set_option maxHeartbeats 6400000 in
theorem fix_labels_impl {B B' : Nat} {lv dv xv kv vv : Value} {k p q : Int} {L D X KL VL : List Int} {w : World} (ha : RdT B w lv dv xv L D X) (hk : Rd B' w kv (ints KL)) (hv : Rd B' w vv (ints VL)) (hB : B ≤ w.heap.size) (hB' : B' ≤ w.heap.size) (hn : LenT L D X) (hkl : KL.length ≤ 281474976710656) (hI : allI L) (hvI : allI VL) :
    Calls Try.prog 31 #[ringV k p q, tenV lv dv xv, kv, vv] w (NewTen2 w (if fixB k p q L D X KL VL = true then fixL (cK KL VL) L else []) (if fixB k p q L D X KL VL = true then fixD (cK KL VL) L D else []) (if fixB k p q L D X KL VL = true then fixDataL k q L D X KL VL else []) (fixB k p q L D X KL VL)) := by
  have HT : Hid (RdT w.heap.size w lv dv xv L D X) := Lib.hid ⟨ha.l.mono hB, ha.d.mono hB, ha.x.mono hB⟩
  have HK : Hid (Rd w.heap.size w kv (ints KL)) := Lib.hid (hk.mono hB')
  have HV : Hid (Rd w.heap.size w vv (ints VL)) := Lib.hid (hv.mono hB')
  obtain ⟨al, cl, rfl, -⟩ := ints_form ha.l
  obtain ⟨ad, cd, rfl, -⟩ := ints_form ha.d
  obtain ⟨ax, cx, rfl, -⟩ := ints_form ha.x
  obtain ⟨ak, ck, rfl, -⟩ := ints_form hk
  obtain ⟨av, cv, rfl, -⟩ := ints_form hv
  obtain ⟨m1, hm1⟩ : ∃ m, m = L.length := ⟨_, rfl⟩
  obtain ⟨m2, hm2⟩ : ∃ m, m = D.length := ⟨_, rfl⟩
  obtain ⟨m3, hm3⟩ : ∃ m, m = X.length := ⟨_, rfl⟩
  rw [← hm1, ← hm2, ← hm3] at HT ⊢
  obtain ⟨mk, hmk⟩ : ∃ m, m = KL.length := ⟨_, rfl⟩
  obtain ⟨mv, hmv⟩ : ∃ m, m = VL.length := ⟨_, rfl⟩
  rw [← hmk] at HK ⊢
  rw [← hmv] at HV ⊢
  have R0 : Hid (Rs w (((w.alloc (.cells #[.int .i64 k, .int .i64 p, .int .i64 q] 31)).alloc (.cells #[.slice al m1 cl, .slice ad m2 cd, .slice ax m3 cx] 28)).alloc (.cells #[nilV, nilV, nilV] 28)) [(w.heap.size + 1 + 1, nilV, nilV, nilV), (w.heap.size + 1, .slice al m1 cl, .slice ad m2 cd, .slice ax m3 cx), (w.heap.size, .int .i64 k, .int .i64 p, .int .i64 q)] []) := by
    have h := ((((Rs.start w).box (.int .i64 k) (.int .i64 p) (.int .i64 q) 31).box (.slice al m1 cl) (.slice ad m2 cd) (.slice ax m3 cx) 28).box (nilV) (nilV) (nilV) 28)
    simp only [World.size_alloc] at h
    exact h
  have OKA := Lib.hid (fun (w1 : World) (hb : Below w.heap.size w w1) => tensor_ok_impl (k := k) (p := p) (n := q) (HT.out.below hb (Nat.le_refl _)) hb.size hn hI)
  obtain ⟨tb, htb⟩ : ∃ x, x = tensorB k p q L D X := ⟨_, rfl⟩
  obtain ⟨fb, hfb⟩ : ∃ x, x = fixB k p q L D X KL VL := ⟨_, rfl⟩
  have HTB := Lib.hid htb
  have HFB := Lib.hid hfb
  have HMK := Lib.hid (And.intro hmk hmv)
  rw [← htb] at OKA
  rw [← hfb]
  obtain ⟨zl, hzl⟩ : ∃ l, l = (if fb = true then fixL (cK KL VL) L else []) := ⟨_, rfl⟩
  obtain ⟨zd, hzd⟩ : ∃ l, l = (if fb = true then fixD (cK KL VL) L D else []) := ⟨_, rfl⟩
  obtain ⟨zx, hzx⟩ : ∃ l, l = (if fb = true then fixDataL k q L D X KL VL else []) := ⟨_, rfl⟩
  have HNO : Hid (fb = false → zl = [] ∧ zd = [] ∧ zx = []) := Lib.hid (fun h => by subst h; exact ⟨hzl, hzd, hzx⟩)
  have HYES : Hid (fb = true → zl = fixL (cK KL VL) L ∧ zd = fixD (cK KL VL) L D ∧ zx = fixDataL k q L D X KL VL) := Lib.hid (fun h => by subst h; exact ⟨hzl, hzd, hzx⟩)
  rw [← hzl, ← hzd, ← hzx]
  clear hzl hzd hzx
  have HVI := Lib.hid hvI
  have hkl' : mk ≤ 281474976710656 := by omega
  clear ha hk hv hB hB' hn hkl hI hvI hm1 hm2 hm3 hmk hmv htb hfb
  obtain ⟨⟨r0, r1, r2⟩, -⟩ := R0.out.at (r := w.heap.size) (a := .int .i64 k) (b := .int .i64 p) (c := .int .i64 q) (by simp)
  obtain ⟨⟨s0, s1, s2⟩, -⟩ := R0.out.at (r := w.heap.size + 1) (a := .slice al m1 cl) (b := .slice ad m2 cd) (c := .slice ax m3 cx) (by simp)
  by_cases hkv : mk = mv
  case neg =>
    obtain rfl : fb = false := by rw [HFB.out]; exact fix_false fun h => hkv (by rw [HMK.out.1, HMK.out.2]; exact h.2.1)
    obtain ⟨rfl, rfl, rfl⟩ := HNO.out (by simp)
    go_enter Try.func31, Try.ntmps31
    go_wp2_with fail
    refine (pair_no _ hkv).mono ?_
    clear r0 r1 r2 s0 s1 s2
    rintro e w1 ⟨rfl, hb⟩
    have R1 := Lib.hid ((R0.out.step hb).alloc (.cells #[nilV, nilV] 79))
    clear hb
    obtain ⟨⟨t0, t1, t2⟩, f0, f1, f2⟩ := R1.out.at (r := w.heap.size + 1 + 1) (a := nilV) (b := nilV) (c := nilV) (by simp)
    go_wp2
    refine bodyPost_ret (v := .tuple #[tenV nilV nilV nilV, .bool false]) (by simp [results, Try.results31, go_sem, t0, t1, t2]) rfl ?_
    exact NewTen2.nils (((R1.out.bel.setCell (by simp; omega) _).setCell (by simp; omega) _).setCell (by simp; omega) _)
  subst hkv
  have HKV : Hid (KL.length = VL.length) := Lib.hid (by rw [← HMK.out.1, ← HMK.out.2])
  go_enter Try.func31, Try.ntmps31
  go_wp2_with fail
  refine (pair_yes _).mono ?_
  clear r0 r1 r2 s0 s1 s2
  rintro e w1 ⟨rfl, hb⟩
  have R1 := Lib.hid ((R0.out.step hb).alloc (.cells #[.slice ak mk ck, .slice av mk cv] 79))
  have FX : Hid ((w1.alloc (.cells #[.slice ak mk ck, .slice av mk cv] 79)).cell? ⟨w1.heap.size, 0, none⟩ = some (.slice ak mk ck) ∧ (w1.alloc (.cells #[.slice ak mk ck, .slice av mk cv] 79)).cell? ⟨w1.heap.size, 1, none⟩ = some (.slice av mk cv)) := Lib.hid ⟨by simp [World.cell?_alloc_at], by simp [World.cell?_alloc_at]⟩
  clear hb
  obtain ⟨⟨r0, r1, r2⟩, -⟩ := R1.out.at (r := w.heap.size) (a := .int .i64 k) (b := .int .i64 p) (c := .int .i64 q) (by simp)
  obtain ⟨⟨s0, s1, s2⟩, -⟩ := R1.out.at (r := w.heap.size + 1) (a := .slice al m1 cl) (b := .slice ad m2 cd) (c := .slice ax m3 cx) (by simp)
  go_wp2_with fail
  refine (OKA.out _ R1.out.bel).mono ?_
  clear r0 r1 r2 s0 s1 s2
  rintro e w2 ⟨rfl, hb⟩
  have R2 := Lib.hid (R1.out.step hb)
  have hc0 := (hb.cell (p := ⟨w1.heap.size, 0, none⟩) (by simp)).trans FX.out.1
  have hc1 := (hb.cell (p := ⟨w1.heap.size, 1, none⟩) (by simp)).trans FX.out.2
  clear hb FX
  cases tb with
  | false =>
    obtain rfl : fb = false := by rw [HFB.out]; exact fix_false fun h => by rw [← HTB.out] at h; simp at h
    obtain ⟨rfl, rfl, rfl⟩ := HNO.out (by simp)
    obtain ⟨⟨t0, t1, t2⟩, f0, f1, f2⟩ := R2.out.at (r := w.heap.size + 1 + 1) (a := nilV) (b := nilV) (c := nilV) (by simp)
    go_wp2
    refine bodyPost_ret (v := .tuple #[tenV nilV nilV nilV, .bool false]) (by simp [results, Try.results31, go_sem, t0, t1, t2]) rfl ?_
    exact NewTen2.nils (((R2.out.bel.setCell (by simp; omega) _).setCell (by simp; omega) _).setCell (by simp; omega) _)
  | true =>
    have HFO : Hid (fb = okB L D KL VL) := Lib.hid (by
      rw [HFB.out]
      cases h : okB L D KL VL with
      | true => exact fix_true HTB.out.symm HKV.out (okB_yes h)
      | false => exact fix_false fun h2 => by rw [okB_true h2.2.2] at h; cases h)
    have HQ := Lib.hid (cut_impl (k := k) (p := p) (q := q) HTB.out.symm HKV.out (by rw [← HMK.out.1]; exact hkl') HVI.out (HT.out.below R2.out.bel (Nat.le_refl _)) (HK.out.below R2.out.bel (Nat.le_refl _)) (HV.out.below R2.out.bel (Nat.le_refl _)) R2.out.bel.size R2.out.bel.size)
    rw [← HFO.out, show (if fb = true then fixX (widthI k q).toNat (cK KL VL) L D X else []) = zx from by
      cases fb with
      | true => exact (HYES.out rfl).2.2.symm
      | false => exact (HNO.out rfl).2.2.symm, show (if fb = true then fixL (cK KL VL) L else []) = zl from by
      cases fb with
      | true => exact (HYES.out rfl).1.symm
      | false => exact (HNO.out rfl).1.symm, show (if fb = true then fixD (cK KL VL) L D else []) = zd from by
      cases fb with
      | true => exact (HYES.out rfl).2.1.symm
      | false => exact (HNO.out rfl).2.1.symm] at HQ
    obtain ⟨⟨r0, r1, r2⟩, -⟩ := R2.out.at (r := w.heap.size) (a := .int .i64 k) (b := .int .i64 p) (c := .int .i64 q) (by simp)
    obtain ⟨⟨s0, s1, s2⟩, -⟩ := R2.out.at (r := w.heap.size + 1) (a := .slice al m1 cl) (b := .slice ad m2 cd) (c := .slice ax m3 cx) (by simp)
    go_wp2_with fail
    refine HQ.out.mono ?_
    clear r0 r1 r2 s0 s1 s2 HQ hc0 hc1
    rintro e w5 ⟨l', d', x', rfl, ho, hb⟩
    have R5 := Lib.hid (R2.out.step hb)
    obtain ⟨a1, c1, rfl, -⟩ := ints_form ho.rows.1.rd
    obtain ⟨a2, c2, rfl, -⟩ := ints_form ho.rows.2.1.rd
    obtain ⟨a3, c3, rfl, -⟩ := ints_form ho.rows.2.2.rd
    have lt1 := (R2.out.bx (w.heap.size + 1 + 1, nilV, nilV, nilV) (by simp)).lt
    have hz1 := R2.out.bel.size
    obtain ⟨q1, hq1⟩ : ∃ m, m = List.length (zl) := ⟨_, rfl⟩
    obtain ⟨q2, hq2⟩ : ∃ m, m = List.length (zd) := ⟨_, rfl⟩
    obtain ⟨q3, hq3⟩ : ∃ m, m = List.length (zx) := ⟨_, rfl⟩
    rw [← hq1, ← hq2, ← hq3] at ho ⊢
    have HO := Lib.hid (ho.set3 lt1 (.slice a1 q1 c1) (.slice a2 q2 c2) (.slice a3 q3 c3))
    clear hb ho hq1 hq2 hq3
    obtain ⟨⟨t0, t1, t2⟩, f0, f1, f2⟩ := R5.out.at (r := w.heap.size + 1 + 1) (a := nilV) (b := nilV) (c := nilV) (by simp)
    go_wp2
    refine bodyPost_ret (v := .tuple #[tenV (.slice a1 q1 c1) (.slice a2 q2 c2) (.slice a3 q3 c3), .bool fb]) (by simp [results, Try.results31, go_sem, t0, t1, t2]) rfl ?_
    refine ⟨_, _, _, rfl, ?_, ((R5.out.bel.setCell (by simp; omega) _).setCell (by simp; omega) _).setCell (by simp; omega) _⟩
    exact HO.out.wide hz1 (by simp) (by simp)
theorem contains_below {B : Nat} {v : Value} {L : List Int} {w : World} (x : Int) (h : Rd B w v (ints L)) (hn : L.length ≤ 281474976710656) :
    Calls Try.prog 60 #[v, .int .i64 x] w fun e w' => e = .returned (.bool (decide (x ∈ L))) ∧ Below w.heap.size w w' :=
  (contains_any x h hn).mono fun e w' h => ⟨h.1, by rw [h.2]; exact Below.refl _ _⟩
/-- FixLabels with one label that is there. -/
theorem fix_slice {k p q b v : Int} {L D X : List Int} (hb : b ∈ L) : fixB k p q L D X [b] [v] = sliceB k p q L D X b v := by
  cases h : sliceB k p q L D X b v with
  | true =>
    obtain ⟨h1, h2, h3⟩ := slice_yes h
    have FT := TF.of h1
    exact fix_true h1 rfl (ok_one FT.ax.2.1 FT.ax.2.2.2.2 fun _ => h3)
  | false =>
    refine fix_false fun h2 => ?_
    have FT := TF.of h2.1
    have h3 := fix_of_ok FT.ax.2.1 h2.2.2 1 0 b v (by omega) rfl rfl (by simp) hb
    unfold sliceB at h
    rw [h2.1, decide_eq_true hb, decide_eq_true h3] at h
    cases h
set_option maxHeartbeats 6400000 in
theorem slice_tensor_impl {B : Nat} {lv dv xv : Value} {k p q b v : Int} {L D X : List Int} {w : World} (ha : RdT B w lv dv xv L D X) (hB : B ≤ w.heap.size) (hn : LenT L D X) (hI : allI L) (hv : -9223372036854775808 ≤ v ∧ v ≤ 9223372036854775807) :
    Calls Try.prog 19 #[ringV k p q, tenV lv dv xv, .int .i64 b, .int .i64 v] w (NewTen2 w (if sliceB k p q L D X b v = true then exL L b else []) (if sliceB k p q L D X b v = true then exD L D b else []) (if sliceB k p q L D X b v = true then sliceL k q L D X b v else []) (sliceB k p q L D X b v)) := by
  have HT : Hid (RdT w.heap.size w lv dv xv L D X) := Lib.hid ⟨ha.l.mono hB, ha.d.mono hB, ha.x.mono hB⟩
  obtain ⟨al, cl, rfl, -⟩ := ints_form ha.l
  obtain ⟨ad, cd, rfl, -⟩ := ints_form ha.d
  obtain ⟨ax, cx, rfl, -⟩ := ints_form ha.x
  obtain ⟨m1, hm1⟩ : ∃ m, m = L.length := ⟨_, rfl⟩
  obtain ⟨m2, hm2⟩ : ∃ m, m = D.length := ⟨_, rfl⟩
  obtain ⟨m3, hm3⟩ : ∃ m, m = X.length := ⟨_, rfl⟩
  rw [← hm1, ← hm2, ← hm3] at HT ⊢
  have R0 : Hid (Rs w (((w.alloc (.cells #[.int .i64 k, .int .i64 p, .int .i64 q] 31)).alloc (.cells #[.slice al m1 cl, .slice ad m2 cd, .slice ax m3 cx] 28)).alloc (.cells #[nilV, nilV, nilV] 28)) [(w.heap.size + 1 + 1, nilV, nilV, nilV), (w.heap.size + 1, .slice al m1 cl, .slice ad m2 cd, .slice ax m3 cx), (w.heap.size, .int .i64 k, .int .i64 p, .int .i64 q)] []) := by
    have h := ((((Rs.start w).box (.int .i64 k) (.int .i64 p) (.int .i64 q) 31).box (.slice al m1 cl) (.slice ad m2 cd) (.slice ax m3 cx) 28).box (nilV) (nilV) (nilV) 28)
    simp only [World.size_alloc] at h
    exact h
  have HCN := Lib.hid (contains_below b (HT.out.l.below R0.out.bel (Nat.le_refl _)) hn.l)
  obtain ⟨fb, hfb⟩ : ∃ x, x = sliceB k p q L D X b v := ⟨_, rfl⟩
  have HFB := Lib.hid hfb
  have HN := Lib.hid hn
  have HI := Lib.hid hI
  have HV := Lib.hid hv
  rw [← hfb]
  obtain ⟨zl, hzl⟩ : ∃ l, l = (if fb = true then exL L b else []) := ⟨_, rfl⟩
  obtain ⟨zd, hzd⟩ : ∃ l, l = (if fb = true then exD L D b else []) := ⟨_, rfl⟩
  obtain ⟨zx, hzx⟩ : ∃ l, l = (if fb = true then sliceL k q L D X b v else []) := ⟨_, rfl⟩
  have HNO : Hid (fb = false → zl = [] ∧ zd = [] ∧ zx = []) := Lib.hid (fun h => by subst h; exact ⟨hzl, hzd, hzx⟩)
  have HYES : Hid (fb = true → zl = exL L b ∧ zd = exD L D b ∧ zx = sliceL k q L D X b v) := Lib.hid (fun h => by subst h; exact ⟨hzl, hzd, hzx⟩)
  rw [← hzl, ← hzd, ← hzx]
  clear hzl hzd hzx
  clear ha hB hn hI hv hm1 hm2 hm3 hfb
  obtain ⟨⟨r0, r1, r2⟩, -⟩ := R0.out.at (r := w.heap.size) (a := .int .i64 k) (b := .int .i64 p) (c := .int .i64 q) (by simp)
  obtain ⟨⟨s0, s1, s2⟩, -⟩ := R0.out.at (r := w.heap.size + 1) (a := .slice al m1 cl) (b := .slice ad m2 cd) (c := .slice ax m3 cx) (by simp)
  by_cases hbL : b ∈ L
  case neg =>
    obtain rfl : fb = false := by
      rw [HFB.out]; unfold sliceB; rw [decide_eq_false hbL]; simp
    obtain ⟨rfl, rfl, rfl⟩ := HNO.out (by simp)
    rw [decide_eq_false hbL] at HCN
    go_enter Try.func19, Try.ntmps19
    go_wp2_with fail
    refine HCN.out.mono ?_
    clear r0 r1 r2 s0 s1 s2
    rintro e w1 ⟨rfl, hb⟩
    have R1 := Lib.hid (R0.out.step hb)
    clear hb
    obtain ⟨⟨t0, t1, t2⟩, f0, f1, f2⟩ := R1.out.at (r := w.heap.size + 1 + 1) (a := nilV) (b := nilV) (c := nilV) (by simp)
    go_wp2
    refine bodyPost_ret (v := .tuple #[tenV nilV nilV nilV, .bool false]) (by simp [results, Try.results19, go_sem, t0, t1, t2]) rfl ?_
    exact NewTen2.nils (((R1.out.bel.setCell (by simp; omega) _).setCell (by simp; omega) _).setCell (by simp; omega) _)
  rw [decide_eq_true hbL] at HCN
  go_enter Try.func19, Try.ntmps19
  go_wp2_with fail
  refine HCN.out.mono ?_
  clear r0 r1 r2 s0 s1 s2
  rintro e w1 ⟨rfl, hb⟩
  have R1 := Lib.hid (R0.out.step hb)
  have R2 : Hid (Rs w ((w1.alloc (.cells #[.int .i64 b] 3)).alloc (.cells #[.int .i64 v] 3)) [(w.heap.size + 1 + 1, nilV, nilV, nilV), (w.heap.size + 1, .slice al m1 cl, .slice ad m2 cd, .slice ax m3 cx), (w.heap.size, .int .i64 k, .int .i64 p, .int .i64 q)] [(.slice (some ⟨w1.heap.size + 1, 0, none⟩) 1 1, [v]), (.slice (some ⟨w1.heap.size, 0, none⟩) 1 1, [b])]) := Lib.hid (by
    have h := (R1.out.lit1 b).lit1 v
    simp only [World.size_alloc] at h
    exact h)
  have HQ := Lib.hid (fix_labels_impl (k := k) (p := p) (q := q) (HT.out.below R2.out.bel (Nat.le_refl _)) (R2.out.rd (v := .slice (some ⟨w1.heap.size, 0, none⟩) 1 1) (xs := [b]) (by simp)) (R2.out.rd (v := .slice (some ⟨w1.heap.size + 1, 0, none⟩) 1 1) (xs := [v]) (by simp)) R2.out.bel.size (Nat.le_refl _) HN.out (by simp) HI.out (fun z hz => by simp at hz; subst hz; exact HV.out))
  rw [fix_slice hbL, ← HFB.out, show (if fb = true then fixDataL k q L D X [b] [v] else []) = zx from by
      cases fb with
      | true => exact (HYES.out rfl).2.2.symm
      | false => exact (HNO.out rfl).2.2.symm, show (if fb = true then fixL (cK [b] [v]) L else []) = zl from by
      cases fb with
      | true => rw [(HYES.out rfl).1]; exact fixL_ex L b v
      | false => exact (HNO.out rfl).1.symm, show (if fb = true then fixD (cK [b] [v]) L D else []) = zd from by
      cases fb with
      | true =>
        have FT := TF.of (slice_yes HFB.out.symm).1
        rw [(HYES.out rfl).2.1]; exact fixD_ex FT.ax.2.2.2.2 FT.ax.2.1 b v
      | false => exact (HNO.out rfl).2.1.symm] at HQ
  obtain ⟨⟨r0, r1, r2⟩, -⟩ := R1.out.at (r := w.heap.size) (a := .int .i64 k) (b := .int .i64 p) (c := .int .i64 q) (by simp)
  obtain ⟨⟨s0, s1, s2⟩, -⟩ := R1.out.at (r := w.heap.size + 1) (a := .slice al m1 cl) (b := .slice ad m2 cd) (c := .slice ax m3 cx) (by simp)
  clear hb HCN
  go_wp2_with fail
  refine HQ.out.mono ?_
  clear r0 r1 r2 s0 s1 s2 HQ
  rintro e w5 ⟨l', d', x', rfl, ho, hb⟩
  have R5 := Lib.hid (R2.out.step hb)
  obtain ⟨a1, c1, rfl, -⟩ := ints_form ho.rows.1.rd
  obtain ⟨a2, c2, rfl, -⟩ := ints_form ho.rows.2.1.rd
  obtain ⟨a3, c3, rfl, -⟩ := ints_form ho.rows.2.2.rd
  have lt1 := (R2.out.bx (w.heap.size + 1 + 1, nilV, nilV, nilV) (by simp)).lt
  have hz1 := R2.out.bel.size
  obtain ⟨q1, hq1⟩ : ∃ m, m = List.length (zl) := ⟨_, rfl⟩
  obtain ⟨q2, hq2⟩ : ∃ m, m = List.length (zd) := ⟨_, rfl⟩
  obtain ⟨q3, hq3⟩ : ∃ m, m = List.length (zx) := ⟨_, rfl⟩
  rw [← hq1, ← hq2, ← hq3] at ho ⊢
  have HO := Lib.hid (ho.set3 lt1 (.slice a1 q1 c1) (.slice a2 q2 c2) (.slice a3 q3 c3))
  clear hb ho hq1 hq2 hq3
  obtain ⟨⟨t0, t1, t2⟩, f0, f1, f2⟩ := R5.out.at (r := w.heap.size + 1 + 1) (a := nilV) (b := nilV) (c := nilV) (by simp)
  go_wp2
  refine bodyPost_ret (v := .tuple #[tenV (.slice a1 q1 c1) (.slice a2 q2 c2) (.slice a3 q3 c3), .bool fb]) (by simp [results, Try.results19, go_sem, t0, t1, t2]) rfl ?_
  refine ⟨_, _, _, rfl, ?_, ((R5.out.bel.setCell (by simp; omega) _).setCell (by simp; omega) _).setCell (by simp; omega) _⟩
  exact HO.out.wide hz1 (by simp) (by simp)
end Go.Proofs.Ytfdjlahaiogabaa
