
/- spec.SliceTensor. -/
import Derived.Test.YtfdjlahaiogabaaSlSpec
namespace Go.Proofs.Ytfdjlahaiogabaa
set_option maxRecDepth 20000
open Go.RowKit

theorem slice_yes {k p q : Int} {L D X : List Int} {b v : Int} (h : sliceB k p q L D X b v = true) : tensorB k p q L D X = true ∧ b ∈ L ∧ 0 ≤ v ∧ v < D.getD (L.idxOf b) 0 := by
  unfold sliceB at h
  simp only [Bool.and_eq_true, decide_eq_true_eq] at h
  exact ⟨h.1, h.2.1, h.2.2⟩
/-- The data of SliceTensor's answer. -/
def sliceL (k q : Int) (L D X : List Int) (b v : Int) : List Int := fixX (widthI k q).toNat (cK [b] [v]) L D X
set_option maxHeartbeats 6400000 in
theorem slice_tensor_spec {B : Nat} {lv dv xv : Value} {k p q b v : Int} {L D X : List Int} {w : World} (ha : RdT B w lv dv xv L D X) (hB : B ≤ w.heap.size) (hn : LenT L D X) :
    Calls Try.prog 16 #[ringV k p q, tenV lv dv xv, .int .i64 b, .int .i64 v] w (NewTen2 w (if sliceB k p q L D X b v = true then exL L b else []) (if sliceB k p q L D X b v = true then exD L D b else []) (if sliceB k p q L D X b v = true then sliceL k q L D X b v else []) (sliceB k p q L D X b v)) := by
  have HT : Hid (RdT w.heap.size w lv dv xv L D X) := Lib.hid ⟨ha.l.mono hB, ha.d.mono hB, ha.x.mono hB⟩
  obtain ⟨al, cl, rfl, -⟩ := ints_form ha.l
  obtain ⟨ad, cd, rfl, -⟩ := ints_form ha.d
  obtain ⟨ax, cx, rfl, -⟩ := ints_form ha.x
  obtain ⟨m1, hm1⟩ : ∃ m, m = L.length := ⟨_, rfl⟩
  obtain ⟨m2, hm2⟩ : ∃ m, m = D.length := ⟨_, rfl⟩
  obtain ⟨m3, hm3⟩ : ∃ m, m = X.length := ⟨_, rfl⟩
  rw [← hm1, ← hm2, ← hm3] at HT ⊢
  have R0 : Hid (Rs w (((w.alloc (.cells #[.int .i64 k, .int .i64 p, .int .i64 q] 31)).alloc (.cells #[.slice al m1 cl, .slice ad m2 cd, .slice ax m3 cx] 28)).alloc (.cells #[nilV, nilV, nilV] 28)) [(w.heap.size + 1 + 1, nilV, nilV, nilV), (w.heap.size + 1, .slice al m1 cl, .slice ad m2 cd, .slice ax m3 cx), (w.heap.size, .int .i64 k, .int .i64 p, .int .i64 q)] []) := by
    have h := ((((Rs.start w).box (.int .i64 k) (.int .i64 p) (.int .i64 q) 31).box (.slice al m1 cl) (.slice ad m2 cd) (.slice ax m3 cx) 28).box (nilV) (nilV) (nilV) 28)
    simp only [World.size_alloc] at h
    exact h
  have OKA := Lib.hid (fun (w1 : World) (hb : Below w.heap.size w w1) => tensor_ok_spec (k := k) (p := p) (n := q) (HT.out.below hb (Nat.le_refl _)) hb.size hn)
  have HF1 := Lib.hid (find_spec b (HT.out.l.below R0.out.bel (Nat.le_refl _)) hn.l)
  have HSL := Lib.hid (fun (hs : sliceB k p q L D X b v = true) (w1 : World) (hb : Below w.heap.size w w1) => slice_spec (k := k) (p := p) (q := q) (v := v) (HT.out.below hb (Nat.le_refl _)) hb.size (slice_yes hs).1 (slice_yes hs).2.1 (slice_yes hs).2.2)
  obtain ⟨tb, htb⟩ : ∃ x, x = tensorB k p q L D X := ⟨_, rfl⟩
  obtain ⟨zi, hzi⟩ : ∃ z, z = findI L b := ⟨_, rfl⟩
  obtain ⟨fb, hfb⟩ : ∃ x, x = sliceB k p q L D X b v := ⟨_, rfl⟩
  have HFB : Hid (fb = (tb && (decide (b ∈ L) && decide (0 ≤ v ∧ v < D.getD (L.idxOf b) 0)))) := Lib.hid (by rw [hfb, htb]; rfl)
  have HTB := Lib.hid htb
  have HZI := Lib.hid hzi
  rw [← htb] at OKA
  rw [← hzi] at HF1
  rw [← hfb] at HSL ⊢
  obtain ⟨zl, hzl⟩ : ∃ l, l = (if fb = true then exL L b else []) := ⟨_, rfl⟩
  obtain ⟨zd, hzd⟩ : ∃ l, l = (if fb = true then exD L D b else []) := ⟨_, rfl⟩
  obtain ⟨zx, hzx⟩ : ∃ l, l = (if fb = true then sliceL k q L D X b v else []) := ⟨_, rfl⟩
  have HNO : Hid (fb = false → zl = [] ∧ zd = [] ∧ zx = []) := Lib.hid (fun h => by subst h; exact ⟨hzl, hzd, hzx⟩)
  have HYES : Hid (fb = true → zl = exL L b ∧ zd = exD L D b ∧ zx = sliceL k q L D X b v) := Lib.hid (fun h => by subst h; exact ⟨hzl, hzd, hzx⟩)
  rw [← hzl, ← hzd, ← hzx]
  clear hzl hzd hzx
  have HM := Lib.hid (And.intro hm1 (And.intro hm2 hm3))
  clear ha hB hn hm1 hm2 hm3 htb hzi hfb
  obtain ⟨⟨r0, r1, r2⟩, -⟩ := R0.out.at (r := w.heap.size) (a := .int .i64 k) (b := .int .i64 p) (c := .int .i64 q) (by simp)
  obtain ⟨⟨s0, s1, s2⟩, -⟩ := R0.out.at (r := w.heap.size + 1) (a := .slice al m1 cl) (b := .slice ad m2 cd) (c := .slice ax m3 cx) (by simp)
  cases tb with
  | false =>
    obtain rfl : fb = false := HFB.out
    obtain ⟨rfl, rfl, rfl⟩ := HNO.out (by simp)
    go_enter Try.func16, Try.ntmps16
    go_wp2_with fail
    refine HF1.out.mono ?_
    rintro e w0 ⟨rfl, rfl⟩
    go_wp2_with fail
    refine (OKA.out _ R0.out.bel).mono ?_
    clear r0 r1 r2 s0 s1 s2
    rintro e w1 ⟨rfl, hb⟩
    have R1 := Lib.hid (R0.out.step hb)
    clear hb
    obtain ⟨⟨t0, t1, t2⟩, f0, f1, f2⟩ := R1.out.at (r := w.heap.size + 1 + 1) (a := nilV) (b := nilV) (c := nilV) (by simp)
    go_wp2
    refine bodyPost_ret (v := .tuple #[tenV nilV nilV nilV, .bool false]) (by simp [results, Try.results16, go_sem, t0, t1, t2]) rfl ?_
    exact NewTen2.nils (((R1.out.bel.setCell (by simp; omega) _).setCell (by simp; omega) _).setCell (by simp; omega) _)
  | true =>
  by_cases hi0 : zi < 0
  · have q1 : decide (zi < 0) = true := by simpa using hi0
    have hnm : b ∉ L := findI_neg.1 (by rw [← HZI.out]; exact hi0)
    obtain rfl : fb = false := by rw [HFB.out, decide_eq_false hnm]; rfl
    obtain ⟨rfl, rfl, rfl⟩ := HNO.out (by simp)
    clear hnm
    go_enter Try.func16, Try.ntmps16
    go_wp2_with fail
    refine HF1.out.mono ?_
    rintro e w0 ⟨rfl, rfl⟩
    go_wp2_with fail
    refine (OKA.out _ R0.out.bel).mono ?_
    clear r0 r1 r2 s0 s1 s2
    rintro e w1 ⟨rfl, hb⟩
    have R1 := Lib.hid (R0.out.step hb)
    clear hb
    obtain ⟨⟨t0, t1, t2⟩, f0, f1, f2⟩ := R1.out.at (r := w.heap.size + 1 + 1) (a := nilV) (b := nilV) (c := nilV) (by simp)
    go_wp2
    refine bodyPost_ret (v := .tuple #[tenV nilV nilV nilV, .bool false]) (by simp [results, Try.results16, go_sem, t0, t1, t2]) rfl ?_
    exact NewTen2.nils (((R1.out.bel.setCell (by simp; omega) _).setCell (by simp; omega) _).setCell (by simp; omega) _)
  have q1 : decide (zi < 0) = false := by simpa using hi0
  have FT := TF.of HTB.out.symm
  obtain ⟨hmb, hzb⟩ : b ∈ L ∧ zi = (L.idxOf b : Int) := by
    have h := HZI.out
    unfold findI at h
    by_cases hm : b ∈ L
    · rw [if_pos hm] at h; exact ⟨hm, h⟩
    · rw [if_neg hm] at h; omega
  obtain ⟨z, hz⟩ : ∃ z, z = L.idxOf b := ⟨_, rfl⟩
  have hzL := at_idxOf hmb
  rw [← hz] at hzL hzb HFB
  subst hzb
  have hlD : L.length = D.length := FT.ax.2.1
  obtain rfl : m1 = m2 := by rw [HM.out.1, HM.out.2.1, hlD]
  have hz1 : z < m1 := by have := (List.getElem?_eq_some_iff.1 hzL).1; have := HM.out.1; omega
  obtain ⟨d, hd⟩ : ∃ d, D[z]? = some d := ⟨_, List.getElem?_eq_getElem (by rw [← HM.out.2.1]; exact hz1)⟩
  have hd8 := FT.ax.2.2.2.1 d (List.mem_of_getElem? hd)
  obtain ⟨bd, od, rfl, -, -⟩ := HT.out.d.cellAt hd
  have HDC : Hid (∀ W, Below w.heap.size w W → W.cell? ⟨bd, od + z, none⟩ = some (.int .i64 d)) := Lib.hid (fun W hb => by
    obtain ⟨b1, o1, e1, -, c1⟩ := (HT.out.d.below hb (Nat.le_refl _)).cellAt hd
    cases e1
    exact c1)
  rw [getD_at hd, decide_eq_true hmb] at HFB
  have q6 : decide ((z : Int) < 0) = false := by simp
  have HIN : Hid (inB v 0 (d - 1) = fb) := Lib.hid (by rw [Bool.eq_iff_iff, inB_true, HFB.out]; simp only [Bool.true_and, decide_eq_true_eq]; omega)
  have h12 : m1 ≤ 12 := by rw [HM.out.1]; exact FT.ax.1
  have w1 : wrap64 (d - 1) = d - 1 := by unfold wrap64; omega
  clear hmb hz hzL hlD hd hi0 q1 FT
  go_enter Try.func16, Try.ntmps16
  go_wp2_with fail
  refine HF1.out.mono ?_
  rintro e w0 ⟨rfl, rfl⟩
  go_wp2_with fail
  refine (OKA.out _ R0.out.bel).mono ?_
  clear r0 r1 r2 s0 s1 s2
  rintro e w1 ⟨rfl, hb⟩
  have R1 := Lib.hid (R0.out.step hb)
  clear hb
  obtain ⟨⟨r0, r1, r2⟩, -⟩ := R1.out.at (r := w.heap.size) (a := .int .i64 k) (b := .int .i64 p) (c := .int .i64 q) (by simp)
  obtain ⟨⟨s0, s1, s2⟩, -⟩ := R1.out.at (r := w.heap.size + 1) (a := .slice al m1 cl) (b := .slice (some ⟨bd, od, none⟩) m1 cd) (c := .slice ax m3 cx) (by simp)
  have de := HDC.out _ R1.out.bel
  go_wp2_with fail
  refine (l01_in v 0 (d - 1) _).mono ?_
  rintro e w3 ⟨rfl, rfl⟩
  rw [HIN.out]
  cases fb with
  | false =>
    obtain ⟨rfl, rfl, rfl⟩ := HNO.out (by simp)
    obtain ⟨⟨t0, t1, t2⟩, f0, f1, f2⟩ := R1.out.at (r := w.heap.size + 1 + 1) (a := nilV) (b := nilV) (c := nilV) (by simp)
    go_wp2
    refine bodyPost_ret (v := .tuple #[tenV nilV nilV nilV, .bool false]) (by simp [results, Try.results16, go_sem, t0, t1, t2]) rfl ?_
    exact NewTen2.nils (((R1.out.bel.setCell (by simp; omega) _).setCell (by simp; omega) _).setCell (by simp; omega) _)
  | true =>
    have HY3 := Lib.hid (HYES.out (by simp))
    have HQ := Lib.hid (HSL.out rfl)
    clear HSL
    go_wp2_with fail
    refine (HQ.out _ R1.out.bel).mono ?_
    clear r0 r1 r2 s0 s1 s2 de HQ
    rintro e w5 ⟨l', d', x', rfl, ho, hb⟩
    have R5 := Lib.hid (R1.out.step hb)
    obtain ⟨a1, c1, rfl, -⟩ := ints_form ho.rows.1.rd
    obtain ⟨a2, c2, rfl, -⟩ := ints_form ho.rows.2.1.rd
    obtain ⟨a3, c3, rfl, -⟩ := ints_form ho.rows.2.2.rd
    have lt1 := (R1.out.bx (w.heap.size + 1 + 1, nilV, nilV, nilV) (by simp)).lt
    have hz1 := R1.out.bel.size
    rw [← HY3.out.1, ← HY3.out.2.1, show fixX (widthI k q).toNat (cK [b] [v]) L D X = zx from HY3.out.2.2.symm] at ho ⊢
    obtain ⟨q1, hq1⟩ : ∃ m, m = List.length (zl) := ⟨_, rfl⟩
    obtain ⟨q2, hq2⟩ : ∃ m, m = List.length (zd) := ⟨_, rfl⟩
    obtain ⟨q3, hq3⟩ : ∃ m, m = List.length (zx) := ⟨_, rfl⟩
    rw [← hq1, ← hq2, ← hq3] at ho ⊢
    have HO := Lib.hid (ho.set3 lt1 (.slice a1 q1 c1) (.slice a2 q2 c2) (.slice a3 q3 c3))
    clear hb ho hq1 hq2 hq3
    obtain ⟨⟨t0, t1, t2⟩, f0, f1, f2⟩ := R5.out.at (r := w.heap.size + 1 + 1) (a := nilV) (b := nilV) (c := nilV) (by simp)
    go_wp2
    refine bodyPost_ret (v := .tuple #[tenV (.slice a1 q1 c1) (.slice a2 q2 c2) (.slice a3 q3 c3), .bool true]) (by simp [results, Try.results16, go_sem, t0, t1, t2]) rfl ?_
    refine ⟨_, _, _, rfl, ?_, ((R5.out.bel.setCell (by simp; omega) _).setCell (by simp; omega) _).setCell (by simp; omega) _⟩
    exact HO.out.wide hz1 (by simp) (by simp)
end Go.Proofs.Ytfdjlahaiogabaa
