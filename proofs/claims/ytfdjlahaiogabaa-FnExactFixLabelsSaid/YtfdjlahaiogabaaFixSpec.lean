
/- spec.l09Fix, spec.FixLabels. -/
import Derived.Test.YtfdjlahaiogabaaSlSpec2
import Derived.Deep.RegionLaw
namespace Go.Proofs.Ytfdjlahaiogabaa
set_option maxRecDepth 20000
open Go.RowKit

set_option maxHeartbeats 6400000 in
theorem fix_spec {B B' : Nat} {lv dv xv kv vv : Value} {k p q : Int} {L D X KL VL : List Int} {w : World} (ha : RdT B w lv dv xv L D X) (hk : Rd B' w kv (ints KL)) (hv : Rd B' w vv (ints VL)) (hB : B ≤ w.heap.size) (hB' : B' ≤ w.heap.size) (ht : tensorB k p q L D X = true) (hKV : KL.length = VL.length) (hok : OkC (L.map (cK KL VL)) D) (hkl : KL.length ≤ 281474976710656) :
    Calls Try.prog 74 #[ringV k p q, tenV lv dv xv, kv, vv] w (NewTen w (fixL (cK KL VL) L) (fixD (cK KL VL) L D) (fixX (widthI k q).toNat (cK KL VL) L D X)) := by
  have FT := TF.of ht
  obtain ⟨wd, hwd⟩ : ∃ wd, wd = (widthI k q).toNat := ⟨_, rfl⟩
  obtain ⟨N, hN⟩ : ∃ N, N = (prodL D).toNat := ⟨_, rfl⟩
  rw [← hwd, ← hN] at FT
  rw [← hwd]
  have HT : Hid (RdT w.heap.size w lv dv xv L D X) := Lib.hid ⟨ha.l.mono hB, ha.d.mono hB, ha.x.mono hB⟩
  have HK : Hid (Rd w.heap.size w kv (ints KL)) := Lib.hid (hk.mono hB')
  have HV : Hid (Rd w.heap.size w vv (ints VL)) := Lib.hid (hv.mono hB')
  obtain ⟨al, cl, rfl, -⟩ := ints_form ha.l
  obtain ⟨ad, cd, rfl, -⟩ := ints_form ha.d
  obtain ⟨ax, cx, rfl, -⟩ := ints_form ha.x
  obtain ⟨ak, ck, rfl, -⟩ := ints_form hk
  obtain ⟨av, cv, rfl, -⟩ := ints_form hv
  have hlD : L.length = D.length := FT.ax.2.1
  obtain ⟨m1, hm1⟩ : ∃ m, m = L.length := ⟨_, rfl⟩
  obtain ⟨m3, hm3⟩ : ∃ m, m = X.length := ⟨_, rfl⟩
  obtain ⟨mk, hmk⟩ : ∃ m, m = KL.length := ⟨_, rfl⟩
  rw [← hlD, ← hm1, ← hm3] at HT ⊢
  rw [← hKV, ← hmk] at HV ⊢
  rw [← hmk] at HK
  have R0 : Hid (Rs w (((w.alloc (.cells #[.int .i64 k, .int .i64 p, .int .i64 q] 31)).alloc (.cells #[.slice al m1 cl, .slice ad m1 cd, .slice ax m3 cx] 28)).alloc (.cells #[nilV, nilV, nilV] 28)) [(w.heap.size + 1 + 1, nilV, nilV, nilV), (w.heap.size + 1, .slice al m1 cl, .slice ad m1 cd, .slice ax m3 cx), (w.heap.size, .int .i64 k, .int .i64 p, .int .i64 q)] []) := by
    have h := ((((Rs.start w).box (.int .i64 k) (.int .i64 p) (.int .i64 q) 31).box (.slice al m1 cl) (.slice ad m1 cd) (.slice ax m3 cx) 28).box (nilV) (nilV) (nilV) 28)
    simp only [World.size_alloc] at h
    exact h
  have HCO := Lib.hid (copy_spec (HT.out.below R0.out.bel (Nat.le_refl _)) R0.out.bel.size (by have := FT.ax.1; omega) (by have := FT.ax.1; omega) (by have := FT.x; omega))
  have HFT := Lib.hid FT
  have HKV := Lib.hid hKV
  have HOK := Lib.hid hok
  have HM := Lib.hid hmk
  have HL : Hid (L.length = m1 ∧ D.length = m1 ∧ X.length = m3) := Lib.hid ⟨hm1.symm, by rw [← hlD, hm1], hm3.symm⟩
  have HFU : Hid (KL.take mk = KL ∧ VL.take mk = VL) := Lib.hid ⟨List.take_of_length_le (by omega), List.take_of_length_le (by omega)⟩
  have hwd0 : widthI k q = (wd : Int) := FT.hw
  have HWD := Lib.hid hwd
  have hkl' : mk ≤ 281474976710656 := by omega
  obtain ⟨⟨s0, s1, s2⟩, -⟩ := R0.out.at (r := w.heap.size + 1) (a := .slice al m1 cl) (b := .slice ad m1 cd) (c := .slice ax m3 cx) (by simp)
  clear ha hk hv hB hB' ht hKV hok hkl FT hwd hN hm1 hm3 hlD hmk hwd0
  go_enter Try.func74, Try.ntmps74
  go_wp2_with fail
  refine HCO.out.mono ?_
  rintro e w1 ⟨l', d', x', rfl, ho, hb⟩
  have R1 := Lib.hid ((R0.out.new3 hb ho).box l' d' x' 28)
  obtain ⟨ob, hob⟩ : ∃ g, g = w1.heap.size := ⟨_, rfl⟩
  obtain ⟨a1, c1, rfl, -⟩ := ints_form ho.rows.1.rd
  obtain ⟨a2, c2, rfl, -⟩ := ints_form ho.rows.2.1.rd
  obtain ⟨a3, c3, rfl, -⟩ := ints_form ho.rows.2.2.rd
  have hz := fix_nil HFT.out (VL.take 0)
  rw [← hob, HL.out.1, HL.out.2.1, HL.out.2.2] at R1
  rw [HL.out.1, HL.out.2.1, HL.out.2.2]
  have R2 : Hid (Rs w (w1.alloc (.cells #[.slice a1 m1 c1, .slice a2 m1 c2, .slice a3 m3 c3] 28)) ((ob, .slice a1 m1 c1, .slice a2 m1 c2, .slice a3 m3 c3) :: [(w.heap.size + 1 + 1, nilV, nilV, nilV), (w.heap.size + 1, .slice al m1 cl, .slice ad m1 cd, .slice ax m3 cx), (w.heap.size, .int .i64 k, .int .i64 p, .int .i64 q)]) [(.slice a1 m1 c1, fixL (cK (KL.take 0) (VL.take 0)) L), (.slice a2 m1 c2, fixD (cK (KL.take 0) (VL.take 0)) L D), (.slice a3 m3 c3, fixX wd (cK (KL.take 0) (VL.take 0)) L D X)]) := Lib.hid (by
    rw [List.take_zero, hz.1, hz.2.1, hz.2.2]
    exact R1.out)
  clear hz ho hb R1 HCO s0 s1 s2
  go_wp2
  rw [← hob]
  go_loopw [16] (fun iv wr => ∃ (i n1 n2 n3 c1 c2 c3 : Nat) (a1 a2 a3 : Option Addr), i ≤ mk ∧ iv = .int .i64 i ∧ Hid (Rs w wr ((ob, .slice a1 n1 c1, .slice a2 n2 c2, .slice a3 n3 c3) :: [(w.heap.size + 1 + 1, nilV, nilV, nilV), (w.heap.size + 1, .slice al m1 cl, .slice ad m1 cd, .slice ax m3 cx), (w.heap.size, .int .i64 k, .int .i64 p, .int .i64 q)]) [(.slice a1 n1 c1, fixL (cK (KL.take i) (VL.take i)) L), (.slice a2 n2 c2, fixD (cK (KL.take i) (VL.take i)) L D), (.slice a3 n3 c3, fixX wd (cK (KL.take i) (VL.take i)) L D X)])) (fun iv _ => mk - (intOf iv).toNat)
  case atStart => exact ⟨0, m1, m1, m3, c1, c2, c3, a1, a2, a3, by omega, rfl, R2⟩
  case round =>
    clear R2 hob
    obtain ⟨i, n1, n2, n3, c1, c2, c3, a1, a2, a3, hi, rfl, HR⟩ := hrel
    by_cases hlt : i < mk
    · obtain ⟨n, X1⟩ : ∃ n, Hid (KL[i]? = some n) := ⟨_, List.getElem?_eq_getElem (by rw [← HM.out]; exact hlt)⟩
      obtain ⟨v, X2⟩ : ∃ d, Hid (VL[i]? = some d) := ⟨_, List.getElem?_eq_getElem (by rw [← HKV.out, ← HM.out]; exact hlt)⟩
      obtain ⟨b1, off, rfl, -, e1⟩ := (HK.out.below HR.out.bel (Nat.le_refl _)).cellAt X1.out
      obtain ⟨⟨o0, o1, o2⟩, -⟩ := HR.out.at (r := ob) (a := .slice a1 n1 c1) (b := .slice a2 n2 c2) (c := .slice a3 n3 c3) (by simp)
      have hfl : (fixL (cK (KL.take i) (VL.take i)) L).length ≤ 281474976710656 := by have := List.length_filter_le (fun n => ((cK (KL.take i) (VL.take i)) n).isNone) L; have := HFT.out.ax.1; unfold fixL; omega
      have HFI := Lib.hid (find_spec n (HR.out.rd (v := .slice a1 n1 c1) (xs := fixL (cK (KL.take i) (VL.take i)) L) (by simp)) hfl)
      obtain ⟨zi, hzi⟩ : ∃ z, z = findI (fixL (cK (KL.take i) (VL.take i)) L) n := ⟨_, rfl⟩
      rw [← hzi] at HFI
      by_cases hz0 : zi < 0
      · have hnm : n ∉ fixL (cK (KL.take i) (VL.take i)) L := findI_neg.1 (by rw [← hzi]; exact hz0)
        have hs := fix_same (wd := wd) (D := D) (X := X) X1.out X2.out hnm
        have HS : Hid (Rs w wr ((ob, .slice a1 n1 c1, .slice a2 n2 c2, .slice a3 n3 c3) :: [(w.heap.size + 1 + 1, nilV, nilV, nilV), (w.heap.size + 1, .slice al m1 cl, .slice ad m1 cd, .slice ax m3 cx), (w.heap.size, .int .i64 k, .int .i64 p, .int .i64 q)]) [(.slice a1 n1 c1, fixL (cK (KL.take (i + 1)) (VL.take (i + 1))) L), (.slice a2 n2 c2, fixD (cK (KL.take (i + 1)) (VL.take (i + 1))) L D), (.slice a3 n3 c3, fixX wd (cK (KL.take (i + 1)) (VL.take (i + 1))) L D X)]) := Lib.hid (by rw [← hs.1, ← hs.2.1, ← hs.2.2]; exact HR.out)
        have q1 : decide (0 ≤ zi) = false := by simp; omega
        clear hnm hs hzi hfl
        go_wp2_with fail
        refine HFI.out.mono ?_
        rintro e w9 ⟨rfl, rfl⟩
        go_wp2
        go_roundw
        case rel => exact ⟨i + 1, n1, n2, n3, c1, c2, c3, a1, a2, a3, by omega, by go_num, HS⟩
        case measure => simp [intOf]; omega
      · have hm : n ∈ fixL (cK (KL.take i) (VL.take i)) L := Classical.byContradiction fun h => hz0 (by have := findI_neg.2 h; omega)
        have hs := fix_more HFT.out HKV.out HOK.out X1.out X2.out hm
        have hf := HFT.out.fix (ok_take HFT.out.ax.2.1 HFT.out.ax.2.2.2.2 HKV.out HOK.out i)
        have hnx := fix_next HFT.out.ax.2.1 HOK.out X1.out X2.out hm
        have Q0 := Lib.hid HR.out.drew
        have hrd : RdT wr.drew.heap.size wr.drew (.slice a1 n1 c1) (.slice a2 n2 c2) (.slice a3 n3 c3) (fixL (cK (KL.take i) (VL.take i)) L) (fixD (cK (KL.take i) (VL.take i)) L D) (fixX wd (cK (KL.take i) (VL.take i)) L D X) := ⟨Q0.out.rd (by simp), Q0.out.rd (by simp), Q0.out.rd (by simp)⟩
        have HSL := Lib.hid (slice_spec (k := k) (p := p) (q := q) (b := n) (v := v) hrd (Nat.le_refl _) hf.yes hm hnx)
        rw [← HWD.out, hs.1, hs.2.1, hs.2.2] at HSL
        obtain ⟨bv, offv, rfl, -, e2⟩ := (HV.out.below Q0.out.bel (Nat.le_refl _)).cellAt X2.out
        have q1 : decide (0 ≤ zi) = true := by simp; omega
        obtain ⟨⟨r0, r1, r2⟩, -⟩ := Q0.out.at (r := w.heap.size) (a := .int .i64 k) (b := .int .i64 p) (c := .int .i64 q) (by simp)
        obtain ⟨⟨p0, p1, p2⟩, f0, f1, f2⟩ := Q0.out.at (r := ob) (a := .slice a1 n1 c1) (b := .slice a2 n2 c2) (c := .slice a3 n3 c3) (by simp)
        clear hm hs hf hnx hrd hzi hfl hz0
        go_wp2_with fail
        refine HFI.out.mono ?_
        rintro e w9 ⟨rfl, rfl⟩
        go_wp2
        clear o0 o1 o2 e1 HFI
        refine wp_region_held_drew (S := (fun w' => w'.cell? ⟨w.heap.size, 0, none⟩ = some (.int .i64 k) ∧ w'.cell? ⟨w.heap.size, 1, none⟩ = some (.int .i64 p) ∧ w'.cell? ⟨w.heap.size, 2, none⟩ = some (.int .i64 q) ∧ w'.cell? ⟨bv, offv + i, none⟩ = some (.int .i64 v))) (by kernel_rfl) (by (try dsimp only); first | exact ⟨r0, r1, r2, e2⟩ | exact ⟨y0, y1, y2, y3⟩) (fun hHeld => ?_)
        refine wpAnyH_take (i := 0) (v := ?_) rfl (by kernel_rfl) (by kernel_rfl) (by kernel_rfl) (fun _ _ _ h => h) (Or.inl ⟨by rfl, ?_⟩) (by assumption) ?_
        rotate_left
        · intro w hSw; (try dsimp only at hSw); go_simp <;> with_reducible rfl
        try simp only [Act.put, List.getElem_toArray, List.getElem_cons_zero, List.setIfInBounds_toArray, List.set_cons_zero, List.set_cons_succ]
        refine wpAnyH_take (i := 2) (v := ?_) rfl (by kernel_rfl) (by kernel_rfl) (by kernel_rfl) (fun _ _ _ h => h) (Or.inl ⟨by rfl, ?_⟩) (by assumption) ?_
        rotate_left
        · intro w hSw; (try dsimp only at hSw); go_simp <;> with_reducible rfl
        try simp only [Act.put, List.getElem_toArray, List.getElem_cons_succ, List.getElem_cons_zero, List.setIfInBounds_toArray, List.set_cons_zero, List.set_cons_succ]
        refine wpAnyH_take (i := 3) (v := ?_) rfl (by kernel_rfl) (by kernel_rfl) (by kernel_rfl) (fun _ _ _ h => h) (Or.inl ⟨by rfl, ?_⟩) (by assumption) ?_
        rotate_left
        · intro w hSw; (try dsimp only at hSw); go_simp <;> with_reducible rfl
        try simp only [Act.put, List.getElem_toArray, List.getElem_cons_succ, List.getElem_cons_zero, List.setIfInBounds_toArray, List.set_cons_zero, List.set_cons_succ]
        refine wpAnyH_take (i := 4) (v := ?_) rfl (by kernel_rfl) (by kernel_rfl) (by kernel_rfl) (fun _ _ _ h => h) (Or.inl ⟨by rfl, ?_⟩) (by assumption) ?_
        rotate_left
        · intro w hSw; (try dsimp only at hSw); go_simp <;> with_reducible rfl
        try simp only [Act.put, List.getElem_toArray, List.getElem_cons_succ, List.getElem_cons_zero, List.setIfInBounds_toArray, List.set_cons_zero, List.set_cons_succ]
        refine wpAnyH_take (i := 5) (v := ?_) rfl (by kernel_rfl) (by kernel_rfl) (by kernel_rfl) (fun _ _ _ h => h) (Or.inl ⟨by rfl, ?_⟩) (by assumption) ?_
        rotate_left
        · intro w hSw; (try dsimp only at hSw); go_simp <;> with_reducible rfl
        try simp only [Act.put, List.getElem_toArray, List.getElem_cons_succ, List.getElem_cons_zero, List.setIfInBounds_toArray, List.set_cons_zero, List.set_cons_succ]
        refine wpAnyH_take (i := 6) (v := ?_) rfl (by kernel_rfl) (by kernel_rfl) (by kernel_rfl) (fun _ _ _ h => h) (Or.inl ⟨by rfl, ?_⟩) (by assumption) ?_
        rotate_left
        · intro w hSw; (try dsimp only at hSw); go_simp <;> with_reducible rfl
        try simp only [Act.put, List.getElem_toArray, List.getElem_cons_succ, List.getElem_cons_zero, List.setIfInBounds_toArray, List.set_cons_zero, List.set_cons_succ]
        refine wpAnyH_ready (rs := [1]) (by kernel_rfl) (by simp) ?_
        refine AllReadyH.cons rfl (fun K hK => ?_) AllReadyH.nil
        go_simp
        refine hK.out _ _ (by (try dsimp only); first | exact ⟨r0, r1, r2, e2⟩ | exact ⟨y0, y1, y2, y3⟩) (fun hHeld => ?_)
        clear hK K
        try simp only [Act.put, List.getElem_toArray, List.getElem_cons_succ, List.getElem_cons_zero, List.setIfInBounds_toArray, List.set_cons_zero, List.set_cons_succ]
        refine wpAnyH_ready (rs := [7]) (by kernel_rfl) (by simp) ?_
        refine AllReadyH.cons rfl (fun K hK => ?_) AllReadyH.nil
        go_simp
        (go_at_call 59; refine HSL.out.mono ?_; rintro e9 w7 ⟨l', d', x', rfl, ho, hb⟩; clear r0 r1 r2 e2 p0 p1 p2 f0 f1 f2; obtain ⟨d1, g1, rfl, -⟩ := ints_form ho.rows.1.rd; obtain ⟨d2, g2, rfl, -⟩ := ints_form ho.rows.2.1.rd; obtain ⟨d3, g3, rfl, -⟩ := ints_form ho.rows.2.2.rd; obtain ⟨u1, hu1⟩ : ∃ m, m = (fixL (cK (KL.take (i + 1)) (VL.take (i + 1))) L).length := ⟨_, rfl⟩; obtain ⟨u2, hu2⟩ : ∃ m, m = (fixD (cK (KL.take (i + 1)) (VL.take (i + 1))) L D).length := ⟨_, rfl⟩; obtain ⟨u3, hu3⟩ : ∃ m, m = (fixX wd (cK (KL.take (i + 1)) (VL.take (i + 1))) L D X).length := ⟨_, rfl⟩; rw [← hu1, ← hu2, ← hu3] at ho ⊢; have Q1 := Lib.hid ((Q0.out.new3 hb ho).sub (rows' := [(.slice d1 u1 g1, fixL (cK (KL.take (i + 1)) (VL.take (i + 1))) L), (.slice d2 u2 g2, fixD (cK (KL.take (i + 1)) (VL.take (i + 1))) L D), (.slice d3 u3 g3, fixX wd (cK (KL.take (i + 1)) (VL.take (i + 1))) L D X)]) (List.Sublist.cons_cons _ (List.Sublist.cons_cons _ (List.Sublist.cons_cons _ (List.nil_sublist _))))); clear hu1 hu2 hu3 ho hb; obtain ⟨⟨r0, r1, r2⟩, -⟩ := Q1.out.at (r := w.heap.size) (a := .int .i64 k) (b := .int .i64 p) (c := .int .i64 q) (by simp); obtain ⟨⟨p0, p1, p2⟩, f0, f1, f2⟩ := Q1.out.at (r := ob) (a := .slice a1 n1 c1) (b := .slice a2 n2 c2) (c := .slice a3 n3 c3) (by simp); obtain ⟨bv', offv', ee, -, e2⟩ := (HV.out.below Q1.out.bel (Nat.le_refl _)).cellAt X2.out; cases ee; have Q2 := Lib.hid (Q1.out.set3 (.slice d1 u1 g1) (.slice d2 u2 g2) (.slice d3 u3 g3)); obtain ⟨⟨y0, y1, y2⟩, -⟩ := Q2.out.at (r := w.heap.size) (a := .int .i64 k) (b := .int .i64 p) (c := .int .i64 q) (by simp); obtain ⟨bv', offv', ee, -, y3⟩ := (HV.out.below Q2.out.bel (Nat.le_refl _)).cellAt X2.out; cases ee)
        go_wp2_with fail
        refine hK.out _ _ (by (try dsimp only); first | exact ⟨r0, r1, r2, e2⟩ | exact ⟨y0, y1, y2, y3⟩) (fun hHeld => ?_)
        clear hK K
        try simp only [Act.put, List.getElem_toArray, List.getElem_cons_succ, List.getElem_cons_zero, List.setIfInBounds_toArray, List.set_cons_zero, List.set_cons_succ]
        refine wpAnyH_ready (rs := [8]) (by kernel_rfl) (by simp) ?_
        refine AllReadyH.cons rfl (fun K hK => ?_) AllReadyH.nil
        go_simp
        refine hK.out _ _ (by (try dsimp only); first | exact ⟨r0, r1, r2, e2⟩ | exact ⟨y0, y1, y2, y3⟩) (fun hHeld => ?_)
        clear hK K
        try simp only [Act.put, List.getElem_toArray, List.getElem_cons_succ, List.getElem_cons_zero, List.setIfInBounds_toArray, List.set_cons_zero, List.set_cons_succ]
        refine wpAnyH_done (by kernel_rfl) ?_ _
        all_goals
          go_wp2
          go_roundw
          case rel => exact ⟨i + 1, u1, u2, u3, g1, g2, g3, d1, d2, d3, by omega, by go_num, Q2⟩
          case measure => simp [intOf]; omega
    · obtain rfl : i = mk := by omega
      obtain ⟨⟨o0, o1, o2⟩, -⟩ := HR.out.at (r := ob) (a := .slice a1 n1 c1) (b := .slice a2 n2 c2) (c := .slice a3 n3 c3) (by simp)
      obtain ⟨⟨t0, t1, t2⟩, f0, f1, f2⟩ := HR.out.at (r := w.heap.size + 1 + 1) (a := nilV) (b := nilV) (c := nilV) (by simp)
      go_wp2
      refine bodyPost_ret (v := tenV (.slice a1 n1 c1) (.slice a2 n2 c2) (.slice a3 n3 c3)) (by simp [results, Try.results74, go_sem, t0, t1, t2]) rfl ?_
      have h2 := HR.out.swapB.set3 (.slice a1 n1 c1) (.slice a2 n2 c2) (.slice a3 n3 c3)
      rw [HFU.out.1, HFU.out.2] at h2
      exact ⟨_, _, _, rfl, h2.ownG, h2.bel⟩

theorem fix_yes {k p q : Int} {L D X KL VL : List Int} (h : fixB k p q L D X KL VL = true) : tensorB k p q L D X = true ∧ KL.length = VL.length ∧ OkC (L.map (cK KL VL)) D := by
  unfold fixB at h
  simp only [Bool.and_eq_true, decide_eq_true_eq] at h
  exact ⟨h.1, h.2.1, h.2.2⟩
theorem fix_true {k p q : Int} {L D X KL VL : List Int} (h1 : tensorB k p q L D X = true) (h2 : KL.length = VL.length) (h3 : OkC (L.map (cK KL VL)) D) : fixB k p q L D X KL VL = true := by
  unfold fixB
  simp only [Bool.and_eq_true, decide_eq_true_eq]
  exact ⟨h1, h2, h3⟩
theorem fix_false {k p q : Int} {L D X KL VL : List Int} (h : ¬ (tensorB k p q L D X = true ∧ KL.length = VL.length ∧ OkC (L.map (cK KL VL)) D)) : fixB k p q L D X KL VL = false := by
  cases hb : fixB k p q L D X KL VL with
  | false => rfl
  | true => exact absurd (fix_yes hb) h
theorem FixTo.step {L D KL VL : List Int} {i : Nat} {n v : Int} (h : FixTo L D KL VL i) (hn : KL[i]? = some n) (hv : VL[i]? = some v) (h1 : n ∉ KL.take i → n ∈ L → 0 ≤ v ∧ v < D.getD (L.idxOf n) 0) : FixTo L D KL VL (i + 1) := by
  intro j m u hj hm hu
  by_cases e : j < i
  · exact h j m u e hm hu
  · obtain rfl : j = i := by omega
    rw [hn] at hm
    rw [hv] at hu
    injection hm with hm
    injection hu with hu
    subst hm hu
    exact h1
/-- The data of FixLabels' answer. -/
def fixDataL (k q : Int) (L D X KL VL : List Int) : List Int := fixX (widthI k q).toNat (cK KL VL) L D X
set_option maxHeartbeats 6400000 in
theorem fix_labels_spec {B B' : Nat} {lv dv xv kv vv : Value} {k p q : Int} {L D X KL VL : List Int} {w : World} (ha : RdT B w lv dv xv L D X) (hk : Rd B' w kv (ints KL)) (hv : Rd B' w vv (ints VL)) (hB : B ≤ w.heap.size) (hB' : B' ≤ w.heap.size) (hn : LenT L D X) (hkl : KL.length ≤ 281474976710656) (hvl : VL.length ≤ 281474976710656) :
    Calls Try.prog 29 #[ringV k p q, tenV lv dv xv, kv, vv] w (NewTen2 w (if fixB k p q L D X KL VL = true then fixL (cK KL VL) L else []) (if fixB k p q L D X KL VL = true then fixD (cK KL VL) L D else []) (if fixB k p q L D X KL VL = true then fixDataL k q L D X KL VL else []) (fixB k p q L D X KL VL)) := by
  have HT : Hid (RdT w.heap.size w lv dv xv L D X) := Lib.hid ⟨ha.l.mono hB, ha.d.mono hB, ha.x.mono hB⟩
  have HK : Hid (Rd w.heap.size w kv (ints KL)) := Lib.hid (hk.mono hB')
  have HV : Hid (Rd w.heap.size w vv (ints VL)) := Lib.hid (hv.mono hB')
  obtain ⟨al, cl, rfl, -⟩ := ints_form ha.l
  obtain ⟨ad, cd, rfl, -⟩ := ints_form ha.d
  obtain ⟨ax, cx, rfl, -⟩ := ints_form ha.x
  obtain ⟨ak, ck, rfl, -⟩ := ints_form hk
  obtain ⟨av, cv, rfl, -⟩ := ints_form hv
  obtain ⟨m1, hm1⟩ : ∃ m, m = L.length := ⟨_, rfl⟩
  obtain ⟨m2, hm2⟩ : ∃ m, m = D.length := ⟨_, rfl⟩
  obtain ⟨m3, hm3⟩ : ∃ m, m = X.length := ⟨_, rfl⟩
  rw [← hm1, ← hm2, ← hm3] at HT ⊢
  obtain ⟨mk, hmk⟩ : ∃ m, m = KL.length := ⟨_, rfl⟩
  obtain ⟨mv, hmv⟩ : ∃ m, m = VL.length := ⟨_, rfl⟩
  rw [← hmk] at HK ⊢
  rw [← hmv] at HV ⊢
  have R0 : Hid (Rs w (((w.alloc (.cells #[.int .i64 k, .int .i64 p, .int .i64 q] 31)).alloc (.cells #[.slice al m1 cl, .slice ad m2 cd, .slice ax m3 cx] 28)).alloc (.cells #[nilV, nilV, nilV] 28)) [(w.heap.size + 1 + 1, nilV, nilV, nilV), (w.heap.size + 1, .slice al m1 cl, .slice ad m2 cd, .slice ax m3 cx), (w.heap.size, .int .i64 k, .int .i64 p, .int .i64 q)] []) := by
    have h := ((((Rs.start w).box (.int .i64 k) (.int .i64 p) (.int .i64 q) 31).box (.slice al m1 cl) (.slice ad m2 cd) (.slice ax m3 cx) 28).box (nilV) (nilV) (nilV) 28)
    simp only [World.size_alloc] at h
    exact h
  have OKA := Lib.hid (fun (w1 : World) (hb : Below w.heap.size w w1) => tensor_ok_spec (k := k) (p := p) (n := q) (HT.out.below hb (Nat.le_refl _)) hb.size hn)
  have HSL := Lib.hid (fun (hs : fixB k p q L D X KL VL = true) (w1 : World) (hb : Below w.heap.size w w1) => fix_spec (k := k) (p := p) (q := q) (HT.out.below hb (Nat.le_refl _)) (HK.out.below hb (Nat.le_refl _)) (HV.out.below hb (Nat.le_refl _)) hb.size hb.size (fix_yes hs).1 (fix_yes hs).2.1 (fix_yes hs).2.2 hkl)
  obtain ⟨tb, htb⟩ : ∃ x, x = tensorB k p q L D X := ⟨_, rfl⟩
  obtain ⟨fb, hfb⟩ : ∃ x, x = fixB k p q L D X KL VL := ⟨_, rfl⟩
  have HTB := Lib.hid htb
  have HFB := Lib.hid hfb
  have HLN := Lib.hid hn.l
  rw [← htb] at OKA
  rw [← hfb] at HSL ⊢
  obtain ⟨zl, hzl⟩ : ∃ l, l = (if fb = true then fixL (cK KL VL) L else []) := ⟨_, rfl⟩
  obtain ⟨zd, hzd⟩ : ∃ l, l = (if fb = true then fixD (cK KL VL) L D else []) := ⟨_, rfl⟩
  obtain ⟨zx, hzx⟩ : ∃ l, l = (if fb = true then fixDataL k q L D X KL VL else []) := ⟨_, rfl⟩
  have HNO : Hid (fb = false → zl = [] ∧ zd = [] ∧ zx = []) := Lib.hid (fun h => by subst h; exact ⟨hzl, hzd, hzx⟩)
  have HYES : Hid (fb = true → zl = fixL (cK KL VL) L ∧ zd = fixD (cK KL VL) L D ∧ zx = fixDataL k q L D X KL VL) := Lib.hid (fun h => by subst h; exact ⟨hzl, hzd, hzx⟩)
  rw [← hzl, ← hzd, ← hzx]
  clear hzl hzd hzx
  have HM := Lib.hid (And.intro hm1 (And.intro hm2 hm3))
  have HMK := Lib.hid (And.intro hmk hmv)
  have hkl' : mk ≤ 281474976710656 := by omega
  have hvl' : mv ≤ 281474976710656 := by omega
  clear ha hk hv hB hB' hn hkl hvl hm1 hm2 hm3 hmk hmv htb hfb
  obtain ⟨⟨r0, r1, r2⟩, -⟩ := R0.out.at (r := w.heap.size) (a := .int .i64 k) (b := .int .i64 p) (c := .int .i64 q) (by simp)
  obtain ⟨⟨s0, s1, s2⟩, -⟩ := R0.out.at (r := w.heap.size + 1) (a := .slice al m1 cl) (b := .slice ad m2 cd) (c := .slice ax m3 cx) (by simp)
  cases tb with
  | false =>
    obtain rfl : fb = false := by rw [HFB.out]; exact fix_false fun h => by rw [← HTB.out] at h; simp at h
    obtain ⟨rfl, rfl, rfl⟩ := HNO.out (by simp)
    go_enter Try.func29, Try.ntmps29
    go_wp2_with fail
    refine (OKA.out _ R0.out.bel).mono ?_
    clear r0 r1 r2 s0 s1 s2
    rintro e w1 ⟨rfl, hb⟩
    have R1 := Lib.hid (R0.out.step hb)
    clear hb
    obtain ⟨⟨t0, t1, t2⟩, f0, f1, f2⟩ := R1.out.at (r := w.heap.size + 1 + 1) (a := nilV) (b := nilV) (c := nilV) (by simp)
    go_wp2
    refine bodyPost_ret (v := .tuple #[tenV nilV nilV nilV, .bool false]) (by simp [results, Try.results29, go_sem, t0, t1, t2]) rfl ?_
    exact NewTen2.nils (((R1.out.bel.setCell (by simp; omega) _).setCell (by simp; omega) _).setCell (by simp; omega) _)
  | true =>
  by_cases hkv : mk = mv
  case neg =>
    obtain rfl : fb = false := by rw [HFB.out]; exact fix_false fun h => hkv (by rw [HMK.out.1, HMK.out.2]; exact h.2.1)
    obtain ⟨rfl, rfl, rfl⟩ := HNO.out (by simp)
    have q1 : ((mk : Int) == (mv : Int)) = false := by simp; omega
    clear hkv
    go_enter Try.func29, Try.ntmps29
    go_wp2_with fail
    refine (OKA.out _ R0.out.bel).mono ?_
    clear r0 r1 r2 s0 s1 s2
    rintro e w1 ⟨rfl, hb⟩
    have R1 := Lib.hid (R0.out.step hb)
    clear hb
    obtain ⟨⟨t0, t1, t2⟩, f0, f1, f2⟩ := R1.out.at (r := w.heap.size + 1 + 1) (a := nilV) (b := nilV) (c := nilV) (by simp)
    go_wp2
    refine bodyPost_ret (v := .tuple #[tenV nilV nilV nilV, .bool false]) (by simp [results, Try.results29, go_sem, t0, t1, t2]) rfl ?_
    exact NewTen2.nils (((R1.out.bel.setCell (by simp; omega) _).setCell (by simp; omega) _).setCell (by simp; omega) _)
  subst hkv
  have FT := TF.of HTB.out.symm
  have hlD : L.length = D.length := FT.ax.2.1
  obtain rfl : m1 = m2 := by rw [HM.out.1, HM.out.2.1, hlD]
  have HL : Hid (L.length = m1 ∧ D.length = m1) := Lib.hid ⟨HM.out.1.symm, HM.out.2.1.symm⟩
  have h12 : m1 ≤ 12 := by rw [HM.out.1]; exact FT.ax.1
  have HFT := Lib.hid FT
  have HNV : Hid (∀ (i : Nat) (n v : Int), KL[i]? = some n → VL[i]? = some v → n ∉ KL.take i → n ∈ L → ¬ (0 ≤ v ∧ v < D.getD (L.idxOf n) 0) → fb = false) := Lib.hid (fun i n v h1 h2 h3 h4 h5 => by
    rw [HFB.out]
    exact fix_false fun h => h5 (fix_of_ok HFT.out.ax.2.1 h.2.2 (i + 1) i n v (by omega) h1 h2 h3 h4))
  have HYS : Hid (FixTo L D KL VL mk → fb = true) := Lib.hid (fun h => by
    rw [HMK.out.1] at h
    rw [HFB.out]
    exact fix_true HTB.out.symm (by rw [← HMK.out.1, ← HMK.out.2]) (ok_of_fix HFT.out.ax.2.1 HFT.out.ax.2.2.2.2 (by rw [← HMK.out.1, ← HMK.out.2]) h))
  have HF0 : Hid (FixTo L D KL VL 0) := Lib.hid (fun j n v h => by omega)
  clear hlD FT
  go_enter Try.func29, Try.ntmps29
  go_wp2_with fail
  refine (OKA.out _ R0.out.bel).mono ?_
  clear r0 r1 r2 s0 s1 s2
  rintro e w1 ⟨rfl, hb⟩
  have R1 := Lib.hid (R0.out.step hb)
  clear hb
  go_wp2
  go_loopw [27] (fun iv wr => ∃ i : Nat, i ≤ mk ∧ iv = .int .i64 i ∧ Hid (FixTo L D KL VL i) ∧ Hid (Rs w wr [(w.heap.size + 1 + 1, nilV, nilV, nilV), (w.heap.size + 1, .slice al m1 cl, .slice ad m1 cd, .slice ax m3 cx), (w.heap.size, .int .i64 k, .int .i64 p, .int .i64 q)] [])) (fun iv _ => mk - (intOf iv).toNat)
  case atStart => exact ⟨0, by omega, rfl, HF0, R1⟩
  case round =>
    clear R1 HF0
    obtain ⟨i, hi, rfl, HFX, HR⟩ := hrel
    by_cases hlt : i < mk
    · obtain ⟨n, X1⟩ : ∃ n, Hid (KL[i]? = some n) := ⟨_, List.getElem?_eq_getElem (by rw [← HMK.out.1]; exact hlt)⟩
      obtain ⟨v, X2⟩ : ∃ d, Hid (VL[i]? = some d) := ⟨_, List.getElem?_eq_getElem (by rw [← HMK.out.2]; exact hlt)⟩
      obtain ⟨b1, off, rfl, -, e1⟩ := (HK.out.below HR.out.bel (Nat.le_refl _)).cellAt X1.out
      obtain ⟨⟨s0, s1, s2⟩, -⟩ := HR.out.at (r := w.heap.size + 1) (a := .slice al m1 cl) (b := .slice ad m1 cd) (c := .slice ax m3 cx) (by simp)
      have HFI := Lib.hid (find_spec n (HT.out.l.below HR.out.bel (Nat.le_refl _)) HLN.out)
      obtain ⟨zi, hzi⟩ : ∃ z, z = findI L n := ⟨_, rfl⟩
      rw [← hzi] at HFI
      have Q0 := Lib.hid HR.out.drew
      by_cases hz0 : zi < 0
      · have hnm : n ∉ L := findI_neg.1 (by rw [← hzi]; exact hz0)
        have HS := Lib.hid (HFX.out.step X1.out X2.out (fun _ h => absurd h hnm))
        have q1 : decide (0 ≤ zi) = false := by simp; omega
        clear hnm hzi
        go_wp2_with fail
        refine HFI.out.mono ?_
        rintro e w9 ⟨rfl, rfl⟩
        go_wp2
        clear s0 s1 s2
        obtain ⟨⟨s0, s1, s2⟩, -⟩ := Q0.out.at (r := w.heap.size + 1) (a := .slice al m1 cl) (b := .slice ad m1 cd) (c := .slice ax m3 cx) (by simp)
        refine wp_region_held_drew (S := (fun w' => w'.cell? ⟨w.heap.size + 1, 0, none⟩ = some (.slice al m1 cl) ∧ w'.cell? ⟨w.heap.size + 1, 1, none⟩ = some (.slice ad m1 cd) ∧ w'.cell? ⟨w.heap.size + 1, 2, none⟩ = some (.slice ax m3 cx))) (by kernel_rfl) (by (try dsimp only); exact ⟨s0, s1, s2⟩) (fun hHeld => ?_)
        refine wpAnyH_take (i := 0) (v := ?_) rfl (by kernel_rfl) (by kernel_rfl) (by kernel_rfl) (fun _ _ _ h => h) (Or.inl ⟨by rfl, ?_⟩) (by assumption) ?_
        rotate_left
        · intro w hSw; (try dsimp only at hSw); go_simp <;> with_reducible rfl
        try simp only [Act.put, List.getElem_toArray, List.getElem_cons_zero, List.setIfInBounds_toArray, List.set_cons_zero, List.set_cons_succ]
        refine wpAnyH_take (i := 1) (v := ?_) rfl (by kernel_rfl) (by kernel_rfl) (by kernel_rfl) (fun _ _ _ h => h) (Or.inl ⟨by rfl, ?_⟩) (by assumption) ?_
        rotate_left
        · intro w hSw; (try dsimp only at hSw); go_simp <;> with_reducible rfl
        try simp only [Act.put, List.getElem_toArray, List.getElem_cons_succ, List.getElem_cons_zero, List.setIfInBounds_toArray, List.set_cons_zero, List.set_cons_succ]
        refine wpAnyH_take (i := 2) (v := ?_) rfl (by kernel_rfl) (by kernel_rfl) (by kernel_rfl) (fun _ _ _ h => h) (Or.inl ⟨by rfl, ?_⟩) (by assumption) ?_
        rotate_left
        · intro w hSw; (try dsimp only at hSw); go_simp <;> with_reducible rfl
        try simp only [Act.put, List.getElem_toArray, List.getElem_cons_succ, List.getElem_cons_zero, List.setIfInBounds_toArray, List.set_cons_zero, List.set_cons_succ]
        refine wpAnyH_take (i := 3) (v := undef) rfl (by kernel_rfl) (by kernel_rfl) (by kernel_rfl) (fun _ _ _ h => h) (Or.inr ⟨by rfl, rfl⟩) (by assumption) ?_
        try simp only [Act.put, List.getElem_toArray, List.getElem_cons_succ, List.getElem_cons_zero, List.setIfInBounds_toArray, List.set_cons_zero, List.set_cons_succ]
        refine wpAnyH_take (i := 4) (v := undef) rfl (by kernel_rfl) (by kernel_rfl) (by kernel_rfl) (fun _ _ _ h => h) (Or.inr ⟨by rfl, rfl⟩) (by assumption) ?_
        try simp only [Act.put, List.getElem_toArray, List.getElem_cons_succ, List.getElem_cons_zero, List.setIfInBounds_toArray, List.set_cons_zero, List.set_cons_succ]
        refine wpAnyH_take (i := 5) (v := undef) rfl (by kernel_rfl) (by kernel_rfl) (by kernel_rfl) (fun _ _ _ h => h) (Or.inr ⟨by rfl, rfl⟩) (by assumption) ?_
        try simp only [Act.put, List.getElem_toArray, List.getElem_cons_succ, List.getElem_cons_zero, List.setIfInBounds_toArray, List.set_cons_zero, List.set_cons_succ]
        refine wpAnyH_take (i := 6) (v := undef) rfl (by kernel_rfl) (by kernel_rfl) (by kernel_rfl) (fun _ _ _ h => h) (Or.inr ⟨by rfl, rfl⟩) (by assumption) ?_
        try simp only [Act.put, List.getElem_toArray, List.getElem_cons_succ, List.getElem_cons_zero, List.setIfInBounds_toArray, List.set_cons_zero, List.set_cons_succ]
        refine wpAnyH_take (i := 7) (v := undef) rfl (by kernel_rfl) (by kernel_rfl) (by kernel_rfl) (fun _ _ _ h => h) (Or.inr ⟨by rfl, rfl⟩) (by assumption) ?_
        try simp only [Act.put, List.getElem_toArray, List.getElem_cons_succ, List.getElem_cons_zero, List.setIfInBounds_toArray, List.set_cons_zero, List.set_cons_succ]
        refine wpAnyH_take (i := 8) (v := undef) rfl (by kernel_rfl) (by kernel_rfl) (by kernel_rfl) (fun _ _ _ h => h) (Or.inr ⟨by rfl, rfl⟩) (by assumption) ?_
        try simp only [Act.put, List.getElem_toArray, List.getElem_cons_succ, List.getElem_cons_zero, List.setIfInBounds_toArray, List.set_cons_zero, List.set_cons_succ]
        refine wpAnyH_take (i := 9) (v := ?_) rfl (by kernel_rfl) (by kernel_rfl) (by kernel_rfl) (fun _ _ _ h => h) (Or.inl ⟨by rfl, ?_⟩) (by assumption) ?_
        rotate_left
        · intro w hSw; (try dsimp only at hSw); go_simp <;> with_reducible rfl
        try simp only [Act.put, List.getElem_toArray, List.getElem_cons_succ, List.getElem_cons_zero, List.setIfInBounds_toArray, List.set_cons_zero, List.set_cons_succ]
        refine wpAnyH_take (i := 10) (v := ?_) rfl (by kernel_rfl) (by kernel_rfl) (by kernel_rfl) (fun _ _ _ h => h) (Or.inl ⟨by rfl, ?_⟩) (by assumption) ?_
        rotate_left
        · intro w hSw; (try dsimp only at hSw); go_simp <;> with_reducible rfl
        try simp only [Act.put, List.getElem_toArray, List.getElem_cons_succ, List.getElem_cons_zero, List.setIfInBounds_toArray, List.set_cons_zero, List.set_cons_succ]
        refine wpAnyH_take (i := 11) (v := undef) rfl (by kernel_rfl) (by kernel_rfl) (by kernel_rfl) (fun _ _ _ h => h) (Or.inr ⟨by rfl, rfl⟩) (by assumption) ?_
        try simp only [Act.put, List.getElem_toArray, List.getElem_cons_succ, List.getElem_cons_zero, List.setIfInBounds_toArray, List.set_cons_zero, List.set_cons_succ]
        refine wpAnyH_take (i := 12) (v := undef) rfl (by kernel_rfl) (by kernel_rfl) (by kernel_rfl) (fun _ _ _ h => h) (Or.inr ⟨by rfl, rfl⟩) (by assumption) ?_
        try simp only [Act.put, List.getElem_toArray, List.getElem_cons_succ, List.getElem_cons_zero, List.setIfInBounds_toArray, List.set_cons_zero, List.set_cons_succ]
        refine wpAnyH_take (i := 13) (v := undef) rfl (by kernel_rfl) (by kernel_rfl) (by kernel_rfl) (fun _ _ _ h => h) (Or.inr ⟨by rfl, rfl⟩) (by assumption) ?_
        try simp only [Act.put, List.getElem_toArray, List.getElem_cons_succ, List.getElem_cons_zero, List.setIfInBounds_toArray, List.set_cons_zero, List.set_cons_succ]
        refine wpAnyH_take (i := 14) (v := undef) rfl (by kernel_rfl) (by kernel_rfl) (by kernel_rfl) (fun _ _ _ h => h) (Or.inr ⟨by rfl, rfl⟩) (by assumption) ?_
        try simp only [Act.put, List.getElem_toArray, List.getElem_cons_succ, List.getElem_cons_zero, List.setIfInBounds_toArray, List.set_cons_zero, List.set_cons_succ]
        refine wpAnyH_take (i := 15) (v := undef) rfl (by kernel_rfl) (by kernel_rfl) (by kernel_rfl) (fun _ _ _ h => h) (Or.inr ⟨by rfl, rfl⟩) (by assumption) ?_
        try simp only [Act.put, List.getElem_toArray, List.getElem_cons_succ, List.getElem_cons_zero, List.setIfInBounds_toArray, List.set_cons_zero, List.set_cons_succ]
        refine wpAnyH_take (i := 16) (v := undef) rfl (by kernel_rfl) (by kernel_rfl) (by kernel_rfl) (fun _ _ _ h => h) (Or.inr ⟨by rfl, rfl⟩) (by assumption) ?_
        try simp only [Act.put, List.getElem_toArray, List.getElem_cons_succ, List.getElem_cons_zero, List.setIfInBounds_toArray, List.set_cons_zero, List.set_cons_succ]
        refine wpAnyH_take (i := 17) (v := undef) rfl (by kernel_rfl) (by kernel_rfl) (by kernel_rfl) (fun _ _ _ h => h) (Or.inr ⟨by rfl, rfl⟩) (by assumption) ?_
        try simp only [Act.put, List.getElem_toArray, List.getElem_cons_succ, List.getElem_cons_zero, List.setIfInBounds_toArray, List.set_cons_zero, List.set_cons_succ]
        refine wpAnyH_take (i := 18) (v := undef) rfl (by kernel_rfl) (by kernel_rfl) (by kernel_rfl) (fun _ _ _ h => h) (Or.inr ⟨by rfl, rfl⟩) (by assumption) ?_
        try simp only [Act.put, List.getElem_toArray, List.getElem_cons_succ, List.getElem_cons_zero, List.setIfInBounds_toArray, List.set_cons_zero, List.set_cons_succ]
        refine wpAnyH_take (i := 19) (v := undef) rfl (by kernel_rfl) (by kernel_rfl) (by kernel_rfl) (fun _ _ _ h => h) (Or.inr ⟨by rfl, rfl⟩) (by assumption) ?_
        try simp only [Act.put, List.getElem_toArray, List.getElem_cons_succ, List.getElem_cons_zero, List.setIfInBounds_toArray, List.set_cons_zero, List.set_cons_succ]
        refine wpAnyH_take (i := 20) (v := undef) rfl (by kernel_rfl) (by kernel_rfl) (by kernel_rfl) (fun _ _ _ h => h) (Or.inr ⟨by rfl, rfl⟩) (by assumption) ?_
        try simp only [Act.put, List.getElem_toArray, List.getElem_cons_succ, List.getElem_cons_zero, List.setIfInBounds_toArray, List.set_cons_zero, List.set_cons_succ]
        refine wpAnyH_take (i := 21) (v := undef) rfl (by kernel_rfl) (by kernel_rfl) (by kernel_rfl) (fun _ _ _ h => h) (Or.inr ⟨by rfl, rfl⟩) (by assumption) ?_
        try simp only [Act.put, List.getElem_toArray, List.getElem_cons_succ, List.getElem_cons_zero, List.setIfInBounds_toArray, List.set_cons_zero, List.set_cons_succ]
        refine wpAnyH_take (i := 22) (v := undef) rfl (by kernel_rfl) (by kernel_rfl) (by kernel_rfl) (fun _ _ _ h => h) (Or.inr ⟨by rfl, rfl⟩) (by assumption) ?_
        try simp only [Act.put, List.getElem_toArray, List.getElem_cons_succ, List.getElem_cons_zero, List.setIfInBounds_toArray, List.set_cons_zero, List.set_cons_succ]
        refine wpAnyH_take (i := 23) (v := ?_) rfl (by kernel_rfl) (by kernel_rfl) (by kernel_rfl) (fun _ _ _ h => h) (Or.inl ⟨by rfl, ?_⟩) (by assumption) ?_
        rotate_left
        · intro w hSw; (try dsimp only at hSw); go_simp <;> with_reducible rfl
        try simp only [Act.put, List.getElem_toArray, List.getElem_cons_succ, List.getElem_cons_zero, List.setIfInBounds_toArray, List.set_cons_zero, List.set_cons_succ]
        refine wpAnyH_done (by kernel_rfl) ?_ _
        go_wp2
        go_roundw
        case rel => exact ⟨i + 1, by omega, by go_num, HS, Q0⟩
        case measure => simp [intOf]; omega
      · have hm : n ∈ L := Classical.byContradiction fun h => hz0 (by have := findI_neg.2 h; omega)
        obtain ⟨z, hz⟩ : ∃ z, z = L.idxOf n := ⟨_, rfl⟩
        have hzL := at_idxOf hm
        rw [← hz] at hzL
        have hzz : zi = (z : Int) := by rw [hzi, hz]; unfold findI; rw [if_pos hm]
        subst hzz
        have hz1 : z < m1 := by have := (List.getElem?_eq_some_iff.1 hzL).1; have := HL.out.1; omega
        obtain ⟨d, hd⟩ : ∃ d, D[z]? = some d := ⟨_, List.getElem?_eq_getElem (by rw [HL.out.2]; exact hz1)⟩
        have hd8 := HFT.out.ax.2.2.2.1 d (List.mem_of_getElem? hd)
        have q1 : decide (0 ≤ (z : Int)) = true := by simp
        have hdz : D.getD (L.idxOf n) 0 = d := by rw [← hz]; exact getD_at hd
        have HRT : Hid (Rd w.heap.size wr.drew (.slice (some ⟨b1, off, none⟩) i ck) (ints (KL.take i))) := Lib.hid ((HK.out.below Q0.out.bel (Nat.le_refl _)).take i (by rw [← HMK.out.1]; omega))
        have hcap : i ≤ ck := by
          rcases HK.out.ints_cases with ⟨e, -⟩ | ⟨b2, o2, c2, e, -, hc2, -⟩
          · have h1 := X1.out; rw [e] at h1; simp at h1
          · cases e; have := HMK.out.1; omega
        have HF2 := Lib.hid (find_spec n HRT.out (by rw [List.length_take]; omega))
        obtain ⟨zt, hzt⟩ : ∃ z, z = findI (KL.take i) n := ⟨_, rfl⟩
        rw [← hzt] at HF2
        obtain ⟨bd, od, rfl, -, de⟩ := (HT.out.d.below Q0.out.bel (Nat.le_refl _)).cellAt hd
        obtain ⟨bv, ov, rfl, -, ve⟩ := (HV.out.below Q0.out.bel (Nat.le_refl _)).cellAt X2.out
        by_cases ht0 : zt < 0
        case neg =>
          have hmt : n ∈ KL.take i := Classical.byContradiction fun h => ht0 (by have := findI_neg.2 h; omega)
          have HS := Lib.hid (HFX.out.step X1.out X2.out (fun h _ => absurd hmt h))
          have q2 : decide (zt < 0) = false := by simpa using ht0
          clear hmt hzt hzi hm hz hzL hd hdz
          go_wp2_with fail
          refine HFI.out.mono ?_
          rintro e w9 ⟨rfl, rfl⟩
          go_wp2
          clear s0 s1 s2
          obtain ⟨⟨s0, s1, s2⟩, -⟩ := Q0.out.at (r := w.heap.size + 1) (a := .slice al m1 cl) (b := .slice (some ⟨bd, od, none⟩) m1 cd) (c := .slice ax m3 cx) (by simp)
          refine wp_region_held_drew (S := (fun w' => w'.cell? ⟨w.heap.size + 1, 0, none⟩ = some (.slice al m1 cl) ∧ w'.cell? ⟨w.heap.size + 1, 1, none⟩ = some (.slice (some ⟨bd, od, none⟩) m1 cd) ∧ w'.cell? ⟨w.heap.size + 1, 2, none⟩ = some (.slice ax m3 cx))) (by kernel_rfl) (by (try dsimp only); exact ⟨s0, s1, s2⟩) (fun hHeld => ?_)
          refine wpAnyH_take (i := 0) (v := ?_) rfl (by kernel_rfl) (by kernel_rfl) (by kernel_rfl) (fun _ _ _ h => h) (Or.inl ⟨by rfl, ?_⟩) (by assumption) ?_
          rotate_left
          · intro w hSw; (try dsimp only at hSw); go_simp <;> with_reducible rfl
          try simp only [Act.put, List.getElem_toArray, List.getElem_cons_zero, List.setIfInBounds_toArray, List.set_cons_zero, List.set_cons_succ]
          refine wpAnyH_take (i := 1) (v := ?_) rfl (by kernel_rfl) (by kernel_rfl) (by kernel_rfl) (fun _ _ _ h => h) (Or.inl ⟨by rfl, ?_⟩) (by assumption) ?_
          rotate_left
          · intro w hSw; (try dsimp only at hSw); go_simp <;> with_reducible rfl
          try simp only [Act.put, List.getElem_toArray, List.getElem_cons_succ, List.getElem_cons_zero, List.setIfInBounds_toArray, List.set_cons_zero, List.set_cons_succ]
          refine wpAnyH_take (i := 2) (v := ?_) rfl (by kernel_rfl) (by kernel_rfl) (by kernel_rfl) (fun _ _ _ h => h) (Or.inl ⟨by rfl, ?_⟩) (by assumption) ?_
          rotate_left
          · intro w hSw; (try dsimp only at hSw); go_simp <;> with_reducible rfl
          try simp only [Act.put, List.getElem_toArray, List.getElem_cons_succ, List.getElem_cons_zero, List.setIfInBounds_toArray, List.set_cons_zero, List.set_cons_succ]
          refine wpAnyH_take (i := 3) (v := ?_) rfl (by kernel_rfl) (by kernel_rfl) (by kernel_rfl) (fun _ _ _ h => h) (Or.inl ⟨by rfl, ?_⟩) (by assumption) ?_
          rotate_left
          · intro w hSw; (try dsimp only at hSw); go_simp <;> with_reducible rfl
          try simp only [Act.put, List.getElem_toArray, List.getElem_cons_succ, List.getElem_cons_zero, List.setIfInBounds_toArray, List.set_cons_zero, List.set_cons_succ]
          refine wpAnyH_take (i := 4) (v := ?_) rfl (by kernel_rfl) (by kernel_rfl) (by kernel_rfl) (fun _ _ _ h => h) (Or.inl ⟨by rfl, ?_⟩) (by assumption) ?_
          rotate_left
          · intro w hSw; (try dsimp only at hSw); go_simp <;> with_reducible rfl
          try simp only [Act.put, List.getElem_toArray, List.getElem_cons_succ, List.getElem_cons_zero, List.setIfInBounds_toArray, List.set_cons_zero, List.set_cons_succ]
          refine wpAnyH_take (i := 5) (v := ?_) rfl (by kernel_rfl) (by kernel_rfl) (by kernel_rfl) (fun _ _ _ h => h) (Or.inl ⟨by rfl, ?_⟩) (by assumption) ?_
          rotate_left
          · intro w hSw; (try dsimp only at hSw); go_simp <;> with_reducible rfl
          try simp only [Act.put, List.getElem_toArray, List.getElem_cons_succ, List.getElem_cons_zero, List.setIfInBounds_toArray, List.set_cons_zero, List.set_cons_succ]
          refine wpAnyH_take (i := 6) (v := ?_) rfl (by kernel_rfl) (by kernel_rfl) (by kernel_rfl) (fun _ _ _ h => h) (Or.inl ⟨by rfl, ?_⟩) (by assumption) ?_
          rotate_left
          · intro w hSw; (try dsimp only at hSw); go_simp <;> with_reducible rfl
          try simp only [Act.put, List.getElem_toArray, List.getElem_cons_succ, List.getElem_cons_zero, List.setIfInBounds_toArray, List.set_cons_zero, List.set_cons_succ]
          refine wpAnyH_ready (rs := [7]) (by kernel_rfl) (by simp) ?_
          refine AllReadyH.cons rfl (fun K hK => ?_) AllReadyH.nil
          go_simp
          (go_at_call 56; refine HF2.out.mono ?_; rintro e9 w9 ⟨rfl, rfl⟩)
          go_wp2_with fail
          refine hK.out _ _ (by (try dsimp only); exact ⟨s0, s1, s2⟩) (fun hHeld => ?_)
          clear hK K
          try simp only [Act.put, List.getElem_toArray, List.getElem_cons_succ, List.getElem_cons_zero, List.setIfInBounds_toArray, List.set_cons_zero, List.set_cons_succ]
          refine wpAnyH_take (i := 8) (v := ?_) rfl (by kernel_rfl) (by kernel_rfl) (by kernel_rfl) (fun _ _ _ h => h) (Or.inl ⟨by rfl, ?_⟩) (by assumption) ?_
          rotate_left
          · intro w hSw; (try dsimp only at hSw); go_simp <;> with_reducible rfl
          try simp only [Act.put, List.getElem_toArray, List.getElem_cons_succ, List.getElem_cons_zero, List.setIfInBounds_toArray, List.set_cons_zero, List.set_cons_succ]
          refine wpAnyH_take (i := 9) (v := ?_) rfl (by kernel_rfl) (by kernel_rfl) (by kernel_rfl) (fun _ _ _ h => h) (Or.inl ⟨by rfl, ?_⟩) (by assumption) ?_
          rotate_left
          · intro w hSw; (try dsimp only at hSw); go_simp <;> with_reducible rfl
          try simp only [Act.put, List.getElem_toArray, List.getElem_cons_succ, List.getElem_cons_zero, List.setIfInBounds_toArray, List.set_cons_zero, List.set_cons_succ]
          refine wpAnyH_take (i := 10) (v := ?_) rfl (by kernel_rfl) (by kernel_rfl) (by kernel_rfl) (fun _ _ _ h => h) (Or.inl ⟨by rfl, ?_⟩) (by assumption) ?_
          rotate_left
          · intro w hSw; (try dsimp only at hSw); go_simp <;> with_reducible rfl
          try simp only [Act.put, List.getElem_toArray, List.getElem_cons_succ, List.getElem_cons_zero, List.setIfInBounds_toArray, List.set_cons_zero, List.set_cons_succ]
          refine wpAnyH_take (i := 11) (v := undef) rfl (by kernel_rfl) (by kernel_rfl) (by kernel_rfl) (fun _ _ _ h => h) (Or.inr ⟨by rfl, rfl⟩) (by assumption) ?_
          try simp only [Act.put, List.getElem_toArray, List.getElem_cons_succ, List.getElem_cons_zero, List.setIfInBounds_toArray, List.set_cons_zero, List.set_cons_succ]
          refine wpAnyH_take (i := 12) (v := undef) rfl (by kernel_rfl) (by kernel_rfl) (by kernel_rfl) (fun _ _ _ h => h) (Or.inr ⟨by rfl, rfl⟩) (by assumption) ?_
          try simp only [Act.put, List.getElem_toArray, List.getElem_cons_succ, List.getElem_cons_zero, List.setIfInBounds_toArray, List.set_cons_zero, List.set_cons_succ]
          refine wpAnyH_take (i := 13) (v := undef) rfl (by kernel_rfl) (by kernel_rfl) (by kernel_rfl) (fun _ _ _ h => h) (Or.inr ⟨by rfl, rfl⟩) (by assumption) ?_
          try simp only [Act.put, List.getElem_toArray, List.getElem_cons_succ, List.getElem_cons_zero, List.setIfInBounds_toArray, List.set_cons_zero, List.set_cons_succ]
          refine wpAnyH_take (i := 14) (v := undef) rfl (by kernel_rfl) (by kernel_rfl) (by kernel_rfl) (fun _ _ _ h => h) (Or.inr ⟨by rfl, rfl⟩) (by assumption) ?_
          try simp only [Act.put, List.getElem_toArray, List.getElem_cons_succ, List.getElem_cons_zero, List.setIfInBounds_toArray, List.set_cons_zero, List.set_cons_succ]
          refine wpAnyH_take (i := 15) (v := undef) rfl (by kernel_rfl) (by kernel_rfl) (by kernel_rfl) (fun _ _ _ h => h) (Or.inr ⟨by rfl, rfl⟩) (by assumption) ?_
          try simp only [Act.put, List.getElem_toArray, List.getElem_cons_succ, List.getElem_cons_zero, List.setIfInBounds_toArray, List.set_cons_zero, List.set_cons_succ]
          refine wpAnyH_take (i := 16) (v := undef) rfl (by kernel_rfl) (by kernel_rfl) (by kernel_rfl) (fun _ _ _ h => h) (Or.inr ⟨by rfl, rfl⟩) (by assumption) ?_
          try simp only [Act.put, List.getElem_toArray, List.getElem_cons_succ, List.getElem_cons_zero, List.setIfInBounds_toArray, List.set_cons_zero, List.set_cons_succ]
          refine wpAnyH_take (i := 17) (v := undef) rfl (by kernel_rfl) (by kernel_rfl) (by kernel_rfl) (fun _ _ _ h => h) (Or.inr ⟨by rfl, rfl⟩) (by assumption) ?_
          try simp only [Act.put, List.getElem_toArray, List.getElem_cons_succ, List.getElem_cons_zero, List.setIfInBounds_toArray, List.set_cons_zero, List.set_cons_succ]
          refine wpAnyH_take (i := 18) (v := undef) rfl (by kernel_rfl) (by kernel_rfl) (by kernel_rfl) (fun _ _ _ h => h) (Or.inr ⟨by rfl, rfl⟩) (by assumption) ?_
          try simp only [Act.put, List.getElem_toArray, List.getElem_cons_succ, List.getElem_cons_zero, List.setIfInBounds_toArray, List.set_cons_zero, List.set_cons_succ]
          refine wpAnyH_take (i := 19) (v := undef) rfl (by kernel_rfl) (by kernel_rfl) (by kernel_rfl) (fun _ _ _ h => h) (Or.inr ⟨by rfl, rfl⟩) (by assumption) ?_
          try simp only [Act.put, List.getElem_toArray, List.getElem_cons_succ, List.getElem_cons_zero, List.setIfInBounds_toArray, List.set_cons_zero, List.set_cons_succ]
          refine wpAnyH_take (i := 20) (v := undef) rfl (by kernel_rfl) (by kernel_rfl) (by kernel_rfl) (fun _ _ _ h => h) (Or.inr ⟨by rfl, rfl⟩) (by assumption) ?_
          try simp only [Act.put, List.getElem_toArray, List.getElem_cons_succ, List.getElem_cons_zero, List.setIfInBounds_toArray, List.set_cons_zero, List.set_cons_succ]
          refine wpAnyH_take (i := 21) (v := undef) rfl (by kernel_rfl) (by kernel_rfl) (by kernel_rfl) (fun _ _ _ h => h) (Or.inr ⟨by rfl, rfl⟩) (by assumption) ?_
          try simp only [Act.put, List.getElem_toArray, List.getElem_cons_succ, List.getElem_cons_zero, List.setIfInBounds_toArray, List.set_cons_zero, List.set_cons_succ]
          refine wpAnyH_take (i := 22) (v := undef) rfl (by kernel_rfl) (by kernel_rfl) (by kernel_rfl) (fun _ _ _ h => h) (Or.inr ⟨by rfl, rfl⟩) (by assumption) ?_
          try simp only [Act.put, List.getElem_toArray, List.getElem_cons_succ, List.getElem_cons_zero, List.setIfInBounds_toArray, List.set_cons_zero, List.set_cons_succ]
          refine wpAnyH_take (i := 23) (v := ?_) rfl (by kernel_rfl) (by kernel_rfl) (by kernel_rfl) (fun _ _ _ h => h) (Or.inl ⟨by rfl, ?_⟩) (by assumption) ?_
          rotate_left
          · intro w hSw; (try dsimp only at hSw); go_simp <;> with_reducible rfl
          try simp only [Act.put, List.getElem_toArray, List.getElem_cons_succ, List.getElem_cons_zero, List.setIfInBounds_toArray, List.set_cons_zero, List.set_cons_succ]
          refine wpAnyH_done (by kernel_rfl) ?_ _
          go_wp2
          go_roundw
          case rel => exact ⟨i + 1, by omega, by go_num, HS, Q0⟩
          case measure => simp [intOf]; omega
        have hmt : n ∉ KL.take i := findI_neg.1 (by rw [← hzt]; exact ht0)
        have q2 : decide (zt < 0) = true := by simpa using ht0
        have w1 : wrap64 (d - 1) = d - 1 := by unfold wrap64; omega
        have w2 : IntKind.i64.wrap (d - 1) = d - 1 := IntWalk.i64_in _ (by omega)
        by_cases hin : 0 ≤ v ∧ v < d
        case neg =>
          obtain rfl : fb = false := HNV.out i n v X1.out X2.out hmt hm (by rw [hdz]; exact hin)
          obtain ⟨rfl, rfl, rfl⟩ := HNO.out (by simp)
          have HIN : Hid (inB v 0 (d - 1) = false) := Lib.hid (by
            cases h : inB v 0 (d - 1) with
            | false => rfl
            | true => exact absurd (inB_true.1 h) (by omega))
          clear hmt hzt hzi hm hz hzL hd hdz hin
          go_wp2_with fail
          refine HFI.out.mono ?_
          rintro e w9 ⟨rfl, rfl⟩
          go_wp2
          clear s0 s1 s2
          obtain ⟨⟨s0, s1, s2⟩, -⟩ := Q0.out.at (r := w.heap.size + 1) (a := .slice al m1 cl) (b := .slice (some ⟨bd, od, none⟩) m1 cd) (c := .slice ax m3 cx) (by simp)
          refine wp_region_held_drew (S := (fun w' => w'.cell? ⟨w.heap.size + 1, 0, none⟩ = some (.slice al m1 cl) ∧ w'.cell? ⟨w.heap.size + 1, 1, none⟩ = some (.slice (some ⟨bd, od, none⟩) m1 cd) ∧ w'.cell? ⟨w.heap.size + 1, 2, none⟩ = some (.slice ax m3 cx) ∧ w'.cell? ⟨bv, ov + i, none⟩ = some (.int .i64 v) ∧ w'.cell? ⟨bd, od + z, none⟩ = some (.int .i64 d))) (by kernel_rfl) (by (try dsimp only); exact ⟨s0, s1, s2, ve, de⟩) (fun hHeld => ?_)
          refine wpAnyH_take (i := 0) (v := ?_) rfl (by kernel_rfl) (by kernel_rfl) (by kernel_rfl) (fun _ _ _ h => h) (Or.inl ⟨by rfl, ?_⟩) (by assumption) ?_
          rotate_left
          · intro w hSw; (try dsimp only at hSw); go_simp <;> with_reducible rfl
          try simp only [Act.put, List.getElem_toArray, List.getElem_cons_zero, List.setIfInBounds_toArray, List.set_cons_zero, List.set_cons_succ]
          refine wpAnyH_take (i := 1) (v := ?_) rfl (by kernel_rfl) (by kernel_rfl) (by kernel_rfl) (fun _ _ _ h => h) (Or.inl ⟨by rfl, ?_⟩) (by assumption) ?_
          rotate_left
          · intro w hSw; (try dsimp only at hSw); go_simp <;> with_reducible rfl
          try simp only [Act.put, List.getElem_toArray, List.getElem_cons_succ, List.getElem_cons_zero, List.setIfInBounds_toArray, List.set_cons_zero, List.set_cons_succ]
          refine wpAnyH_take (i := 2) (v := ?_) rfl (by kernel_rfl) (by kernel_rfl) (by kernel_rfl) (fun _ _ _ h => h) (Or.inl ⟨by rfl, ?_⟩) (by assumption) ?_
          rotate_left
          · intro w hSw; (try dsimp only at hSw); go_simp <;> with_reducible rfl
          try simp only [Act.put, List.getElem_toArray, List.getElem_cons_succ, List.getElem_cons_zero, List.setIfInBounds_toArray, List.set_cons_zero, List.set_cons_succ]
          refine wpAnyH_take (i := 3) (v := ?_) rfl (by kernel_rfl) (by kernel_rfl) (by kernel_rfl) (fun _ _ _ h => h) (Or.inl ⟨by rfl, ?_⟩) (by assumption) ?_
          rotate_left
          · intro w hSw; (try dsimp only at hSw); go_simp <;> with_reducible rfl
          try simp only [Act.put, List.getElem_toArray, List.getElem_cons_succ, List.getElem_cons_zero, List.setIfInBounds_toArray, List.set_cons_zero, List.set_cons_succ]
          refine wpAnyH_take (i := 4) (v := ?_) rfl (by kernel_rfl) (by kernel_rfl) (by kernel_rfl) (fun _ _ _ h => h) (Or.inl ⟨by rfl, ?_⟩) (by assumption) ?_
          rotate_left
          · intro w hSw; (try dsimp only at hSw); go_simp <;> with_reducible rfl
          try simp only [Act.put, List.getElem_toArray, List.getElem_cons_succ, List.getElem_cons_zero, List.setIfInBounds_toArray, List.set_cons_zero, List.set_cons_succ]
          refine wpAnyH_take (i := 5) (v := ?_) rfl (by kernel_rfl) (by kernel_rfl) (by kernel_rfl) (fun _ _ _ h => h) (Or.inl ⟨by rfl, ?_⟩) (by assumption) ?_
          rotate_left
          · intro w hSw; (try dsimp only at hSw); go_simp <;> with_reducible rfl
          try simp only [Act.put, List.getElem_toArray, List.getElem_cons_succ, List.getElem_cons_zero, List.setIfInBounds_toArray, List.set_cons_zero, List.set_cons_succ]
          refine wpAnyH_take (i := 6) (v := ?_) rfl (by kernel_rfl) (by kernel_rfl) (by kernel_rfl) (fun _ _ _ h => h) (Or.inl ⟨by rfl, ?_⟩) (by assumption) ?_
          rotate_left
          · intro w hSw; (try dsimp only at hSw); go_simp <;> with_reducible rfl
          try simp only [Act.put, List.getElem_toArray, List.getElem_cons_succ, List.getElem_cons_zero, List.setIfInBounds_toArray, List.set_cons_zero, List.set_cons_succ]
          refine wpAnyH_ready (rs := [7]) (by kernel_rfl) (by simp) ?_
          refine AllReadyH.cons rfl (fun K hK => ?_) AllReadyH.nil
          go_simp
          (go_at_call 56; refine HF2.out.mono ?_; rintro e9 w9 ⟨rfl, rfl⟩)
          go_wp2_with fail
          refine hK.out _ _ (by (try dsimp only); exact ⟨s0, s1, s2, ve, de⟩) (fun hHeld => ?_)
          clear hK K
          try simp only [Act.put, List.getElem_toArray, List.getElem_cons_succ, List.getElem_cons_zero, List.setIfInBounds_toArray, List.set_cons_zero, List.set_cons_succ]
          refine wpAnyH_take (i := 8) (v := ?_) rfl (by kernel_rfl) (by kernel_rfl) (by kernel_rfl) (fun _ _ _ h => h) (Or.inl ⟨by rfl, ?_⟩) (by assumption) ?_
          rotate_left
          · intro w hSw; (try dsimp only at hSw); go_simp <;> with_reducible rfl
          try simp only [Act.put, List.getElem_toArray, List.getElem_cons_succ, List.getElem_cons_zero, List.setIfInBounds_toArray, List.set_cons_zero, List.set_cons_succ]
          refine wpAnyH_take (i := 9) (v := ?_) rfl (by kernel_rfl) (by kernel_rfl) (by kernel_rfl) (fun _ _ _ h => h) (Or.inl ⟨by rfl, ?_⟩) (by assumption) ?_
          rotate_left
          · intro w hSw; (try dsimp only at hSw); go_simp <;> with_reducible rfl
          try simp only [Act.put, List.getElem_toArray, List.getElem_cons_succ, List.getElem_cons_zero, List.setIfInBounds_toArray, List.set_cons_zero, List.set_cons_succ]
          refine wpAnyH_take (i := 10) (v := ?_) rfl (by kernel_rfl) (by kernel_rfl) (by kernel_rfl) (fun _ _ _ h => h) (Or.inl ⟨by rfl, ?_⟩) (by assumption) ?_
          rotate_left
          · intro w hSw; (try dsimp only at hSw); go_simp <;> with_reducible rfl
          try simp only [Act.put, List.getElem_toArray, List.getElem_cons_succ, List.getElem_cons_zero, List.setIfInBounds_toArray, List.set_cons_zero, List.set_cons_succ]
          refine wpAnyH_take (i := 11) (v := ?_) rfl (by kernel_rfl) (by kernel_rfl) (by kernel_rfl) (fun _ _ _ h => h) (Or.inl ⟨by rfl, ?_⟩) (by assumption) ?_
          rotate_left
          · intro w hSw; (try dsimp only at hSw); go_simp <;> with_reducible rfl
          try simp only [Act.put, List.getElem_toArray, List.getElem_cons_succ, List.getElem_cons_zero, List.setIfInBounds_toArray, List.set_cons_zero, List.set_cons_succ]
          refine wpAnyH_take (i := 12) (v := ?_) rfl (by kernel_rfl) (by kernel_rfl) (by kernel_rfl) (fun _ _ _ h => h) (Or.inl ⟨by rfl, ?_⟩) (by assumption) ?_
          rotate_left
          · intro w hSw; (try dsimp only at hSw); go_simp <;> with_reducible rfl
          try simp only [Act.put, List.getElem_toArray, List.getElem_cons_succ, List.getElem_cons_zero, List.setIfInBounds_toArray, List.set_cons_zero, List.set_cons_succ]
          refine wpAnyH_take (i := 13) (v := ?_) rfl (by kernel_rfl) (by kernel_rfl) (by kernel_rfl) (fun _ _ _ h => h) (Or.inl ⟨by rfl, ?_⟩) (by assumption) ?_
          rotate_left
          · intro w hSw; (try dsimp only at hSw); go_simp <;> with_reducible rfl
          try simp only [Act.put, List.getElem_toArray, List.getElem_cons_succ, List.getElem_cons_zero, List.setIfInBounds_toArray, List.set_cons_zero, List.set_cons_succ]
          refine wpAnyH_take (i := 14) (v := ?_) rfl (by kernel_rfl) (by kernel_rfl) (by kernel_rfl) (fun _ _ _ h => h) (Or.inl ⟨by rfl, ?_⟩) (by assumption) ?_
          rotate_left
          · intro w hSw; (try dsimp only at hSw); go_simp <;> with_reducible rfl
          try simp only [Act.put, List.getElem_toArray, List.getElem_cons_succ, List.getElem_cons_zero, List.setIfInBounds_toArray, List.set_cons_zero, List.set_cons_succ]
          refine wpAnyH_take (i := 15) (v := ?_) rfl (by kernel_rfl) (by kernel_rfl) (by kernel_rfl) (fun _ _ _ h => h) (Or.inl ⟨by rfl, ?_⟩) (by assumption) ?_
          rotate_left
          · intro w hSw; (try dsimp only at hSw); go_simp <;> with_reducible rfl
          try simp only [Act.put, List.getElem_toArray, List.getElem_cons_succ, List.getElem_cons_zero, List.setIfInBounds_toArray, List.set_cons_zero, List.set_cons_succ]
          refine wpAnyH_take (i := 16) (v := ?_) rfl (by kernel_rfl) (by kernel_rfl) (by kernel_rfl) (fun _ _ _ h => h) (Or.inl ⟨by rfl, ?_⟩) (by assumption) ?_
          rotate_left
          · intro w hSw; (try dsimp only at hSw); go_simp <;> with_reducible rfl
          try simp only [Act.put, List.getElem_toArray, List.getElem_cons_succ, List.getElem_cons_zero, List.setIfInBounds_toArray, List.set_cons_zero, List.set_cons_succ]
          refine wpAnyH_take (i := 17) (v := ?_) rfl (by kernel_rfl) (by kernel_rfl) (by kernel_rfl) (fun _ _ _ h => h) (Or.inl ⟨by rfl, ?_⟩) (by assumption) ?_
          rotate_left
          · intro w hSw; (try dsimp only at hSw); go_simp <;> with_reducible rfl
          try simp only [Act.put, List.getElem_toArray, List.getElem_cons_succ, List.getElem_cons_zero, List.setIfInBounds_toArray, List.set_cons_zero, List.set_cons_succ]
          refine wpAnyH_take (i := 18) (v := ?_) rfl (by kernel_rfl) (by kernel_rfl) (by kernel_rfl) (fun _ _ _ h => h) (Or.inl ⟨by rfl, ?_⟩) (by assumption) ?_
          rotate_left
          · intro w hSw; (try dsimp only at hSw); go_simp <;> with_reducible rfl
          try simp only [Act.put, List.getElem_toArray, List.getElem_cons_succ, List.getElem_cons_zero, List.setIfInBounds_toArray, List.set_cons_zero, List.set_cons_succ]
          refine wpAnyH_take (i := 19) (v := ?_) rfl (by kernel_rfl) (by kernel_rfl) (by kernel_rfl) (fun _ _ _ h => h) (Or.inl ⟨by rfl, ?_⟩) (by assumption) ?_
          rotate_left
          · intro w hSw; (try dsimp only at hSw); go_simp <;> with_reducible rfl
          try simp only [Act.put, List.getElem_toArray, List.getElem_cons_succ, List.getElem_cons_zero, List.setIfInBounds_toArray, List.set_cons_zero, List.set_cons_succ]
          refine wpAnyH_take (i := 20) (v := ?_) rfl (by kernel_rfl) (by kernel_rfl) (by kernel_rfl) (fun _ _ _ h => h) (Or.inl ⟨by rfl, ?_⟩) (by assumption) ?_
          rotate_left
          · intro w hSw; (try dsimp only at hSw); go_simp <;> with_reducible rfl
          try simp only [Act.put, List.getElem_toArray, List.getElem_cons_succ, List.getElem_cons_zero, List.setIfInBounds_toArray, List.set_cons_zero, List.set_cons_succ]
          refine wpAnyH_ready (rs := [21]) (by kernel_rfl) (by simp) ?_
          refine AllReadyH.cons rfl (fun K hK => ?_) AllReadyH.nil
          go_simp
          (go_at_call 58; refine (l01_in v 0 (d - 1) _).mono ?_; rintro e9 w9 ⟨rfl, rfl⟩; rw [HIN.out])
          go_wp2_with fail
          refine hK.out _ _ (by (try dsimp only); exact ⟨s0, s1, s2, ve, de⟩) (fun hHeld => ?_)
          clear hK K
          try simp only [Act.put, List.getElem_toArray, List.getElem_cons_succ, List.getElem_cons_zero, List.setIfInBounds_toArray, List.set_cons_zero, List.set_cons_succ]
          refine wpAnyH_take (i := 22) (v := ?_) rfl (by kernel_rfl) (by kernel_rfl) (by kernel_rfl) (fun _ _ _ h => h) (Or.inl ⟨by rfl, ?_⟩) (by assumption) ?_
          rotate_left
          · intro w hSw; (try dsimp only at hSw); go_simp <;> with_reducible rfl
          try simp only [Act.put, List.getElem_toArray, List.getElem_cons_succ, List.getElem_cons_zero, List.setIfInBounds_toArray, List.set_cons_zero, List.set_cons_succ]
          refine wpAnyH_take (i := 23) (v := ?_) rfl (by kernel_rfl) (by kernel_rfl) (by kernel_rfl) (fun _ _ _ h => h) (Or.inl ⟨by rfl, ?_⟩) (by assumption) ?_
          rotate_left
          · intro w hSw; (try dsimp only at hSw); go_simp <;> with_reducible rfl
          try simp only [Act.put, List.getElem_toArray, List.getElem_cons_succ, List.getElem_cons_zero, List.setIfInBounds_toArray, List.set_cons_zero, List.set_cons_succ]
          refine wpAnyH_done (by kernel_rfl) ?_ _
          obtain ⟨⟨t0, t1, t2⟩, f0, f1, f2⟩ := HR.out.at (r := w.heap.size + 1 + 1) (a := nilV) (b := nilV) (c := nilV) (by simp)
          go_wp2
          refine bodyPost_ret (v := .tuple #[tenV nilV nilV nilV, .bool false]) (by simp [results, Try.results29, go_sem, t0, t1, t2]) rfl ?_
          exact NewTen2.nils (((HR.out.bel.setCell (by simp; omega) _).setCell (by simp; omega) _).setCell (by simp; omega) _).drew
        have HIN : Hid (inB v 0 (d - 1) = true) := Lib.hid (inB_true.2 (by omega))
        have HS := Lib.hid (HFX.out.step X1.out X2.out (fun _ _ => by rw [hdz]; exact hin))
        clear hmt hzt hzi hm hz hzL hd hdz hin
        go_wp2_with fail
        refine HFI.out.mono ?_
        rintro e w9 ⟨rfl, rfl⟩
        go_wp2
        clear s0 s1 s2
        obtain ⟨⟨s0, s1, s2⟩, -⟩ := Q0.out.at (r := w.heap.size + 1) (a := .slice al m1 cl) (b := .slice (some ⟨bd, od, none⟩) m1 cd) (c := .slice ax m3 cx) (by simp)
        refine wp_region_held_drew (S := (fun w' => w'.cell? ⟨w.heap.size + 1, 0, none⟩ = some (.slice al m1 cl) ∧ w'.cell? ⟨w.heap.size + 1, 1, none⟩ = some (.slice (some ⟨bd, od, none⟩) m1 cd) ∧ w'.cell? ⟨w.heap.size + 1, 2, none⟩ = some (.slice ax m3 cx) ∧ w'.cell? ⟨bv, ov + i, none⟩ = some (.int .i64 v) ∧ w'.cell? ⟨bd, od + z, none⟩ = some (.int .i64 d))) (by kernel_rfl) (by (try dsimp only); exact ⟨s0, s1, s2, ve, de⟩) (fun hHeld => ?_)
        refine wpAnyH_take (i := 0) (v := ?_) rfl (by kernel_rfl) (by kernel_rfl) (by kernel_rfl) (fun _ _ _ h => h) (Or.inl ⟨by rfl, ?_⟩) (by assumption) ?_
        rotate_left
        · intro w hSw; (try dsimp only at hSw); go_simp <;> with_reducible rfl
        try simp only [Act.put, List.getElem_toArray, List.getElem_cons_zero, List.setIfInBounds_toArray, List.set_cons_zero, List.set_cons_succ]
        refine wpAnyH_take (i := 1) (v := ?_) rfl (by kernel_rfl) (by kernel_rfl) (by kernel_rfl) (fun _ _ _ h => h) (Or.inl ⟨by rfl, ?_⟩) (by assumption) ?_
        rotate_left
        · intro w hSw; (try dsimp only at hSw); go_simp <;> with_reducible rfl
        try simp only [Act.put, List.getElem_toArray, List.getElem_cons_succ, List.getElem_cons_zero, List.setIfInBounds_toArray, List.set_cons_zero, List.set_cons_succ]
        refine wpAnyH_take (i := 2) (v := ?_) rfl (by kernel_rfl) (by kernel_rfl) (by kernel_rfl) (fun _ _ _ h => h) (Or.inl ⟨by rfl, ?_⟩) (by assumption) ?_
        rotate_left
        · intro w hSw; (try dsimp only at hSw); go_simp <;> with_reducible rfl
        try simp only [Act.put, List.getElem_toArray, List.getElem_cons_succ, List.getElem_cons_zero, List.setIfInBounds_toArray, List.set_cons_zero, List.set_cons_succ]
        refine wpAnyH_take (i := 3) (v := ?_) rfl (by kernel_rfl) (by kernel_rfl) (by kernel_rfl) (fun _ _ _ h => h) (Or.inl ⟨by rfl, ?_⟩) (by assumption) ?_
        rotate_left
        · intro w hSw; (try dsimp only at hSw); go_simp <;> with_reducible rfl
        try simp only [Act.put, List.getElem_toArray, List.getElem_cons_succ, List.getElem_cons_zero, List.setIfInBounds_toArray, List.set_cons_zero, List.set_cons_succ]
        refine wpAnyH_take (i := 4) (v := ?_) rfl (by kernel_rfl) (by kernel_rfl) (by kernel_rfl) (fun _ _ _ h => h) (Or.inl ⟨by rfl, ?_⟩) (by assumption) ?_
        rotate_left
        · intro w hSw; (try dsimp only at hSw); go_simp <;> with_reducible rfl
        try simp only [Act.put, List.getElem_toArray, List.getElem_cons_succ, List.getElem_cons_zero, List.setIfInBounds_toArray, List.set_cons_zero, List.set_cons_succ]
        refine wpAnyH_take (i := 5) (v := ?_) rfl (by kernel_rfl) (by kernel_rfl) (by kernel_rfl) (fun _ _ _ h => h) (Or.inl ⟨by rfl, ?_⟩) (by assumption) ?_
        rotate_left
        · intro w hSw; (try dsimp only at hSw); go_simp <;> with_reducible rfl
        try simp only [Act.put, List.getElem_toArray, List.getElem_cons_succ, List.getElem_cons_zero, List.setIfInBounds_toArray, List.set_cons_zero, List.set_cons_succ]
        refine wpAnyH_take (i := 6) (v := ?_) rfl (by kernel_rfl) (by kernel_rfl) (by kernel_rfl) (fun _ _ _ h => h) (Or.inl ⟨by rfl, ?_⟩) (by assumption) ?_
        rotate_left
        · intro w hSw; (try dsimp only at hSw); go_simp <;> with_reducible rfl
        try simp only [Act.put, List.getElem_toArray, List.getElem_cons_succ, List.getElem_cons_zero, List.setIfInBounds_toArray, List.set_cons_zero, List.set_cons_succ]
        refine wpAnyH_ready (rs := [7]) (by kernel_rfl) (by simp) ?_
        refine AllReadyH.cons rfl (fun K hK => ?_) AllReadyH.nil
        go_simp
        (go_at_call 56; refine HF2.out.mono ?_; rintro e9 w9 ⟨rfl, rfl⟩)
        go_wp2_with fail
        refine hK.out _ _ (by (try dsimp only); exact ⟨s0, s1, s2, ve, de⟩) (fun hHeld => ?_)
        clear hK K
        try simp only [Act.put, List.getElem_toArray, List.getElem_cons_succ, List.getElem_cons_zero, List.setIfInBounds_toArray, List.set_cons_zero, List.set_cons_succ]
        refine wpAnyH_take (i := 8) (v := ?_) rfl (by kernel_rfl) (by kernel_rfl) (by kernel_rfl) (fun _ _ _ h => h) (Or.inl ⟨by rfl, ?_⟩) (by assumption) ?_
        rotate_left
        · intro w hSw; (try dsimp only at hSw); go_simp <;> with_reducible rfl
        try simp only [Act.put, List.getElem_toArray, List.getElem_cons_succ, List.getElem_cons_zero, List.setIfInBounds_toArray, List.set_cons_zero, List.set_cons_succ]
        refine wpAnyH_take (i := 9) (v := ?_) rfl (by kernel_rfl) (by kernel_rfl) (by kernel_rfl) (fun _ _ _ h => h) (Or.inl ⟨by rfl, ?_⟩) (by assumption) ?_
        rotate_left
        · intro w hSw; (try dsimp only at hSw); go_simp <;> with_reducible rfl
        try simp only [Act.put, List.getElem_toArray, List.getElem_cons_succ, List.getElem_cons_zero, List.setIfInBounds_toArray, List.set_cons_zero, List.set_cons_succ]
        refine wpAnyH_take (i := 10) (v := ?_) rfl (by kernel_rfl) (by kernel_rfl) (by kernel_rfl) (fun _ _ _ h => h) (Or.inl ⟨by rfl, ?_⟩) (by assumption) ?_
        rotate_left
        · intro w hSw; (try dsimp only at hSw); go_simp <;> with_reducible rfl
        try simp only [Act.put, List.getElem_toArray, List.getElem_cons_succ, List.getElem_cons_zero, List.setIfInBounds_toArray, List.set_cons_zero, List.set_cons_succ]
        refine wpAnyH_take (i := 11) (v := ?_) rfl (by kernel_rfl) (by kernel_rfl) (by kernel_rfl) (fun _ _ _ h => h) (Or.inl ⟨by rfl, ?_⟩) (by assumption) ?_
        rotate_left
        · intro w hSw; (try dsimp only at hSw); go_simp <;> with_reducible rfl
        try simp only [Act.put, List.getElem_toArray, List.getElem_cons_succ, List.getElem_cons_zero, List.setIfInBounds_toArray, List.set_cons_zero, List.set_cons_succ]
        refine wpAnyH_take (i := 12) (v := ?_) rfl (by kernel_rfl) (by kernel_rfl) (by kernel_rfl) (fun _ _ _ h => h) (Or.inl ⟨by rfl, ?_⟩) (by assumption) ?_
        rotate_left
        · intro w hSw; (try dsimp only at hSw); go_simp <;> with_reducible rfl
        try simp only [Act.put, List.getElem_toArray, List.getElem_cons_succ, List.getElem_cons_zero, List.setIfInBounds_toArray, List.set_cons_zero, List.set_cons_succ]
        refine wpAnyH_take (i := 13) (v := ?_) rfl (by kernel_rfl) (by kernel_rfl) (by kernel_rfl) (fun _ _ _ h => h) (Or.inl ⟨by rfl, ?_⟩) (by assumption) ?_
        rotate_left
        · intro w hSw; (try dsimp only at hSw); go_simp <;> with_reducible rfl
        try simp only [Act.put, List.getElem_toArray, List.getElem_cons_succ, List.getElem_cons_zero, List.setIfInBounds_toArray, List.set_cons_zero, List.set_cons_succ]
        refine wpAnyH_take (i := 14) (v := ?_) rfl (by kernel_rfl) (by kernel_rfl) (by kernel_rfl) (fun _ _ _ h => h) (Or.inl ⟨by rfl, ?_⟩) (by assumption) ?_
        rotate_left
        · intro w hSw; (try dsimp only at hSw); go_simp <;> with_reducible rfl
        try simp only [Act.put, List.getElem_toArray, List.getElem_cons_succ, List.getElem_cons_zero, List.setIfInBounds_toArray, List.set_cons_zero, List.set_cons_succ]
        refine wpAnyH_take (i := 15) (v := ?_) rfl (by kernel_rfl) (by kernel_rfl) (by kernel_rfl) (fun _ _ _ h => h) (Or.inl ⟨by rfl, ?_⟩) (by assumption) ?_
        rotate_left
        · intro w hSw; (try dsimp only at hSw); go_simp <;> with_reducible rfl
        try simp only [Act.put, List.getElem_toArray, List.getElem_cons_succ, List.getElem_cons_zero, List.setIfInBounds_toArray, List.set_cons_zero, List.set_cons_succ]
        refine wpAnyH_take (i := 16) (v := ?_) rfl (by kernel_rfl) (by kernel_rfl) (by kernel_rfl) (fun _ _ _ h => h) (Or.inl ⟨by rfl, ?_⟩) (by assumption) ?_
        rotate_left
        · intro w hSw; (try dsimp only at hSw); go_simp <;> with_reducible rfl
        try simp only [Act.put, List.getElem_toArray, List.getElem_cons_succ, List.getElem_cons_zero, List.setIfInBounds_toArray, List.set_cons_zero, List.set_cons_succ]
        refine wpAnyH_take (i := 17) (v := ?_) rfl (by kernel_rfl) (by kernel_rfl) (by kernel_rfl) (fun _ _ _ h => h) (Or.inl ⟨by rfl, ?_⟩) (by assumption) ?_
        rotate_left
        · intro w hSw; (try dsimp only at hSw); go_simp <;> with_reducible rfl
        try simp only [Act.put, List.getElem_toArray, List.getElem_cons_succ, List.getElem_cons_zero, List.setIfInBounds_toArray, List.set_cons_zero, List.set_cons_succ]
        refine wpAnyH_take (i := 18) (v := ?_) rfl (by kernel_rfl) (by kernel_rfl) (by kernel_rfl) (fun _ _ _ h => h) (Or.inl ⟨by rfl, ?_⟩) (by assumption) ?_
        rotate_left
        · intro w hSw; (try dsimp only at hSw); go_simp <;> with_reducible rfl
        try simp only [Act.put, List.getElem_toArray, List.getElem_cons_succ, List.getElem_cons_zero, List.setIfInBounds_toArray, List.set_cons_zero, List.set_cons_succ]
        refine wpAnyH_take (i := 19) (v := ?_) rfl (by kernel_rfl) (by kernel_rfl) (by kernel_rfl) (fun _ _ _ h => h) (Or.inl ⟨by rfl, ?_⟩) (by assumption) ?_
        rotate_left
        · intro w hSw; (try dsimp only at hSw); go_simp <;> with_reducible rfl
        try simp only [Act.put, List.getElem_toArray, List.getElem_cons_succ, List.getElem_cons_zero, List.setIfInBounds_toArray, List.set_cons_zero, List.set_cons_succ]
        refine wpAnyH_take (i := 20) (v := ?_) rfl (by kernel_rfl) (by kernel_rfl) (by kernel_rfl) (fun _ _ _ h => h) (Or.inl ⟨by rfl, ?_⟩) (by assumption) ?_
        rotate_left
        · intro w hSw; (try dsimp only at hSw); go_simp <;> with_reducible rfl
        try simp only [Act.put, List.getElem_toArray, List.getElem_cons_succ, List.getElem_cons_zero, List.setIfInBounds_toArray, List.set_cons_zero, List.set_cons_succ]
        refine wpAnyH_ready (rs := [21]) (by kernel_rfl) (by simp) ?_
        refine AllReadyH.cons rfl (fun K hK => ?_) AllReadyH.nil
        go_simp
        (go_at_call 58; refine (l01_in v 0 (d - 1) _).mono ?_; rintro e9 w9 ⟨rfl, rfl⟩; rw [HIN.out])
        go_wp2_with fail
        refine hK.out _ _ (by (try dsimp only); exact ⟨s0, s1, s2, ve, de⟩) (fun hHeld => ?_)
        clear hK K
        try simp only [Act.put, List.getElem_toArray, List.getElem_cons_succ, List.getElem_cons_zero, List.setIfInBounds_toArray, List.set_cons_zero, List.set_cons_succ]
        refine wpAnyH_take (i := 22) (v := ?_) rfl (by kernel_rfl) (by kernel_rfl) (by kernel_rfl) (fun _ _ _ h => h) (Or.inl ⟨by rfl, ?_⟩) (by assumption) ?_
        rotate_left
        · intro w hSw; (try dsimp only at hSw); go_simp <;> with_reducible rfl
        try simp only [Act.put, List.getElem_toArray, List.getElem_cons_succ, List.getElem_cons_zero, List.setIfInBounds_toArray, List.set_cons_zero, List.set_cons_succ]
        refine wpAnyH_take (i := 23) (v := ?_) rfl (by kernel_rfl) (by kernel_rfl) (by kernel_rfl) (fun _ _ _ h => h) (Or.inl ⟨by rfl, ?_⟩) (by assumption) ?_
        rotate_left
        · intro w hSw; (try dsimp only at hSw); go_simp <;> with_reducible rfl
        try simp only [Act.put, List.getElem_toArray, List.getElem_cons_succ, List.getElem_cons_zero, List.setIfInBounds_toArray, List.set_cons_zero, List.set_cons_succ]
        refine wpAnyH_done (by kernel_rfl) ?_ _
        go_wp2
        go_roundw
        case rel => exact ⟨i + 1, by omega, by go_num, HS, Q0⟩
        case measure => simp [intOf]; omega
    · obtain rfl : i = mk := by omega
      obtain rfl : fb = true := HYS.out HFX.out
      have HY3 := Lib.hid (HYES.out (by simp))
      have HQ := Lib.hid (HSL.out rfl)
      obtain ⟨⟨r0, r1, r2⟩, -⟩ := HR.out.at (r := w.heap.size) (a := .int .i64 k) (b := .int .i64 p) (c := .int .i64 q) (by simp)
      obtain ⟨⟨s0, s1, s2⟩, -⟩ := HR.out.at (r := w.heap.size + 1) (a := .slice al m1 cl) (b := .slice ad m1 cd) (c := .slice ax m3 cx) (by simp)
      clear HSL
      go_wp2_with fail
      refine (HQ.out _ HR.out.bel).mono ?_
      clear r0 r1 r2 s0 s1 s2 HQ
      rintro e w5 ⟨l', d', x', rfl, ho, hb⟩
      have R5 := Lib.hid (HR.out.step hb)
      obtain ⟨a1, c1, rfl, -⟩ := ints_form ho.rows.1.rd
      obtain ⟨a2, c2, rfl, -⟩ := ints_form ho.rows.2.1.rd
      obtain ⟨a3, c3, rfl, -⟩ := ints_form ho.rows.2.2.rd
      have lt1 := (HR.out.bx (w.heap.size + 1 + 1, nilV, nilV, nilV) (by simp)).lt
      have hz1 := HR.out.bel.size
      rw [← HY3.out.1, ← HY3.out.2.1, show fixX (widthI k q).toNat (cK KL VL) L D X = zx from HY3.out.2.2.symm] at ho ⊢
      obtain ⟨q1, hq1⟩ : ∃ m, m = List.length (zl) := ⟨_, rfl⟩
      obtain ⟨q2, hq2⟩ : ∃ m, m = List.length (zd) := ⟨_, rfl⟩
      obtain ⟨q3, hq3⟩ : ∃ m, m = List.length (zx) := ⟨_, rfl⟩
      rw [← hq1, ← hq2, ← hq3] at ho ⊢
      have HO := Lib.hid (ho.set3 lt1 (.slice a1 q1 c1) (.slice a2 q2 c2) (.slice a3 q3 c3))
      clear hb ho hq1 hq2 hq3
      obtain ⟨⟨t0, t1, t2⟩, f0, f1, f2⟩ := R5.out.at (r := w.heap.size + 1 + 1) (a := nilV) (b := nilV) (c := nilV) (by simp)
      go_wp2
      refine bodyPost_ret (v := .tuple #[tenV (.slice a1 q1 c1) (.slice a2 q2 c2) (.slice a3 q3 c3), .bool true]) (by simp [results, Try.results29, go_sem, t0, t1, t2]) rfl ?_
      refine ⟨_, _, _, rfl, ?_, ((R5.out.bel.setCell (by simp; omega) _).setCell (by simp; omega) _).setCell (by simp; omega) _⟩
      exact HO.out.wide hz1 (by simp) (by simp)

theorem fix_len {k p q : Int} {L D X KL VL : List Int} (h : fixB k p q L D X KL VL = true) : (fixL (cK KL VL) L).length ≤ 12 ∧ (fixD (cK KL VL) L D).length ≤ 12 ∧ (fixDataL k q L D X KL VL).length ≤ 24576 := by
  obtain ⟨h1, h2, h3⟩ := fix_yes h
  have hf := (TF.of h1).fix h3
  exact ⟨hf.ax.1, by rw [← hf.ax.2.1]; exact hf.ax.1, hf.x⟩
theorem fix_len_L (k p q : Int) (L D X KL VL : List Int) : (if fixB k p q L D X KL VL = true then fixL (cK KL VL) L else []).length ≤ 12 := by
  split
  · rename_i h; exact (fix_len h).1
  · simp
theorem fix_len_D (k p q : Int) (L D X KL VL : List Int) : (if fixB k p q L D X KL VL = true then fixD (cK KL VL) L D else []).length ≤ 12 := by
  split
  · rename_i h; exact (fix_len h).2.1
  · simp
theorem fix_len_X (k p q : Int) (L D X KL VL : List Int) : (if fixB k p q L D X KL VL = true then fixDataL k q L D X KL VL else []).length ≤ 24576 := by
  split
  · rename_i h; exact (fix_len h).2.2
  · simp
theorem slice_len {k p q b v : Int} {L D X : List Int} (h : sliceB k p q L D X b v = true) : (exL L b).length ≤ 12 ∧ (exD L D b).length ≤ 12 ∧ (sliceL k q L D X b v).length ≤ 24576 := by
  obtain ⟨h1, h2, h3⟩ := slice_yes h
  have FT := TF.of h1
  have hf := FT.fix (ok_one FT.ax.2.1 FT.ax.2.2.2.2 fun _ => h3)
  have e1 := hf.ax.1
  rw [fixL_ex] at e1
  exact ⟨e1, by rw [exD_len]; exact e1, hf.x⟩
theorem slice_len_L (k p q : Int) (L D X : List Int) (b v : Int) : (if sliceB k p q L D X b v = true then exL L b else []).length ≤ 12 := by
  split
  · rename_i h; exact (slice_len h).1
  · simp
theorem slice_len_D (k p q : Int) (L D X : List Int) (b v : Int) : (if sliceB k p q L D X b v = true then exD L D b else []).length ≤ 12 := by
  split
  · rename_i h; exact (slice_len h).2.1
  · simp
theorem slice_len_X (k p q : Int) (L D X : List Int) (b v : Int) : (if sliceB k p q L D X b v = true then sliceL k q L D X b v else []).length ≤ 24576 := by
  split
  · rename_i h; exact (slice_len h).2.2
  · simp
end Go.Proofs.Ytfdjlahaiogabaa
