
/- impl.sumOver, over a source. -/
import Derived.Test.YtgbmacppgaopfabGreatSource
import Derived.Test.YtgbmacppgaopfabGreatSemiA
namespace Go.Proofs.YtgbmacppgaopfabGreat
set_option maxRecDepth 20000
open Go.RowKit

theorem assert_join (x : Value) (w : World) : (Instr.typeAssert (.iface 91 x) 89 28 true).run Tryz.prog w = .ok (.tuple #[tenV nilV nilV nilV, .bool false]) w := by kernel_rfl
set_option maxHeartbeats 3200000 in
theorem sum_over_fullJ {B' mk ck Ka Ke wd N : Nat} {x : Value} {k p q : Int} {J D keep : List Int} {ak : Option Addr} {F : Nat → List Int} {w : World}
    (hr : ringB k p q = true) (hw : widthI k q = (wd : Int)) (hs : SrcV w 91 x Ka Ke k p q J D N F) (hkl : keep.length = mk) (hkb : mk ≤ 281474976710656) (hk : Rd B' w (.slice ak mk ck) (ints keep)) (hB' : B' ≤ w.heap.size) :
    Calls Tryz.prog 58 #[ringV k p q, .iface 91 x, .slice ak mk ck] w (NewTen2 w (if zeroTenB k p q (keepL J keep) ((keepL J keep).map (dimI J D)) = true then keepL J keep else []) (if zeroTenB k p q (keepL J keep) ((keepL J keep).map (dimI J D)) = true then (keepL J keep).map (dimI J D) else []) (if zeroTenB k p q (keepL J keep) ((keepL J keep).map (dimI J D)) = true then accL k p q (offJ (keepL J keep) ((keepL J keep).map (dimI J D)) J (J.map (dimI J D))) F (prodL ((keepL J keep).map (dimI J D))).toNat N else []) (zeroTenB k p q (keepL J keep) ((keepL J keep).map (dimI J D)))) := by
  obtain ⟨m, hm⟩ : ∃ m, J.length = m := ⟨_, rfl⟩
  obtain ⟨dJ, hdJ⟩ : ∃ f, f = dimI J D := ⟨_, rfl⟩
  obtain ⟨sJ, hsJ⟩ : ∃ f, f = stepI J D := ⟨_, rfl⟩
  rw [← hdJ]
  have hn := hs.ax.2.2.2.2
  have hDm : J.map dJ = D := by rw [hdJ]; exact dimI_map hn hs.ax.2.1
  have h24 : m ≤ 200 := by have := hs.ax.1; omega
  have hI := hs.ax.ints
  have hd : ∀ n ∈ J, 1 ≤ dJ n ∧ dJ n ≤ 8 := fun n hm => hs.ax.2.2.2.1 _ (by rw [← hDm]; exact List.mem_map_of_mem hm)
  have hP : prodL (J.map dJ) = (N : Int) := by rw [hDm]; exact hs.n
  have hN := hs.n1
  have hF := hs.el
  have HXA := Lib.hid (fun (W : World) (hb : Below w.heap.size w W) (h0 : 0 < W.heap.size) => hs.axes W hb h0)
  have HAXJ : Hid (axesL J D = axJ J dJ sJ) := Lib.hid (by rw [hdJ, hsJ]; exact axesL_map hn)
  have HSV := Lib.hid hs
  have hq1 : ∀ (n : Nat) (W : World), 0 < n → (method n 91 x "loop.example/g03211/impl.axes").run Tryz.prog W = .ok (Ka, x) W := fun n W h => by
    obtain ⟨n', rfl⟩ : ∃ n', n = n' + 1 := ⟨n - 1, by omega⟩
    exact hs.m1 n' W
  have hq2 : ∀ (n : Nat) (W : World), 0 < n → (method n 91 x "loop.example/g03211/impl.elem").run Tryz.prog W = .ok (Ke, x) W := fun n W h => by
    obtain ⟨n', rfl⟩ : ∃ n', n = n' + 1 := ⟨n - 1, by omega⟩
    exact hs.m2 n' W
  have hta := assert_join x
  have hc1 := hs.c1
  have hc2 := hs.c2
  have HRG := Lib.hid hr
  have HW := Lib.hid hw
  have HND := Lib.hid hn
  have L1 := Lib.hid hm
  have HI := Lib.hid hI
  have HD := Lib.hid hd
  have HPN := Lib.hid hP
  have HKL := Lib.hid (And.intro hkl hkb)
  have HF := Lib.hid hF
  obtain ⟨hw1, hw6⟩ : 1 ≤ wd ∧ wd ≤ 6 := by have h1 := ring_width hr; rw [hw] at h1; omega
  obtain ⟨Kl, hKl⟩ : ∃ l, l = keepL J keep := ⟨_, rfl⟩
  obtain ⟨KD, hKD⟩ : ∃ l, l = (keepL J keep).map dJ := ⟨_, rfl⟩
  rw [← hKD]
  rw [← hKl] at hKD ⊢
  obtain ⟨zb, hzb⟩ : ∃ b, b = zeroTenB k p q Kl KD := ⟨_, rfl⟩
  rw [← hzb]
  obtain ⟨JD, hJD⟩ : ∃ l, l = J.map dJ := ⟨_, rfl⟩
  rw [← hJD]
  obtain ⟨zf, hzf⟩ : ∃ f, f = offJ Kl KD J JD := ⟨_, rfl⟩
  rw [← hzf]
  obtain ⟨M, hM⟩ : ∃ M, M = (prodL KD).toNat := ⟨_, rfl⟩
  rw [← hM]
  obtain ⟨tL, htL⟩ : ∃ l, l = if zb = true then Kl else [] := ⟨_, rfl⟩
  obtain ⟨tD, htD⟩ : ∃ l, l = if zb = true then KD else [] := ⟨_, rfl⟩
  obtain ⟨tX, htX⟩ : ∃ l, l = if zb = true then accL k p q zf F M N else [] := ⟨_, rfl⟩
  rw [← htL, ← htD, ← htX]
  have EKl := Lib.hid hKl
  have EKD := Lib.hid hKD
  have EZB := Lib.hid hzb
  have EJD := Lib.hid hJD
  have EZF := Lib.hid hzf
  have EM := Lib.hid hM
  have TL := Lib.hid htL
  have TD := Lib.hid htD
  have TX := Lib.hid htX
  obtain ⟨i0, hi, hz0', hz1, hz2⟩ := info_parts infoInt
  have J0 := Lib.hid hi
  have J1 := Lib.hid hz0'
  have J2 := Lib.hid hz1
  have J3 := Lib.hid hz2
  have HK0 := Lib.hid (hk.mono hB')
  obtain ⟨W0, hW0⟩ : ∃ V, V = (w.alloc (.cells #[.int .i64 k, .int .i64 p, .int .i64 q] 24)).alloc (.cells #[nilV, nilV, nilV] 28) := ⟨_, rfl⟩
  have S0 : Hid (Rs w W0 [(w.heap.size + 1, nilV, nilV, nilV), (w.heap.size, .int .i64 k, .int .i64 p, .int .i64 q)] []) := Lib.hid (by
    have h := ((Rs.start w).box (.int .i64 k) (.int .i64 p) (.int .i64 q) 24).box nilV nilV nilV 28
    simp only [World.size_alloc] at h
    rw [hW0]
    exact h)
  have hz0 : W0.heap.size = w.heap.size + 1 + 1 := by rw [hW0]; simp
  clear hr hw hs hn hm hI hd hP hkl hk hB' hF hKl hKD hzb hJD hzf hM htL htD htX hi hz0' hz1 hz2 hdJ hsJ hDm
  go_enter Tryz.func58, Tryz.ntmps58
  go_wp2_with fail
  rw [← hW0]
  clear hW0
  refine (HXA.out _ S0.out.bel (by omega)).mono ?_
  rintro e wb ⟨vA, rfl, ra, hb⟩
  rw [HAXJ.out] at ra
  obtain ⟨aa, ca, rfl⟩ := ra.form
  rw [axJ_len, L1.out] at ra ⊢
  have HA := Lib.hid ra
  have BW := Lib.hid (S0.out.bel.trans (hb.mono S0.out.bel.size))
  have HK := Lib.hid ((HK0.out.below BW.out (Nat.le_refl _)).mono BW.out.size)
  have HLB : Hid (w.heap.size + 1 < wb.heap.size) := Lib.hid (by have := hb.size; omega)
  have HC : Hid (∀ V, Below wb.heap.size wb V → (V.cell? ⟨w.heap.size, 0, none⟩ = some (.int .i64 k) ∧ V.cell? ⟨w.heap.size, 1, none⟩ = some (.int .i64 p) ∧ V.cell? ⟨w.heap.size, 2, none⟩ = some (.int .i64 q)) ∧ (V.cell? ⟨w.heap.size + 1, 0, none⟩ = some nilV ∧ V.cell? ⟨w.heap.size + 1, 1, none⟩ = some nilV ∧ V.cell? ⟨w.heap.size + 1, 2, none⟩ = some nilV) ∧ V.frozen? ⟨w.heap.size + 1, 0, none⟩ = false ∧ V.frozen? ⟨w.heap.size + 1, 1, none⟩ = false ∧ V.frozen? ⟨w.heap.size + 1, 2, none⟩ = false) := Lib.hid (fun V hV => by
    have h := (S0.out.step hb).step hV
    obtain ⟨c1, -⟩ := h.at (r := w.heap.size) (a := .int .i64 k) (b := .int .i64 p) (c := .int .i64 q) (by simp)
    obtain ⟨c2, c3⟩ := h.at (r := w.heap.size + 1) (a := nilV) (b := nilV) (c := nilV) (by simp)
    exact ⟨c1, c2, c3⟩)
  have HG := Lib.hid (fun (j : Nat) (W : World) (hj : j < N) (hbW : Below wb.heap.size wb W) => (HSV.out.later BW.out).elem W j hj hbW)
  have S1 : Hid (Rs wb wb [] [(nilV, keepL (J.take 0) keep), (nilV, (keepL (J.take 0) keep).map dJ)]) := Lib.hid (Rs.start wb).nil.nil
  clear hb ra HXA HAXJ HK0 hz0 S0
  go_wp2
  go_loopw [9, 10, 26] (fun u v i wr => ∃ (j n1 e1 e2 : Nat) (ga gb : Option Addr), j ≤ m ∧ i = .int .i64 j ∧ u = .slice ga n1 e1 ∧ v = .slice gb n1 e2 ∧ n1 ≤ j ∧ Hid (n1 = (keepL (J.take j) keep).length) ∧ Hid (Rs wb wr [] [(.slice ga n1 e1, keepL (J.take j) keep), (.slice gb n1 e2, (keepL (J.take j) keep).map dJ)])) (fun _ _ i _ => m - (intOf i).toNat)
  case atStart => exact ⟨0, 0, 0, 0, none, none, by omega, rfl, rfl, rfl, by omega, Lib.hid rfl, S1⟩
  case round =>
    clear S1
    obtain ⟨j, n1, c1, c2, ga, gb, hj, rfl, rfl, rfl, hn1, HN1, HR⟩ := hrel
    by_cases hlt : j < m
    · obtain ⟨n, X1⟩ : ∃ n, Hid (J[j]? = some n) := ⟨_, List.getElem?_eq_getElem (by rw [L1.out]; exact hlt)⟩
      obtain ⟨b, off, rfl, -, e1, e2, e3⟩ := (HA.out.below HR.out.bel (Nat.le_refl _)).at (i := j) (a := (n, dJ n, sJ n)) (by unfold axJ; rw [List.getElem?_map, X1.out]; rfl)
      dsimp only at e1 e2 e3
      obtain ⟨d, hd⟩ : ∃ d, d = dJ n := ⟨_, rfl⟩
      obtain ⟨s, hs⟩ : ∃ s, s = sJ n := ⟨_, rfl⟩
      rw [← hd] at e2
      rw [← hs] at e3
      have HDN := Lib.hid hd
      have R1 := Lib.hid (HR.out.box (.int .i64 n) (.int .i64 d) (.int .i64 s) 85)
      obtain ⟨⟨o0, o1, -⟩, -⟩ := R1.out.at (r := wr.heap.size) (a := .int .i64 n) (b := .int .i64 d) (c := .int .i64 s) (by simp)
      have HC := Lib.hid (contains_any n (HK.out.below R1.out.bel (Nat.le_refl _)) (by rw [HKL.out.1]; exact HKL.out.2))
      clear hd hs
      by_cases hin : n ∈ keep
      · rw [decide_eq_true hin] at HC
        have KY := Lib.hid (keep_yes X1.out hin)
        have KD2 : Hid ((keepL (J.take j) keep).map dJ ++ [d] = (keepL (J.take (j + 1)) keep).map dJ) := Lib.hid (by rw [HDN.out]; exact keep_snoc X1.out hin)
        have HN2 : Hid (n1 + 1 = (keepL (J.take (j + 1)) keep).length) := Lib.hid (by rw [KY.out, List.length_append, ← HN1.out]; rfl)
        have HDL : Hid (((keepL (J.take j) keep).map dJ).length = n1) := Lib.hid (by rw [List.length_map, HN1.out])
        have A1 := Lib.hid (R1.out.alloc (.cells #[.int .i64 n] 3))
        have O1 := Lib.hid (A1.out.row (List.mem_cons_self) HN1.out.symm : World.ownsRow _ wb.heap.size 3 1 (.slice ga n1 c1) n1 (ints (keepL (J.take j) keep)))
        clear hin
        go_wp2_with fail
        refine HC.out.mono ?_
        rintro e w1 ⟨rfl, rfl⟩
        go_wp2_with (at_builtin; go_must (refine wpList_append_lies _ rfl _ _ 26 rfl wb.heap.size 3 i0 (.int .i64 0) 1 8 Tryz.underlying26 J0.out J1.out J2.out J3.out rfl (by decide) _ n1 (ints (keepL (J.take j) keep)) rfl O1.out ⟨wr.heap.size + 1, 0, none⟩ 1 1 [.int .i64 n] rfl rfl (cell_one_at _ _ (by simp)) ?c2 (by decide) ?c3 ?c4 ?c5 _ rfl ?_))
        case c2 => first | rfl | (intro u hu; simp at hu; subst hu; rfl)
        case c3 => unfold maxLen; omega
        case c4 => omega
        case c5 => exact A1.out.bel.size
        intro g1 cap1 w2 hown hgrow hl1 _
        have R2 := Lib.hid (A1.out.app1 HN1.out.symm hown hgrow (by simp only [World.size_alloc] at hl1 ⊢; exact hl1))
        rw [← KY.out] at R2
        clear o0 o1
        obtain ⟨⟨-, o1, -⟩, -⟩ := R2.out.at (r := wr.heap.size) (a := .int .i64 n) (b := .int .i64 d) (c := .int .i64 s) (by simp)
        have A2 := Lib.hid (R2.out.swap.alloc (.cells #[.int .i64 d] 3))
        have O2 := Lib.hid (A2.out.row (List.mem_cons_self) HDL.out : World.ownsRow _ wb.heap.size 3 1 (.slice gb n1 c2) n1 (ints ((keepL (J.take j) keep).map dJ)))
        clear hown hgrow hl1 O1 A1 R1 HR HC e1 e2 e3
        go_wp2_with (at_builtin; go_must (refine wpList_append_lies _ rfl _ _ 26 rfl wb.heap.size 3 i0 (.int .i64 0) 1 8 Tryz.underlying26 J0.out J1.out J2.out J3.out rfl (by decide) _ n1 (ints ((keepL (J.take j) keep).map dJ)) rfl O2.out ⟨w2.heap.size, 0, none⟩ 1 1 [.int .i64 d] rfl rfl (cell_one_at _ _ rfl) ?c2 (by decide) ?c3 ?c4 ?c5 _ rfl ?_))
        case c2 => first | rfl | (intro u hu; simp at hu; subst hu; rfl)
        case c3 => unfold maxLen; omega
        case c4 => omega
        case c5 => exact A2.out.bel.size
        intro g2 cap2 w3 hown hgrow hl1 _
        have R3 := Lib.hid (A2.out.app1 HDL.out hown hgrow (by simp only [World.size_alloc] at hl1 ⊢; exact hl1))
        rw [KD2.out] at R3
        have R4 := Lib.hid (R3.out.swap.subB (bs' := []) (List.Sublist.cons _ (List.Sublist.refl _)))
        clear hown hgrow hl1 O2 A2 R2 R3 o1
        go_wp2
        go_roundw
        case rel => exact ⟨j + 1, n1 + 1, cap1, cap2, some ⟨g1, 0, none⟩, some ⟨g2, 0, none⟩, by omega, by go_num, rfl, rfl, by omega, HN2, R4⟩
        case measure => simp [intOf]; omega
      · rw [decide_eq_false hin] at HC
        have KN := Lib.hid (keep_no X1.out hin)
        have R4 := Lib.hid (R1.out.subB (bs' := []) (List.Sublist.cons _ (List.Sublist.refl _)))
        rw [← KN.out] at HN1 R4
        clear hin
        go_wp2_with fail
        refine HC.out.mono ?_
        rintro e w1 ⟨rfl, rfl⟩
        clear HC R1 HR o0 o1 e1 e2 e3
        go_wp2
        go_roundw
        case rel => exact ⟨j + 1, n1, c1, c2, ga, gb, by omega, by go_num, rfl, rfl, by omega, HN1, R4⟩
        case measure => simp [intOf]; omega
    · obtain rfl : j = m := by omega
      have E1 : Hid (J.take j = J) := Lib.hid (List.take_of_length_le (by rw [L1.out]; exact Nat.le_refl _))
      rw [E1.out, ← EKl.out, ← EKD.out] at HR
      rw [E1.out, ← EKl.out] at HN1
      have HLD : Hid (KD.length = n1) := Lib.hid (by rw [EKD.out, List.length_map, HN1.out])
      have HR9 : Hid (Rs wb (wr.alloc (.cells #[nilV, nilV, nilV] 28)) [] [(.slice ga n1 c1, Kl), (.slice gb n1 c2, KD)]) := Lib.hid (HR.out.alloc _)
      clear HR
      have HZ := Lib.hid (zero_tensor_impl (k := k) (p := p) (q := q) (HR9.out.rd (v := .slice ga n1 c1) (xs := Kl) (by simp)) (HR9.out.rd (v := .slice gb n1 c2) (xs := KD) (by simp)) (Nat.le_refl _) (by rw [← HN1.out]; omega) (by rw [HLD.out]; omega) (fun z hz => HI.out z (by rw [EKl.out] at hz; exact keep_sub z hz)))
      rw [← EZB.out] at HZ
      obtain ⟨⟨r0, r1, r2⟩, -, -⟩ := HC.out _ HR9.out.bel
      cases zb with
      | false =>
        simp only [Bool.false_eq_true, if_false] at HZ
        obtain rfl : tL = [] := by rw [TL.out]; simp
        obtain rfl : tD = [] := by rw [TD.out]; simp
        obtain rfl : tX = [] := by rw [TX.out]; simp
        go_wp2_with fail
        refine HZ.out.mono ?_
        rintro e w4 ⟨u1, u2, u3, rfl, ho, hb⟩
        obtain ⟨a1, n1', d1, rfl⟩ := (show Own _ _ _ u1 [] from ho.1 (u1, []) (by simp)).slice
        obtain ⟨a2, n2', d2, rfl⟩ := (show Own _ _ _ u2 [] from ho.1 (u2, []) (by simp)).slice
        obtain ⟨a3, n3', d3, rfl⟩ := (show Own _ _ _ u3 [] from ho.1 (u3, []) (by simp)).slice
        have R5 := Lib.hid ((HR9.out.step hb).alloc (.cells #[.slice a1 n1' d1, .slice a2 n2' d2, .slice a3 n3' d3] 28))
        obtain ⟨-, ⟨t0, t1, t2⟩, f0, f1, f2⟩ := HC.out _ R5.out.bel
        clear ho hb HZ HR9 r0 r1 r2
        go_wp2
        refine bodyPost_ret (v := .tuple #[tenV nilV nilV nilV, .bool false]) (by simp [results, Tryz.results58, go_sem, t0, t1, t2]) rfl ?_
        exact NewTen2.nils ((((BW.out.trans (R5.out.bel.mono BW.out.size)).setCell (p := ⟨w.heap.size + 1, 0, none⟩) (by show w.heap.size ≤ w.heap.size + 1; omega) _).setCell (p := ⟨w.heap.size + 1, 1, none⟩) (by show w.heap.size ≤ w.heap.size + 1; omega) _).setCell (p := ⟨w.heap.size + 1, 2, none⟩) (by show w.heap.size ≤ w.heap.size + 1; omega) _)
      | true =>
        simp only [if_true] at HZ
        obtain rfl : tL = Kl := by rw [TL.out]; simp
        obtain rfl : tD = KD := by rw [TD.out]; simp
        obtain rfl : tX = accL k p q zf F M N := by rw [TX.out]; simp
        have hsz : ¬ sizeI tL tD < 0 := by
          have h := EZB.out
          unfold zeroTenB at h
          rw [HRG.out] at h
          simp only [Bool.true_and] at h
          have h2 : 0 ≤ sizeI tL tD := of_decide_eq_true h.symm
          omega
        obtain ⟨hax, hp1, hp2⟩ := sizeI_ax hsz
        have HAX := Lib.hid hax
        have HMP : Hid (prodL tD = (M : Int) ∧ 1 ≤ M ∧ M ≤ 4096) := Lib.hid (by rw [EM.out]; omega)
        have hMb : M ≤ 4096 := HMP.out.2.2
        have HSUB : Hid (∀ n ∈ tL, n ∈ J) := Lib.hid (fun n h => keep_sub n (by rw [EKl.out] at h; exact h))
        have HSX : Hid (SubAx tL tD J JD) := Lib.hid (by
          have h := SubAx.keep (JD := JD) keep HND.out
          rw [EJD.out, keepD_map, ← EKl.out, ← EKD.out, ← EJD.out] at h
          exact h)
        have HJ1 : Hid (∀ x ∈ JD, 1 ≤ x) := Lib.hid (fun x hx => by rw [EJD.out] at hx; obtain ⟨n, hn, rfl⟩ := List.mem_map.1 hx; exact (HD.out n hn).1)
        have HJL : Hid (J.length = JD.length) := Lib.hid (by rw [EJD.out]; simp)
        have HZF : Hid (∀ c, zf c < M) := Lib.hid (fun c => by
          have h := (HSX.out.off HJL.out (fun d hd => (HAX.out.2.2.2.1 d hd).1) HJ1.out HND.out c).2
          rw [← EZF.out, HMP.out.1] at h
          omega)
        have HOFF : Hid (offsA (axJ J dJ (stepI tL tD)) = (List.range N).map fun c : Nat => (zf c : Int)) := Lib.hid (by
          have h := offs_steps HSX.out EJD.out.symm HND.out (fun d hd => (HAX.out.2.2.2.1 d hd).1) HJ1.out
          rw [← EZF.out, EJD.out, HPN.out, Int.toNat_natCast] at h
          exact h)
        obtain ⟨OF, hOF⟩ : ∃ l, l = (List.range N).map fun c : Nat => (zf c : Int) := ⟨_, rfl⟩
        rw [← hOF] at HOFF
        have HOL : Hid (OF.length = N) := Lib.hid (by rw [hOF]; simp)
        have HOA : Hid (∀ c, c < N → OF[c]? = some (zf c : Int)) := Lib.hid (fun c hc => by rw [hOF, List.getElem?_map, List.getElem?_range hc]; rfl)
        have HPA : Hid (PA (axJ J dJ (stepI tL tD))) := Lib.hid (axJ_pa (by rw [L1.out]; exact h24) HD.out (fun n _ => by
          have h := stepI_small (L := tL) (fun d hd => (HAX.out.2.2.2.1 d hd).1) (by rw [HMP.out.1]; omega) n
          omega) (by rw [HPN.out]; omega))
        have HEL : Hid (∀ c, c ≤ N → (accL k p q zf F M c).length = M * wd) := Lib.hid (fun c hc => acc_len HRG.out HW.out HF.out hc)
        have HZ0 : Hid (zeroTenL k p q tD = accL k p q zf F M 0) := Lib.hid (by unfold zeroTenL; rw [← EM.out]; exact accL_start _ _ _ _ _ _)
        rw [HZ0.out] at HZ
        clear hsz hax hp1 hp2 hOF
        go_wp2_with fail
        refine HZ.out.mono ?_
        rintro e w4 ⟨u1, u2, u3, rfl, ho, hb⟩
        obtain ⟨a1, n1', d1, rfl⟩ := (show Own _ _ _ u1 tL from ho.1 (u1, tL) (by simp)).slice
        obtain ⟨a2, n2', d2, rfl⟩ := (show Own _ _ _ u2 tD from ho.1 (u2, tD) (by simp)).slice
        obtain ⟨a3, cx, rfl, -⟩ := ints_form (show Own _ _ _ u3 (accL k p q zf F M 0) from ho.1 (u3, accL k p q zf F M 0) (by simp)).rd
        obtain ⟨mx, hmx⟩ : ∃ m, m = M * wd := ⟨_, rfl⟩
        have hmxb : mx ≤ 24576 := by rw [hmx]; exact Nat.mul_le_mul hMb hw6
        have HMX := Lib.hid hmx
        have HEL2 : Hid (∀ c, c ≤ N → (accL k p q zf F M c).length = mx) := Lib.hid (fun c hc => by rw [HEL.out c hc, hmx])
        rw [HEL2.out 0 (Nat.zero_le _)] at ho ⊢
        have R4 := Lib.hid ((HR9.out.new3 hb ho).sub (rows' := [(.slice a1 n1' d1, tL), (.slice a2 n2' d2, tD), (.slice a3 mx cx, accL k p q zf F M 0)]) (List.Sublist.cons_cons _ (List.Sublist.cons_cons _ (List.Sublist.cons_cons _ (List.nil_sublist _)))))
        have R5 := Lib.hid (R4.out.box (.slice a1 n1' d1) (.slice a2 n2' d2) (.slice a3 mx cx) 28)
        have HAC := Lib.hid (axes_impl (B := w4.heap.size + 1) (w := w4.alloc (.cells #[.slice a1 n1' d1, .slice a2 n2' d2, .slice a3 mx cx] 28)) (L := tL) (D := tD) (X := accL k p q zf F M 0) ⟨(R5.out.rd (v := .slice a1 n1' d1) (xs := tL) (by simp)).mono (by simp), (R5.out.rd (v := .slice a2 n2' d2) (xs := tD) (by simp)).mono (by simp), (R5.out.rd (v := .slice a3 mx cx) (xs := accL k p q zf F M 0) (by simp)).mono (by simp)⟩ (by simp) (by simp) HAX.out.2.1 HAX.out.1 HAX.out.2.2.2.1 (by rw [HMP.out.1]; omega))
        rw [axesL_map HAX.out.2.2.2.2] at HAC
        obtain ⟨⟨t0, t1, t2⟩, -⟩ := R5.out.at (r := w4.heap.size) (a := .slice a1 n1' d1) (b := .slice a2 n2' d2) (c := .slice a3 mx cx) (by simp)
        clear ho hb HZ HR9 R4 hmx r0 r1 r2
        go_wp2_with fail
        refine HAC.out.mono ?_
        rintro e w6 ⟨vX, rfl, ho, hb⟩
        have R6 := Lib.hid (R5.out.step hb)
        have HJN := Lib.hid (join_axes_impl dJ sJ (dimI tL tD) (stepI tL tD) HND.out HAX.out.2.2.2.2 (by rw [L1.out]; exact h24) (by have := HAX.out.1; omega) (HA.out.below R6.out.bel (Nat.le_refl _)) ho.rd R6.out.bel.size (Nat.le_refl _))
        have HJK := axS_keep (dJ := dJ) HSUB.out
        rw [← EKD.out] at HJK
        have HJ2 := Lib.hid HJK
        clear ho hb HAC R5 HJK t0 t1 t2
        go_wp2_with fail
        refine HJN.out.mono ?_
        rintro e w7 (⟨-, vF, vS, rfl, hoF, hoS, hb⟩ | ⟨hno, -, -⟩)
        rotate_left
        · exact absurd HJ2.out.1 hno
        rw [HJ2.out.2] at hoS
        have R7 := Lib.hid (R6.out.step hb)
        have HOI := Lib.hid (offsets_impl HPA.out hoS.rd (Nat.le_refl _))
        rw [HOFF.out] at HOI
        clear hoF hoS hb HJN R6
        go_wp2_with fail
        refine HOI.out.mono ?_
        rintro e w8 ⟨vO, rfl, ho, hb⟩
        obtain ⟨aO, cO, rfl, -⟩ := ints_form ho.rd
        have R8 := Lib.hid ((R7.out.new hb ho).perm (rows' := [(.slice a3 mx cx, accL k p q zf F M 0), (.slice aO OF.length cO, OF), (.slice a1 n1' d1, tL), (.slice a2 n2' d2, tD)]) (List.Perm.trans (List.Perm.cons _ (List.Perm.trans (List.Perm.cons _ (List.Perm.swap _ _ _)) (List.Perm.swap _ _ _))) (List.Perm.swap _ _ _)))
        rw [HOL.out] at R8 ⊢
        clear ho hb HOI R7
        go_wp2
        go_loopw [82] (fun i wr => ∃ c : Nat, c ≤ N ∧ i = .int .i64 c ∧ Hid (Rs wb wr ((w4.heap.size, .slice a1 n1' d1, .slice a2 n2' d2, .slice a3 mx cx) :: []) [(.slice a3 mx cx, accL k p q zf F M c), (.slice aO N cO, OF), (.slice a1 n1' d1, tL), (.slice a2 n2' d2, tD)])) (fun i _ => N - (intOf i).toNat)
        case atStart => exact ⟨0, by omega, rfl, R8⟩
        case round =>
          clear R8
          obtain ⟨c, hc, rfl, HR⟩ := hrel
          by_cases hlt : c < N
          · have HCN := Lib.hid hlt
            obtain ⟨gO, rfl, -, -, hcO, -⟩ := (HR.out.own1 (v := .slice aO N cO) (xs := OF) (by simp)).slot HOL.out (by omega)
            have e1 := hcO c (zf c : Int) (HOA.out c hlt)
            have hz := HZF.out c
            have hmz : 0 < mx := by rw [HMX.out]; exact Nat.mul_pos (by omega) (by omega)
            obtain ⟨gX, rfl, hgl, hgh, -, -⟩ := (HR.out.own1 (v := .slice a3 mx cx) (xs := accL k p q zf F M c) (by simp)).slot (HEL2.out c hc) hmz
            have hcx : mx ≤ cx := own_cap (HR.out.row (v := .slice (some ⟨gX, 0, none⟩) mx cx) (xs := accL k p q zf F M c) (by simp) (HEL2.out c hc))
            obtain ⟨zo, hzo⟩ : ∃ z, z = zf c := ⟨_, rfl⟩
            have h8 := Nat.mul_le_mul_right wd (show zo + 1 ≤ M by omega)
            rw [Nat.add_mul, Nat.one_mul, ← HMX.out] at h8
            have hzM : zo ≤ 4096 := by omega
            rw [← hzo] at e1
            have HEF := Lib.hid (HF.out c hlt)
            have HFL : Hid ((F c).length = wd) := Lib.hid (by have h1 := HEF.out.1; have h2 := HW.out; omega)
            have hta := (ring_top HRG.out).2
            have HAE : Hid (∀ j a, j < wd → (accL k p q zf F M c)[zo * wd + j]? = some a → 0 ≤ a ∧ a ≤ 1048576) := Lib.hid (fun j a hj ha => acc_small HRG.out HW.out HF.out hc (by rw [hzo]; exact hz) hj ha)
            have HAS : Hid (addAt k p (accL k p q zf F M c) (zo * wd) (F c) wd = accL k p q zf F M (c + 1)) := Lib.hid (by
              rw [hzo]
              exact acc_add HRG.out HW.out HF.out hlt hz)
            have HEX : Hid (Within 1048576 (F c)) := Lib.hid (fun x hx => by have h := HEF.out.2 x hx; omega)
            obtain ⟨⟨r0, r1, r2⟩, -, -⟩ := HC.out _ HR.out.bel
            obtain ⟨⟨t0, t1, t2⟩, -⟩ := HR.out.at (r := w4.heap.size) (a := .slice a1 n1' d1) (b := .slice a2 n2' d2) (c := .slice (some ⟨gX, 0, none⟩) mx cx) (by simp)
            have Q0 := Lib.hid HR.out.drew
            have HML : Hid ((accL k p q zf F M c).length = mx) := Lib.hid (HEL2.out c hc)
            clear hcO hz hmz hzo hta HR
            go_wp2_with fail
            refine wp_region_held_drew (S := (fun w' => w'.cell? ⟨w.heap.size, 0, none⟩ = some (.int .i64 k) ∧ w'.cell? ⟨w.heap.size, 1, none⟩ = some (.int .i64 p) ∧ w'.cell? ⟨w.heap.size, 2, none⟩ = some (.int .i64 q) ∧ w'.cell? ⟨w4.heap.size, 0, none⟩ = some (.slice a1 n1' d1) ∧ w'.cell? ⟨w4.heap.size, 1, none⟩ = some (.slice a2 n2' d2) ∧ w'.cell? ⟨w4.heap.size, 2, none⟩ = some (.slice (some ⟨gX, 0, none⟩) mx cx))) (by kernel_rfl) (by (try dsimp only); exact ⟨r0, r1, r2, t0, t1, t2⟩) (fun hHeld => ?_)
            refine wpAnyH_take (i := 0) (v := ?_) rfl (by kernel_rfl) (by kernel_rfl) (by kernel_rfl) (fun _ _ _ h => h) (Or.inl ⟨by rfl, ?_⟩) (by assumption) ?_
            rotate_left
            · intro w hSw; (try dsimp only at hSw); go_simp <;> with_reducible rfl
            try simp only [Act.put, List.getElem_toArray, List.getElem_cons_zero, List.setIfInBounds_toArray, List.set_cons_zero, List.set_cons_succ]
            refine wpAnyH_take (i := 1) (v := ?_) rfl (by kernel_rfl) (by kernel_rfl) (by kernel_rfl) (fun _ _ _ h => h) (Or.inl ⟨by rfl, ?_⟩) (by assumption) ?_
            rotate_left
            · intro w hSw; (try dsimp only at hSw); go_simp <;> with_reducible rfl
            try simp only [Act.put, List.getElem_toArray, List.getElem_cons_succ, List.getElem_cons_zero, List.setIfInBounds_toArray, List.set_cons_zero, List.set_cons_succ]
            refine wpAnyH_take (i := 2) (v := ?_) rfl (by kernel_rfl) (by kernel_rfl) (by kernel_rfl) (fun _ _ _ h => h) (Or.inl ⟨by rfl, ?_⟩) (by assumption) ?_
            rotate_left
            · intro w hSw; (try dsimp only at hSw); go_simp <;> with_reducible rfl
            try simp only [Act.put, List.getElem_toArray, List.getElem_cons_succ, List.getElem_cons_zero, List.setIfInBounds_toArray, List.set_cons_zero, List.set_cons_succ]
            refine wpAnyH_take (i := 3) (v := ?_) rfl (by kernel_rfl) (by kernel_rfl) (by kernel_rfl) (fun _ _ _ h => h) (Or.inl ⟨by rfl, ?_⟩) (by assumption) ?_
            rotate_left
            · intro w hSw; (try dsimp only at hSw); go_simp <;> with_reducible rfl
            try simp only [Act.put, List.getElem_toArray, List.getElem_cons_succ, List.getElem_cons_zero, List.setIfInBounds_toArray, List.set_cons_zero, List.set_cons_succ]
            refine wpAnyH_take (i := 5) (v := ?_) rfl (by kernel_rfl) (by kernel_rfl) (by kernel_rfl) (fun _ _ _ h => h) (Or.inl ⟨by rfl, ?_⟩) (by assumption) ?_
            rotate_left
            · intro w hSw; (try dsimp only at hSw); go_simp <;> with_reducible rfl
            try simp only [Act.put, List.getElem_toArray, List.getElem_cons_succ, List.getElem_cons_zero, List.setIfInBounds_toArray, List.set_cons_zero, List.set_cons_succ]
            refine wpAnyH_take (i := 6) (v := ?_) rfl (by kernel_rfl) (by kernel_rfl) (by kernel_rfl) (fun _ _ _ h => h) (Or.inl ⟨by rfl, ?_⟩) (by assumption) ?_
            rotate_left
            · intro w hSw; (try dsimp only at hSw); go_simp <;> with_reducible rfl
            try simp only [Act.put, List.getElem_toArray, List.getElem_cons_succ, List.getElem_cons_zero, List.setIfInBounds_toArray, List.set_cons_zero, List.set_cons_succ]
            refine wpAnyH_take (i := 7) (v := ?_) rfl (by kernel_rfl) (by kernel_rfl) (by kernel_rfl) (fun _ _ _ h => h) (Or.inl ⟨by rfl, ?_⟩) (by assumption) ?_
            rotate_left
            · intro w hSw; (try dsimp only at hSw); go_simp <;> with_reducible rfl
            try simp only [Act.put, List.getElem_toArray, List.getElem_cons_succ, List.getElem_cons_zero, List.setIfInBounds_toArray, List.set_cons_zero, List.set_cons_succ]
            refine wpAnyH_ready (rs := [4]) (by kernel_rfl) (by simp) ?_
            refine AllReadyH.cons rfl (fun K hK => ?_) AllReadyH.nil
            go_simp
            (go_at_call 53; refine (elem_part (b := gX) (off := 0) (cx := cx) (mx := mx) wd zo HW.out hw1 hw6 hzM h8 hcx).mono ?_; rintro e w9 ⟨rfl, hb⟩; have Q1 := Lib.hid (Q0.out.step hb); have hg9 : gX < w9.heap.size := Nat.lt_of_lt_of_le hgh hb.size; clear hb; clear r0 r1 r2 t0 t1 t2; obtain ⟨⟨r0, r1, r2⟩, -, -⟩ := HC.out _ Q1.out.bel; obtain ⟨⟨t0, t1, t2⟩, -⟩ := Q1.out.at (r := w4.heap.size) (a := .slice a1 n1' d1) (b := .slice a2 n2' d2) (c := .slice (some ⟨gX, 0, none⟩) mx cx) (by simp))
            go_wp2_with fail
            refine hK.out _ _ (by (try dsimp only); exact ⟨r0, r1, r2, t0, t1, t2⟩) (fun hHeld => ?_)
            clear hK K
            try simp only [Act.put, List.getElem_toArray, List.getElem_cons_succ, List.getElem_cons_zero, List.setIfInBounds_toArray, List.set_cons_zero, List.set_cons_succ]
            refine wpAnyH_ready (rs := [8]) (by kernel_rfl) (by simp) ?_
            refine AllReadyH.cons rfl (fun K hK => ?_) AllReadyH.nil
            go_simp
            (refine (HG.out c w9 HCN.out Q1.out.bel).mono ?_; rintro e w10 ⟨⟨bF, oF, cF, rfl, hbF, hbl, -, hcF⟩, hb⟩; have Q2 := Lib.hid (Q1.out.step hb); have hgn : bF ≠ gX := (by omega); have HCF := Lib.hid hcF; have hg10 : gX < w10.heap.size := Nat.lt_of_lt_of_le hg9 hb.size; clear hb hbF hcF; rw [HFL.out]; clear r0 r1 r2 t0 t1 t2; obtain ⟨⟨r0, r1, r2⟩, -, -⟩ := HC.out _ Q2.out.bel; obtain ⟨⟨t0, t1, t2⟩, -⟩ := Q2.out.at (r := w4.heap.size) (a := .slice a1 n1' d1) (b := .slice a2 n2' d2) (c := .slice (some ⟨gX, 0, none⟩) mx cx) (by simp))
            go_wp2_with fail
            refine hK.out _ _ (by (try dsimp only); exact ⟨r0, r1, r2, t0, t1, t2⟩) (fun hHeld => ?_)
            clear hK K
            try simp only [Act.put, List.getElem_toArray, List.getElem_cons_succ, List.getElem_cons_zero, List.setIfInBounds_toArray, List.set_cons_zero, List.set_cons_succ]
            refine wpAnyH_ready (rs := [9]) (by kernel_rfl) (by simp) ?_
            refine AllReadyH.cons rfl (fun K hK => ?_) AllReadyH.nil
            go_simp
            (go_at_call 86; refine (add_to_full (lo := wb.heap.size) (g := gX) (m := mx) (cap := cx) HRG.out HML.out HFL.out hw6 h8 (by omega) (Q2.out.row (v := .slice (some ⟨gX, 0, none⟩) mx cx) (xs := accL k p q zf F M c) (by simp) HML.out) hg10 HAE.out HEX.out hbl hgn HCF.out).mono ?_; rw [HAS.out]; rintro e w11 ⟨rfl, ho, hg⟩; have Q3 := Lib.hid (Q2.out.rewrite (X' := accL k p q zf F M (c + 1)) (by rw [HEL2.out (c + 1) (by have := HCN.out; omega)]; exact ho) hg); clear ho hg; clear r0 r1 r2 t0 t1 t2; obtain ⟨⟨r0, r1, r2⟩, -, -⟩ := HC.out _ Q3.out.bel; obtain ⟨⟨t0, t1, t2⟩, -⟩ := Q3.out.at (r := w4.heap.size) (a := .slice a1 n1' d1) (b := .slice a2 n2' d2) (c := .slice (some ⟨gX, 0, none⟩) mx cx) (by simp))
            go_wp2_with fail
            refine hK.out _ _ (by (try dsimp only); exact ⟨r0, r1, r2, t0, t1, t2⟩) (fun hHeld => ?_)
            clear hK K
            try simp only [Act.put, List.getElem_toArray, List.getElem_cons_succ, List.getElem_cons_zero, List.setIfInBounds_toArray, List.set_cons_zero, List.set_cons_succ]
            refine wpAnyH_done (by kernel_rfl) ?_ _
            clear r0 r1 r2 t0 t1 t2 Q0 Q1 Q2 HML HAE HAS
            go_wp2
            go_roundw
            case rel => exact ⟨c + 1, by omega, by go_num, Q3⟩
            case measure => simp [intOf]; omega
          · obtain rfl : c = N := by omega
            obtain ⟨⟨t0, t1, t2⟩, -⟩ := HR.out.at (r := w4.heap.size) (a := .slice a1 n1' d1) (b := .slice a2 n2' d2) (c := .slice a3 mx cx) (by simp)
            obtain ⟨-, ⟨o0, o1, o2⟩, f0, f1, f2⟩ := HC.out _ HR.out.bel
            have h1 : Rs wb wr [] [(.slice a1 n1' d1, tL), (.slice a2 n2' d2, tD), (.slice a3 mx cx, accL k p q zf F M c)] := ((HR.out.sub (rows' := [(.slice a3 mx cx, accL k p q zf F M c), (.slice a1 n1' d1, tL), (.slice a2 n2' d2, tD)]) (List.Sublist.cons_cons _ (List.Sublist.cons _ (List.Sublist.refl _)))).perm (List.Perm.trans (List.Perm.swap _ _ _) (List.Perm.cons _ (List.Perm.swap _ _ _)))).subB (List.nil_sublist _)
            have HFI := Lib.hid h1
            clear h1 HR
            go_wp2
            refine bodyPost_ret (v := .tuple #[tenV (.slice a1 n1' d1) (.slice a2 n2' d2) (.slice a3 mx cx), .bool true]) (by simp [results, Tryz.results58, go_sem, o0, o1, o2]) rfl ?_
            have HO := HFI.out.ownG.set3 HLB.out (.slice a1 n1' d1) (.slice a2 n2' d2) (.slice a3 mx cx)
            exact ⟨_, _, _, rfl, HO.wide BW.out.size (by simp) (by simp), (((BW.out.trans (HFI.out.bel.mono BW.out.size)).setCell (p := ⟨w.heap.size + 1, 0, none⟩) (by show w.heap.size ≤ w.heap.size + 1; omega) _).setCell (p := ⟨w.heap.size + 1, 1, none⟩) (by show w.heap.size ≤ w.heap.size + 1; omega) _).setCell (p := ⟨w.heap.size + 1, 2, none⟩) (by show w.heap.size ≤ w.heap.size + 1; omega) _⟩
/-- sumOver, over a join. -/
theorem sum_over_join {B' Ka Ke wd N : Nat} {x kv : Value} {k p q : Int} {J D keep : List Int} {F : Nat → List Int} {w : World} (hr : ringB k p q = true) (hw : widthI k q = (wd : Int)) (hs : SrcV w 91 x Ka Ke k p q J D N F) (hkb : keep.length ≤ 281474976710656) (hk : Rd B' w kv (ints keep)) (hB' : B' ≤ w.heap.size) :
    Calls Tryz.prog 58 #[ringV k p q, .iface 91 x, kv] w (NewTen2 w (if zeroTenB k p q (keepL J keep) (keepD J D keep) = true then keepL J keep else []) (if zeroTenB k p q (keepL J keep) (keepD J D keep) = true then keepD J D keep else []) (if zeroTenB k p q (keepL J keep) (keepD J D keep) = true then accL k p q (offJ (keepL J keep) (keepD J D keep) J D) F (prodL (keepD J D keep)).toNat N else []) (zeroTenB k p q (keepL J keep) (keepD J D keep))) := by
  obtain ⟨ak, ck, rfl, -⟩ := ints_form hk
  have h := sum_over_fullJ hr hw hs rfl hkb hk hB'
  rw [← keepD_map, dimI_map hs.ax.2.2.2.2 hs.ax.2.1] at h
  exact h
end Go.Proofs.YtgbmacppgaopfabGreat
