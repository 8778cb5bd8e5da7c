
/- impl.ParseTensor. -/
import Derived.Test.YtceidekfcnmeaaaGreatDoorParTen
import Derived.Test.YtceidekfcnmeaaaGreatDoorFmtTenImpl
namespace Go.Proofs.YtceidekfcnmeaaaGreatDoor
set_option maxRecDepth 20000
open Go.RowKit

theorem list_ne2 {l : List UInt8} {s : ByteArray} (h : (l == s.data.toList) = false) : (l == s.toList) = false := by
  rw [ByteArray.toList_eq]; exact h
theorem list_eq2 {l : List UInt8} {s : ByteArray} (h : (l == s.data.toList) = true) : (l == s.toList) = true := by
  rw [ByteArray.toList_eq]; exact h
/-- What ParseTensor answers. -/
noncomputable def ParPost (k p q : Int) (s : ByteArray) (w : World) (e : Ending) (w' : World) : Prop :=
  NewTen2 w (if parB k p q s = true then parL s else []) (if parB k p q s = true then parD s else []) (if parB k p q s = true then parX s else []) (parB k p q s) e w'
theorem par_post_no {k p q : Int} {s : ByteArray} {w w' : World} {e : Ending} (h : parB k p q s = false) (hn : NewTen2 w [] [] [] false e w') : ParPost k p q s w e w' := by
  unfold ParPost; rw [h]; exact hn
theorem par_post_yes {k p q : Int} {s : ByteArray} {w w' : World} {e : Ending} (h : parB k p q s = true) (hn : NewTen2 w (parL s) (parD s) (parX s) true e w') : ParPost k p q s w e w' := by
  unfold ParPost; rw [h]; exact hn
/-- A part of the words. -/
theorem rd_front {B b off n cap i : Nat} {w : World} {ws : List ByteArray} (h : Rd B w (.slice (some ⟨b, off, none⟩) n cap) (strs ws)) (hn : ws.length = n) (hi : i ≤ n) : Rd B w (.slice (some ⟨b, off, none⟩) i cap) (strs (ws.take i)) := by
  rcases h.strs_cases with ⟨rfl, a, ca, e⟩ | ⟨b2, o2, ca, e, hb, hc, hcell⟩
  · have h0 : n = 0 := by simpa using hn.symm
    have hi0 : i = 0 := by omega
    subst hi0
    exact .inl ⟨by simp [strs], _, _, rfl⟩
  · cases e
    refine .inr ⟨b, off, cap, ?_, hb, ?_, fun j u hu => ?_⟩
    · rw [strs_len, List.length_take, hn, Nat.min_eq_left hi]
    · rw [strs_len, List.length_take]; omega
    · have h1 : (ws.take i)[j]? = ws[j]? ∨ (ws.take i)[j]? = none := by
        by_cases hj : j < i
        · exact .inl (List.getElem?_take_of_lt hj)
        · exact .inr (List.getElem?_eq_none (by rw [List.length_take]; omega))
      unfold strs at hu
      rw [List.getElem?_map] at hu
      rcases h1 with h1 | h1
      · rw [h1] at hu
        obtain ⟨y, hy, rfl⟩ := Option.map_eq_some_iff.1 hu
        have hj := (List.getElem?_eq_some_iff.1 hy).1
        rw [hcell j hj, (List.getElem?_eq_some_iff.1 hy).2]
      · rw [h1] at hu; cases hu
theorem rd_back {B b off n cap i : Nat} {w : World} {ws : List ByteArray} (h : Rd B w (.slice (some ⟨b, off, none⟩) n cap) (strs ws)) (hn : ws.length = n) (hi : i ≤ n) : Rd B w (.slice (some ⟨b, off + i, none⟩) (n - i) (cap - i)) (strs (ws.drop i)) := by
  rcases h.strs_cases with ⟨rfl, a, ca, e⟩ | ⟨b2, o2, ca, e, hb, hc, hcell⟩
  · have h0 : n = 0 := by simpa using hn.symm
    subst h0
    rw [Nat.zero_sub]
    exact .inl ⟨by simp [strs], _, _, rfl⟩
  · cases e
    refine .inr ⟨b, off + i, cap - i, ?_, hb, ?_, fun j u hu => ?_⟩
    · rw [strs_len, List.length_drop, hn]
    · rw [strs_len, List.length_drop]; omega
    · unfold strs at hu
      rw [List.getElem?_map, List.getElem?_drop] at hu
      obtain ⟨y, hy, rfl⟩ := Option.map_eq_some_iff.1 hu
      have hj := (List.getElem?_eq_some_iff.1 hy).1
      rw [Nat.add_assoc, hcell (i + j) hj, (List.getElem?_eq_some_iff.1 hy).2]

set_option maxHeartbeats 6400000 in
theorem par_ten_impl (k p q : Int) (s : ByteArray) (w : World) (hs : s.size ≤ 1048576) (hv : LibVars w) :
    Calls Tryz.prog 11 #[ringV k p q, .string s] w (ParPost k p q s w) := by
  have hg := tab_size hv.tab
  have HG := Lib.hid hg
  have HV := Lib.hid hv
  obtain ⟨w0, hw0⟩ : ∃ w0, w0 = (w.alloc (.cells #[.int .i64 k, .int .i64 p, .int .i64 q] 24)).alloc (.cells #[nilV, nilV, nilV] 29) := ⟨_, rfl⟩
  have S0 : Hid (Rs w w0 [(w.heap.size + 1, nilV, nilV, nilV), (w.heap.size, .int .i64 k, .int .i64 p, .int .i64 q)] []) := by
    have h := ((Rs.start w).box (.int .i64 k) (.int .i64 p) (.int .i64 q) 24).box nilV nilV nilV 29
    simp only [World.size_alloc] at h
    rw [hw0]
    exact h
  have HW0 := Lib.hid hw0
  have HWS := Lib.hid (fun (W : World) => impl_words s W hs)
  have HS := Lib.hid hs
  obtain ⟨ws, hws⟩ : ∃ x, x = wordsOf s := ⟨_, rfl⟩
  have HWE := Lib.hid hws
  have hwl := wordsOf_len s
  rw [← hws] at hwl HWS
  obtain ⟨n, hn⟩ : ∃ x, x = ws.length := ⟨_, rfl⟩
  rw [← hn] at hwl HWS
  have HN := Lib.hid hn
  have hn2 : n ≤ 1048577 := by omega
  clear hv hg hws hwl hn hw0
  go_enter Tryz.func11, Tryz.ntmps11
  go_wp2_with fail
  rw [← HW0.out]
  refine (HWS.out w0).mono ?_
  rintro e w1 ⟨v, rfl, ho, hb⟩
  have S1 := Lib.hid (S0.out.step hb)
  have W1 : Hid (Rd w1.heap.size w1 v (strs ws)) := Lib.hid (Rd.of_own ho)
  have HIX := Lib.hid (index_eq W1.out (by rw [← HN.out]; omega))
  clear ho hb S0 HWS HW0
  obtain ⟨i, hi⟩ : ∃ i, i = eqIx ws := ⟨_, rfl⟩
  have HI := Lib.hid hi
  by_cases hlt : i < n
  · have e1 : eqAt ws = (i : Int) := by unfold eqAt; rw [← hi, ← HN.out, if_pos hlt]
    rw [e1] at HIX
    obtain ⟨b, off, cap, rfl, hbc⟩ : ∃ b off cap, v = .slice (some ⟨b, off, none⟩) n cap ∧ n ≤ cap := by
      rcases W1.out.strs_cases with ⟨e, -⟩ | ⟨b, off, cap, e, -, hc, -⟩
      · rw [HN.out, e] at hlt; simp at hlt
      · exact ⟨b, off, cap, by rw [e, HN.out], by rw [HN.out]; exact hc⟩
    obtain ⟨pl, hpl⟩ : ∃ x, x = parL s := ⟨_, rfl⟩
    obtain ⟨pd, hpd⟩ : ∃ x, x = parD s := ⟨_, rfl⟩
    obtain ⟨px, hpx⟩ : ∃ x, x = parX s := ⟨_, rfl⟩
    have HPL := Lib.hid hpl
    have HPD := Lib.hid hpd
    have HPX := Lib.hid hpx
    obtain ⟨zz, hzz⟩ : ∃ x, x = intsW 58 (ws.take i) := ⟨_, rfl⟩
    have HZ1 : Hid (evK 0 zz = pl ∧ odK 0 zz = pd) := Lib.hid (by rw [hpl, hpd, hzz, hi, HWE.out]; exact ⟨rfl, rfl⟩)
    have HZ2 : Hid (intsW 44 (ws.drop (i + 1)) = px) := Lib.hid (by rw [hpx, hi, HWE.out]; rfl)
    have hlen := par_len s
    rw [← HWE.out, ← hi, ← hpl, ← hpd, ← hpx, ← hzz] at hlen
    have HLN := Lib.hid hlen
    have hall := par_all s
    rw [← hpl, ← hpd, ← hpx] at hall
    have HAL := Lib.hid hall
    have HSM : Hid (∀ y ∈ ws, y.size ≤ 1048576) := Lib.hid (fun y hy => by
      have h1 := HS.out
      rw [HWE.out] at hy
      have := word_small hy
      omega)
    have HIN := Lib.hid (fun (W : World) (hb : Below w1.heap.size w1 W) (hv : LibVars W) => ints_in (c := 58) (rd_front (W1.out.below hb (Nat.le_refl _)) HN.out.symm (Nat.le_of_lt hlt)) (by rw [List.length_take, ← HN.out]; omega) hb.size (by omega) (by omega) (fun y hy => HSM.out y (List.mem_of_mem_take hy)) (by rw [← hzz]; have := HLN.out.1; have := HS.out; omega) hv)
    rw [← hzz] at HIN
    have HIN2 := Lib.hid (fun (a : Option Addr) (c2 : Nat) (W : World) (h : Rd w1.heap.size W (.slice a (n - (i + 1)) c2) (strs (ws.drop (i + 1)))) (hb : Below w1.heap.size w1 W) (hv : LibVars W) => ints_in (c := 44) h (by rw [List.length_drop, ← HN.out]) hb.size (by omega) (by omega) (fun y hy => HSM.out y (List.mem_of_mem_drop hy)) (by rw [HZ2.out]; have := HLN.out.2.2.2; have := HS.out; omega) hv)
    rw [HZ2.out] at HIN2
    have T1 := Lib.hid ((Rs.start w1).box nilV nilV nilV 29)
    have hq1 : w.heap.size + 1 < w1.heap.size := (S1.out.bx (w.heap.size + 1, nilV, nilV, nilV) (by simp)).lt
    clear e1 hi hpl hpd hpx hzz hlen hall
    go_wp2_with fail
    refine HIX.out.mono ?_
    clear HIX
    rintro e w2 ⟨rfl, rfl⟩
    go_wp2_with fail
    have HVW : Hid (∀ W : World, Below w1.heap.size w1 W → LibVars W) := Lib.hid (fun W hb => HV.out.below (S1.out.bel.trans (hb.mono S1.out.bel.size)))
    refine (HIN.out _ T1.out.bel (HVW.out _ T1.out.bel)).mono ?_
    clear HIN
    rintro e w3 ⟨zv, rfl, ho, hb⟩
    have T3 := Lib.hid (T1.out.new hb ho)
    have R3 := Lib.hid ((S1.out.box nilV nilV nilV 29).new hb ho)
    obtain ⟨az, cz, rfl, -⟩ := ints_form ho.rd
    obtain ⟨mz, hmz⟩ : ∃ x, x = zz.length := ⟨_, rfl⟩
    rw [← hmz] at T3 R3 ⊢
    have HTT := Lib.hid (turns_full (T3.out.rd (v := .slice az mz cz) (xs := zz) (by simp)) hmz.symm (Nat.le_refl _) (by have := HLN.out.1; have := HS.out; omega))
    rw [HZ1.out.1, HZ1.out.2] at HTT
    clear ho hb hmz T1
    go_wp2_with fail
    refine HTT.out.mono ?_
    clear HTT
    rintro e w4 ⟨u1, u2, rfl, hR⟩
    obtain ⟨x1, y1, rfl, -⟩ := ints_form (hR.rd (v := u1) (xs := pl) (by simp))
    obtain ⟨x2, y2, rfl, -⟩ := ints_form (hR.rd (v := u2) (xs := pd) (by simp))
    obtain ⟨m1, hm1⟩ : ∃ x, x = pl.length := ⟨_, rfl⟩
    obtain ⟨m2, hm2⟩ : ∃ x, x = pd.length := ⟨_, rfl⟩
    rw [← hm1, ← hm2] at hR ⊢
    have HM12 := Lib.hid (And.intro hm1 hm2)
    clear hm1 hm2
    have T4 := Lib.hid ((T3.out.sub (List.sublist_cons_self _ _)).new2 hR.bel hR.ownG)
    obtain ⟨⟨t0, t1, t2⟩, f0, f1, f2⟩ := T4.out.at (r := w1.heap.size) (a := nilV) (b := nilV) (c := nilV) (by simp)
    have R4 := Lib.hid ((R3.out.sub (List.sublist_cons_self _ _)).new2 hR.bel hR.ownG)
    have T5 : Hid (Rs w1 ((w4.setCell ⟨w1.heap.size, 0, none⟩ (.slice x1 m1 y1)).setCell ⟨w1.heap.size, 1, none⟩ (.slice x2 m2 y2)) [(w1.heap.size, .slice x1 m1 y1, .slice x2 m2 y2, nilV)] [(.slice x1 m1 y1, pl), (.slice x2 m2 y2, pd)]) := Lib.hid ((T4.out.setB 0 (.slice x1 m1 y1)).setB 1 (.slice x2 m2 y2))
    have R5 : Hid (Rs w ((w4.setCell ⟨w1.heap.size, 0, none⟩ (.slice x1 m1 y1)).setCell ⟨w1.heap.size, 1, none⟩ (.slice x2 m2 y2)) [(w1.heap.size, .slice x1 m1 y1, .slice x2 m2 y2, nilV), (w.heap.size + 1, nilV, nilV, nilV), (w.heap.size, .int .i64 k, .int .i64 p, .int .i64 q)] [(.slice x1 m1 y1, pl), (.slice x2 m2 y2, pd)]) := Lib.hid ((R4.out.setB 0 (.slice x1 m1 y1)).setB 1 (.slice x2 m2 y2))
    obtain ⟨rb, hrb⟩ : ∃ x, x = (fmtTen k p q pl pd px == s.data.toList) := ⟨_, rfl⟩
    have HRB : Hid (parB k p q s = rb) := Lib.hid (by unfold parB; rw [← HWE.out, ← HI.out, ← HN.out, ← HPL.out, ← HPD.out, ← HPX.out, ← hrb]; simp [hlt])
    have HRC := Lib.hid hrb
    clear hR T3 T4 R3 R4 hrb
    go_wp2_with fail
    all_goals
      refine (HIN2.out _ _ _ ?_ T5.out.bel (HVW.out _ T5.out.bel)).mono ?_
      · first
          | exact rd_back (W1.out.below T5.out.bel (Nat.le_refl _)) HN.out.symm (show i + 1 ≤ n by omega)
          | exact .inl ⟨by rw [List.drop_eq_nil_of_le (by rw [← HN.out]; omega)]; rfl, _, _, by rw [show n - (i + 1) = 0 by omega]⟩
      rintro e w6 ⟨v6, rfl, ho, hb⟩
      obtain ⟨x3, y3, rfl, -⟩ := ints_form ho.rd
      obtain ⟨m3, hm3⟩ : ∃ x, x = px.length := ⟨_, rfl⟩
      have T6 := Lib.hid (T5.out.new hb ho)
      have R6 := Lib.hid (R5.out.new hb ho)
      rw [← hm3] at T6 R6 ⊢
      obtain ⟨⟨t0, t1, t2⟩, f0, f1, f2⟩ := T6.out.at (r := w1.heap.size) (a := .slice x1 m1 y1) (b := .slice x2 m2 y2) (c := nilV) (by simp)
      have T7 := Lib.hid (T6.out.last (.slice x3 m3 y3))
      have R7 := Lib.hid (R6.out.last (.slice x3 m3 y3))
      obtain ⟨⟨o0, o1, o2⟩, -⟩ := R7.out.at (r := w1.heap.size) (a := .slice x1 m1 y1) (b := .slice x2 m2 y2) (c := .slice x3 m3 y3) (by simp)
      obtain ⟨⟨r0, r1, r2⟩, -⟩ := R7.out.at (r := w.heap.size) (a := .int .i64 k) (b := .int .i64 p) (c := .int .i64 q) (by simp)
      have HM3 := Lib.hid hm3
      have HFT := Lib.hid (fmt_ten_impl (k := k) (p := p) (q := q) (lv := .slice x1 m1 y1) (dv := .slice x2 m2 y2) (xv := .slice x3 m3 y3) (L := pl) (D := pd) (X := px) ⟨R7.out.rd (by simp), R7.out.rd (by simp), R7.out.rd (by simp)⟩ (Nat.le_refl _) ⟨by have := HLN.out.2.1; have := HS.out; omega, by have := HLN.out.2.2.1; have := HS.out; omega, by have := HLN.out.2.2.2; have := HS.out; omega⟩ HAL.out.1 HAL.out.2.1 HAL.out.2.2 (HVW.out _ T7.out.bel).tab)
      clear hm3 ho hb T6 R6 HIN2
      go_wp2_with fail
      refine HFT.out.mono ?_
      clear HFT r0 r1 r2 o0 o1 o2 t0 t1 t2 f0 f1 f2
      rintro e w8 ⟨rfl, hb⟩
      have R8 := Lib.hid (R7.out.step hb)
      clear hb R7 T7
      obtain ⟨⟨o0, o1, o2⟩, -⟩ := R8.out.at (r := w1.heap.size) (a := .slice x1 m1 y1) (b := .slice x2 m2 y2) (c := .slice x3 m3 y3) (by simp)
      obtain ⟨⟨t0, t1, t2⟩, f0, f1, f2⟩ := R8.out.at (r := w.heap.size + 1) (a := nilV) (b := nilV) (c := nilV) (by simp)
      cases rb with
      | true =>
        have hq := list_eq2 HRC.out.symm
        go_wp2
        refine bodyPost_ret (v := .tuple #[tenV (.slice x1 m1 y1) (.slice x2 m2 y2) (.slice x3 m3 y3), .bool true]) (by simp [results, Tryz.results11, go_sem, t0, t1, t2]) rfl ?_
        refine par_post_yes HRB.out ?_
        rw [← HPL.out, ← HPD.out, ← HPX.out]
        have h3 := (R8.out.swapB.set3 (.slice x1 m1 y1) (.slice x2 m2 y2) (.slice x3 m3 y3))
        exact ⟨_, _, _, rfl, (h3.perm (rows' := [(.slice x1 m1 y1, pl), (.slice x2 m2 y2, pd), (.slice x3 m3 y3, px)]) (List.perm_append_comm (l₁ := [_]) (l₂ := [_, _]))).ownG, h3.bel⟩
      | false =>
        have hq := list_ne2 HRC.out.symm
        go_wp2
        refine bodyPost_ret (v := .tuple #[tenV nilV nilV nilV, .bool false]) (by simp [results, Tryz.results11, go_sem, t0, t1, t2]) rfl ?_
        refine par_post_no HRB.out (NewTen2.nils ?_)
        exact (((R8.out.bel.setCell (by simp) _).setCell (by simp) _).setCell (by simp) _)
  · have e1 : eqAt ws = -1 := by unfold eqAt; rw [← hi, ← HN.out, if_neg hlt]
    rw [e1] at HIX
    have HPB : Hid (parB k p q s = false) := Lib.hid (by unfold parB; rw [← HWE.out, ← hi, ← HN.out]; simp [hlt])
    obtain ⟨⟨t0, t1, t2⟩, f0, f1, f2⟩ := S1.out.at (r := w.heap.size + 1) (a := nilV) (b := nilV) (c := nilV) (by simp)
    clear e1 hi hlt
    go_wp2_with fail
    refine HIX.out.mono ?_
    clear HIX
    rintro e w2 ⟨rfl, rfl⟩
    go_wp2
    refine bodyPost_ret (v := .tuple #[tenV nilV nilV nilV, .bool false]) (by simp [results, Tryz.results11, go_sem, t0, t1, t2]) rfl ?_
    refine par_post_no HPB.out (NewTen2.nils ?_)
    exact (((S1.out.bel.setCell (by simp) _).setCell (by simp) _).setCell (by simp) _)
end Go.Proofs.YtceidekfcnmeaaaGreatDoor
