
/- The walks of the specification, apart from their mathematics. -/
import Derived.Test.YtgbmacppgaopfaaPairMath
import Derived.Deep.RegionHeld3
import Derived.Deep.RegionLaw
import Derived.Deep.AppendLies
namespace Go.Proofs.Ytgbmacppgaopfaa
set_option maxRecDepth 20000
open Go.RowKit
open Go.RowKit
open Go.RowKit

set_option maxHeartbeats 6400000 in
theorem join_spec {B B' : Nat} {lv dv xv lu du xu : Value} {L D X L' D' X' : List Int} {w : World} (ha : RdT B w lv dv xv L D X) (hb : RdT B' w lu du xu L' D' X') (hB : B ≤ w.heap.size) (hB' : B' ≤ w.heap.size) (hax : AxesV L D) (hax' : AxesV L' D') :
    Calls Try.prog 84 #[tenV lv dv xv, tenV lu du xu] w (NewRow2B w (if fitV L D L' D' = true then joinL L L' else []) (if fitV L D L' D' = true then joinD L D L' D' else []) (fitV L D L' D')) := by
  have HA : Hid (RdT w.heap.size w lv dv xv L D X) := Lib.hid ⟨ha.l.mono hB, ha.d.mono hB, ha.x.mono hB⟩
  have HU : Hid (RdT w.heap.size w lu du xu L' D' X') := Lib.hid ⟨hb.l.mono hB', hb.d.mono hB', hb.x.mono hB'⟩
  have HI1 := Lib.hid (fun (w1 : World) (hb : Below w.heap.size w w1) => ints_new (HA.out.below hb (Nat.le_refl _)).l hb.size (by have := hax.1; omega))
  have HI2 := Lib.hid (fun (w1 : World) (hb : Below w.heap.size w w1) => ints_new (HA.out.below hb (Nat.le_refl _)).d hb.size (by have := hax.1; have := hax.2.1; omega))
  obtain ⟨al, cl, rfl, -⟩ := ints_form ha.l
  obtain ⟨ad, cd, rfl, -⟩ := ints_form ha.d
  obtain ⟨ax, cx, rfl, -⟩ := ints_form ha.x
  obtain ⟨bl, kl, rfl, -⟩ := ints_form hb.l
  obtain ⟨bd, kd, rfl, -⟩ := ints_form hb.d
  obtain ⟨bx, kx, rfl, -⟩ := ints_form hb.x
  obtain ⟨m, hm⟩ : ∃ m, m = L.length := ⟨_, rfl⟩
  obtain ⟨m', hm'⟩ : ∃ m, m = L'.length := ⟨_, rfl⟩
  obtain ⟨m3, hm3⟩ : ∃ m, m = X.length := ⟨_, rfl⟩
  obtain ⟨m6, hm6⟩ : ∃ m, m = X'.length := ⟨_, rfl⟩
  have e1 : D.length = m := by rw [hm]; exact hax.2.1.symm
  have e2 : D'.length = m' := by rw [hm']; exact hax'.2.1.symm
  rw [← hm, e1, ← hm3] at HA ⊢
  rw [← hm', e2, ← hm6] at HU ⊢
  rw [← hm] at HI1
  rw [e1] at HI2
  have HLL : Hid (L.length = m ∧ D.length = m ∧ L'.length = m' ∧ D'.length = m') := Lib.hid ⟨hm.symm, e1, hm'.symm, e2⟩
  have H12 : m ≤ 12 := by rw [hm]; exact hax.1
  have H12' : m' ≤ 12 := by rw [hm']; exact hax'.1
  have HND := Lib.hid hax.2.2.2.2
  have HND' := Lib.hid hax'.2.2.2.2
  obtain ⟨i0, hi, hz0, hz1, hz2⟩ := info_parts infoInt
  have J0 := Lib.hid hi
  have J1 := Lib.hid hz0
  have J2 := Lib.hid hz1
  have J3 := Lib.hid hz2
  have R0 : Hid (Rs w ((w.alloc (.cells #[.slice al m cl, .slice ad m cd, .slice ax m3 cx] 49)).alloc (.cells #[.slice bl m' kl, .slice bd m' kd, .slice bx m6 kx] 49)) [(w.heap.size + 1, .slice bl m' kl, .slice bd m' kd, .slice bx m6 kx), (w.heap.size, .slice al m cl, .slice ad m cd, .slice ax m3 cx)] []) := by
    have h := ((Rs.start w).box (.slice al m cl) (.slice ad m cd) (.slice ax m3 cx) 49).box (.slice bl m' kl) (.slice bd m' kd) (.slice bx m6 kx) 49
    simp only [World.size_alloc] at h
    exact h
  obtain ⟨fb, hfb⟩ : ∃ b, b = fitV L D L' D' := ⟨_, rfl⟩
  have HFB := Lib.hid hfb
  rw [← hfb]
  obtain ⟨zl, hzl⟩ : ∃ l, l = (if fb = true then joinL L L' else []) := ⟨_, rfl⟩
  obtain ⟨zd, hzd⟩ : ∃ l, l = (if fb = true then joinD L D L' D' else []) := ⟨_, rfl⟩
  have HNO : Hid (fb = false → zl = [] ∧ zd = []) := Lib.hid (fun h => by subst h; exact ⟨hzl, hzd⟩)
  have HYES : Hid (fb = true → zl = joinL L L' ∧ zd = joinD L D L' D') := Lib.hid (fun h => by subst h; exact ⟨hzl, hzd⟩)
  rw [← hzl, ← hzd]
  clear hzl hzd hfb ha hb hB hB' hax hax' hm hm' hm3 hm6 e1 e2 hi hz0 hz1 hz2
  obtain ⟨⟨a0, a1, a2⟩, -⟩ := R0.out.at (r := w.heap.size) (a := .slice al m cl) (b := .slice ad m cd) (c := .slice ax m3 cx) (by simp)
  go_enter Try.func84, Try.ntmps84
  go_wp2_with fail
  refine (HI1.out _ R0.out.bel).mono ?_
  clear a0 a1 a2
  rintro e w1 ⟨v1, rfl, ho, hb⟩
  have R1 := Lib.hid (R0.out.new hb ho)
  obtain ⟨g1, c1, rfl, -⟩ := ints_form ho.rd
  rw [HLL.out.1] at R1 ⊢
  clear hb ho
  obtain ⟨⟨a0, a1, a2⟩, -⟩ := R1.out.at (r := w.heap.size) (a := .slice al m cl) (b := .slice ad m cd) (c := .slice ax m3 cx) (by simp)
  go_wp2_with fail
  refine (HI2.out _ R1.out.bel).mono ?_
  clear a0 a1 a2
  rintro e w2 ⟨v2, rfl, ho, hb⟩
  have R2 := Lib.hid (R1.out.new hb ho)
  obtain ⟨g2, c2, rfl, -⟩ := ints_form ho.rd
  rw [HLL.out.2.1] at R2 ⊢
  clear hb ho
  generalize hbs : [(w.heap.size + 1, Value.slice bl m' kl, Value.slice bd m' kd, Value.slice bx m6 kx), (w.heap.size, Value.slice al m cl, Value.slice ad m cd, Value.slice ax m3 cx)] = bs at R0 R1 R2
  have HBS := Lib.hid hbs
  clear hbs
  obtain ⟨⟨b0, b1, b2⟩, -⟩ := R2.out.at (r := w.heap.size + 1) (a := .slice bl m' kl) (b := .slice bd m' kd) (c := .slice bx m6 kx) (by rw [← HBS.out]; simp)
  go_wp2
  go_loopw [7, 8, 21] (fun u v i wr => ∃ (j na ca cb : Nat) (ga gb : Option Addr), j ≤ m' ∧ i = .int .i64 j ∧ u = .slice ga na ca ∧ v = .slice gb na cb ∧ na ≤ m + j ∧ m ≤ na ∧ Hid (na = (L ++ restL L (L'.take j)).length) ∧ Hid (FitTo L D L' D' j) ∧ Hid (Rs w wr bs [(.slice gb na cb, D ++ dimsVia L' D' (restL L (L'.take j))), (.slice ga na ca, L ++ restL L (L'.take j))])) (fun _ _ i _ => m' - (intOf i).toNat)
  case atStart => exact ⟨0, m, c1, c2, g1, g2, by omega, rfl, rfl, rfl, by omega, by omega, Lib.hid (by rw [List.take_zero]; show m = (L ++ restL L []).length; simp [restL, HLL.out.1]), fun j n h => by omega, by rw [List.take_zero]; show Hid (Rs w _ bs [(_, D ++ dimsVia L' D' (restL L [])), (_, L ++ restL L [])]); simp only [restL, List.filter_nil, dimsVia, List.map_nil, List.append_nil]; exact R2⟩
  case round =>
    clear R0 R1 R2 b0 b1 b2
    obtain ⟨j, na, ca, cb, ga, gb, hj, rfl, rfl, rfl, hna, hnm, HNA, HFT, HR⟩ := hrel
    obtain ⟨⟨b0, b1, b2⟩, -⟩ := HR.out.at (r := w.heap.size + 1) (a := .slice bl m' kl) (b := .slice bd m' kd) (c := .slice bx m6 kx) (by rw [← HBS.out]; simp)
    have HLD : Hid ((D ++ dimsVia L' D' (restL L (L'.take j))).length = na) := Lib.hid (by rw [HNA.out, List.length_append, List.length_append, HLL.out.1, HLL.out.2.1]; simp [dimsVia])
    by_cases hlt : j < m'
    · obtain ⟨n, X1⟩ : ∃ n, Hid (L'[j]? = some n) := ⟨_, List.getElem?_eq_getElem (by rw [HLL.out.2.2.1]; exact hlt)⟩
      obtain ⟨d, X2⟩ : ∃ d, Hid (D'[j]? = some d) := ⟨_, List.getElem?_eq_getElem (by rw [HLL.out.2.2.2]; exact hlt)⟩
      obtain ⟨b, off, rfl, -, e1⟩ := (HU.out.l.below HR.out.bel (Nat.le_refl _)).cellAt X1.out
      obtain ⟨bb, off2, rfl, -, e2⟩ := (HU.out.d.below HR.out.bel (Nat.le_refl _)).cellAt X2.out
      have HF := Lib.hid (find_spec n (HR.out.rd (v := .slice ga na ca) (xs := L ++ restL L (L'.take j)) (by simp)) (by rw [← HNA.out]; omega))
      by_cases hin : n ∈ L
      · obtain ⟨hfi, hq2⟩ := find_old (M := restL L (L'.take j)) hin
        obtain ⟨q, hq⟩ : ∃ q, L.idxOf n = q := ⟨_, rfl⟩
        rw [hq] at hfi hq2
        rw [hfi] at HF
        have hqm : q < m := by rw [← HLL.out.1]; exact hq2
        obtain ⟨dq, hdq⟩ : ∃ dq, D[q]? = some dq := ⟨_, List.getElem?_eq_getElem (by rw [HLL.out.2.1]; exact hqm)⟩
        obtain ⟨gd, rfl, -, -, hcell, hfz⟩ := (HR.out.own1 (v := .slice gb na cb) (xs := D ++ dimsVia L' D' (restL L (L'.take j))) (by simp)).slot HLD.out (by omega)
        have c3 := hcell q dq (by rw [List.getElem?_append_left (by rw [HLL.out.2.1]; exact hqm)]; exact hdq)
        have hqna : q < na := by omega
        clear hcell hfz hfi hq2
        by_cases hne : dq = d
        · subst hne
          have HFT2 := Lib.hid (HFT.out.old X1.out (fun _ => by rw [hq, getD_at hdq, getD_at X2.out]))
          have ROLD := Lib.hid (rest_old X1.out hin)
          clear hin hq hdq
          go_wp2_with fail
          refine HF.out.mono ?_
          rintro e w3 ⟨rfl, rfl⟩
          go_wp2
          go_region
          all_goals (try go_wp2)
          all_goals
            go_roundw
            case rel => exact ⟨j + 1, na, ca, cb, ga, some ⟨gd, 0, none⟩, by omega, by go_num, rfl, rfl, by omega, by omega, by rw [ROLD.out]; exact HNA, HFT2, by rw [ROLD.out]; exact Lib.hid HR.out.drew⟩
            case measure => simp [intOf]; omega
        · have hfb := FitV.no X1.out X2.out hin hq (by rw [getD_at hdq]; exact hne)
          rw [← HFB.out] at hfb
          subst hfb
          have HZ := Lib.hid (HNO.out rfl)
          have q1 : (dq == d) = false := by simpa using hne
          clear hin hq hdq HNO HYES hne
          go_wp2_with fail
          refine HF.out.mono ?_
          rintro e w3 ⟨rfl, rfl⟩
          go_wp2
          go_region
          all_goals (try go_wp2)
          all_goals refine bodyPost_ret (v := .tuple #[nilV, nilV, .bool false]) (by simp [results, Try.results84, go_sem]) rfl ?_
          all_goals
            rw [HZ.out.1, HZ.out.2]
            exact ⟨_, _, rfl, ⟨fun r hr => by simp at hr; rcases hr with rfl | rfl <;> exact Own.nils (Nat.le_refl _), by simp [ApartG, Value.ownBlock]⟩, HR.out.drew.bel⟩
      · have hfi := find_new HND'.out X1.out hin
        rw [hfi] at HF
        have RNEW := Lib.hid (rest_new X1.out hin)
        have HFT2 := Lib.hid (HFT.out.old X1.out (fun h => absurd h hin))
        have DNEW : Hid (dimsVia L' D' (restL L (L'.take j) ++ [n]) = dimsVia L' D' (restL L (L'.take j)) ++ [d]) := Lib.hid (by rw [dimsVia_app]; congr 1; simp only [dimsVia, List.map_cons, List.map_nil, idxOf_at HND'.out X1.out, getD_at X2.out])
        clear hfi hin
        have A1 := Lib.hid (HR.out.swap.drew.alloc (.cells #[.int .i64 n] 3))
        have O1 := Lib.hid (A1.out.row (List.mem_cons_self) HNA.out.symm : World.ownsRow _ w.heap.size 3 1 (.slice ga na ca) na (ints (L ++ restL L (L'.take j))))
        go_wp2_with fail
        refine HF.out.mono ?_
        rintro e w3 ⟨rfl, rfl⟩
        go_wp2
        go_region
        go_wp2_with (at_builtin; go_must (refine wpList_append_lies _ rfl _ _ 25 rfl w.heap.size 3 i0 (.int .i64 0) 1 8 Try.underlying25 J0.out J1.out J2.out J3.out rfl (by decide) _ na (ints (L ++ restL L (L'.take j))) rfl O1.out ⟨wr.drew.heap.size, 0, none⟩ 1 1 [.int .i64 n] rfl rfl (cell_one_new _ _ _) ?c2 (by decide) ?c3 ?c4 ?c5 _ rfl ?_))
        case c2 => first | rfl | (intro u hu; simp at hu; subst hu; rfl)
        case c3 => unfold maxLen; omega
        case c4 => omega
        case c5 => exact A1.out.bel.size
        intro g1 cap1 w4 hown hgrow hl1 _
        have R4 := Lib.hid (A1.out.app1 HNA.out.symm hown hgrow (by rw [World.size_alloc]; exact hl1))
        rw [List.append_assoc, ← RNEW.out] at R4
        clear hown hgrow hl1 O1 A1 b0 b1 b2 e1 e2
        obtain ⟨⟨b0, b1, b2⟩, -⟩ := R4.out.at (r := w.heap.size + 1) (a := .slice (some ⟨b, off, none⟩) m' kl) (b := .slice (some ⟨bb, off2, none⟩) m' kd) (c := .slice bx m6 kx) (by rw [← HBS.out]; simp)
        obtain ⟨bb', off3, e3, -, e2⟩ := (HU.out.d.below R4.out.bel (Nat.le_refl _)).cellAt X2.out
        cases e3
        have A2 := Lib.hid (R4.out.swap.alloc (.cells #[.int .i64 d] 3))
        have O2 := Lib.hid (A2.out.row (List.mem_cons_self) HLD.out : World.ownsRow _ w.heap.size 3 1 (.slice gb na cb) na (ints (D ++ dimsVia L' D' (restL L (L'.take j)))))
        go_wp2_with (at_builtin; go_must (refine wpList_append_lies _ rfl _ _ 25 rfl w.heap.size 3 i0 (.int .i64 0) 1 8 Try.underlying25 J0.out J1.out J2.out J3.out rfl (by decide) _ na (ints (D ++ dimsVia L' D' (restL L (L'.take j)))) rfl O2.out ⟨w4.heap.size, 0, none⟩ 1 1 [.int .i64 d] rfl rfl (cell_one_new _ _ _) ?c2 (by decide) ?c3 ?c4 ?c5 _ rfl ?_))
        case c2 => first | rfl | (intro u hu; simp at hu; subst hu; rfl)
        case c3 => unfold maxLen; omega
        case c4 => omega
        case c5 => exact A2.out.bel.size
        intro g2 cap2 w5 hown hgrow hl2 _
        have R5 := Lib.hid (A2.out.app1 HLD.out hown hgrow (by rw [World.size_alloc]; exact hl2))
        rw [List.append_assoc, ← DNEW.out, ← RNEW.out] at R5
        have HNA2 : Hid (na + 1 = (L ++ restL L (L'.take (j + 1))).length) := Lib.hid (by rw [RNEW.out, ← List.append_assoc, List.length_append, ← HNA.out]; rfl)
        clear hown hgrow hl2 O2 A2 b0 b1 b2 e2
        go_wp2
        go_roundw
        case rel => exact ⟨j + 1, na + 1, cap1, cap2, some ⟨g1, 0, none⟩, some ⟨g2, 0, none⟩, by omega, by go_num, rfl, rfl, by omega, by omega, HNA2, HFT2, R5⟩
        case measure => simp [intOf]; omega
    · obtain rfl : j = m' := by omega
      have hfb : fb = true := by
        rw [HFB.out]
        refine fitV_true.2 ?_
        have h := HFT.out
        rw [← HLL.out.2.2.1] at h
        exact h
      subst hfb
      have HZ := Lib.hid (HYES.out rfl)
      have E1 : Hid (L'.take j = L') := Lib.hid (List.take_of_length_le (by rw [HLL.out.2.2.1]; exact Nat.le_refl _))
      rw [E1.out] at HR
      clear HNO HYES
      go_wp2
      refine bodyPost_ret (v := .tuple #[.slice ga na ca, .slice gb na cb, .bool true]) (by simp [results, Try.results84, go_sem]) rfl ?_
      rw [HZ.out.1, HZ.out.2]
      exact ⟨_, _, rfl, HR.out.swap.ownG, HR.out.bel⟩
set_option maxHeartbeats 3200000 in
theorem steps_spec {B : Nat} {lv dv xv jv : Value} {L D X J : List Int} {w : World} (h : RdT B w lv dv xv L D X) (hj : Rd B w jv (ints J)) (hB : B ≤ w.heap.size) (hax : AxesV L D) (hP : prodL D ≤ 4096) (hn : J.Nodup) (h24 : J.length ≤ 24) (hs : ∀ n ∈ L, n ∈ J) :
    Calls Try.prog 124 #[tenV lv dv xv, jv] w (NewRow w (stepL L D J)) := by
  have HT : Hid (RdT w.heap.size w lv dv xv L D X) := Lib.hid ⟨h.l.mono hB, h.d.mono hB, h.x.mono hB⟩
  have HJ := Lib.hid (hj.mono hB)
  have HND := Lib.hid (And.intro hax.2.2.2.2 hn)
  have HS := Lib.hid hs
  have HDD := Lib.hid (fun d hd => hax.2.2.2.1 d hd)
  have HP := Lib.hid hP
  obtain ⟨al, cl, rfl, -⟩ := ints_form h.l
  obtain ⟨ad, cd, rfl, -⟩ := ints_form h.d
  obtain ⟨ax, cx, rfl, -⟩ := ints_form h.x
  obtain ⟨aj, cj, rfl, -⟩ := ints_form hj
  obtain ⟨m, hm⟩ : ∃ m, m = L.length := ⟨_, rfl⟩
  obtain ⟨m3, hm3⟩ : ∃ m, m = X.length := ⟨_, rfl⟩
  obtain ⟨mj, hmj⟩ : ∃ m, m = J.length := ⟨_, rfl⟩
  have e1 : D.length = m := by rw [hm]; exact hax.2.1.symm
  rw [← hm, e1, ← hm3] at HT ⊢
  rw [← hmj] at HJ ⊢
  have HLL : Hid (L.length = m ∧ D.length = m ∧ J.length = mj) := Lib.hid ⟨hm.symm, e1, hmj.symm⟩
  have H12 : m ≤ 12 := by rw [hm]; exact hax.1
  have H24 : mj ≤ 24 := by rw [hmj]; exact h24
  obtain ⟨i0, hi, hz0, hz1, hz2⟩ := info_parts infoInt
  have J0 := Lib.hid hi
  have J1 := Lib.hid hz0
  have J2 := Lib.hid hz1
  have J3 := Lib.hid hz2
  have R0 : Hid (Rs w (w.alloc (.cells #[.slice al m cl, .slice ad m cd, .slice ax m3 cx] 49)) [(w.heap.size, .slice al m cl, .slice ad m cd, .slice ax m3 cx)] []) := Lib.hid ((Rs.start w).box (.slice al m cl) (.slice ad m cd) (.slice ax m3 cx) 49)
  obtain ⟨w0, hw0⟩ : ∃ W, W = w.alloc (.cells #[.slice al m cl, .slice ad m cd, .slice ax m3 cx] 49) := ⟨_, rfl⟩
  clear h hj hB hax hP hn h24 hs hm hm3 hmj e1 hi hz0 hz1 hz2
  go_enter Try.func124, Try.ntmps124
  go_wp2_with (at_make; go_must (refine wpList_make_full _ rfl _ _ 25 rfl (w.heap.size + 1) 3 i0 (.int .i64 0) 1 Try.underlying25 J0.out J1.out J2.out .i64 .i64 _ _ mj rfl rfl rfl rfl (by rw [J3.out]; omega) (by unfold maxLen; omega) (by simp) ?_))
  rw [← hw0] at R0 ⊢
  intro w3 hown hgrow
  have hsz : w.heap.size + 1 = w0.heap.size := by rw [hw0]; simp
  rw [hsz] at hown ⊢
  have R1 := Lib.hid (R0.out.made (n := mj) (w' := w3) (by simp only [Value.cells, Nat.mul_one] at hown ⊢; exact hown) hgrow)
  have R2 : Hid (Rs w w3 [(w.heap.size, .slice al m cl, .slice ad m cd, .slice ax m3 cx)] [(.slice (some ⟨w0.heap.size, 0, none⟩) mj mj, stepTo L D J m)]) := Lib.hid (by
    have e := stepTo_none L D J
    rw [HLL.out.1, HLL.out.2.2] at e
    rw [e]
    exact R1.out)
  obtain ⟨g, hg⟩ : ∃ g, g = w0.heap.size := ⟨_, rfl⟩
  rw [← hg] at R2 ⊢
  obtain ⟨⟨a0, a1, a2⟩, -⟩ := R2.out.at (r := w.heap.size) (a := .slice al m cl) (b := .slice ad m cd) (c := .slice ax m3 cx) (by simp)
  clear hown hgrow R0 R1 hw0 hsz hg
  have EP : Hid (prodL (D.drop m) = 1) := Lib.hid (by rw [List.drop_of_length_le (by rw [HLL.out.2.1]; exact Nat.le_refl _), prodL_nil])
  go_wp2
  go_loopw [6, 7] (fun s i wr => ∃ (j : Nat) (c : Int), j ≤ m ∧ i = .int .i64 ((j : Int) - 1) ∧ s = .int .i64 c ∧ Hid (c = prodL (D.drop j)) ∧ Hid (Rs w wr [(w.heap.size, .slice al m cl, .slice ad m cd, .slice ax m3 cx)] [(.slice (some ⟨g, 0, none⟩) mj mj, stepTo L D J j)])) (fun _ i _ => (intOf i + 1).toNat)
  case atStart => exact ⟨m, 1, by omega, rfl, rfl, Lib.hid EP.out.symm, R2⟩
  case round =>
    clear R2 a0 a1 a2
    obtain ⟨j, c, hj, rfl, rfl, HC, HR⟩ := hrel
    cases j with
    | zero =>
      have q0 : ¬ (0 : Int) ≤ ((0 : Nat) : Int) - 1 := by omega
      go_wp2
      go_ret
      have h1 := HR.out.own1 (v := .slice (some ⟨g, 0, none⟩) mj mj) (xs := stepTo L D J 0) (by simp)
      rw [stepTo_all] at h1
      exact ⟨_, rfl, h1, HR.out.bel⟩
    | succ j =>
      have ej : (((j + 1 : Nat) : Int) - 1) = (j : Int) := by omega
      have hlt : j < m := by omega
      obtain ⟨n, X1⟩ : ∃ n, Hid (L[j]? = some n) := ⟨_, List.getElem?_eq_getElem (by rw [HLL.out.1]; exact hlt)⟩
      obtain ⟨d, X2⟩ : ∃ d, Hid (D[j]? = some d) := ⟨_, List.getElem?_eq_getElem (by rw [HLL.out.2.1]; exact hlt)⟩
      obtain ⟨b, off, rfl, -, e1⟩ := (HT.out.l.below HR.out.bel (Nat.le_refl _)).cellAt X1.out
      obtain ⟨b2, off2, rfl, -, e2⟩ := (HT.out.d.below HR.out.bel (Nat.le_refl _)).cellAt X2.out
      have hmem : n ∈ J := HS.out n (List.mem_of_getElem? X1.out)
      obtain ⟨q, hq⟩ : ∃ q, J.idxOf n = q := ⟨_, rfl⟩
      have hql : q < mj := by rw [← hq, ← HLL.out.2.2]; exact List.idxOf_lt_length_iff.2 hmem
      have hJq : J[q]? = some n := by rw [← hq]; exact at_idxOf hmem
      have HF := Lib.hid (find_spec n (HJ.out.below HR.out.bel (Nat.le_refl _)) (by rw [HLL.out.2.2]; omega))
      rw [show findI J n = (q : Int) by unfold findI; rw [if_pos hmem, hq]] at HF
      have HS2 := Lib.hid (HR.out.put (by rw [stepTo_len, HLL.out.2.2]) q c)
      rw [HC.out, ← stepTo_hit HND.out.1 X1.out HND.out.2 hJq, ← HC.out] at HS2
      obtain ⟨cur, hcur⟩ : ∃ x, (stepTo L D J (j + 1))[q]? = some x := ⟨_, List.getElem?_eq_getElem (by rw [stepTo_len, HLL.out.2.2]; exact hql)⟩
      obtain ⟨g', eg, -, -, hcell, hfz⟩ := (HR.out.own1 (v := .slice (some ⟨g, 0, none⟩) mj mj) (xs := stepTo L D J (j + 1)) (by simp)).slot (by rw [stepTo_len, HLL.out.2.2]) (by omega)
      cases eg
      have c3 := hcell q cur hcur
      have f3 := hfz q
      obtain ⟨⟨a0, a1, a2⟩, -⟩ := HR.out.at (r := w.heap.size) (a := .slice (some ⟨b, off, none⟩) m cl) (b := .slice (some ⟨b2, off2, none⟩) m cd) (c := .slice ax m3 cx) (by simp)
      obtain ⟨⟨y0, y1, y2⟩, -⟩ := HS2.out.at (r := w.heap.size) (a := .slice (some ⟨b, off, none⟩) m cl) (b := .slice (some ⟨b2, off2, none⟩) m cd) (c := .slice ax m3 cx) (by simp)
      obtain ⟨b2', off2', ee, -, e3⟩ := (HT.out.d.below HS2.out.bel (Nat.le_refl _)).cellAt X2.out
      cases ee
      have hD1 : ∀ d ∈ D, 1 ≤ d := fun d hd => (HDD.out d hd).1
      have hc1 : 1 ≤ c := by rw [HC.out]; exact drop_pos hD1 _
      have hstep : c * d = prodL (D.drop j) := by rw [HC.out, prodL_drop_succ D j (by rw [HLL.out.2.1]; exact hlt), getD_at X2.out, Int.mul_comm]
      have hcd : 1 ≤ c * d ∧ c * d ≤ 4096 := by rw [hstep]; exact ⟨drop_pos hD1 _, Int.le_trans (prodL_drop_le hD1 j) HP.out⟩
      have hw : IntKind.i64.wrap (c * d) = c * d := IntWalk.i64_in _ (by omega)
      have HST := Lib.hid hstep
      have hcd1 := hcd.1
      have hcd2 := hcd.2
      clear hmem hq hJq hcell hfz hstep hcd hD1 hcur
      rw [ej]
      go_wp2_with fail
      refine HF.out.mono ?_
      rintro e w4 ⟨rfl, rfl⟩
      go_wp2
      go_roundw
      case rel => exact ⟨j, c * d, by omega, by go_num, rfl, HST, HS2⟩
      case measure => simp [intOf]
set_option maxHeartbeats 6400000 in
theorem keep_spec {B : Nat} {jv dv kv : Value} {J JD keep : List Int} {w : World} (hj : Rd B w jv (ints J)) (hd : Rd B w dv (ints JD)) (hk : Rd B w kv (ints keep)) (hB : B ≤ w.heap.size) (hl : J.length = JD.length) (hn : J.Nodup) (h24 : J.length ≤ 24) (hkl : keep.length ≤ 281474976710656) :
    Calls Try.prog 122 #[jv, dv, kv] w (NewTen w (keepL J keep) (keepD J JD keep) []) := by
  have HJ := Lib.hid (hj.mono hB)
  have HD := Lib.hid (hd.mono hB)
  have HK := Lib.hid (hk.mono hB)
  have HND := Lib.hid hn
  have HKL := Lib.hid hkl
  obtain ⟨aj, cj, rfl, -⟩ := ints_form hj
  obtain ⟨ad, cd, rfl, -⟩ := ints_form hd
  obtain ⟨ak, ck, rfl, -⟩ := ints_form hk
  obtain ⟨m, hm⟩ : ∃ m, m = J.length := ⟨_, rfl⟩
  obtain ⟨mk, hmk⟩ : ∃ m, m = keep.length := ⟨_, rfl⟩
  rw [← hl, ← hm] at HD ⊢
  rw [← hm] at HJ h24
  rw [← hmk] at HK ⊢
  have HLL : Hid (J.length = m ∧ JD.length = m) := Lib.hid ⟨hm.symm, by rw [hm, hl]⟩
  obtain ⟨i0, hi, hz0, hz1, hz2⟩ := info_parts infoInt
  have J0 := Lib.hid hi
  have J1 := Lib.hid hz0
  have J2 := Lib.hid hz1
  have J3 := Lib.hid hz2
  have R0 : Hid (Rs w ((w.alloc (.cells #[nilV, nilV, nilV] 49)).alloc (.cells #[nilV, nilV, nilV] 49)) [(w.heap.size + 1, nilV, nilV, nilV), (w.heap.size, nilV, nilV, nilV)] [(nilV, []), (nilV, [])]) := by
    have h := (((Rs.start w).box nilV nilV nilV 49).box nilV nilV nilV 49).nil.nil
    simp only [World.size_alloc] at h
    exact h
  clear hj hd hk hB hl hn hkl hm hmk hi hz0 hz1 hz2
  go_enter Try.func122, Try.ntmps122
  go_wp2
  go_loopw [13] (fun i wr => ∃ (j na ca cb : Nat) (ga gb : Option Addr), j ≤ m ∧ i = .int .i64 j ∧ na ≤ j ∧ Hid (na = (keepL (J.take j) keep).length) ∧ Hid (Rs w wr [(w.heap.size + 1, .slice ga na ca, .slice gb na cb, nilV), (w.heap.size, nilV, nilV, nilV)] [(.slice ga na ca, keepL (J.take j) keep), (.slice gb na cb, dimsVia J JD (keepL (J.take j) keep))])) (fun i _ => m - (intOf i).toNat)
  case atStart => exact ⟨0, 0, 0, 0, none, none, by omega, rfl, by omega, rfl, R0⟩
  case round =>
    clear R0
    obtain ⟨j, na, ca, cb, ga, gb, hj, rfl, hna, HNA, HR⟩ := hrel
    by_cases hlt : j < m
    · obtain ⟨n, X1⟩ : ∃ n, Hid (J[j]? = some n) := ⟨_, List.getElem?_eq_getElem (by rw [HLL.out.1]; exact hlt)⟩
      obtain ⟨d, X2⟩ : ∃ d, Hid (JD[j]? = some d) := ⟨_, List.getElem?_eq_getElem (by rw [HLL.out.2]; exact hlt)⟩
      obtain ⟨b, off, rfl, -, e1⟩ := (HJ.out.below HR.out.bel (Nat.le_refl _)).cellAt X1.out
      have HF := Lib.hid (find_spec n (HK.out.below HR.out.bel (Nat.le_refl _)) HKL.out)
      by_cases hin : n ∈ keep
      · have hfi : 0 ≤ findI keep n := Int.not_lt.1 (fun h => (findI_neg.1 h) hin)
        obtain ⟨z, hz⟩ : ∃ z, z = findI keep n := ⟨_, rfl⟩
        rw [← hz] at HF hfi
        have q0 : decide ((0 : Int) ≤ z) = true := by simpa using hfi
        have KY := Lib.hid (keep_yes X1.out hin)
        have KD := Lib.hid (keepD_step HND.out X1.out X2.out hin)
        have HNA2 : Hid (na + 1 = (keepL (J.take (j + 1)) keep).length) := Lib.hid (by rw [KY.out, List.length_append, ← HNA.out]; rfl)
        have HDL : Hid ((dimsVia J JD (keepL (J.take j) keep)).length = na) := Lib.hid (by rw [HNA.out]; simp [dimsVia])
        clear hz hin hfi
        obtain ⟨⟨o0, o1, o2⟩, f0, f1, f2⟩ := HR.out.at (r := w.heap.size + 1) (a := .slice ga na ca) (b := .slice gb na cb) (c := nilV) (by simp)
        have A1 := Lib.hid (HR.out.alloc (.cells #[.int .i64 n] 3))
        have O1 := Lib.hid (A1.out.row (List.mem_cons_self) HNA.out.symm : World.ownsRow _ w.heap.size 3 1 (.slice ga na ca) na (ints (keepL (J.take j) keep)))
        go_wp2_with fail
        refine HF.out.mono ?_
        rintro e w3 ⟨rfl, rfl⟩
        go_wp2_with (at_builtin; go_must (refine wpList_append_lies _ rfl _ _ 25 rfl w.heap.size 3 i0 (.int .i64 0) 1 8 Try.underlying25 J0.out J1.out J2.out J3.out rfl (by decide) _ na (ints (keepL (J.take j) keep)) rfl O1.out ⟨wr.heap.size, 0, none⟩ 1 1 [.int .i64 n] rfl rfl (cell_one_new _ _ _) ?c2 (by decide) ?c3 ?c4 ?c5 _ rfl ?_))
        case c2 => first | rfl | (intro u hu; simp at hu; subst hu; rfl)
        case c3 => unfold maxLen; omega
        case c4 => omega
        case c5 => exact A1.out.bel.size
        intro g1 cap1 w2 hown hgrow hl1 _
        have R2 := Lib.hid (A1.out.app1 HNA.out.symm hown hgrow (by rw [World.size_alloc]; exact hl1))
        rw [← KY.out] at R2
        clear hown hgrow hl1 O1 A1 o0 o1 o2 f0 f1 f2 e1
        obtain ⟨⟨o0, o1, o2⟩, f0, f1, f2⟩ := R2.out.at (r := w.heap.size + 1) (a := .slice ga na ca) (b := .slice gb na cb) (c := nilV) (by simp)
        have R3 := Lib.hid (R2.out.first (.slice (some ⟨g1, 0, none⟩) (na + 1) cap1))
        obtain ⟨bd, offd, rfl, -, e2⟩ := (HD.out.below R3.out.bel (Nat.le_refl _)).cellAt X2.out
        obtain ⟨⟨-, p1, -⟩, -, pf1, -⟩ := R3.out.at (r := w.heap.size + 1) (a := .slice (some ⟨g1, 0, none⟩) (na + 1) cap1) (b := .slice gb na cb) (c := nilV) (by simp)
        go_wp2
        obtain ⟨wk, hwk⟩ : ∃ W, W = w2.setCell ⟨w.heap.size + 1, 0, none⟩ (.slice (some ⟨g1, 0, none⟩) (na + 1) cap1) := ⟨_, rfl⟩
        rw [← hwk] at R3 p1 pf1 e2 ⊢
        have R4 := Lib.hid R3.out.swap.drew
        have A5 := Lib.hid ((R3.out.swap.alloc (.cells #[.int .i64 d] 3)).drew)
        have O5 := Lib.hid (A5.out.row (List.mem_cons_self) HDL.out : World.ownsRow _ w.heap.size 3 1 (.slice gb na cb) na (ints (dimsVia J JD (keepL (J.take j) keep))))
        obtain ⟨⟨-, pd, -⟩, -, -, -⟩ := R4.out.at (r := w.heap.size + 1) (a := .slice (some ⟨g1, 0, none⟩) (na + 1) cap1) (b := .slice gb na cb) (c := nilV) (by simp)
        obtain ⟨⟨-, pa, -⟩, -, -, -⟩ := A5.out.at (r := w.heap.size + 1) (a := .slice (some ⟨g1, 0, none⟩) (na + 1) cap1) (b := .slice gb na cb) (c := nilV) (by simp)
        obtain ⟨bd2, offd2, ee, -, ed⟩ := (HD.out.below R4.out.bel (Nat.le_refl _)).cellAt X2.out
        cases ee
        clear hwk o0 o1 o2 f0 f1 f2 p1 pf1 e2 R2
        go_region_law (first
          | (refine step_append_lies _ rfl (.tmp 29) (.tmp 34) 25 rfl w.heap.size 3 i0 (.int .i64 0) 1 8 Try.underlying25 J0.out J1.out J2.out J3.out rfl Nat.one_pos (.slice gb na cb) na (ints (dimsVia J JD (keepL (J.take j) keep))) rfl O5.out ⟨wk.heap.size, 0, none⟩ 1 1 [.int .i64 d] rfl rfl (cell_one_new _ _ _) ?_ (by decide) (by unfold maxLen; omega) (by omega) A5.out.bel.size _ rfl ?_
             · intro u hu; simp at hu; subst hu; rfl
             intro g2 cap2 w5 hown hgrow hl2 _
             have R6 := Lib.hid (A5.out.app1 HDL.out hown hgrow (by simp only [World.size_drew, World.size_alloc] at hl2 ⊢; exact hl2))
             rw [KD.out] at R6
             clear hown hgrow hl2 pd pa ed
             obtain ⟨⟨-, p1, -⟩, -, f1, -⟩ := R6.out.at (r := w.heap.size + 1) (a := .slice (some ⟨g1, 0, none⟩) (na + 1) cap1) (b := .slice gb na cb) (c := nilV) (by simp)
             have R7 : Hid (Rs w (w5.setCell ⟨w.heap.size + 1, 1, none⟩ (.slice (some ⟨g2, 0, none⟩) (na + 1) cap2)) [(w.heap.size + 1, .slice (some ⟨g1, 0, none⟩) (na + 1) cap1, .slice (some ⟨g2, 0, none⟩) (na + 1) cap2, nilV), (w.heap.size, nilV, nilV, nilV)] [(.slice (some ⟨g1, 0, none⟩) (na + 1) cap1, keepL (J.take (j + 1)) keep), (.slice (some ⟨g2, 0, none⟩) (na + 1) cap2, dimsVia J JD (keepL (J.take (j + 1)) keep))]) := by
               have h := R6.out.swap.setB 1 (.slice (some ⟨g2, 0, none⟩) (na + 1) cap2)
               simp only [if_true, if_false, Nat.one_ne_zero, Nat.reduceEqDiff] at h
               exact h))
        all_goals (try go_wp2)
        all_goals
          go_roundw
          case rel => exact ⟨j + 1, na + 1, cap1, cap2, some ⟨g1, 0, none⟩, some ⟨g2, 0, none⟩, by omega, by go_num, by omega, HNA2, R7⟩
          case measure => simp [intOf]; omega
      · have hfi : findI keep n < 0 := findI_neg.2 hin
        obtain ⟨z, hz⟩ : ∃ z, z = findI keep n := ⟨_, rfl⟩
        rw [← hz] at HF hfi
        have q0 : decide ((0 : Int) ≤ z) = false := by simpa using hfi
        have KN := Lib.hid (keep_no X1.out hin)
        clear hz hin hfi
        go_wp2_with fail
        refine HF.out.mono ?_
        rintro e w3 ⟨rfl, rfl⟩
        go_wp2
        go_roundw
        case rel => exact ⟨j + 1, na, ca, cb, ga, gb, by omega, by go_num, by omega, by rw [KN.out]; exact HNA, by rw [KN.out]; exact HR⟩
        case measure => simp [intOf]; omega
    · obtain rfl : j = m := by omega
      have E1 : Hid (J.take j = J) := Lib.hid (List.take_of_length_le (by rw [HLL.out.1]; exact Nat.le_refl _))
      rw [E1.out] at HR
      obtain ⟨⟨o0, o1, o2⟩, -⟩ := HR.out.at (r := w.heap.size + 1) (a := .slice ga na ca) (b := .slice gb na cb) (c := nilV) (by simp)
      obtain ⟨⟨t0, t1, t2⟩, f0, f1, f2⟩ := HR.out.at (r := w.heap.size) (a := nilV) (b := nilV) (c := nilV) (by simp)
      go_wp2
      refine bodyPost_ret (v := tenV (.slice ga na ca) (.slice gb na cb) nilV) (by simp [results, Try.results122, go_sem, t0, t1, t2]) rfl ?_
      have R9 := ((HR.out.swapB.set3 (.slice ga na ca) (.slice gb na cb) nilV).nil.perm (rows' := [(.slice ga na ca, keepL J keep), (.slice gb na cb, dimsVia J JD (keepL J keep)), (nilV, [])]) (List.Perm.trans (List.Perm.swap _ _ _) (List.Perm.cons _ (List.Perm.swap _ _ _))))
      exact ⟨_, _, _, rfl, R9.ownG, R9.bel⟩
set_option maxHeartbeats 3200000 in
theorem fits_pair_spec {B B' : Nat} {lv dv xv lu du xu kv : Value} {L D X L' D' X' keep : List Int} {w : World} (ha : RdT B w lv dv xv L D X) (hb : RdT B' w lu du xu L' D' X') (hk : Rd B w kv (ints keep)) (hB : B ≤ w.heap.size) (hB' : B' ≤ w.heap.size) (hax : AxesV L D) (hax' : AxesV L' D') (hkl : keep.length ≤ 281474976710656) :
    Calls Try.prog 78 #[tenV lv dv xv, tenV lu du xu, kv] w fun e w' => e = .returned (.bool (pfB L D L' D' keep)) ∧ Below w.heap.size w w' := by
  have HK : Hid (Rd w.heap.size w kv (ints keep)) := Lib.hid (hk.mono hB)
  obtain ⟨ak, ck, rfl, -⟩ := ints_form hk
  obtain ⟨mk, hmk⟩ : ∃ m, m = keep.length := ⟨_, rfl⟩
  rw [← hmk] at HK ⊢
  have HA : Hid (RdT w.heap.size w lv dv xv L D X) := Lib.hid ⟨ha.l.mono hB, ha.d.mono hB, ha.x.mono hB⟩
  have HU : Hid (RdT w.heap.size w lu du xu L' D' X') := Lib.hid ⟨hb.l.mono hB', hb.d.mono hB', hb.x.mono hB'⟩
  obtain ⟨al, cl, rfl, -⟩ := ints_form ha.l
  obtain ⟨ad, cd, rfl, -⟩ := ints_form ha.d
  obtain ⟨ax, cx, rfl, -⟩ := ints_form ha.x
  obtain ⟨bl, kl, rfl, -⟩ := ints_form hb.l
  obtain ⟨bd, kd, rfl, -⟩ := ints_form hb.d
  obtain ⟨bx, kx, rfl, -⟩ := ints_form hb.x
  obtain ⟨m1, hm1⟩ : ∃ m, m = L.length := ⟨_, rfl⟩
  obtain ⟨m2, hm2⟩ : ∃ m, m = D.length := ⟨_, rfl⟩
  obtain ⟨m3, hm3⟩ : ∃ m, m = X.length := ⟨_, rfl⟩
  obtain ⟨m4, hm4⟩ : ∃ m, m = L'.length := ⟨_, rfl⟩
  obtain ⟨m5, hm5⟩ : ∃ m, m = D'.length := ⟨_, rfl⟩
  obtain ⟨m6, hm6⟩ : ∃ m, m = X'.length := ⟨_, rfl⟩
  rw [← hm1, ← hm2, ← hm3] at HA ⊢
  rw [← hm4, ← hm5, ← hm6] at HU ⊢
  have R0 : Hid (Rs w ((w.alloc (.cells #[.slice al m1 cl, .slice ad m2 cd, .slice ax m3 cx] 49)).alloc (.cells #[.slice bl m4 kl, .slice bd m5 kd, .slice bx m6 kx] 49)) [(w.heap.size + 1, .slice bl m4 kl, .slice bd m5 kd, .slice bx m6 kx), (w.heap.size, .slice al m1 cl, .slice ad m2 cd, .slice ax m3 cx)] []) := by
    have h := ((Rs.start w).box (.slice al m1 cl) (.slice ad m2 cd) (.slice ax m3 cx) 49).box (.slice bl m4 kl) (.slice bd m5 kd) (.slice bx m6 kx) 49
    simp only [World.size_alloc] at h
    exact h
  have HJN := Lib.hid (fun (hax : AxesV L D) (hax' : AxesV L' D') (w1 : World) (hb : Below w.heap.size w w1) => join_spec (HA.out.below hb (Nat.le_refl _)) (HU.out.below hb (Nat.le_refl _)) hb.size hb.size hax hax')
  have HJ := Lib.hid (joinD_ax hax hax')
  have HQ := Lib.hid (HJN.out hax hax')
  have HKL := Lib.hid hkl
  obtain ⟨J, hJ⟩ : ∃ l, l = joinL L L' := ⟨_, rfl⟩
  obtain ⟨JD, hJD⟩ : ∃ l, l = joinD L D L' D' := ⟨_, rfl⟩
  obtain ⟨fb, hfb⟩ : ∃ b, b = fitV L D L' D' := ⟨_, rfl⟩
  have HRES : Hid (pfB L D L' D' keep = (fb && (decide (prodL JD ≤ 65536) && decide (0 ≤ sizeI (keepL J keep) (keepD J JD keep))))) := Lib.hid (by rw [hfb, hJ, hJD]; rfl)
  rw [HRES.out]
  rw [← hJ, ← hJD] at HJ
  rw [← hJ, ← hJD, ← hfb] at HQ
  clear ha hb hk hB hB' hax hax' hkl hm1 hm2 hm3 hm4 hm5 hm6 hmk HJN HRES hJ hJD hfb
  obtain ⟨⟨a0, a1, a2⟩, -⟩ := R0.out.at (r := w.heap.size) (a := .slice al m1 cl) (b := .slice ad m2 cd) (c := .slice ax m3 cx) (by simp)
  obtain ⟨⟨b0, b1, b2⟩, -⟩ := R0.out.at (r := w.heap.size + 1) (a := .slice bl m4 kl) (b := .slice bd m5 kd) (c := .slice bx m6 kx) (by simp)
  cases fb with
  | false =>
    obtain ⟨r, hr⟩ : ∃ b, b = (false && (decide (prodL JD ≤ 65536) && decide (0 ≤ sizeI (keepL J keep) (keepD J JD keep)))) := ⟨_, rfl⟩
    rw [← hr]
    have HR := Lib.hid hr
    clear hr
    go_enter Try.func78, Try.ntmps78
    go_wp2_with fail
    refine (HQ.out _ R0.out.bel).mono ?_
    clear a0 a1 a2 b0 b1 b2
    rintro e w1 ⟨u, v, rfl, ho, hb⟩
    have R1 := Lib.hid (R0.out.step hb)
    clear ho hb
    go_wp2
    go_ret
    exact ⟨by rw [HR.out]; rfl, R1.out.bel⟩
  | true =>
    obtain ⟨c, hc⟩ : ∃ c, c = capW JD := ⟨_, rfl⟩
    have HCW := Lib.hid (capW_is (D := JD) (fun d hd => (HJ.out.1 d hd).1))
    obtain ⟨s, hs⟩ : ∃ s, s = sizeI (keepL J keep) (keepD J JD keep) := ⟨_, rfl⟩
    have HR : Hid ((true && (decide (prodL JD ≤ 65536) && decide (0 ≤ s))) = (decide (c ≤ 65536) && decide (0 ≤ s))) := Lib.hid (by
      have h := HCW.out.1
      rw [← hc] at h
      rw [Bool.true_and]
      congr 1
      by_cases h2 : prodL JD ≤ 65536
      · rw [decide_eq_true h2, decide_eq_true (by omega)]
      · rw [decide_eq_false h2, decide_eq_false (by omega)])
    rw [← hs, HR.out]
    have HC := Lib.hid hc
    have HSZ := Lib.hid hs
    clear HR hc hs
    go_enter Try.func78, Try.ntmps78
    go_wp2_with fail
    refine (HQ.out _ R0.out.bel).mono ?_
    clear a0 a1 a2 b0 b1 b2
    rintro e w1 ⟨u, v, rfl, ho, hb⟩
    simp only [if_true] at ho
    have R1 := Lib.hid (R0.out.step hb)
    obtain ⟨g1, c1, rfl, -⟩ := ints_form (show Own _ _ _ u J from ho.1 (u, J) (by simp)).rd
    obtain ⟨g2, c2, rfl, -⟩ := ints_form (show Own _ _ _ v JD from ho.1 (v, JD) (by simp)).rd
    have RJ := Lib.hid (ho.1 (.slice g1 J.length c1, J) (by simp)).rd
    have RD := Lib.hid (ho.1 (.slice g2 JD.length c2, JD) (by simp)).rd
    clear ho hb
    have HPW := Lib.hid (product_work RD.out (by rw [← HJ.out.2.2.2]; have := HJ.out.2.2.1; omega) HJ.out.1)
    rw [← HC.out] at HPW
    go_wp2_with fail
    refine HPW.out.mono ?_
    rintro e w2 ⟨rfl, rfl⟩
    by_cases hcw : c ≤ 65536
    · have q0 : decide (c ≤ 65536) = true := by simpa using hcw
      have HKS := Lib.hid (keep_spec (keep := keep) (w := w1) (B := w1.heap.size) RJ.out RD.out ((HK.out.below R1.out.bel (Nat.le_refl _)).mono R1.out.bel.size) (Nat.le_refl _) HJ.out.2.2.2 HJ.out.2.1 HJ.out.2.2.1 HKL.out)
      go_wp2_with fail
      refine HKS.out.mono ?_
      rintro e w3 ⟨v1, v2, v3, rfl, ho, hb⟩
      have R3 := Lib.hid (R1.out.step hb)
      have HZ := Lib.hid (size_spec (w := w3) (B := w3.heap.size) ⟨ho.rows.1.rd, ho.rows.2.1.rd, ho.rows.2.2.rd⟩ (Nat.le_refl _) ⟨by have h := keep_len J keep; have := HJ.out.2.2.1; omega, by have h := keep_len J keep; have := HJ.out.2.2.1; show (dimsVia _ _ _).length ≤ _; simp only [dimsVia, List.length_map]; omega, by simp⟩)
      rw [← HSZ.out] at HZ
      clear ho hb
      go_wp2_with fail
      refine HZ.out.mono ?_
      rintro e w4 ⟨rfl, hb⟩
      have R4 := Lib.hid (R3.out.step hb)
      clear hb
      go_wp2
      go_ret
      exact ⟨by rw [q0, Bool.true_and]; rfl, R4.out.bel⟩
    · have q0 : decide (c ≤ 65536) = false := by simpa using hcw
      go_wp2
      go_ret
      exact ⟨by rw [q0, Bool.false_and]; rfl, R1.out.bel⟩
set_option maxHeartbeats 3200000 in
theorem join_size_spec {B B' : Nat} {lv dv xv lu du xu : Value} {L D X L' D' X' : List Int} {w : World} (ha : RdT B w lv dv xv L D X) (hb : RdT B' w lu du xu L' D' X') (hB : B ≤ w.heap.size) (hB' : B' ≤ w.heap.size) (hn : LenT L D X) (hn' : LenT L' D' X') :
    Calls Try.prog 44 #[tenV lv dv xv, tenV lu du xu] w fun e w' => e = .returned (.int .i64 (joinSizeI L D L' D')) ∧ Below w.heap.size w w' := by
  have HA : Hid (RdT w.heap.size w lv dv xv L D X) := Lib.hid ⟨ha.l.mono hB, ha.d.mono hB, ha.x.mono hB⟩
  have HU : Hid (RdT w.heap.size w lu du xu L' D' X') := Lib.hid ⟨hb.l.mono hB', hb.d.mono hB', hb.x.mono hB'⟩
  obtain ⟨al, cl, rfl, -⟩ := ints_form ha.l
  obtain ⟨ad, cd, rfl, -⟩ := ints_form ha.d
  obtain ⟨ax, cx, rfl, -⟩ := ints_form ha.x
  obtain ⟨bl, kl, rfl, -⟩ := ints_form hb.l
  obtain ⟨bd, kd, rfl, -⟩ := ints_form hb.d
  obtain ⟨bx, kx, rfl, -⟩ := ints_form hb.x
  obtain ⟨m1, hm1⟩ : ∃ m, m = L.length := ⟨_, rfl⟩
  obtain ⟨m2, hm2⟩ : ∃ m, m = D.length := ⟨_, rfl⟩
  obtain ⟨m3, hm3⟩ : ∃ m, m = X.length := ⟨_, rfl⟩
  obtain ⟨m4, hm4⟩ : ∃ m, m = L'.length := ⟨_, rfl⟩
  obtain ⟨m5, hm5⟩ : ∃ m, m = D'.length := ⟨_, rfl⟩
  obtain ⟨m6, hm6⟩ : ∃ m, m = X'.length := ⟨_, rfl⟩
  rw [← hm1, ← hm2, ← hm3] at HA ⊢
  rw [← hm4, ← hm5, ← hm6] at HU ⊢
  have R0 : Hid (Rs w ((w.alloc (.cells #[.slice al m1 cl, .slice ad m2 cd, .slice ax m3 cx] 49)).alloc (.cells #[.slice bl m4 kl, .slice bd m5 kd, .slice bx m6 kx] 49)) [(w.heap.size + 1, .slice bl m4 kl, .slice bd m5 kd, .slice bx m6 kx), (w.heap.size, .slice al m1 cl, .slice ad m2 cd, .slice ax m3 cx)] []) := by
    have h := ((Rs.start w).box (.slice al m1 cl) (.slice ad m2 cd) (.slice ax m3 cx) 49).box (.slice bl m4 kl) (.slice bd m5 kd) (.slice bx m6 kx) 49
    simp only [World.size_alloc] at h
    exact h
  have HJN := Lib.hid (fun (hax : AxesV L D) (hax' : AxesV L' D') (w1 : World) (hb : Below w.heap.size w w1) => join_spec (HA.out.below hb (Nat.le_refl _)) (HU.out.below hb (Nat.le_refl _)) hb.size hb.size hax hax')
  have HS1 := Lib.hid (fun (w1 : World) (hb : Below w.heap.size w w1) => size_spec (HA.out.below hb (Nat.le_refl _)) hb.size hn)
  have HS2 := Lib.hid (fun (w1 : World) (hb : Below w.heap.size w w1) => size_spec (HU.out.below hb (Nat.le_refl _)) hb.size hn')
  obtain ⟨z1, hz1⟩ : ∃ z, z = sizeI L D := ⟨_, rfl⟩
  obtain ⟨z2, hz2⟩ : ∃ z, z = sizeI L' D' := ⟨_, rfl⟩
  obtain ⟨r, hr⟩ : ∃ z, z = joinSizeI L D L' D' := ⟨_, rfl⟩
  have HR : Hid (r = if z1 < 0 ∨ z2 < 0 then -1 else joinI L D L' D') := Lib.hid (by rw [hr, hz1, hz2]; rfl)
  have HA1 := Lib.hid (fun h : ¬ z1 < 0 => (sizeI_axes (hz1 ▸ h)).1)
  have HA2 := Lib.hid (fun h : ¬ z2 < 0 => (sizeI_axes (hz2 ▸ h)).1)
  rw [← hz1] at HS1
  rw [← hz2] at HS2
  rw [← hr]
  clear ha hb hB hB' hn hn' hm1 hm2 hm3 hm4 hm5 hm6 hz1 hz2 hr
  obtain ⟨⟨a0, a1, a2⟩, -⟩ := R0.out.at (r := w.heap.size) (a := .slice al m1 cl) (b := .slice ad m2 cd) (c := .slice ax m3 cx) (by simp)
  obtain ⟨⟨b0, b1, b2⟩, -⟩ := R0.out.at (r := w.heap.size + 1) (a := .slice bl m4 kl) (b := .slice bd m5 kd) (c := .slice bx m6 kx) (by simp)
  by_cases h1 : z1 < 0
  · have q1 : decide (z1 < 0) = true := by simpa using h1
    have HRR : Hid (r = -1) := Lib.hid (by rw [HR.out, if_pos (.inl h1)])
    go_enter Try.func44, Try.ntmps44
    go_wp2_with fail
    refine (HS1.out _ R0.out.bel).mono ?_
    clear a0 a1 a2 b0 b1 b2
    rintro e w1 ⟨rfl, hb⟩
    have R1 := Lib.hid (R0.out.step hb)
    clear hb
    go_wp2
    go_ret
    exact ⟨by rw [HRR.out]; rfl, R1.out.bel⟩
  · have q1 : decide (z1 < 0) = false := by simpa using h1
    by_cases h2 : z2 < 0
    · have q2 : decide (z2 < 0) = true := by simpa using h2
      have HRR : Hid (r = -1) := Lib.hid (by rw [HR.out, if_pos (.inr h2)])
      go_enter Try.func44, Try.ntmps44
      go_wp2_with fail
      refine (HS1.out _ R0.out.bel).mono ?_
      clear a0 a1 a2 b0 b1 b2
      rintro e w1 ⟨rfl, hb⟩
      have R1 := Lib.hid (R0.out.step hb)
      clear hb
      obtain ⟨⟨a0, a1, a2⟩, -⟩ := R1.out.at (r := w.heap.size) (a := .slice al m1 cl) (b := .slice ad m2 cd) (c := .slice ax m3 cx) (by simp)
      obtain ⟨⟨b0, b1, b2⟩, -⟩ := R1.out.at (r := w.heap.size + 1) (a := .slice bl m4 kl) (b := .slice bd m5 kd) (c := .slice bx m6 kx) (by simp)
      go_wp2_with fail
      refine (HS2.out _ R1.out.bel).mono ?_
      clear a0 a1 a2 b0 b1 b2
      rintro e w2 ⟨rfl, hb⟩
      have R2 := Lib.hid (R1.out.step hb)
      clear hb
      go_wp2
      go_ret
      exact ⟨by rw [HRR.out]; rfl, R2.out.bel⟩
    · have q2 : decide (z2 < 0) = false := by simpa using h2
      have hax := HA1.out h1
      have hax' := HA2.out h2
      have HJ := Lib.hid (joinD_ax hax hax')
      have HQ := Lib.hid (HJN.out hax hax')
      have HRR : Hid (r = joinI L D L' D') := Lib.hid (by rw [HR.out, if_neg (by omega)])
      obtain ⟨J, hJ⟩ : ∃ l, l = joinL L L' := ⟨_, rfl⟩
      obtain ⟨JD, hJD⟩ : ∃ l, l = joinD L D L' D' := ⟨_, rfl⟩
      obtain ⟨fb, hfb⟩ : ∃ b, b = fitV L D L' D' := ⟨_, rfl⟩
      have HR2 : Hid (r = if fb = true then capW JD else -1) := Lib.hid (by rw [HRR.out, hfb, hJD]; rfl)
      rw [← hJ, ← hJD] at HJ
      rw [← hJ, ← hJD, ← hfb] at HQ
      clear hax hax' HJN HR HRR HA1 HA2 hJ hJD hfb
      cases fb with
      | false =>
        have HR3 : Hid (r = -1) := Lib.hid (by rw [HR2.out]; rfl)
        clear HR2
        go_enter Try.func44, Try.ntmps44
        go_wp2_with fail
        refine (HS1.out _ R0.out.bel).mono ?_
        clear a0 a1 a2 b0 b1 b2
        rintro e w1 ⟨rfl, hb⟩
        have R1 := Lib.hid (R0.out.step hb)
        clear hb
        obtain ⟨⟨a0, a1, a2⟩, -⟩ := R1.out.at (r := w.heap.size) (a := .slice al m1 cl) (b := .slice ad m2 cd) (c := .slice ax m3 cx) (by simp)
        obtain ⟨⟨b0, b1, b2⟩, -⟩ := R1.out.at (r := w.heap.size + 1) (a := .slice bl m4 kl) (b := .slice bd m5 kd) (c := .slice bx m6 kx) (by simp)
        go_wp2_with fail
        refine (HS2.out _ R1.out.bel).mono ?_
        clear a0 a1 a2 b0 b1 b2
        rintro e w2 ⟨rfl, hb⟩
        have R2 := Lib.hid (R1.out.step hb)
        clear hb
        obtain ⟨⟨a0, a1, a2⟩, -⟩ := R2.out.at (r := w.heap.size) (a := .slice al m1 cl) (b := .slice ad m2 cd) (c := .slice ax m3 cx) (by simp)
        obtain ⟨⟨b0, b1, b2⟩, -⟩ := R2.out.at (r := w.heap.size + 1) (a := .slice bl m4 kl) (b := .slice bd m5 kd) (c := .slice bx m6 kx) (by simp)
        go_wp2_with fail
        refine (HQ.out _ R2.out.bel).mono ?_
        clear a0 a1 a2 b0 b1 b2
        rintro e w3 ⟨u, v, rfl, ho, hb⟩
        have R3 := Lib.hid (R2.out.step hb)
        clear ho hb
        go_wp2
        go_ret
        exact ⟨by rw [HR3.out]; rfl, R3.out.bel⟩
      | true =>
        have HR3 : Hid (r = capW JD) := Lib.hid (by rw [HR2.out]; rfl)
        clear HR2
        go_enter Try.func44, Try.ntmps44
        go_wp2_with fail
        refine (HS1.out _ R0.out.bel).mono ?_
        clear a0 a1 a2 b0 b1 b2
        rintro e w1 ⟨rfl, hb⟩
        have R1 := Lib.hid (R0.out.step hb)
        clear hb
        obtain ⟨⟨a0, a1, a2⟩, -⟩ := R1.out.at (r := w.heap.size) (a := .slice al m1 cl) (b := .slice ad m2 cd) (c := .slice ax m3 cx) (by simp)
        obtain ⟨⟨b0, b1, b2⟩, -⟩ := R1.out.at (r := w.heap.size + 1) (a := .slice bl m4 kl) (b := .slice bd m5 kd) (c := .slice bx m6 kx) (by simp)
        go_wp2_with fail
        refine (HS2.out _ R1.out.bel).mono ?_
        clear a0 a1 a2 b0 b1 b2
        rintro e w2 ⟨rfl, hb⟩
        have R2 := Lib.hid (R1.out.step hb)
        clear hb
        obtain ⟨⟨a0, a1, a2⟩, -⟩ := R2.out.at (r := w.heap.size) (a := .slice al m1 cl) (b := .slice ad m2 cd) (c := .slice ax m3 cx) (by simp)
        obtain ⟨⟨b0, b1, b2⟩, -⟩ := R2.out.at (r := w.heap.size + 1) (a := .slice bl m4 kl) (b := .slice bd m5 kd) (c := .slice bx m6 kx) (by simp)
        go_wp2_with fail
        refine (HQ.out _ R2.out.bel).mono ?_
        clear a0 a1 a2 b0 b1 b2
        rintro e w3 ⟨u, v, rfl, ho, hb⟩
        simp only [if_true] at ho
        have R3 := Lib.hid (R2.out.step hb)
        obtain ⟨g1, c1, rfl, -⟩ := ints_form (show Own _ _ _ u J from ho.1 (u, J) (by simp)).rd
        obtain ⟨g2, c2, rfl, -⟩ := ints_form (show Own _ _ _ v JD from ho.1 (v, JD) (by simp)).rd
        have RD := Lib.hid (ho.1 (.slice g2 JD.length c2, JD) (by simp)).rd
        clear ho hb
        have HPW := Lib.hid (product_work RD.out (by rw [← HJ.out.2.2.2]; have := HJ.out.2.2.1; omega) HJ.out.1)
        rw [← HR3.out] at HPW
        go_wp2_with fail
        refine HPW.out.mono ?_
        rintro e w4 ⟨rfl, rfl⟩
        go_wp2
        go_ret
        exact ⟨rfl, R3.out.bel⟩
set_option maxHeartbeats 64000000 in
theorem pair_spec {B : Nat} {lv dv xv lu du xu kv : Value} {k p q : Int} {L D X L' D' X' keep : List Int} {wd N1 N2 : Nat} {w : World} (ha : RdT B w lv dv xv L D X) (hb : RdT B w lu du xu L' D' X') (hk : Rd B w kv (ints keep)) (hB : B ≤ w.heap.size) (hr : ringB k p q = true) (hw : widthI k q = (wd : Int)) (hw1 : 1 ≤ wd) (hw6 : wd ≤ 6) (fa : TenF k p q L D X wd N1) (fb : TenF k p q L' D' X' wd N2) (hf : FitV L D L' D') (hP : prodL (joinD L D L' D') ≤ 65536) (hK : ¬ sizeI (keepL (joinL L L') keep) (keepD (joinL L L') (joinD L D L' D') keep) < 0) (hkl : keep.length ≤ 281474976710656) :
    Calls Try.prog 79 #[ringV k p q, tenV lv dv xv, tenV lu du xu, kv] w (NewTen w (keepL (joinL L L') keep) (keepD (joinL L L') (joinD L D L' D') keep) (pairL k p q L D X L' D' X' keep)) := by
  have HA : Hid (RdT w.heap.size w lv dv xv L D X) := Lib.hid ⟨ha.l.mono hB, ha.d.mono hB, ha.x.mono hB⟩
  have HU : Hid (RdT w.heap.size w lu du xu L' D' X') := Lib.hid ⟨hb.l.mono hB, hb.d.mono hB, hb.x.mono hB⟩
  have HK : Hid (Rd w.heap.size w kv (ints keep)) := Lib.hid (hk.mono hB)
  obtain ⟨al, cl, rfl, -⟩ := ints_form ha.l
  obtain ⟨ad, cd, rfl, -⟩ := ints_form ha.d
  obtain ⟨ax, cx, rfl, -⟩ := ints_form ha.x
  obtain ⟨bl, kl, rfl, -⟩ := ints_form hb.l
  obtain ⟨bd, kd, rfl, -⟩ := ints_form hb.d
  obtain ⟨bx, kx, rfl, -⟩ := ints_form hb.x
  obtain ⟨ak, ck, rfl, -⟩ := ints_form hk
  obtain ⟨mk, hmk⟩ : ∃ m, m = keep.length := ⟨_, rfl⟩
  rw [← hmk] at HK ⊢
  obtain ⟨m1, hm1⟩ : ∃ m, m = L.length := ⟨_, rfl⟩
  obtain ⟨m3, hm3⟩ : ∃ m, m = X.length := ⟨_, rfl⟩
  obtain ⟨m4, hm4⟩ : ∃ m, m = L'.length := ⟨_, rfl⟩
  obtain ⟨m6, hm6⟩ : ∃ m, m = X'.length := ⟨_, rfl⟩
  have ed : D.length = m1 := by rw [hm1]; exact fa.ax.2.1.symm
  have ed' : D'.length = m4 := by rw [hm4]; exact fb.ax.2.1.symm
  rw [← hm1, ed, ← hm3] at HA ⊢
  rw [← hm4, ed', ← hm6] at HU ⊢
  have HFA := Lib.hid fa
  have HFB := Lib.hid fb
  have HX : Hid (X.length ≤ 24576 ∧ X'.length ≤ 24576) := Lib.hid ⟨by rw [fa.lX]; exact Nat.le_trans (Nat.mul_le_mul fa.n1.2 hw6) (by omega), by rw [fb.lX]; exact Nat.le_trans (Nat.mul_le_mul fb.n1.2 hw6) (by omega)⟩
  have HJA := joinD_ax fa.ax fb.ax
  have HKA := sizeI_axes hK
  have SJA : SubAx L D (joinL L L') (joinD L D L' D') := SubAx.left fa.ax.2.2.2.2 fa.ax.2.1
  have SJB : SubAx L' D' (joinL L L') (joinD L D L' D') := SubAx.right fa.ax.2.1 fb.ax.2.2.2.2 fb.ax.2.1 hf
  have SJK := SubAx.keep (JD := joinD L D L' D') keep HJA.2.1
  have HJN := Lib.hid (fun (w1 : World) (hb : Below w.heap.size w w1) => join_spec (HA.out.below hb (Nat.le_refl _)) (HU.out.below hb (Nat.le_refl _)) hb.size hb.size fa.ax fb.ax)
  rw [fitV_true.2 hf] at HJN
  simp only [if_true] at HJN
  have hpl : pairL k p q L D X L' D' X' keep = accL k p q (offJ (keepL (joinL L L') keep) (keepD (joinL L L') (joinD L D L' D') keep) (joinL L L') (joinD L D L' D')) (termJ k p wd L D X L' D' X' (joinL L L') (joinD L D L' D')) (prodL (keepD (joinL L L') (joinD L D L' D') keep)).toNat (prodL (joinD L D L' D')).toNat := by
    unfold pairL
    rw [hw, Int.toNat_natCast]
  rw [hpl]
  obtain ⟨J, hJ⟩ : ∃ l, l = joinL L L' := ⟨_, rfl⟩
  obtain ⟨JD, hJD⟩ : ∃ l, l = joinD L D L' D' := ⟨_, rfl⟩
  rw [← hJ, ← hJD] at HJA HKA SJA SJB SJK HJN ⊢
  rw [← hJD] at hP
  obtain ⟨KZ, hKL⟩ : ∃ l, l = keepL J keep := ⟨_, rfl⟩
  obtain ⟨KD, hKD⟩ : ∃ l, l = keepD J JD keep := ⟨_, rfl⟩
  rw [← hKL, ← hKD] at HKA SJK ⊢
  have HKS := Lib.hid (fun (w1 : World) (hb : Below w.heap.size w w1) {u v : Value} (r1 : Rd w1.heap.size w1 u (ints J)) (r2 : Rd w1.heap.size w1 v (ints JD)) => keep_spec (keep := keep) (w := w1) r1 r2 ((HK.out.below hb (Nat.le_refl _)).mono hb.size) (Nat.le_refl _) HJA.2.2.2 HJA.2.1 HJA.2.2.1 hkl)
  rw [← hKL, ← hKD] at HKS
  have hJ1 : ∀ d ∈ JD, 1 ≤ d := fun d hd => (HJA.1 d hd).1
  have hK1 : ∀ d ∈ KD, 1 ≤ d := fun d hd => (HKA.1.2.2.2.1 d hd).1
  obtain ⟨N, hN⟩ : ∃ n, n = (prodL JD).toNat := ⟨_, rfl⟩
  obtain ⟨M, hM⟩ : ∃ n, n = (prodL KD).toNat := ⟨_, rfl⟩
  have hNP : prodL JD = (N : Int) := by have := prodL_pos hJ1; omega
  have hMP : prodL KD = (M : Int) := by omega
  have hN2 : N ≤ 65536 := by omega
  have hM2 : M ≤ 4096 ∧ 1 ≤ M := by omega
  rw [← hN, ← hM]
  have HCW : Hid (capW JD = (N : Int)) := Lib.hid (by have h := (capW_is hJ1).1; omega)
  have HCI : Hid (capI KD = (M : Int)) := Lib.hid (by have h := (capI_is hK1).1; omega)
  obtain ⟨xf, hxf⟩ : ∃ f, f = offJ L D J JD := ⟨_, rfl⟩
  obtain ⟨yf, hyf⟩ : ∃ f, f = offJ L' D' J JD := ⟨_, rfl⟩
  obtain ⟨zf, hzf⟩ : ∃ f, f = offJ KZ KD J JD := ⟨_, rfl⟩
  obtain ⟨tf, htf⟩ : ∃ f, f = termJ k p wd L D X L' D' X' J JD := ⟨_, rfl⟩
  rw [← hzf, ← htf]
  obtain ⟨nJ, hnJ⟩ : ∃ n, n = J.length := ⟨_, rfl⟩
  obtain ⟨nK, hnK⟩ : ∃ n, n = KZ.length := ⟨_, rfl⟩
  have hnJ2 : nJ ≤ 24 := by rw [hnJ]; exact HJA.2.2.1
  have hnK2 : nK ≤ 12 := by rw [hnK]; exact HKA.1.1
  have HXF : Hid (∀ n : Nat, (xf n : Int) = dotP (idxL JD (n : Int)) (stepL L D J) nJ ∧ xf n < N1) := Lib.hid (fun n => by
    have h := SJA.off HJA.2.2.2 fa.dim hJ1 HJA.2.1 n
    rw [← hxf, ← hnJ, fa.pr] at h
    exact ⟨h.1, by have := h.2; omega⟩)
  have HYF : Hid (∀ n : Nat, (yf n : Int) = dotP (idxL JD (n : Int)) (stepL L' D' J) nJ ∧ yf n < N2) := Lib.hid (fun n => by
    have h := SJB.off HJA.2.2.2 fb.dim hJ1 HJA.2.1 n
    rw [← hyf, ← hnJ, fb.pr] at h
    exact ⟨h.1, by have := h.2; omega⟩)
  have HZF : Hid (∀ n : Nat, (zf n : Int) = dotP (idxL JD (n : Int)) (stepL KZ KD J) nJ ∧ zf n < M) := Lib.hid (fun n => by
    have h := SJK.off HJA.2.2.2 hK1 hJ1 HJA.2.1 n
    rw [← hzf, ← hnJ, hMP] at h
    exact ⟨h.1, by have := h.2; omega⟩)
  have HTF : Hid (∀ n, n < N → ElemV k p q (tf n)) := Lib.hid (fun n _ => by
    rw [htf]
    exact termJ_elem hr hw fa.lX fb.lX fa.wX fb.wX (by rw [← hxf]; exact (HXF.out n).2) (by rw [← hyf]; exact (HYF.out n).2))
  have HTE : Hid (∀ n, timesL k p (getL wd X (xf n)) (getL wd X' (yf n)) = tf n) := Lib.hid (fun n => by rw [htf, hxf, hyf]; rfl)
  have HIS : Hid (∀ (n : Int) i, 0 ≤ (idxL JD n).getD i 0 ∧ (idxL JD n).getD i 0 ≤ 7) := Lib.hid (fun n i => idxL_small HJA.1 n i)
  have HSS : Hid ((∀ i, 0 ≤ (stepL L D J).getD i 0 ∧ (stepL L D J).getD i 0 ≤ 4096) ∧ (∀ i, 0 ≤ (stepL L' D' J).getD i 0 ∧ (stepL L' D' J).getD i 0 ≤ 4096) ∧ (∀ i, 0 ≤ (stepL KZ KD J).getD i 0 ∧ (stepL KZ KD J).getD i 0 ≤ 4096)) := Lib.hid ⟨fun i => stepL_small fa.dim (by rw [fa.pr]; have := fa.n1; omega) i, fun i => stepL_small fb.dim (by rw [fb.pr]; have := fb.n1; omega) i, fun i => stepL_small hK1 (by omega) i⟩
  have HSA := Lib.hid (fun (w1 : World) (hb : Below w.heap.size w w1) {u : Value} (r1 : Rd w1.heap.size w1 u (ints J)) => steps_spec (w := w1) (have h := HA.out.below hb (Nat.le_refl _); ⟨h.l.mono hb.size, h.d.mono hb.size, h.x.mono hb.size⟩) r1 (Nat.le_refl _) fa.ax (by rw [fa.pr]; have := fa.n1; omega) HJA.2.1 HJA.2.2.1 SJA.sub)
  have HSB := Lib.hid (fun (w1 : World) (hb : Below w.heap.size w w1) {u : Value} (r1 : Rd w1.heap.size w1 u (ints J)) => steps_spec (w := w1) (have h := HU.out.below hb (Nat.le_refl _); ⟨h.l.mono hb.size, h.d.mono hb.size, h.x.mono hb.size⟩) r1 (Nat.le_refl _) fb.ax (by rw [fb.pr]; have := fb.n1; omega) HJA.2.1 HJA.2.2.1 SJB.sub)
  have HSO := Lib.hid (fun (w1 : World) {u lz dz xz : Value} {Z : List Int} (rt : RdT w1.heap.size w1 lz dz xz KZ KD Z) (r1 : Rd w1.heap.size w1 u (ints J)) => steps_spec (w := w1) rt r1 (Nat.le_refl _) HKA.1 HKA.2.2.1 HJA.2.1 HJA.2.2.1 SJK.sub)
  obtain ⟨sA, hsA⟩ : ∃ l, l = stepL L D J := ⟨_, rfl⟩
  obtain ⟨sB, hsB⟩ : ∃ l, l = stepL L' D' J := ⟨_, rfl⟩
  obtain ⟨sO, hsO⟩ : ∃ l, l = stepL KZ KD J := ⟨_, rfl⟩
  rw [← hsA] at HXF HSS HSA
  rw [← hsB] at HYF HSS HSB
  rw [← hsO] at HZF HSS HSO
  have HSL : Hid (sA.length = nJ ∧ sB.length = nJ ∧ sO.length = nJ) := Lib.hid ⟨by rw [hsA, stepL_len, hnJ], by rw [hsB, stepL_len, hnJ], by rw [hsO, stepL_len, hnJ]⟩
  have HLL : Hid (J.length = nJ ∧ JD.length = nJ ∧ KZ.length = nK ∧ KD.length = nK) := Lib.hid ⟨hnJ.symm, by rw [hnJ]; exact HJA.2.2.2.symm, hnK.symm, by rw [hnK]; exact HKA.1.2.1.symm⟩
  have HJD := Lib.hid hJ1
  have HJR := Lib.hid HJA.1
  have HKDR : Hid (∀ d ∈ KD, 1 ≤ d ∧ d ≤ 8) := Lib.hid HKA.1.2.2.2.1
  have HRG := Lib.hid hr
  have HW := Lib.hid hw
  have HAL : Hid (∀ c, c ≤ N → (accL k p q zf tf M c).length = M * wd) := Lib.hid (fun c hc => acc_len hr hw HTF.out hc)
  have HAG : Hid (∀ c, c ≤ N → getL wd (accL k p q zf tf M c) (zf c) = accE k p q zf tf c (zf c)) := Lib.hid (fun c hc => acc_get hr hw HTF.out hc (HZF.out c).2)
  have HAE : Hid (∀ c, c ≤ N → ElemV k p q (accE k p q zf tf c (zf c))) := Lib.hid (fun c hc => accE_elem hr HTF.out c hc _)
  have HAP : Hid (∀ c, c < N → putL (accL k p q zf tf M c) (zf c * wd) (plusL k p (accE k p q zf tf c (zf c)) (tf c)) = accL k p q zf tf M (c + 1)) := Lib.hid (fun c hc => acc_put hr hw HTF.out hc (HZF.out c).2)
  have HGX : Hid (∀ c, ElemV k p q (getL wd X (xf c)) ∧ ElemV k p q (getL wd X' (yf c))) := Lib.hid (fun c => ⟨getL_elem hw fa.lX fa.wX (HXF.out c).2, getL_elem hw fb.lX fb.wX (HYF.out c).2⟩)
  have HMW : Hid (M * wd ≤ 24576) := Lib.hid (Nat.le_trans (Nat.mul_le_mul hM2.1 hw6) (by omega))
  have HZW : Hid ((zeroL k p q).length = wd) := Lib.hid (by have h := (zeroL_elem hr).1; omega)
  obtain ⟨mz, hmz⟩ : ∃ m, m = M * wd := ⟨_, rfl⟩
  have HMZ := Lib.hid hmz
  have R0 : Hid (Rs w ((((w.alloc (.cells #[.int .i64 k, .int .i64 p, .int .i64 q] 30)).alloc (.cells #[.slice al m1 cl, .slice ad m1 cd, .slice ax m3 cx] 49)).alloc (.cells #[.slice bl m4 kl, .slice bd m4 kd, .slice bx m6 kx] 49)).alloc (.cells #[nilV, nilV, nilV] 49)) [(w.heap.size + 1 + 1 + 1, nilV, nilV, nilV), (w.heap.size + 1 + 1, .slice bl m4 kl, .slice bd m4 kd, .slice bx m6 kx), (w.heap.size + 1, .slice al m1 cl, .slice ad m1 cd, .slice ax m3 cx), (w.heap.size, .int .i64 k, .int .i64 p, .int .i64 q)] []) := by
    have h := ((((Rs.start w).box (.int .i64 k) (.int .i64 p) (.int .i64 q) 30).box (.slice al m1 cl) (.slice ad m1 cd) (.slice ax m3 cx) 49).box (.slice bl m4 kl) (.slice bd m4 kd) (.slice bx m6 kx) 49).box nilV nilV nilV 49
    simp only [World.size_alloc] at h
    exact h
  have HN1 := Lib.hid (And.intro fa.n1 fb.n1)
  have HM34 := Lib.hid (And.intro hm3 hm6)
  obtain ⟨i0, hi, hz0, hz1, hz2⟩ := info_parts infoInt
  have J0 := Lib.hid hi
  have J1 := Lib.hid hz0
  have J2 := Lib.hid hz1
  have J3 := Lib.hid hz2
  clear ha hb hk hB fa fb hf hP hK hkl HJA HKA SJA SJB SJK hpl hJ hJD hKL hKD hJ1 hK1 hN hM hNP hMP hxf hyf hzf htf hnJ hnK hsA hsB hsO hmz hm1 hm3 hm4 hm6 ed ed' hr hw hi hz0 hz1 hz2 hmk
  obtain ⟨⟨a0, a1, a2⟩, -⟩ := R0.out.at (r := w.heap.size + 1) (a := .slice al m1 cl) (b := .slice ad m1 cd) (c := .slice ax m3 cx) (by simp)
  obtain ⟨⟨b0, b1, b2⟩, -⟩ := R0.out.at (r := w.heap.size + 1 + 1) (a := .slice bl m4 kl) (b := .slice bd m4 kd) (c := .slice bx m6 kx) (by simp)
  go_enter Try.func79, Try.ntmps79
  go_wp2_with fail
  refine (HJN.out _ R0.out.bel).mono ?_
  clear a0 a1 a2 b0 b1 b2
  rintro e w1 ⟨u, v, rfl, ho, hb⟩
  obtain ⟨g1, c1, rfl, -⟩ := ints_form (show Own _ _ _ u J from ho.1 (u, J) (by simp)).rd
  obtain ⟨g2, c2, rfl, -⟩ := ints_form (show Own _ _ _ v JD from ho.1 (v, JD) (by simp)).rd
  rw [HLL.out.1, HLL.out.2.1] at ho ⊢
  have R1 := Lib.hid (R0.out.new2 hb ho)
  clear ho hb R0
  have HQ := Lib.hid (HKS.out w1 R1.out.bel (u := .slice g1 nJ c1) (v := .slice g2 nJ c2) (R1.out.rd (by simp)) (R1.out.rd (by simp)))
  go_wp2_with fail
  refine HQ.out.mono ?_
  rintro e w2 ⟨v1, v2, v3, rfl, ho, hb⟩
  obtain ⟨g3, c3, rfl, -⟩ := ints_form ho.rows.1.rd
  obtain ⟨g4, c4, rfl, -⟩ := ints_form ho.rows.2.1.rd
  obtain ⟨g5, c5, rfl, -⟩ := ints_form ho.rows.2.2.rd
  rw [HLL.out.2.2.1, HLL.out.2.2.2] at ho ⊢
  have R2 := Lib.hid (R1.out.new3 hb ho)
  have R3 := Lib.hid (R2.out.box (.slice g3 nK c3) (.slice g4 nK c4) (.slice g5 0 c5) 49)
  clear ho hb HQ R1
  obtain ⟨ob, hob⟩ : ∃ b, b = w2.heap.size := ⟨_, rfl⟩
  obtain ⟨wk, hwk⟩ : ∃ W, W = w2.alloc (.cells #[.slice g3 nK c3, .slice g4 nK c4, .slice g5 0 c5] 49) := ⟨_, rfl⟩
  have HZT := Lib.hid (zero_ten_spec (w := w2.alloc (.cells #[.slice g3 nK c3, .slice g4 nK c4, .slice g5 0 c5] 49)) (k := k) (p := p) (q := q) M (R3.out.rd (v := .slice g3 nK c3) (xs := KZ) (by simp)) (R3.out.rd (v := .slice g4 nK c4) (xs := KD) (by simp)) (Nat.le_refl _) (by rw [HLL.out.2.2.1]; omega) (by rw [HLL.out.2.2.2]; omega) HRG.out HKDR.out HCI.out (by omega))
  obtain ⟨⟨o0, o1, o2⟩, -⟩ := R3.out.at (r := w2.heap.size) (a := .slice g3 nK c3) (b := .slice g4 nK c4) (c := .slice g5 0 c5) (by simp)
  obtain ⟨⟨r0, r1, r2⟩, -⟩ := R3.out.at (r := w.heap.size) (a := .int .i64 k) (b := .int .i64 p) (c := .int .i64 q) (by simp)
  clear hob hwk R2
  go_wp2_with fail
  refine HZT.out.mono ?_
  clear o0 o1 o2 r0 r1 r2
  rintro e w4 ⟨v1, v2, v3, rfl, ho, hb⟩
  have HRL : Hid ((repL (zeroL k p q) M).length = mz) := Lib.hid (by rw [repL_len, HZW.out, HMZ.out])
  have HR0 : Hid (repL (zeroL k p q) M = accL k p q zf tf M 0) := Lib.hid (repL_gather _ _)
  obtain ⟨z1, e1, rfl, -⟩ := ints_form ho.rows.1.rd
  obtain ⟨z2, e2, rfl, -⟩ := ints_form ho.rows.2.1.rd
  obtain ⟨z3, e3, rfl, -⟩ := ints_form ho.rows.2.2.rd
  rw [HLL.out.2.2.1, HLL.out.2.2.2, HRL.out, HR0.out] at ho
  rw [HLL.out.2.2.1, HLL.out.2.2.2, HRL.out]
  have R4 := Lib.hid (R3.out.new3 hb ho)
  obtain ⟨ob, hob⟩ : ∃ b, b = w2.heap.size := ⟨_, rfl⟩
  rw [← hob] at R4 ⊢
  have R6 := Lib.hid (((R4.out.set3 (.slice z1 nK e1) (.slice z2 nK e2) (.slice z3 mz e3)).sub (rows' := [(.slice z1 nK e1, KZ), (.slice z2 nK e2, KD), (.slice z3 mz e3, accL k p q zf tf M 0), (.slice g1 nJ c1, J), (.slice g2 nJ c2, JD)]) (List.Sublist.cons_cons _ (List.Sublist.cons_cons _ (List.Sublist.cons_cons _ (List.Sublist.cons _ (List.Sublist.cons _ (List.Sublist.cons _ (List.Sublist.refl _)))))))).third)
  obtain ⟨⟨o0, o1, o2⟩, f0, f1, f2⟩ := R4.out.at (r := ob) (a := .slice g3 nK c3) (b := .slice g4 nK c4) (c := .slice g5 0 c5) (by simp)
  generalize hbs : [(ob, Value.slice z1 nK e1, Value.slice z2 nK e2, Value.slice z3 mz e3), (w.heap.size + 1 + 1 + 1, nilV, nilV, nilV), (w.heap.size + 1 + 1, .slice bl m4 kl, .slice bd m4 kd, .slice bx m6 kx), (w.heap.size + 1, .slice al m1 cl, .slice ad m1 cd, .slice ax m3 cx), (w.heap.size, .int .i64 k, .int .i64 p, .int .i64 q)] = bs at R6
  have HBS := Lib.hid hbs
  clear ho hb HRL HR0 R3 R4 HZT hob hbs
  obtain ⟨⟨a0, a1, a2⟩, -⟩ := R6.out.at (r := w.heap.size + 1) (a := .slice al m1 cl) (b := .slice ad m1 cd) (c := .slice ax m3 cx) (by rw [← HBS.out]; simp)
  go_wp2_with fail
  refine (HSA.out _ R6.out.bel (u := .slice g1 nJ c1) (R6.out.rd (by simp))).mono ?_
  clear o0 o1 o2 f0 f1 f2 a0 a1 a2
  rintro e w5 ⟨v, rfl, ho, hb⟩
  obtain ⟨s1, d1, rfl, -⟩ := ints_form ho.rd
  rw [HSL.out.1] at ho ⊢
  have R7 := Lib.hid (R6.out.new hb ho)
  clear ho hb R6
  obtain ⟨⟨b0, b1, b2⟩, -⟩ := R7.out.at (r := w.heap.size + 1 + 1) (a := .slice bl m4 kl) (b := .slice bd m4 kd) (c := .slice bx m6 kx) (by rw [← HBS.out]; simp)
  go_wp2_with fail
  refine (HSB.out _ R7.out.bel (u := .slice g1 nJ c1) (R7.out.rd (by simp))).mono ?_
  clear b0 b1 b2
  rintro e w6 ⟨v, rfl, ho, hb⟩
  obtain ⟨s2, d2, rfl, -⟩ := ints_form ho.rd
  rw [HSL.out.2.1] at ho ⊢
  have R8 := Lib.hid (R7.out.new hb ho)
  clear ho hb R7
  obtain ⟨⟨o0, o1, o2⟩, -⟩ := R8.out.at (r := ob) (a := .slice z1 nK e1) (b := .slice z2 nK e2) (c := .slice z3 mz e3) (by rw [← HBS.out]; simp)
  go_wp2_with fail
  refine (HSO.out w6 (u := .slice g1 nJ c1) (lz := .slice z1 nK e1) (dz := .slice z2 nK e2) (xz := .slice z3 mz e3) (Z := accL k p q zf tf M 0) ⟨R8.out.rd (by simp), R8.out.rd (by simp), R8.out.rd (by simp)⟩ (R8.out.rd (by simp))).mono ?_
  clear o0 o1 o2
  rintro e w7 ⟨v, rfl, ho, hb⟩
  obtain ⟨s3, d3, rfl, -⟩ := ints_form ho.rd
  rw [HSL.out.2.2] at ho ⊢
  have R9 := Lib.hid (R8.out.new hb ho).fourth
  clear ho hb R8
  go_wp2_with (at_make; go_must (refine wpList_make_full _ rfl _ _ 25 rfl w7.heap.size 3 i0 (.int .i64 0) 1 Try.underlying25 J0.out J1.out J2.out .i64 .i64 _ _ nJ rfl rfl rfl rfl (by rw [J3.out]; omega) (by unfold maxLen; omega) (Nat.le_refl _) ?_))
  intro w8 hown hgrow
  have R10 := Lib.hid (R9.out.made (n := nJ) (w' := w8) (by simp only [Value.cells, Nat.mul_one] at hown ⊢; exact hown) hgrow)
  have HI0 : Hid (List.replicate nJ (0 : Int) = idxL JD ((0 : Nat) : Int)) := Lib.hid (by rw [← HLL.out.2.1]; exact (idxL_zero JD HJD.out).symm)
  rw [HI0.out] at R10
  obtain ⟨gi, hgi⟩ : ∃ g, g = w7.heap.size := ⟨_, rfl⟩
  rw [← hgi] at R10 ⊢
  clear hown hgrow R9 HI0 hgi
  have HPW := Lib.hid (product_work (R10.out.rd (v := .slice g2 nJ c2) (xs := JD) (by simp)) (by rw [HLL.out.2.1]; omega) HJR.out)
  rw [HCW.out] at HPW
  go_wp2_with fail
  refine HPW.out.mono ?_
  rintro e w9 ⟨rfl, rfl⟩
  clear HPW
  go_wp2
  go_loopw [17] (fun i wr => ∃ c : Nat, c ≤ N ∧ i = .int .i64 ((N : Int) - (c : Int)) ∧ Hid (Rs w wr bs [(.slice (some ⟨gi, 0, none⟩) nJ nJ, idxL JD (c : Int)), (.slice z3 mz e3, accL k p q zf tf M c), (.slice s3 nJ d3, sO), (.slice s2 nJ d2, sB), (.slice s1 nJ d1, sA), (.slice z1 nK e1, KZ), (.slice z2 nK e2, KD), (.slice g1 nJ c1, J), (.slice g2 nJ c2, JD)])) (fun i _ => (intOf i).toNat)
  case atStart => exact ⟨0, by omega, by go_num, R10⟩
  case round =>
    clear R10
    obtain ⟨c, hc, rfl, HR⟩ := hrel
    by_cases hlt : c < N
    · have q0 : (0 : Int) < (N : Int) - (c : Int) := by omega
      have hix := HIS.out (c : Int)
      have HIX := Lib.hid hix
      clear hix
      go_wp2
      go_loop [18, 19, 20, 61] (fun x y z i => ∃ (j : Nat) (dx dy dz : Int), j ≤ nJ ∧ i = .int .i64 j ∧ x = .int .i64 dx ∧ y = .int .i64 dy ∧ z = .int .i64 dz ∧ 0 ≤ dx ∧ dx ≤ 28672 * j ∧ 0 ≤ dy ∧ dy ≤ 28672 * j ∧ 0 ≤ dz ∧ dz ≤ 28672 * j ∧ Hid (dx = dotP (idxL JD (c : Int)) sA j ∧ dy = dotP (idxL JD (c : Int)) sB j ∧ dz = dotP (idxL JD (c : Int)) sO j)) (fun _ _ _ i => nJ - (intOf i).toNat)
      case atStart => exact ⟨0, 0, 0, 0, by omega, rfl, rfl, rfl, rfl, by omega, by omega, by omega, by omega, by omega, by omega, Lib.hid ⟨rfl, rfl, rfl⟩⟩
      case round =>
        obtain ⟨j, dx, dy, dz, hj, rfl, rfl, rfl, rfl, hx0, hx1, hy0, hy1, hz0, hz1, HDO⟩ := hrel
        by_cases hjl : j < nJ
        · obtain ⟨kk, X1⟩ : ∃ x, Hid ((idxL JD (c : Int))[j]? = some x) := ⟨_, List.getElem?_eq_getElem (by rw [idxL_len, HLL.out.2.1]; exact hjl)⟩
          obtain ⟨pa, X2⟩ : ∃ x, Hid (sA[j]? = some x) := ⟨_, List.getElem?_eq_getElem (by rw [HSL.out.1]; exact hjl)⟩
          obtain ⟨pb, X3⟩ : ∃ x, Hid (sB[j]? = some x) := ⟨_, List.getElem?_eq_getElem (by rw [HSL.out.2.1]; exact hjl)⟩
          obtain ⟨po, X4⟩ : ∃ x, Hid (sO[j]? = some x) := ⟨_, List.getElem?_eq_getElem (by rw [HSL.out.2.2]; exact hjl)⟩
          obtain ⟨gi', oi, ei, -, f1⟩ := (HR.out.rd (v := .slice (some ⟨gi, 0, none⟩) nJ nJ) (xs := idxL JD (c : Int)) (by simp)).cellAt X1.out
          cases ei
          rw [Nat.zero_add] at f1
          obtain ⟨bA, oA, rfl, -, f2⟩ := (HR.out.rd (v := .slice s1 nJ d1) (xs := sA) (by simp)).cellAt X2.out
          obtain ⟨bB, oB, rfl, -, f3⟩ := (HR.out.rd (v := .slice s2 nJ d2) (xs := sB) (by simp)).cellAt X3.out
          obtain ⟨bO, oO, rfl, -, f4⟩ := (HR.out.rd (v := .slice s3 nJ d3) (xs := sO) (by simp)).cellAt X4.out
          have k1 := HIX.out j
          have k2 := HSS.out.1 j
          have k3 := HSS.out.2.1 j
          have k4 := HSS.out.2.2 j
          rw [getD_at X1.out] at k1
          rw [getD_at X2.out] at k2
          rw [getD_at X3.out] at k3
          rw [getD_at X4.out] at k4
          have n2 : 0 ≤ kk * pa ∧ kk * pa ≤ 28672 := ⟨Int.mul_nonneg k1.1 k2.1, Int.le_trans (Int.mul_le_mul k1.2 k2.2 k2.1 (by omega)) (by omega)⟩
          have n3 : 0 ≤ kk * pb ∧ kk * pb ≤ 28672 := ⟨Int.mul_nonneg k1.1 k3.1, Int.le_trans (Int.mul_le_mul k1.2 k3.2 k3.1 (by omega)) (by omega)⟩
          have n4 : 0 ≤ kk * po ∧ kk * po ≤ 28672 := ⟨Int.mul_nonneg k1.1 k4.1, Int.le_trans (Int.mul_le_mul k1.2 k4.2 k4.1 (by omega)) (by omega)⟩
          have w2 : IntKind.i64.wrap (kk * pa) = kk * pa := IntWalk.i64_in _ (by omega)
          have w3 : IntKind.i64.wrap (kk * pb) = kk * pb := IntWalk.i64_in _ (by omega)
          have w4 : IntKind.i64.wrap (kk * po) = kk * po := IntWalk.i64_in _ (by omega)
          have w5 : IntKind.i64.wrap (dx + kk * pa) = dx + kk * pa := IntWalk.i64_in _ (by omega)
          have w6 : IntKind.i64.wrap (dy + kk * pb) = dy + kk * pb := IntWalk.i64_in _ (by omega)
          have w7 : IntKind.i64.wrap (dz + kk * po) = dz + kk * po := IntWalk.i64_in _ (by omega)
          have HD2 : Hid (dx + kk * pa = dotP (idxL JD (c : Int)) sA (j + 1) ∧ dy + kk * pb = dotP (idxL JD (c : Int)) sB (j + 1) ∧ dz + kk * po = dotP (idxL JD (c : Int)) sO (j + 1)) := Lib.hid (by
            rw [dotP_succ, dotP_succ, dotP_succ, getD_at X1.out, getD_at X2.out, getD_at X3.out, getD_at X4.out, HDO.out.1, HDO.out.2.1, HDO.out.2.2]
            exact ⟨rfl, rfl, rfl⟩)
          obtain ⟨n21, n22⟩ := n2
          obtain ⟨n31, n32⟩ := n3
          obtain ⟨n41, n42⟩ := n4
          clear k1 k2 k3 k4
          go_wp2
          go_round
          case rel => exact ⟨j + 1, dx + kk * pa, dy + kk * pb, dz + kk * po, by omega, by go_num, rfl, rfl, rfl, by omega, by omega, by omega, by omega, by omega, by omega, HD2⟩
          case measure => simp [intOf]; omega
        · obtain rfl : j = nJ := by omega
          obtain ⟨xn, hxn⟩ : ∃ n, n = xf c := ⟨_, rfl⟩
          obtain ⟨yn, hyn⟩ : ∃ n, n = yf c := ⟨_, rfl⟩
          obtain ⟨zn, hzn⟩ : ∃ n, n = zf c := ⟨_, rfl⟩
          obtain rfl : dx = (xn : Int) := by rw [HDO.out.1, hxn, (HXF.out c).1]
          obtain rfl : dy = (yn : Int) := by rw [HDO.out.2.1, hyn, (HYF.out c).1]
          obtain rfl : dz = (zn : Int) := by rw [HDO.out.2.2, hzn, (HZF.out c).1]
          obtain ⟨E1, hE1⟩ : ∃ l, l = accE k p q zf tf c (zf c) := ⟨_, rfl⟩
          obtain ⟨E2, hE2⟩ : ∃ l, l = getL wd X xn := ⟨_, rfl⟩
          obtain ⟨E3, hE3⟩ : ∃ l, l = getL wd X' yn := ⟨_, rfl⟩
          obtain ⟨E4, hE4⟩ : ∃ l, l = tf c := ⟨_, rfl⟩
          obtain ⟨E5, hE5⟩ : ∃ l, l = plusL k p E1 E4 := ⟨_, rfl⟩
          have HXN : Hid (xn < N1 ∧ yn < N2 ∧ zn < M) := Lib.hid ⟨by rw [hxn]; exact (HXF.out c).2, by rw [hyn]; exact (HYF.out c).2, by rw [hzn]; exact (HZF.out c).2⟩
          have HG1 : Hid (getL wd (accL k p q zf tf M c) zn = E1) := Lib.hid (by rw [hE1, hzn]; exact HAG.out c hc)
          have HG4 : Hid (timesL k p E2 E3 = E4) := Lib.hid (by rw [hE2, hE3, hE4, hxn, hyn]; exact HTE.out c)
          have HV1 : Hid (ElemV k p q E1) := Lib.hid (by rw [hE1]; exact HAE.out c hc)
          have HV2 : Hid (ElemV k p q E2 ∧ ElemV k p q E3) := Lib.hid (by rw [hE2, hE3, hxn, hyn]; exact HGX.out c)
          have HV4 : Hid (ElemV k p q E4) := Lib.hid (by rw [hE4]; exact HTF.out c hlt)
          have HV5 : Hid (E5.length = wd) := Lib.hid (by have h := (plusL_elem HRG.out HV1.out HV4.out).1; have h2 := HW.out; rw [hE5]; omega)
          have HP5 : Hid (putL (accL k p q zf tf M c) (zn * wd) E5 = accL k p q zf tf M (c + 1)) := Lib.hid (by rw [hE5, hE1, hE4, hzn]; exact HAP.out c hlt)
          have HL0 := Lib.hid (HAL.out c hc)
          have HJ1 : Hid (xn * wd + wd ≤ X.length ∧ yn * wd + wd ≤ X'.length ∧ zn * wd + wd ≤ M * wd) := Lib.hid (by
            have h1 := Nat.mul_le_mul_right wd (show xn + 1 ≤ N1 from HXN.out.1)
            have h2 := Nat.mul_le_mul_right wd (show yn + 1 ≤ N2 from HXN.out.2.1)
            have h3 := Nat.mul_le_mul_right wd (show zn + 1 ≤ M from HXN.out.2.2)
            rw [Nat.add_mul, Nat.one_mul] at h1 h2 h3
            exact ⟨by rw [HFA.out.lX]; exact h1, by rw [HFB.out.lX]; exact h2, h3⟩)
          have HE2 := Lib.hid hE2.symm
          have HE3 := Lib.hid hE3.symm
          have HE5 := Lib.hid hE5.symm
          have Q0 := Lib.hid HR.out.swap.drew
          clear HDO hxn hyn hzn hE1 hE2 hE3 hE4 hE5 hx0 hx1 hy0 hy1 hz0 hz1
          obtain ⟨⟨r0, r1, r2⟩, -⟩ := Q0.out.at (r := w.heap.size) (a := .int .i64 k) (b := .int .i64 p) (c := .int .i64 q) (by rw [← HBS.out]; simp)
          obtain ⟨⟨a0, a1, a2⟩, -⟩ := Q0.out.at (r := w.heap.size + 1) (a := .slice al m1 cl) (b := .slice ad m1 cd) (c := .slice ax m3 cx) (by rw [← HBS.out]; simp)
          obtain ⟨⟨b0, b1, b2⟩, -⟩ := Q0.out.at (r := w.heap.size + 1 + 1) (a := .slice bl m4 kl) (b := .slice bd m4 kd) (c := .slice bx m6 kx) (by rw [← HBS.out]; simp)
          obtain ⟨⟨o0, o1, o2⟩, -⟩ := Q0.out.at (r := ob) (a := .slice z1 nK e1) (b := .slice z2 nK e2) (c := .slice z3 mz e3) (by rw [← HBS.out]; simp)
          have TK1 : True := trivial
          have TK2 : True := trivial
          have TK3 : True := trivial
          go_wp2
          refine wp_region_held_drew (S := (fun w' => w'.cell? ⟨w.heap.size, 0, none⟩ = some (.int .i64 k) ∧ w'.cell? ⟨w.heap.size, 1, none⟩ = some (.int .i64 p) ∧ w'.cell? ⟨w.heap.size, 2, none⟩ = some (.int .i64 q) ∧ w'.cell? ⟨w.heap.size + 1, 0, none⟩ = some (.slice al m1 cl) ∧ w'.cell? ⟨w.heap.size + 1, 1, none⟩ = some (.slice ad m1 cd) ∧ w'.cell? ⟨w.heap.size + 1, 2, none⟩ = some (.slice ax m3 cx) ∧ w'.cell? ⟨w.heap.size + 1 + 1, 0, none⟩ = some (.slice bl m4 kl) ∧ w'.cell? ⟨w.heap.size + 1 + 1, 1, none⟩ = some (.slice bd m4 kd) ∧ w'.cell? ⟨w.heap.size + 1 + 1, 2, none⟩ = some (.slice bx m6 kx) ∧ w'.cell? ⟨ob, 0, none⟩ = some (.slice z1 nK e1) ∧ w'.cell? ⟨ob, 1, none⟩ = some (.slice z2 nK e2) ∧ w'.cell? ⟨ob, 2, none⟩ = some (.slice z3 mz e3))) (by kernel_rfl) (by (try dsimp only); exact ⟨r0, r1, r2, a0, a1, a2, b0, b1, b2, o0, o1, o2⟩) (fun hHeld => ?_)
          refine wpAnyH_take (i := 0) (v := ?_) rfl (by kernel_rfl) (by kernel_rfl) (by kernel_rfl) (fun _ _ _ h => h) (Or.inl ⟨by rfl, ?_⟩) (by assumption) ?_
          rotate_left
          · intro w hSw; (try dsimp only at hSw); go_simp <;> with_reducible rfl
          try simp only [Act.put, List.getElem_toArray, List.getElem_cons_zero, List.setIfInBounds_toArray, List.set_cons_zero, List.set_cons_succ]
          refine wpAnyH_take (i := 1) (v := ?_) rfl (by kernel_rfl) (by kernel_rfl) (by kernel_rfl) (fun _ _ _ h => h) (Or.inl ⟨by rfl, ?_⟩) (by assumption) ?_
          rotate_left
          · intro w hSw; (try dsimp only at hSw); go_simp <;> with_reducible rfl
          try simp only [Act.put, List.getElem_toArray, List.getElem_cons_succ, List.getElem_cons_zero, List.setIfInBounds_toArray, List.set_cons_zero, List.set_cons_succ]
          refine wpAnyH_take (i := 2) (v := ?_) rfl (by kernel_rfl) (by kernel_rfl) (by kernel_rfl) (fun _ _ _ h => h) (Or.inl ⟨by rfl, ?_⟩) (by assumption) ?_
          rotate_left
          · intro w hSw; (try dsimp only at hSw); go_simp <;> with_reducible rfl
          try simp only [Act.put, List.getElem_toArray, List.getElem_cons_succ, List.getElem_cons_zero, List.setIfInBounds_toArray, List.set_cons_zero, List.set_cons_succ]
          refine wpAnyH_take (i := 3) (v := ?_) rfl (by kernel_rfl) (by kernel_rfl) (by kernel_rfl) (fun _ _ _ h => h) (Or.inl ⟨by rfl, ?_⟩) (by assumption) ?_
          rotate_left
          · intro w hSw; (try dsimp only at hSw); go_simp <;> with_reducible rfl
          try simp only [Act.put, List.getElem_toArray, List.getElem_cons_succ, List.getElem_cons_zero, List.setIfInBounds_toArray, List.set_cons_zero, List.set_cons_succ]
          refine wpAnyH_take (i := 4) (v := ?_) rfl (by kernel_rfl) (by kernel_rfl) (by kernel_rfl) (fun _ _ _ h => h) (Or.inl ⟨by rfl, ?_⟩) (by assumption) ?_
          rotate_left
          · intro w hSw; (try dsimp only at hSw); go_simp <;> with_reducible rfl
          try simp only [Act.put, List.getElem_toArray, List.getElem_cons_succ, List.getElem_cons_zero, List.setIfInBounds_toArray, List.set_cons_zero, List.set_cons_succ]
          refine wpAnyH_take (i := 5) (v := ?_) rfl (by kernel_rfl) (by kernel_rfl) (by kernel_rfl) (fun _ _ _ h => h) (Or.inl ⟨by rfl, ?_⟩) (by assumption) ?_
          rotate_left
          · intro w hSw; (try dsimp only at hSw); go_simp <;> with_reducible rfl
          try simp only [Act.put, List.getElem_toArray, List.getElem_cons_succ, List.getElem_cons_zero, List.setIfInBounds_toArray, List.set_cons_zero, List.set_cons_succ]
          refine wpAnyH_take (i := 6) (v := ?_) rfl (by kernel_rfl) (by kernel_rfl) (by kernel_rfl) (fun _ _ _ h => h) (Or.inl ⟨by rfl, ?_⟩) (by assumption) ?_
          rotate_left
          · intro w hSw; (try dsimp only at hSw); go_simp <;> with_reducible rfl
          try simp only [Act.put, List.getElem_toArray, List.getElem_cons_succ, List.getElem_cons_zero, List.setIfInBounds_toArray, List.set_cons_zero, List.set_cons_succ]
          refine wpAnyH_take (i := 8) (v := ?_) rfl (by kernel_rfl) (by kernel_rfl) (by kernel_rfl) (fun _ _ _ h => h) (Or.inl ⟨by rfl, ?_⟩) (by assumption) ?_
          rotate_left
          · intro w hSw; (try dsimp only at hSw); go_simp <;> with_reducible rfl
          try simp only [Act.put, List.getElem_toArray, List.getElem_cons_succ, List.getElem_cons_zero, List.setIfInBounds_toArray, List.set_cons_zero, List.set_cons_succ]
          refine wpAnyH_take (i := 9) (v := ?_) rfl (by kernel_rfl) (by kernel_rfl) (by kernel_rfl) (fun _ _ _ h => h) (Or.inl ⟨by rfl, ?_⟩) (by assumption) ?_
          rotate_left
          · intro w hSw; (try dsimp only at hSw); go_simp <;> with_reducible rfl
          try simp only [Act.put, List.getElem_toArray, List.getElem_cons_succ, List.getElem_cons_zero, List.setIfInBounds_toArray, List.set_cons_zero, List.set_cons_succ]
          refine wpAnyH_take (i := 10) (v := ?_) rfl (by kernel_rfl) (by kernel_rfl) (by kernel_rfl) (fun _ _ _ h => h) (Or.inl ⟨by rfl, ?_⟩) (by assumption) ?_
          rotate_left
          · intro w hSw; (try dsimp only at hSw); go_simp <;> with_reducible rfl
          try simp only [Act.put, List.getElem_toArray, List.getElem_cons_succ, List.getElem_cons_zero, List.setIfInBounds_toArray, List.set_cons_zero, List.set_cons_succ]
          refine wpAnyH_take (i := 11) (v := ?_) rfl (by kernel_rfl) (by kernel_rfl) (by kernel_rfl) (fun _ _ _ h => h) (Or.inl ⟨by rfl, ?_⟩) (by assumption) ?_
          rotate_left
          · intro w hSw; (try dsimp only at hSw); go_simp <;> with_reducible rfl
          try simp only [Act.put, List.getElem_toArray, List.getElem_cons_succ, List.getElem_cons_zero, List.setIfInBounds_toArray, List.set_cons_zero, List.set_cons_succ]
          refine wpAnyH_take (i := 13) (v := ?_) rfl (by kernel_rfl) (by kernel_rfl) (by kernel_rfl) (fun _ _ _ h => h) (Or.inl ⟨by rfl, ?_⟩) (by assumption) ?_
          rotate_left
          · intro w hSw; (try dsimp only at hSw); go_simp <;> with_reducible rfl
          try simp only [Act.put, List.getElem_toArray, List.getElem_cons_succ, List.getElem_cons_zero, List.setIfInBounds_toArray, List.set_cons_zero, List.set_cons_succ]
          refine wpAnyH_take (i := 14) (v := ?_) rfl (by kernel_rfl) (by kernel_rfl) (by kernel_rfl) (fun _ _ _ h => h) (Or.inl ⟨by rfl, ?_⟩) (by assumption) ?_
          rotate_left
          · intro w hSw; (try dsimp only at hSw); go_simp <;> with_reducible rfl
          try simp only [Act.put, List.getElem_toArray, List.getElem_cons_succ, List.getElem_cons_zero, List.setIfInBounds_toArray, List.set_cons_zero, List.set_cons_succ]
          refine wpAnyH_take (i := 15) (v := ?_) rfl (by kernel_rfl) (by kernel_rfl) (by kernel_rfl) (fun _ _ _ h => h) (Or.inl ⟨by rfl, ?_⟩) (by assumption) ?_
          rotate_left
          · intro w hSw; (try dsimp only at hSw); go_simp <;> with_reducible rfl
          try simp only [Act.put, List.getElem_toArray, List.getElem_cons_succ, List.getElem_cons_zero, List.setIfInBounds_toArray, List.set_cons_zero, List.set_cons_succ]
          refine wpAnyH_ready (rs := [7]) (by kernel_rfl) (by simp) ?_
          refine AllReadyH.cons rfl (fun K hK => ?_) AllReadyH.nil
          go_simp
          (go_at_call 92; first | (have _t := TK1; refine (get_spec wd zn (⟨Q0.out.rd (v := .slice z1 nK e1) (xs := KZ) (by simp), Q0.out.rd (v := .slice z2 nK e2) (xs := KD) (by simp), Q0.out.rd (v := .slice z3 mz e3) (xs := accL k p q zf tf M c) (by simp)⟩) (Nat.le_refl _) HW.out hw1 hw6 (by have := HXN.out.2.2; omega) (by rw [HL0.out]; exact HJ1.out.2.2) (by rw [HL0.out]; have := HMW.out; omega)).mono ?_; rw [HG1.out]; rintro e x1 ⟨va, rfl, ho, hb⟩; have Q1 := Lib.hid (Q0.out.new hb ho); obtain ⟨ga, ja, rfl, -⟩ := ints_form ho.rd; clear hb ho _t TK1; clear r0 r1 r2 a0 a1 a2 b0 b1 b2 o0 o1 o2; obtain ⟨⟨r0, r1, r2⟩, -⟩ := Q1.out.at (r := w.heap.size) (a := .int .i64 k) (b := .int .i64 p) (c := .int .i64 q) (by rw [← HBS.out]; simp); obtain ⟨⟨a0, a1, a2⟩, -⟩ := Q1.out.at (r := w.heap.size + 1) (a := .slice al m1 cl) (b := .slice ad m1 cd) (c := .slice ax m3 cx) (by rw [← HBS.out]; simp); obtain ⟨⟨b0, b1, b2⟩, -⟩ := Q1.out.at (r := w.heap.size + 1 + 1) (a := .slice bl m4 kl) (b := .slice bd m4 kd) (c := .slice bx m6 kx) (by rw [← HBS.out]; simp); obtain ⟨⟨o0, o1, o2⟩, -⟩ := Q1.out.at (r := ob) (a := .slice z1 nK e1) (b := .slice z2 nK e2) (c := .slice z3 mz e3) (by rw [← HBS.out]; simp)) | (have _t := TK2; refine (get_spec wd xn (HA.out.below Q1.out.bel (Nat.le_refl _)) Q1.out.bel.size HW.out hw1 hw6 (by have := HXN.out.1; have := HN1.out.1; omega) HJ1.out.1 (by have := HX.out.1; omega)).mono ?_; rw [HE2.out]; rintro e x2 ⟨vb, rfl, ho, hb⟩; have Q2 := Lib.hid (Q1.out.new hb ho); obtain ⟨gb, jb, rfl, -⟩ := ints_form ho.rd; clear hb ho _t TK2; clear r0 r1 r2 a0 a1 a2 b0 b1 b2 o0 o1 o2; obtain ⟨⟨r0, r1, r2⟩, -⟩ := Q2.out.at (r := w.heap.size) (a := .int .i64 k) (b := .int .i64 p) (c := .int .i64 q) (by rw [← HBS.out]; simp); obtain ⟨⟨a0, a1, a2⟩, -⟩ := Q2.out.at (r := w.heap.size + 1) (a := .slice al m1 cl) (b := .slice ad m1 cd) (c := .slice ax m3 cx) (by rw [← HBS.out]; simp); obtain ⟨⟨b0, b1, b2⟩, -⟩ := Q2.out.at (r := w.heap.size + 1 + 1) (a := .slice bl m4 kl) (b := .slice bd m4 kd) (c := .slice bx m6 kx) (by rw [← HBS.out]; simp); obtain ⟨⟨o0, o1, o2⟩, -⟩ := Q2.out.at (r := ob) (a := .slice z1 nK e1) (b := .slice z2 nK e2) (c := .slice z3 mz e3) (by rw [← HBS.out]; simp)) | (have _t := TK3; refine (get_spec wd yn (HU.out.below Q2.out.bel (Nat.le_refl _)) Q2.out.bel.size HW.out hw1 hw6 (by have := HXN.out.2.1; have := HN1.out.2; omega) HJ1.out.2.1 (by have := HX.out.2; omega)).mono ?_; rw [HE3.out]; rintro e x3 ⟨vc, rfl, ho, hb⟩; have Q3 := Lib.hid (Q2.out.new hb ho); obtain ⟨gc, jc, rfl, -⟩ := ints_form ho.rd; clear hb ho _t TK3; clear r0 r1 r2 a0 a1 a2 b0 b1 b2 o0 o1 o2; obtain ⟨⟨r0, r1, r2⟩, -⟩ := Q3.out.at (r := w.heap.size) (a := .int .i64 k) (b := .int .i64 p) (c := .int .i64 q) (by rw [← HBS.out]; simp); obtain ⟨⟨a0, a1, a2⟩, -⟩ := Q3.out.at (r := w.heap.size + 1) (a := .slice al m1 cl) (b := .slice ad m1 cd) (c := .slice ax m3 cx) (by rw [← HBS.out]; simp); obtain ⟨⟨b0, b1, b2⟩, -⟩ := Q3.out.at (r := w.heap.size + 1 + 1) (a := .slice bl m4 kl) (b := .slice bd m4 kd) (c := .slice bx m6 kx) (by rw [← HBS.out]; simp); obtain ⟨⟨o0, o1, o2⟩, -⟩ := Q3.out.at (r := ob) (a := .slice z1 nK e1) (b := .slice z2 nK e2) (c := .slice z3 mz e3) (by rw [← HBS.out]; simp)))
          go_wp2_with fail
          refine hK.out _ _ (by (try dsimp only); exact ⟨r0, r1, r2, a0, a1, a2, b0, b1, b2, o0, o1, o2⟩) (fun hHeld => ?_)
          clear hK K
          try simp only [Act.put, List.getElem_toArray, List.getElem_cons_succ, List.getElem_cons_zero, List.setIfInBounds_toArray, List.set_cons_zero, List.set_cons_succ]
          refine wpAnyH_ready (rs := [12]) (by kernel_rfl) (by simp) ?_
          refine AllReadyH.cons rfl (fun K hK => ?_) AllReadyH.nil
          go_simp
          (go_at_call 92; first | (have _t := TK1; refine (get_spec wd zn (⟨Q0.out.rd (v := .slice z1 nK e1) (xs := KZ) (by simp), Q0.out.rd (v := .slice z2 nK e2) (xs := KD) (by simp), Q0.out.rd (v := .slice z3 mz e3) (xs := accL k p q zf tf M c) (by simp)⟩) (Nat.le_refl _) HW.out hw1 hw6 (by have := HXN.out.2.2; omega) (by rw [HL0.out]; exact HJ1.out.2.2) (by rw [HL0.out]; have := HMW.out; omega)).mono ?_; rw [HG1.out]; rintro e x1 ⟨va, rfl, ho, hb⟩; have Q1 := Lib.hid (Q0.out.new hb ho); obtain ⟨ga, ja, rfl, -⟩ := ints_form ho.rd; clear hb ho _t TK1; clear r0 r1 r2 a0 a1 a2 b0 b1 b2 o0 o1 o2; obtain ⟨⟨r0, r1, r2⟩, -⟩ := Q1.out.at (r := w.heap.size) (a := .int .i64 k) (b := .int .i64 p) (c := .int .i64 q) (by rw [← HBS.out]; simp); obtain ⟨⟨a0, a1, a2⟩, -⟩ := Q1.out.at (r := w.heap.size + 1) (a := .slice al m1 cl) (b := .slice ad m1 cd) (c := .slice ax m3 cx) (by rw [← HBS.out]; simp); obtain ⟨⟨b0, b1, b2⟩, -⟩ := Q1.out.at (r := w.heap.size + 1 + 1) (a := .slice bl m4 kl) (b := .slice bd m4 kd) (c := .slice bx m6 kx) (by rw [← HBS.out]; simp); obtain ⟨⟨o0, o1, o2⟩, -⟩ := Q1.out.at (r := ob) (a := .slice z1 nK e1) (b := .slice z2 nK e2) (c := .slice z3 mz e3) (by rw [← HBS.out]; simp)) | (have _t := TK2; refine (get_spec wd xn (HA.out.below Q1.out.bel (Nat.le_refl _)) Q1.out.bel.size HW.out hw1 hw6 (by have := HXN.out.1; have := HN1.out.1; omega) HJ1.out.1 (by have := HX.out.1; omega)).mono ?_; rw [HE2.out]; rintro e x2 ⟨vb, rfl, ho, hb⟩; have Q2 := Lib.hid (Q1.out.new hb ho); obtain ⟨gb, jb, rfl, -⟩ := ints_form ho.rd; clear hb ho _t TK2; clear r0 r1 r2 a0 a1 a2 b0 b1 b2 o0 o1 o2; obtain ⟨⟨r0, r1, r2⟩, -⟩ := Q2.out.at (r := w.heap.size) (a := .int .i64 k) (b := .int .i64 p) (c := .int .i64 q) (by rw [← HBS.out]; simp); obtain ⟨⟨a0, a1, a2⟩, -⟩ := Q2.out.at (r := w.heap.size + 1) (a := .slice al m1 cl) (b := .slice ad m1 cd) (c := .slice ax m3 cx) (by rw [← HBS.out]; simp); obtain ⟨⟨b0, b1, b2⟩, -⟩ := Q2.out.at (r := w.heap.size + 1 + 1) (a := .slice bl m4 kl) (b := .slice bd m4 kd) (c := .slice bx m6 kx) (by rw [← HBS.out]; simp); obtain ⟨⟨o0, o1, o2⟩, -⟩ := Q2.out.at (r := ob) (a := .slice z1 nK e1) (b := .slice z2 nK e2) (c := .slice z3 mz e3) (by rw [← HBS.out]; simp)) | (have _t := TK3; refine (get_spec wd yn (HU.out.below Q2.out.bel (Nat.le_refl _)) Q2.out.bel.size HW.out hw1 hw6 (by have := HXN.out.2.1; have := HN1.out.2; omega) HJ1.out.2.1 (by have := HX.out.2; omega)).mono ?_; rw [HE3.out]; rintro e x3 ⟨vc, rfl, ho, hb⟩; have Q3 := Lib.hid (Q2.out.new hb ho); obtain ⟨gc, jc, rfl, -⟩ := ints_form ho.rd; clear hb ho _t TK3; clear r0 r1 r2 a0 a1 a2 b0 b1 b2 o0 o1 o2; obtain ⟨⟨r0, r1, r2⟩, -⟩ := Q3.out.at (r := w.heap.size) (a := .int .i64 k) (b := .int .i64 p) (c := .int .i64 q) (by rw [← HBS.out]; simp); obtain ⟨⟨a0, a1, a2⟩, -⟩ := Q3.out.at (r := w.heap.size + 1) (a := .slice al m1 cl) (b := .slice ad m1 cd) (c := .slice ax m3 cx) (by rw [← HBS.out]; simp); obtain ⟨⟨b0, b1, b2⟩, -⟩ := Q3.out.at (r := w.heap.size + 1 + 1) (a := .slice bl m4 kl) (b := .slice bd m4 kd) (c := .slice bx m6 kx) (by rw [← HBS.out]; simp); obtain ⟨⟨o0, o1, o2⟩, -⟩ := Q3.out.at (r := ob) (a := .slice z1 nK e1) (b := .slice z2 nK e2) (c := .slice z3 mz e3) (by rw [← HBS.out]; simp)))
          go_wp2_with fail
          refine hK.out _ _ (by (try dsimp only); exact ⟨r0, r1, r2, a0, a1, a2, b0, b1, b2, o0, o1, o2⟩) (fun hHeld => ?_)
          clear hK K
          try simp only [Act.put, List.getElem_toArray, List.getElem_cons_succ, List.getElem_cons_zero, List.setIfInBounds_toArray, List.set_cons_zero, List.set_cons_succ]
          refine wpAnyH_ready (rs := [16]) (by kernel_rfl) (by simp) ?_
          refine AllReadyH.cons rfl (fun K hK => ?_) AllReadyH.nil
          go_simp
          (go_at_call 92; first | (have _t := TK1; refine (get_spec wd zn (⟨Q0.out.rd (v := .slice z1 nK e1) (xs := KZ) (by simp), Q0.out.rd (v := .slice z2 nK e2) (xs := KD) (by simp), Q0.out.rd (v := .slice z3 mz e3) (xs := accL k p q zf tf M c) (by simp)⟩) (Nat.le_refl _) HW.out hw1 hw6 (by have := HXN.out.2.2; omega) (by rw [HL0.out]; exact HJ1.out.2.2) (by rw [HL0.out]; have := HMW.out; omega)).mono ?_; rw [HG1.out]; rintro e x1 ⟨va, rfl, ho, hb⟩; have Q1 := Lib.hid (Q0.out.new hb ho); obtain ⟨ga, ja, rfl, -⟩ := ints_form ho.rd; clear hb ho _t TK1; clear r0 r1 r2 a0 a1 a2 b0 b1 b2 o0 o1 o2; obtain ⟨⟨r0, r1, r2⟩, -⟩ := Q1.out.at (r := w.heap.size) (a := .int .i64 k) (b := .int .i64 p) (c := .int .i64 q) (by rw [← HBS.out]; simp); obtain ⟨⟨a0, a1, a2⟩, -⟩ := Q1.out.at (r := w.heap.size + 1) (a := .slice al m1 cl) (b := .slice ad m1 cd) (c := .slice ax m3 cx) (by rw [← HBS.out]; simp); obtain ⟨⟨b0, b1, b2⟩, -⟩ := Q1.out.at (r := w.heap.size + 1 + 1) (a := .slice bl m4 kl) (b := .slice bd m4 kd) (c := .slice bx m6 kx) (by rw [← HBS.out]; simp); obtain ⟨⟨o0, o1, o2⟩, -⟩ := Q1.out.at (r := ob) (a := .slice z1 nK e1) (b := .slice z2 nK e2) (c := .slice z3 mz e3) (by rw [← HBS.out]; simp)) | (have _t := TK2; refine (get_spec wd xn (HA.out.below Q1.out.bel (Nat.le_refl _)) Q1.out.bel.size HW.out hw1 hw6 (by have := HXN.out.1; have := HN1.out.1; omega) HJ1.out.1 (by have := HX.out.1; omega)).mono ?_; rw [HE2.out]; rintro e x2 ⟨vb, rfl, ho, hb⟩; have Q2 := Lib.hid (Q1.out.new hb ho); obtain ⟨gb, jb, rfl, -⟩ := ints_form ho.rd; clear hb ho _t TK2; clear r0 r1 r2 a0 a1 a2 b0 b1 b2 o0 o1 o2; obtain ⟨⟨r0, r1, r2⟩, -⟩ := Q2.out.at (r := w.heap.size) (a := .int .i64 k) (b := .int .i64 p) (c := .int .i64 q) (by rw [← HBS.out]; simp); obtain ⟨⟨a0, a1, a2⟩, -⟩ := Q2.out.at (r := w.heap.size + 1) (a := .slice al m1 cl) (b := .slice ad m1 cd) (c := .slice ax m3 cx) (by rw [← HBS.out]; simp); obtain ⟨⟨b0, b1, b2⟩, -⟩ := Q2.out.at (r := w.heap.size + 1 + 1) (a := .slice bl m4 kl) (b := .slice bd m4 kd) (c := .slice bx m6 kx) (by rw [← HBS.out]; simp); obtain ⟨⟨o0, o1, o2⟩, -⟩ := Q2.out.at (r := ob) (a := .slice z1 nK e1) (b := .slice z2 nK e2) (c := .slice z3 mz e3) (by rw [← HBS.out]; simp)) | (have _t := TK3; refine (get_spec wd yn (HU.out.below Q2.out.bel (Nat.le_refl _)) Q2.out.bel.size HW.out hw1 hw6 (by have := HXN.out.2.1; have := HN1.out.2; omega) HJ1.out.2.1 (by have := HX.out.2; omega)).mono ?_; rw [HE3.out]; rintro e x3 ⟨vc, rfl, ho, hb⟩; have Q3 := Lib.hid (Q2.out.new hb ho); obtain ⟨gc, jc, rfl, -⟩ := ints_form ho.rd; clear hb ho _t TK3; clear r0 r1 r2 a0 a1 a2 b0 b1 b2 o0 o1 o2; obtain ⟨⟨r0, r1, r2⟩, -⟩ := Q3.out.at (r := w.heap.size) (a := .int .i64 k) (b := .int .i64 p) (c := .int .i64 q) (by rw [← HBS.out]; simp); obtain ⟨⟨a0, a1, a2⟩, -⟩ := Q3.out.at (r := w.heap.size + 1) (a := .slice al m1 cl) (b := .slice ad m1 cd) (c := .slice ax m3 cx) (by rw [← HBS.out]; simp); obtain ⟨⟨b0, b1, b2⟩, -⟩ := Q3.out.at (r := w.heap.size + 1 + 1) (a := .slice bl m4 kl) (b := .slice bd m4 kd) (c := .slice bx m6 kx) (by rw [← HBS.out]; simp); obtain ⟨⟨o0, o1, o2⟩, -⟩ := Q3.out.at (r := ob) (a := .slice z1 nK e1) (b := .slice z2 nK e2) (c := .slice z3 mz e3) (by rw [← HBS.out]; simp)))
          go_wp2_with fail
          refine hK.out _ _ (by (try dsimp only); exact ⟨r0, r1, r2, a0, a1, a2, b0, b1, b2, o0, o1, o2⟩) (fun hHeld => ?_)
          clear hK K
          try simp only [Act.put, List.getElem_toArray, List.getElem_cons_succ, List.getElem_cons_zero, List.setIfInBounds_toArray, List.set_cons_zero, List.set_cons_succ]
          refine wpAnyH_ready (rs := [17]) (by kernel_rfl) (by simp) ?_
          refine AllReadyH.cons rfl (fun K hK => ?_) AllReadyH.nil
          go_simp
          (go_at_call 118; refine (mul_spec HRG.out (Q3.out.rd (v := .slice gb E2.length jb) (xs := E2) (by simp)) (Q3.out.rd (v := .slice gc E3.length jc) (xs := E3) (by simp)) (Nat.le_refl _) HV2.out.1 HV2.out.2).mono ?_; rw [HG4.out]; rintro e x4 ⟨vd, rfl, ho, hb⟩; have Q4 := Lib.hid (Q3.out.new hb ho); obtain ⟨gd, jd, rfl, -⟩ := ints_form ho.rd; clear hb ho; clear r0 r1 r2 a0 a1 a2 b0 b1 b2 o0 o1 o2; obtain ⟨⟨r0, r1, r2⟩, -⟩ := Q4.out.at (r := w.heap.size) (a := .int .i64 k) (b := .int .i64 p) (c := .int .i64 q) (by rw [← HBS.out]; simp); obtain ⟨⟨a0, a1, a2⟩, -⟩ := Q4.out.at (r := w.heap.size + 1) (a := .slice al m1 cl) (b := .slice ad m1 cd) (c := .slice ax m3 cx) (by rw [← HBS.out]; simp); obtain ⟨⟨b0, b1, b2⟩, -⟩ := Q4.out.at (r := w.heap.size + 1 + 1) (a := .slice bl m4 kl) (b := .slice bd m4 kd) (c := .slice bx m6 kx) (by rw [← HBS.out]; simp); obtain ⟨⟨o0, o1, o2⟩, -⟩ := Q4.out.at (r := ob) (a := .slice z1 nK e1) (b := .slice z2 nK e2) (c := .slice z3 mz e3) (by rw [← HBS.out]; simp))
          go_wp2_with fail
          refine hK.out _ _ (by (try dsimp only); exact ⟨r0, r1, r2, a0, a1, a2, b0, b1, b2, o0, o1, o2⟩) (fun hHeld => ?_)
          clear hK K
          try simp only [Act.put, List.getElem_toArray, List.getElem_cons_succ, List.getElem_cons_zero, List.setIfInBounds_toArray, List.set_cons_zero, List.set_cons_succ]
          refine wpAnyH_ready (rs := [18]) (by kernel_rfl) (by simp) ?_
          refine AllReadyH.cons rfl (fun K hK => ?_) AllReadyH.nil
          go_simp
          (go_at_call 126; refine (plus_spec HRG.out (Q4.out.rd (v := .slice ga E1.length ja) (xs := E1) (by simp)) (Q4.out.rd (v := .slice gd E4.length jd) (xs := E4) (by simp)) (Nat.le_refl _) HV1.out HV4.out).mono ?_; rw [HE5.out]; rintro e x5 ⟨ve, rfl, ho, hb⟩; have Q5 := Lib.hid (Q4.out.new hb ho); obtain ⟨ge, je, rfl, -⟩ := ints_form ho.rd; have HNE := Lib.hid (fun g (hg : (Value.slice ge E5.length je).ownBlock = some g) => (List.pairwise_cons.1 Q5.out.apart).1 (.slice z3 mz e3, accL k p q zf tf M c) (by simp) g hg); clear hb ho; clear r0 r1 r2 a0 a1 a2 b0 b1 b2 o0 o1 o2; obtain ⟨⟨r0, r1, r2⟩, -⟩ := Q5.out.at (r := w.heap.size) (a := .int .i64 k) (b := .int .i64 p) (c := .int .i64 q) (by rw [← HBS.out]; simp); obtain ⟨⟨a0, a1, a2⟩, -⟩ := Q5.out.at (r := w.heap.size + 1) (a := .slice al m1 cl) (b := .slice ad m1 cd) (c := .slice ax m3 cx) (by rw [← HBS.out]; simp); obtain ⟨⟨b0, b1, b2⟩, -⟩ := Q5.out.at (r := w.heap.size + 1 + 1) (a := .slice bl m4 kl) (b := .slice bd m4 kd) (c := .slice bx m6 kx) (by rw [← HBS.out]; simp); obtain ⟨⟨o0, o1, o2⟩, -⟩ := Q5.out.at (r := ob) (a := .slice z1 nK e1) (b := .slice z2 nK e2) (c := .slice z3 mz e3) (by rw [← HBS.out]; simp))
          go_wp2_with fail
          refine hK.out _ _ (by (try dsimp only); exact ⟨r0, r1, r2, a0, a1, a2, b0, b1, b2, o0, o1, o2⟩) (fun hHeld => ?_)
          clear hK K
          try simp only [Act.put, List.getElem_toArray, List.getElem_cons_succ, List.getElem_cons_zero, List.setIfInBounds_toArray, List.set_cons_zero, List.set_cons_succ]
          refine wpAnyH_ready (rs := [19]) (by kernel_rfl) (by simp) ?_
          refine AllReadyH.cons rfl (fun K hK => ?_) AllReadyH.nil
          go_simp
          (go_at_call 125; refine (put_any wd zn nK e1 nK e2 z1 z2 rfl rfl (Q5.out.own1 (v := .slice z3 mz e3) (xs := accL k p q zf tf M c) (by simp)) (Q5.out.rd (v := .slice ge E5.length je) (xs := E5) (by simp)) (Nat.le_refl _) HNE.out HW.out hw1 hw6 HV5.out (by have := HXN.out.2.2; omega) (by rw [HL0.out]; exact HJ1.out.2.2) (by rw [HL0.out]; have := HMW.out; omega)).mono ?_; rw [HP5.out]; rintro e x6 ⟨rfl, ho, hg⟩; have Q6 := Lib.hid ((Q5.out.sub (rows' := [(.slice z3 mz e3, accL k p q zf tf M c), (.slice (some ⟨gi, 0, none⟩) j j, idxL JD (c : Int)), (.slice s3 j d3, sO), (.slice s2 j d2, sB), (.slice s1 j d1, sA), (.slice z1 nK e1, KZ), (.slice z2 nK e2, KD), (.slice g1 j c1, J), (.slice g2 j c2, JD)]) (List.Sublist.cons _ (List.Sublist.cons _ (List.Sublist.cons _ (List.Sublist.cons _ (List.Sublist.cons _ (List.Sublist.refl _))))))).rewrite ho.1 hg); clear ho hg; clear r0 r1 r2 a0 a1 a2 b0 b1 b2 o0 o1 o2; obtain ⟨⟨r0, r1, r2⟩, -⟩ := Q6.out.at (r := w.heap.size) (a := .int .i64 k) (b := .int .i64 p) (c := .int .i64 q) (by rw [← HBS.out]; simp); obtain ⟨⟨a0, a1, a2⟩, -⟩ := Q6.out.at (r := w.heap.size + 1) (a := .slice al m1 cl) (b := .slice ad m1 cd) (c := .slice ax m3 cx) (by rw [← HBS.out]; simp); obtain ⟨⟨b0, b1, b2⟩, -⟩ := Q6.out.at (r := w.heap.size + 1 + 1) (a := .slice bl m4 kl) (b := .slice bd m4 kd) (c := .slice bx m6 kx) (by rw [← HBS.out]; simp); obtain ⟨⟨o0, o1, o2⟩, -⟩ := Q6.out.at (r := ob) (a := .slice z1 nK e1) (b := .slice z2 nK e2) (c := .slice z3 mz e3) (by rw [← HBS.out]; simp))
          go_wp2_with fail
          refine hK.out _ _ (by (try dsimp only); exact ⟨r0, r1, r2, a0, a1, a2, b0, b1, b2, o0, o1, o2⟩) (fun hHeld => ?_)
          clear hK K
          try simp only [Act.put, List.getElem_toArray, List.getElem_cons_succ, List.getElem_cons_zero, List.setIfInBounds_toArray, List.set_cons_zero, List.set_cons_succ]
          refine wpAnyH_done (by kernel_rfl) ?_ _
          have Q7 := Lib.hid Q6.out.swap
          have HCR : Hid (CarryV JD (c : Int) j) := Lib.hid (by have h := carry_start JD (c : Int); rw [HLL.out.2.1] at h; exact h)
          have Q8 : Hid (Rs w x6 bs [(.slice (some ⟨gi, 0, none⟩) j j, odoL JD (c : Int) j), (.slice z3 mz e3, accL k p q zf tf M (c + 1)), (.slice s3 j d3, sO), (.slice s2 j d2, sB), (.slice s1 j d1, sA), (.slice z1 nK e1, KZ), (.slice z2 nK e2, KD), (.slice g1 j c1, J), (.slice g2 j c2, JD)]) := Lib.hid (by
            have e := odoL_all JD (c : Int)
            rw [HLL.out.2.1] at e
            rw [e]
            exact Q7.out)
          clear r0 r1 r2 a0 a1 a2 b0 b1 b2 o0 o1 o2 Q0 Q1 Q2 Q3 Q4 Q5 Q6 Q7 HNE HV1 HV2 HV4 HV5 HP5 HG1 HG4 HE2 HE3 HE5 HJ1 HL0 HXN HR
          go_wp2
          go_loopw [23] (fun i wr2 => ∃ jj : Nat, jj ≤ j ∧ i = .int .i64 ((jj : Int) - 1) ∧ Hid (CarryV JD (c : Int) jj) ∧ Hid (Rs w wr2 bs [(.slice (some ⟨gi, 0, none⟩) j j, odoL JD (c : Int) jj), (.slice z3 mz e3, accL k p q zf tf M (c + 1)), (.slice s3 j d3, sO), (.slice s2 j d2, sB), (.slice s1 j d1, sA), (.slice z1 nK e1, KZ), (.slice z2 nK e2, KD), (.slice g1 j c1, J), (.slice g2 j c2, JD)])) (fun i _ => (intOf i + 1).toNat)
          case atStart => exact ⟨j, by omega, rfl, HCR, Q8⟩
          case round =>
            clear Q8 HCR
            obtain ⟨jj, hjj, rfl, HCR, HQ⟩ := hrel
            cases jj with
            | zero =>
              have q1 : ¬ (0 : Int) ≤ ((0 : Nat) : Int) - 1 := by omega
              have HEN : Hid (odoL JD (c : Int) 0 = idxL JD ((c + 1 : Nat) : Int)) := Lib.hid (odo_end HCR.out HJD.out)
              rw [HEN.out] at HQ
              go_wp2
              go_roundw
              case rel => exact ⟨c + 1, by omega, by go_num, HQ⟩
              case measure => simp [intOf]; omega
            | succ jj =>
              have ej : (((jj + 1 : Nat) : Int) - 1) = (jj : Int) := by omega
              have hjn : jj < j := by omega
              have hjD : jj < JD.length := by rw [HLL.out.2.1]; exact hjn
              obtain ⟨dd, X2⟩ : ∃ x, Hid (JD[jj]? = some x) := ⟨_, List.getElem?_eq_getElem hjD⟩
              obtain ⟨ii, hii⟩ : ∃ x, x = ((c : Int) / prodL (JD.drop (jj + 1))) % JD.getD jj 0 := ⟨_, rfl⟩
              have hat : (odoL JD (c : Int) (jj + 1))[jj]? = some ii := by rw [odoL_at JD _ _ _ hjD, if_pos (by omega), hii]
              have hd1 : 1 ≤ dd ∧ dd ≤ 8 := HJR.out dd (List.mem_of_getElem? X2.out)
              have hgd : JD.getD jj 0 = dd := getD_at X2.out
              have hi0 : 0 ≤ ii := by rw [hii]; exact Int.emod_nonneg _ (by omega)
              have hi1 : ii < dd := by rw [hii, hgd]; exact Int.emod_lt_of_pos _ (by omega)
              obtain ⟨gi', ei, -, -, hcell, hfz⟩ := (HQ.out.own1 (v := .slice (some ⟨gi, 0, none⟩) j j) (xs := odoL JD (c : Int) (jj + 1)) (by simp)).slot (by rw [odoL_len, HLL.out.2.1]) (by omega)
              cases ei
              have f1 := hcell jj ii hat
              have f2 := hfz jj
              have HQ2 := Lib.hid (HQ.out.put (by rw [odoL_len, HLL.out.2.1]) jj (ii + 1))
              obtain ⟨gi', ei, -, -, hcell2, hfz2⟩ := (HQ2.out.own1 (v := .slice (some ⟨gi, 0, none⟩) j j) (xs := (odoL JD (c : Int) (jj + 1)).set jj (ii + 1)) (by simp)).slot (by rw [List.length_set, odoL_len, HLL.out.2.1]) (by omega)
              cases ei
              have f3 := hcell2 jj (ii + 1) (List.getElem?_set_self (by rw [odoL_len]; exact hjD))
              have f4 := hfz2 jj
              obtain ⟨bD, oD, rfl, -, f5⟩ := (HQ2.out.rd (v := .slice g2 j c2) (xs := JD) (by simp)).cellAt X2.out
              have HQ3 := Lib.hid HQ2.out.drew
              have HQ4 := Lib.hid (HQ3.out.put (by rw [List.length_set, odoL_len, HLL.out.2.1]) jj 0)
              have HOZ : Hid (((odoL JD (c : Int) (jj + 1)).set jj (ii + 1)).set jj 0 = odoL JD (c : Int) jj) := Lib.hid (odo_zero hjD _)
              rw [HOZ.out] at HQ4
              clear hcell hfz hcell2 hfz2 hat
              rw [ej]
              by_cases hlt2 : ii + 1 < dd
              · have HNX : Hid ((odoL JD (c : Int) (jj + 1)).set jj (ii + 1) = idxL JD ((c + 1 : Nat) : Int)) := Lib.hid (by
                  have h := odo_next HJD.out hjD HCR.out (by rw [← hii, hgd]; exact hlt2)
                  rw [← hii] at h
                  exact h)
                rw [HNX.out] at HQ3
                clear HQ4 HOZ hii hgd
                go_wp2
                go_region
                all_goals
                  go_wp2
                  go_roundw
                  case rel => exact ⟨c + 1, by omega, by go_num, HQ3⟩
                  case measure => simp [intOf]; omega
              · have HCR2 : Hid (CarryV JD (c : Int) jj) := Lib.hid (carry_step HJD.out hjD HCR.out (by rw [← hii, hgd]; omega))
                clear HQ3 HOZ hii hgd
                go_wp2
                go_region
                all_goals
                  go_wp2
                  go_roundw
                  case rel => exact ⟨jj, by omega, by go_num, HCR2, HQ4⟩
                  case measure => simp [intOf]
    · obtain rfl : c = N := by omega
      have q0 : ¬ (0 : Int) < (c : Int) - (c : Int) := by omega
      obtain ⟨⟨o0, o1, o2⟩, -⟩ := HR.out.at (r := ob) (a := .slice z1 nK e1) (b := .slice z2 nK e2) (c := .slice z3 mz e3) (by rw [← HBS.out]; simp)
      obtain ⟨⟨t0, t1, t2⟩, f0, f1, f2⟩ := HR.out.at (r := w.heap.size + 1 + 1 + 1) (a := nilV) (b := nilV) (c := nilV) (by rw [← HBS.out]; simp)
      go_wp2
      refine bodyPost_ret (v := tenV (.slice z1 nK e1) (.slice z2 nK e2) (.slice z3 mz e3)) (by simp [results, Try.results79, go_sem, t0, t1, t2]) rfl ?_
      have h := HR.out
      rw [← HBS.out] at h
      have h2 := (h.swapB.set3 (.slice z1 nK e1) (.slice z2 nK e2) (.slice z3 mz e3))
      have h3 := ((h2.sub (rows' := [(.slice z3 mz e3, accL k p q zf tf M c), (.slice z1 nK e1, KZ), (.slice z2 nK e2, KD)]) (List.Sublist.cons _ (List.Sublist.cons_cons _ (List.Sublist.cons _ (List.Sublist.cons _ (List.Sublist.cons _ (List.Sublist.cons_cons _ (List.Sublist.cons_cons _ (List.Sublist.cons _ (List.Sublist.cons _ (List.Sublist.refl _))))))))))).third).third
      exact ⟨_, _, _, rfl, h3.ownG, h3.bel⟩
set_option maxHeartbeats 6400000 in
theorem contract_pair_spec {B B' B'' : Nat} {lv dv xv lu du xu kv : Value} {k p q : Int} {L D X L' D' X' keep : List Int} {w : World} (ha : RdT B w lv dv xv L D X) (hb : RdT B' w lu du xu L' D' X') (hk : Rd B'' w kv (ints keep)) (hB : B ≤ w.heap.size) (hB' : B' ≤ w.heap.size) (hB'' : B'' ≤ w.heap.size) (hn : LenT L D X) (hn' : LenT L' D' X') (hkl : keep.length ≤ 281474976710656) :
    Calls Try.prog 35 #[ringV k p q, tenV lv dv xv, tenV lu du xu, kv] w (NewTen2 w (if pairB k p q L D X L' D' X' keep = true then keepL (joinL L L') keep else []) (if pairB k p q L D X L' D' X' keep = true then keepD (joinL L L') (joinD L D L' D') keep else []) (if pairB k p q L D X L' D' X' keep = true then pairL k p q L D X L' D' X' keep else []) (pairB k p q L D X L' D' X' keep)) := by
  have HA : Hid (RdT w.heap.size w lv dv xv L D X) := Lib.hid ⟨ha.l.mono hB, ha.d.mono hB, ha.x.mono hB⟩
  have HU : Hid (RdT w.heap.size w lu du xu L' D' X') := Lib.hid ⟨hb.l.mono hB', hb.d.mono hB', hb.x.mono hB'⟩
  have HK : Hid (Rd w.heap.size w kv (ints keep)) := Lib.hid (hk.mono hB'')
  obtain ⟨al, cl, rfl, -⟩ := ints_form ha.l
  obtain ⟨ad, cd, rfl, -⟩ := ints_form ha.d
  obtain ⟨ax, cx, rfl, -⟩ := ints_form ha.x
  obtain ⟨m1, hm1⟩ : ∃ m, m = L.length := ⟨_, rfl⟩
  obtain ⟨m2, hm2⟩ : ∃ m, m = D.length := ⟨_, rfl⟩
  obtain ⟨m3, hm3⟩ : ∃ m, m = X.length := ⟨_, rfl⟩
  rw [← hm1, ← hm2, ← hm3] at HA ⊢
  obtain ⟨ak, ck, rfl, -⟩ := ints_form hk
  obtain ⟨mk, hmk⟩ : ∃ m, m = keep.length := ⟨_, rfl⟩
  rw [← hmk] at HK ⊢
  obtain ⟨bl, kl, rfl, -⟩ := ints_form hb.l
  obtain ⟨bd, kd, rfl, -⟩ := ints_form hb.d
  obtain ⟨bx, kx, rfl, -⟩ := ints_form hb.x
  obtain ⟨m4, hm4⟩ : ∃ m, m = L'.length := ⟨_, rfl⟩
  obtain ⟨m5, hm5⟩ : ∃ m, m = D'.length := ⟨_, rfl⟩
  obtain ⟨m6, hm6⟩ : ∃ m, m = X'.length := ⟨_, rfl⟩
  rw [← hm4, ← hm5, ← hm6] at HU ⊢
  have R0 : Hid (Rs w ((((w.alloc (.cells #[.int .i64 k, .int .i64 p, .int .i64 q] 30)).alloc (.cells #[.slice al m1 cl, .slice ad m2 cd, .slice ax m3 cx] 49)).alloc (.cells #[.slice bl m4 kl, .slice bd m5 kd, .slice bx m6 kx] 49)).alloc (.cells #[nilV, nilV, nilV] 49)) [(w.heap.size + 1 + 1 + 1, nilV, nilV, nilV), (w.heap.size + 1 + 1, .slice bl m4 kl, .slice bd m5 kd, .slice bx m6 kx), (w.heap.size + 1, .slice al m1 cl, .slice ad m2 cd, .slice ax m3 cx), (w.heap.size, .int .i64 k, .int .i64 p, .int .i64 q)] []) := by
    have h := ((((Rs.start w).box (.int .i64 k) (.int .i64 p) (.int .i64 q) 30).box (.slice al m1 cl) (.slice ad m2 cd) (.slice ax m3 cx) 49).box (.slice bl m4 kl) (.slice bd m5 kd) (.slice bx m6 kx) 49).box nilV nilV nilV 49
    simp only [World.size_alloc] at h
    exact h
  have OKA := Lib.hid (fun (w1 : World) (hb : Below w.heap.size w w1) => tensor_ok_spec (k := k) (p := p) (n := q) (HA.out.below hb (Nat.le_refl _)) hb.size hn)
  have OKU := Lib.hid (fun (w1 : World) (hb : Below w.heap.size w w1) => tensor_ok_spec (k := k) (p := p) (n := q) (HU.out.below hb (Nat.le_refl _)) hb.size hn')
  have HPF := Lib.hid (fun (hx : AxesV L D) (hx' : AxesV L' D') (w1 : World) (hb : Below w.heap.size w w1) => fits_pair_spec (HA.out.below hb (Nat.le_refl _)) (HU.out.below hb (Nat.le_refl _)) (HK.out.below hb (Nat.le_refl _)) hb.size hb.size hx hx' hkl)
  obtain ⟨ta, hta⟩ : ∃ b, b = tensorB k p q L D X := ⟨_, rfl⟩
  obtain ⟨tu, htu⟩ : ∃ b, b = tensorB k p q L' D' X' := ⟨_, rfl⟩
  obtain ⟨pf, hpf⟩ : ∃ b, b = pfB L D L' D' keep := ⟨_, rfl⟩
  obtain ⟨fb, hfb⟩ : ∃ b, b = pairB k p q L D X L' D' X' keep := ⟨_, rfl⟩
  have HFB : Hid (fb = (ta && (tu && pf))) := Lib.hid (by rw [hfb, hta, htu, hpf]; rfl)
  have HTA := Lib.hid hta
  have HTU := Lib.hid htu
  have HFF := Lib.hid hfb
  have HKL := Lib.hid hkl
  rw [← hta] at OKA
  rw [← htu] at OKU
  rw [← hpf] at HPF
  rw [← hfb]
  obtain ⟨zl, hzl⟩ : ∃ l, l = (if fb = true then keepL (joinL L L') keep else []) := ⟨_, rfl⟩
  obtain ⟨zd, hzd⟩ : ∃ l, l = (if fb = true then keepD (joinL L L') (joinD L D L' D') keep else []) := ⟨_, rfl⟩
  obtain ⟨zx, hzx⟩ : ∃ l, l = (if fb = true then pairL k p q L D X L' D' X' keep else []) := ⟨_, rfl⟩
  have HNO : Hid (fb = false → zl = [] ∧ zd = [] ∧ zx = []) := Lib.hid (fun h => by subst h; exact ⟨hzl, hzd, hzx⟩)
  have HYES : Hid (fb = true → zl = keepL (joinL L L') keep ∧ zd = keepD (joinL L L') (joinD L D L' D') keep ∧ zx = pairL k p q L D X L' D' X' keep) := Lib.hid (fun h => by subst h; exact ⟨hzl, hzd, hzx⟩)
  rw [← hzl, ← hzd, ← hzx]
  clear hzl hzd hzx
  clear ha hb hk hB hB' hB'' hn hn' hkl hm1 hm2 hm3 hm4 hm5 hm6 hmk hta htu hpf hfb
  obtain ⟨⟨r0, r1, r2⟩, -⟩ := R0.out.at (r := w.heap.size) (a := .int .i64 k) (b := .int .i64 p) (c := .int .i64 q) (by simp)
  obtain ⟨⟨a0, a1, a2⟩, -⟩ := R0.out.at (r := w.heap.size + 1) (a := .slice al m1 cl) (b := .slice ad m2 cd) (c := .slice ax m3 cx) (by simp)
  obtain ⟨⟨b0, b1, b2⟩, -⟩ := R0.out.at (r := w.heap.size + 1 + 1) (a := .slice bl m4 kl) (b := .slice bd m5 kd) (c := .slice bx m6 kx) (by simp)
  cases ta with
  | false =>
    obtain rfl : fb = false := HFB.out
    obtain ⟨rfl, rfl, rfl⟩ := HNO.out rfl
    go_enter Try.func35, Try.ntmps35
    go_wp2_with fail
    refine (OKA.out _ R0.out.bel).mono ?_
    clear r0 r1 r2 a0 a1 a2 b0 b1 b2
    rintro e w1 ⟨rfl, hb⟩
    have R1 := Lib.hid (R0.out.step hb)
    clear hb
    obtain ⟨⟨t0, t1, t2⟩, f0, f1, f2⟩ := R1.out.at (r := w.heap.size + 1 + 1 + 1) (a := nilV) (b := nilV) (c := nilV) (by simp)
    go_wp2
    refine bodyPost_ret (v := .tuple #[tenV nilV nilV nilV, .bool false]) (by simp [results, Try.results35, go_sem, t0, t1, t2]) rfl ?_
    exact NewTen2.nils (((R1.out.bel.setCell (by simp; omega) _).setCell (by simp; omega) _).setCell (by simp; omega) _)
  | true =>
    cases tu with
    | false =>
      obtain rfl : fb = false := HFB.out
      obtain ⟨rfl, rfl, rfl⟩ := HNO.out rfl
      go_enter Try.func35, Try.ntmps35
      go_wp2_with fail
      refine (OKA.out _ R0.out.bel).mono ?_
      clear r0 r1 r2 a0 a1 a2 b0 b1 b2
      rintro e w1 ⟨rfl, hb⟩
      have R1 := Lib.hid (R0.out.step hb)
      clear hb
      obtain ⟨⟨r0, r1, r2⟩, -⟩ := R1.out.at (r := w.heap.size) (a := .int .i64 k) (b := .int .i64 p) (c := .int .i64 q) (by simp)
      obtain ⟨⟨a0, a1, a2⟩, -⟩ := R1.out.at (r := w.heap.size + 1) (a := .slice al m1 cl) (b := .slice ad m2 cd) (c := .slice ax m3 cx) (by simp)
      obtain ⟨⟨b0, b1, b2⟩, -⟩ := R1.out.at (r := w.heap.size + 1 + 1) (a := .slice bl m4 kl) (b := .slice bd m5 kd) (c := .slice bx m6 kx) (by simp)
      go_wp2_with fail
      refine (OKU.out _ R1.out.bel).mono ?_
      clear r0 r1 r2 a0 a1 a2 b0 b1 b2
      rintro e w2 ⟨rfl, hb⟩
      have R2 := Lib.hid (R1.out.step hb)
      clear hb
      obtain ⟨⟨t0, t1, t2⟩, f0, f1, f2⟩ := R2.out.at (r := w.heap.size + 1 + 1 + 1) (a := nilV) (b := nilV) (c := nilV) (by simp)
      go_wp2
      refine bodyPost_ret (v := .tuple #[tenV nilV nilV nilV, .bool false]) (by simp [results, Try.results35, go_sem, t0, t1, t2]) rfl ?_
      exact NewTen2.nils (((R2.out.bel.setCell (by simp; omega) _).setCell (by simp; omega) _).setCell (by simp; omega) _)
    | true =>
      have HQF := Lib.hid (HPF.out (tensor_axes HTA.out.symm) (tensor_axes HTU.out.symm))
      clear HPF
      go_enter Try.func35, Try.ntmps35
      go_wp2_with fail
      refine (OKA.out _ R0.out.bel).mono ?_
      clear r0 r1 r2 a0 a1 a2 b0 b1 b2
      rintro e w1 ⟨rfl, hb⟩
      have R1 := Lib.hid (R0.out.step hb)
      clear hb
      obtain ⟨⟨r0, r1, r2⟩, -⟩ := R1.out.at (r := w.heap.size) (a := .int .i64 k) (b := .int .i64 p) (c := .int .i64 q) (by simp)
      obtain ⟨⟨a0, a1, a2⟩, -⟩ := R1.out.at (r := w.heap.size + 1) (a := .slice al m1 cl) (b := .slice ad m2 cd) (c := .slice ax m3 cx) (by simp)
      obtain ⟨⟨b0, b1, b2⟩, -⟩ := R1.out.at (r := w.heap.size + 1 + 1) (a := .slice bl m4 kl) (b := .slice bd m5 kd) (c := .slice bx m6 kx) (by simp)
      go_wp2_with fail
      refine (OKU.out _ R1.out.bel).mono ?_
      clear r0 r1 r2 a0 a1 a2 b0 b1 b2
      rintro e w2 ⟨rfl, hb⟩
      have R2 := Lib.hid (R1.out.step hb)
      clear hb
      obtain ⟨⟨r0, r1, r2⟩, -⟩ := R2.out.at (r := w.heap.size) (a := .int .i64 k) (b := .int .i64 p) (c := .int .i64 q) (by simp)
      obtain ⟨⟨a0, a1, a2⟩, -⟩ := R2.out.at (r := w.heap.size + 1) (a := .slice al m1 cl) (b := .slice ad m2 cd) (c := .slice ax m3 cx) (by simp)
      obtain ⟨⟨b0, b1, b2⟩, -⟩ := R2.out.at (r := w.heap.size + 1 + 1) (a := .slice bl m4 kl) (b := .slice bd m5 kd) (c := .slice bx m6 kx) (by simp)
      go_wp2_with fail
      refine (HQF.out _ R2.out.bel).mono ?_
      clear r0 r1 r2 a0 a1 a2 b0 b1 b2
      rintro e w3 ⟨rfl, hb⟩
      have R3 := Lib.hid (R2.out.step hb)
      clear hb
      cases pf with
      | false =>
        obtain rfl : fb = false := HFB.out
        obtain ⟨rfl, rfl, rfl⟩ := HNO.out rfl
        obtain ⟨⟨t0, t1, t2⟩, f0, f1, f2⟩ := R3.out.at (r := w.heap.size + 1 + 1 + 1) (a := nilV) (b := nilV) (c := nilV) (by simp)
        go_wp2
        refine bodyPost_ret (v := .tuple #[tenV nilV nilV nilV, .bool false]) (by simp [results, Try.results35, go_sem, t0, t1, t2]) rfl ?_
        exact NewTen2.nils (((R3.out.bel.setCell (by simp; omega) _).setCell (by simp; omega) _).setCell (by simp; omega) _)
      | true =>
        obtain rfl : fb = true := HFB.out
        have HY3 := Lib.hid (HYES.out (by simp))
        obtain ⟨h1, h2, h3, h4, h5⟩ := pairB_parts HFF.out.symm
        have hrb := (tensorB_inv h1).1
        obtain ⟨wd, hw, hw1, hw6⟩ := width_pos hrb
        have HPP := Lib.hid (pair_spec (k := k) (p := p) (q := q) (HA.out.below R3.out.bel (Nat.le_refl _)) (HU.out.below R3.out.bel (Nat.le_refl _)) (HK.out.below R3.out.bel (Nat.le_refl _)) R3.out.bel.size hrb hw hw1 hw6 (TenF.of h1 hw) (TenF.of h2 hw) h3 h4 h5 HKL.out)
        clear h1 h2 h3 h4 h5 hrb hw hw1 hw6 HQF
        obtain ⟨⟨r0, r1, r2⟩, -⟩ := R3.out.at (r := w.heap.size) (a := .int .i64 k) (b := .int .i64 p) (c := .int .i64 q) (by simp)
        obtain ⟨⟨a0, a1, a2⟩, -⟩ := R3.out.at (r := w.heap.size + 1) (a := .slice al m1 cl) (b := .slice ad m2 cd) (c := .slice ax m3 cx) (by simp)
        obtain ⟨⟨b0, b1, b2⟩, -⟩ := R3.out.at (r := w.heap.size + 1 + 1) (a := .slice bl m4 kl) (b := .slice bd m5 kd) (c := .slice bx m6 kx) (by simp)
        go_wp2_with fail
        refine HPP.out.mono ?_
        clear r0 r1 r2 a0 a1 a2 b0 b1 b2
        clear HPP
        rintro e w5 ⟨l', d', x', rfl, ho, hb⟩
        have R5 := Lib.hid (R3.out.step hb)
        obtain ⟨a1, c1, rfl, -⟩ := ints_form ho.rows.1.rd
        obtain ⟨a2, c2, rfl, -⟩ := ints_form ho.rows.2.1.rd
        obtain ⟨a3, c3, rfl, -⟩ := ints_form ho.rows.2.2.rd
        have lt1 := (R3.out.bx (w.heap.size + 1 + 1 + 1, nilV, nilV, nilV) (by simp)).lt
        have hz1 := R3.out.bel.size
        rw [← HY3.out.1, ← HY3.out.2.1, ← HY3.out.2.2] at ho
        rw [← HY3.out.1, ← HY3.out.2.1, ← HY3.out.2.2]
        obtain ⟨q1, hq1⟩ : ∃ m, m = zl.length := ⟨_, rfl⟩
        obtain ⟨q2, hq2⟩ : ∃ m, m = zd.length := ⟨_, rfl⟩
        obtain ⟨q3, hq3⟩ : ∃ m, m = zx.length := ⟨_, rfl⟩
        rw [← hq1, ← hq2, ← hq3] at ho ⊢
        have HO := Lib.hid (ho.set3 lt1 (.slice a1 q1 c1) (.slice a2 q2 c2) (.slice a3 q3 c3))
        clear hb ho hq1 hq2 hq3
        obtain ⟨⟨t0, t1, t2⟩, f0, f1, f2⟩ := R5.out.at (r := w.heap.size + 1 + 1 + 1) (a := nilV) (b := nilV) (c := nilV) (by simp)
        go_wp2
        refine bodyPost_ret (v := .tuple #[tenV (.slice a1 q1 c1) (.slice a2 q2 c2) (.slice a3 q3 c3), .bool true]) (by simp [results, Try.results35, go_sem, t0, t1, t2]) rfl ?_
        refine ⟨_, _, _, rfl, ?_, ((R5.out.bel.setCell (by simp; omega) _).setCell (by simp; omega) _).setCell (by simp; omega) _⟩
        exact HO.out.wide hz1 (by simp) (by simp)
set_option maxHeartbeats 6400000 in
theorem l08_sum_spec {B : Nat} {lv dv xv kv : Value} {k p q : Int} {L D X keep : List Int} {w : World} (ha : RdT B w lv dv xv L D X) (hk : Rd B w kv (ints keep)) (hB : B ≤ w.heap.size) (ht : tensorB k p q L D X = true) (hkl : keep.length ≤ 281474976710656) :
    Calls Try.prog 83 #[ringV k p q, tenV lv dv xv, kv] w (NewTen w (keepL (joinL L []) keep) (keepD (joinL L []) (joinD L D [] []) keep) (pairL k p q L D X [] [] (oneL k p q) keep)) := by
  have HA : Hid (RdT w.heap.size w lv dv xv L D X) := Lib.hid ⟨ha.l.mono hB, ha.d.mono hB, ha.x.mono hB⟩
  have HK : Hid (Rd w.heap.size w kv (ints keep)) := Lib.hid (hk.mono hB)
  obtain ⟨al, cl, rfl, -⟩ := ints_form ha.l
  obtain ⟨ad, cd, rfl, -⟩ := ints_form ha.d
  obtain ⟨ax, cx, rfl, -⟩ := ints_form ha.x
  obtain ⟨m1, hm1⟩ : ∃ m, m = L.length := ⟨_, rfl⟩
  obtain ⟨m2, hm2⟩ : ∃ m, m = D.length := ⟨_, rfl⟩
  obtain ⟨m3, hm3⟩ : ∃ m, m = X.length := ⟨_, rfl⟩
  rw [← hm1, ← hm2, ← hm3] at HA ⊢
  obtain ⟨ak, ck, rfl, -⟩ := ints_form hk
  obtain ⟨mk, hmk⟩ : ∃ m, m = keep.length := ⟨_, rfl⟩
  rw [← hmk] at HK ⊢
  have R0 : Hid (Rs w (((w.alloc (.cells #[.int .i64 k, .int .i64 p, .int .i64 q] 30)).alloc (.cells #[.slice al m1 cl, .slice ad m2 cd, .slice ax m3 cx] 49)).alloc (.cells #[nilV, nilV, nilV] 49)) [(w.heap.size + 1 + 1, nilV, nilV, nilV), (w.heap.size + 1, .slice al m1 cl, .slice ad m2 cd, .slice ax m3 cx), (w.heap.size, .int .i64 k, .int .i64 p, .int .i64 q)] []) := by
    have h := (((Rs.start w).box (.int .i64 k) (.int .i64 p) (.int .i64 q) 30).box (.slice al m1 cl) (.slice ad m2 cd) (.slice ax m3 cx) 49).box nilV nilV nilV 49
    simp only [World.size_alloc] at h
    exact h
  have hrb := (tensorB_inv ht).1
  obtain ⟨wd, hw, hw1, hw6⟩ := width_pos hrb
  have hsz := tensor_axes ht
  have hP : prodL D ≤ 4096 := by have h := (TenF.of ht hw).pr; have h2 := (TenF.of ht hw).n1; omega
  obtain ⟨e1, e2, h5⟩ := sum_fits (keep := keep) hsz hP
  have HON := Lib.hid (fun w1 => one_spec k p q w1 hrb)
  have HPP := Lib.hid (fun (w1 : World) (hb : Below w.heap.size w w1) {v : Value} (hv : Rd w1.heap.size w1 v (ints (oneL k p q))) => pair_spec (B := w1.heap.size) (w := w1) (k := k) (p := p) (q := q) (lu := nilV) (du := nilV) (L' := []) (D' := []) (keep := keep) (have h := HA.out.below hb (Nat.le_refl _); ⟨h.l.mono hb.size, h.d.mono hb.size, h.x.mono hb.size⟩) ⟨.inl ⟨rfl, none, 0, rfl⟩, .inl ⟨rfl, none, 0, rfl⟩, hv⟩ ((HK.out.below hb (Nat.le_refl _)).mono hb.size) (Nat.le_refl _) hrb hw hw1 hw6 (TenF.of ht hw) (one_ten hrb hw) (fun j n h => by simp at h) (by rw [e2]; omega) h5 hkl)
  obtain ⟨zl, hzl⟩ : ∃ l, l = keepL (joinL L []) keep := ⟨_, rfl⟩
  obtain ⟨zd, hzd⟩ : ∃ l, l = keepD (joinL L []) (joinD L D [] []) keep := ⟨_, rfl⟩
  obtain ⟨zx, hzx⟩ : ∃ l, l = pairL k p q L D X [] [] (oneL k p q) keep := ⟨_, rfl⟩
  rw [← hzl, ← hzd, ← hzx] at HPP ⊢
  obtain ⟨on, hon⟩ : ∃ l, l = oneL k p q := ⟨_, rfl⟩
  rw [← hon] at HON HPP
  have HY3 : Hid (zl = zl ∧ zd = zd ∧ zx = zx) := Lib.hid ⟨rfl, rfl, rfl⟩
  clear ha hk hB ht hkl hm1 hm2 hm3 hmk hrb hw hw1 hw6 hsz hP e1 e2 h5 hzl hzd hzx hon
  have R1 := Lib.hid R0.out.drew
  obtain ⟨⟨r0, r1, r2⟩, -⟩ := R1.out.at (r := w.heap.size) (a := .int .i64 k) (b := .int .i64 p) (c := .int .i64 q) (by simp)
  obtain ⟨⟨a0, a1, a2⟩, -⟩ := R1.out.at (r := w.heap.size + 1) (a := .slice al m1 cl) (b := .slice ad m2 cd) (c := .slice ax m3 cx) (by simp)
  go_enter Try.func83, Try.ntmps83
  go_wp2
  go_region_held3 (fun w' => w'.cell? ⟨w.heap.size, 0, none⟩ = some (.int .i64 k) ∧ w'.cell? ⟨w.heap.size, 1, none⟩ = some (.int .i64 p) ∧ w'.cell? ⟨w.heap.size, 2, none⟩ = some (.int .i64 q) ∧ w'.cell? ⟨w.heap.size + 1, 0, none⟩ = some (.slice al m1 cl) ∧ w'.cell? ⟨w.heap.size + 1, 1, none⟩ = some (.slice ad m2 cd) ∧ w'.cell? ⟨w.heap.size + 1, 2, none⟩ = some (.slice ax m3 cx)) (first | exact ⟨r0, r1, r2, a0, a1, a2⟩ | exact ⟨y0, y1, y2, y3, y4, y5⟩) (first
    | (go_at_call 117; refine (HON.out _).mono ?_; rintro e w2 ⟨v, rfl, ho, hb⟩; have R2 := Lib.hid (R1.out.new hb ho); obtain ⟨g9, c9, rfl, -⟩ := ints_form ho.rd; clear ho hb r0 r1 r2 a0 a1 a2; obtain ⟨⟨r0, r1, r2⟩, -⟩ := R2.out.at (r := w.heap.size) (a := .int .i64 k) (b := .int .i64 p) (c := .int .i64 q) (by simp); obtain ⟨⟨a0, a1, a2⟩, -⟩ := R2.out.at (r := w.heap.size + 1) (a := .slice al m1 cl) (b := .slice ad m2 cd) (c := .slice ax m3 cx) (by simp))
    | (go_at_call 79; refine (HPP.out _ R2.out.bel (v := .slice g9 on.length c9) (R2.out.rd (by simp))).mono ?_; rintro e w5 ⟨l', d', x', rfl, ho, hb⟩; have R5 := Lib.hid (R2.out.step hb); obtain ⟨a1', c1, rfl, -⟩ := ints_form ho.rows.1.rd; obtain ⟨a2', c2, rfl, -⟩ := ints_form ho.rows.2.1.rd; obtain ⟨a3', c3, rfl, -⟩ := ints_form ho.rows.2.2.rd; have LT := Lib.hid (R2.out.bx (w.heap.size + 1 + 1, nilV, nilV, nilV) (by simp)).lt; have HZ1 := Lib.hid R2.out.bel.size; have HO := Lib.hid (ho.set3 LT.out (.slice a1' zl.length c1) (.slice a2' zd.length c2) (.slice a3' zx.length c3)); have R6 := Lib.hid (R5.out.set3 (.slice a1' zl.length c1) (.slice a2' zd.length c2) (.slice a3' zx.length c3)); clear ho hb r0 r1 r2 a0 a1 a2; obtain ⟨⟨r0, r1, r2⟩, -⟩ := R5.out.at (r := w.heap.size) (a := .int .i64 k) (b := .int .i64 p) (c := .int .i64 q) (by simp); obtain ⟨⟨a0, a1, a2⟩, -⟩ := R5.out.at (r := w.heap.size + 1) (a := .slice al m1 cl) (b := .slice ad m2 cd) (c := .slice ax m3 cx) (by simp); obtain ⟨⟨t0, t1, t2⟩, f0, f1, f2⟩ := R5.out.at (r := w.heap.size + 1 + 1) (a := nilV) (b := nilV) (c := nilV) (by simp); obtain ⟨⟨y0, y1, y2⟩, -⟩ := R6.out.at (r := w.heap.size) (a := .int .i64 k) (b := .int .i64 p) (c := .int .i64 q) (by simp); obtain ⟨⟨y3, y4, y5⟩, -⟩ := R6.out.at (r := w.heap.size + 1) (a := .slice al m1 cl) (b := .slice ad m2 cd) (c := .slice ax m3 cx) (by simp)))
  clear r0 r1 r2 a0 a1 a2 y0 y1 y2 y3 y4 y5
  go_wp2
  refine bodyPost_ret (v := tenV (.slice a1' zl.length c1) (.slice a2' zd.length c2) (.slice a3' zx.length c3)) (by simp [results, Try.results83, go_sem, t0, t1, t2]) rfl ?_
  exact ⟨_, _, _, rfl, HO.out.wide HZ1.out (by simp) (by simp), R6.out.bel⟩
set_option maxHeartbeats 6400000 in
theorem sum_labels_spec {B B' : Nat} {lv dv xv kv : Value} {k p q : Int} {L D X keep : List Int} {w : World} (ha : RdT B w lv dv xv L D X) (hk : Rd B' w kv (ints keep)) (hB : B ≤ w.heap.size) (hB' : B' ≤ w.heap.size) (hn : LenT L D X) (hkl : keep.length ≤ 281474976710656) :
    Calls Try.prog 42 #[ringV k p q, tenV lv dv xv, kv] w (NewTen w (if tensorB k p q L D X = true then keepL (joinL L []) keep else []) (if tensorB k p q L D X = true then keepD (joinL L []) (joinD L D [] []) keep else []) (if tensorB k p q L D X = true then pairL k p q L D X [] [] (oneL k p q) keep else [])) := by
  have HA : Hid (RdT w.heap.size w lv dv xv L D X) := Lib.hid ⟨ha.l.mono hB, ha.d.mono hB, ha.x.mono hB⟩
  have HK : Hid (Rd w.heap.size w kv (ints keep)) := Lib.hid (hk.mono hB')
  obtain ⟨al, cl, rfl, -⟩ := ints_form ha.l
  obtain ⟨ad, cd, rfl, -⟩ := ints_form ha.d
  obtain ⟨ax, cx, rfl, -⟩ := ints_form ha.x
  obtain ⟨m1, hm1⟩ : ∃ m, m = L.length := ⟨_, rfl⟩
  obtain ⟨m2, hm2⟩ : ∃ m, m = D.length := ⟨_, rfl⟩
  obtain ⟨m3, hm3⟩ : ∃ m, m = X.length := ⟨_, rfl⟩
  rw [← hm1, ← hm2, ← hm3] at HA ⊢
  obtain ⟨ak, ck, rfl, -⟩ := ints_form hk
  obtain ⟨mk, hmk⟩ : ∃ m, m = keep.length := ⟨_, rfl⟩
  rw [← hmk] at HK ⊢
  have R0 : Hid (Rs w (((w.alloc (.cells #[.int .i64 k, .int .i64 p, .int .i64 q] 30)).alloc (.cells #[.slice al m1 cl, .slice ad m2 cd, .slice ax m3 cx] 49)).alloc (.cells #[nilV, nilV, nilV] 49)) [(w.heap.size + 1 + 1, nilV, nilV, nilV), (w.heap.size + 1, .slice al m1 cl, .slice ad m2 cd, .slice ax m3 cx), (w.heap.size, .int .i64 k, .int .i64 p, .int .i64 q)] []) := by
    have h := (((Rs.start w).box (.int .i64 k) (.int .i64 p) (.int .i64 q) 30).box (.slice al m1 cl) (.slice ad m2 cd) (.slice ax m3 cx) 49).box nilV nilV nilV 49
    simp only [World.size_alloc] at h
    exact h
  have OKA := Lib.hid (fun (w1 : World) (hb : Below w.heap.size w w1) => tensor_ok_spec (k := k) (p := p) (n := q) (HA.out.below hb (Nat.le_refl _)) hb.size hn)
  have HSM := Lib.hid (fun (ht : tensorB k p q L D X = true) (w1 : World) (hb : Below w.heap.size w w1) => l08_sum_spec (k := k) (p := p) (q := q) (HA.out.below hb (Nat.le_refl _)) (HK.out.below hb (Nat.le_refl _)) hb.size ht hkl)
  obtain ⟨fb, hfb⟩ : ∃ b, b = tensorB k p q L D X := ⟨_, rfl⟩
  have HFB := Lib.hid hfb
  rw [← hfb] at OKA
  rw [← hfb]
  obtain ⟨zl, hzl⟩ : ∃ l, l = (if fb = true then keepL (joinL L []) keep else []) := ⟨_, rfl⟩
  obtain ⟨zd, hzd⟩ : ∃ l, l = (if fb = true then keepD (joinL L []) (joinD L D [] []) keep else []) := ⟨_, rfl⟩
  obtain ⟨zx, hzx⟩ : ∃ l, l = (if fb = true then pairL k p q L D X [] [] (oneL k p q) keep else []) := ⟨_, rfl⟩
  have HNO : Hid (fb = false → zl = [] ∧ zd = [] ∧ zx = []) := Lib.hid (fun h => by subst h; exact ⟨hzl, hzd, hzx⟩)
  have HYES : Hid (fb = true → zl = keepL (joinL L []) keep ∧ zd = keepD (joinL L []) (joinD L D [] []) keep ∧ zx = pairL k p q L D X [] [] (oneL k p q) keep) := Lib.hid (fun h => by subst h; exact ⟨hzl, hzd, hzx⟩)
  rw [← hzl, ← hzd, ← hzx]
  clear hzl hzd hzx
  clear ha hk hB hB' hn hkl hm1 hm2 hm3 hmk hfb
  obtain ⟨⟨r0, r1, r2⟩, -⟩ := R0.out.at (r := w.heap.size) (a := .int .i64 k) (b := .int .i64 p) (c := .int .i64 q) (by simp)
  obtain ⟨⟨a0, a1, a2⟩, -⟩ := R0.out.at (r := w.heap.size + 1) (a := .slice al m1 cl) (b := .slice ad m2 cd) (c := .slice ax m3 cx) (by simp)
  cases fb with
  | false =>
    obtain ⟨rfl, rfl, rfl⟩ := HNO.out rfl
    go_enter Try.func42, Try.ntmps42
    go_wp2_with fail
    refine (OKA.out _ R0.out.bel).mono ?_
    clear r0 r1 r2 a0 a1 a2
    rintro e w1 ⟨rfl, hb⟩
    have R1 := Lib.hid (R0.out.step hb)
    clear hb
    obtain ⟨⟨t0, t1, t2⟩, f0, f1, f2⟩ := R1.out.at (r := w.heap.size + 1 + 1) (a := nilV) (b := nilV) (c := nilV) (by simp)
    go_wp2
    refine bodyPost_ret (v := tenV nilV nilV nilV) (by simp [results, Try.results42, go_sem, t0, t1, t2]) rfl ?_
    exact NewTen.nils (((R1.out.bel.setCell (by simp; omega) _).setCell (by simp; omega) _).setCell (by simp; omega) _)
  | true =>
    have HY3 := Lib.hid (HYES.out (by simp))
    have HQ := Lib.hid (HSM.out HFB.out.symm)
    clear HSM
    go_enter Try.func42, Try.ntmps42
    go_wp2_with fail
    refine (OKA.out _ R0.out.bel).mono ?_
    clear r0 r1 r2 a0 a1 a2
    rintro e w1 ⟨rfl, hb⟩
    have R1 := Lib.hid (R0.out.step hb)
    clear hb
    obtain ⟨⟨r0, r1, r2⟩, -⟩ := R1.out.at (r := w.heap.size) (a := .int .i64 k) (b := .int .i64 p) (c := .int .i64 q) (by simp)
    obtain ⟨⟨a0, a1, a2⟩, -⟩ := R1.out.at (r := w.heap.size + 1) (a := .slice al m1 cl) (b := .slice ad m2 cd) (c := .slice ax m3 cx) (by simp)
    go_wp2_with fail
    refine (HQ.out _ R1.out.bel).mono ?_
    clear r0 r1 r2 a0 a1 a2
    clear HQ
    rintro e w5 ⟨l', d', x', rfl, ho, hb⟩
    have R5 := Lib.hid (R1.out.step hb)
    obtain ⟨a1, c1, rfl, -⟩ := ints_form ho.rows.1.rd
    obtain ⟨a2, c2, rfl, -⟩ := ints_form ho.rows.2.1.rd
    obtain ⟨a3, c3, rfl, -⟩ := ints_form ho.rows.2.2.rd
    have lt1 := (R1.out.bx (w.heap.size + 1 + 1, nilV, nilV, nilV) (by simp)).lt
    have hz1 := R1.out.bel.size
    rw [← HY3.out.1, ← HY3.out.2.1, ← HY3.out.2.2] at ho
    rw [← HY3.out.1, ← HY3.out.2.1, ← HY3.out.2.2]
    obtain ⟨q1, hq1⟩ : ∃ m, m = zl.length := ⟨_, rfl⟩
    obtain ⟨q2, hq2⟩ : ∃ m, m = zd.length := ⟨_, rfl⟩
    obtain ⟨q3, hq3⟩ : ∃ m, m = zx.length := ⟨_, rfl⟩
    rw [← hq1, ← hq2, ← hq3] at ho ⊢
    have HO := Lib.hid (ho.set3 lt1 (.slice a1 q1 c1) (.slice a2 q2 c2) (.slice a3 q3 c3))
    clear hb ho hq1 hq2 hq3
    obtain ⟨⟨t0, t1, t2⟩, f0, f1, f2⟩ := R5.out.at (r := w.heap.size + 1 + 1) (a := nilV) (b := nilV) (c := nilV) (by simp)
    go_wp2
    refine bodyPost_ret (v := tenV (.slice a1 q1 c1) (.slice a2 q2 c2) (.slice a3 q3 c3)) (by simp [results, Try.results42, go_sem, t0, t1, t2]) rfl ?_
    refine ⟨_, _, _, rfl, ?_, ((R5.out.bel.setCell (by simp; omega) _).setCell (by simp; omega) _).setCell (by simp; omega) _⟩
    exact HO.out.wide hz1 (by simp) (by simp)
end Go.Proofs.Ytgbmacppgaopfaa
