
/- spec.l08Keep: the labels that are kept, with their dimensions. -/
import Derived.Test.YtgabcdploeledaaJoinAxes
import Derived.Deep.RegionLaw
import Derived.Deep.AppendLies
namespace Go.Proofs.Ytgabcdploeledaa
set_option maxRecDepth 20000
open Go.RowKit

theorem keepD_step {J JD keep : List Int} {j : Nat} {n d : Int} (hn : J.Nodup) (hj : J[j]? = some n) (hd : JD[j]? = some d) (hk : n ∈ keep) : dimsVia J JD (keepL (J.take j) keep) ++ [d] = dimsVia J JD (keepL (J.take (j + 1)) keep) := by
  rw [keep_yes hj hk, dimsVia_app]
  congr 1
  simp only [dimsVia, List.map_cons, List.map_nil, idxOf_at hn hj, getD_at hd]
set_option maxHeartbeats 6400000 in
theorem keep_spec {B : Nat} {jv dv kv : Value} {J JD keep : List Int} {w : World} (hj : Rd B w jv (ints J)) (hd : Rd B w dv (ints JD)) (hk : Rd B w kv (ints keep)) (hB : B ≤ w.heap.size) (hl : J.length = JD.length) (hn : J.Nodup) (h24 : J.length ≤ 24) (hkl : keep.length ≤ 281474976710656) :
    Calls Try.prog 110 #[jv, dv, kv] w (NewTen w (keepL J keep) (keepD J JD keep) []) := by
  have HJ := Lib.hid (hj.mono hB)
  have HD := Lib.hid (hd.mono hB)
  have HK := Lib.hid (hk.mono hB)
  have HND := Lib.hid hn
  have HKL := Lib.hid hkl
  obtain ⟨aj, cj, rfl, -⟩ := ints_form hj
  obtain ⟨ad, cd, rfl, -⟩ := ints_form hd
  obtain ⟨ak, ck, rfl, -⟩ := ints_form hk
  obtain ⟨m, hm⟩ : ∃ m, m = J.length := ⟨_, rfl⟩
  obtain ⟨mk, hmk⟩ : ∃ m, m = keep.length := ⟨_, rfl⟩
  rw [← hl, ← hm] at HD ⊢
  rw [← hm] at HJ h24
  rw [← hmk] at HK ⊢
  have HLL : Hid (J.length = m ∧ JD.length = m) := Lib.hid ⟨hm.symm, by rw [hm, hl]⟩
  obtain ⟨i0, hi, hz0, hz1, hz2⟩ := info_parts infoInt
  have J0 := Lib.hid hi
  have J1 := Lib.hid hz0
  have J2 := Lib.hid hz1
  have J3 := Lib.hid hz2
  have R0 : Hid (Rs w ((w.alloc (.cells #[nilV, nilV, nilV] 28)).alloc (.cells #[nilV, nilV, nilV] 28)) [(w.heap.size + 1, nilV, nilV, nilV), (w.heap.size, nilV, nilV, nilV)] [(nilV, []), (nilV, [])]) := by
    have h := (((Rs.start w).box nilV nilV nilV 28).box nilV nilV nilV 28).nil.nil
    simp only [World.size_alloc] at h
    exact h
  clear hj hd hk hB hl hn hkl hm hmk hi hz0 hz1 hz2
  go_enter Try.func110, Try.ntmps110
  go_wp2
  go_loopw [13] (fun i wr => ∃ (j na ca cb : Nat) (ga gb : Option Addr), j ≤ m ∧ i = .int .i64 j ∧ na ≤ j ∧ Hid (na = (keepL (J.take j) keep).length) ∧ Hid (Rs w wr [(w.heap.size + 1, .slice ga na ca, .slice gb na cb, nilV), (w.heap.size, nilV, nilV, nilV)] [(.slice ga na ca, keepL (J.take j) keep), (.slice gb na cb, dimsVia J JD (keepL (J.take j) keep))])) (fun i _ => m - (intOf i).toNat)
  case atStart => exact ⟨0, 0, 0, 0, none, none, by omega, rfl, by omega, rfl, R0⟩
  case round =>
    clear R0
    obtain ⟨j, na, ca, cb, ga, gb, hj, rfl, hna, HNA, HR⟩ := hrel
    by_cases hlt : j < m
    · obtain ⟨n, X1⟩ : ∃ n, Hid (J[j]? = some n) := ⟨_, List.getElem?_eq_getElem (by rw [HLL.out.1]; exact hlt)⟩
      obtain ⟨d, X2⟩ : ∃ d, Hid (JD[j]? = some d) := ⟨_, List.getElem?_eq_getElem (by rw [HLL.out.2]; exact hlt)⟩
      obtain ⟨b, off, rfl, -, e1⟩ := (HJ.out.below HR.out.bel (Nat.le_refl _)).cellAt X1.out
      have HF := Lib.hid (find_spec n (HK.out.below HR.out.bel (Nat.le_refl _)) HKL.out)
      by_cases hin : n ∈ keep
      · have hfi : 0 ≤ findI keep n := Int.not_lt.1 (fun h => (findI_neg.1 h) hin)
        obtain ⟨z, hz⟩ : ∃ z, z = findI keep n := ⟨_, rfl⟩
        rw [← hz] at HF hfi
        have q0 : decide ((0 : Int) ≤ z) = true := by simpa using hfi
        have KY := Lib.hid (keep_yes X1.out hin)
        have KD := Lib.hid (keepD_step HND.out X1.out X2.out hin)
        have HNA2 : Hid (na + 1 = (keepL (J.take (j + 1)) keep).length) := Lib.hid (by rw [KY.out, List.length_append, ← HNA.out]; rfl)
        have HDL : Hid ((dimsVia J JD (keepL (J.take j) keep)).length = na) := Lib.hid (by rw [HNA.out]; simp [dimsVia])
        clear hz hin hfi
        obtain ⟨⟨o0, o1, o2⟩, f0, f1, f2⟩ := HR.out.at (r := w.heap.size + 1) (a := .slice ga na ca) (b := .slice gb na cb) (c := nilV) (by simp)
        have A1 := Lib.hid (HR.out.alloc (.cells #[.int .i64 n] 3))
        have O1 := Lib.hid (A1.out.row (List.mem_cons_self) HNA.out.symm : World.ownsRow _ w.heap.size 3 1 (.slice ga na ca) na (ints (keepL (J.take j) keep)))
        go_wp2_with fail
        refine HF.out.mono ?_
        rintro e w3 ⟨rfl, rfl⟩
        go_wp2_with (at_builtin; go_must (refine wpList_append_lies _ rfl _ _ 24 rfl w.heap.size 3 i0 (.int .i64 0) 1 8 Try.underlying24 J0.out J1.out J2.out J3.out rfl (by decide) _ na (ints (keepL (J.take j) keep)) rfl O1.out ⟨wr.heap.size, 0, none⟩ 1 1 [.int .i64 n] rfl rfl (cell_one_new _ _ _) ?c2 (by decide) ?c3 ?c4 ?c5 _ rfl ?_))
        case c2 => first | rfl | (intro u hu; simp at hu; subst hu; rfl)
        case c3 => unfold maxLen; omega
        case c4 => omega
        case c5 => exact A1.out.bel.size
        intro g1 cap1 w2 hown hgrow hl1 _
        have R2 := Lib.hid (A1.out.app1 HNA.out.symm hown hgrow (by rw [World.size_alloc]; exact hl1))
        rw [← KY.out] at R2
        clear hown hgrow hl1 O1 A1 o0 o1 o2 f0 f1 f2 e1
        obtain ⟨⟨o0, o1, o2⟩, f0, f1, f2⟩ := R2.out.at (r := w.heap.size + 1) (a := .slice ga na ca) (b := .slice gb na cb) (c := nilV) (by simp)
        have R3 := Lib.hid (R2.out.first (.slice (some ⟨g1, 0, none⟩) (na + 1) cap1))
        obtain ⟨bd, offd, rfl, -, e2⟩ := (HD.out.below R3.out.bel (Nat.le_refl _)).cellAt X2.out
        obtain ⟨⟨-, p1, -⟩, -, pf1, -⟩ := R3.out.at (r := w.heap.size + 1) (a := .slice (some ⟨g1, 0, none⟩) (na + 1) cap1) (b := .slice gb na cb) (c := nilV) (by simp)
        go_wp2
        obtain ⟨wk, hwk⟩ : ∃ W, W = w2.setCell ⟨w.heap.size + 1, 0, none⟩ (.slice (some ⟨g1, 0, none⟩) (na + 1) cap1) := ⟨_, rfl⟩
        rw [← hwk] at R3 p1 pf1 e2 ⊢
        have R4 := Lib.hid R3.out.swap.drew
        have A5 := Lib.hid ((R3.out.swap.alloc (.cells #[.int .i64 d] 3)).drew)
        have O5 := Lib.hid (A5.out.row (List.mem_cons_self) HDL.out : World.ownsRow _ w.heap.size 3 1 (.slice gb na cb) na (ints (dimsVia J JD (keepL (J.take j) keep))))
        obtain ⟨⟨-, pd, -⟩, -, -, -⟩ := R4.out.at (r := w.heap.size + 1) (a := .slice (some ⟨g1, 0, none⟩) (na + 1) cap1) (b := .slice gb na cb) (c := nilV) (by simp)
        obtain ⟨⟨-, pa, -⟩, -, -, -⟩ := A5.out.at (r := w.heap.size + 1) (a := .slice (some ⟨g1, 0, none⟩) (na + 1) cap1) (b := .slice gb na cb) (c := nilV) (by simp)
        obtain ⟨bd2, offd2, ee, -, ed⟩ := (HD.out.below R4.out.bel (Nat.le_refl _)).cellAt X2.out
        cases ee
        clear hwk o0 o1 o2 f0 f1 f2 p1 pf1 e2 R2
        go_region_law (first
          | (refine step_append_lies _ rfl (.tmp 29) (.tmp 34) 24 rfl w.heap.size 3 i0 (.int .i64 0) 1 8 Try.underlying24 J0.out J1.out J2.out J3.out rfl Nat.one_pos (.slice gb na cb) na (ints (dimsVia J JD (keepL (J.take j) keep))) rfl O5.out ⟨wk.heap.size, 0, none⟩ 1 1 [.int .i64 d] rfl rfl (cell_one_new _ _ _) ?_ (by decide) (by unfold maxLen; omega) (by omega) A5.out.bel.size _ rfl ?_
             · intro u hu; simp at hu; subst hu; rfl
             intro g2 cap2 w5 hown hgrow hl2 _
             have R6 := Lib.hid (A5.out.app1 HDL.out hown hgrow (by simp only [World.size_drew, World.size_alloc] at hl2 ⊢; exact hl2))
             rw [KD.out] at R6
             clear hown hgrow hl2 pd pa ed
             obtain ⟨⟨-, p1, -⟩, -, f1, -⟩ := R6.out.at (r := w.heap.size + 1) (a := .slice (some ⟨g1, 0, none⟩) (na + 1) cap1) (b := .slice gb na cb) (c := nilV) (by simp)
             have R7 : Hid (Rs w (w5.setCell ⟨w.heap.size + 1, 1, none⟩ (.slice (some ⟨g2, 0, none⟩) (na + 1) cap2)) [(w.heap.size + 1, .slice (some ⟨g1, 0, none⟩) (na + 1) cap1, .slice (some ⟨g2, 0, none⟩) (na + 1) cap2, nilV), (w.heap.size, nilV, nilV, nilV)] [(.slice (some ⟨g1, 0, none⟩) (na + 1) cap1, keepL (J.take (j + 1)) keep), (.slice (some ⟨g2, 0, none⟩) (na + 1) cap2, dimsVia J JD (keepL (J.take (j + 1)) keep))]) := by
               have h := R6.out.swap.setB 1 (.slice (some ⟨g2, 0, none⟩) (na + 1) cap2)
               simp only [if_true, if_false, Nat.one_ne_zero, Nat.reduceEqDiff] at h
               exact h))
        all_goals (try go_wp2)
        all_goals
          go_roundw
          case rel => exact ⟨j + 1, na + 1, cap1, cap2, some ⟨g1, 0, none⟩, some ⟨g2, 0, none⟩, by omega, by go_num, by omega, HNA2, R7⟩
          case measure => simp [intOf]; omega
      · have hfi : findI keep n < 0 := findI_neg.2 hin
        obtain ⟨z, hz⟩ : ∃ z, z = findI keep n := ⟨_, rfl⟩
        rw [← hz] at HF hfi
        have q0 : decide ((0 : Int) ≤ z) = false := by simpa using hfi
        have KN := Lib.hid (keep_no X1.out hin)
        clear hz hin hfi
        go_wp2_with fail
        refine HF.out.mono ?_
        rintro e w3 ⟨rfl, rfl⟩
        go_wp2
        go_roundw
        case rel => exact ⟨j + 1, na, ca, cb, ga, gb, by omega, by go_num, by omega, by rw [KN.out]; exact HNA, by rw [KN.out]; exact HR⟩
        case measure => simp [intOf]; omega
    · obtain rfl : j = m := by omega
      have E1 : Hid (J.take j = J) := Lib.hid (List.take_of_length_le (by rw [HLL.out.1]; exact Nat.le_refl _))
      rw [E1.out] at HR
      obtain ⟨⟨o0, o1, o2⟩, -⟩ := HR.out.at (r := w.heap.size + 1) (a := .slice ga na ca) (b := .slice gb na cb) (c := nilV) (by simp)
      obtain ⟨⟨t0, t1, t2⟩, f0, f1, f2⟩ := HR.out.at (r := w.heap.size) (a := nilV) (b := nilV) (c := nilV) (by simp)
      go_wp2
      refine bodyPost_ret (v := tenV (.slice ga na ca) (.slice gb na cb) nilV) (by simp [results, Try.results110, go_sem, t0, t1, t2]) rfl ?_
      have R9 := ((HR.out.swapB.set3 (.slice ga na ca) (.slice gb na cb) nilV).nil.perm (rows' := [(.slice ga na ca, keepL J keep), (.slice gb na cb, dimsVia J JD (keepL J keep)), (nilV, [])]) (List.Perm.trans (List.Perm.swap _ _ _) (List.Perm.cons _ (List.Perm.swap _ _ _))))
      exact ⟨_, _, _, rfl, R9.ownG, R9.bel⟩
end Go.Proofs.Ytgabcdploeledaa
