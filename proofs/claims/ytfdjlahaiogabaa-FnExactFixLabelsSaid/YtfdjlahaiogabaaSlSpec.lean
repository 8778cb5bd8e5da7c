
/- spec.l09Slice: a slice of a valid tensor. -/
import Derived.Test.YtfdjlahaiogabaaStackMath
import Derived.Test.YtfdjlahaiogabaaPermSpec
import Derived.Deep.RegionLaw
import Derived.Deep.AppendLies
namespace Go.Proofs.Ytfdjlahaiogabaa
set_option maxRecDepth 20000
open Go.RowKit

/-- The elements up to e that have the value at this place. -/
def selL (wd : Nat) (D X : List Int) (z : Nat) (v : Int) (e : Nat) : List Int := ((List.range e).filter fun n : Nat => decide ((idxL D (n : Int)).getD z 0 = v)).flatMap (getL wd X)
theorem selL_zero (wd : Nat) (D X : List Int) (z : Nat) (v : Int) : selL wd D X z v 0 = [] := rfl
theorem selL_yes {wd : Nat} {D X : List Int} {z : Nat} {v : Int} {e : Nat} (h : (idxL D (e : Int)).getD z 0 = v) : selL wd D X z v e ++ getL wd X e = selL wd D X z v (e + 1) := by
  unfold selL
  rw [List.range_succ, List.filter_append, List.flatMap_append, List.filter_cons_of_pos (by simpa using h)]
  simp
theorem selL_no {wd : Nat} {D X : List Int} {z : Nat} {v : Int} {e : Nat} (h : ¬ (idxL D (e : Int)).getD z 0 = v) : selL wd D X z v (e + 1) = selL wd D X z v e := by
  unfold selL
  rw [List.range_succ, List.filter_append, List.flatMap_append, List.filter_cons_of_neg (by simpa using h)]
  simp
theorem selL_len {wd : Nat} {D X : List Int} {z : Nat} {v : Int} : ∀ e, (∀ o, o < e → o * wd + wd ≤ X.length) → ∃ c, c ≤ e ∧ (selL wd D X z v e).length = c * wd := by
  intro e
  induction e with
  | zero => intro _; exact ⟨0, by omega, by simp [selL_zero]⟩
  | succ e ih =>
    intro h
    obtain ⟨c, h1, h2⟩ := ih fun o ho => h o (by omega)
    by_cases hs : (idxL D (e : Int)).getD z 0 = v
    · refine ⟨c + 1, by omega, ?_⟩
      rw [← selL_yes hs, List.length_append, h2, getL_len (h e (by omega)), Nat.add_mul, Nat.one_mul]
    · exact ⟨c, by omega, by rw [selL_no hs, h2]⟩
theorem selL_full {wd : Nat} {L D X : List Int} {b v : Int} (hn : L.Nodup) (hl : L.length = D.length) (hb : b ∈ L) (hv : 0 ≤ v ∧ v < D.getD (L.idxOf b) 0) (hD : ∀ d ∈ D, 1 ≤ d) : selL wd D X (L.idxOf b) v (prodL D).toNat = fixX wd (cK [b] [v]) L D X := by
  rw [← fixX_sel (ok_one hl hn fun _ => hv) hD]
  unfold selL
  congr 1
  exact List.filter_congr fun n _ => (sel_one hn hb (v := v) (idxL D (n : Int)) (by rw [idxL_len, hl])).symm

set_option maxHeartbeats 16000000 in
theorem slice_spec {B : Nat} {lv dv xv : Value} {k p q b v : Int} {L D X : List Int} {w : World} (ha : RdT B w lv dv xv L D X) (hB : B ≤ w.heap.size) (ht : tensorB k p q L D X = true) (hb : b ∈ L) (hv : 0 ≤ v ∧ v < D.getD (L.idxOf b) 0) :
    Calls Try.prog 59 #[ringV k p q, tenV lv dv xv, .int .i64 b, .int .i64 v] w (NewTen w (exL L b) (exD L D b) (fixX (widthI k q).toNat (cK [b] [v]) L D X)) := by
  have FT := TF.of ht
  obtain ⟨wd, hwd⟩ : ∃ wd, wd = (widthI k q).toNat := ⟨_, rfl⟩
  obtain ⟨N, hN⟩ : ∃ N, N = (prodL D).toNat := ⟨_, rfl⟩
  rw [← hwd, ← hN] at FT
  rw [← hwd]
  have HT : Hid (RdT w.heap.size w lv dv xv L D X) := Lib.hid ⟨ha.l.mono hB, ha.d.mono hB, ha.x.mono hB⟩
  obtain ⟨al, cl, rfl, -⟩ := ints_form ha.l
  obtain ⟨ad, cd, rfl, -⟩ := ints_form ha.d
  obtain ⟨ax, cx, rfl, -⟩ := ints_form ha.x
  obtain ⟨m1, hm1⟩ : ∃ m, m = L.length := ⟨_, rfl⟩
  obtain ⟨m3, hm3⟩ : ∃ m, m = X.length := ⟨_, rfl⟩
  have hlD : L.length = D.length := FT.ax.2.1
  have hnd := FT.ax.2.2.2.2
  rw [← hlD, ← hm1, ← hm3] at HT ⊢
  have R0 : Hid (Rs w (((w.alloc (.cells #[.int .i64 k, .int .i64 p, .int .i64 q] 31)).alloc (.cells #[.slice al m1 cl, .slice ad m1 cd, .slice ax m3 cx] 28)).alloc (.cells #[nilV, nilV, nilV] 28)) [(w.heap.size + 1 + 1, nilV, nilV, nilV), (w.heap.size + 1, .slice al m1 cl, .slice ad m1 cd, .slice ax m3 cx), (w.heap.size, .int .i64 k, .int .i64 p, .int .i64 q)] []) := by
    have h := (((Rs.start w).box (.int .i64 k) (.int .i64 p) (.int .i64 q) 31).box (.slice al m1 cl) (.slice ad m1 cd) (.slice ax m3 cx) 28).box nilV nilV nilV 28
    simp only [World.size_alloc] at h
    exact h
  obtain ⟨w1, hw1⟩ : ∃ w1, w1 = (((w.alloc (.cells #[.int .i64 k, .int .i64 p, .int .i64 q] 31)).alloc (.cells #[.slice al m1 cl, .slice ad m1 cd, .slice ax m3 cx] 28)).alloc (.cells #[nilV, nilV, nilV] 28)) := ⟨_, rfl⟩
  obtain ⟨z, hz⟩ : ∃ z, z = L.idxOf b := ⟨_, rfl⟩
  have hzb := at_idxOf hb
  have hfull := selL_full (wd := wd) (X := X) hnd hlD hb hv FT.dim
  rw [← hz, ← hN] at hfull
  rw [← hz] at hzb
  have hz1 : z < m1 := by rw [hm1]; exact (List.getElem?_eq_some_iff.1 hzb).1
  have R2 : Hid (Rs w (w1.alloc (.cells #[nilV, nilV, nilV] 28)) [(w1.heap.size, nilV, nilV, nilV), (w.heap.size + 1 + 1, nilV, nilV, nilV), (w.heap.size + 1, .slice al m1 cl, .slice ad m1 cd, .slice ax m3 cx), (w.heap.size, .int .i64 k, .int .i64 p, .int .i64 q)] [(nilV, []), (nilV, [])]) := Lib.hid (by
    have h := R0.out
    rw [← hw1] at h
    exact (h.box nilV nilV nilV 28).nil.nil)
  have HF1 := Lib.hid (find_spec b (HT.out.l.below R2.out.bel (Nat.le_refl _)) (by rw [← hm1, hm1]; have := FT.ax.1; omega))
  rw [show findI L b = (z : Int) by unfold findI; rw [if_pos hb, hz]] at HF1
  have HLD : Hid (L.length = m1 ∧ D.length = m1) := Lib.hid ⟨hm1.symm, by rw [← hlD, hm1]⟩
  have HFT := Lib.hid FT
  have HFU := Lib.hid hfull
  have HZB := Lib.hid hzb
  have HM3 := Lib.hid hm3
  have h12 : m1 ≤ 12 := by rw [hm1]; exact FT.ax.1
  have hnb4 : N ≤ 4096 := FT.n1.2
  have hwd1 : 1 ≤ wd := FT.w6.1
  have hwd6 : wd ≤ 6 := FT.w6.2
  obtain ⟨i0, hi, hz0, hz1', hz2⟩ := info_parts infoInt
  have J0 := Lib.hid hi
  have J1 := Lib.hid hz0
  have J2 := Lib.hid hz1'
  have J3 := Lib.hid hz2
  obtain ⟨ob, hob⟩ : ∃ g, g = w1.heap.size := ⟨_, rfl⟩
  rw [← hob] at R2
  have HOB := Lib.hid (hob.trans (by rw [hw1]; simp : w1.heap.size = w.heap.size + 1 + 1 + 1))
  have HW1 := Lib.hid hw1
  obtain ⟨⟨s0, s1, s2⟩, -⟩ := R2.out.at (r := w.heap.size + 1) (a := .slice al m1 cl) (b := .slice ad m1 cd) (c := .slice ax m3 cx) (by simp)
  rw [HW1.out, HOB.out] at R2
  rw [HW1.out] at HF1 s0 s1 s2
  clear ha hB ht hb hv FT hwd hN hm1 hm3 hlD hnd hz hzb hfull hi hz0 hz1' hz2 R0 hob hw1 HW1
  go_enter Try.func59, Try.ntmps59
  go_wp2_with fail
  refine HF1.out.mono ?_
  rintro e w0 ⟨rfl, rfl⟩
  go_wp2
  go_loopw [22] (fun i wr => ∃ (c na ca cb : Nat) (ga gb : Option Addr), c ≤ m1 ∧ i = .int .i64 c ∧ na ≤ c ∧ Hid (na = (exL (L.take c) b).length) ∧ Hid (Rs w wr [(w.heap.size + 1 + 1 + 1, .slice ga na ca, .slice gb na cb, nilV), (w.heap.size + 1 + 1, nilV, nilV, nilV), (w.heap.size + 1, .slice al m1 cl, .slice ad m1 cd, .slice ax m3 cx), (w.heap.size, .int .i64 k, .int .i64 p, .int .i64 q)] [(.slice ga na ca, exL (L.take c) b), (.slice gb na cb, dimsVia L D (exL (L.take c) b))])) (fun i _ => m1 - (intOf i).toNat)
  case atStart => exact ⟨0, 0, 0, 0, none, none, by omega, rfl, by omega, rfl, R2⟩
  case round =>
    clear R2 s0 s1 s2
    obtain ⟨c, na, ca, cb, ga, gb, hc, rfl, hna, HNA, HR⟩ := hrel
    obtain ⟨⟨s0, s1, s2⟩, -⟩ := HR.out.at (r := w.heap.size + 1) (a := .slice al m1 cl) (b := .slice ad m1 cd) (c := .slice ax m3 cx) (by simp)
    by_cases hlt : c < m1
    · obtain ⟨n, X1⟩ : ∃ n, Hid (L[c]? = some n) := ⟨_, List.getElem?_eq_getElem (by rw [HLD.out.1]; exact hlt)⟩
      obtain ⟨d, X2⟩ : ∃ d, Hid (D[c]? = some d) := ⟨_, List.getElem?_eq_getElem (by rw [HLD.out.2]; exact hlt)⟩
      obtain ⟨b1, off, rfl, -, e1⟩ := (HT.out.l.below HR.out.bel (Nat.le_refl _)).cellAt X1.out
      by_cases hcj : c = z
      · subst hcj
        have hnb : n = b := by have h1 := HZB.out; rw [X1.out] at h1; injection h1
        have EN : Hid (exL (L.take (c + 1)) b = exL (L.take c) b) := Lib.hid (ex_no (by rw [X1.out, hnb]))
        clear hnb
        go_wp2
        go_roundw
        case rel => exact ⟨c + 1, na, ca, cb, ga, gb, by omega, by go_num, by omega, by rw [EN.out]; exact HNA, by rw [EN.out]; exact HR⟩
        case measure => simp [intOf]; omega
      · have q7 : ((c : Int) == (z : Int)) = false := by simp; omega
        have hnb : n ≠ b := fun e => hcj (by
          obtain ⟨h1, e1⟩ := List.getElem?_eq_some_iff.1 X1.out
          obtain ⟨h2, e2⟩ := List.getElem?_eq_some_iff.1 HZB.out
          exact (List.getElem_inj (h₀ := h1) (h₁ := h2) HFT.out.ax.2.2.2.2).1 (by rw [e1, e2, e]))
        have EY := Lib.hid (ex_yes X1.out hnb)
        have ED := Lib.hid (exD_step HFT.out.ax.2.2.2.2 X1.out X2.out hnb)
        have HNA2 : Hid (na + 1 = (exL (L.take (c + 1)) b).length) := Lib.hid (by rw [EY.out, List.length_append, ← HNA.out]; rfl)
        have HDL : Hid ((dimsVia L D (exL (L.take c) b)).length = na) := Lib.hid (by rw [HNA.out]; simp [dimsVia])
        obtain ⟨⟨o0, o1, o2⟩, f0, f1, f2⟩ := HR.out.at (r := w.heap.size + 1 + 1 + 1) (a := .slice ga na ca) (b := .slice gb na cb) (c := nilV) (by simp)
        have A1 := Lib.hid (HR.out.alloc (.cells #[.int .i64 n] 3))
        have O1 := Lib.hid (A1.out.row (List.mem_cons_self) HNA.out.symm : World.ownsRow _ w.heap.size 3 1 (.slice ga na ca) na (ints (exL (L.take c) b)))
        clear hnb hcj
        go_wp2_with (at_builtin; go_must (refine wpList_append_lies _ rfl _ _ 24 rfl w.heap.size 3 i0 (.int .i64 0) 1 8 Try.underlying24 J0.out J1.out J2.out J3.out rfl (by decide) _ na (ints (exL (L.take c) b)) rfl O1.out ⟨wr.heap.size, 0, none⟩ 1 1 [.int .i64 n] rfl rfl (cell_one_new _ _ _) ?c2 (by decide) ?c3 ?c4 ?c5 _ rfl ?_))
        case c2 => first | rfl | (intro u hu; simp at hu; subst hu; rfl)
        case c3 => unfold maxLen; omega
        case c4 => omega
        case c5 => exact A1.out.bel.size
        intro g1 cap1 w2 hown hgrow hl1 _
        have R2 := Lib.hid (A1.out.app1 HNA.out.symm hown hgrow (by rw [World.size_alloc]; exact hl1))
        rw [← EY.out] at R2
        clear hown hgrow hl1 O1 A1 o0 o1 o2 f0 f1 f2 e1 s0 s1 s2
        obtain ⟨⟨o0, o1, o2⟩, f0, f1, f2⟩ := R2.out.at (r := w.heap.size + 1 + 1 + 1) (a := .slice ga na ca) (b := .slice gb na cb) (c := nilV) (by simp)
        have R3 := Lib.hid (R2.out.first (.slice (some ⟨g1, 0, none⟩) (na + 1) cap1))
        go_wp2
        obtain ⟨wk, hwk⟩ : ∃ W, W = w2.setCell ⟨w.heap.size + 1 + 1 + 1, 0, none⟩ (.slice (some ⟨g1, 0, none⟩) (na + 1) cap1) := ⟨_, rfl⟩
        rw [← hwk] at R3 ⊢
        have R4 := Lib.hid R3.out.swap.drew
        have A5 := Lib.hid ((R3.out.swap.alloc (.cells #[.int .i64 d] 3)).drew)
        have O5 := Lib.hid (A5.out.row (List.mem_cons_self) HDL.out : World.ownsRow _ w.heap.size 3 1 (.slice gb na cb) na (ints (dimsVia L D (exL (L.take c) b))))
        obtain ⟨⟨-, pd, -⟩, -, -, -⟩ := R4.out.at (r := w.heap.size + 1 + 1 + 1) (a := .slice (some ⟨g1, 0, none⟩) (na + 1) cap1) (b := .slice gb na cb) (c := nilV) (by simp)
        obtain ⟨⟨-, pa, -⟩, -, -, -⟩ := A5.out.at (r := w.heap.size + 1 + 1 + 1) (a := .slice (some ⟨g1, 0, none⟩) (na + 1) cap1) (b := .slice gb na cb) (c := nilV) (by simp)
        obtain ⟨⟨-, sd, -⟩, -, -, -⟩ := R4.out.at (r := w.heap.size + 1) (a := .slice (some ⟨b1, off, none⟩) m1 cl) (b := .slice ad m1 cd) (c := .slice ax m3 cx) (by simp)
        obtain ⟨bd2, offd2, rfl, -, ed⟩ := (HT.out.d.below R4.out.bel (Nat.le_refl _)).cellAt X2.out
        clear hwk o0 o1 o2 f0 f1 f2 R2
        go_region_law (first
          | (refine step_append_lies _ rfl (.tmp 37) (.tmp 43) 24 rfl w.heap.size 3 i0 (.int .i64 0) 1 8 Try.underlying24 J0.out J1.out J2.out J3.out rfl Nat.one_pos (.slice gb na cb) na (ints (dimsVia L D (exL (L.take c) b))) rfl O5.out ⟨wk.heap.size, 0, none⟩ 1 1 [.int .i64 d] rfl rfl (cell_one_new _ _ _) ?_ (by decide) (by unfold maxLen; omega) (by omega) A5.out.bel.size _ rfl ?_
             · intro u hu; simp at hu; subst hu; rfl
             intro g2 cap2 w5 hown hgrow hl2 _
             have R6 := Lib.hid (A5.out.app1 HDL.out hown hgrow (by simp only [World.size_drew, World.size_alloc] at hl2 ⊢; exact hl2))
             rw [ED.out] at R6
             clear hown hgrow hl2 pd pa ed sd
             obtain ⟨⟨-, p1, -⟩, -, f1, -⟩ := R6.out.at (r := w.heap.size + 1 + 1 + 1) (a := .slice (some ⟨g1, 0, none⟩) (na + 1) cap1) (b := .slice gb na cb) (c := nilV) (by simp)
             have R7 : Hid (Rs w (w5.setCell ⟨w.heap.size + 1 + 1 + 1, 1, none⟩ (.slice (some ⟨g2, 0, none⟩) (na + 1) cap2)) [(w.heap.size + 1 + 1 + 1, .slice (some ⟨g1, 0, none⟩) (na + 1) cap1, .slice (some ⟨g2, 0, none⟩) (na + 1) cap2, nilV), (w.heap.size + 1 + 1, nilV, nilV, nilV), (w.heap.size + 1, .slice (some ⟨b1, off, none⟩) m1 cl, .slice (some ⟨bd2, offd2, none⟩) m1 cd, .slice ax m3 cx), (w.heap.size, .int .i64 k, .int .i64 p, .int .i64 q)] [(.slice (some ⟨g1, 0, none⟩) (na + 1) cap1, exL (L.take (c + 1)) b), (.slice (some ⟨g2, 0, none⟩) (na + 1) cap2, dimsVia L D (exL (L.take (c + 1)) b))]) := by
               have h := R6.out.swap.setB 1 (.slice (some ⟨g2, 0, none⟩) (na + 1) cap2)
               simp only [if_true, if_false, Nat.one_ne_zero, Nat.reduceEqDiff] at h
               exact h))
        all_goals (try go_wp2)
        all_goals
          go_roundw
          case rel => exact ⟨c + 1, na + 1, cap1, cap2, some ⟨g1, 0, none⟩, some ⟨g2, 0, none⟩, by omega, by go_num, by omega, HNA2, R7⟩
          case measure => simp [intOf]; omega
    · obtain rfl : c = m1 := by omega
      have E1 : Hid (L.take c = L) := Lib.hid (List.take_of_length_le (by rw [HLD.out.1]; exact Nat.le_refl _))
      rw [E1.out] at HR HNA
      have HCAP : Hid (capI D = (N : Int)) := Lib.hid (by have h := (capI_is HFT.out.dim).1; have h2 := HFT.out.pr; have h3 := HFT.out.n1; omega)
      have HDL : Hid (dimsVia L D (exL L b) = exD L D b) := rfl
      rw [HDL.out] at HR
      have HR2 : Hid (Rs w wr [(w.heap.size + 1 + 1 + 1, .slice ga na ca, .slice gb na cb, nilV), (w.heap.size + 1 + 1, nilV, nilV, nilV), (w.heap.size + 1, .slice al c cl, .slice ad c cd, .slice ax m3 cx), (w.heap.size, .int .i64 k, .int .i64 p, .int .i64 q)] [(nilV, selL wd D X z v 0), (.slice ga na ca, exL L b), (.slice gb na cb, exD L D b)]) := Lib.hid HR.out.nil
      obtain ⟨KZ, hKZ⟩ : ∃ l, l = exL L b := ⟨_, rfl⟩
      obtain ⟨KD, hKD⟩ : ∃ l, l = exD L D b := ⟨_, rfl⟩
      rw [← hKZ, ← hKD] at HR2
      have HKZ := Lib.hid hKZ
      have HKD := Lib.hid hKD
      clear hKZ hKD HR HNA HDL s0 s1 s2 E1
      go_wp2
      go_loopw [13] (fun iv wr => ∃ (e n3 cg : Nat) (ag : Option Addr), e ≤ N ∧ iv = .int .i64 e ∧ n3 ≤ e * wd ∧ Hid (n3 = (selL wd D X z v e).length) ∧ Hid (Rs w wr [(w.heap.size + 1 + 1 + 1, .slice ga na ca, .slice gb na cb, .slice ag n3 cg), (w.heap.size + 1 + 1, nilV, nilV, nilV), (w.heap.size + 1, .slice al c cl, .slice ad c cd, .slice ax m3 cx), (w.heap.size, .int .i64 k, .int .i64 p, .int .i64 q)] [(.slice ag n3 cg, selL wd D X z v e), (.slice ga na ca, KZ), (.slice gb na cb, KD)])) (fun iv _ => N - (intOf iv).toNat)
      case atStart => exact ⟨0, 0, 0, none, by omega, rfl, by omega, by show 0 = _; simp [selL_zero], HR2⟩
      case round =>
        clear HR2
        obtain ⟨e, n3, cg, ag, he, rfl, hn3, HN3, HR⟩ := hrel
        obtain ⟨⟨s0, s1, s2⟩, -⟩ := HR.out.at (r := w.heap.size + 1) (a := .slice al c cl) (b := .slice ad c cd) (c := .slice ax m3 cx) (by simp)
        have HPR := Lib.hid (product_spec (HT.out.d.below HR.out.bel (Nat.le_refl _)) (by rw [HLD.out.2]; omega) HFT.out.ax.2.2.2.1)
        rw [HCAP.out] at HPR
        go_wp2_with fail
        refine HPR.out.mono ?_
        rintro e9 w9 ⟨rfl, rfl⟩
        by_cases hlt : e < N
        · have HIX := Lib.hid (index_spec (e : Int) (HT.out.d.below HR.out.bel (Nat.le_refl _)) HR.out.bel.size (by rw [HLD.out.2]; omega) HFT.out.ax.2.2.2.1 (by omega) (by omega))
          go_wp2_with fail
          refine HIX.out.mono ?_
          clear s0 s1 s2 HPR HIX
          rintro e9 w3 ⟨vx, rfl, ho, hb⟩
          obtain ⟨gx, cx2, rfl, -⟩ := ints_form ho.rd
          have HXL : Hid ((idxL D (e : Int)).length = c) := Lib.hid (by rw [idxL_len, HLD.out.2])
          rw [HXL.out] at ho ⊢
          have R1 := Lib.hid (HR.out.new hb ho)
          obtain ⟨xz, hxz⟩ : ∃ x, (idxL D (e : Int))[z]? = some x := ⟨_, List.getElem?_eq_getElem (by rw [HXL.out]; exact hz1)⟩
          obtain ⟨bx2, ox2, rfl, -, x0⟩ := (R1.out.rd (v := .slice gx c cx2) (xs := idxL D (e : Int)) (by simp)).cellAt hxz
          have HRM := Lib.hid (HFT.out.room e (by have := HFT.out.pr; omega))
          have hle : (e + 1) * wd ≤ 24576 := Nat.le_trans (Nat.mul_le_mul (show e + 1 ≤ 4096 by omega) hwd6) (by omega)
          rw [Nat.add_mul, Nat.one_mul] at hle
          have HXZ := Lib.hid (getD_at hxz)
          have R3 : Hid (Rs w w3 [(w.heap.size + 1 + 1 + 1, .slice ga na ca, .slice gb na cb, .slice ag n3 cg), (w.heap.size + 1 + 1, nilV, nilV, nilV), (w.heap.size + 1, .slice al c cl, .slice ad c cd, .slice ax m3 cx), (w.heap.size, .int .i64 k, .int .i64 p, .int .i64 q)] [(.slice ag n3 cg, selL wd D X z v e), (.slice ga na ca, KZ), (.slice gb na cb, KD)]) := Lib.hid (R1.out.sub (List.sublist_cons_self _ _))
          clear ho hb HR hxz R1
          by_cases hxv : xz = v
          · have q1 : (xz == v) = true := by simpa using hxv
            have HSU := Lib.hid (selL_yes (wd := wd) (X := X) (HXZ.out.trans hxv))
            have HGL := Lib.hid (getL_len HRM.out)
            have Q0 := Lib.hid R3.out.drew
            obtain ⟨⟨r0, r1, r2⟩, -⟩ := Q0.out.at (r := w.heap.size) (a := .int .i64 k) (b := .int .i64 p) (c := .int .i64 q) (by simp); obtain ⟨⟨s0, s1, s2⟩, -⟩ := Q0.out.at (r := w.heap.size + 1) (a := .slice al c cl) (b := .slice ad c cd) (c := .slice ax m3 cx) (by simp)
            obtain ⟨⟨o0, o1, o2⟩, -, -, f2⟩ := Q0.out.at (r := w.heap.size + 1 + 1 + 1) (a := .slice ga na ca) (b := .slice gb na cb) (c := .slice ag n3 cg) (by simp)
            have HW1 := Lib.hid hwd1
            have NB : Hid (n3 + wd ≤ 24576) := Lib.hid (by omega)
            have HX4 : Hid (X.length ≤ 281474976710656) := Lib.hid (by have := HFT.out.x; omega)
            clear hxv
            go_wp2
            clear x0 q1
            refine wp_region_held_drew (S := (fun w' => w'.cell? ⟨w.heap.size, 0, none⟩ = some (.int .i64 k) ∧ w'.cell? ⟨w.heap.size, 1, none⟩ = some (.int .i64 p) ∧ w'.cell? ⟨w.heap.size, 2, none⟩ = some (.int .i64 q) ∧ w'.cell? ⟨w.heap.size + 1, 0, none⟩ = some (.slice al c cl) ∧ w'.cell? ⟨w.heap.size + 1, 1, none⟩ = some (.slice ad c cd) ∧ w'.cell? ⟨w.heap.size + 1, 2, none⟩ = some (.slice ax m3 cx))) (by kernel_rfl) (by (try dsimp only); first | exact ⟨r0, r1, r2, s0, s1, s2⟩ | exact ⟨y0, y1, y2, y3, y4, y5⟩) (fun hHeld => ?_)
            refine wpAnyH_take (i := 0) (v := ?_) rfl (by kernel_rfl) (by kernel_rfl) (by kernel_rfl) (fun _ _ _ h => h) (Or.inl ⟨by rfl, ?_⟩) (by assumption) ?_
            rotate_left
            · intro w hSw; (try dsimp only at hSw); go_simp <;> with_reducible rfl
            try simp only [Act.put, List.getElem_toArray, List.getElem_cons_zero, List.setIfInBounds_toArray, List.set_cons_zero, List.set_cons_succ]
            refine wpAnyH_take (i := 2) (v := ?_) rfl (by kernel_rfl) (by kernel_rfl) (by kernel_rfl) (fun _ _ _ h => h) (Or.inl ⟨by rfl, ?_⟩) (by assumption) ?_
            rotate_left
            · intro w hSw; (try dsimp only at hSw); go_simp <;> with_reducible rfl
            try simp only [Act.put, List.getElem_toArray, List.getElem_cons_succ, List.getElem_cons_zero, List.setIfInBounds_toArray, List.set_cons_zero, List.set_cons_succ]
            refine wpAnyH_take (i := 3) (v := ?_) rfl (by kernel_rfl) (by kernel_rfl) (by kernel_rfl) (fun _ _ _ h => h) (Or.inl ⟨by rfl, ?_⟩) (by assumption) ?_
            rotate_left
            · intro w hSw; (try dsimp only at hSw); go_simp <;> with_reducible rfl
            try simp only [Act.put, List.getElem_toArray, List.getElem_cons_succ, List.getElem_cons_zero, List.setIfInBounds_toArray, List.set_cons_zero, List.set_cons_succ]
            refine wpAnyH_take (i := 4) (v := ?_) rfl (by kernel_rfl) (by kernel_rfl) (by kernel_rfl) (fun _ _ _ h => h) (Or.inl ⟨by rfl, ?_⟩) (by assumption) ?_
            rotate_left
            · intro w hSw; (try dsimp only at hSw); go_simp <;> with_reducible rfl
            try simp only [Act.put, List.getElem_toArray, List.getElem_cons_succ, List.getElem_cons_zero, List.setIfInBounds_toArray, List.set_cons_zero, List.set_cons_succ]
            refine wpAnyH_ready (rs := [1, 5]) (by kernel_rfl) (by simp) ?_
            refine AllReadyH.cons rfl (fun K hK => ?_) (AllReadyH.cons rfl (fun K hK => ?_) AllReadyH.nil)
            focus
              go_simp
              refine hK.out _ _ (by (try dsimp only); first | exact ⟨r0, r1, r2, s0, s1, s2⟩ | exact ⟨y0, y1, y2, y3, y4, y5⟩) (fun hHeld => ?_)
              clear hK K
              try simp only [Act.put, List.getElem_toArray, List.getElem_cons_succ, List.getElem_cons_zero, List.setIfInBounds_toArray, List.set_cons_zero, List.set_cons_succ]
              refine wpAnyH_ready (rs := [5]) (by kernel_rfl) (by simp) ?_
              refine AllReadyH.cons rfl (fun K hK => ?_) AllReadyH.nil
              go_simp
              (go_at_call 67; refine (get_spec wd e (HT.out.below Q0.out.bel (Nat.le_refl _)) Q0.out.bel.size HFT.out.hw hwd1 hwd6 (by omega) HRM.out HX4.out).mono ?_; rintro e9 w7 ⟨zv, rfl, ho, hb⟩; obtain ⟨gz, cz, rfl, hnews⟩ := own_form ho HGL.out HW1.out; have HNW := Lib.hid hnews; have Q1 := Lib.hid (Q0.out.new hb ho); have O8 := Lib.hid (Q1.out.row (v := .slice ag n3 cg) (xs := selL wd D X z v e) (by simp) HN3.out.symm); clear hnews hb ho r0 r1 r2 s0 s1 s2 o0 o1 o2 f2; obtain ⟨⟨r0, r1, r2⟩, -⟩ := Q1.out.at (r := w.heap.size) (a := .int .i64 k) (b := .int .i64 p) (c := .int .i64 q) (by simp); obtain ⟨⟨s0, s1, s2⟩, -⟩ := Q1.out.at (r := w.heap.size + 1) (a := .slice al c cl) (b := .slice ad c cd) (c := .slice ax m3 cx) (by simp); obtain ⟨⟨o0, o1, o2⟩, -, -, f2⟩ := Q1.out.at (r := w.heap.size + 1 + 1 + 1) (a := .slice ga na ca) (b := .slice gb na cb) (c := .slice ag n3 cg) (by simp))
              go_wp2_with fail
              refine hK.out _ _ (by (try dsimp only); first | exact ⟨r0, r1, r2, s0, s1, s2⟩ | exact ⟨y0, y1, y2, y3, y4, y5⟩) (fun hHeld => ?_)
              clear hK K
              try simp only [Act.put, List.getElem_toArray, List.getElem_cons_succ, List.getElem_cons_zero, List.setIfInBounds_toArray, List.set_cons_zero, List.set_cons_succ]
              refine wpAnyH_ready (rs := [6]) (by kernel_rfl) (by simp) ?_
              refine AllReadyH.cons rfl (fun K hK => ?_) AllReadyH.nil
              (refine step_append_lies _ rfl (.tmp 64) (.tmp 68) 24 rfl w.heap.size 3 i0 (.int .i64 0) 1 8 Try.underlying24 J0.out J1.out J2.out J3.out rfl Nat.one_pos (.slice ag n3 cg) n3 (ints (selL wd D X z v e)) rfl O8.out ⟨gz, 0, none⟩ wd cz (ints (getL wd X e)) rfl (by rw [ints_len, HGL.out, Nat.mul_one]) HNW.out (one_cells _) HW1.out (by unfold maxLen; have := NB.out; omega) (by have := NB.out; omega) Q1.out.bel.size _ rfl ?_; intro g cap w8 hown hgrow hl _; clear r0 r1 r2 s0 s1 s2 o0 o1 o2 f2; rw [← ints_append] at hown; have h11 := Q1.out.swap.app hown (by rw [List.length_append, ← HN3.out, HGL.out]) hgrow hl; rw [HSU.out] at h11; have R11 := Lib.hid h11; obtain ⟨⟨r0, r1, r2⟩, -⟩ := R11.out.at (r := w.heap.size) (a := .int .i64 k) (b := .int .i64 p) (c := .int .i64 q) (by simp); obtain ⟨⟨s0, s1, s2⟩, -⟩ := R11.out.at (r := w.heap.size + 1) (a := .slice al c cl) (b := .slice ad c cd) (c := .slice ax m3 cx) (by simp); obtain ⟨⟨o0, o1, o2⟩, -, -, f2⟩ := R11.out.at (r := w.heap.size + 1 + 1 + 1) (a := .slice ga na ca) (b := .slice gb na cb) (c := .slice ag n3 cg) (by simp); have R12 := Lib.hid ((R11.out.last (.slice (some ⟨g, 0, none⟩) (n3 + wd) cap)).sub (rows' := [(.slice (some ⟨g, 0, none⟩) (n3 + wd) cap, selL wd D X z v (e + 1)), (.slice ga na ca, KZ), (.slice gb na cb, KD)]) (List.Sublist.cons_cons _ (List.Sublist.cons _ (List.Sublist.refl _)))); obtain ⟨⟨y0, y1, y2⟩, -⟩ := R12.out.at (r := w.heap.size) (a := .int .i64 k) (b := .int .i64 p) (c := .int .i64 q) (by simp); obtain ⟨⟨y3, y4, y5⟩, -⟩ := R12.out.at (r := w.heap.size + 1) (a := .slice al c cl) (b := .slice ad c cd) (c := .slice ax m3 cx) (by simp); clear hown hgrow hl h11)
              refine hK.out _ _ (by (try dsimp only); first | exact ⟨r0, r1, r2, s0, s1, s2⟩ | exact ⟨y0, y1, y2, y3, y4, y5⟩) (fun hHeld => ?_)
              clear hK K
              try simp only [Act.put, List.getElem_toArray, List.getElem_cons_succ, List.getElem_cons_zero, List.setIfInBounds_toArray, List.set_cons_zero, List.set_cons_succ]
              refine wpAnyH_take (i := 7) (v := ?_) rfl (by kernel_rfl) (by kernel_rfl) (by kernel_rfl) (fun _ _ _ h => h) (Or.inl ⟨by rfl, ?_⟩) (by assumption) ?_
              rotate_left
              · intro w hSw; (try dsimp only at hSw); go_simp <;> with_reducible rfl
              try simp only [Act.put, List.getElem_toArray, List.getElem_cons_succ, List.getElem_cons_zero, List.setIfInBounds_toArray, List.set_cons_zero, List.set_cons_succ]
              refine wpAnyH_ready (rs := [8]) (by kernel_rfl) (by simp) ?_
              refine AllReadyH.cons rfl (fun K hK => ?_) AllReadyH.nil
              go_simp
              refine hK.out _ _ (by (try dsimp only); first | exact ⟨r0, r1, r2, s0, s1, s2⟩ | exact ⟨y0, y1, y2, y3, y4, y5⟩) (fun hHeld => ?_)
              clear hK K
              try simp only [Act.put, List.getElem_toArray, List.getElem_cons_succ, List.getElem_cons_zero, List.setIfInBounds_toArray, List.set_cons_zero, List.set_cons_succ]
              refine wpAnyH_done (by kernel_rfl) ?_ _
            rotate_left 1
            focus
              go_simp
              (go_at_call 67; refine (get_spec wd e (HT.out.below Q0.out.bel (Nat.le_refl _)) Q0.out.bel.size HFT.out.hw hwd1 hwd6 (by omega) HRM.out HX4.out).mono ?_; rintro e9 w7 ⟨zv, rfl, ho, hb⟩; obtain ⟨gz, cz, rfl, hnews⟩ := own_form ho HGL.out HW1.out; have HNW := Lib.hid hnews; have Q1 := Lib.hid (Q0.out.new hb ho); have O8 := Lib.hid (Q1.out.row (v := .slice ag n3 cg) (xs := selL wd D X z v e) (by simp) HN3.out.symm); clear hnews hb ho r0 r1 r2 s0 s1 s2 o0 o1 o2 f2; obtain ⟨⟨r0, r1, r2⟩, -⟩ := Q1.out.at (r := w.heap.size) (a := .int .i64 k) (b := .int .i64 p) (c := .int .i64 q) (by simp); obtain ⟨⟨s0, s1, s2⟩, -⟩ := Q1.out.at (r := w.heap.size + 1) (a := .slice al c cl) (b := .slice ad c cd) (c := .slice ax m3 cx) (by simp); obtain ⟨⟨o0, o1, o2⟩, -, -, f2⟩ := Q1.out.at (r := w.heap.size + 1 + 1 + 1) (a := .slice ga na ca) (b := .slice gb na cb) (c := .slice ag n3 cg) (by simp))
              go_wp2_with fail
              refine hK.out _ _ (by (try dsimp only); first | exact ⟨r0, r1, r2, s0, s1, s2⟩ | exact ⟨y0, y1, y2, y3, y4, y5⟩) (fun hHeld => ?_)
              clear hK K
              try simp only [Act.put, List.getElem_toArray, List.getElem_cons_succ, List.getElem_cons_zero, List.setIfInBounds_toArray, List.set_cons_zero, List.set_cons_succ]
              refine wpAnyH_ready (rs := [1]) (by kernel_rfl) (by simp) ?_
              refine AllReadyH.cons rfl (fun K hK => ?_) AllReadyH.nil
              go_simp
              refine hK.out _ _ (by (try dsimp only); first | exact ⟨r0, r1, r2, s0, s1, s2⟩ | exact ⟨y0, y1, y2, y3, y4, y5⟩) (fun hHeld => ?_)
              clear hK K
              try simp only [Act.put, List.getElem_toArray, List.getElem_cons_succ, List.getElem_cons_zero, List.setIfInBounds_toArray, List.set_cons_zero, List.set_cons_succ]
              refine wpAnyH_ready (rs := [6]) (by kernel_rfl) (by simp) ?_
              refine AllReadyH.cons rfl (fun K hK => ?_) AllReadyH.nil
              (refine step_append_lies _ rfl (.tmp 64) (.tmp 68) 24 rfl w.heap.size 3 i0 (.int .i64 0) 1 8 Try.underlying24 J0.out J1.out J2.out J3.out rfl Nat.one_pos (.slice ag n3 cg) n3 (ints (selL wd D X z v e)) rfl O8.out ⟨gz, 0, none⟩ wd cz (ints (getL wd X e)) rfl (by rw [ints_len, HGL.out, Nat.mul_one]) HNW.out (one_cells _) HW1.out (by unfold maxLen; have := NB.out; omega) (by have := NB.out; omega) Q1.out.bel.size _ rfl ?_; intro g cap w8 hown hgrow hl _; clear r0 r1 r2 s0 s1 s2 o0 o1 o2 f2; rw [← ints_append] at hown; have h11 := Q1.out.swap.app hown (by rw [List.length_append, ← HN3.out, HGL.out]) hgrow hl; rw [HSU.out] at h11; have R11 := Lib.hid h11; obtain ⟨⟨r0, r1, r2⟩, -⟩ := R11.out.at (r := w.heap.size) (a := .int .i64 k) (b := .int .i64 p) (c := .int .i64 q) (by simp); obtain ⟨⟨s0, s1, s2⟩, -⟩ := R11.out.at (r := w.heap.size + 1) (a := .slice al c cl) (b := .slice ad c cd) (c := .slice ax m3 cx) (by simp); obtain ⟨⟨o0, o1, o2⟩, -, -, f2⟩ := R11.out.at (r := w.heap.size + 1 + 1 + 1) (a := .slice ga na ca) (b := .slice gb na cb) (c := .slice ag n3 cg) (by simp); have R12 := Lib.hid ((R11.out.last (.slice (some ⟨g, 0, none⟩) (n3 + wd) cap)).sub (rows' := [(.slice (some ⟨g, 0, none⟩) (n3 + wd) cap, selL wd D X z v (e + 1)), (.slice ga na ca, KZ), (.slice gb na cb, KD)]) (List.Sublist.cons_cons _ (List.Sublist.cons _ (List.Sublist.refl _)))); obtain ⟨⟨y0, y1, y2⟩, -⟩ := R12.out.at (r := w.heap.size) (a := .int .i64 k) (b := .int .i64 p) (c := .int .i64 q) (by simp); obtain ⟨⟨y3, y4, y5⟩, -⟩ := R12.out.at (r := w.heap.size + 1) (a := .slice al c cl) (b := .slice ad c cd) (c := .slice ax m3 cx) (by simp); clear hown hgrow hl h11)
              refine hK.out _ _ (by (try dsimp only); first | exact ⟨r0, r1, r2, s0, s1, s2⟩ | exact ⟨y0, y1, y2, y3, y4, y5⟩) (fun hHeld => ?_)
              clear hK K
              try simp only [Act.put, List.getElem_toArray, List.getElem_cons_succ, List.getElem_cons_zero, List.setIfInBounds_toArray, List.set_cons_zero, List.set_cons_succ]
              refine wpAnyH_take (i := 7) (v := ?_) rfl (by kernel_rfl) (by kernel_rfl) (by kernel_rfl) (fun _ _ _ h => h) (Or.inl ⟨by rfl, ?_⟩) (by assumption) ?_
              rotate_left
              · intro w hSw; (try dsimp only at hSw); go_simp <;> with_reducible rfl
              try simp only [Act.put, List.getElem_toArray, List.getElem_cons_succ, List.getElem_cons_zero, List.setIfInBounds_toArray, List.set_cons_zero, List.set_cons_succ]
              refine wpAnyH_ready (rs := [8]) (by kernel_rfl) (by simp) ?_
              refine AllReadyH.cons rfl (fun K hK => ?_) AllReadyH.nil
              go_simp
              refine hK.out _ _ (by (try dsimp only); first | exact ⟨r0, r1, r2, s0, s1, s2⟩ | exact ⟨y0, y1, y2, y3, y4, y5⟩) (fun hHeld => ?_)
              clear hK K
              try simp only [Act.put, List.getElem_toArray, List.getElem_cons_succ, List.getElem_cons_zero, List.setIfInBounds_toArray, List.set_cons_zero, List.set_cons_succ]
              refine wpAnyH_done (by kernel_rfl) ?_ _
            rotate_left 1
            all_goals
              go_wp2
              go_roundw
              case rel => exact ⟨e + 1, n3 + wd, cap, some ⟨g, 0, none⟩, by omega, by go_num, by rw [Nat.add_mul, Nat.one_mul]; omega, Lib.hid (by rw [← HSU.out, List.length_append, ← HN3.out, HGL.out]), R12⟩
              case measure => simp [intOf]; omega
          · have q1 : (xz == v) = false := by simpa using hxv
            have HSN := Lib.hid (selL_no (wd := wd) (X := X) (v := v) (fun h => hxv (HXZ.out.symm.trans h)))
            obtain ⟨⟨s0, s1, s2⟩, -⟩ := R3.out.at (r := w.heap.size + 1) (a := .slice al c cl) (b := .slice ad c cd) (c := .slice ax m3 cx) (by simp)
            clear hxv
            go_wp2
            go_roundw
            case rel => exact ⟨e + 1, n3, cg, ag, by omega, by go_num, by rw [Nat.add_mul, Nat.one_mul]; omega, by rw [HSN.out]; exact HN3, by rw [HSN.out]; exact R3⟩
            case measure => simp [intOf]; omega
        · obtain rfl : e = N := by omega
          have hnlt : ¬ (e : Int) < (e : Int) := by omega
          obtain ⟨⟨t0, t1, t2⟩, f0, f1, f2⟩ := HR.out.at (r := w.heap.size + 1 + 1) (a := nilV) (b := nilV) (c := nilV) (by simp)
          obtain ⟨⟨o0, o1, o2⟩, -⟩ := HR.out.at (r := w.heap.size + 1 + 1 + 1) (a := .slice ga na ca) (b := .slice gb na cb) (c := .slice ag n3 cg) (by simp)
          go_wp2
          refine bodyPost_ret (v := tenV (.slice ga na ca) (.slice gb na cb) (.slice ag n3 cg)) (by simp [results, Try.results59, go_sem, t0, t1, t2]) rfl ?_
          have h2 := (HR.out.swapB.set3 (.slice ga na ca) (.slice gb na cb) (.slice ag n3 cg)).third.third
          rw [HFU.out, HKZ.out, HKD.out] at h2
          exact ⟨_, _, _, rfl, h2.ownG, h2.bel⟩
end Go.Proofs.Ytfdjlahaiogabaa
