
/- impl.relabel: labels are replaced in place. -/
import Derived.Test.YtgbmacppgaopfabGreatPermSpec
import Derived.Test.YtgbmacppgaopfabGreatFind
import Derived.Test.YtgbmacppgaopfabGreatTenOkImpl
import Derived.Test.YtgbmacppgaopfabGreatZeroImpl
namespace Go.Proofs.YtgbmacppgaopfabGreat
set_option maxRecDepth 20000
open Go.RowKit

set_option maxHeartbeats 1600000 in
theorem relabel_full {w0 w : World} {B m mf mt ca cf ct : Nat} {aa af aT : Option Addr} {bs : List BxE} {rows : List RowE} {L F T : List Int} (h : Rs w0 w bs ((.slice aa m ca, L) :: rows)) (hf : Rd B w0 (.slice af mf cf) (ints F)) (ht : Rd B w0 (.slice aT mt ct) (ints T)) (hB : B ≤ w0.heap.size)
    (hm : m = L.length) (hmf : mf = F.length) (hmt : mt = T.length) (hft : F.length = T.length) (h1 : L.length ≤ 1099511627776) (h2 : F.length ≤ 281474976710656) :
    Calls Tryz.prog 61 #[.slice aa m ca, .agg #[.slice af mf cf, .slice aT mt ct]] w fun e w' => e = .returned (.tuple #[]) ∧ Rs w0 w' bs ((.slice aa m ca, namesL L F T) :: rows) := by
  have RF := Lib.hid hf
  have RT := Lib.hid ht
  have HB := Lib.hid hB
  have HFT := Lib.hid hft
  have H2 := Lib.hid h2
  rw [← hm] at h1
  have HM := Lib.hid (And.intro hm (And.intro hmf hmt))
  have R1 : Hid (Rs w0 (w.alloc (.cells #[.slice af mf cf, .slice aT mt ct] 70)) bs ((.slice aa m ca, nameTo 0 L F T) :: rows)) := Lib.hid (by rw [nameTo_zero]; exact h.alloc _)
  have C1 : Hid ((w.alloc (.cells #[.slice af mf cf, .slice aT mt ct] 70)).cell? ⟨w.heap.size, 0, none⟩ = some (.slice af mf cf) ∧ (w.alloc (.cells #[.slice af mf cf, .slice aT mt ct] 70)).cell? ⟨w.heap.size, 1, none⟩ = some (.slice aT mt ct) ∧ w.heap.size < (w.alloc (.cells #[.slice af mf cf, .slice aT mt ct] 70)).heap.size) := Lib.hid ⟨by simp [World.cell?_alloc_at], by simp [World.cell?_alloc_at], by simp⟩
  have HLT : Hid (∀ b, (Value.slice aa m ca).ownBlock = some b → b < w.heap.size) := Lib.hid (fun b e => ((h.own _ List.mem_cons_self).lt b e).2)
  clear hf ht hB hft h2 hm hmf hmt h
  go_enter Tryz.func61, Tryz.ntmps61
  go_wp2
  go_loopw [10] (fun i wr => ∃ j : Nat, j ≤ m ∧ i = .int .i64 j ∧ Hid (Rs w0 wr bs ((.slice aa m ca, nameTo j L F T) :: rows)) ∧ Hid (wr.cell? ⟨w.heap.size, 0, none⟩ = some (.slice af mf cf) ∧ wr.cell? ⟨w.heap.size, 1, none⟩ = some (.slice aT mt ct) ∧ w.heap.size < wr.heap.size)) (fun i _ => m - (intOf i).toNat)
  case atStart => exact ⟨0, by omega, rfl, R1, C1⟩
  case round =>
    clear R1 C1
    obtain ⟨j, hj, rfl, HR, HC⟩ := hrel
    by_cases hlt : j < m
    · obtain ⟨n, X1⟩ : ∃ n, Hid (L[j]? = some n) := ⟨_, List.getElem?_eq_getElem (by rw [← HM.out.1]; exact hlt)⟩
      obtain ⟨g, rfl, -, hhi, hcell, hfz⟩ := (HR.out.own1 (List.mem_cons_self)).slot (by rw [nameTo_len, HM.out.1]) (by omega)
      have c3' := hcell j n (nameTo_at X1.out)
      have f3 := hfz j
      have X3 := Lib.hid c3'
      have HH := Lib.hid hhi
      have HF3 := Lib.hid f3
      have hgw := HLT.out g rfl
      have HGW := Lib.hid hgw
      have hfind := find_int n (RF.out.below HR.out.bel HB.out) (RT.out.below HR.out.bel HB.out) (Nat.le_trans HB.out HR.out.bel.size) HFT.out H2.out
      obtain ⟨d0, d1, -⟩ := HC.out
      clear hcell hfz hhi f3 hgw
      by_cases hin : n ∈ F
      · obtain ⟨q, hq⟩ : ∃ q, F.idxOf n = q := ⟨_, rfl⟩
        have hql : q < mt := by rw [← hq, HM.out.2.2, ← HFT.out]; exact List.idxOf_lt_length_iff.2 hin
        obtain ⟨t, T1⟩ : ∃ t, Hid (T[q]? = some t) := ⟨_, List.getElem?_eq_getElem (by rw [← HM.out.2.2]; exact hql)⟩
        have hc : cK F T n = some t := by unfold cK; rw [if_pos hin, hq, getD_at T1.out]
        rw [hc] at hfind
        simp only [Option.getD_some, Option.isSome_some] at hfind
        have HG := Lib.hid hfind
        have HNI := Lib.hid (nameI_in hin hq T1.out)
        clear hfind hin hq hc
        go_wp2_with fail
        refine HG.out.mono ?_
        clear c3' d0 d1
        rintro e w2 ⟨rfl, hb⟩
        have c4 := (hb.cell (p := ⟨g, j, none⟩) HH.out).trans X3.out
        have f4 := (hb.frozen (p := ⟨g, j, none⟩) HH.out).trans HF3.out
        have HS := Lib.hid ((HR.out.step hb).put (by rw [nameTo_len, HM.out.1]) j t)
        rw [← HNI.out, nameTo_set X1.out, HNI.out] at HS
        have HC3 : Hid ((w2.setCell ⟨g, j, none⟩ (.int .i64 t)).cell? ⟨w.heap.size, 0, none⟩ = some (.slice af mf cf) ∧ (w2.setCell ⟨g, j, none⟩ (.int .i64 t)).cell? ⟨w.heap.size, 1, none⟩ = some (.slice aT mt ct) ∧ w.heap.size < (w2.setCell ⟨g, j, none⟩ (.int .i64 t)).heap.size) := Lib.hid (by
          have h1 := HGW.out
          have h2 := HC.out.2.2
          exact ⟨(World.cell?_setCell_other _ _ _ _ (by intro q; injection q with q1; omega)).trans ((hb.cell (p := ⟨w.heap.size, 0, none⟩) h2).trans HC.out.1), (World.cell?_setCell_other _ _ _ _ (by intro q; injection q with q1; omega)).trans ((hb.cell (p := ⟨w.heap.size, 1, none⟩) h2).trans HC.out.2.1), by simpa using Nat.lt_of_lt_of_le h2 hb.size⟩)
        clear hb
        go_wp2
        go_roundw
        case rel => exact ⟨j + 1, by omega, by go_num, HS, HC3⟩
        case measure => simp [intOf]; omega
      · have hc : cK F T n = none := by unfold cK; rw [if_neg hin]
        rw [hc] at hfind
        simp only [Option.getD_none, Option.isSome_none] at hfind
        have HG := Lib.hid hfind
        have HS : Hid (Rs w0 wr bs ((.slice (some ⟨g, 0, none⟩) m ca, nameTo (j + 1) L F T) :: rows)) := Lib.hid (by rw [nameTo_same X1.out (nameI_out hin)]; exact HR.out)
        clear hfind hin hc
        go_wp2_with fail
        refine HG.out.mono ?_
        clear c3' d0 d1
        rintro e w2 ⟨rfl, hb⟩
        have HS2 := Lib.hid (HS.out.step hb)
        have HC3 : Hid (w2.cell? ⟨w.heap.size, 0, none⟩ = some (.slice af mf cf) ∧ w2.cell? ⟨w.heap.size, 1, none⟩ = some (.slice aT mt ct) ∧ w.heap.size < w2.heap.size) := Lib.hid ⟨(hb.cell (p := ⟨w.heap.size, 0, none⟩) HC.out.2.2).trans HC.out.1, (hb.cell (p := ⟨w.heap.size, 1, none⟩) HC.out.2.2).trans HC.out.2.1, Nat.lt_of_lt_of_le HC.out.2.2 hb.size⟩
        clear hb HS
        go_wp2
        go_roundw
        case rel => exact ⟨j + 1, by omega, by go_num, HS2, HC3⟩
        case measure => simp [intOf]; omega
    · obtain rfl : j = m := by omega
      have h := HR.out
      have e : nameTo j L F T = namesL L F T := by rw [HM.out.1]; exact nameTo_full L F T
      rw [e] at h
      go_wp2
      refine bodyPost_end (v := .tuple #[]) (by simp [results, Tryz.results61, go_sem]) rfl ?_
      exact ⟨rfl, h⟩
end Go.Proofs.YtgbmacppgaopfabGreat
namespace Go.Proofs.YtgbmacppgaopfabGreat
set_option maxRecDepth 20000
open Go.RowKit

theorem labels_size {L D M : List Int} (h : AxesV L D) (h0 : 0 ≤ sizeI L D) (hl : M.length = L.length) : labelsB M = decide (0 ≤ sizeI M D) := by
  obtain ⟨h1, h2, h3, h4, h5⟩ := h
  have hp : prodL D ≤ 4096 := by
    rcases sizeI_cases L D with ⟨e, -⟩ | ⟨-, -, -, h⟩
    · omega
    · exact h
  have hpos := prodL_pos (D := D) (fun d hd => (h4 d hd).1)
  by_cases hv : LabelsV M
  · rw [labelsB_true.2 hv, sizeI_yes ⟨by omega, by omega, hv.1, h4, hv.2⟩ hp]
    symm
    simp; omega
  · rw [labelsB_false hv, sizeI_none (fun ha => hv ⟨ha.2.2.1, ha.2.2.2.2⟩)]
    rfl
theorem names_allI {L F T : List Int} (hl : allI L) (ht : allI T) (hft : F.length = T.length) : allI (namesL L F T) := fun z hz => by
  obtain ⟨n, hn, rfl⟩ := List.mem_map.1 hz
  unfold nameI
  split
  · rename_i hin
    have hlt := List.idxOf_lt_length_iff.2 hin
    rw [List.getD_eq_getElem?_getD, List.getElem?_eq_getElem (by omega)]
    exact ht _ (List.getElem_mem _)
  · exact hl n hn
set_option maxHeartbeats 3200000 in
theorem relabel_tensor_impl {B : Nat} {lv dv xv fv tv : Value} {k p q : Int} {L D X F T : List Int} {w : World} (h : RdT B w lv dv xv L D X) (hf : Rd B w fv (ints F)) (ht : Rd B w tv (ints T)) (hB : B ≤ w.heap.size) (hn : LenT L D X) (hnf : F.length ≤ 281474976710656) (hnt : T.length ≤ 281474976710656) (hI : allI L) (hJ : allI T) :
    Calls Tryz.prog 23 #[ringV k p q, tenV lv dv xv, fv, tv] w (NewTen2 w (if relB k p q L D X F T = true then namesL L F T else []) (if relB k p q L D X F T = true then D else []) (if relB k p q L D X F T = true then X else []) (relB k p q L D X F T)) := by
  have HT := Lib.hid h
  have HF := Lib.hid hf
  have HTT := Lib.hid ht
  have HN := Lib.hid hn
  have HB0 := Lib.hid hB
  have HNF := Lib.hid (And.intro hnf hnt)
  have HII := Lib.hid (And.intro hI hJ)
  obtain ⟨al, cl, rfl, -⟩ := ints_form h.l
  obtain ⟨ad, cd, rfl, -⟩ := ints_form h.d
  obtain ⟨ax, cx, rfl, -⟩ := ints_form h.x
  obtain ⟨af, cf, rfl, -⟩ := ints_form hf
  obtain ⟨aT, ct, rfl, -⟩ := ints_form ht
  obtain ⟨ml, hml⟩ : ∃ m, m = L.length := ⟨_, rfl⟩
  obtain ⟨md, hmd⟩ : ∃ m, m = D.length := ⟨_, rfl⟩
  obtain ⟨mx, hmx⟩ : ∃ m, m = X.length := ⟨_, rfl⟩
  obtain ⟨mf, hmf⟩ : ∃ m, m = F.length := ⟨_, rfl⟩
  obtain ⟨mt, hmt⟩ : ∃ m, m = T.length := ⟨_, rfl⟩
  rw [← hml, ← hmd, ← hmx] at HT ⊢
  rw [← hmf] at HF ⊢
  rw [← hmt] at HTT ⊢
  have HM := Lib.hid (And.intro hml (And.intro hmd (And.intro hmx (And.intro hmf hmt))))
  have R0 := Lib.hid (Rs.three w k p q (.slice al ml cl) (.slice ad md cd) (.slice ax mx cx) 24 28 28)
  obtain ⟨tb, htb⟩ : ∃ b, b = tensorB k p q L D X := ⟨_, rfl⟩
  obtain ⟨s, hs⟩ : ∃ s, s = decide (0 ≤ sizeI (namesL L F T) D) := ⟨_, rfl⟩
  obtain ⟨pb, hpb⟩ : ∃ b, b = relB k p q L D X F T := ⟨_, rfl⟩
  have HOK : Hid (∀ W, Below w.heap.size w W → Calls Tryz.prog 45 #[ringV k p q, tenV (.slice al ml cl) (.slice ad md cd) (.slice ax mx cx)] W fun e w' => e = .returned (.bool tb) ∧ Below W.heap.size W w') := Lib.hid (fun W hb => by
    rw [htb]
    exact tensor_ok_impl (k := k) (p := p) (n := q) (HT.out.below hb HB0.out) (Nat.le_trans HB0.out hb.size) HN.out HII.out.1)
  rw [← hpb]
  have HPB : Hid (pb = (tb && (decide (mf = mt) && s))) := by show _ = _; rw [hpb, htb, hs, hmf, hmt]; rfl
  have HTB := Lib.hid htb
  have HS := Lib.hid hs
  clear h hf ht hB hn hnf hnt hml hmd hmx hmf hmt htb hpb hs hI hJ
  obtain ⟨⟨r0, r1, r2⟩, -⟩ := R0.out.at (r := w.heap.size) (a := .int .i64 k) (b := .int .i64 p) (c := .int .i64 q) (by simp)
  obtain ⟨⟨s0, s1, s2⟩, -⟩ := R0.out.at (r := w.heap.size + 1) (a := .slice al ml cl) (b := .slice ad md cd) (c := .slice ax mx cx) (by simp)
  obtain ⟨gl, hgl⟩ : ∃ l, l = (if pb = true then namesL L F T else []) := ⟨_, rfl⟩
  obtain ⟨gd, hgd⟩ : ∃ l, l = (if pb = true then D else []) := ⟨_, rfl⟩
  obtain ⟨gx, hgx⟩ : ∃ l, l = (if pb = true then X else []) := ⟨_, rfl⟩
  rw [← hgl, ← hgd, ← hgx]
  have HG := Lib.hid (And.intro hgl (And.intro hgd hgx))
  clear hgl hgd hgx
  by_cases hmm : mf = mt
  case neg =>
    obtain rfl : pb = false := by rw [HPB.out]; simp [hmm]
    go_enter Tryz.func23, Tryz.ntmps23
    go_wp2_with fail
    refine (pair_no _ hmm).mono ?_
    rintro e w1 ⟨rfl, hb⟩
    have R1 := Lib.hid ((R0.out.step hb).alloc (.cells #[nilV, nilV] 70))
    clear hb r0 r1 r2 s0 s1 s2
    obtain ⟨⟨t0, t1, t2⟩, f0, f1, f2⟩ := R1.out.at (List.mem_cons_self)
    go_wp2
    refine bodyPost_ret (v := .tuple #[tenV nilV nilV nilV, .bool false]) (by simp [results, Tryz.results23, go_sem, t0, t1, t2]) rfl ?_
    rw [HG.out.1, HG.out.2.1, HG.out.2.2]
    simp only [Bool.false_eq_true, if_false]
    exact NewTen2.nils (R1.out.set3 _ _ _).bel
  case pos =>
    subst hmm
    go_enter Tryz.func23, Tryz.ntmps23
    go_wp2_with fail
    refine (pair_yes _).mono ?_
    rintro e w1 ⟨rfl, hb⟩
    have R1 := Lib.hid (R0.out.step hb)
    have R2 := Lib.hid (R1.out.alloc (.cells #[.slice af mf cf, .slice aT mf ct] 70))
    have N2 : Hid ((w1.alloc (.cells #[.slice af mf cf, .slice aT mf ct] 70)).cell? ⟨w1.heap.size, 0, none⟩ = some (.slice af mf cf) ∧ (w1.alloc (.cells #[.slice af mf cf, .slice aT mf ct] 70)).cell? ⟨w1.heap.size, 1, none⟩ = some (.slice aT mf ct) ∧ w1.heap.size < (w1.alloc (.cells #[.slice af mf cf, .slice aT mf ct] 70)).heap.size) := Lib.hid ⟨by simp [World.cell?_alloc_at], by simp [World.cell?_alloc_at], by simp⟩
    clear hb r0 r1 r2 s0 s1 s2
    obtain ⟨⟨r0, r1, r2⟩, -⟩ := R2.out.at (r := w.heap.size) (a := .int .i64 k) (b := .int .i64 p) (c := .int .i64 q) (by simp)
    obtain ⟨⟨s0, s1, s2⟩, -⟩ := R2.out.at (r := w.heap.size + 1) (a := .slice al ml cl) (b := .slice ad md cd) (c := .slice ax mx cx) (by simp)
    go_wp2_with fail
    refine (HOK.out _ R2.out.bel).mono ?_
    clear r0 r1 r2 s0 s1 s2
    rintro e w2 ⟨rfl, hb⟩
    have R3 := Lib.hid (R2.out.step hb)
    have N3 : Hid (w2.cell? ⟨w1.heap.size, 0, none⟩ = some (.slice af mf cf) ∧ w2.cell? ⟨w1.heap.size, 1, none⟩ = some (.slice aT mf ct) ∧ w1.heap.size < w2.heap.size) := Lib.hid ⟨(hb.cell (p := ⟨w1.heap.size, 0, none⟩) N2.out.2.2).trans N2.out.1, (hb.cell (p := ⟨w1.heap.size, 1, none⟩) N2.out.2.2).trans N2.out.2.1, Nat.lt_of_lt_of_le N2.out.2.2 hb.size⟩
    clear hb N2
    cases tb with
    | false =>
      obtain rfl : pb = false := by rw [HPB.out]; rfl
      obtain ⟨⟨t0, t1, t2⟩, f0, f1, f2⟩ := R3.out.at (List.mem_cons_self)
      go_wp2
      refine bodyPost_ret (v := .tuple #[tenV nilV nilV nilV, .bool false]) (by simp [results, Tryz.results23, go_sem, t0, t1, t2]) rfl ?_
      rw [HG.out.1, HG.out.2.1, HG.out.2.2]
      simp only [Bool.false_eq_true, if_false]
      exact NewTen2.nils (R3.out.set3 _ _ _).bel
    | true =>
      have HAX : Hid (AxesV L D ∧ 0 ≤ sizeI L D) := by
        show _ ∧ _
        obtain ⟨-, hs0, -, -⟩ := tensorB_inv HTB.out.symm
        rcases sizeI_cases L D with h | ⟨-, h2, -, -⟩
        · omega
        · exact ⟨h2, hs0⟩
      obtain ⟨hL1, hD1, hX1⟩ : L.length ≤ 12 ∧ D.length ≤ 12 ∧ X.length ≤ 24576 := by
        obtain ⟨hrb, hs0, hxl, -⟩ := tensorB_inv HTB.out.symm
        have hwd := ring_width hrb
        rcases sizeI_cases L D with h | ⟨h1, h2, h3, h4⟩
        · omega
        · have h5 : sizeI L D * widthI k q ≤ 4096 * 6 := Int.le_trans (Int.mul_le_mul_of_nonneg_right (show sizeI L D ≤ 4096 by omega) (by omega)) (show 4096 * widthI k q ≤ 4096 * 6 by omega)
          have := h2.1
          have := h2.2.1
          omega
      have HFT : Hid (F.length = T.length) := Lib.hid (by rw [← HM.out.2.2.2.1, ← HM.out.2.2.2.2])
      have HLB : Hid (labelsB (namesL L F T) = s) := Lib.hid (by rw [HS.out]; exact labels_size HAX.out.1 HAX.out.2 (namesL_len _ _ _))
      have HAI := Lib.hid (names_allI HII.out.1 HII.out.2 HFT.out)
      have HLN : Hid (L.length ≤ 12) := Lib.hid hL1
      have HCP := Lib.hid (fun (w1 : World) (hb : Below w.heap.size w w1) => clone_ten (HT.out.below hb HB0.out) (Nat.le_trans HB0.out hb.size) (by omega) (by omega) (by omega))
      clear hL1 hD1 hX1
      have HPB2 : Hid (pb = s) := by show pb = s; rw [HPB.out]; simp
      obtain rfl : pb = s := HPB2.out
      obtain ⟨⟨s0, s1, s2⟩, -⟩ := R3.out.at (r := w.heap.size + 1) (a := .slice al ml cl) (b := .slice ad md cd) (c := .slice ax mx cx) (by simp)
      go_wp2_with fail
      refine (HCP.out _ R3.out.bel).mono ?_
      clear s0 s1 s2
      rintro e w3 ⟨l', d', x', rfl, ho, hb⟩
      have R4 := Lib.hid (R3.out.new3 hb ho)
      have N4 : Hid (w3.cell? ⟨w1.heap.size, 0, none⟩ = some (.slice af mf cf) ∧ w3.cell? ⟨w1.heap.size, 1, none⟩ = some (.slice aT mf ct) ∧ w1.heap.size < w3.heap.size) := Lib.hid ⟨(hb.cell (p := ⟨w1.heap.size, 0, none⟩) N3.out.2.2).trans N3.out.1, (hb.cell (p := ⟨w1.heap.size, 1, none⟩) N3.out.2.2).trans N3.out.2.1, Nat.lt_of_lt_of_le N3.out.2.2 hb.size⟩
      obtain ⟨a1, c1, rfl, -⟩ := ints_form ho.rows.1.rd
      obtain ⟨a2, c2, rfl, -⟩ := ints_form ho.rows.2.1.rd
      obtain ⟨a3, c3, rfl, -⟩ := ints_form ho.rows.2.2.rd
      rw [← HM.out.1, ← HM.out.2.1, ← HM.out.2.2.1] at R4 ⊢
      clear ho hb N3
      have R5 := Lib.hid (R4.out.box (.slice a1 ml c1) (.slice a2 md c2) (.slice a3 mx c3) 28)
      have n0 : (w3.alloc (.cells #[.slice a1 ml c1, .slice a2 md c2, .slice a3 mx c3] 28)).cell? ⟨w1.heap.size, 0, none⟩ = some (.slice af mf cf) := (((Below.refl w3.heap.size w3).alloc (Nat.le_refl _) (.cells #[.slice a1 ml c1, .slice a2 md c2, .slice a3 mx c3] 28)).cell (p := ⟨w1.heap.size, 0, none⟩) N4.out.2.2).trans N4.out.1
      have n1 : (w3.alloc (.cells #[.slice a1 ml c1, .slice a2 md c2, .slice a3 mx c3] 28)).cell? ⟨w1.heap.size, 1, none⟩ = some (.slice aT mf ct) := (((Below.refl w3.heap.size w3).alloc (Nat.le_refl _) (.cells #[.slice a1 ml c1, .slice a2 md c2, .slice a3 mx c3] 28)).cell (p := ⟨w1.heap.size, 1, none⟩) N4.out.2.2).trans N4.out.2.1
      have HRL := Lib.hid (relabel_full R5.out HF.out HTT.out HB0.out HM.out.1 HM.out.2.2.2.1 HM.out.2.2.2.2 HFT.out (by have := HLN.out; omega) HNF.out.1)
      go_wp2_with fail
      refine HRL.out.mono ?_
      clear HRL n0 n1
      rintro e w4 ⟨rfl, hr⟩
      have R6 := Lib.hid hr
      clear hr
      obtain ⟨⟨b0, b1, b2⟩, g0, g1, g2⟩ := R6.out.at (List.mem_cons_self)
      have HLI := Lib.hid (labels_impl (R6.out.rd (v := .slice a1 ml c1) (xs := namesL L F T) (by simp)) (Nat.le_refl _) (by rw [namesL_len]; have := HLN.out; omega) HAI.out)
      rw [HLB.out] at HLI
      go_wp2_with fail
      refine HLI.out.mono ?_
      clear HLI b0 b1 b2 g0 g1 g2
      rintro e w5 ⟨rfl, hb⟩
      have R7 := Lib.hid (R6.out.step hb)
      clear hb
      obtain ⟨⟨t0, t1, t2⟩, f0, f1, f2⟩ := R7.out.at (r := w.heap.size + 1 + 1) (a := nilV) (b := nilV) (c := nilV) (by simp)
      obtain ⟨⟨u0, u1, u2⟩, -, -, -⟩ := R7.out.at (List.mem_cons_self)
      cases pb with
      | true =>
        go_wp2
        refine bodyPost_ret (v := .tuple #[tenV (.slice a1 ml c1) (.slice a2 md c2) (.slice a3 mx c3), .bool true]) (by simp [results, Tryz.results23, go_sem, t0, t1, t2]) rfl ?_
        have h2 := (R7.out.swapB.set3 (.slice a1 ml c1) (.slice a2 md c2) (.slice a3 mx c3))
        rw [HG.out.1, HG.out.2.1, HG.out.2.2]
        simp only [if_true]
        exact ⟨_, _, _, rfl, h2.ownG, h2.bel⟩
      | false =>
        go_wp2
        refine bodyPost_ret (v := .tuple #[tenV nilV nilV nilV, .bool false]) (by simp [results, Tryz.results23, go_sem, t0, t1, t2]) rfl ?_
        rw [HG.out.1, HG.out.2.1, HG.out.2.2]
        simp only [Bool.false_eq_true, if_false]
        exact NewTen2.nils (R7.out.swapB.set3 _ _ _).bel
end Go.Proofs.YtgbmacppgaopfabGreat
