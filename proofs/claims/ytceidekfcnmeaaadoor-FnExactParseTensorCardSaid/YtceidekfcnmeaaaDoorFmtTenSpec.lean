
/- spec.FormatTensor. -/
import Derived.Test.YtceidekfcnmeaaaDoorTenText
import Derived.Deep.RegionHeld3
namespace Go.Proofs.YtceidekfcnmeaaaDoor
set_option maxRecDepth 20000
open Go.RowKit

set_option maxHeartbeats 6400000 in
theorem fmt_ten_spec {B : Nat} {lv dv xv : Value} {k p q : Int} {L D X : List Int} {w : World} (h : RdT B w lv dv xv L D X) (hB : B ≤ w.heap.size) (hn : LenT L D X) (hI : allI L) (hJ : allI D) (hK : allI X) :
    Calls Tryd.prog 12 #[ringV k p q, tenV lv dv xv] w fun e w' => e = .returned (.string ⟨(fmtTen k p q L D X).toArray⟩) ∧ Below w.heap.size w w' := by
  have H0 := Lib.hid (Held.ringTen w k p q lv dv xv 26 35)
  have HT := Lib.hid h
  have HB0 := Lib.hid hB
  have HOK := Lib.hid (tensor_ok_spec (k := k) (p := p) (n := q) (HT.out.below H0.out.1 HB0.out) (Nat.le_trans HB0.out H0.out.1.size) hn)
  obtain ⟨al, cl, rfl, -⟩ := ints_form h.l
  obtain ⟨ad, cd, rfl, -⟩ := ints_form h.d
  obtain ⟨ax, cx, rfl, -⟩ := ints_form h.x
  obtain ⟨m, hm⟩ : ∃ x, x = L.length := ⟨_, rfl⟩
  obtain ⟨md, hmd⟩ : ∃ x, x = D.length := ⟨_, rfl⟩
  obtain ⟨mx, hmx⟩ : ∃ x, x = X.length := ⟨_, rfl⟩
  rw [← hm, ← hmd, ← hmx] at H0 HT HOK ⊢
  clear h hB hn
  cases ht : tensorB k p q L D X with
  | false =>
    rw [fmtTen_no ht]
    rw [ht] at HOK
    clear ht hm hmd hmx hI hJ hK
    go_enter Tryd.func12, Tryd.ntmps12
    go_wp2_with fail
    refine (Held.call H0 HOK.out).mono ?_
    rintro e w1 ⟨rfl, H1, -⟩
    go_wp2
    go_ret
    exact ⟨rfl, H1.out.1⟩
  | true =>
    rw [fmtTen_yes ht]
    rw [ht] at HOK
    obtain ⟨wd, hwd⟩ : ∃ x, x = (widthI k q).toNat := ⟨_, rfl⟩
    obtain ⟨N, hN⟩ : ∃ x, x = (prodL D).toNat := ⟨_, rfl⟩
    have hft := TF.of ht
    rw [← hwd, ← hN] at hft ⊢
    have FT := Lib.hid hft
    obtain rfl : md = m := by rw [hm, hmd]; exact hft.ax.2.1.symm
    have h12 : md ≤ 12 := by rw [hm]; exact hft.ax.1
    have hN4 := hft.n1.2
    have h6 := hft.w6.2
    have HLD : Hid (L.length = D.length) := Lib.hid (hm.symm.trans hmd)
    have HML : Hid (L.length = md ∧ D.length = md ∧ X.length = mx) := Lib.hid ⟨hm.symm, hmd.symm, hmx.symm⟩
    have HIS := Lib.hid (And.intro hI (And.intro hJ hK))
    have HCAP : Hid (capI D = (N : Int)) := Lib.hid (by have h := (capI_is (fun d hd => (hft.ax.2.2.2.1 d hd).1)).1; have h2 := hft.pr; have h3 := hft.n1; omega)
    obtain ⟨ws, hws⟩ : ∃ x, x = tenWs wd N L D X := ⟨_, rfl⟩
    have HWS := Lib.hid hws
    have HWL : Hid (ws.length = md + 1 + N) := Lib.hid (by rw [hws, tenWs_len HLD.out, HML.out.1])
    have HJN : Hid ((joinL [32] ws).length ≤ 70368744177664) := Lib.hid (by rw [hws]; exact tenWs_join HLD.out (by rw [HML.out.1]; exact h12) hN4 hI hJ hK h6 hft.lX)
    rw [← hws]
    obtain ⟨i0, hi, hz0, hz1, hz2⟩ := info_parts infoStr
    have J0 := Lib.hid hi
    have J1 := Lib.hid hz0
    have J2 := Lib.hid hz1
    have J3 := Lib.hid hz2
    clear ht hm hmd hmx hI hJ hK hft hwd hN hws hi hz0 hz1 hz2
    go_enter Tryd.func12, Tryd.ntmps12
    go_wp2_with fail
    refine (Held.call H0 HOK.out).mono ?_
    rintro e w1 ⟨rfl, H1, c0, c1, c2, d0, d1, d2, -⟩
    clear H0 HOK
    have hq1 : w.heap.size < w1.heap.size := World.block_lt_of_cell? _ _ c0
    have hq2 : w.heap.size + 1 < w1.heap.size := World.block_lt_of_cell? _ _ d0
    go_wp2
    go_loopw [5, 17] (fun v i wr => ∃ j : Nat, j ≤ md ∧ i = .int .i64 j ∧ Hid (StrS w1 wr v j (ws.take j))) (fun _ i _ => md - (intOf i).toNat)
    case atStart => exact ⟨0, by omega, rfl, StrS.made (Below.refl _ _)⟩
    case round =>
      obtain ⟨j, hj, rfl, HR⟩ := hrel
      have HRS := Lib.hid HR.out.own
      by_cases hlt : j < md
      · obtain ⟨l, hl⟩ : ∃ l, L[j]? = some l := ⟨_, List.getElem?_eq_getElem (by rw [HML.out.1]; exact hlt)⟩
        obtain ⟨d, hd⟩ : ∃ d, D[j]? = some d := ⟨_, List.getElem?_eq_getElem (by rw [HML.out.2.1]; exact hlt)⟩
        have HY := Lib.hid (tenWs_ax (wd := wd) (N := N) (X := X) HLD.out hl hd)
        rw [← HWS.out] at HY
        have HIL : Hid (-9223372036854775808 ≤ l ∧ l ≤ 9223372036854775807) := Lib.hid (inI_at HIS.out.1 hl)
        have HID : Hid (-9223372036854775808 ≤ d ∧ d ≤ 9223372036854775807) := Lib.hid (inI_at HIS.out.2.1 hd)
        have HLL : Hid ((Lib.itoa l).length ≤ 20 ∧ (Lib.itoa d).length ≤ 20) := Lib.hid ⟨itoa_len20 HIL.out, itoa_len20 HID.out⟩
        obtain ⟨bl, ol, rfl, hbl, hcl⟩ := HT.out.l.cellAt hl
        obtain ⟨bd, od, rfl, hbd, hcd⟩ := HT.out.d.cellAt hd
        have HS : Hid (∀ W : World, Below w1.heap.size w1 W → W.cell? ⟨w.heap.size + 1, 1, none⟩ = some (.slice (some ⟨bd, od, none⟩) md cd) ∧ W.cell? ⟨bd, od + j, none⟩ = some (.int .i64 d)) := Lib.hid (fun W hb => by
          obtain ⟨e0, e1, e2, e3, e4, e5, -⟩ := (H1.out.step hb).cells
          exact ⟨e4, ((H1.out.step hb).1.cell (p := ⟨bd, od + j, none⟩) (Nat.lt_of_lt_of_le hbd HB0.out)).trans hcd⟩)
        have hl1 : wr.cell? ⟨bl, ol + j, none⟩ = some (.int .i64 l) := ((H1.out.step HR.out.bel).1.cell (p := ⟨bl, ol + j, none⟩) (Nat.lt_of_lt_of_le hbl HB0.out)).trans hcl
        have RX := Lib.hid HR.out.drew
        have HTL : Hid (ws.take (j + 1) = ws.take j ++ [⟨(axW l d).toArray⟩]) := Lib.hid (by rw [List.take_add_one, HY.out]; rfl)
        clear hl hd hcl hcd hbl hbd HR c0 c1 c2 d0 d1 d2 HRS
        go_upto_region 7 with fail
        refine wp_region_held_drew (S := (fun w' => w'.cell? ⟨w.heap.size + 1, 1, none⟩ = some (.slice (some ⟨bd, od, none⟩) md cd) ∧ w'.cell? ⟨bd, od + j, none⟩ = some (.int .i64 d))) (by kernel_rfl) (by (try dsimp only); with_reducible exact HS.out _ RX.out.bel) (fun hHeld => ?_)
        refine wpAnyH_take (i := 0) (v := ?_) rfl (by kernel_rfl) (by kernel_rfl) (by kernel_rfl) (fun _ _ _ h => h) (Or.inl ⟨by rfl, ?_⟩) (by assumption) ?_
        rotate_left
        · intro w hSw; (try dsimp only at hSw); go_simp <;> with_reducible rfl
        try simp only [Act.put, List.getElem_toArray, List.getElem_cons_zero, List.setIfInBounds_toArray, List.set_cons_zero, List.set_cons_succ]
        refine wpAnyH_take (i := 1) (v := ?_) rfl (by kernel_rfl) (by kernel_rfl) (by kernel_rfl) (fun _ _ _ h => h) (Or.inl ⟨by rfl, ?_⟩) (by assumption) ?_
        rotate_left
        · intro w hSw; (try dsimp only at hSw); go_simp <;> with_reducible rfl
        try simp only [Act.put, List.getElem_toArray, List.getElem_cons_succ, List.getElem_cons_zero, List.setIfInBounds_toArray, List.set_cons_zero, List.set_cons_succ]
        refine wpAnyH_take (i := 4) (v := ?_) rfl (by kernel_rfl) (by kernel_rfl) (by kernel_rfl) (fun _ _ _ h => h) (Or.inl ⟨by rfl, ?_⟩) (by assumption) ?_
        rotate_left
        · intro w hSw; (try dsimp only at hSw); go_simp <;> with_reducible rfl
        try simp only [Act.put, List.getElem_toArray, List.getElem_cons_succ, List.getElem_cons_zero, List.setIfInBounds_toArray, List.set_cons_zero, List.set_cons_succ]
        refine wpAnyH_take (i := 5) (v := ?_) rfl (by kernel_rfl) (by kernel_rfl) (by kernel_rfl) (fun _ _ _ h => h) (Or.inl ⟨by rfl, ?_⟩) (by assumption) ?_
        rotate_left
        · intro w hSw; (try dsimp only at hSw); go_simp <;> with_reducible rfl
        try simp only [Act.put, List.getElem_toArray, List.getElem_cons_succ, List.getElem_cons_zero, List.setIfInBounds_toArray, List.set_cons_zero, List.set_cons_succ]
        refine wpAnyH_take (i := 6) (v := ?_) rfl (by kernel_rfl) (by kernel_rfl) (by kernel_rfl) (fun _ _ _ h => h) (Or.inl ⟨by rfl, ?_⟩) (by assumption) ?_
        rotate_left
        · intro w hSw; (try dsimp only at hSw); go_simp <;> with_reducible rfl
        try simp only [Act.put, List.getElem_toArray, List.getElem_cons_succ, List.getElem_cons_zero, List.setIfInBounds_toArray, List.set_cons_zero, List.set_cons_succ]
        refine wpAnyH_take (i := 7) (v := ?_) rfl (by kernel_rfl) (by kernel_rfl) (by kernel_rfl) (fun _ _ _ h => h) (Or.inl ⟨by rfl, ?_⟩) (by assumption) ?_
        rotate_left
        · intro w hSw; (try dsimp only at hSw); go_simp <;> with_reducible rfl
        try simp only [Act.put, List.getElem_toArray, List.getElem_cons_succ, List.getElem_cons_zero, List.setIfInBounds_toArray, List.set_cons_zero, List.set_cons_succ]
        refine wpAnyH_take (i := 8) (v := ?_) rfl (by kernel_rfl) (by kernel_rfl) (by kernel_rfl) (fun _ _ _ h => h) (Or.inl ⟨by rfl, ?_⟩) (by assumption) ?_
        rotate_left
        · intro w hSw; (try dsimp only at hSw); go_simp <;> with_reducible rfl
        try simp only [Act.put, List.getElem_toArray, List.getElem_cons_succ, List.getElem_cons_zero, List.setIfInBounds_toArray, List.set_cons_zero, List.set_cons_succ]
        refine wpAnyH_ready (rs := [2]) (by kernel_rfl) (by simp) ?_
        refine AllReadyH.cons rfl (fun K hK => ?_) AllReadyH.nil
        go_simp
        (go_at_call 21; (first | (with_reducible refine Calls.mono (fmt_any l _ HIL.out.1 HIL.out.2) ?_) | (with_reducible refine Calls.mono (fmt_any d _ HID.out.1 HID.out.2) ?_)); rintro e WX ⟨rfl, hb⟩; replace RX := Lib.hid (RX.out.step hb); clear hb)
        go_wp2_with fail
        refine hK.out _ _ (by (try dsimp only); with_reducible exact HS.out _ RX.out.bel) (fun hHeld => ?_)
        clear hK K
        try simp only [Act.put, List.getElem_toArray, List.getElem_cons_succ, List.getElem_cons_zero, List.setIfInBounds_toArray, List.set_cons_zero, List.set_cons_succ]
        refine wpAnyH_take (i := 3) (v := .string ⟨(Lib.itoa l ++ [58]).toArray⟩) rfl (by kernel_rfl) (by kernel_rfl) (by kernel_rfl) (fun _ _ _ h => h) (Or.inl ⟨by rfl, ?_⟩) (by assumption) ?_
        focus
          intro w hSw
          (try dsimp only at hSw); go_simp; rw [if_neg (by have := HLL.out; omega), str_app]; try rfl
        try simp only [Act.put, List.getElem_toArray, List.getElem_cons_succ, List.getElem_cons_zero, List.setIfInBounds_toArray, List.set_cons_zero, List.set_cons_succ]
        refine wpAnyH_ready (rs := [9]) (by kernel_rfl) (by simp) ?_
        refine AllReadyH.cons rfl (fun K hK => ?_) AllReadyH.nil
        go_simp
        (go_at_call 21; (first | (with_reducible refine Calls.mono (fmt_any l _ HIL.out.1 HIL.out.2) ?_) | (with_reducible refine Calls.mono (fmt_any d _ HID.out.1 HID.out.2) ?_)); rintro e WX ⟨rfl, hb⟩; replace RX := Lib.hid (RX.out.step hb); clear hb)
        go_wp2_with fail
        refine hK.out _ _ (by (try dsimp only); with_reducible exact HS.out _ RX.out.bel) (fun hHeld => ?_)
        clear hK K
        try simp only [Act.put, List.getElem_toArray, List.getElem_cons_succ, List.getElem_cons_zero, List.setIfInBounds_toArray, List.set_cons_zero, List.set_cons_succ]
        refine wpAnyH_take (i := 10) (v := .string ⟨(axW l d).toArray⟩) rfl (by kernel_rfl) (by kernel_rfl) (by kernel_rfl) (fun _ _ _ h => h) (Or.inl ⟨by rfl, ?_⟩) (by assumption) ?_
        focus
          intro w hSw
          (try dsimp only at hSw); go_simp; rw [if_neg (by have := HLL.out; omega), str_app, axW_eq, List.append_assoc]; try rfl
        try simp only [Act.put, List.getElem_toArray, List.getElem_cons_succ, List.getElem_cons_zero, List.setIfInBounds_toArray, List.set_cons_zero, List.set_cons_succ]
        refine wpAnyH_ready (rs := [11]) (by kernel_rfl) (by simp) ?_
        refine AllReadyH.cons rfl (fun K hK => ?_) AllReadyH.nil
        go_simp
        ((obtain ⟨WX, g, hW, hg, RY, N1⟩ := RX.out.litX ⟨(axW l d).toArray⟩ 9; have HN1 := Lib.hid N1; clear N1; rw [hW]; (try rw [hg]); replace RX := Lib.hid RY; clear RY hW hg))
        refine hK.out _ _ (by (try dsimp only); with_reducible exact HS.out _ RX.out.bel) (fun hHeld => ?_)
        clear hK K
        try simp only [Act.put, List.getElem_toArray, List.getElem_cons_succ, List.getElem_cons_zero, List.setIfInBounds_toArray, List.set_cons_zero, List.set_cons_succ]
        refine wpAnyH_ready (rs := [12]) (by kernel_rfl) (by simp) ?_
        refine AllReadyH.cons rfl (fun K hK => ?_) AllReadyH.nil
        (refine step_append_lies _ rfl (.tmp 22) (.tmp 33) 44 rfl w1.heap.size 9 i0 (.string ⟨#[]⟩) 1 16 Tryd.underlying44 J0.out J1.out J2.out J3.out rfl Nat.one_pos _ j (strs (ws.take j)) rfl RX.out.own ⟨g, 0, none⟩ 1 1 [.string ⟨(axW l d).toArray⟩] rfl rfl HN1.out (one_str _) Nat.one_pos (by unfold maxLen; omega) (by omega) RX.out.bel.size _ rfl ?_; intro g2 cap2 WX hown hgrow hl _; replace RX := Lib.hid (RX.out.app hown hgrow); clear HN1 hown hgrow hl)
        refine hK.out _ _ (by (try dsimp only); with_reducible exact HS.out _ RX.out.bel) (fun hHeld => ?_)
        clear hK K
        try simp only [Act.put, List.getElem_toArray, List.getElem_cons_succ, List.getElem_cons_zero, List.setIfInBounds_toArray, List.set_cons_zero, List.set_cons_succ]
        refine wpAnyH_take (i := 13) (v := ?_) rfl (by kernel_rfl) (by kernel_rfl) (by kernel_rfl) (fun _ _ _ h => h) (Or.inl ⟨by rfl, ?_⟩) (by assumption) ?_
        rotate_left
        · intro w hSw; (try dsimp only at hSw); go_simp <;> with_reducible rfl
        try simp only [Act.put, List.getElem_toArray, List.getElem_cons_succ, List.getElem_cons_zero, List.setIfInBounds_toArray, List.set_cons_zero, List.set_cons_succ]
        refine wpAnyH_done (by kernel_rfl) ?_ _
        all_goals
          rw [← HTL.out] at RX
          go_wp2
          go_roundw
          case rel => exact ⟨j + 1, by omega, by go_num, RX⟩
          case measure => simp [intOf]; omega
      · obtain rfl : j = md := by omega
        have HY := Lib.hid (tenWs_eq (wd := wd) (N := N) (X := X) HLD.out HML.out.1)
        rw [← HWS.out] at HY
        have HTL : Hid (ws.take (j + 1) = ws.take j ++ [⟨#[61]⟩]) := Lib.hid (by rw [List.take_add_one, HY.out]; rfl)
        have HBS := Lib.hid HR.out.bel.size
        clear c0 c1 c2 d0 d1 d2 HRS
        go_wp2_with (at_builtin; go_must (refine wpList_append_own _ rfl _ _ 44 rfl w1.heap.size 9 i0 (.string ⟨#[]⟩) 1 16 Tryd.underlying44 J0.out J1.out J2.out J3.out rfl (by decide) _ _ _ rfl (HR.out.own.alloc _) ⟨wr.heap.size, 0, none⟩ 1 1 [.string ⟨#[61]⟩] rfl rfl (cell_one_new _ _ _) ?c2 ?c3 ?c4 ?c5 ?_))
        case c2 => exact one_str _
        case c3 => unfold maxLen; omega
        case c4 => omega
        case c5 => have := HBS.out; simp; omega
        intro v4 w4 hown2 hgrow2 _
        have R4 := Lib.hid (HR.out.appV hown2 hgrow2)
        rw [← HTL.out] at R4
        clear hown2 hgrow2 HR HBS HY HTL
        go_wp2
        go_loopw [5, 8] (fun v iv wr => ∃ n : Nat, n ≤ N ∧ iv = .int .i64 n ∧ Hid (StrS w1 wr v (j + 1 + n) (ws.take (j + 1 + n)))) (fun _ iv _ => N - (intOf iv).toNat)
        case atStart => exact ⟨0, by omega, rfl, R4⟩
        case round =>
          clear R4
          obtain ⟨n, hn, rfl, HR⟩ := hrel
          have HH := Lib.hid (H1.out.step HR.out.bel)
          obtain ⟨c0, c1, c2, d0, d1, d2, -⟩ := HH.out.cells
          have HPR := Lib.hid (product_spec (HT.out.d.below HH.out.1 HB0.out) (by rw [HML.out.2.1]; omega) FT.out.ax.2.2.2.1)
          rw [HCAP.out] at HPR
          go_wp2_with fail
          refine HPR.out.mono ?_
          clear HPR
          rintro e9 w9 ⟨rfl, rfl⟩
          by_cases hlt : n < N
          · have HY := Lib.hid (tenWs_el (wd := wd) (N := N) (X := X) HLD.out HML.out.1 hlt)
            rw [← HWS.out] at HY
            have HTL : Hid (ws.take (j + 1 + n + 1) = ws.take (j + 1 + n) ++ [⟨(elW wd X n).toArray⟩]) := Lib.hid (by rw [List.take_add_one, HY.out]; rfl)
            have HRM : Hid (n * wd + wd ≤ X.length) := Lib.hid (by
              have h1 := Nat.mul_le_mul_right wd (show n + 1 ≤ N by omega)
              rw [Nat.add_mul, Nat.one_mul] at h1
              have h2 := FT.out.lX
              omega)
            have HX4 : Hid (X.length ≤ 281474976710656) := Lib.hid (by
              rw [FT.out.lX]; exact Nat.le_trans (Nat.mul_le_mul hN4 h6) (by omega))
            have HFE : Hid (fmtElem k p q (getL wd X n) = elW wd X n) := Lib.hid (by
              rw [fmtElem_yes]
              · rfl
              · have h1 := getL_elem FT.out.hw FT.out.lX FT.out.wX hlt
                have h2 := FT.out.rg
                simp [okElemB, elemB, h1, h2])
            have HGI := Lib.hid (allI_get (wd := wd) (n := n) HIS.out.2.2)
            have HGL : Hid ((getL wd X n).length ≤ 1048576) := Lib.hid (by rw [getL_len HRM.out]; omega)
            have HS : Hid (∀ W : World, Below w1.heap.size w1 W → W.cell? ⟨w.heap.size, 0, none⟩ = some (.int .i64 k) ∧ W.cell? ⟨w.heap.size, 1, none⟩ = some (.int .i64 p) ∧ W.cell? ⟨w.heap.size, 2, none⟩ = some (.int .i64 q) ∧ W.cell? ⟨w.heap.size + 1, 0, none⟩ = some (.slice al j cl) ∧ W.cell? ⟨w.heap.size + 1, 1, none⟩ = some (.slice ad j cd) ∧ W.cell? ⟨w.heap.size + 1, 2, none⟩ = some (.slice ax mx cx)) := Lib.hid (fun W hb => by
              obtain ⟨e0, e1, e2, e3, e4, e5, -⟩ := (H1.out.step hb).cells
              exact ⟨e0, e1, e2, e3, e4, e5⟩)
            have HTW : Hid (∀ W : World, Below w1.heap.size w1 W → RdT w.heap.size W (.slice al j cl) (.slice ad j cd) (.slice ax mx cx) L D X ∧ w.heap.size ≤ W.heap.size) := Lib.hid (fun W hb => ⟨⟨(HT.out.l.below (H1.out.step hb).1 HB0.out).mono HB0.out, (HT.out.d.below (H1.out.step hb).1 HB0.out).mono HB0.out, (HT.out.x.below (H1.out.step hb).1 HB0.out).mono HB0.out⟩, (H1.out.step hb).1.size⟩)
            have RX := Lib.hid HR.out.drew
            clear HR HH c0 c1 c2 d0 d1 d2 HY
            go_upto_region 13 with fail
            refine wp_region_held_drew (S := (fun W => W.cell? ⟨w.heap.size, 0, none⟩ = some (.int .i64 k) ∧ W.cell? ⟨w.heap.size, 1, none⟩ = some (.int .i64 p) ∧ W.cell? ⟨w.heap.size, 2, none⟩ = some (.int .i64 q) ∧ W.cell? ⟨w.heap.size + 1, 0, none⟩ = some (.slice al j cl) ∧ W.cell? ⟨w.heap.size + 1, 1, none⟩ = some (.slice ad j cd) ∧ W.cell? ⟨w.heap.size + 1, 2, none⟩ = some (.slice ax mx cx))) (by kernel_rfl) (by (try dsimp only); with_reducible exact HS.out _ RX.out.bel) (fun hHeld => ?_)
            refine wpAnyH_take (i := 0) (v := ?_) rfl (by kernel_rfl) (by kernel_rfl) (by kernel_rfl) (fun _ _ _ h => h) (Or.inl ⟨by rfl, ?_⟩) (by assumption) ?_
            rotate_left
            · intro w hSw; (try dsimp only at hSw); go_simp <;> with_reducible rfl
            try simp only [Act.put, List.getElem_toArray, List.getElem_cons_zero, List.setIfInBounds_toArray, List.set_cons_zero, List.set_cons_succ]
            refine wpAnyH_take (i := 1) (v := ?_) rfl (by kernel_rfl) (by kernel_rfl) (by kernel_rfl) (fun _ _ _ h => h) (Or.inl ⟨by rfl, ?_⟩) (by assumption) ?_
            rotate_left
            · intro w hSw; (try dsimp only at hSw); go_simp <;> with_reducible rfl
            try simp only [Act.put, List.getElem_toArray, List.getElem_cons_succ, List.getElem_cons_zero, List.setIfInBounds_toArray, List.set_cons_zero, List.set_cons_succ]
            refine wpAnyH_take (i := 2) (v := ?_) rfl (by kernel_rfl) (by kernel_rfl) (by kernel_rfl) (fun _ _ _ h => h) (Or.inl ⟨by rfl, ?_⟩) (by assumption) ?_
            rotate_left
            · intro w hSw; (try dsimp only at hSw); go_simp <;> with_reducible rfl
            try simp only [Act.put, List.getElem_toArray, List.getElem_cons_succ, List.getElem_cons_zero, List.setIfInBounds_toArray, List.set_cons_zero, List.set_cons_succ]
            refine wpAnyH_take (i := 3) (v := ?_) rfl (by kernel_rfl) (by kernel_rfl) (by kernel_rfl) (fun _ _ _ h => h) (Or.inl ⟨by rfl, ?_⟩) (by assumption) ?_
            rotate_left
            · intro w hSw; (try dsimp only at hSw); go_simp <;> with_reducible rfl
            try simp only [Act.put, List.getElem_toArray, List.getElem_cons_succ, List.getElem_cons_zero, List.setIfInBounds_toArray, List.set_cons_zero, List.set_cons_succ]
            refine wpAnyH_take (i := 4) (v := ?_) rfl (by kernel_rfl) (by kernel_rfl) (by kernel_rfl) (fun _ _ _ h => h) (Or.inl ⟨by rfl, ?_⟩) (by assumption) ?_
            rotate_left
            · intro w hSw; (try dsimp only at hSw); go_simp <;> with_reducible rfl
            try simp only [Act.put, List.getElem_toArray, List.getElem_cons_succ, List.getElem_cons_zero, List.setIfInBounds_toArray, List.set_cons_zero, List.set_cons_succ]
            refine wpAnyH_ready (rs := [5]) (by kernel_rfl) (by simp) ?_
            refine AllReadyH.cons rfl (fun K hK => ?_) AllReadyH.nil
            go_simp
            (go_at_call 28; refine (get_spec wd n (HTW.out _ RX.out.bel).1 (HTW.out _ RX.out.bel).2 FT.out.hw FT.out.w6.1 FT.out.w6.2 (by omega) HRM.out HX4.out).mono ?_; rintro e WX ⟨zv, rfl, ho, hb⟩; have HZ := Lib.hid ho.rd; replace RX := Lib.hid (RX.out.step hb); clear hb ho)
            go_wp2_with fail
            refine hK.out _ _ (by (try dsimp only); with_reducible exact HS.out _ RX.out.bel) (fun hHeld => ?_)
            clear hK K
            try simp only [Act.put, List.getElem_toArray, List.getElem_cons_succ, List.getElem_cons_zero, List.setIfInBounds_toArray, List.set_cons_zero, List.set_cons_succ]
            refine wpAnyH_ready (rs := [6]) (by kernel_rfl) (by simp) ?_
            refine AllReadyH.cons rfl (fun K hK => ?_) AllReadyH.nil
            go_simp
            (go_at_call 6; refine Calls.mono (fmt_elem_spec HZ.out (Nat.le_refl _) HGL.out HGI.out) ?_; rw [HFE.out]; rintro e WX ⟨rfl, hb⟩; replace RX := Lib.hid (RX.out.step hb); clear hb)
            go_wp2_with fail
            refine hK.out _ _ (by (try dsimp only); with_reducible exact HS.out _ RX.out.bel) (fun hHeld => ?_)
            clear hK K
            try simp only [Act.put, List.getElem_toArray, List.getElem_cons_succ, List.getElem_cons_zero, List.setIfInBounds_toArray, List.set_cons_zero, List.set_cons_succ]
            refine wpAnyH_ready (rs := [7]) (by kernel_rfl) (by simp) ?_
            refine AllReadyH.cons rfl (fun K hK => ?_) AllReadyH.nil
            go_simp
            ((obtain ⟨WX, g, hW, hg, RY, N1⟩ := RX.out.litX ⟨(elW wd X n).toArray⟩ 9; have HN1 := Lib.hid N1; clear N1; rw [hW]; (try rw [hg]); replace RX := Lib.hid RY; clear RY hW hg))
            refine hK.out _ _ (by (try dsimp only); with_reducible exact HS.out _ RX.out.bel) (fun hHeld => ?_)
            clear hK K
            try simp only [Act.put, List.getElem_toArray, List.getElem_cons_succ, List.getElem_cons_zero, List.setIfInBounds_toArray, List.set_cons_zero, List.set_cons_succ]
            refine wpAnyH_ready (rs := [8]) (by kernel_rfl) (by simp) ?_
            refine AllReadyH.cons rfl (fun K hK => ?_) AllReadyH.nil
            (refine step_append_lies _ rfl (.tmp 46) (.tmp 53) 44 rfl w1.heap.size 9 i0 (.string ⟨#[]⟩) 1 16 Tryd.underlying44 J0.out J1.out J2.out J3.out rfl Nat.one_pos _ (j + 1 + n) (strs (ws.take (j + 1 + n))) rfl RX.out.own ⟨g, 0, none⟩ 1 1 [.string ⟨(elW wd X n).toArray⟩] rfl rfl HN1.out (one_str _) Nat.one_pos (by unfold maxLen; omega) (by omega) RX.out.bel.size _ rfl ?_; intro g2 cap2 WX hown hgrow hl _; replace RX := Lib.hid (RX.out.app hown hgrow); clear HN1 hown hgrow hl)
            refine hK.out _ _ (by (try dsimp only); with_reducible exact HS.out _ RX.out.bel) (fun hHeld => ?_)
            clear hK K
            try simp only [Act.put, List.getElem_toArray, List.getElem_cons_succ, List.getElem_cons_zero, List.setIfInBounds_toArray, List.set_cons_zero, List.set_cons_succ]
            refine wpAnyH_take (i := 9) (v := ?_) rfl (by kernel_rfl) (by kernel_rfl) (by kernel_rfl) (fun _ _ _ h => h) (Or.inl ⟨by rfl, ?_⟩) (by assumption) ?_
            rotate_left
            · intro w hSw; (try dsimp only at hSw); go_simp <;> with_reducible rfl
            try simp only [Act.put, List.getElem_toArray, List.getElem_cons_succ, List.getElem_cons_zero, List.setIfInBounds_toArray, List.set_cons_zero, List.set_cons_succ]
            refine wpAnyH_done (by kernel_rfl) ?_ _
            rw [← HTL.out] at RX
            go_wp2
            go_roundw
            case rel => exact ⟨n + 1, by omega, by go_num, RX⟩
            case measure => simp [intOf]; omega
          · obtain rfl : n = N := by omega
            have e : ws.take (j + 1 + n) = ws := List.take_of_length_le (by rw [HWL.out]; exact Nat.le_refl _)
            rw [e] at HR
            have HJ := Lib.hid (spec_join ⟨#[32]⟩ HR.out.rd (by rw [HWL.out]; omega) HJN.out)
            go_wp2_with fail
            refine HJ.out.mono ?_
            rintro e2 w2 ⟨rfl, rfl⟩
            go_wp2
            go_ret
            exact ⟨rfl, HH.out.1⟩
end Go.Proofs.YtceidekfcnmeaaaDoor
