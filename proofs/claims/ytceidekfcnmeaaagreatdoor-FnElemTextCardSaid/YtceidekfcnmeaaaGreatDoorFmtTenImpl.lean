
/- impl.FormatTensor. -/
import Derived.Test.YtceidekfcnmeaaaGreatDoorTenText
import Derived.Test.YtceidekfcnmeaaaGreatDoorTenOkImpl
import Derived.Test.YtceidekfcnmeaaaGreatDoorElemRd
namespace Go.Proofs.YtceidekfcnmeaaaGreatDoor
set_option maxRecDepth 20000
open Go.RowKit

theorem rd_lit2 (W : World) (l d : Int) (T : TypeId) : Rd (W.heap.size + 1) (W.alloc (.cells #[.int .i64 l, .int .i64 d] T)) (.slice (some ⟨W.heap.size, 0, none⟩) 2 2) (ints [l, d]) := by
  refine .inr ⟨W.heap.size, 0, 2, rfl, Nat.lt_succ_self _, Nat.le_refl 2, fun i u hu => ?_⟩
  match i, hu with
  | 0, hu => rw [← hu]; simp [World.cell?_alloc_at, ints]
  | 1, hu => rw [← hu]; simp [World.cell?_alloc_at, ints]
  | i + 2, hu => simp [ints] at hu
theorem sizeI_n {k p q : Int} {L D X : List Int} {wd N : Nat} (h : TF k p q L D X wd N) (ht : tensorB k p q L D X = true) : sizeI L D = (N : Int) := by
  obtain ⟨-, h0, -⟩ := tensorB_inv ht
  rcases sizeI_cases L D with ⟨h1, -⟩ | ⟨h1, -⟩
  · omega
  · rw [h1, h.pr]

set_option maxHeartbeats 6400000 in
theorem fmt_ten_impl {B : Nat} {lv dv xv : Value} {k p q : Int} {L D X : List Int} {w : World} (h : RdT B w lv dv xv L D X) (hB : B ≤ w.heap.size) (hn : LenT L D X) (hI : allI L) (hJ : allI D) (hK : allI X) (htab : Lib.TabIs Tryz.prog w "internal/strconv.uint64pow10" .u64 Lib.pow10Tab) :
    Calls Tryz.prog 12 #[ringV k p q, tenV lv dv xv] w fun e w' => e = .returned (.string ⟨(fmtTen k p q L D X).toArray⟩) ∧ Below w.heap.size w w' := by
  have hg := tab_size htab
  have HTB := Lib.hid htab
  have HG := Lib.hid hg
  have H0 := Lib.hid (Held.ringTen w k p q lv dv xv 24 29)
  have HT := Lib.hid h
  have HB0 := Lib.hid hB
  have HN := Lib.hid hn
  have HOK := Lib.hid (tensor_ok_impl (k := k) (p := p) (n := q) (HT.out.below H0.out.1 HB0.out) (Nat.le_trans HB0.out H0.out.1.size) hn hI)
  obtain ⟨al, cl, rfl, -⟩ := ints_form h.l
  obtain ⟨ad, cd, rfl, -⟩ := ints_form h.d
  obtain ⟨ax, cx, rfl, -⟩ := ints_form h.x
  obtain ⟨m, hm⟩ : ∃ x, x = L.length := ⟨_, rfl⟩
  obtain ⟨md, hmd⟩ : ∃ x, x = D.length := ⟨_, rfl⟩
  obtain ⟨mx, hmx⟩ : ∃ x, x = X.length := ⟨_, rfl⟩
  rw [← hm, ← hmd, ← hmx] at H0 HT HOK ⊢
  clear h hB hn htab hg
  cases ht : tensorB k p q L D X with
  | false =>
    rw [fmtTen_no ht]
    rw [ht] at HOK
    clear ht hm hmd hmx hI hJ hK
    go_enter Tryz.func12, Tryz.ntmps12
    go_wp2_with fail
    refine (Held.call H0 HOK.out).mono ?_
    rintro e w1 ⟨rfl, H1, -⟩
    go_wp2
    go_ret
    exact ⟨rfl, H1.out.1⟩
  | true =>
    rw [fmtTen_yes ht]
    rw [ht] at HOK
    obtain ⟨wd, hwd⟩ : ∃ x, x = (widthI k q).toNat := ⟨_, rfl⟩
    obtain ⟨N, hN⟩ : ∃ x, x = (prodL D).toNat := ⟨_, rfl⟩
    have hft := TF.of ht
    rw [← hwd, ← hN] at hft ⊢
    have FT := Lib.hid hft
    obtain rfl : md = m := by rw [hm, hmd]; exact hft.ax.2.1.symm
    have h12 : md ≤ 12 := by rw [hm]; exact hft.ax.1
    have hN4 := hft.n1.2
    have h6 := hft.w6.2
    have HLD : Hid (L.length = D.length) := Lib.hid (hm.symm.trans hmd)
    have HML : Hid (L.length = md ∧ D.length = md ∧ X.length = mx) := Lib.hid ⟨hm.symm, hmd.symm, hmx.symm⟩
    have HIS := Lib.hid (And.intro hI (And.intro hJ hK))
    have HSZ : Hid (sizeI L D = (N : Int)) := Lib.hid (sizeI_n hft ht)
    obtain ⟨ws, hws⟩ : ∃ x, x = tenWs wd N L D X := ⟨_, rfl⟩
    have HWS := Lib.hid hws
    have HWL : Hid (ws.length = md + 1 + N) := Lib.hid (by rw [hws, tenWs_len HLD.out, HML.out.1])
    have HJN : Hid ((joinL [32] ws).length ≤ 70368744177664) := Lib.hid (by rw [hws]; exact tenWs_join HLD.out (by rw [HML.out.1]; exact h12) hN4 hI hJ hK h6 hft.lX)
    rw [← hws]
    obtain ⟨i0, hi, hz0, hz1, hz2⟩ := info_parts infoStr
    have J0 := Lib.hid hi
    have J1 := Lib.hid hz0
    have J2 := Lib.hid hz1
    have J3 := Lib.hid hz2
    clear ht hm hmd hmx hI hJ hK hft hwd hN hws hi hz0 hz1 hz2
    go_enter Tryz.func12, Tryz.ntmps12
    go_wp2_with fail
    refine (Held.call H0 HOK.out).mono ?_
    rintro e w1 ⟨rfl, H1, c0, c1, c2, d0, d1, d2, -⟩
    clear H0 HOK
    have hq1 : w.heap.size < w1.heap.size := World.block_lt_of_cell? _ _ c0
    have hq2 : w.heap.size + 1 < w1.heap.size := World.block_lt_of_cell? _ _ d0
    go_wp2
    go_loopw [5, 16] (fun v i wr => ∃ j : Nat, j ≤ md ∧ i = .int .i64 j ∧ Hid (StrS w1 wr v j (ws.take j))) (fun _ i _ => md - (intOf i).toNat)
    case atStart => exact ⟨0, by omega, rfl, StrS.nil (Below.refl _ _)⟩
    case round =>
      obtain ⟨j, hj, rfl, HR⟩ := hrel
      have HH := Lib.hid (H1.out.step HR.out.bel)
      obtain ⟨c0, c1, c2, d0, d1, d2, -⟩ := HH.out.cells
      by_cases hlt : j < md
      · obtain ⟨l, hl⟩ : ∃ l, L[j]? = some l := ⟨_, List.getElem?_eq_getElem (by rw [HML.out.1]; exact hlt)⟩
        obtain ⟨d, hd⟩ : ∃ d, D[j]? = some d := ⟨_, List.getElem?_eq_getElem (by rw [HML.out.2.1]; exact hlt)⟩
        have HY := Lib.hid (tenWs_ax (wd := wd) (N := N) (X := X) HLD.out hl hd)
        rw [← HWS.out] at HY
        have HLDI := Lib.hid (allI_pair (inI_at HIS.out.1 hl) (inI_at HIS.out.2.1 hd))
        obtain ⟨bl, ol, rfl, hbl, hcl⟩ := HT.out.l.cellAt hl
        obtain ⟨bd, od, rfl, hbd, hcd⟩ := HT.out.d.cellAt hd
        have hl1 : wr.cell? ⟨bl, ol + j, none⟩ = some (.int .i64 l) := (HH.out.1.cell (p := ⟨bl, ol + j, none⟩) (Nat.lt_of_lt_of_le hbl HB0.out)).trans hcl
        have hd1 : wr.cell? ⟨bd, od + j, none⟩ = some (.int .i64 d) := (HH.out.1.cell (p := ⟨bd, od + j, none⟩) (Nat.lt_of_lt_of_le hbd HB0.out)).trans hcd
        have HTL : Hid (ws.take (j + 1) = ws.take j ++ [⟨(axW l d).toArray⟩]) := Lib.hid (by rw [List.take_add_one, HY.out]; rfl)
        have hb1 := (Below.refl wr.heap.size wr).alloc (Nat.le_refl _) (.cells #[.int .i64 l, .int .i64 d] 3)
        have R1 := Lib.hid (HR.out.step hb1)
        have HJ := Lib.hid (joins_any 58 (rd_lit2 wr l d 3) (by simp) (by simp) HLDI.out (tab_below (H1.out.step R1.out.bel).1 HG.out HTB.out))
        clear hl hd hcl hcd hbl hbd hb1
        go_wp2_with fail
        refine HJ.out.mono ?_
        rintro e w5 ⟨rfl, hb⟩
        have R5 := Lib.hid (R1.out.step hb)
        have HBS := Lib.hid R5.out.bel.size
        have eAX : joinL [58] (texts [l, d]) = axW l d := rfl
        rw [eAX]
        clear hb eAX HJ R1 HR hl1 hd1 c0 c1 c2 d0 d1 d2 HH
        go_wp2_with (at_builtin; go_must (refine wpList_append_own _ rfl _ _ 60 rfl w1.heap.size 9 i0 (.string ⟨#[]⟩) 1 16 Tryz.underlying60 J0.out J1.out J2.out J3.out rfl (by decide) _ _ _ rfl (R5.out.own.alloc _) ⟨w5.heap.size, 0, none⟩ 1 1 [.string ⟨(axW l d).toArray⟩] rfl rfl (cell_one_new _ _ _) ?c2 ?c3 ?c4 ?c5 ?_))
        case c2 => exact one_str _
        case c3 => unfold maxLen; omega
        case c4 => omega
        case c5 => have := HBS.out; simp; omega
        intro v4 w4 hown2 hgrow2 _
        have R4 := Lib.hid (R5.out.appV hown2 hgrow2)
        rw [← HTL.out] at R4
        clear hown2 hgrow2 HBS HY HTL R5
        go_wp2
        go_roundw
        case rel => exact ⟨j + 1, by omega, by go_num, R4⟩
        case measure => simp [intOf]; omega
      · obtain rfl : j = md := by omega
        have HY := Lib.hid (tenWs_eq (wd := wd) (N := N) (X := X) HLD.out HML.out.1)
        rw [← HWS.out] at HY
        have HTL : Hid (ws.take (j + 1) = ws.take j ++ [⟨#[61]⟩]) := Lib.hid (by rw [List.take_add_one, HY.out]; rfl)
        have HBS := Lib.hid HR.out.bel.size
        clear c0 c1 c2 d0 d1 d2 HH
        go_wp2_with (at_builtin; go_must (refine wpList_append_own _ rfl _ _ 60 rfl w1.heap.size 9 i0 (.string ⟨#[]⟩) 1 16 Tryz.underlying60 J0.out J1.out J2.out J3.out rfl (by decide) _ _ _ rfl (HR.out.own.alloc _) ⟨wr.heap.size, 0, none⟩ 1 1 [.string ⟨#[61]⟩] rfl rfl (cell_one_new _ _ _) ?c2 ?c3 ?c4 ?c5 ?_))
        case c2 => exact one_str _
        case c3 => unfold maxLen; omega
        case c4 => omega
        case c5 => have := HBS.out; simp; omega
        intro v4 w4 hown2 hgrow2 _
        have R4 := Lib.hid (HR.out.appV hown2 hgrow2)
        rw [← HTL.out] at R4
        clear hown2 hgrow2 HR HBS HY HTL
        have HH := Lib.hid (H1.out.step R4.out.bel)
        obtain ⟨c0, c1, c2, d0, d1, d2, -⟩ := HH.out.cells
        have HSI := Lib.hid (size_impl (HT.out.below HH.out.1 HB0.out) (Nat.le_trans HB0.out HH.out.1.size) HN.out HIS.out.1)
        rw [HSZ.out] at HSI
        go_wp2_with fail
        refine HSI.out.mono ?_
        rintro e w6 ⟨rfl, hb⟩
        have R6 := Lib.hid (R4.out.step hb)
        clear hb HSI R4 HH c0 c1 c2 d0 d1 d2
        go_wp2
        go_loopw [5, 38] (fun v iv wr => ∃ n : Nat, n ≤ N ∧ iv = .int .i64 n ∧ Hid (StrS w1 wr v (j + 1 + n) (ws.take (j + 1 + n)))) (fun _ iv _ => N - (intOf iv).toNat)
        case atStart => exact ⟨0, by omega, rfl, R6⟩
        case round =>
          clear R6
          obtain ⟨n, hn, rfl, HR⟩ := hrel
          have HH := Lib.hid (H1.out.step HR.out.bel)
          obtain ⟨c0, c1, c2, d0, d1, d2, -⟩ := HH.out.cells
          by_cases hlt : n < N
          · have HY := Lib.hid (tenWs_el (wd := wd) (N := N) (X := X) HLD.out HML.out.1 hlt)
            rw [← HWS.out] at HY
            have HTL : Hid (ws.take (j + 1 + n + 1) = ws.take (j + 1 + n) ++ [⟨(elW wd X n).toArray⟩]) := Lib.hid (by rw [List.take_add_one, HY.out]; rfl)
            have HRM : Hid (n * wd + wd ≤ X.length) := Lib.hid (by
              have h1 := Nat.mul_le_mul_right wd (show n + 1 ≤ N by omega)
              rw [Nat.add_mul, Nat.one_mul] at h1
              have h2 := FT.out.lX
              omega)
            have HGI := Lib.hid (allI_get (wd := wd) (n := n) HIS.out.2.2)
            have HGL : Hid ((getL wd X n).length ≤ 1048576) := Lib.hid (by rw [getL_len HRM.out]; omega)
            have HE := Lib.hid (elem_rd (k := k) (p := p) (q := q) wd n (HT.out.below HH.out.1 HB0.out) (Nat.le_trans HB0.out HH.out.1.size) FT.out.hw FT.out.w6.1 FT.out.w6.2 (by omega) HRM.out)
            clear HY
            go_wp2_with fail
            refine HE.out.mono ?_
            rintro e w5 ⟨zv, rfl, hz, hb⟩
            have R5 := Lib.hid (HR.out.step hb)
            have HZ := Lib.hid hz
            have H5 := Lib.hid (H1.out.step R5.out.bel)
            clear hz hb HE HR HH c0 c1 c2 d0 d1 d2
            have HX := Lib.hid (elem_text HZ.out (Nat.le_trans HB0.out H5.out.1.size) HGL.out HGI.out (tab_below H5.out.1 HG.out HTB.out))
            go_wp2_with fail
            refine HX.out.mono ?_
            rintro e w7 ⟨rfl, hb⟩
            have R7 := Lib.hid (R5.out.step hb)
            have HBS := Lib.hid R7.out.bel.size
            have eEL : joinL [44] (texts (getL wd X n)) = elW wd X n := rfl
            rw [eEL]
            clear hb eEL HX R5 HZ H5
            go_wp2_with (at_builtin; go_must (refine wpList_append_own _ rfl _ _ 60 rfl w1.heap.size 9 i0 (.string ⟨#[]⟩) 1 16 Tryz.underlying60 J0.out J1.out J2.out J3.out rfl (by decide) _ _ _ rfl (R7.out.own.alloc _) ⟨w7.heap.size, 0, none⟩ 1 1 [.string ⟨(elW wd X n).toArray⟩] rfl rfl (cell_one_new _ _ _) ?c2 ?c3 ?c4 ?c5 ?_))
            case c2 => exact one_str _
            case c3 => unfold maxLen; omega
            case c4 => omega
            case c5 => have := HBS.out; simp; omega
            intro v8 w8 hown2 hgrow2 _
            have R8 := Lib.hid (R7.out.appV hown2 hgrow2)
            rw [← HTL.out] at R8
            clear hown2 hgrow2 HBS HTL R7
            go_wp2
            go_roundw
            case rel => exact ⟨n + 1, by omega, by go_num, R8⟩
            case measure => simp [intOf]; omega
          · obtain rfl : n = N := by omega
            have e : ws.take (j + 1 + n) = ws := List.take_of_length_le (by rw [HWL.out]; exact Nat.le_refl _)
            rw [e] at HR
            have HJ := Lib.hid (impl_join ⟨#[32]⟩ HR.out.rd (Nat.le_refl _) (by rw [HWL.out]; omega) HJN.out)
            clear c0 c1 c2 d0 d1 d2
            go_wp2_with fail
            refine HJ.out.mono ?_
            rintro e2 w2 ⟨rfl, hb⟩
            go_wp2
            go_ret
            exact ⟨rfl, HH.out.1.trans (hb.mono HH.out.1.size)⟩
end Go.Proofs.YtceidekfcnmeaaaGreatDoor
