
/- impl.UsesOf. -/
import Derived.Test.YtdheakjjnaifkaaCheckNet
namespace Go.Proofs.Ytdheakjjnaifkaa
set_option maxRecDepth 20000
open Go.RowKit

theorem usesTo_len (ts : List TenE) (x : Int) (n : Nat) : (usesTo ts x n).length ≤ n := by
  unfold usesTo
  rw [List.length_map]
  exact Nat.le_trans (List.length_filter_le _ _) (by simp)
theorem usesT_len (ts : List TenE) (x : Int) : (usesT ts x).length ≤ ts.length := usesTo_len ts x ts.length
set_option maxHeartbeats 3200000 in
theorem uses_of_full {B n cap m co : Nat} {pa po : Option Addr} {k p q : Int} {ts : List TenE} {O : List Int} {w : World} (ha : RdTs B w (.slice pa n cap) ts) (ho : Rd B w (.slice po m co) (ints O)) (hB : B ≤ w.heap.size) (hn : ts.length = n) (hl : LenTs ts) (hI : ∀ t ∈ ts, allI t.1) (hm : O.length = m) (hmm : m ≤ 1048576) (hJ : allI O) (x : Int) :
    Calls Try.prog 26 #[netV k p q (.slice pa n cap) (.slice po m co), .int .i64 x] w (NewRow w (if netB k p q ts O = true then usesT ts x else [])) := by
  obtain ⟨yl, hyl⟩ : ∃ l, l = (if netB k p q ts O = true then usesT ts x else []) := ⟨_, rfl⟩
  rw [← hyl]
  have HYL := Lib.hid hyl
  clear hyl
  obtain ⟨w1, hw1⟩ : ∃ W, W = w.alloc (.cells #[.int .i64 k, .int .i64 p, .int .i64 q, .slice pa n cap, .slice po m co] 33) := ⟨_, rfl⟩
  have hb1 : Below w.heap.size w w1 := by rw [hw1]; exact (Below.refl _ _).alloc (Nat.le_refl _) _
  have hc : w1.cell? ⟨w.heap.size, 0, none⟩ = some (.int .i64 k) ∧ w1.cell? ⟨w.heap.size, 1, none⟩ = some (.int .i64 p) ∧ w1.cell? ⟨w.heap.size, 2, none⟩ = some (.int .i64 q) ∧ w1.cell? ⟨w.heap.size, 3, none⟩ = some (.slice pa n cap) ∧ w1.cell? ⟨w.heap.size, 4, none⟩ = some (.slice po m co) := by rw [hw1]; simp
  have HK := Lib.hid (check_full (k := k) (p := p) (q := q) (w := w1) ((ha.below hb1 hB).mono (Nat.le_trans hB hb1.size)) ((ho.below hb1 hB).mono (Nat.le_trans hB hb1.size)) (Nat.le_refl _) hn hl hI hm hmm hJ)
  have HTS := Lib.hid (ha.mono hB)
  have HB1 := Lib.hid hb1
  have HW1 := Lib.hid hw1
  have HN := Lib.hid hn
  have HLN := Lib.hid hl
  have hn1 : n ≤ 1048576 := by rw [← hn]; exact hl.1
  obtain ⟨i0, hi0, hz0, hz1, hz2⟩ := info_parts infoInt
  have J0 := Lib.hid hi0
  have J1 := Lib.hid hz0
  have J2 := Lib.hid hz1
  have J3 := Lib.hid hz2
  obtain ⟨c0, c1, c2, c3, c4⟩ := hc
  clear ha ho hB hn hl hI hm hmm hJ hb1 hw1 hi0 hz0 hz1 hz2
  go_enter Try.func26, Try.ntmps26
  go_upto_region 1 with fail
  rw [← HW1.out]
  clear HW1
  go_wp2_with fail
  refine HK.out.mono ?_
  clear HK c0 c1 c2 c3 c4
  rintro e w2 (⟨hv, g, a, b, rfl, hg, ⟨k0, k1, k2, k3, k4, k5, k6⟩, hab, hne, hb2⟩ | ⟨hnv, rfl, hb2⟩)
  · have R2 : Hid (Rs w w2 [] [(.slice none 0 0, usesTo ts x 0)]) := Lib.hid (((Rs.start w).step (HB1.out.trans (hb2.mono HB1.out.size))).nil)
    have HV := Lib.hid hv
    clear hab hne hb2 k0 k1 k2 k4 k5 k6 hg hv
    go_wp2
    go_loopw [6, 19] (fun u i wr => ∃ (j z : Nat) (ga : Option Addr) (ca : Nat), j ≤ n ∧ z ≤ j ∧ u = .slice ga z ca ∧ i = .int .i64 j ∧ Hid ((usesTo ts x j).length = z) ∧ Hid (Rs w wr [] [(.slice ga z ca, usesTo ts x j)])) (fun _ i _ => n - (intOf i).toNat)
    case atStart => exact ⟨0, 0, none, 0, by omega, by omega, rfl, rfl, Lib.hid rfl, R2⟩
    case round =>
      clear R2 k3
      obtain ⟨j, z, ga, ca, hj, hzj, rfl, rfl, HZ, HR⟩ := hrel
      by_cases hlt : j < n
      · obtain ⟨⟨L, D, X⟩, T1⟩ : ∃ t, Hid (ts[j]? = some t) := ⟨_, List.getElem?_eq_getElem (by rw [HN.out]; exact hlt)⟩
        obtain ⟨b, off, a1, d1, a2, d2, a3, d3, rfl, -, k0, k1, k2, hT⟩ := (HTS.out.below HR.out.bel (Nat.le_refl _)).at T1.out
        dsimp only at k0 k1 k2 hT
        have hln := HLN.out.2 _ (List.mem_of_getElem? T1.out)
        dsimp only at hln
        obtain ⟨WB, hWB⟩ : ∃ V, V = wr.alloc (.cells #[.slice a1 L.length d1, .slice a2 D.length d2, .slice a3 X.length d3] 55) := ⟨_, rfl⟩
        have RB : Hid (Rs w WB [] [(.slice ga z ca, usesTo ts x j)]) := Lib.hid (by rw [hWB]; exact HR.out.alloc _)
        have HF := Lib.hid (contains_any (w := WB) x (hT.l.below ((Below.refl wr.heap.size wr).alloc (Nat.le_refl _) (.cells #[.slice a1 L.length d1, .slice a2 D.length d2, .slice a3 X.length d3] 55) |> fun h => hWB ▸ h) HR.out.bel.size) hln.l)
        have HWB := Lib.hid hWB
        obtain ⟨mL, hmL⟩ : ∃ m, m = L.length := ⟨_, rfl⟩
        obtain ⟨mD, hmD⟩ : ∃ m, m = D.length := ⟨_, rfl⟩
        obtain ⟨mX, hmX⟩ : ∃ m, m = X.length := ⟨_, rfl⟩
        rw [← hmL] at k0 HF HWB
        rw [← hmD] at k1 HWB
        rw [← hmX] at k2 HWB
        clear hT hln hWB hmL hmD hmX
        by_cases hx : x ∈ L
        · have HE := Lib.hid (usesTo_yes T1.out hx)
          rw [decide_eq_true hx] at HF
          clear hx
          go_wp2_with fail
          rw [← HWB.out]
          clear HWB
          refine HF.out.mono ?_
          rintro e w3 ⟨rfl, rfl⟩
          clear HF k0 k1 k2
          have A5 := Lib.hid (RB.out.alloc (.cells #[.int .i64 (j : Int)] 3))
          have O5 := Lib.hid (A5.out.row (v := .slice ga z ca) (List.mem_cons_self) HZ.out)
          go_wp2_with (at_builtin; go_must (refine wpList_append_lies _ rfl _ _ 25 rfl w.heap.size 3 i0 (.int .i64 0) 1 8 Try.underlying25 J0.out J1.out J2.out J3.out rfl (by decide) _ z (ints (usesTo ts x j)) rfl O5.out ⟨w3.heap.size, 0, none⟩ 1 1 [.int .i64 (j : Int)] rfl rfl (cell_one_new _ _ _) ?c2 (by decide) ?c3 ?c4 ?c5 _ rfl ?_))
          case c2 => first | rfl | (intro u hu; simp at hu; subst hu; rfl)
          case c3 => unfold maxLen; omega
          case c4 => omega
          case c5 => exact A5.out.bel.size
          intro g1 cap1 w5 hown hgrow hl1 _
          have hR5 := A5.out.app1 HZ.out hown hgrow (by rw [World.size_alloc]; exact hl1)
          rw [HE.out] at hR5
          have R6 := Lib.hid hR5
          have HZ6 : Hid ((usesTo ts x (j + 1)).length = z + 1) := Lib.hid (by rw [← HE.out, List.length_append, HZ.out]; rfl)
          clear hown hgrow hl1 hR5 A5 O5 RB
          go_wp2
          go_roundw
          case rel => exact ⟨j + 1, z + 1, some ⟨g1, 0, none⟩, cap1, by omega, by omega, rfl, by go_num, HZ6, R6⟩
          case measure => simp [intOf]; omega
        · have HE := Lib.hid (usesTo_no T1.out hx)
          rw [decide_eq_false hx] at HF
          have HZ6 : Hid ((usesTo ts x (j + 1)).length = z) := Lib.hid (by rw [← HE.out, HZ.out])
          rw [HE.out] at RB
          clear hx
          go_wp2_with fail
          rw [← HWB.out]
          clear HWB
          refine HF.out.mono ?_
          rintro e w3 ⟨rfl, rfl⟩
          clear HF k0 k1 k2
          go_wp2
          go_roundw
          case rel => exact ⟨j + 1, z, ga, ca, by omega, by omega, rfl, by go_num, HZ6, RB⟩
          case measure => simp [intOf]; omega
      · obtain rfl : j = n := by omega
        have e2 : usesTo ts x j = usesT ts x := by unfold usesTo usesT; rw [HN.out]
        rw [e2] at HR
        clear e2 hlt
        go_wp2
        go_ret
        refine ⟨_, rfl, ?_, HR.out.bel⟩
        rw [HYL.out, if_pos (netB_true.2 HV.out)]
        exact HR.out.own1 (by simp)
  · have hbe := HB1.out.trans (hb2.mono HB1.out.size)
    clear hb2
    go_wp2
    go_ret
    refine ⟨_, rfl, ?_, hbe⟩
    rw [HYL.out, if_neg (by rw [netB_false hnv]; simp)]
    exact Own.nil _ _
end Go.Proofs.Ytdheakjjnaifkaa
