
/- spec.l13Meet, spec.NeighborsOf. -/
import Derived.Test.YtdheakjjnaifkaaGraph
import Derived.Test.YtdheakjjnaifkaaNetSpec2
import Derived.Test.YtdheakjjnaifkaaShare0
namespace Go.Proofs.Ytdheakjjnaifkaa
set_option maxRecDepth 20000
open Go.RowKit

set_option maxHeartbeats 3200000 in
theorem meet_spec {B B' : Nat} {lv dv xv lu du xu : Value} {L M : List Int} {w : World} (hl : Rd B w lv (ints L)) (hm : Rd B' w lu (ints M)) (hB : B ≤ w.heap.size) (hB' : B' ≤ w.heap.size) (l1 : L.length ≤ 281474976710656) (l2 : M.length ≤ 281474976710656) :
    Calls Try.prog 65 #[tenV lv dv xv, tenV lu du xu] w fun e w' => e = .returned (.bool (meetI L M)) ∧ Below w.heap.size w w' := by
  obtain ⟨a, c, rfl, -⟩ := ints_form hl
  obtain ⟨b, d, rfl, -⟩ := ints_form hm
  obtain ⟨W0, hW0⟩ : ∃ W, W = (w.alloc (.cells #[.slice a L.length c, dv, xv] 55)).alloc (.cells #[.slice b M.length d, du, xu] 55) := ⟨_, rfl⟩
  have hb0 : Below w.heap.size w W0 := by rw [hW0]; exact ((Below.refl _ _).alloc (Nat.le_refl _) _).alloc (by simp) _
  have hc : W0.cell? ⟨w.heap.size, 0, none⟩ = some (.slice a L.length c) ∧ W0.cell? ⟨w.heap.size + 1, 0, none⟩ = some (.slice b M.length d) := by rw [hW0]; simp
  have HL := Lib.hid ((hl.mono hB).below hb0 (Nat.le_refl _))
  have HF := Lib.hid (fun x => find_spec (w := W0) x ((hm.mono hB').below hb0 (Nat.le_refl _)) l2)
  have B0 := Lib.hid hb0
  obtain ⟨n, hn⟩ : ∃ n, n = L.length := ⟨_, rfl⟩
  obtain ⟨m, hmm⟩ : ∃ n, n = M.length := ⟨_, rfl⟩
  rw [← hn] at hc HL hW0 l1
  rw [← hmm] at hc HF hW0 l2
  rw [← hn, ← hmm]
  have HW0 := Lib.hid hW0
  have HN := Lib.hid hn
  have HM := Lib.hid hmm
  obtain ⟨yb, hyb⟩ : ∃ y, y = meetI L M := ⟨_, rfl⟩
  rw [← hyb]
  have HY := Lib.hid hyb
  obtain ⟨c0, c1⟩ := hc
  clear hl hm hB hB' hb0 hn hmm hW0 hyb
  go_enter Try.func65, Try.ntmps65
  go_upto_region 1 with fail
  rw [← HW0.out]
  clear HW0
  go_wp2
  go_loopw [10] (fun i wr => ∃ j : Nat, j ≤ n ∧ i = .int .i64 j ∧ Hid (∀ y ∈ L.take j, y ∉ M) ∧ wr = W0) (fun i _ => n - (intOf i).toNat)
  case atStart => exact ⟨0, by omega, rfl, Lib.hid (fun y hy => by simp at hy), rfl⟩
  case round =>
    obtain ⟨j, hj, rfl, HT, rfl⟩ := hrel
    by_cases hlt : j < n
    · obtain ⟨x, X1⟩ : ∃ x, Hid (L[j]? = some x) := ⟨_, List.getElem?_eq_getElem (by rw [← HN.out]; exact hlt)⟩
      obtain ⟨b1, o1, rfl, -, e1⟩ := HL.out.cellAt X1.out
      have HFX := Lib.hid (HF.out x)
      by_cases hx : x ∈ M
      · have hyt : yb = true := by rw [HY.out, meetI_iff]; exact ⟨x, List.mem_of_getElem? X1.out, hx⟩
        rw [findI_hit hx] at HFX
        obtain ⟨z, hz⟩ : ∃ z, z = M.idxOf x := ⟨_, rfl⟩
        rw [← hz] at HFX
        subst hyt
        clear hx hz
        go_wp2_with fail
        refine HFX.out.mono ?_
        rintro e w2 ⟨rfl, rfl⟩
        clear HFX
        go_wp2
        go_ret
        exact ⟨rfl, B0.out⟩
      · have HT2 : Hid (∀ y ∈ L.take (j + 1), y ∉ M) := Lib.hid (fun y hy => by
          rw [List.take_add_one, X1.out] at hy
          rcases List.mem_append.1 hy with hy | hy
          · exact HT.out y hy
          · simp at hy; subst hy; exact hx)
        rw [findI_miss hx] at HFX
        clear hx
        go_wp2_with fail
        refine HFX.out.mono ?_
        rintro e w2 ⟨rfl, rfl⟩
        clear HFX e1
        go_wp2
        go_roundw
        case rel => exact ⟨j + 1, by omega, by go_num, HT2, trivial⟩
        case measure => simp [intOf]; omega
    · obtain rfl : j = n := by omega
      have hyf : yb = false := by
        rw [HY.out]
        cases hb : meetI L M with
        | false => rfl
        | true =>
          obtain ⟨y, h1, h2⟩ := meetI_iff.1 hb
          exact absurd h2 (HT.out y (by rw [List.take_of_length_le (by rw [← HN.out]; exact Nat.le_refl _)]; exact h1))
      subst hyf
      go_wp2
      go_ret
      exact ⟨rfl, B0.out⟩
theorem nbrTo_step (ts : List TenE) (k j : Nat) : nbrTo ts k (j + 1) = if j ≠ k ∧ meetI (ts.getD j ([], [], [])).1 (ts.getD k ([], [], [])).1 = true then nbrTo ts k j ++ [(j : Int)] else nbrTo ts k j := by
  unfold nbrTo
  rw [List.range_succ, List.filter_append, List.map_append]
  by_cases h : j ≠ k ∧ meetI (ts.getD j ([], [], [])).1 (ts.getD k ([], [], [])).1 = true
  · rw [if_pos h]
    have : (decide (j ≠ k) && meetI (ts.getD j ([], [], [])).1 (ts.getD k ([], [], [])).1) = true := by rw [Bool.and_eq_true]; exact ⟨decide_eq_true h.1, h.2⟩
    rw [List.filter_cons_of_pos (p := fun i => decide (i ≠ k) && meetI (ts.getD i ([], [], [])).1 (ts.getD k ([], [], [])).1) this]
    rfl
  · rw [if_neg h]
    have : ¬ (decide (j ≠ k) && meetI (ts.getD j ([], [], [])).1 (ts.getD k ([], [], [])).1) = true := fun q => h (by rw [Bool.and_eq_true] at q; exact ⟨of_decide_eq_true q.1, q.2⟩)
    rw [List.filter_cons_of_neg (p := fun i => decide (i ≠ k) && meetI (ts.getD i ([], [], [])).1 (ts.getD k ([], [], [])).1) this]
    simp
set_option maxHeartbeats 6400000 in
theorem neighbors_of_spec {B B' : Nat} {tv ov : Value} {k p q x : Int} {ts : List TenE} {O : List Int} {w : World} (h : RdTs B w tv ts) (ho : Rd B' w ov (ints O)) (hcap : ∀ a n c, tv = .slice a n c → n ≤ c) (hB : B ≤ w.heap.size) (hB' : B' ≤ w.heap.size) (hn : LenTs ts) (hO : O.length ≤ 1048576) :
    Calls Try.prog 30 #[netV k p q tv ov, .int .i64 x] w (NewRow w (nbrL k p q ts O x)) := by
  obtain ⟨i0, hi0, hz0, hz1, hz2⟩ := info_parts infoInt
  have J0 := Lib.hid hi0
  have J1 := Lib.hid hz0
  have J2 := Lib.hid hz1
  have J3 := Lib.hid hz2
  obtain ⟨a, cap, rfl⟩ := h.form
  obtain ⟨ao, co, rfl, -⟩ := ints_form ho
  obtain ⟨W0, hW0⟩ : ∃ V, V = w.alloc (.cells #[.int .i64 k, .int .i64 p, .int .i64 q, .slice a ts.length cap, .slice ao O.length co] 33) := ⟨_, rfl⟩
  have hb0 : Below w.heap.size w W0 := by rw [hW0]; exact (Below.refl _ _).alloc (Nat.le_refl _) _
  have N0 : Hid (B5 W0 w.heap.size (.int .i64 k) (.int .i64 p) (.int .i64 q) (.slice a ts.length cap) (.slice ao O.length co)) := Lib.hid (by rw [hW0]; exact B5.new _ _ _ _ _ _ _)
  have HW0 := Lib.hid hW0
  have B0 := Lib.hid hb0
  have HT := Lib.hid ((h.mono hB).below hb0 (Nat.le_refl _) |>.mono hb0.size)
  have HNO := Lib.hid (net_ok_spec (k := k) (p := p) (q := q) (w := W0) HT.out ((ho.mono hB').below hb0 (Nat.le_refl _) |>.mono hb0.size) hcap (Nat.le_refl _) (Nat.le_refl _) hn hO)
  have HLN := Lib.hid hn
  obtain ⟨m, hm⟩ : ∃ m, m = O.length := ⟨_, rfl⟩
  obtain ⟨n, hnn⟩ : ∃ n, n = ts.length := ⟨_, rfl⟩
  rw [← hm] at N0 HW0 HNO
  rw [← hnn] at N0 HW0 HNO HT
  rw [← hm, ← hnn]
  have HN := Lib.hid hnn
  have hn1 : n ≤ 1048576 := by rw [hnn]; exact hn.1
  obtain ⟨yl, hyl⟩ : ∃ y, y = nbrL k p q ts O x := ⟨_, rfl⟩
  rw [← hyl]
  have HYL := Lib.hid hyl
  obtain ⟨c0, c1, c2, c3, c4, -⟩ := N0.out
  have hw1 : IntKind.i64.wrap ((n : Int) - 1) = n - 1 := IntWalk.i64_in _ (by omega)
  clear h ho hB hB' hn hO hb0 hm hnn hW0 hcap hyl hi0 hz0 hz1 hz2
  go_enter Try.func30, Try.ntmps30
  go_upto_region 1 with fail
  rw [← HW0.out]
  clear HW0
  cases hb : netB k p q ts O with
  | false =>
    have HF : Hid (yl = []) := Lib.hid (by rw [HYL.out]; exact nbr_no fun h => by rw [netB_true.2 h.1] at hb; cases hb)
    rw [hb] at HNO
    clear hb
    go_wp2_with fail
    refine HNO.out.mono ?_
    rintro e w2 ⟨rfl, hb2⟩
    have B2 := Lib.hid (B0.out.trans (hb2.mono B0.out.size))
    clear hb2 HNO c0 c1 c2 c3 c4
    go_wp2
    go_ret
    exact ⟨_, rfl, by rw [HF.out]; exact Own.nil _ _, B2.out⟩
  | true =>
    have HVT := Lib.hid (netB_true.1 hb)
    rw [hb] at HNO
    clear hb
    go_wp2_with fail
    refine HNO.out.mono ?_
    rintro e w2 ⟨rfl, hb2⟩
    have N2 := Lib.hid (N0.out.step hb2)
    have HB2 := Lib.hid hb2
    clear hb2 HNO c0 c1 c2 c3 c4
    obtain ⟨c0, c1, c2, c3, c4, -⟩ := N2.out
    by_cases hx : 0 ≤ x ∧ x ≤ (n : Int) - 1
    · have HIN : Hid (inB x 0 ((n : Int) - 1) = true) := Lib.hid (inB_true.2 hx)
      obtain ⟨kk, hkk⟩ : ∃ kk : Nat, x = (kk : Int) := ⟨x.toNat, by omega⟩
      subst hkk
      have hkn : kk < n := by omega
      have HF : Hid (yl = nbrTo ts kk ts.length) := Lib.hid (by
        have h1 := nbr_yes (O := O) (x := (kk : Int)) HVT.out ⟨by omega, by rw [← HN.out]; omega⟩
        rw [HYL.out, h1]; simp)
      have HTS := Lib.hid ((HT.out.below HB2.out (Nat.le_refl _)).mono HB2.out.size)
      obtain ⟨⟨L', D', X'⟩, T2⟩ : ∃ t, Hid (ts[kk]? = some t) := ⟨_, List.getElem?_eq_getElem (by rw [← HN.out]; exact hkn)⟩
      obtain ⟨bk, ok, p1, r1, p2, r2, p3, r3, rfl, hbk, g0, g1, g2, hU⟩ := HTS.out.at T2.out
      dsimp only at g0 g1 g2 hU
      have HU := Lib.hid hU.l
      have hlu := HLN.out.2 _ (List.mem_of_getElem? T2.out)
      have HLU := Lib.hid hlu.l
      obtain ⟨nL, hnL⟩ : ∃ m, m = L'.length := ⟨_, rfl⟩
      obtain ⟨nD, hnD⟩ : ∃ m, m = D'.length := ⟨_, rfl⟩
      obtain ⟨nX, hnX⟩ : ∃ m, m = X'.length := ⟨_, rfl⟩
      rw [← hnL] at g0 HU
      rw [← hnD] at g1
      rw [← hnX] at g2
      have HK : Hid (∀ W, Below w2.heap.size w2 W → W.cell? ⟨bk, ok + kk * 3, none⟩ = some (.slice p1 nL r1) ∧ W.cell? ⟨bk, ok + kk * 3 + 1, none⟩ = some (.slice p2 nD r2) ∧ W.cell? ⟨bk, ok + kk * 3 + 2, none⟩ = some (.slice p3 nX r3)) := Lib.hid (fun W h =>
        ⟨(h.cell (p := ⟨bk, ok + kk * 3, none⟩) hbk).trans g0, (h.cell (p := ⟨bk, ok + kk * 3 + 1, none⟩) hbk).trans g1, (h.cell (p := ⟨bk, ok + kk * 3 + 2, none⟩) hbk).trans g2⟩)
      have RL : Hid (Rs w2 (w2.alloc (.cells #[] 3)) [] [(.slice (some ⟨w2.heap.size, 0, none⟩) 0 0, nbrTo ts kk 0)]) := Lib.hid (Rs.start w2).lit
      clear hx hU hlu hnL hnD hnX hbk g0 g1 g2
      go_wp2_with fail
      refine (l01_in (kk : Int) 0 ((n : Int) - 1) _).mono ?_
      rintro e w3 ⟨rfl, rfl⟩
      rw [HIN.out]
      go_wp2
      go_loopw [5, 24] (fun u i wr => ∃ (j z : Nat) (ga : Option Addr) (ca : Nat), j ≤ n ∧ z ≤ j ∧ u = .slice ga z ca ∧ i = .int .i64 j ∧ Hid ((nbrTo ts kk j).length = z) ∧ Hid (Rs w2 wr [] [(.slice ga z ca, nbrTo ts kk j)])) (fun _ i _ => n - (intOf i).toNat)
      case atStart => exact ⟨0, 0, _, 0, by omega, by omega, rfl, rfl, Lib.hid rfl, RL⟩
      case round =>
        clear RL c0 c1 c2 c3 c4
        obtain ⟨j, z, ga, ca, hj, hzj, rfl, rfl, HZ, HR⟩ := hrel
        by_cases hlt : j < n
        · obtain ⟨⟨L, D, X⟩, T1⟩ : ∃ t, Hid (ts[j]? = some t) := ⟨_, List.getElem?_eq_getElem (by rw [← HN.out]; exact hlt)⟩
          obtain ⟨b', off, a1, d1, a2, d2, a3, d3, hbo, hbw, k0, k1, k2, hT⟩ := HTS.out.at T1.out
          obtain ⟨rfl, rfl⟩ : bk = b' ∧ ok = off := by injection hbo with h; injection h with h1 h2; exact ⟨h1, h2⟩
          dsimp only at k0 k1 k2 hT
          have k0 := (HR.out.bel.cell (p := ⟨bk, ok + j * 3, none⟩) hbw).trans k0
          have k1 := (HR.out.bel.cell (p := ⟨bk, ok + j * 3 + 1, none⟩) hbw).trans k1
          have k2 := (HR.out.bel.cell (p := ⟨bk, ok + j * 3 + 2, none⟩) hbw).trans k2
          have HTL := Lib.hid hT.l
          have HLL := Lib.hid (HLN.out.2 _ (List.mem_of_getElem? T1.out)).l
          have HST : Hid (nbrTo ts kk (j + 1) = if j ≠ kk ∧ meetI L L' = true then nbrTo ts kk j ++ [(j : Int)] else nbrTo ts kk j) := Lib.hid (by
            have h1 := nbrTo_step ts kk j
            rw [List.getD_eq_getElem?_getD, List.getD_eq_getElem?_getD, T1.out, T2.out] at h1
            exact h1)
          obtain ⟨mL, hmL⟩ : ∃ m, m = L.length := ⟨_, rfl⟩
          obtain ⟨mD, hmD⟩ : ∃ m, m = D.length := ⟨_, rfl⟩
          obtain ⟨mX, hmX⟩ : ∃ m, m = X.length := ⟨_, rfl⟩
          rw [← hmL] at k0 HTL
          rw [← hmD] at k1
          rw [← hmX] at k2
          have HML := Lib.hid hmL
          obtain ⟨bt, hbt⟩ : ∃ b, b = wr.heap.size := ⟨_, rfl⟩
          obtain ⟨WB, hWB⟩ : ∃ W, W = wr.alloc (.cells #[.slice a1 mL d1, .slice a2 mD d2, .slice a3 mX d3] 55) := ⟨_, rfl⟩
          have RB : Hid (Rs w2 WB [(bt, .slice a1 mL d1, .slice a2 mD d2, .slice a3 mX d3)] [(.slice ga z ca, nbrTo ts kk j)]) := Lib.hid (by rw [hWB, hbt]; exact HR.out.box _ _ _ _)
          have HWB := Lib.hid hWB
          have HBT := Lib.hid hbt
          have HS : Hid (∀ (W : World) (rows : List RowE), Rs w2 W [(bt, .slice a1 mL d1, .slice a2 mD d2, .slice a3 mX d3)] rows → (W.cell? ⟨bt, 0, none⟩ = some (.slice a1 mL d1) ∧ W.cell? ⟨bt, 1, none⟩ = some (.slice a2 mD d2) ∧ W.cell? ⟨bt, 2, none⟩ = some (.slice a3 mX d3) ∧ W.cell? ⟨w.heap.size, 3, none⟩ = some (.slice (some ⟨bk, ok, none⟩) n cap) ∧ W.cell? ⟨bk, ok + kk * 3, none⟩ = some (.slice p1 nL r1) ∧ W.cell? ⟨bk, ok + kk * 3 + 1, none⟩ = some (.slice p2 nD r2) ∧ W.cell? ⟨bk, ok + kk * 3 + 2, none⟩ = some (.slice p3 nX r3))) := Lib.hid (fun W rows h => by
            obtain ⟨q0, q1, q2⟩ := HK.out W h.bel
            obtain ⟨⟨t0, t1, t2⟩, -⟩ := h.at (List.mem_cons_self)
            have q3 := (N2.out.step h.bel).c3
            exact ⟨t0, t1, t2, q3, q0, q1, q2⟩)
          clear hT hmL hmD hmX hWB hbw HR hbo hbt
          by_cases hjk : j = kk
          · have e1 : ((j : Int) != (kk : Int)) = false := by simp; omega
            have HE : Hid (nbrTo ts kk (j + 1) = nbrTo ts kk j) := Lib.hid (by rw [HST.out, if_neg fun h => h.1 hjk])
            have HJK := Lib.hid hjk
            clear hjk
            go_wp2
            rw [← HWB.out, ← HBT.out]
            clear HWB k0 k1 k2
            have RX : Hid ((WB.drew.cell? ⟨bt, 0, none⟩ = some (.slice a1 mL d1) ∧ WB.drew.cell? ⟨bt, 1, none⟩ = some (.slice a2 mD d2) ∧ WB.drew.cell? ⟨bt, 2, none⟩ = some (.slice a3 mX d3) ∧ WB.drew.cell? ⟨w.heap.size, 3, none⟩ = some (.slice (some ⟨bk, ok, none⟩) n cap) ∧ WB.drew.cell? ⟨bk, ok + kk * 3, none⟩ = some (.slice p1 nL r1) ∧ WB.drew.cell? ⟨bk, ok + kk * 3 + 1, none⟩ = some (.slice p2 nD r2) ∧ WB.drew.cell? ⟨bk, ok + kk * 3 + 2, none⟩ = some (.slice p3 nX r3)) ∧ Rs w2 WB.drew [(bt, .slice a1 mL d1, .slice a2 mD d2, .slice a3 mX d3)] [(.slice ga z ca, nbrTo ts kk j)]) := Lib.hid ⟨HS.out _ _ RB.out.drew, RB.out.drew⟩
            clear RB
            refine wp_region_held_drew (S := (fun w' => w'.cell? ⟨bt, 0, none⟩ = some (.slice a1 mL d1) ∧ w'.cell? ⟨bt, 1, none⟩ = some (.slice a2 mD d2) ∧ w'.cell? ⟨bt, 2, none⟩ = some (.slice a3 mX d3) ∧ w'.cell? ⟨w.heap.size, 3, none⟩ = some (.slice (some ⟨bk, ok, none⟩) n cap) ∧ w'.cell? ⟨bk, ok + kk * 3, none⟩ = some (.slice p1 nL r1) ∧ w'.cell? ⟨bk, ok + kk * 3 + 1, none⟩ = some (.slice p2 nD r2) ∧ w'.cell? ⟨bk, ok + kk * 3 + 2, none⟩ = some (.slice p3 nX r3))) (by kernel_rfl) (by (try dsimp only); with_reducible exact RX.out.1) (fun hHeld => ?_)
            obtain ⟨WX, hW⟩ : ∃ W, W = WB.drew := ⟨_, rfl⟩
            rw [← hW] at hHeld RX ⊢
            clear hW
            refine wpAnyH_take (i := 0) (v := ?_) rfl (by kernel_rfl) (by kernel_rfl) (by kernel_rfl) (fun _ _ _ h => h) (Or.inl ⟨by rfl, ?_⟩) (by assumption) ?_
            rotate_left
            · intro w hSw; (try dsimp only at hSw); go_simp <;> with_reducible rfl
            try simp only [Act.put, List.getElem_toArray, List.getElem_cons_zero, List.setIfInBounds_toArray, List.set_cons_zero, List.set_cons_succ]
            refine wpAnyH_take (i := 1) (v := ?_) rfl (by kernel_rfl) (by kernel_rfl) (by kernel_rfl) (fun _ _ _ h => h) (Or.inl ⟨by rfl, ?_⟩) (by assumption) ?_
            rotate_left
            · intro w hSw; (try dsimp only at hSw); go_simp <;> with_reducible rfl
            try simp only [Act.put, List.getElem_toArray, List.getElem_cons_succ, List.getElem_cons_zero, List.setIfInBounds_toArray, List.set_cons_zero, List.set_cons_succ]
            refine wpAnyH_take (i := 2) (v := ?_) rfl (by kernel_rfl) (by kernel_rfl) (by kernel_rfl) (fun _ _ _ h => h) (Or.inl ⟨by rfl, ?_⟩) (by assumption) ?_
            rotate_left
            · intro w hSw; (try dsimp only at hSw); go_simp <;> with_reducible rfl
            try simp only [Act.put, List.getElem_toArray, List.getElem_cons_succ, List.getElem_cons_zero, List.setIfInBounds_toArray, List.set_cons_zero, List.set_cons_succ]
            refine wpAnyH_take (i := 3) (v := ?_) rfl (by kernel_rfl) (by kernel_rfl) (by kernel_rfl) (fun _ _ _ h => h) (Or.inl ⟨by rfl, ?_⟩) (by assumption) ?_
            rotate_left
            · intro w hSw; (try dsimp only at hSw); go_simp <;> with_reducible rfl
            try simp only [Act.put, List.getElem_toArray, List.getElem_cons_succ, List.getElem_cons_zero, List.setIfInBounds_toArray, List.set_cons_zero, List.set_cons_succ]
            refine wpAnyH_take (i := 4) (v := undef) rfl (by kernel_rfl) (by kernel_rfl) (by kernel_rfl) (fun _ _ _ h => h) (Or.inr ⟨by rfl, rfl⟩) (by assumption) ?_
            try simp only [Act.put, List.getElem_toArray, List.getElem_cons_succ, List.getElem_cons_zero, List.setIfInBounds_toArray, List.set_cons_zero, List.set_cons_succ]
            refine wpAnyH_take (i := 5) (v := undef) rfl (by kernel_rfl) (by kernel_rfl) (by kernel_rfl) (fun _ _ _ h => h) (Or.inr ⟨by rfl, rfl⟩) (by assumption) ?_
            try simp only [Act.put, List.getElem_toArray, List.getElem_cons_succ, List.getElem_cons_zero, List.setIfInBounds_toArray, List.set_cons_zero, List.set_cons_succ]
            refine wpAnyH_take (i := 6) (v := undef) rfl (by kernel_rfl) (by kernel_rfl) (by kernel_rfl) (fun _ _ _ h => h) (Or.inr ⟨by rfl, rfl⟩) (by assumption) ?_
            try simp only [Act.put, List.getElem_toArray, List.getElem_cons_succ, List.getElem_cons_zero, List.setIfInBounds_toArray, List.set_cons_zero, List.set_cons_succ]
            refine wpAnyH_take (i := 7) (v := undef) rfl (by kernel_rfl) (by kernel_rfl) (by kernel_rfl) (fun _ _ _ h => h) (Or.inr ⟨by rfl, rfl⟩) (by assumption) ?_
            try simp only [Act.put, List.getElem_toArray, List.getElem_cons_succ, List.getElem_cons_zero, List.setIfInBounds_toArray, List.set_cons_zero, List.set_cons_succ]
            refine wpAnyH_take (i := 8) (v := undef) rfl (by kernel_rfl) (by kernel_rfl) (by kernel_rfl) (fun _ _ _ h => h) (Or.inr ⟨by rfl, rfl⟩) (by assumption) ?_
            try simp only [Act.put, List.getElem_toArray, List.getElem_cons_succ, List.getElem_cons_zero, List.setIfInBounds_toArray, List.set_cons_zero, List.set_cons_succ]
            refine wpAnyH_take (i := 9) (v := undef) rfl (by kernel_rfl) (by kernel_rfl) (by kernel_rfl) (fun _ _ _ h => h) (Or.inr ⟨by rfl, rfl⟩) (by assumption) ?_
            try simp only [Act.put, List.getElem_toArray, List.getElem_cons_succ, List.getElem_cons_zero, List.setIfInBounds_toArray, List.set_cons_zero, List.set_cons_succ]
            refine wpAnyH_take (i := 10) (v := undef) rfl (by kernel_rfl) (by kernel_rfl) (by kernel_rfl) (fun _ _ _ h => h) (Or.inr ⟨by rfl, rfl⟩) (by assumption) ?_
            try simp only [Act.put, List.getElem_toArray, List.getElem_cons_succ, List.getElem_cons_zero, List.setIfInBounds_toArray, List.set_cons_zero, List.set_cons_succ]
            refine wpAnyH_take (i := 11) (v := ?_) rfl (by kernel_rfl) (by kernel_rfl) (by kernel_rfl) (fun _ _ _ h => h) (Or.inl ⟨by rfl, ?_⟩) (by assumption) ?_
            rotate_left
            · intro w hSw; (try dsimp only at hSw); go_simp <;> with_reducible rfl
            try simp only [Act.put, List.getElem_toArray, List.getElem_cons_succ, List.getElem_cons_zero, List.setIfInBounds_toArray, List.set_cons_zero, List.set_cons_succ]
            refine wpAnyH_done (by kernel_rfl) ?_ _
            have R8 := Lib.hid (RX.out.2.subB (List.nil_sublist _))
            rw [← HE.out] at R8
            have HZ6 : Hid ((nbrTo ts kk (j + 1)).length = z) := Lib.hid (by rw [HE.out, HZ.out])
            clear RX hHeld
            go_wp2
            go_roundw
            case rel => exact ⟨j + 1, z, ga, ca, by omega, by omega, rfl, by go_num, HZ6, R8⟩
            case measure => simp [intOf]; omega
          · have e1 : ((j : Int) != (kk : Int)) = true := by simp; omega
            have HJK := Lib.hid hjk
            obtain ⟨mb, hmb⟩ : ∃ b, b = meetI L L' := ⟨_, rfl⟩
            have HMB := Lib.hid hmb
            clear hjk hmb
            go_wp2
            rw [← HWB.out, ← HBT.out]
            clear HWB k0 k1 k2
            have RX : Hid ((WB.drew.cell? ⟨bt, 0, none⟩ = some (.slice a1 mL d1) ∧ WB.drew.cell? ⟨bt, 1, none⟩ = some (.slice a2 mD d2) ∧ WB.drew.cell? ⟨bt, 2, none⟩ = some (.slice a3 mX d3) ∧ WB.drew.cell? ⟨w.heap.size, 3, none⟩ = some (.slice (some ⟨bk, ok, none⟩) n cap) ∧ WB.drew.cell? ⟨bk, ok + kk * 3, none⟩ = some (.slice p1 nL r1) ∧ WB.drew.cell? ⟨bk, ok + kk * 3 + 1, none⟩ = some (.slice p2 nD r2) ∧ WB.drew.cell? ⟨bk, ok + kk * 3 + 2, none⟩ = some (.slice p3 nX r3)) ∧ Rs w2 WB.drew [(bt, .slice a1 mL d1, .slice a2 mD d2, .slice a3 mX d3)] [(.slice ga z ca, nbrTo ts kk j)]) := Lib.hid ⟨HS.out _ _ RB.out.drew, RB.out.drew⟩
            clear RB
            refine wp_region_held_drew (S := (fun w' => w'.cell? ⟨bt, 0, none⟩ = some (.slice a1 mL d1) ∧ w'.cell? ⟨bt, 1, none⟩ = some (.slice a2 mD d2) ∧ w'.cell? ⟨bt, 2, none⟩ = some (.slice a3 mX d3) ∧ w'.cell? ⟨w.heap.size, 3, none⟩ = some (.slice (some ⟨bk, ok, none⟩) n cap) ∧ w'.cell? ⟨bk, ok + kk * 3, none⟩ = some (.slice p1 nL r1) ∧ w'.cell? ⟨bk, ok + kk * 3 + 1, none⟩ = some (.slice p2 nD r2) ∧ w'.cell? ⟨bk, ok + kk * 3 + 2, none⟩ = some (.slice p3 nX r3))) (by kernel_rfl) (by (try dsimp only); with_reducible exact RX.out.1) (fun hHeld => ?_)
            obtain ⟨WX, hW⟩ : ∃ W, W = WB.drew := ⟨_, rfl⟩
            rw [← hW] at hHeld RX ⊢
            clear hW
            refine wpAnyH_take (i := 0) (v := ?_) rfl (by kernel_rfl) (by kernel_rfl) (by kernel_rfl) (fun _ _ _ h => h) (Or.inl ⟨by rfl, ?_⟩) (by assumption) ?_
            rotate_left
            · intro w hSw; (try dsimp only at hSw); go_simp <;> with_reducible rfl
            try simp only [Act.put, List.getElem_toArray, List.getElem_cons_zero, List.setIfInBounds_toArray, List.set_cons_zero, List.set_cons_succ]
            refine wpAnyH_take (i := 1) (v := ?_) rfl (by kernel_rfl) (by kernel_rfl) (by kernel_rfl) (fun _ _ _ h => h) (Or.inl ⟨by rfl, ?_⟩) (by assumption) ?_
            rotate_left
            · intro w hSw; (try dsimp only at hSw); go_simp <;> with_reducible rfl
            try simp only [Act.put, List.getElem_toArray, List.getElem_cons_succ, List.getElem_cons_zero, List.setIfInBounds_toArray, List.set_cons_zero, List.set_cons_succ]
            refine wpAnyH_take (i := 2) (v := ?_) rfl (by kernel_rfl) (by kernel_rfl) (by kernel_rfl) (fun _ _ _ h => h) (Or.inl ⟨by rfl, ?_⟩) (by assumption) ?_
            rotate_left
            · intro w hSw; (try dsimp only at hSw); go_simp <;> with_reducible rfl
            try simp only [Act.put, List.getElem_toArray, List.getElem_cons_succ, List.getElem_cons_zero, List.setIfInBounds_toArray, List.set_cons_zero, List.set_cons_succ]
            refine wpAnyH_take (i := 3) (v := ?_) rfl (by kernel_rfl) (by kernel_rfl) (by kernel_rfl) (fun _ _ _ h => h) (Or.inl ⟨by rfl, ?_⟩) (by assumption) ?_
            rotate_left
            · intro w hSw; (try dsimp only at hSw); go_simp <;> with_reducible rfl
            try simp only [Act.put, List.getElem_toArray, List.getElem_cons_succ, List.getElem_cons_zero, List.setIfInBounds_toArray, List.set_cons_zero, List.set_cons_succ]
            refine wpAnyH_take (i := 4) (v := ?_) rfl (by kernel_rfl) (by kernel_rfl) (by kernel_rfl) (fun _ _ _ h => h) (Or.inl ⟨by rfl, ?_⟩) (by assumption) ?_
            rotate_left
            · intro w hSw; (try dsimp only at hSw); go_simp <;> with_reducible rfl
            try simp only [Act.put, List.getElem_toArray, List.getElem_cons_succ, List.getElem_cons_zero, List.setIfInBounds_toArray, List.set_cons_zero, List.set_cons_succ]
            refine wpAnyH_take (i := 5) (v := ?_) rfl (by kernel_rfl) (by kernel_rfl) (by kernel_rfl) (fun _ _ _ h => h) (Or.inl ⟨by rfl, ?_⟩) (by assumption) ?_
            rotate_left
            · intro w hSw; (try dsimp only at hSw); go_simp <;> with_reducible rfl
            try simp only [Act.put, List.getElem_toArray, List.getElem_cons_succ, List.getElem_cons_zero, List.setIfInBounds_toArray, List.set_cons_zero, List.set_cons_succ]
            refine wpAnyH_take (i := 6) (v := ?_) rfl (by kernel_rfl) (by kernel_rfl) (by kernel_rfl) (fun _ _ _ h => h) (Or.inl ⟨by rfl, ?_⟩) (by assumption) ?_
            rotate_left
            · intro w hSw; (try dsimp only at hSw); go_simp <;> with_reducible rfl
            try simp only [Act.put, List.getElem_toArray, List.getElem_cons_succ, List.getElem_cons_zero, List.setIfInBounds_toArray, List.set_cons_zero, List.set_cons_succ]
            refine wpAnyH_take (i := 7) (v := ?_) rfl (by kernel_rfl) (by kernel_rfl) (by kernel_rfl) (fun _ _ _ h => h) (Or.inl ⟨by rfl, ?_⟩) (by assumption) ?_
            rotate_left
            · intro w hSw; (try dsimp only at hSw); go_simp <;> with_reducible rfl
            try simp only [Act.put, List.getElem_toArray, List.getElem_cons_succ, List.getElem_cons_zero, List.setIfInBounds_toArray, List.set_cons_zero, List.set_cons_succ]
            refine wpAnyH_take (i := 8) (v := ?_) rfl (by kernel_rfl) (by kernel_rfl) (by kernel_rfl) (fun _ _ _ h => h) (Or.inl ⟨by rfl, ?_⟩) (by assumption) ?_
            rotate_left
            · intro w hSw; (try dsimp only at hSw); go_simp <;> with_reducible rfl
            try simp only [Act.put, List.getElem_toArray, List.getElem_cons_succ, List.getElem_cons_zero, List.setIfInBounds_toArray, List.set_cons_zero, List.set_cons_succ]
            refine wpAnyH_take (i := 9) (v := ?_) rfl (by kernel_rfl) (by kernel_rfl) (by kernel_rfl) (fun _ _ _ h => h) (Or.inl ⟨by rfl, ?_⟩) (by assumption) ?_
            rotate_left
            · intro w hSw; (try dsimp only at hSw); go_simp <;> with_reducible rfl
            try simp only [Act.put, List.getElem_toArray, List.getElem_cons_succ, List.getElem_cons_zero, List.setIfInBounds_toArray, List.set_cons_zero, List.set_cons_succ]
            apply share1 (F := fun (WX : World) => Hid ((WX.cell? ⟨bt, 0, none⟩ = some (.slice a1 mL d1) ∧ WX.cell? ⟨bt, 1, none⟩ = some (.slice a2 mD d2) ∧ WX.cell? ⟨bt, 2, none⟩ = some (.slice a3 mX d3) ∧ WX.cell? ⟨w.heap.size, 3, none⟩ = some (.slice (some ⟨bk, ok, none⟩) n cap) ∧ WX.cell? ⟨bk, ok + kk * 3, none⟩ = some (.slice p1 nL r1) ∧ WX.cell? ⟨bk, ok + kk * 3 + 1, none⟩ = some (.slice p2 nD r2) ∧ WX.cell? ⟨bk, ok + kk * 3 + 2, none⟩ = some (.slice p3 nX r3)) ∧ Rs w2 WX [(bt, .slice a1 mL d1, .slice a2 mD d2, .slice a3 mX d3)] [(.slice ga z ca, nbrTo ts kk j)]))
            intro K10
            focus
              refine wpAnyH_ready (rs := [10]) (by kernel_rfl) (by simp) ?_
              refine AllReadyH.cons rfl (fun K hK => ?_) AllReadyH.nil
              focus
                (go_simp; refine (meet_spec (HTL.out.below RX.out.2.bel (Nat.le_refl _)) (HU.out.below RX.out.2.bel (Nat.le_refl _)) RX.out.2.bel.size RX.out.2.bel.size HLL.out HLU.out).mono ?_; rw [← HMB.out]; rintro e WY ⟨rfl, hb⟩; have RY := RX.out.2.step hb; clear hb; replace RX : Hid ((WY.cell? ⟨bt, 0, none⟩ = some (.slice a1 mL d1) ∧ WY.cell? ⟨bt, 1, none⟩ = some (.slice a2 mD d2) ∧ WY.cell? ⟨bt, 2, none⟩ = some (.slice a3 mX d3) ∧ WY.cell? ⟨w.heap.size, 3, none⟩ = some (.slice (some ⟨bk, ok, none⟩) n cap) ∧ WY.cell? ⟨bk, ok + kk * 3, none⟩ = some (.slice p1 nL r1) ∧ WY.cell? ⟨bk, ok + kk * 3 + 1, none⟩ = some (.slice p2 nD r2) ∧ WY.cell? ⟨bk, ok + kk * 3 + 2, none⟩ = some (.slice p3 nX r3)) ∧ Rs w2 WY [(bt, .slice a1 mL d1, .slice a2 mD d2, .slice a3 mX d3)] [(.slice ga z ca, nbrTo ts kk j)]) := Lib.hid ⟨HS.out _ _ RY, RY⟩; clear RY; obtain ⟨WX, hW⟩ : ∃ W, W = WY := ⟨_, rfl⟩; rw [← hW] at RX ⊢; clear hW; change K _ _)
                refine hK.out _ _ (by (try dsimp only); with_reducible exact RX.out.1) (fun hHeld => ?_)
                clear hK K
                try simp only [Act.put, List.getElem_toArray, List.getElem_cons_succ, List.getElem_cons_zero, List.setIfInBounds_toArray, List.set_cons_zero, List.set_cons_succ]
                refine wpAnyH_take (i := 11) (v := ?_) rfl (by kernel_rfl) (by kernel_rfl) (by kernel_rfl) (fun _ _ _ h => h) (Or.inl ⟨by rfl, ?_⟩) (by assumption) ?_
                rotate_left
                · intro w hSw; (try dsimp only at hSw); go_simp <;> with_reducible rfl
                try simp only [Act.put, List.getElem_toArray, List.getElem_cons_succ, List.getElem_cons_zero, List.setIfInBounds_toArray, List.set_cons_zero, List.set_cons_succ]
                exact K10.out WX RX
            intro WX RX
            refine wpAnyH_done (by kernel_rfl) ?_ _
-- 1 states
            have R8 := Lib.hid (RX.out.2.subB (List.nil_sublist _))
            clear RX hHeld
            cases mb with
            | false =>
              have HE : Hid (nbrTo ts kk (j + 1) = nbrTo ts kk j) := Lib.hid (by rw [HST.out, if_neg fun h => by rw [← HMB.out] at h; cases h.2])
              rw [← HE.out] at R8
              have HZ6 : Hid ((nbrTo ts kk (j + 1)).length = z) := Lib.hid (by rw [HE.out, HZ.out])
              go_wp2
              go_roundw
              case rel => exact ⟨j + 1, z, ga, ca, by omega, by omega, rfl, by go_num, HZ6, R8⟩
              case measure => simp [intOf]; omega
            | true =>
              have HE : Hid (nbrTo ts kk j ++ [(j : Int)] = nbrTo ts kk (j + 1)) := Lib.hid (by rw [HST.out, if_pos ⟨HJK.out, HMB.out.symm⟩])
              have A5 := Lib.hid (R8.out.alloc (.cells #[.int .i64 (j : Int)] 3))
              have O5 := Lib.hid (A5.out.row (v := .slice ga z ca) (List.mem_cons_self) HZ.out)
              go_wp2_with (at_builtin; go_must (refine wpList_append_lies _ rfl _ _ 25 rfl w2.heap.size 3 i0 (.int .i64 0) 1 8 Try.underlying25 J0.out J1.out J2.out J3.out rfl (by decide) _ z (ints (nbrTo ts kk j)) rfl O5.out ⟨WX.heap.size, 0, none⟩ 1 1 [.int .i64 (j : Int)] rfl rfl (cell_one_new _ _ _) ?c2 (by decide) ?c3 ?c4 ?c5 _ rfl ?_))
              case c2 => first | rfl | (intro u hu; simp at hu; subst hu; rfl)
              case c3 => unfold maxLen; omega
              case c4 => omega
              case c5 => exact A5.out.bel.size
              intro g1 cap1 w5 hown hgrow hl1 _
              have hR5 := A5.out.app1 HZ.out hown hgrow (by rw [World.size_alloc]; exact hl1)
              rw [HE.out] at hR5
              have R6 := Lib.hid hR5
              have HZ6 : Hid ((nbrTo ts kk (j + 1)).length = z + 1) := Lib.hid (by rw [← HE.out, List.length_append, HZ.out]; rfl)
              clear hown hgrow hl1 hR5 A5 O5 R8
              go_wp2
              go_roundw
              case rel => exact ⟨j + 1, z + 1, some ⟨g1, 0, none⟩, cap1, by omega, by omega, rfl, by go_num, HZ6, R6⟩
              case measure => simp [intOf]; omega
        · obtain rfl : j = n := by omega
          rw [HN.out, ← HF.out] at HR
          have RES := Lib.hid (HR.out.own1 (List.mem_cons_self))
          have BB := Lib.hid ((B0.out.trans (HB2.out.mono B0.out.size)).trans (HR.out.bel.mono (B0.out.trans (HB2.out.mono B0.out.size)).size))
          have BS := Lib.hid (Nat.le_trans B0.out.size HB2.out.size)
          go_wp2
          go_ret
          exact ⟨_, rfl, RES.out.wide BS.out (Nat.le_refl _) (Nat.le_refl _), BB.out⟩
    · have HIN : Hid (inB x 0 ((n : Int) - 1) = false) := Lib.hid (by
        cases hq : inB x 0 ((n : Int) - 1) with
        | false => rfl
        | true => exact absurd (inB_true.1 hq) hx)
      have HF : Hid (yl = []) := Lib.hid (by rw [HYL.out]; exact nbr_no fun h => hx ⟨h.2.1, by have := h.2.2; rw [← HN.out] at this; omega⟩)
      have BE := Lib.hid (B0.out.trans (HB2.out.mono B0.out.size))
      clear hx
      go_wp2_with fail
      refine (l01_in x 0 ((n : Int) - 1) _).mono ?_
      rintro e w3 ⟨rfl, rfl⟩
      rw [HIN.out]
      clear c0 c1 c2 c3 c4
      go_wp2
      go_ret
      exact ⟨_, rfl, by rw [HF.out]; exact Own.nil _ _, BE.out⟩
end Go.Proofs.Ytdheakjjnaifkaa
