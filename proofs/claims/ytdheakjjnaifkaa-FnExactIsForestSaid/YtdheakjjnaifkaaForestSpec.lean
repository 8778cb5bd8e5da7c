
/- spec.IsForest. -/
import Derived.Test.YtdheakjjnaifkaaForestImpl
import Derived.Test.YtdheakjjnaifkaaPartsSpec
namespace Go.Proofs.Ytdheakjjnaifkaa
set_option maxRecDepth 20000
open Go.RowKit

set_option maxHeartbeats 6400000 in
theorem is_forest_spec {B B' : Nat} {tv ov : Value} {k p q : Int} {ts : List TenE} {O : List Int} {w : World} (h : RdTs B w tv ts) (ho : Rd B' w ov (ints O)) (hcap : ∀ a n c, tv = .slice a n c → n ≤ c) (hB : B ≤ w.heap.size) (hB' : B' ≤ w.heap.size) (hn : LenTs ts) (hO : O.length ≤ 1048576) :
    Calls Try.prog 37 #[netV k p q tv ov] w fun e w' => e = .returned (.bool (forestB k p q ts O)) ∧ Below w.heap.size w w' := by
  obtain ⟨a, cap, rfl⟩ := h.form
  obtain ⟨ao, co, rfl, -⟩ := ints_form ho
  obtain ⟨W0, hW0⟩ : ∃ V, V = w.alloc (.cells #[.int .i64 k, .int .i64 p, .int .i64 q, .slice a ts.length cap, .slice ao O.length co] 33) := ⟨_, rfl⟩
  have hb0 : Below w.heap.size w W0 := by rw [hW0]; exact (Below.refl _ _).alloc (Nat.le_refl _) _
  have N0 : Hid (B5 W0 w.heap.size (.int .i64 k) (.int .i64 p) (.int .i64 q) (.slice a ts.length cap) (.slice ao O.length co)) := Lib.hid (by rw [hW0]; exact B5.new _ _ _ _ _ _ _)
  have HW0 := Lib.hid hW0
  have B0 := Lib.hid hb0
  have HT := Lib.hid ((h.mono hB).below hb0 (Nat.le_refl _) |>.mono hb0.size)
  have HO := Lib.hid ((ho.mono hB').below hb0 (Nat.le_refl _) |>.mono hb0.size)
  have HNO := Lib.hid (net_ok_spec (k := k) (p := p) (q := q) (w := W0) HT.out HO.out hcap (Nat.le_refl _) (Nat.le_refl _) hn hO)
  have HPS := Lib.hid (fun (W : World) (hW : Below W0.heap.size W0 W) => parts_of_spec (k := k) (p := p) (q := q) (w := W) (HT.out.below hW (Nat.le_refl _)) (HO.out.below hW (Nat.le_refl _)) hcap hW.size hW.size hn hO)
  have HLN := Lib.hid hn
  obtain ⟨m, hm⟩ : ∃ m, m = O.length := ⟨_, rfl⟩
  obtain ⟨n, hnn⟩ : ∃ n, n = ts.length := ⟨_, rfl⟩
  rw [← hm] at N0 HW0 HNO HPS
  rw [← hnn] at N0 HW0 HNO HT HPS
  rw [← hm, ← hnn]
  have HN := Lib.hid hnn
  obtain ⟨yb, hyb⟩ : ∃ b, b = forestB k p q ts O := ⟨_, rfl⟩
  rw [← hyb]
  have HY := Lib.hid hyb
  obtain ⟨c0, c1, c2, c3, c4, -⟩ := N0.out
  clear h ho hB hB' hn hO hb0 hm hnn hW0 hcap hyb HO
  go_enter Try.func37, Try.ntmps37
  go_upto_region 1 with fail
  rw [← HW0.out]
  clear HW0
  cases hb : netB k p q ts O with
  | false =>
    have HF : Hid (yb = false) := Lib.hid (by rw [HY.out]; exact forest_no fun h => by rw [netB_true.2 h] at hb; cases hb)
    rw [hb] at HNO
    clear hb
    go_wp2_with fail
    refine HNO.out.mono ?_
    rintro e w2 ⟨rfl, hb2⟩
    have B2 := Lib.hid (B0.out.trans (hb2.mono B0.out.size))
    clear hb2 HNO c0 c1 c2 c3 c4
    go_wp2
    go_ret
    exact ⟨by rw [HF.out]; rfl, B2.out⟩
  | true =>
    have HV := Lib.hid (netB_true.1 hb)
    rw [hb] at HNO
    have hn12 : n ≤ 12 := by rw [HN.out]; exact HV.out.2.1
    have HF := Lib.hid (forest_ok HV.out)
    obtain ⟨P, hP⟩ : ∃ x, x = (partsL ts).length := ⟨_, rfl⟩
    have hP12 : P ≤ 12 := by rw [hP]; have := partsL_len ts; have := HN.out; omega
    have HPL := Lib.hid hP
    obtain ⟨l, hl⟩ : ∃ x, x = (labT ts).length := ⟨_, rfl⟩
    have hl100 : l ≤ 100 := by rw [hl]; exact labT_len ts
    have HL := Lib.hid hl
    clear hb hP hl
    go_wp2_with fail
    refine HNO.out.mono ?_
    rintro e w2 ⟨rfl, hb2⟩
    have HB2 := Lib.hid hb2
    have c3 := (N0.out.step hb2).c3
    clear hb2 HNO c0 c1 c2 c4
    go_wp2
    go_loopw [3, 12] (fun u i wr => ∃ (j s : Nat), j ≤ n ∧ s ≤ 12 * j ∧ i = .int .i64 j ∧ u = .int .i64 s ∧ Hid (s = edgesT (ts.take j)) ∧ Hid (Below W0.heap.size W0 wr)) (fun _ i _ => n - (intOf i).toNat)
    case atStart => exact ⟨0, 0, by omega, by omega, rfl, rfl, Lib.hid rfl, HB2⟩
    case round =>
      clear HB2 c3
      obtain ⟨j, s, hj, hs, rfl, rfl, HS, HW⟩ := hrel
      by_cases hlt : j < n
      · obtain ⟨⟨L, D, X⟩, T1⟩ : ∃ t, Hid (ts[j]? = some t) := ⟨_, List.getElem?_eq_getElem (by rw [← HN.out]; exact hlt)⟩
        obtain ⟨b', off, a1, d1, a2, d2, a3, d3, rfl, hbw, k0, k1, k2, hT⟩ := HT.out.at T1.out
        dsimp only at k0 k1 k2 hT
        have k0 := (HW.out.cell (p := ⟨b', off + j * 3, none⟩) hbw).trans k0
        have k1 := (HW.out.cell (p := ⟨b', off + j * 3 + 1, none⟩) hbw).trans k1
        have k2 := (HW.out.cell (p := ⟨b', off + j * 3 + 2, none⟩) hbw).trans k2
        have hax := HV.out.2.2.1.ax _ (List.mem_of_getElem? T1.out)
        dsimp only at hax
        obtain ⟨mL, hmL⟩ : ∃ m, m = L.length := ⟨_, rfl⟩
        have hl12 : mL ≤ 12 := by rw [hmL]; exact hax.1
        have HS2 : Hid (s + mL = edgesT (ts.take (j + 1))) := Lib.hid (by rw [edges_step T1.out, hmL, HS.out])
        have HW2 := Lib.hid (HW.out.alloc HW.out.size (.cells #[.slice a1 mL d1, .slice a2 D.length d2, .slice a3 X.length d3] 55))
        have hw : IntKind.i64.wrap ((s : Int) + (mL : Int)) = ((s + mL : Nat) : Int) := by rw [IntWalk.i64_in _ (by omega)]; omega
        have hw' : IntKind.i64.wrap (((s + mL : Nat) : Int)) = ((s + mL : Nat) : Int) := IntWalk.i64_in _ (by omega)
        rw [← hmL] at k0
        clear hT hax hmL hbw
        go_wp2
        go_roundw
        case rel => exact ⟨j + 1, s + mL, by omega, by omega, by go_num, by first | rfl | rw [hw], HS2, HW2⟩
        case measure => simp [intOf]; omega
      · obtain rfl : n = j := by omega
        have e2 : ts.take n = ts := List.take_of_length_le (by rw [HN.out]; exact Nat.le_refl _)
        rw [e2] at HS
        obtain ⟨c0, c1, c2, c3, c4, -⟩ := N0.out.step HW.out
        have HWD := Lib.hid HW.out.drew
        have HLB := Lib.hid (labels_spec (w := wr.drew) (HT.out.below HWD.out (Nat.le_refl _)) HWD.out.size HLN.out HV.out.2.2.1.ax)
        have hw1 : IntKind.i64.wrap ((n : Int) + (l : Int)) = n + l := IntWalk.i64_in _ (by omega)
        have hw2 : IntKind.i64.wrap ((n : Int) + (l : Int) - (P : Int)) = n + l - P := IntWalk.i64_in _ (by omega)
        clear e2
        go_wp2
        go_region_held3 (fun W => W.cell? ⟨w.heap.size, 0, none⟩ = some (.int .i64 k) ∧ W.cell? ⟨w.heap.size, 1, none⟩ = some (.int .i64 p) ∧ W.cell? ⟨w.heap.size, 2, none⟩ = some (.int .i64 q) ∧ W.cell? ⟨w.heap.size, 3, none⟩ = some (.slice a n cap) ∧ W.cell? ⟨w.heap.size, 4, none⟩ = some (.slice ao m co)) (exact ⟨c0, c1, c2, c3, c4⟩) (first
          | (go_at_call 54; refine HLB.out.mono ?_; rintro e w4 ⟨v4, rfl, o4, hb⟩; obtain ⟨a4, d4, rfl, -⟩ := ints_form o4.rd; rw [← HL.out]; have HW4 := Lib.hid (HWD.out.trans (hb.mono HWD.out.size)); clear o4 hb c0 c1 c2 c3 c4; obtain ⟨c0, c1, c2, c3, c4, -⟩ := N0.out.step HW4.out)
          | (go_at_call 32; refine (HPS.out _ HW4.out).mono ?_; rintro e w5 ⟨v5, us, rfl, hu, ho, hb⟩; have hlen : us.length = P := (by rw [HPL.out, ← parts_yes HV.out, ← hu, List.length_map]); have hro := ho.1; rw [hlen] at hro; obtain ⟨a5, d5, rfl⟩ := row_form hro; have HW5 := Lib.hid (HW4.out.trans (hb.mono HW4.out.size)); clear ho hro hu hb hlen c0 c1 c2 c3 c4; obtain ⟨c0, c1, c2, c3, c4, -⟩ := N0.out.step HW5.out))
        have BE := Lib.hid (B0.out.trans (HW5.out.mono B0.out.size))
        have hyf : yb = ((s : Int) == (n : Int) + (l : Int) - (P : Int)) := by
          rw [HY.out, HF.out, ← HPL.out, ← HL.out, ← HS.out, ← HN.out, Bool.eq_iff_iff]
          simp
          omega
        have HYF := Lib.hid hyf
        clear hyf c0 c1 c2 c3 c4
        go_wp2
        go_ret
        exact ⟨by rw [HYF.out]; rfl, BE.out⟩
end Go.Proofs.Ytdheakjjnaifkaa
