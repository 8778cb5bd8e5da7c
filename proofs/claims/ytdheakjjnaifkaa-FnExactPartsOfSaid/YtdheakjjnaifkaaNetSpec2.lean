
/- spec.LabelsOf, UsesOf, DimOf. -/
import Derived.Test.YtdheakjjnaifkaaNetOkSpec
namespace Go.Proofs.Ytdheakjjnaifkaa
set_option maxRecDepth 20000
open Go.RowKit

set_option maxHeartbeats 3200000 in
theorem labels_of_spec {B B' : Nat} {tv ov : Value} {k p q : Int} {ts : List TenE} {O : List Int} {w : World} (h : RdTs B w tv ts) (ho : Rd B' w ov (ints O)) (hcap : ∀ a n c, tv = .slice a n c → n ≤ c) (hB : B ≤ w.heap.size) (hB' : B' ≤ w.heap.size) (hn : LenTs ts) (hO : O.length ≤ 1048576) :
    Calls Try.prog 17 #[netV k p q tv ov] w (NewRow w (if netB k p q ts O = true then labT ts else [])) := by
  obtain ⟨a, cap, rfl⟩ := h.form
  obtain ⟨ao, co, rfl, -⟩ := ints_form ho
  obtain ⟨W0, hW0⟩ : ∃ V, V = w.alloc (.cells #[.int .i64 k, .int .i64 p, .int .i64 q, .slice a ts.length cap, .slice ao O.length co] 33) := ⟨_, rfl⟩
  have hb0 : Below w.heap.size w W0 := by rw [hW0]; exact (Below.refl _ _).alloc (Nat.le_refl _) _
  have N0 : Hid (B5 W0 w.heap.size (.int .i64 k) (.int .i64 p) (.int .i64 q) (.slice a ts.length cap) (.slice ao O.length co)) := Lib.hid (by rw [hW0]; exact B5.new _ _ _ _ _ _ _)
  have HW0 := Lib.hid hW0
  have B0 := Lib.hid hb0
  have HT := Lib.hid ((h.mono hB).below hb0 (Nat.le_refl _))
  have HK := Lib.hid (net_ok_spec (k := k) (p := p) (q := q) (w := W0) HT.out ((ho.mono hB').below hb0 (Nat.le_refl _)) hcap hb0.size hb0.size hn hO)
  have HLN := Lib.hid hn
  obtain ⟨m, hm⟩ : ∃ m, m = O.length := ⟨_, rfl⟩
  obtain ⟨n, hnn⟩ : ∃ n, n = ts.length := ⟨_, rfl⟩
  rw [← hm] at N0 HW0 HK ⊢
  rw [← hnn] at N0 HW0 HK HT ⊢
  obtain ⟨yl, hyl⟩ : ∃ y, y = (if netB k p q ts O = true then labT ts else []) := ⟨_, rfl⟩
  rw [← hyl]
  have HYL := Lib.hid hyl
  obtain ⟨c0, c1, c2, c3, c4, -⟩ := N0.out
  clear h ho hB hB' hn hO hb0 hm hnn hW0 hcap hyl
  cases hb : netB k p q ts O with
  | false =>
    have HF : Hid (yl = []) := Lib.hid (by rw [HYL.out, if_neg (by rw [hb]; simp)])
    rw [hb] at HK
    clear hb
    go_enter Try.func17, Try.ntmps17
    go_upto_region 1 with fail
    rw [← HW0.out]
    clear HW0
    go_wp2_with fail
    refine HK.out.mono ?_
    rintro e w1 ⟨rfl, hb⟩
    have B1 := Lib.hid (B0.out.trans (hb.mono B0.out.size))
    clear HK hb c0 c1 c2 c3 c4
    go_wp2
    go_ret
    exact ⟨_, rfl, by rw [HF.out]; exact Own.nil _ _, B1.out⟩
  | true =>
    have HF : Hid (yl = labT ts) := Lib.hid (by rw [HYL.out, if_pos hb])
    have HV := Lib.hid (netB_true.1 hb)
    rw [hb] at HK
    clear hb
    go_enter Try.func17, Try.ntmps17
    go_upto_region 1 with fail
    rw [← HW0.out]
    clear HW0
    go_wp2_with fail
    refine HK.out.mono ?_
    rintro e w1 ⟨rfl, hb⟩
    have B1 := Lib.hid (B0.out.trans (hb.mono B0.out.size))
    have N1 := Lib.hid (N0.out.step hb)
    have HL := Lib.hid (labels_spec (w := w1) (HT.out.below hb B0.out.size) B1.out.size HLN.out HV.out.2.2.1.ax)
    clear HK hb c0 c1 c2 c3 c4
    obtain ⟨c0, c1, c2, c3, c4, -⟩ := N1.out
    go_wp2_with fail
    refine HL.out.mono ?_
    rintro e w2 ⟨v, rfl, hv, hb⟩
    have RES := Lib.hid (NewRow.after (w0 := w) B1.out ⟨v, rfl, hv, hb⟩)
    clear HL hv hb c0 c1 c2 c3 c4
    go_wp2
    go_ret
    rw [HF.out]
    exact RES.out
set_option maxHeartbeats 3200000 in
theorem uses_of_spec {B B' : Nat} {tv ov : Value} {k p q : Int} {x : Int} {ts : List TenE} {O : List Int} {w : World} (h : RdTs B w tv ts) (ho : Rd B' w ov (ints O)) (hcap : ∀ a n c, tv = .slice a n c → n ≤ c) (hB : B ≤ w.heap.size) (hB' : B' ≤ w.heap.size) (hn : LenTs ts) (hO : O.length ≤ 1048576) :
    Calls Try.prog 25 #[netV k p q tv ov, .int .i64 x] w (NewRow w (if netB k p q ts O = true then usesT ts x else [])) := by
  obtain ⟨a, cap, rfl⟩ := h.form
  obtain ⟨ao, co, rfl, -⟩ := ints_form ho
  obtain ⟨W0, hW0⟩ : ∃ V, V = w.alloc (.cells #[.int .i64 k, .int .i64 p, .int .i64 q, .slice a ts.length cap, .slice ao O.length co] 33) := ⟨_, rfl⟩
  have hb0 : Below w.heap.size w W0 := by rw [hW0]; exact (Below.refl _ _).alloc (Nat.le_refl _) _
  have N0 : Hid (B5 W0 w.heap.size (.int .i64 k) (.int .i64 p) (.int .i64 q) (.slice a ts.length cap) (.slice ao O.length co)) := Lib.hid (by rw [hW0]; exact B5.new _ _ _ _ _ _ _)
  have HW0 := Lib.hid hW0
  have B0 := Lib.hid hb0
  have HT := Lib.hid ((h.mono hB).below hb0 (Nat.le_refl _))
  have HK := Lib.hid (net_ok_spec (k := k) (p := p) (q := q) (w := W0) HT.out ((ho.mono hB').below hb0 (Nat.le_refl _)) hcap hb0.size hb0.size hn hO)
  have HLN := Lib.hid hn
  obtain ⟨m, hm⟩ : ∃ m, m = O.length := ⟨_, rfl⟩
  obtain ⟨n, hnn⟩ : ∃ n, n = ts.length := ⟨_, rfl⟩
  rw [← hm] at N0 HW0 HK ⊢
  rw [← hnn] at N0 HW0 HK HT ⊢
  obtain ⟨yl, hyl⟩ : ∃ y, y = (if netB k p q ts O = true then usesT ts x else []) := ⟨_, rfl⟩
  rw [← hyl]
  have HYL := Lib.hid hyl
  obtain ⟨c0, c1, c2, c3, c4, -⟩ := N0.out
  clear h ho hB hB' hn hO hb0 hm hnn hW0 hcap hyl
  cases hb : netB k p q ts O with
  | false =>
    have HF : Hid (yl = []) := Lib.hid (by rw [HYL.out, if_neg (by rw [hb]; simp)])
    rw [hb] at HK
    clear hb
    go_enter Try.func25, Try.ntmps25
    go_upto_region 1 with fail
    rw [← HW0.out]
    clear HW0
    go_wp2_with fail
    refine HK.out.mono ?_
    rintro e w1 ⟨rfl, hb⟩
    have B1 := Lib.hid (B0.out.trans (hb.mono B0.out.size))
    clear HK hb c0 c1 c2 c3 c4
    go_wp2
    go_ret
    exact ⟨_, rfl, by rw [HF.out]; exact Own.nil _ _, B1.out⟩
  | true =>
    have HF : Hid (yl = usesT ts x) := Lib.hid (by rw [HYL.out, if_pos hb])
    have HV := Lib.hid (netB_true.1 hb)
    rw [hb] at HK
    clear hb
    go_enter Try.func25, Try.ntmps25
    go_upto_region 1 with fail
    rw [← HW0.out]
    clear HW0
    go_wp2_with fail
    refine HK.out.mono ?_
    rintro e w1 ⟨rfl, hb⟩
    have B1 := Lib.hid (B0.out.trans (hb.mono B0.out.size))
    have N1 := Lib.hid (N0.out.step hb)
    have HL := Lib.hid (uses_spec (x := x) (w := w1) (HT.out.below hb B0.out.size) B1.out.size HLN.out)
    clear HK hb c0 c1 c2 c3 c4
    obtain ⟨c0, c1, c2, c3, c4, -⟩ := N1.out
    go_wp2_with fail
    refine HL.out.mono ?_
    rintro e w2 ⟨v, rfl, hv, hb⟩
    have RES := Lib.hid (NewRow.after (w0 := w) B1.out ⟨v, rfl, hv, hb⟩)
    clear HL hv hb c0 c1 c2 c3 c4
    go_wp2
    go_ret
    rw [HF.out]
    exact RES.out
set_option maxHeartbeats 3200000 in
theorem dim_of_spec {B B' : Nat} {tv ov : Value} {k p q : Int} {x : Int} {ts : List TenE} {O : List Int} {w : World} (h : RdTs B w tv ts) (ho : Rd B' w ov (ints O)) (hcap : ∀ a n c, tv = .slice a n c → n ≤ c) (hB : B ≤ w.heap.size) (hB' : B' ≤ w.heap.size) (hn : LenTs ts) (hO : O.length ≤ 1048576) :
    Calls Try.prog 23 #[netV k p q tv ov, .int .i64 x] w (fun e w' => e = .returned (.int .i64 (if netB k p q ts O = true then dimT ts x else 0)) ∧ Below w.heap.size w w') := by
  obtain ⟨a, cap, rfl⟩ := h.form
  obtain ⟨ao, co, rfl, -⟩ := ints_form ho
  obtain ⟨W0, hW0⟩ : ∃ V, V = w.alloc (.cells #[.int .i64 k, .int .i64 p, .int .i64 q, .slice a ts.length cap, .slice ao O.length co] 33) := ⟨_, rfl⟩
  have hb0 : Below w.heap.size w W0 := by rw [hW0]; exact (Below.refl _ _).alloc (Nat.le_refl _) _
  have N0 : Hid (B5 W0 w.heap.size (.int .i64 k) (.int .i64 p) (.int .i64 q) (.slice a ts.length cap) (.slice ao O.length co)) := Lib.hid (by rw [hW0]; exact B5.new _ _ _ _ _ _ _)
  have HW0 := Lib.hid hW0
  have B0 := Lib.hid hb0
  have HT := Lib.hid ((h.mono hB).below hb0 (Nat.le_refl _))
  have HK := Lib.hid (net_ok_spec (k := k) (p := p) (q := q) (w := W0) HT.out ((ho.mono hB').below hb0 (Nat.le_refl _)) hcap hb0.size hb0.size hn hO)
  have HLN := Lib.hid hn
  obtain ⟨m, hm⟩ : ∃ m, m = O.length := ⟨_, rfl⟩
  obtain ⟨n, hnn⟩ : ∃ n, n = ts.length := ⟨_, rfl⟩
  rw [← hm] at N0 HW0 HK ⊢
  rw [← hnn] at N0 HW0 HK HT ⊢
  obtain ⟨yl, hyl⟩ : ∃ y, y = (if netB k p q ts O = true then dimT ts x else 0) := ⟨_, rfl⟩
  rw [← hyl]
  have HYL := Lib.hid hyl
  obtain ⟨c0, c1, c2, c3, c4, -⟩ := N0.out
  clear h ho hB hB' hn hO hb0 hm hnn hW0 hcap hyl
  cases hb : netB k p q ts O with
  | false =>
    have HF : Hid (yl = 0) := Lib.hid (by rw [HYL.out, if_neg (by rw [hb]; simp)])
    rw [hb] at HK
    clear hb
    go_enter Try.func23, Try.ntmps23
    go_upto_region 1 with fail
    rw [← HW0.out]
    clear HW0
    go_wp2_with fail
    refine HK.out.mono ?_
    rintro e w1 ⟨rfl, hb⟩
    have B1 := Lib.hid (B0.out.trans (hb.mono B0.out.size))
    clear HK hb c0 c1 c2 c3 c4
    go_wp2
    go_ret
    exact ⟨by rw [HF.out]; rfl, B1.out⟩
  | true =>
    have HF : Hid (yl = dimT ts x) := Lib.hid (by rw [HYL.out, if_pos hb])
    have HV := Lib.hid (netB_true.1 hb)
    rw [hb] at HK
    clear hb
    go_enter Try.func23, Try.ntmps23
    go_upto_region 1 with fail
    rw [← HW0.out]
    clear HW0
    go_wp2_with fail
    refine HK.out.mono ?_
    rintro e w1 ⟨rfl, hb⟩
    have B1 := Lib.hid (B0.out.trans (hb.mono B0.out.size))
    have N1 := Lib.hid (N0.out.step hb)
    have HL := Lib.hid (dim_spec (x := x) (w := w1) (HT.out.below hb B0.out.size) B1.out.size HLN.out HV.out.2.2.1.ax)
    clear HK hb c0 c1 c2 c3 c4
    obtain ⟨c0, c1, c2, c3, c4, -⟩ := N1.out
    go_wp2_with fail
    refine HL.out.mono ?_
    rintro e w2 ⟨rfl, hb⟩
    have RES := Lib.hid (B1.out.trans (hb.mono B1.out.size))
    clear HL hb c0 c1 c2 c3 c4
    go_wp2
    go_ret
    exact ⟨by rw [HF.out]; rfl, RES.out⟩
end Go.Proofs.Ytdheakjjnaifkaa
