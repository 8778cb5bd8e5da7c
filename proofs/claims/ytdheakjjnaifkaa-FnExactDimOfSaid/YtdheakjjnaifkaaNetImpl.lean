
/- impl.NetworkOk, LabelsOf, DimOf. -/
import Derived.Test.YtdheakjjnaifkaaCheckNet
namespace Go.Proofs.Ytdheakjjnaifkaa
set_option maxRecDepth 20000
open Go.RowKit

set_option maxHeartbeats 3200000 in
theorem network_ok_full {B n cap m co : Nat} {pa po : Option Addr} {k p q : Int} {ts : List TenE} {O : List Int} {w : World} (ha : RdTs B w (.slice pa n cap) ts) (ho : Rd B w (.slice po m co) (ints O)) (hB : B ≤ w.heap.size) (hn : ts.length = n) (hl : LenTs ts) (hI : ∀ t ∈ ts, allI t.1) (hm : O.length = m) (hmm : m ≤ 1048576) (hJ : allI O) :
    Calls Try.prog 15 #[netV k p q (.slice pa n cap) (.slice po m co)] w fun e w' => e = .returned (.bool (netB k p q ts O)) ∧ Below w.heap.size w w' := by
  obtain ⟨w1, hw1⟩ : ∃ W, W = w.alloc (.cells #[.int .i64 k, .int .i64 p, .int .i64 q, .slice pa n cap, .slice po m co] 33) := ⟨_, rfl⟩
  have hb1 : Below w.heap.size w w1 := by rw [hw1]; exact (Below.refl _ _).alloc (Nat.le_refl _) _
  have hc : w1.cell? ⟨w.heap.size, 0, none⟩ = some (.int .i64 k) ∧ w1.cell? ⟨w.heap.size, 1, none⟩ = some (.int .i64 p) ∧ w1.cell? ⟨w.heap.size, 2, none⟩ = some (.int .i64 q) ∧ w1.cell? ⟨w.heap.size, 3, none⟩ = some (.slice pa n cap) ∧ w1.cell? ⟨w.heap.size, 4, none⟩ = some (.slice po m co) := by rw [hw1]; simp
  have HK := Lib.hid (check_full (k := k) (p := p) (q := q) (w := w1) ((ha.below hb1 hB).mono (Nat.le_trans hB hb1.size)) ((ho.below hb1 hB).mono (Nat.le_trans hB hb1.size)) (Nat.le_refl _) hn hl hI hm hmm hJ)
  have HB1 := Lib.hid hb1
  have HW1 := Lib.hid hw1
  obtain ⟨c0, c1, c2, c3, c4⟩ := hc
  clear ha ho hB hn hl hI hm hmm hJ hb1 hw1
  go_enter Try.func15, Try.ntmps15
  go_upto_region 1 with fail
  rw [← HW1.out]
  clear HW1
  go_wp2_with fail
  refine HK.out.mono ?_
  clear HK c0 c1 c2 c3 c4
  rintro e w2 (⟨hv, g, a, b, rfl, hg, hcs, hab, hne, hb2⟩ | ⟨hnv, rfl, hb2⟩)
  · have hbe := HB1.out.trans (hb2.mono HB1.out.size)
    clear hcs hab hne hb2
    go_wp2
    go_ret
    exact ⟨by rw [netB_true.2 hv]; rfl, hbe⟩
  · have hbe := HB1.out.trans (hb2.mono HB1.out.size)
    clear hb2
    go_wp2
    go_ret
    exact ⟨by rw [netB_false hnv]; rfl, hbe⟩
set_option maxHeartbeats 3200000 in
theorem labels_of_full {B n cap m co : Nat} {pa po : Option Addr} {k p q : Int} {ts : List TenE} {O : List Int} {w : World} (ha : RdTs B w (.slice pa n cap) ts) (ho : Rd B w (.slice po m co) (ints O)) (hB : B ≤ w.heap.size) (hn : ts.length = n) (hl : LenTs ts) (hI : ∀ t ∈ ts, allI t.1) (hm : O.length = m) (hmm : m ≤ 1048576) (hJ : allI O) :
    Calls Try.prog 18 #[netV k p q (.slice pa n cap) (.slice po m co)] w (NewRow w (if netB k p q ts O = true then labT ts else [])) := by
  obtain ⟨yl, hyl⟩ : ∃ l, l = (if netB k p q ts O = true then labT ts else []) := ⟨_, rfl⟩
  rw [← hyl]
  have HYL := Lib.hid hyl
  clear hyl
  obtain ⟨w1, hw1⟩ : ∃ W, W = w.alloc (.cells #[.int .i64 k, .int .i64 p, .int .i64 q, .slice pa n cap, .slice po m co] 33) := ⟨_, rfl⟩
  have hb1 : Below w.heap.size w w1 := by rw [hw1]; exact (Below.refl _ _).alloc (Nat.le_refl _) _
  have hc : w1.cell? ⟨w.heap.size, 0, none⟩ = some (.int .i64 k) ∧ w1.cell? ⟨w.heap.size, 1, none⟩ = some (.int .i64 p) ∧ w1.cell? ⟨w.heap.size, 2, none⟩ = some (.int .i64 q) ∧ w1.cell? ⟨w.heap.size, 3, none⟩ = some (.slice pa n cap) ∧ w1.cell? ⟨w.heap.size, 4, none⟩ = some (.slice po m co) := by rw [hw1]; simp
  have HK := Lib.hid (check_full (k := k) (p := p) (q := q) (w := w1) ((ha.below hb1 hB).mono (Nat.le_trans hB hb1.size)) ((ho.below hb1 hB).mono (Nat.le_trans hB hb1.size)) (Nat.le_refl _) hn hl hI hm hmm hJ)
  have HB1 := Lib.hid hb1
  have HW1 := Lib.hid hw1
  obtain ⟨c0, c1, c2, c3, c4⟩ := hc
  clear ha ho hB hn hl hI hm hmm hJ hb1 hw1
  go_enter Try.func18, Try.ntmps18
  go_upto_region 1 with fail
  rw [← HW1.out]
  clear HW1
  go_wp2_with fail
  refine HK.out.mono ?_
  clear HK c0 c1 c2 c3 c4
  rintro e w2 (⟨hv, g, a, b, rfl, hg, ⟨k0, k1, k2, k3, k4, k5, k6⟩, hab, hne, hb2⟩ | ⟨hnv, rfl, hb2⟩)
  · have R2 := Lib.hid (((Rs.start w).step HB1.out).new2 hb2 hab)
    clear hab hne hb2
    go_wp2
    go_ret
    refine ⟨_, rfl, ?_, R2.out.bel⟩
    rw [HYL.out, if_pos (netB_true.2 hv)]
    exact R2.out.own1 (by simp)
  · have hbe := HB1.out.trans (hb2.mono HB1.out.size)
    clear hb2
    go_wp2
    go_ret
    refine ⟨_, rfl, ?_, hbe⟩
    rw [HYL.out, if_neg (by rw [netB_false hnv]; simp)]
    exact Own.nil _ _
set_option maxHeartbeats 3200000 in
theorem dim_of_full {B n cap m co : Nat} {pa po : Option Addr} {k p q : Int} {ts : List TenE} {O : List Int} {w : World} (ha : RdTs B w (.slice pa n cap) ts) (ho : Rd B w (.slice po m co) (ints O)) (hB : B ≤ w.heap.size) (hn : ts.length = n) (hl : LenTs ts) (hI : ∀ t ∈ ts, allI t.1) (hm : O.length = m) (hmm : m ≤ 1048576) (hJ : allI O) (x : Int) :
    Calls Try.prog 24 #[netV k p q (.slice pa n cap) (.slice po m co), .int .i64 x] w fun e w' => e = .returned (.int .i64 (if netB k p q ts O = true then dimT ts x else 0)) ∧ Below w.heap.size w w' := by
  obtain ⟨yl, hyl⟩ : ∃ l, l = (if netB k p q ts O = true then dimT ts x else 0) := ⟨_, rfl⟩
  rw [← hyl]
  have HYL := Lib.hid hyl
  clear hyl
  obtain ⟨w1, hw1⟩ : ∃ W, W = w.alloc (.cells #[.int .i64 k, .int .i64 p, .int .i64 q, .slice pa n cap, .slice po m co] 33) := ⟨_, rfl⟩
  have hb1 : Below w.heap.size w w1 := by rw [hw1]; exact (Below.refl _ _).alloc (Nat.le_refl _) _
  have hc : w1.cell? ⟨w.heap.size, 0, none⟩ = some (.int .i64 k) ∧ w1.cell? ⟨w.heap.size, 1, none⟩ = some (.int .i64 p) ∧ w1.cell? ⟨w.heap.size, 2, none⟩ = some (.int .i64 q) ∧ w1.cell? ⟨w.heap.size, 3, none⟩ = some (.slice pa n cap) ∧ w1.cell? ⟨w.heap.size, 4, none⟩ = some (.slice po m co) := by rw [hw1]; simp
  have HK := Lib.hid (check_full (k := k) (p := p) (q := q) (w := w1) ((ha.below hb1 hB).mono (Nat.le_trans hB hb1.size)) ((ho.below hb1 hB).mono (Nat.le_trans hB hb1.size)) (Nat.le_refl _) hn hl hI hm hmm hJ)
  have HB1 := Lib.hid hb1
  have HW1 := Lib.hid hw1
  obtain ⟨c0, c1, c2, c3, c4⟩ := hc
  clear ha ho hB hn hl hI hm hmm hJ hb1 hw1
  go_enter Try.func24, Try.ntmps24
  go_upto_region 1 with fail
  rw [← HW1.out]
  clear HW1
  go_wp2_with fail
  refine HK.out.mono ?_
  clear HK c0 c1 c2 c3 c4
  rintro e w2 (⟨hv, g, a, b, rfl, hg, ⟨k0, k1, k2, k3, k4, k5, k6⟩, hab, hne, hb2⟩ | ⟨hnv, rfl, hb2⟩)
  · have R2 := Lib.hid (((Rs.start w).step HB1.out).new2 hb2 hab)
    have HF := Lib.hid (find_int x (R2.out.rd (v := a) (xs := labT ts) (by simp)) (R2.out.rd (v := b) (xs := (labT ts).map (dimT ts)) (by simp)) (Nat.le_refl _) (by rw [List.length_map]) (by have := labT_len ts; omega))
    rw [dim_found hv.2.2.1.ax] at HF
    obtain ⟨a1, e1, rfl, -⟩ := ints_form (R2.out.rd (v := a) (xs := labT ts) (by simp))
    obtain ⟨a2, e2, rfl, -⟩ := ints_form (R2.out.rd (v := b) (xs := (labT ts).map (dimT ts)) (by simp))
    obtain ⟨dx, hdx⟩ : ∃ d, d = dimT ts x := ⟨_, rfl⟩
    obtain ⟨fb, hfb⟩ : ∃ f, f = (cK (labT ts) ((labT ts).map (dimT ts)) x).isSome := ⟨_, rfl⟩
    rw [← hdx] at HF
    rw [← hfb] at HF
    obtain ⟨n1, hn1⟩ : ∃ x, x = (labT ts).length := ⟨_, rfl⟩
    obtain ⟨n2, hn2⟩ : ∃ x, x = ((labT ts).map (dimT ts)).length := ⟨_, rfl⟩
    rw [← hn1, ← hn2] at HF R2
    rw [← hn1] at k5
    rw [← hn2] at k6
    clear hn1 hn2
    have HDX := Lib.hid hdx
    clear hab hne hb2 hdx hfb
    go_wp2_with fail
    refine HF.out.mono ?_
    rintro e w3 ⟨rfl, hb3⟩
    have R3 := Lib.hid (R2.out.step hb3)
    clear hb3 HF R2 k0 k1 k2 k3 k4 k5 k6
    go_wp2
    go_ret
    have hy : yl = dx := by rw [HYL.out, if_pos (netB_true.2 hv), HDX.out]
    subst hy
    exact ⟨rfl, R3.out.bel⟩
  · have hbe := HB1.out.trans (hb2.mono HB1.out.size)
    clear hb2
    go_wp2
    go_ret
    have hy : yl = 0 := by rw [HYL.out, if_neg (by rw [netB_false hnv]; simp)]
    subst hy
    exact ⟨rfl, hbe⟩
end Go.Proofs.Ytdheakjjnaifkaa
