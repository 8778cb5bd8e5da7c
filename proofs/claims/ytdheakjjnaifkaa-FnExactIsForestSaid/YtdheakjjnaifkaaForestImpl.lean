
/- impl.IsForest. -/
import Derived.Test.YtdheakjjnaifkaaPartsImpl
import Derived.Deep.RegionHeld3
namespace Go.Proofs.Ytdheakjjnaifkaa
set_option maxRecDepth 20000
open Go.RowKit

def edgesT (ts : List TenE) : Nat := (ts.map fun t => t.1.length).sum
theorem edges_step {ts : List TenE} {j : Nat} {t : TenE} (h : ts[j]? = some t) : edgesT (ts.take (j + 1)) = edgesT (ts.take j) + t.1.length := by
  simp [edgesT, List.take_add_one, h, List.map_append, List.sum_append]
open Classical in
noncomputable def forestB (k p q : Int) (ts : List TenE) (O : List Int) : Bool := decide (NetOk k p q ts O ∧ edgesT ts + (partsL ts).length = ts.length + (labT ts).length)
open Classical in
theorem forest_ok {k p q : Int} {ts : List TenE} {O : List Int} (h : NetOk k p q ts O) : forestB k p q ts O = ((edgesT ts : Int) + ((partsL ts).length : Int) == (ts.length : Int) + ((labT ts).length : Int)) := by
  unfold forestB
  by_cases e : edgesT ts + (partsL ts).length = ts.length + (labT ts).length
  · rw [decide_eq_true ⟨h, e⟩]
    have : (edgesT ts : Int) + ((partsL ts).length : Int) = (ts.length : Int) + ((labT ts).length : Int) := by omega
    rw [this]; simp
  · rw [decide_eq_false fun q => e q.2]
    have : ¬ (edgesT ts : Int) + ((partsL ts).length : Int) = (ts.length : Int) + ((labT ts).length : Int) := by omega
    simpa using this
open Classical in
theorem forest_no {k p q : Int} {ts : List TenE} {O : List Int} (h : ¬ NetOk k p q ts O) : forestB k p q ts O = false := decide_eq_false fun e => h e.1
theorem row_form {w : World} {base n : Nat} {E : TypeId} {v : Value} {cs : List Value} (h : w.ownsRow base E 1 v n cs) : ∃ a c, v = .slice a n c := by
  rcases h.2 with ⟨rfl, h0⟩ | ⟨g, cap, cur, rfl, -⟩
  · subst h0; exact ⟨_, _, rfl⟩
  · exact ⟨_, _, rfl⟩
set_option maxHeartbeats 3200000 in
theorem is_forest_full {B n cap m co : Nat} {pa po : Option Addr} {k p q : Int} {ts : List TenE} {O : List Int} {w : World} (ha : RdTs B w (.slice pa n cap) ts) (ho : Rd B w (.slice po m co) (ints O)) (hB : B ≤ w.heap.size) (hn : ts.length = n) (hl : LenTs ts) (hI : ∀ t ∈ ts, allI t.1) (hm : O.length = m) (hmm : m ≤ 1048576) (hJ : allI O) :
    Calls Try.prog 38 #[netV k p q (.slice pa n cap) (.slice po m co)] w fun e w' => e = .returned (.bool (forestB k p q ts O)) ∧ Below w.heap.size w w' := by
  obtain ⟨yb, hyb⟩ : ∃ b, b = forestB k p q ts O := ⟨_, rfl⟩
  rw [← hyb]
  have HY := Lib.hid hyb
  clear hyb
  obtain ⟨w1, hw1⟩ : ∃ W, W = w.alloc (.cells #[.int .i64 k, .int .i64 p, .int .i64 q, .slice pa n cap, .slice po m co] 33) := ⟨_, rfl⟩
  have hb1 : Below w.heap.size w w1 := by rw [hw1]; exact (Below.refl _ _).alloc (Nat.le_refl _) _
  have hc : w1.cell? ⟨w.heap.size, 0, none⟩ = some (.int .i64 k) ∧ w1.cell? ⟨w.heap.size, 1, none⟩ = some (.int .i64 p) ∧ w1.cell? ⟨w.heap.size, 2, none⟩ = some (.int .i64 q) ∧ w1.cell? ⟨w.heap.size, 3, none⟩ = some (.slice pa n cap) ∧ w1.cell? ⟨w.heap.size, 4, none⟩ = some (.slice po m co) := by rw [hw1]; simp
  have HK := Lib.hid (check_full (k := k) (p := p) (q := q) (w := w1) ((ha.below hb1 hB).mono (Nat.le_trans hB hb1.size)) ((ho.below hb1 hB).mono (Nat.le_trans hB hb1.size)) (Nat.le_refl _) hn hl hI hm hmm hJ)
  have HTS0 := Lib.hid (ha.mono hB)
  have HB1 := Lib.hid hb1
  have HW1 := Lib.hid hw1
  have HN := Lib.hid hn
  obtain ⟨c0, c1, c2, c3, c4⟩ := hc
  clear ha ho hB hn hl hI hm hmm hJ hb1 hw1
  go_enter Try.func38, Try.ntmps38
  go_upto_region 1 with fail
  rw [← HW1.out]
  clear HW1
  go_wp2_with fail
  refine HK.out.mono ?_
  clear HK c0 c1 c2 c3 c4
  rintro e w2 (⟨hv, g, a, b, rfl, hg, ⟨k0, k1, k2, k3, k4, k5, k6⟩, hab, hne, hb2⟩ | ⟨hnv, rfl, hb2⟩)
  · have HV := Lib.hid hv
    have HB2 := Lib.hid (HB1.out.trans (hb2.mono HB1.out.size))
    have hn12 : n ≤ 12 := by rw [← HN.out]; exact hv.2.1
    have R2 := Lib.hid (((Rs.start w).step HB1.out).new2 hb2 hab)
    obtain ⟨al, cl, rfl, -⟩ := ints_form (R2.out.rd (v := a) (xs := labT ts) (by simp))
    obtain ⟨l, hl⟩ : ∃ x, x = (labT ts).length := ⟨_, rfl⟩
    have hl100 : l ≤ 100 := by rw [hl]; exact labT_len ts
    have HL := Lib.hid hl
    rw [← hl] at k5
    have hgl : g < w2.heap.size := World.block_lt_of_cell? _ _ k3
    have HC : Hid (∀ W, Below w2.heap.size w2 W → W.cell? ⟨g, 3, none⟩ = some (.slice pa n cap) ∧ W.cell? ⟨g, 5, none⟩ = some (.slice al l cl)) := Lib.hid (fun W hW => ⟨(hW.cell (p := ⟨g, 3, none⟩) hgl).trans k3, (hW.cell (p := ⟨g, 5, none⟩) hgl).trans k5⟩)
    have HTS := Lib.hid ((HTS0.out.below HB2.out (Nat.le_refl _)).mono HB2.out.size)
    have B2 := Lib.hid (Below.refl w2.heap.size w2)
    have HF := Lib.hid (forest_ok hv)
    obtain ⟨P, hP⟩ : ∃ x, x = (partsL ts).length := ⟨_, rfl⟩
    have hP12 : P ≤ 12 := by rw [hP]; have := partsL_len ts; have := hv.2.1; omega
    have HPL := Lib.hid hP
    clear hv hab hne hb2 k0 k1 k2 k4 k5 k6 hg hl hgl R2 hP
    go_wp2
    go_loopw [4, 17] (fun u i wr => ∃ (j s : Nat), j ≤ n ∧ s ≤ 12 * j ∧ i = .int .i64 j ∧ u = .int .i64 s ∧ Hid (s = edgesT (ts.take j)) ∧ Hid (Below w2.heap.size w2 wr)) (fun _ i _ => n - (intOf i).toNat)
    case atStart => exact ⟨0, 0, by omega, by omega, rfl, rfl, Lib.hid rfl, B2⟩
    case round =>
      clear B2 k3
      obtain ⟨j, s, hj, hs, rfl, rfl, HS, HW⟩ := hrel
      by_cases hlt : j < n
      · obtain ⟨⟨L, D, X⟩, T1⟩ : ∃ t, Hid (ts[j]? = some t) := ⟨_, List.getElem?_eq_getElem (by rw [HN.out]; exact hlt)⟩
        obtain ⟨b', off, a1, d1, a2, d2, a3, d3, rfl, hbw, k0, k1, k2, hT⟩ := HTS.out.at T1.out
        dsimp only at k0 k1 k2 hT
        have k0 := (HW.out.cell (p := ⟨b', off + j * 3, none⟩) hbw).trans k0
        have k1 := (HW.out.cell (p := ⟨b', off + j * 3 + 1, none⟩) hbw).trans k1
        have k2 := (HW.out.cell (p := ⟨b', off + j * 3 + 2, none⟩) hbw).trans k2
        have hax := HV.out.2.2.1.ax _ (List.mem_of_getElem? T1.out)
        dsimp only at hax
        obtain ⟨mL, hmL⟩ : ∃ m, m = L.length := ⟨_, rfl⟩
        have hl12 : mL ≤ 12 := by rw [hmL]; exact hax.1
        have HS2 : Hid (s + mL = edgesT (ts.take (j + 1))) := Lib.hid (by rw [edges_step T1.out, hmL, HS.out])
        have HW2 := Lib.hid (HW.out.alloc HW.out.size (.cells #[.slice a1 mL d1, .slice a2 D.length d2, .slice a3 X.length d3] 55))
        have hw : IntKind.i64.wrap ((s : Int) + (mL : Int)) = ((s + mL : Nat) : Int) := by rw [IntWalk.i64_in _ (by omega)]; omega
        have hw' : IntKind.i64.wrap (((s + mL : Nat) : Int)) = ((s + mL : Nat) : Int) := IntWalk.i64_in _ (by omega)
        rw [← hmL] at k0
        clear hT hax hmL hbw
        go_wp2
        go_roundw
        case rel => exact ⟨j + 1, s + mL, by omega, by omega, by go_num, by first | rfl | rw [hw], HS2, HW2⟩
        case measure => simp [intOf]; omega
      · obtain rfl : j = n := by omega
        have e2 : ts.take j = ts := List.take_of_length_le (by rw [HN.out]; exact Nat.le_refl _)
        rw [e2] at HS
        obtain ⟨c3, c5⟩ := HC.out _ HW.out
        have HWD := Lib.hid HW.out.drew
        have HPI := Lib.hid (parts_impl (g := g) (w := wr.drew) ((HTS.out.below HWD.out (Nat.le_refl _)).mono HWD.out.size) (HC.out _ HWD.out).1 HN.out hn12 HV.out.2.2.1.ax)
        have hw1 : IntKind.i64.wrap ((s : Int) + (P : Int)) = s + P := IntWalk.i64_in _ (by omega)
        have hw2 : IntKind.i64.wrap ((j : Int) + (l : Int)) = j + l := IntWalk.i64_in _ (by omega)
        clear e2
        go_wp2
        go_region_held3 (fun W => W.cell? ⟨g, 3, none⟩ = some (.slice pa j cap) ∧ W.cell? ⟨g, 5, none⟩ = some (.slice al l cl)) (exact ⟨c3, c5⟩) (first
          | (go_at_call 70; refine HPI.out.mono ?_; rintro e w5 ⟨v, sets, rfl, ho, hp, -, hb⟩; have hlen : sets.length = P := (by rw [HPL.out, ← hp, List.length_map]); rw [hlen] at ho; obtain ⟨ap, cp, rfl⟩ := row_form ho; have HW5 := Lib.hid (HWD.out.trans (hb.mono HWD.out.size)); clear ho hp hb hlen c3 c5; obtain ⟨c3, c5⟩ := HC.out _ HW5.out))
        have BE := Lib.hid (HB2.out.trans (HW5.out.mono HB2.out.size))
        have hyf : yb = ((s : Int) + (P : Int) == (j : Int) + (l : Int)) := by rw [HY.out, HF.out, HPL.out, HL.out, HS.out, HN.out]
        have HYF := Lib.hid hyf
        clear hyf c3 c5
        go_wp2
        go_ret
        exact ⟨by rw [HYF.out]; rfl, BE.out⟩
  · have hbe := HB1.out.trans (hb2.mono HB1.out.size)
    have HF : Hid (yb = false) := Lib.hid (by rw [HY.out]; exact forest_no hnv)
    clear hb2
    go_wp2
    go_ret
    exact ⟨by rw [HF.out]; rfl, hbe⟩
end Go.Proofs.Ytdheakjjnaifkaa
