
/- The function literals of ContractPair and SumLabels; joinAxes of two tensors. -/
import Derived.Test.YtfdjlahaiogabaaSumOver
import Derived.Test.YtfdjlahaiogabaaPermuted
import Derived.Test.YtfdjlahaiogabaaTimesOne
namespace Go.Proofs.Ytfdjlahaiogabaa
set_option maxRecDepth 20000
open Go.RowKit

theorem join_ten_yes {B B' : Nat} {u v : Value} {L D L' D' : List Int} {w : World} (hax : AxesV L D) (hax' : AxesV L' D') (hf : FitV L D L' D') (ha : RdA B w u (axesL L D)) (hb : RdA B' w v (axesL L' D')) (hB : B ≤ w.heap.size) (hB' : B' ≤ w.heap.size) :
    Calls Try.prog 102 #[u, v] w fun e w' => ∃ x y, e = .returned (.tuple #[x, y, .bool true]) ∧ OwnA w' w.heap.size w'.heap.size x (axJ (joinL L L') (dimJ L D L' D') (stepI L D)) ∧ OwnA w' w.heap.size w'.heap.size y (axJ (joinL L L') (dimJ L D L' D') (stepI L' D')) ∧ Below w.heap.size w w' := by
  have hff := (fitF_fit (D := D) (D' := D') hax'.2.2.2.2).2 hf
  rw [axesL_map hax.2.2.2.2] at ha
  rw [axesL_map hax'.2.2.2.2] at hb
  refine (join_axes_impl (dimI L D) (stepI L D) (dimI L' D') (stepI L' D') hax.2.2.2.2 hax'.2.2.2.2 (by have := hax.1; omega) (by have := hax'.1; omega) ha hb hB hB').mono ?_
  rintro e w' (⟨-, x, y, rfl, h1, h2, h3⟩ | ⟨hn, -, -⟩)
  · rw [axF_axJ] at h1
    rw [axS_axJ hff] at h2
    exact ⟨x, y, rfl, h1, h2, h3⟩
  · exact absurd hff hn
theorem join_ten_no {B B' : Nat} {u v : Value} {L D L' D' : List Int} {w : World} (hax : AxesV L D) (hax' : AxesV L' D') (hf : ¬ FitV L D L' D') (ha : RdA B w u (axesL L D)) (hb : RdA B' w v (axesL L' D')) (hB : B ≤ w.heap.size) (hB' : B' ≤ w.heap.size) :
    Calls Try.prog 102 #[u, v] w fun e w' => e = .returned (.tuple #[nilV, nilV, .bool false]) ∧ Below w.heap.size w w' := by
  have hff := fun h => hf ((fitF_fit (D := D) (D' := D') hax'.2.2.2.2).1 h)
  rw [axesL_map hax.2.2.2.2] at ha
  rw [axesL_map hax'.2.2.2.2] at hb
  refine (join_axes_impl (dimI L D) (stepI L D) (dimI L' D') (stepI L' D') hax.2.2.2.2 hax'.2.2.2.2 (by have := hax.1; omega) (by have := hax'.1; omega) ha hb hB hB').mono ?_
  rintro e w' (⟨hy, -⟩ | ⟨-, rfl, h3⟩)
  · exact absurd hy hff
  · exact ⟨rfl, h3⟩
theorem dimJ_in {L D L' D' : List Int} (hax : AxesV L D) (hax' : AxesV L' D') : ∀ n ∈ joinL L L', 1 ≤ dimJ L D L' D' n ∧ dimJ L D L' D' n ≤ 8 := fun n hn => by
  have h := joinD_map (D := D) (L' := L') (D' := D') hax.2.2.2.2 hax.2.1
  have hm : dimJ L D L' D' n ∈ joinD L D L' D' := by rw [← h]; exact List.mem_map_of_mem hn
  exact joinD_in hax'.2.1 hax.2.2.2.1 hax'.2.2.2.1 _ hm
theorem prod_sub {A C : List Int} (h : A.Sublist C) (h1 : ∀ d ∈ C, 1 ≤ d) : prodL A ≤ prodL C := by
  induction h with
  | slnil => exact Int.le_refl _
  | cons a hs ih =>
    rename_i l1 l2
    rw [prodL_cons]
    have h2 := ih (fun d hd => h1 d (List.mem_cons_of_mem _ hd))
    have h3 := h1 a (by simp)
    have h4 := prodL_pos (D := l2) (fun d hd => h1 d (List.mem_cons_of_mem _ hd))
    have h5 := Int.mul_le_mul_of_nonneg_right h3 (show 0 ≤ prodL l2 by omega)
    omega
  | cons_cons a hs ih =>
    rw [prodL_cons, prodL_cons]
    have h2 := ih (fun d hd => h1 d (List.mem_cons_of_mem _ hd))
    have h3 := h1 a (by simp)
    exact Int.mul_le_mul_of_nonneg_left h2 (by omega)
theorem join_prod {L D L' D' : List Int} (hax : AxesV L D) (hax' : AxesV L' D') (hp : 1 ≤ prodL D ∧ prodL D ≤ 4096) (hp' : prodL D' ≤ 4096) : 1 ≤ prodL (joinD L D L' D') ∧ prodL (joinD L D L' D') ≤ 16777216 := by
  have h0 := prodL_pos (D := joinD L D L' D') (fun d hd => (joinD_in hax'.2.1 hax.2.2.2.1 hax'.2.2.2.1 d hd).1)
  refine ⟨h0, ?_⟩
  have h1 : (dimsVia L' D' (restL L L')).Sublist D' := by
    have h2 := (List.filter_sublist (p := fun n => decide (n ∉ L)) (l := L')).map (dimI L' D')
    rw [dimI_map hax'.2.2.2.2 hax'.2.1] at h2
    exact h2
  have h3 := prod_sub h1 (fun d hd => (hax'.2.2.2.1 d hd).1)
  have h4 := prodL_pos (D := dimsVia L' D' (restL L L')) (fun d hd => (hax'.2.2.2.1 d (h1.subset hd)).1)
  unfold joinD
  rw [prodL_app]
  exact Int.le_trans (Int.mul_le_mul hp.2 (show _ ≤ 4096 by omega) (by omega) (by omega)) (by omega)
theorem joinA_pa {L D L' D' : List Int} {L1 D1 : List Int} (hax : AxesV L D) (hax' : AxesV L' D') (hD : ∀ d ∈ D1, 1 ≤ d) (hP1 : prodL D1 ≤ 4096) (hP : prodL (joinD L D L' D') ≤ 65536) : PA (axJ (joinL L L') (dimJ L D L' D') (stepI L1 D1)) :=
  axJ_pa (by have h1 := join_len L L'; have h2 := hax.1; have h3 := hax'.1; omega) (dimJ_in hax hax') (fun n _ => by have h := stepI_small (L := L1) hD hP1 n; omega) (by rw [joinD_map hax.2.2.2.2 hax.2.1]; exact hP)

set_option maxHeartbeats 6400000 in
theorem pair_fn {B br ba bi bb bj gi gj ni nj ci cj : Nat} {lv dv xv lu du xu : Value} {k p q : Int} {L D X L' D' X' : List Int} {wd N N' j oa ob : Nat} {w W : World} (hb : Below w.heap.size w W)
    (hc : br < w.heap.size ∧ ba < w.heap.size ∧ bi < w.heap.size ∧ bb < w.heap.size ∧ bj < w.heap.size ∧ gi < w.heap.size ∧ gj < w.heap.size)
    (hcells : (w.cell? ⟨br, 0, none⟩ = some (.int .i64 k) ∧ w.cell? ⟨br, 1, none⟩ = some (.int .i64 p) ∧ w.cell? ⟨br, 2, none⟩ = some (.int .i64 q) ∧ w.cell? ⟨ba, 0, none⟩ = some lv ∧ w.cell? ⟨ba, 1, none⟩ = some dv ∧ w.cell? ⟨ba, 2, none⟩ = some xv ∧ w.cell? ⟨bb, 0, none⟩ = some lu ∧ w.cell? ⟨bb, 1, none⟩ = some du ∧ w.cell? ⟨bb, 2, none⟩ = some xu ∧ w.cell? ⟨bi, 0, none⟩ = some (.slice (some ⟨gi, 0, none⟩) ni ci) ∧ w.cell? ⟨bj, 0, none⟩ = some (.slice (some ⟨gj, 0, none⟩) nj cj) ∧ w.cell? ⟨gi, j, none⟩ = some (.int .i64 oa) ∧ w.cell? ⟨gj, j, none⟩ = some (.int .i64 ob)))
    (hji : j < ni) (hjj : j < nj) (ha : RdT B w lv dv xv L D X) (hu : RdT B w lu du xu L' D' X') (hB : B ≤ w.heap.size) (hr : ringB k p q = true) (hw : widthI k q = (wd : Int)) (hw1 : 1 ≤ wd) (hw2 : wd ≤ 6) (hN : N ≤ 4096) (hN' : N' ≤ 4096) (hX : X.length = N * wd) (hY : X'.length = N' * wd) (wX : Within (topI k p q) X) (wY : Within (topI k p q) X') (hoa : oa < N) (hob : ob < N') :
    Calls Try.prog 106 #[.int .i64 j, .pointer (some ⟨br, 0, none⟩), .pointer (some ⟨ba, 0, none⟩), .pointer (some ⟨bi, 0, none⟩), .pointer (some ⟨bb, 0, none⟩), .pointer (some ⟨bj, 0, none⟩)] W (NewRow W (timesL k p (getL wd X oa) (getL wd X' ob))) := by
  have hja := Nat.mul_le_mul_right wd (show oa + 1 ≤ N by omega)
  rw [Nat.add_mul, Nat.one_mul] at hja
  have hjb := Nat.mul_le_mul_right wd (show ob + 1 ≤ N' by omega)
  rw [Nat.add_mul, Nat.one_mul] at hjb
  have HX := Lib.hid (getL_elem hw hX wX hoa)
  have HY := Lib.hid (getL_elem hw hY wY hob)
  have HR := Lib.hid hr
  have HTR : ∀ V, Below W.heap.size W V → Below w.heap.size w V := fun V hV => hb.trans (hV.mono hb.size)
  have HBB := Lib.hid (Nat.le_trans hB hb.size)
  have HE1 := Lib.hid (fun (V : World) (hV : Below W.heap.size W V) => elem_rd (k := k) (p := p) (q := q) wd oa (ha.below (HTR V hV) hB) (Nat.le_trans hB (HTR V hV).size) hw hw1 hw2 (by omega) (by rw [hX]; exact hja))
  have HE2 := Lib.hid (fun (V : World) (hV : Below W.heap.size W V) => elem_rd (k := k) (p := p) (q := q) wd ob (hu.below (HTR V hV) hB) (Nat.le_trans hB (HTR V hV).size) hw hw1 hw2 (by omega) (by rw [hY]; exact hjb))
  have HC : Hid (∀ V, Below W.heap.size W V → (V.cell? ⟨br, 0, none⟩ = some (.int .i64 k) ∧ V.cell? ⟨br, 1, none⟩ = some (.int .i64 p) ∧ V.cell? ⟨br, 2, none⟩ = some (.int .i64 q) ∧ V.cell? ⟨ba, 0, none⟩ = some lv ∧ V.cell? ⟨ba, 1, none⟩ = some dv ∧ V.cell? ⟨ba, 2, none⟩ = some xv ∧ V.cell? ⟨bb, 0, none⟩ = some lu ∧ V.cell? ⟨bb, 1, none⟩ = some du ∧ V.cell? ⟨bb, 2, none⟩ = some xu ∧ V.cell? ⟨bi, 0, none⟩ = some (.slice (some ⟨gi, 0, none⟩) ni ci) ∧ V.cell? ⟨bj, 0, none⟩ = some (.slice (some ⟨gj, 0, none⟩) nj cj) ∧ V.cell? ⟨gi, j, none⟩ = some (.int .i64 oa) ∧ V.cell? ⟨gj, j, none⟩ = some (.int .i64 ob))) := Lib.hid (fun V hV => by
    have hb := HTR V hV
    obtain ⟨l1, l2, l3, l4, l5, l6, l7⟩ := hc
    obtain ⟨r0, r1, r2, a0, a1, a2, b0, b1, b2, i0, j0, x0, y0⟩ := hcells
    exact ⟨(hb.cell (p := ⟨br, 0, none⟩) l1).trans r0, (hb.cell (p := ⟨br, 1, none⟩) l1).trans r1, (hb.cell (p := ⟨br, 2, none⟩) l1).trans r2, (hb.cell (p := ⟨ba, 0, none⟩) l2).trans a0, (hb.cell (p := ⟨ba, 1, none⟩) l2).trans a1, (hb.cell (p := ⟨ba, 2, none⟩) l2).trans a2, (hb.cell (p := ⟨bb, 0, none⟩) l4).trans b0, (hb.cell (p := ⟨bb, 1, none⟩) l4).trans b1, (hb.cell (p := ⟨bb, 2, none⟩) l4).trans b2, (hb.cell (p := ⟨bi, 0, none⟩) l3).trans i0, (hb.cell (p := ⟨bj, 0, none⟩) l5).trans j0, (hb.cell (p := ⟨gi, j, none⟩) l6).trans x0, (hb.cell (p := ⟨gj, j, none⟩) l7).trans y0⟩)
  obtain ⟨E1, hx⟩ : ∃ l, l = getL wd X oa := ⟨_, rfl⟩
  obtain ⟨E2, hy⟩ : ∃ l, l = getL wd X' ob := ⟨_, rfl⟩
  rw [← hx] at HX HE1 ⊢
  rw [← hy] at HY HE2 ⊢
  clear hc hcells ha hu hB hr hw hw1 hw2 hN hN' hX hY wX wY hoa hob hja hjb hx hy hb HTR
  have HB1 := Lib.hid ((Below.refl W.heap.size W).drew)
  obtain ⟨r0, r1, r2, a0, a1, a2, b0, b1, b2, i0, j0, x0, y0⟩ := HC.out _ HB1.out
  have TK1 : True := trivial
  have TK2 : True := trivial
  go_enter Try.func106, Try.ntmps106
  go_wp2
  go_region_held3 (fun W => (W.cell? ⟨br, 0, none⟩ = some (.int .i64 k) ∧ W.cell? ⟨br, 1, none⟩ = some (.int .i64 p) ∧ W.cell? ⟨br, 2, none⟩ = some (.int .i64 q) ∧ W.cell? ⟨ba, 0, none⟩ = some lv ∧ W.cell? ⟨ba, 1, none⟩ = some dv ∧ W.cell? ⟨ba, 2, none⟩ = some xv ∧ W.cell? ⟨bb, 0, none⟩ = some lu ∧ W.cell? ⟨bb, 1, none⟩ = some du ∧ W.cell? ⟨bb, 2, none⟩ = some xu ∧ W.cell? ⟨bi, 0, none⟩ = some (.slice (some ⟨gi, 0, none⟩) ni ci) ∧ W.cell? ⟨bj, 0, none⟩ = some (.slice (some ⟨gj, 0, none⟩) nj cj) ∧ W.cell? ⟨gi, j, none⟩ = some (.int .i64 oa) ∧ W.cell? ⟨gj, j, none⟩ = some (.int .i64 ob))) (exact ⟨r0, r1, r2, a0, a1, a2, b0, b1, b2, i0, j0, x0, y0⟩) (first
    | (go_at_call 73; have _t := TK1; refine (HE1.out _ HB1.out).mono ?_; rintro e w2 ⟨v1, rfl, hv, hb⟩; have RX := Lib.hid hv; have HB2 := Lib.hid (HB1.out.trans (hb.mono HB1.out.size)); clear hv hb TK1 _t r0 r1 r2 a0 a1 a2 b0 b1 b2 i0 j0 x0 y0; obtain ⟨r0, r1, r2, a0, a1, a2, b0, b1, b2, i0, j0, x0, y0⟩ := HC.out _ HB2.out)
    | (go_at_call 73; have _t := TK2; refine (HE2.out _ HB2.out).mono ?_; rintro e w3 ⟨v2, rfl, hv, hb⟩; have RY := Lib.hid hv; have RX3 := Lib.hid (RX.out.below hb (Nat.le_trans HBB.out HB2.out.size)); have HB3 := Lib.hid (HB2.out.trans (hb.mono HB2.out.size)); clear hv hb TK2 _t r0 r1 r2 a0 a1 a2 b0 b1 b2 i0 j0 x0 y0; obtain ⟨r0, r1, r2, a0, a1, a2, b0, b1, b2, i0, j0, x0, y0⟩ := HC.out _ HB3.out)
    | (go_at_call 107; refine (times_impl HR.out RX3.out RY.out (Nat.le_trans HBB.out HB3.out.size) HX.out HY.out).mono ?_; rintro e w4 ⟨v3, rfl, ho, hb⟩; have HO := Lib.hid ((OwnG.one ho).wide HB3.out.size (Nat.le_refl _) (Nat.le_refl _)).row; have HB4 := Lib.hid (HB3.out.trans (hb.mono HB3.out.size)); clear ho hb r0 r1 r2 a0 a1 a2 b0 b1 b2 i0 j0 x0 y0; obtain ⟨r0, r1, r2, a0, a1, a2, b0, b1, b2, i0, j0, x0, y0⟩ := HC.out _ HB4.out))
  clear r0 r1 r2 a0 a1 a2 b0 b1 b2 i0 j0 x0 y0
  go_wp2
  go_ret
  exact ⟨_, rfl, HO.out, HB4.out⟩

theorem sum_fn {B ba br wd j : Nat} {lv dv xv : Value} {k p q : Int} {L D X : List Int} {w W : World} (hb : Below w.heap.size w W) (hba : ba < w.heap.size) (hbr : br < w.heap.size)
    (hcells : (w.cell? ⟨ba, 0, none⟩ = some lv ∧ w.cell? ⟨ba, 1, none⟩ = some dv ∧ w.cell? ⟨ba, 2, none⟩ = some xv) ∧ (w.cell? ⟨br, 0, none⟩ = some (.int .i64 k) ∧ w.cell? ⟨br, 1, none⟩ = some (.int .i64 p) ∧ w.cell? ⟨br, 2, none⟩ = some (.int .i64 q)))
    (ha : RdT B w lv dv xv L D X) (hB : B ≤ w.heap.size) (hw : widthI k q = (wd : Int)) (hw1 : 1 ≤ wd) (hw2 : wd ≤ 6) (hj : j ≤ 4096) (hlen : j * wd + wd ≤ X.length) :
    Calls Try.prog 109 #[.int .i64 j, .pointer (some ⟨ba, 0, none⟩), .pointer (some ⟨br, 0, none⟩)] W (ClosF w W (getL wd X j)) := by
  have HE := Lib.hid (elem_rd (k := k) (p := p) (q := q) (w := W) wd j (ha.below hb hB) (Nat.le_trans hB hb.size) hw hw1 hw2 hj hlen)
  obtain ⟨⟨a0, a1, a2⟩, ⟨r0, r1, r2⟩⟩ := hcells
  have a0 := (hb.cell (p := ⟨ba, 0, none⟩) hba).trans a0
  have a1 := (hb.cell (p := ⟨ba, 1, none⟩) hba).trans a1
  have a2 := (hb.cell (p := ⟨ba, 2, none⟩) hba).trans a2
  have r0 := (hb.cell (p := ⟨br, 0, none⟩) hbr).trans r0
  have r1 := (hb.cell (p := ⟨br, 1, none⟩) hbr).trans r1
  have r2 := (hb.cell (p := ⟨br, 2, none⟩) hbr).trans r2
  have HB := Lib.hid hB
  have HW := Lib.hid hb
  have HL : Hid (0 < (getL wd X j).length) := Lib.hid (by rw [getL_len hlen]; exact hw1)
  obtain ⟨E, hE⟩ : ∃ l, l = getL wd X j := ⟨_, rfl⟩
  rw [← hE] at HE HL ⊢
  clear ha hB hw hw1 hw2 hj hlen hb hE
  go_enter Try.func109, Try.ntmps109
  go_wp2_with fail
  refine HE.out.mono ?_
  rintro e w2 ⟨v, rfl, hv, hb⟩
  have HV := Lib.hid hv
  have HB2 := Lib.hid hb
  clear hv hb HE a0 a1 a2 r0 r1 r2
  go_wp2
  go_ret
  exact ClosF.rd HV.out HB.out HB2.out HW.out.size HL.out
end Go.Proofs.Ytfdjlahaiogabaa
