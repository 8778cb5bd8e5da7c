
/- What the function literal of combineTensors answers: the element of the sum, or of the product. -/
import Derived.Test.YtfdjlahaiogabaaElemImpl
import Derived.Test.YtfdjlahaiogabaaPermuted
import Derived.Test.YtfdjlahaiogabaaAddSpec
import Derived.Deep.RegionHeld3
namespace Go.Proofs.Ytfdjlahaiogabaa
set_option maxRecDepth 20000
open Go.RowKit

set_option maxHeartbeats 6400000 in
theorem comb_plus {B bc ba br bb : Nat} {lv dv xv lu du xu : Value} {k p q : Int} {L D X L' D' X' : List Int} {wd N j : Nat} {w : World} (hc : bc < w.heap.size ∧ ba < w.heap.size ∧ br < w.heap.size ∧ bb < w.heap.size) (hcells : (w.cell? ⟨bc, 0, none⟩ = some (.func (.func 99) #[ringV k p q] #[]) ∧ w.cell? ⟨ba, 0, none⟩ = some lv ∧ w.cell? ⟨ba, 1, none⟩ = some dv ∧ w.cell? ⟨ba, 2, none⟩ = some xv ∧ w.cell? ⟨br, 0, none⟩ = some (.int .i64 k) ∧ w.cell? ⟨br, 1, none⟩ = some (.int .i64 p) ∧ w.cell? ⟨br, 2, none⟩ = some (.int .i64 q) ∧ w.cell? ⟨bb, 0, none⟩ = some lu ∧ w.cell? ⟨bb, 1, none⟩ = some du ∧ w.cell? ⟨bb, 2, none⟩ = some xu)) (ha : RdT B w lv dv xv L D X) (hu : RdT B w lu du xu L' D' X') (hB : B ≤ w.heap.size) (hr : ringB k p q = true) (hw : widthI k q = (wd : Int)) (hw1 : 1 ≤ wd) (hw2 : wd ≤ 6) (hN : N ≤ 4096) (hX : X.length = N * wd) (hY : X'.length = N * wd) (wX : Within (topI k p q) X) (wY : Within (topI k p q) X') (hj : j < N) :
    Calls Try.prog 138 #[.int .i64 j, .pointer (some ⟨bc, 0, none⟩), .pointer (some ⟨ba, 0, none⟩), .pointer (some ⟨br, 0, none⟩), .pointer (some ⟨bb, 0, none⟩)] w (NewRow w (joinF k p wd X X' false j)) := by
  have hjj := Nat.mul_le_mul_right wd (show j + 1 ≤ N by omega)
  rw [Nat.add_mul, Nat.one_mul] at hjj
  have HX := Lib.hid (getL_elem hw hX wX hj)
  have HY := Lib.hid (getL_elem hw hY wY hj)
  have HR := Lib.hid hr
  have HBB := Lib.hid hB
  have HE1 := Lib.hid (fun (W : World) (hb : Below w.heap.size w W) => elem_rd (k := k) (p := p) (q := q) wd j (ha.below hb hB) (Nat.le_trans hB hb.size) hw hw1 hw2 (by omega) (by rw [hX]; exact hjj))
  have HE2 := Lib.hid (fun (W : World) (hb : Below w.heap.size w W) => elem_rd (k := k) (p := p) (q := q) wd j (hu.below hb hB) (Nat.le_trans hB hb.size) hw hw1 hw2 (by omega) (by rw [hY]; exact hjj))
  have HC : Hid (∀ W, Below w.heap.size w W → (W.cell? ⟨bc, 0, none⟩ = some (.func (.func 99) #[ringV k p q] #[]) ∧ W.cell? ⟨ba, 0, none⟩ = some lv ∧ W.cell? ⟨ba, 1, none⟩ = some dv ∧ W.cell? ⟨ba, 2, none⟩ = some xv ∧ W.cell? ⟨br, 0, none⟩ = some (.int .i64 k) ∧ W.cell? ⟨br, 1, none⟩ = some (.int .i64 p) ∧ W.cell? ⟨br, 2, none⟩ = some (.int .i64 q) ∧ W.cell? ⟨bb, 0, none⟩ = some lu ∧ W.cell? ⟨bb, 1, none⟩ = some du ∧ W.cell? ⟨bb, 2, none⟩ = some xu)) := Lib.hid (fun W hb => by
    obtain ⟨l1, l2, l3, l4⟩ := hc
    obtain ⟨c0, a0, a1, a2, r0, r1, r2, b0, b1, b2⟩ := hcells
    exact ⟨(hb.cell (p := ⟨bc, 0, none⟩) l1).trans c0, (hb.cell (p := ⟨ba, 0, none⟩) l2).trans a0, (hb.cell (p := ⟨ba, 1, none⟩) l2).trans a1, (hb.cell (p := ⟨ba, 2, none⟩) l2).trans a2, (hb.cell (p := ⟨br, 0, none⟩) l3).trans r0, (hb.cell (p := ⟨br, 1, none⟩) l3).trans r1, (hb.cell (p := ⟨br, 2, none⟩) l3).trans r2, (hb.cell (p := ⟨bb, 0, none⟩) l4).trans b0, (hb.cell (p := ⟨bb, 1, none⟩) l4).trans b1, (hb.cell (p := ⟨bb, 2, none⟩) l4).trans b2⟩)
  have HRES : Hid (joinF k p wd X X' false j = plusL k p (getL wd X j) (getL wd X' j)) := Lib.hid (by unfold joinF; simp)
  rw [HRES.out]
  obtain ⟨x, hx⟩ : ∃ x, x = getL wd X j := ⟨_, rfl⟩
  obtain ⟨y, hy⟩ : ∃ y, y = getL wd X' j := ⟨_, rfl⟩
  rw [← hx] at HX HE1 ⊢
  rw [← hy] at HY HE2 ⊢
  clear hc hcells ha hu hB hr hw hw1 hw2 hN hX hY wX wY hj hjj hx hy HRES
  have HB1 := Lib.hid ((Below.refl w.heap.size w).drew)
  obtain ⟨c0, a0, a1, a2, r0, r1, r2, b0, b1, b2⟩ := HC.out _ HB1.out
  have TK1 : True := trivial
  have TK2 : True := trivial
  go_enter Try.func138, Try.ntmps138
  go_wp2
  go_region_held3 (fun W => (W.cell? ⟨bc, 0, none⟩ = some (.func (.func 99) #[ringV k p q] #[]) ∧ W.cell? ⟨ba, 0, none⟩ = some lv ∧ W.cell? ⟨ba, 1, none⟩ = some dv ∧ W.cell? ⟨ba, 2, none⟩ = some xv ∧ W.cell? ⟨br, 0, none⟩ = some (.int .i64 k) ∧ W.cell? ⟨br, 1, none⟩ = some (.int .i64 p) ∧ W.cell? ⟨br, 2, none⟩ = some (.int .i64 q) ∧ W.cell? ⟨bb, 0, none⟩ = some lu ∧ W.cell? ⟨bb, 1, none⟩ = some du ∧ W.cell? ⟨bb, 2, none⟩ = some xu)) (exact ⟨c0, a0, a1, a2, r0, r1, r2, b0, b1, b2⟩) (first
    | (go_at_call 73; have _t := TK1; refine (HE1.out _ HB1.out).mono ?_; rintro e w2 ⟨v1, rfl, hv, hb⟩; have RX := Lib.hid hv; have HB2 := Lib.hid (HB1.out.trans (hb.mono HB1.out.size)); clear hv hb TK1 _t c0 a0 a1 a2 r0 r1 r2 b0 b1 b2; obtain ⟨c0, a0, a1, a2, r0, r1, r2, b0, b1, b2⟩ := HC.out _ HB2.out)
    | (go_at_call 73; have _t := TK2; refine (HE2.out _ HB2.out).mono ?_; rintro e w3 ⟨v2, rfl, hv, hb⟩; have RY := Lib.hid hv; have RX3 := Lib.hid (RX.out.below hb (Nat.le_trans HBB.out HB2.out.size)); have HB3 := Lib.hid (HB2.out.trans (hb.mono HB2.out.size)); clear hv hb TK2 _t c0 a0 a1 a2 r0 r1 r2 b0 b1 b2; obtain ⟨c0, a0, a1, a2, r0, r1, r2, b0, b1, b2⟩ := HC.out _ HB3.out)
    | (go_at_call 99; refine (plus_impl HR.out RX3.out RY.out (Nat.le_trans HBB.out HB3.out.size) HX.out HY.out).mono ?_; rintro e w4 ⟨v3, rfl, ho, hb⟩; have HO := Lib.hid ((OwnG.one ho).wide HB3.out.size (Nat.le_refl _) (Nat.le_refl _)).row; have HB4 := Lib.hid (HB3.out.trans (hb.mono HB3.out.size)); clear ho hb c0 a0 a1 a2 r0 r1 r2 b0 b1 b2; obtain ⟨c0, a0, a1, a2, r0, r1, r2, b0, b1, b2⟩ := HC.out _ HB4.out))
  clear c0 a0 a1 a2 r0 r1 r2 b0 b1 b2
  go_wp2
  go_ret
  exact ⟨_, rfl, HO.out, HB4.out⟩

set_option maxHeartbeats 6400000 in
theorem comb_times {B bc ba br bb : Nat} {lv dv xv lu du xu : Value} {k p q : Int} {L D X L' D' X' : List Int} {wd N j : Nat} {w : World} (hc : bc < w.heap.size ∧ ba < w.heap.size ∧ br < w.heap.size ∧ bb < w.heap.size) (hcells : (w.cell? ⟨bc, 0, none⟩ = some (.func (.func 107) #[ringV k p q] #[]) ∧ w.cell? ⟨ba, 0, none⟩ = some lv ∧ w.cell? ⟨ba, 1, none⟩ = some dv ∧ w.cell? ⟨ba, 2, none⟩ = some xv ∧ w.cell? ⟨br, 0, none⟩ = some (.int .i64 k) ∧ w.cell? ⟨br, 1, none⟩ = some (.int .i64 p) ∧ w.cell? ⟨br, 2, none⟩ = some (.int .i64 q) ∧ w.cell? ⟨bb, 0, none⟩ = some lu ∧ w.cell? ⟨bb, 1, none⟩ = some du ∧ w.cell? ⟨bb, 2, none⟩ = some xu)) (ha : RdT B w lv dv xv L D X) (hu : RdT B w lu du xu L' D' X') (hB : B ≤ w.heap.size) (hr : ringB k p q = true) (hw : widthI k q = (wd : Int)) (hw1 : 1 ≤ wd) (hw2 : wd ≤ 6) (hN : N ≤ 4096) (hX : X.length = N * wd) (hY : X'.length = N * wd) (wX : Within (topI k p q) X) (wY : Within (topI k p q) X') (hj : j < N) :
    Calls Try.prog 138 #[.int .i64 j, .pointer (some ⟨bc, 0, none⟩), .pointer (some ⟨ba, 0, none⟩), .pointer (some ⟨br, 0, none⟩), .pointer (some ⟨bb, 0, none⟩)] w (NewRow w (joinF k p wd X X' true j)) := by
  have hjj := Nat.mul_le_mul_right wd (show j + 1 ≤ N by omega)
  rw [Nat.add_mul, Nat.one_mul] at hjj
  have HX := Lib.hid (getL_elem hw hX wX hj)
  have HY := Lib.hid (getL_elem hw hY wY hj)
  have HR := Lib.hid hr
  have HBB := Lib.hid hB
  have HE1 := Lib.hid (fun (W : World) (hb : Below w.heap.size w W) => elem_rd (k := k) (p := p) (q := q) wd j (ha.below hb hB) (Nat.le_trans hB hb.size) hw hw1 hw2 (by omega) (by rw [hX]; exact hjj))
  have HE2 := Lib.hid (fun (W : World) (hb : Below w.heap.size w W) => elem_rd (k := k) (p := p) (q := q) wd j (hu.below hb hB) (Nat.le_trans hB hb.size) hw hw1 hw2 (by omega) (by rw [hY]; exact hjj))
  have HC : Hid (∀ W, Below w.heap.size w W → (W.cell? ⟨bc, 0, none⟩ = some (.func (.func 107) #[ringV k p q] #[]) ∧ W.cell? ⟨ba, 0, none⟩ = some lv ∧ W.cell? ⟨ba, 1, none⟩ = some dv ∧ W.cell? ⟨ba, 2, none⟩ = some xv ∧ W.cell? ⟨br, 0, none⟩ = some (.int .i64 k) ∧ W.cell? ⟨br, 1, none⟩ = some (.int .i64 p) ∧ W.cell? ⟨br, 2, none⟩ = some (.int .i64 q) ∧ W.cell? ⟨bb, 0, none⟩ = some lu ∧ W.cell? ⟨bb, 1, none⟩ = some du ∧ W.cell? ⟨bb, 2, none⟩ = some xu)) := Lib.hid (fun W hb => by
    obtain ⟨l1, l2, l3, l4⟩ := hc
    obtain ⟨c0, a0, a1, a2, r0, r1, r2, b0, b1, b2⟩ := hcells
    exact ⟨(hb.cell (p := ⟨bc, 0, none⟩) l1).trans c0, (hb.cell (p := ⟨ba, 0, none⟩) l2).trans a0, (hb.cell (p := ⟨ba, 1, none⟩) l2).trans a1, (hb.cell (p := ⟨ba, 2, none⟩) l2).trans a2, (hb.cell (p := ⟨br, 0, none⟩) l3).trans r0, (hb.cell (p := ⟨br, 1, none⟩) l3).trans r1, (hb.cell (p := ⟨br, 2, none⟩) l3).trans r2, (hb.cell (p := ⟨bb, 0, none⟩) l4).trans b0, (hb.cell (p := ⟨bb, 1, none⟩) l4).trans b1, (hb.cell (p := ⟨bb, 2, none⟩) l4).trans b2⟩)
  have HRES : Hid (joinF k p wd X X' true j = timesL k p (getL wd X j) (getL wd X' j)) := Lib.hid (by unfold joinF; simp)
  rw [HRES.out]
  obtain ⟨x, hx⟩ : ∃ x, x = getL wd X j := ⟨_, rfl⟩
  obtain ⟨y, hy⟩ : ∃ y, y = getL wd X' j := ⟨_, rfl⟩
  rw [← hx] at HX HE1 ⊢
  rw [← hy] at HY HE2 ⊢
  clear hc hcells ha hu hB hr hw hw1 hw2 hN hX hY wX wY hj hjj hx hy HRES
  have HB1 := Lib.hid ((Below.refl w.heap.size w).drew)
  obtain ⟨c0, a0, a1, a2, r0, r1, r2, b0, b1, b2⟩ := HC.out _ HB1.out
  have TK1 : True := trivial
  have TK2 : True := trivial
  go_enter Try.func138, Try.ntmps138
  go_wp2
  go_region_held3 (fun W => (W.cell? ⟨bc, 0, none⟩ = some (.func (.func 107) #[ringV k p q] #[]) ∧ W.cell? ⟨ba, 0, none⟩ = some lv ∧ W.cell? ⟨ba, 1, none⟩ = some dv ∧ W.cell? ⟨ba, 2, none⟩ = some xv ∧ W.cell? ⟨br, 0, none⟩ = some (.int .i64 k) ∧ W.cell? ⟨br, 1, none⟩ = some (.int .i64 p) ∧ W.cell? ⟨br, 2, none⟩ = some (.int .i64 q) ∧ W.cell? ⟨bb, 0, none⟩ = some lu ∧ W.cell? ⟨bb, 1, none⟩ = some du ∧ W.cell? ⟨bb, 2, none⟩ = some xu)) (exact ⟨c0, a0, a1, a2, r0, r1, r2, b0, b1, b2⟩) (first
    | (go_at_call 73; have _t := TK1; refine (HE1.out _ HB1.out).mono ?_; rintro e w2 ⟨v1, rfl, hv, hb⟩; have RX := Lib.hid hv; have HB2 := Lib.hid (HB1.out.trans (hb.mono HB1.out.size)); clear hv hb TK1 _t c0 a0 a1 a2 r0 r1 r2 b0 b1 b2; obtain ⟨c0, a0, a1, a2, r0, r1, r2, b0, b1, b2⟩ := HC.out _ HB2.out)
    | (go_at_call 73; have _t := TK2; refine (HE2.out _ HB2.out).mono ?_; rintro e w3 ⟨v2, rfl, hv, hb⟩; have RY := Lib.hid hv; have RX3 := Lib.hid (RX.out.below hb (Nat.le_trans HBB.out HB2.out.size)); have HB3 := Lib.hid (HB2.out.trans (hb.mono HB2.out.size)); clear hv hb TK2 _t c0 a0 a1 a2 r0 r1 r2 b0 b1 b2; obtain ⟨c0, a0, a1, a2, r0, r1, r2, b0, b1, b2⟩ := HC.out _ HB3.out)
    | (go_at_call 107; refine (times_impl HR.out RX3.out RY.out (Nat.le_trans HBB.out HB3.out.size) HX.out HY.out).mono ?_; rintro e w4 ⟨v3, rfl, ho, hb⟩; have HO := Lib.hid ((OwnG.one ho).wide HB3.out.size (Nat.le_refl _) (Nat.le_refl _)).row; have HB4 := Lib.hid (HB3.out.trans (hb.mono HB3.out.size)); clear ho hb c0 a0 a1 a2 r0 r1 r2 b0 b1 b2; obtain ⟨c0, a0, a1, a2, r0, r1, r2, b0, b1, b2⟩ := HC.out _ HB4.out))
  clear c0 a0 a1 a2 r0 r1 r2 b0 b1 b2
  go_wp2
  go_ret
  exact ⟨_, rfl, HO.out, HB4.out⟩

end Go.Proofs.Ytfdjlahaiogabaa
