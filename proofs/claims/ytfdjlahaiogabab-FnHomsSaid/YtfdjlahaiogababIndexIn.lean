
/- impl.offsetIn, impl.OffsetOf, (Tensor).find. -/
import Derived.Test.YtfdjlahaiogababTensorOk
import Derived.Test.YtfdjlahaiogababTenOkImpl
import Derived.RangeFuncNested
import Derived.RangeFuncBound
import Derived.RangeFuncBox
import Derived.RangeFuncCalls
import Derived.RangeFuncLeaves
import Derived.Shelf.Abstract
import Derived.Shelf.RegionOpen
import Derived.WalkKit
import Derived.OwnWalkIn
import Derived.TacticsInMore
import Derived.LoopNIn
import Derived.LoopIn
import Derived.Test.YtfdjlahaiogababLawKit
import Derived.BigRegionIn
import Derived.Laws.OwnMore
import Derived.StillTailTactics
import Derived.OrdersIn
import Derived.Test.YtfdjlahaiogababProg
namespace Go.Proofs.Ytfdjlahaiogabab
set_option maxRecDepth 20000
open Go.RowKit

open Classical in
/-- How many indices are before a list that may be an index; else -1. -/
noncomputable def offInI (D ix : List Int) : Int := if InIx D ix then offI D ix else -1
open Classical in
theorem offInI_no {D ix : List Int} (h : ¬ InIx D ix) : offInI D ix = -1 := if_neg h
open Classical in
theorem offInI_yes {D ix : List Int} (h : InIx D ix) : offInI D ix = offI D ix := if_pos h
theorem offsetI_in {L D ix : List Int} (h : 0 ≤ sizeI L D) : offsetI L D ix = offInI D ix := by
  by_cases hi : InIx D ix
  · rw [offsetI_yes ⟨h, hi⟩, offInI_yes hi]
  · rw [offsetI_no (fun h => hi h.2), offInI_no hi]
theorem offP_to {D ix : List Int} (hD : ∀ d ∈ D, 1 ≤ d) : ∀ j, j ≤ D.length → InTo D ix j → 0 ≤ offP D ix j ∧ offP D ix j < prodL (D.take j) := by
  intro j
  induction j with
  | zero => intro _ _; simp [offP, prodL]
  | succ j ih =>
    intro hj hi
    obtain ⟨h1, h2⟩ := ih (by omega) (fun i hij => hi i (by omega))
    obtain ⟨h3, h4⟩ := hi j (by omega)
    rw [offP_succ, prodL_take_succ D j (by omega)]
    have hd : 1 ≤ D.getD j 0 := by
      rw [getD_at (List.getElem?_eq_getElem (show j < D.length by omega))]
      exact hD _ (List.getElem_mem _)
    have e1 := Int.mul_nonneg h1 (by omega : 0 ≤ D.getD j 0)
    have e2 : (offP D ix j + 1) * D.getD j 0 ≤ prodL (D.take j) * D.getD j 0 := Int.mul_le_mul_of_nonneg_right (by omega) (by omega)
    rw [Int.add_mul, Int.one_mul] at e2
    omega

set_option maxHeartbeats 1600000 in
theorem offset_in_full (a : Option Addr) (cap m : Nat) (a2 : Option Addr) (cap2 m2 B : Nat) (D ix : List Int) (w : World) (h1 : D.length = m) (h2 : ix.length = m2) (hm : m ≤ 281474976710656) (hm2 : m2 ≤ 281474976710656) (hD : ∀ d ∈ D, 1 ≤ d ∧ d ≤ 8) (hP : prodL D ≤ 4096)
    (hd : Rd B w (.slice a m cap) (ints D)) (hx : Rd B w (.slice a2 m2 cap2) (ints ix)) :
    Calls Try.prog 120 #[.slice a m cap, .slice a2 m2 cap2] w fun e w' => e = .returned (.int .i64 (offInI D ix)) ∧ w = w' := by
  have L1 := Lib.hid h1
  have L2 := Lib.hid h2
  have RD := Lib.hid hd
  have RX := Lib.hid hx
  have HD := Lib.hid hD
  have HP := Lib.hid hP
  obtain ⟨r, hr⟩ : ∃ r, r = offInI D ix := ⟨_, rfl⟩
  rw [← hr]
  have HR := Lib.hid hr
  clear h1 h2 hd hx hD hP hr
  by_cases hne : m2 = m
  case neg =>
    have HF : Hid (r = -1) := by show r = -1; rw [HR.out]; exact offInI_no (fun h => hne (by rw [← L1.out, ← L2.out]; exact h.1))
    have q2 : ((m2 : Int) != (m : Int)) = true := by simp; omega
    go_enter Try.func120, Try.ntmps120
    go_wp2
    go_ret
    exact ⟨by rw [HF.out]; rfl, rfl⟩
  subst hne
  go_enter Try.func120, Try.ntmps120
  go_wp2
  go_loop [5, 15] (fun p i => ∃ (j : Nat) (c : Int), j ≤ m2 ∧ i = .int .i64 j ∧ p = .int .i64 c ∧ 0 ≤ c ∧ c ≤ 4096 ∧ Hid (offP D ix j = c) ∧ Hid (InTo D ix j)) (fun _ i => m2 - (intOf i).toNat)
  case atStart => exact ⟨0, 0, by omega, rfl, rfl, by omega, by omega, rfl, fun i hi => by omega⟩
  case round =>
    obtain ⟨j, c, hj, rfl, rfl, hc1, hc2, HC, HI⟩ := hrel
    by_cases hlt : j < m2
    · obtain ⟨d, D1⟩ : ∃ d, Hid (D[j]? = some d) := ⟨_, List.getElem?_eq_getElem (by rw [L1.out]; exact hlt)⟩
      obtain ⟨x, X1⟩ : ∃ x, Hid (ix[j]? = some x) := ⟨_, List.getElem?_eq_getElem (by rw [L2.out]; exact hlt)⟩
      obtain ⟨b, off, rfl, -, e1⟩ := RD.out.cellAt D1.out
      obtain ⟨b2, off2, rfl, -, e2⟩ := RX.out.cellAt X1.out
      by_cases hx0 : x < 0
      · have HF : Hid (r = -1) := by
          show r = -1
          rw [HR.out]
          refine offInI_no (fun h => ?_)
          have h2 := h.2 j (by rw [L1.out]; exact hlt)
          rw [getD_at D1.out, getD_at X1.out] at h2
          omega
        go_wp2
        go_ret
        exact ⟨by rw [HF.out]; rfl, rfl⟩
      · by_cases hxd : d ≤ x
        · have HF : Hid (r = -1) := by
            show r = -1
            rw [HR.out]
            refine offInI_no (fun h => ?_)
            have h2 := h.2 j (by rw [L1.out]; exact hlt)
            rw [getD_at D1.out, getD_at X1.out] at h2
            omega
          have q3 : decide (d ≤ x) = true := by simpa using hxd
          go_wp2
          go_ret
          exact ⟨by rw [HF.out]; rfl, rfl⟩
        · have q3 : decide (d ≤ x) = false := by simpa using hxd
          have hd := HD.out d (List.mem_of_getElem? D1.out)
          have hd1 := hd.1
          have hd2 := hd.2
          have HS2 : Hid (InTo D ix (j + 1)) := by
            intro i hi
            by_cases hij : i < j
            · exact HI.out i hij
            · obtain rfl : i = j := by omega
              rw [getD_at D1.out, getD_at X1.out]
              omega
          have hr := offP_to (fun d hd => (HD.out d hd).1) (j + 1) (by rw [L1.out]; omega) HS2.out
          have hpl := prodL_take_le (fun d hd => (HD.out d hd).1) (j + 1)
          have hpp := HP.out
          have hs : offP D ix (j + 1) = c * d + x := by rw [offP_succ, getD_at D1.out, getD_at X1.out, HC.out]
          have hm2 := mul_inT (c := c) (d := d) (by omega) (by omega) (by omega) (by omega)
          have hw : IntKind.i64.wrap (c * d) = c * d := IntWalk.i64_in _ (by omega)
          have hw2 : IntKind.i64.wrap (c * d + x) = c * d + x := IntWalk.i64_in _ (by omega)
          have hb1 : 0 ≤ c * d + x := by omega
          have hb2 : c * d + x ≤ 4096 := by omega
          have HS := Lib.hid hs
          clear hs hr hpl hpp hd
          go_wp2
          go_round
          case rel => exact ⟨j + 1, c * d + x, by omega, by go_num, rfl, hb1, hb2, HS, HS2⟩
          case measure => simp [intOf]; omega
    · have hnlt : ¬ (j : Int) < (m2 : Int) := by omega
      have HF : Hid (r = c) := by
        show _ = _
        have e : j = D.length := by rw [L1.out]; omega
        rw [HR.out, offInI_yes ⟨by rw [L1.out, L2.out], fun i hi => HI.out i (by omega)⟩, offI_is, ← e]
        exact HC.out
      go_wp2
      go_ret
      exact ⟨by rw [HF.out]; rfl, rfl⟩
theorem offset_in {B : Nat} {dv iv : Value} {D ix : List Int} {w : World} (hd : Rd B w dv (ints D)) (hx : Rd B w iv (ints ix)) (hm : D.length ≤ 281474976710656) (hm2 : ix.length ≤ 281474976710656) (hD : ∀ d ∈ D, 1 ≤ d ∧ d ≤ 8) (hP : prodL D ≤ 4096) :
    Calls Try.prog 120 #[dv, iv] w fun e w' => e = .returned (.int .i64 (offInI D ix)) ∧ w = w' := by
  obtain ⟨a, cap, rfl, -⟩ := ints_form hd
  obtain ⟨a2, cap2, rfl, -⟩ := ints_form hx
  exact offset_in_full a cap _ a2 cap2 _ B D ix w rfl rfl hm hm2 hD hP hd hx
theorem sizeI_parts {L D : List Int} (h : 0 ≤ sizeI L D) : AxesV L D ∧ prodL D ≤ 4096 := by
  rcases sizeI_cases L D with ⟨h1, h2⟩ | ⟨h1, h2, h3, h4⟩
  · omega
  · exact ⟨h2, h4⟩

set_option maxHeartbeats 1600000 in
theorem offset_of_impl {B : Nat} {lv dv xv iv : Value} {L D X ix : List Int} {w : World} (h : RdT B w lv dv xv L D X) (hi : Rd B w iv (ints ix)) (hB : B ≤ w.heap.size) (hn : LenT L D X) (hni : ix.length ≤ 281474976710656) (hI : allI L) :
    Calls Try.prog 50 #[tenV lv dv xv, iv] w fun e w' => e = .returned (.int .i64 (offsetI L D ix)) ∧ Below w.heap.size w w' := by
  have H0 := Lib.hid ((Held.refl w).box3 lv dv xv 28)
  have HT := Lib.hid (h.below H0.out.1 hB)
  have hBB := Nat.le_trans hB H0.out.1.size
  have HN := Lib.hid hn
  have HIX := Lib.hid hi
  have HD0 := Lib.hid h.d
  have HB0 := Lib.hid hB
  have HNI := Lib.hid hni
  obtain ⟨al, cl, rfl, -⟩ := ints_form h.l
  obtain ⟨ad, cd, rfl, -⟩ := ints_form h.d
  obtain ⟨ax, cx, rfl, -⟩ := ints_form h.x
  obtain ⟨ai, ci, rfl, -⟩ := ints_form hi
  have HSZ := Lib.hid (size_impl HT.out hBB HN.out hI)
  obtain ⟨r, hr⟩ : ∃ r, r = offsetI L D ix := ⟨_, rfl⟩
  rw [← hr]
  have HR := Lib.hid hr
  obtain ⟨s, hs⟩ : ∃ s, s = sizeI L D := ⟨_, rfl⟩
  rw [← hs] at HSZ
  have HS := Lib.hid hs
  clear h hi hB hBB hn hr hs hI hni
  by_cases hs0 : s < 0
  · have HF : Hid (r = -1) := by show r = -1; rw [HR.out]; exact offsetI_no (fun h => by rw [← HS.out] at h; omega)
    have q0 : decide (s < 0) = true := by simpa using hs0
    go_enter Try.func50, Try.ntmps50
    go_wp2_with fail
    refine (Held.call H0 HSZ.out).mono ?_
    rintro e w1 ⟨rfl, H1, c0, c1, c2, -⟩
    go_wp2
    go_ret
    exact ⟨by rw [HF.out]; rfl, H1.out.1⟩
  · have q0 : decide (s < 0) = false := by simpa using hs0
    have HPT := Lib.hid (sizeI_parts (L := L) (D := D) (by rw [← HS.out]; omega))
    have HF : Hid (offInI D ix = r) := by show _ = r; rw [HR.out]; exact (offsetI_in (by rw [← HS.out]; omega)).symm
    go_enter Try.func50, Try.ntmps50
    go_wp2_with fail
    refine (Held.call H0 HSZ.out).mono ?_
    rintro e w1 ⟨rfl, H1, c0, c1, c2, -⟩
    go_wp2_with fail
    refine (offset_in (HD0.out.below H1.out.1 HB0.out) (HIX.out.below H1.out.1 HB0.out) HN.out.d HNI.out HPT.out.1.2.2.2.1 HPT.out.2).mono ?_
    rw [HF.out]
    rintro e w2 ⟨rfl, rfl⟩
    go_wp2
    go_ret
    exact ⟨rfl, H1.out.1⟩

/-- Where the element is, or -1. -/
noncomputable def findT (k p n : Int) (L D X ix : List Int) : Int := if tensorB k p n L D X = true then offInI D ix else -1
set_option maxHeartbeats 1600000 in
theorem find_impl {B : Nat} {lv dv xv iv : Value} {k p n : Int} {L D X ix : List Int} {w : World} (h : RdT B w lv dv xv L D X) (hi : Rd B w iv (ints ix)) (hB : B ≤ w.heap.size) (hn : LenT L D X) (hni : ix.length ≤ 281474976710656) (hI : allI L) :
    Calls Try.prog 118 #[tenV lv dv xv, ringV k p n, iv] w fun e w' => e = .returned (.int .i64 (findT k p n L D X ix)) ∧ Below w.heap.size w w' := by
  have H0 : Hid (Held w ((w.alloc (.cells #[lv, dv, xv] 28)).alloc (.cells #[.int .i64 k, .int .i64 p, .int .i64 n] 31)) (ringTen (w.heap.size + 1) w.heap.size k p n lv dv xv)) := by
    have h := ((Held.refl w).box3 lv dv xv 28).box3 (.int .i64 k) (.int .i64 p) (.int .i64 n) 31
    simp only [World.size_alloc] at h
    exact h
  have HT := Lib.hid (h.below H0.out.1 hB)
  have hBB := Nat.le_trans hB H0.out.1.size
  have HN := Lib.hid hn
  have HIX := Lib.hid hi
  have HD0 := Lib.hid h.d
  have HB0 := Lib.hid hB
  have HNI := Lib.hid hni
  obtain ⟨al, cl, rfl, -⟩ := ints_form h.l
  obtain ⟨ad, cd, rfl, -⟩ := ints_form h.d
  obtain ⟨ax, cx, rfl, -⟩ := ints_form h.x
  obtain ⟨ai, ci, rfl, -⟩ := ints_form hi
  have HOK := Lib.hid (tensor_ok_impl (k := k) (p := p) (n := n) HT.out hBB HN.out hI)
  obtain ⟨r, hr⟩ : ∃ r, r = findT k p n L D X ix := ⟨_, rfl⟩
  rw [← hr]
  have HR := Lib.hid hr
  clear h hi hB hBB hn hr hI hni
  cases hok : tensorB k p n L D X with
  | false =>
    have HF : Hid (r = -1) := by show r = -1; rw [HR.out]; exact if_neg (by rw [hok]; simp)
    rw [hok] at HOK
    clear hok
    go_enter Try.func118, Try.ntmps118
    go_wp2_with fail
    refine (Held.call H0 HOK.out).mono ?_
    rintro e w1 ⟨rfl, H1, c0, c1, c2, d0, d1, d2, -⟩
    go_wp2
    go_ret
    exact ⟨by rw [HF.out]; rfl, H1.out.1⟩
  | true =>
    have HPT := Lib.hid (sizeI_parts (L := L) (D := D) (tensorB_inv hok).2.1)
    have HF : Hid (offInI D ix = r) := by show _ = r; rw [HR.out]; exact (if_pos hok).symm
    rw [hok] at HOK
    clear hok
    go_enter Try.func118, Try.ntmps118
    go_wp2_with fail
    refine (Held.call H0 HOK.out).mono ?_
    rintro e w1 ⟨rfl, H1, c0, c1, c2, d0, d1, d2, -⟩
    go_wp2_with fail
    refine (offset_in (HD0.out.below H1.out.1 HB0.out) (HIX.out.below H1.out.1 HB0.out) HN.out.d HNI.out HPT.out.1.2.2.2.1 HPT.out.2).mono ?_
    rw [HF.out]
    rintro e w2 ⟨rfl, rfl⟩
    go_wp2
    go_ret
    exact ⟨rfl, H1.out.1⟩
end Go.Proofs.Ytfdjlahaiogabab
namespace Go.Proofs.Ytfdjlahaiogabab
set_option maxRecDepth 20000
open Go.RowKit Go.Shelf

attribute [local go_sem] Oper.semAt_some

theorem drop_step (zs : List Int) (q : Nat) (h : q < zs.length) : (zs.drop q).reverse = (zs.drop (q + 1)).reverse ++ [zs[q]?.getD 0] := by
  rw [List.drop_eq_getElem_cons h, List.reverse_cons]
  simp [h]
theorem drop_prefix (zs : List Int) (q : Nat) : (zs.drop q).reverse <+: zs.reverse := by
  refine ⟨(zs.take q).reverse, ?_⟩
  rw [← List.reverse_append, List.take_append_drop]

/-- Two blocks' cells are as they were. -/
def Keeps2 (b c : Nat) (W W' : World) : Prop := (∀ o, W'.cell? ⟨b, o, none⟩ = W.cell? ⟨b, o, none⟩) ∧ (∀ o, W'.cell? ⟨c, o, none⟩ = W.cell? ⟨c, o, none⟩)
theorem Keeps2.refl (b c : Nat) (W : World) : Keeps2 b c W W := ⟨fun _ => rfl, fun _ => rfl⟩
theorem Keeps2.trans {b c : Nat} {A B C : World} (h : Keeps2 b c A B) (k : Keeps2 b c B C) : Keeps2 b c A C := ⟨fun o => (k.1 o).trans (h.1 o), fun o => (k.2 o).trans (h.2 o)⟩
theorem Keeps2.turn {b c : Nat} {w : World} (hb : b < w.heap.size) (hc : c < w.heap.size) (W : World) (l : Nat) (o o' : Obj) (hl : w.heap.size ≤ l) (h0 : W.heap[l]? = some o) (_ : o.isCells = false) (_ : o.isWalk = false) : Keeps2 b c W (W.putObj l o') := by
  have h := grownBy_putObj' W l o'
  have h1 := (Array.getElem?_eq_some_iff.1 h0).1
  exact ⟨fun q => World.cell?_of_block (w := W) (h.block b (by omega) (fun e => by cases e; omega)), fun q => World.cell?_of_block (w := W) (h.block c (by omega) (fun e => by cases e; omega))⟩
theorem Keeps2.set {b c : Nat} {W : World} {p : Addr} (hb : p.block ≠ b) (hc : p.block ≠ c) (u : Value) : Keeps2 b c W (W.setCell p u) :=
  ⟨fun _ => World.cell?_of_block (w := W) (Below.heap_setCell W p u b (fun e => hb e.symm)), fun _ => World.cell?_of_block (w := W) (Below.heap_setCell W p u c (fun e => hc e.symm))⟩

set_option maxRecDepth 100000 in
set_option maxHeartbeats 2000000 in
/-- slices.Backward's closure, for every loop body that keeps the slice's block and its box. -/
theorem back1_in (F : Fence) (n : Nat) (hf : F.fn 174) (hro : F.round = none) (hn : 1 ≤ n) (l Bs b off len cap : Nat) (zs : List Int) (hlen : zs.length = len) (hreach : len * 8 ≤ 140737488351232) (J Jx : List (Nat × Int) → World → Prop)
    (hY : ∀ pre x W, J pre W → pre.length < len → YieldAt F (n - 1) Try.prog l #[.int .i64 (x.1 : Int), .int .i64 x.2] W fun e W' =>
      (e = .returned (.bool true) ∧ J (pre ++ [x]) W' ∧ Keeps2 Bs b W W') ∨ (e = .returned (.bool false) ∧ Jx (pre ++ [x]) W'))
    (W : World) (hBs : W.cell? ⟨Bs, 0, none⟩ = some (.slice (some ⟨b, off, none⟩) len cap)) (hc : ∀ j, j < len → W.cell? ⟨b, off + j, none⟩ = some (.int .i64 (zs[j]?.getD 0))) (h0 : J [] W) :
    CallsIn F n Try.prog 174 #[.func (.yield l) #[] #[], .pointer (some ⟨Bs, 0, none⟩)] W fun e W' => (∃ v, e = .returned v) ∧
      ((∃ ys, ys.map Prod.snd = zs.reverse ∧ J ys W') ∨ (∃ pre, pre.map Prod.snd <+: zs.reverse ∧ Jx pre W')) := by
  refine callsIn_of_wp Try.func174 rfl hf ?_ hro
  simp only [Try.ntmps174, List.size_toArray, List.length_cons, List.length_nil, Nat.reduceAdd, Nat.reduceSub, Array.replicate_succ, Array.replicate_zero, List.push_toArray, List.append_toArray, List.nil_append, List.cons_append]
  have hw : IntKind.i64.wrap ((len : Int) - 1) = (len : Int) - 1 := IntWalk.i64_in _ (by omega)
  gi_wp2
  gi_loopw [3] (fun i wr => ∃ (q : Nat) (pre : List (Nat × Int)), q ≤ len ∧ i = .int .i64 ((q : Int) - 1) ∧ pre.map Prod.snd = (zs.drop q).reverse ∧ J pre wr ∧ Keeps2 Bs b W wr)
    (fun i _ => (intOf i + 1).toNat)
  case atStart => exact ⟨len, [], Nat.le_refl _, rfl, by simp [← hlen], h0, Keeps2.refl _ _ _⟩
  case round =>
    obtain ⟨q, pre, hq, rfl, hpre, hJs, hnx⟩ := hrel
    have hpl : pre.length = len - q := by have := congrArg List.length hpre; simpa [hlen] using this
    cases q with
    | zero =>
      gi_wp2
      go_end0
      exact ⟨⟨_, rfl⟩, .inl ⟨pre, by simpa using hpre, hJs⟩⟩
    | succ q =>
      have hcx : wr.cell? ⟨b, off + q, none⟩ = some (.int .i64 (zs[q]?.getD 0)) := (hnx.2 (off + q)).trans (hc q (by omega))
      have hbs : wr.cell? ⟨Bs, 0, none⟩ = some (.slice (some ⟨b, off, none⟩) len cap) := (hnx.1 0).trans hBs
      obtain ⟨fn, tmps, assign, body, hy, hR⟩ := hY pre (q, zs[q]?.getD 0) wr hJs (by omega)
      dsimp only at hy
      have e1 : ((q + 1 : Nat) : Int) - 1 = (q : Int) := by omega
      have hpre2 : (pre ++ [(q, zs[q]?.getD 0)]).map Prod.snd = (zs.drop q).reverse := by rw [List.map_append, hpre, drop_step zs q (by omega)]; rfl
      have hw2 : IntKind.i64.wrap ((q : Int) - 1) = (q : Int) - 1 := IntWalk.i64_in _ (by omega)
      clear hpre hpl
      rw [e1]
      gi_wp2
      refine hR.mono ?_
      rintro e W3 (⟨rfl, hJ3, hk3⟩ | ⟨rfl, hJx3⟩)
      · gi_wp2
        go_roundw
        case rel => exact ⟨q, _, by omega, rfl, hpre2, hJ3, hnx.trans hk3⟩
        case measure => simp [intOf]
      · gi_wp2
        refine bodyPost_ret (results_none rfl _ _ _) rfl ?_
        exact ⟨⟨_, rfl⟩, .inr ⟨_, by rw [hpre2]; exact drop_prefix zs q, hJx3⟩⟩

set_option maxHeartbeats 1000000 in
/-- slices.Backward: the slice is boxed; the function value captures the box. -/
theorem back_in (F : Fence) (n : Nat) (hf : F.fn 150) (hro : F.round = none) (a : Option Addr) (len cap : Nat) (w : World) :
    CallsIn F n Try.prog 150 #[.slice a len cap] w fun e w' => e = .returned (.func (.func 174) #[] #[.pointer (some ⟨w.heap.size, 0, none⟩)]) ∧ w' = w.alloc (.cells #[.slice a len cap] 24) := by
  refine callsIn_of_wp Try.func150 rfl hf ?_ hro
  simp only [Try.ntmps150, List.size_toArray, List.length_cons, List.length_nil, Nat.reduceAdd, Nat.reduceSub, Array.replicate_succ, Array.replicate_zero, List.push_toArray, List.append_toArray, List.nil_append, List.cons_append]
  gi_wp2
  go_ret
  exact ⟨rfl, rfl⟩

/-- slices.Backward hands back a value that yields the integers from the last one to the first. -/
theorem back_stops (F : Fence) (n : Nat) (hf : F.fn 174) (hro : F.round = none) (hn : 1 ≤ n) (Bs b off cap : Nat) (zs : List Int) (hreach : zs.length * 8 ≤ 140737488351232) (w : World) (hBs : Bs < w.heap.size) (hb : b < w.heap.size)
    (hc : w.cell? ⟨Bs, 0, none⟩ = some (.slice (some ⟨b, off, none⟩) zs.length cap)) (hI : ∀ j, j < zs.length → w.cell? ⟨b, off + j, none⟩ = some (.int .i64 (zs[j]?.getD 0))) :
    SeqStopsK F n Try.prog 174 #[.pointer (some ⟨Bs, 0, none⟩)] (fun x : Nat × Int => #[Value.int .i64 (x.1 : Int), Value.int .i64 x.2]) (Keeps2 Bs b) (fun ys => ys.map Prod.snd = zs.reverse)
      (fun pre => pre.map Prod.snd <+: zs.reverse) zs.length w := fun l J Jx W hW _ _ hY h0 =>
  back1_in F n hf hro hn l Bs b off zs.length cap zs rfl hreach J Jx hY W ((hW.cell (p := ⟨Bs, 0, none⟩) hBs).trans hc) (fun j hj => (hW.cell (p := ⟨b, off + j, none⟩) hb).trans (hI j hj)) h0

/-- One step of Horner's way, as the program reckons. -/
def hornStep (a p v x : Int) : Int := (wrap64 (wrap64 (v * a) + x)).tmod p
theorem wrap64_in {x : Int} (h1 : 0 ≤ x) (h2 : x ≤ 9223372036854775807) : wrap64 x = x := by unfold wrap64; omega
def hornL (a p : Int) (xs : List Int) : Int := xs.foldl (hornStep a p) 0
theorem hornL_snoc (a p : Int) (xs : List Int) (x : Int) : hornL a p (xs ++ [x]) = hornStep a p (hornL a p xs) x := by simp [hornL]
set_option maxRecDepth 100000 in
set_option maxHeartbeats 2000000 in
theorem value_in (F : Fence) (n : Nat) (h3 : F.fn 144) (h5 : F.fn 150) (h7 : F.fn 174) (hro : F.round = none) (hn : 3 ≤ n) (b off cap : Nat) (zs : List Int) (a p : Int) (hp : ¬ p = 0) (hreach : zs.length * 8 ≤ 140737488351232) (w : World) (hb : b < w.heap.size)
    (hI : ∀ j, j < zs.length → w.cell? ⟨b, off + j, none⟩ = some (.int .i64 (zs[j]?.getD 0))) :
    CallsIn F n Try.prog 144 #[.slice (some ⟨b, off, none⟩) zs.length cap, .int .i64 a, .int .i64 p] w fun e W' => e = .returned (.int .i64 (hornL a p zs.reverse)) ∧ Below w.heap.size w W' := by
  have h1 : 1 ≤ n := by omega
  refine callsIn_of_wp_marks Try.func144 rfl h3 ?_ hro
  simp only [Try.ntmps144, List.size_toArray, List.length_cons, List.length_nil, Nat.reduceAdd, Nat.reduceSub, Array.replicate_succ, Array.replicate_zero, List.push_toArray, List.append_toArray, List.nil_append, List.cons_append]
  gi_wp2_with (gi_at_call 150; refine (back_in F (n - 1) h5 hro _ _ _ _).mono ?_; rintro e w' ⟨rfl, rfl⟩)
  have bA := Boxed.new w 3 (.int .i64 a)
  have bP := Boxed.new (w.alloc (.cells #[.int .i64 a] 3)) 3 (.int .i64 p)
  have bV := Boxed.new ((w.alloc (.cells #[.int .i64 a] 3)).alloc (.cells #[.int .i64 p] 3)) 3 (.int .i64 0)
  have bS := Boxed.new (((w.alloc (.cells #[.int .i64 a] 3)).alloc (.cells #[.int .i64 p] 3)).alloc (.cells #[.int .i64 0] 3)) 24 (.slice (some ⟨b, off, none⟩) zs.length cap)
  have hA := (((bA.alloc (.cells #[.int .i64 p] 3)).alloc (.cells #[.int .i64 0] 3)).alloc (.cells #[.slice (some ⟨b, off, none⟩) zs.length cap] 24)).cell
  have hP := ((bP.alloc (.cells #[.int .i64 0] 3)).alloc (.cells #[.slice (some ⟨b, off, none⟩) zs.length cap] 24)).cell
  have hV := (bV.alloc (.cells #[.slice (some ⟨b, off, none⟩) zs.length cap] 24)).cell
  have hF := (bV.alloc (.cells #[.slice (some ⟨b, off, none⟩) zs.length cap] 24)).frozen
  have hS := bS.cell
  have hB0 : Below w.heap.size w ((((w.alloc (.cells #[.int .i64 a] 3)).alloc (.cells #[.int .i64 p] 3)).alloc (.cells #[.int .i64 0] 3)).alloc (.cells #[.slice (some ⟨b, off, none⟩) zs.length cap] 24)) := ((((Below.refl _ w).alloc (Nat.le_refl _) _).alloc (by simp) _).alloc (by simp; omega) _).alloc (by simp; omega) _
  have hsz : ((((w.alloc (.cells #[.int .i64 a] 3)).alloc (.cells #[.int .i64 p] 3)).alloc (.cells #[.int .i64 0] 3)).alloc (.cells #[.slice (some ⟨b, off, none⟩) zs.length cap] 24)).heap.size = w.heap.size + 1 + 1 + 1 + 1 := by simp
  simp only [World.size_alloc] at hP hV hF hS
  clear bA bP bV bS
  generalize hW0 : (((w.alloc (.cells #[.int .i64 a] 3)).alloc (.cells #[.int .i64 p] 3)).alloc (.cells #[.int .i64 0] 3)).alloc (.cells #[.slice (some ⟨b, off, none⟩) zs.length cap] 24) = W0 at hA hP hV hF hS hB0 hsz ⊢
  clear hW0
  refine wpIn_rangeFunc_ownG hro h1 (gf := 174) (lb := #[.pointer (some ⟨w.heap.size + 1 + 1 + 1, 0, none⟩)]) rfl h7 (enters_of Try.func174 (by kernel_rfl) rfl)
    (back_stops F (n - 1) h7 hro (by omega) (w.heap.size + 1 + 1 + 1) b off cap zs hreach W0 (by omega) (by omega) hS (fun j hj => (hB0.cell (p := ⟨b, off + j, none⟩) hb).trans (hI j hj))) (fun h k => h.trans k) (Keeps2.turn (by omega) (by omega)) (Below.refl _ _) (fun _ => rfl)
    (fun pre W => ((W.cell? ⟨w.heap.size + 1 + 1, 0, none⟩ = some (.int .i64 (hornL a p (pre.map Prod.snd))) ∧ W.frozen? ⟨w.heap.size + 1 + 1, 0, none⟩ = false) ∧ W.cell? ⟨w.heap.size, 0, none⟩ = some (.int .i64 a) ∧ W.cell? ⟨w.heap.size + 1, 0, none⟩ = some (.int .i64 p)) ∧ Below w.heap.size w W)
    (fun _ _ _ => False)
    (OwnFrom.and (Own.from (fun s A B row hs hg hr => ⟨⟨cell_kept hs.1.1 hg hr, (frozen_kept hs.1.1 hg hr).trans hs.1.2⟩, cell_kept hs.2.1 hg hr, cell_kept hs.2.2 hg hr⟩) _) (ownFrom_below (Nat.le_refl _) (by omega)))
    (fun _ _ _ _ _ hs _ _ => hs)
    ⟨⟨⟨hV, hF⟩, hA, hP⟩, hB0⟩
    (fun x => { tmps := #[.slice (some ⟨b, off, none⟩) zs.length cap, .int .i64 a, .int .i64 p, undef, .pointer (some ⟨w.heap.size, 0, none⟩), .pointer (some ⟨w.heap.size + 1, 0, none⟩), .int .i64 0, .pointer (some ⟨w.heap.size + 1 + 1, 0, none⟩), undef, .int .i64 x.2, .slice (some ⟨b, off, none⟩) zs.length cap, .func (.func 174) #[] #[.pointer (some ⟨w.heap.size + 1 + 1 + 1, 0, none⟩)], .int .i64 (x.1 : Int), .int .i64 x.2, undef, undef, undef, undef, undef, undef, undef, undef], defers := [] }) ?assign ?body ?done ?stop
  case assign =>
    intro l x W K hK
    gi_wp2
    exact hK
  case body =>
    rintro l pre x W ⟨⟨⟨hc, hf⟩, ha, hq⟩, hB⟩ _
    gi_wp2
    exact ⟨(KeepsOthers.setCell _ _ _).from _, Keeps2.set (by show w.heap.size + 1 + 1 ≠ w.heap.size + 1 + 1 + 1; omega) (by show w.heap.size + 1 + 1 ≠ b; omega) _,
      ⟨⟨by rw [List.map_append]; exact (hornL_snoc a p (pre.map Prod.snd) x.2).symm ▸ World.cell?_setCell_same' _ _ _ (by rw [hc]; rfl), by rw [World.frozen?_setCell]; exact hf⟩,
        (World.cell?_of_block (w := W) (Below.heap_setCell W ⟨w.heap.size + 1 + 1, 0, none⟩ _ w.heap.size (by show w.heap.size ≠ w.heap.size + 1 + 1; omega))).trans ha,
        (World.cell?_of_block (w := W) (Below.heap_setCell W ⟨w.heap.size + 1 + 1, 0, none⟩ _ (w.heap.size + 1) (by show w.heap.size + 1 ≠ w.heap.size + 1 + 1; omega))).trans hq⟩,
      hB.setCell (p := ⟨w.heap.size + 1 + 1, 0, none⟩) (by show w.heap.size ≤ w.heap.size + 1 + 1; omega) _⟩
  case done =>
    rintro D ys W hD hys ⟨⟨⟨hc, hf⟩, ha, hq⟩, hB⟩ hK
    gi_wp2
    refine ⟨by simp, .inl ⟨_, _, rfl, run_takeDeferred hK, ?_⟩⟩
    exact ⟨_, results_tmp rfl _ _ _, rfl, hB.trans (belowK_b (w := w) (Nat.le_refl _) W D _ _ (by omega) hK rfl rfl)⟩
  case stop =>
    rintro D c pre W _ _ h _
    exact h.elim
/-- impl.valueAt on integers in their range: Horner's way modulo p. -/
def hornV (a p : Int) (xs : List Int) : Int := xs.foldl (fun v x => (v * a + x) % p) 0
theorem horn_eq {a p : Int} (ha : 0 ≤ a) (hap : a < p) (hp : p ≤ 1000003) (xs : List Int) (hx : ∀ x ∈ xs, 0 ≤ x ∧ x ≤ 1000003) : hornL a p xs = hornV a p xs := by
  have key : ∀ (xs : List Int) (v : Int), (∀ x ∈ xs, 0 ≤ x ∧ x ≤ 1000003) → 0 ≤ v → v ≤ 1000003 → xs.foldl (hornStep a p) v = xs.foldl (fun v x => (v * a + x) % p) v := by
    intro xs
    induction xs with
    | nil => intro v _ _ _; rfl
    | cons x xs ih =>
      intro v hx h0 h1
      have h2 := hx x (by simp)
      have h3 : 0 ≤ v * a ∧ v * a ≤ 1000003 * 1000003 := ⟨Int.mul_nonneg h0 ha, Int.mul_le_mul h1 (by omega) ha (by omega)⟩
      have h4 : hornStep a p v x = (v * a + x) % p := by
        unfold hornStep
        rw [wrap64_in h3.1 (by omega), wrap64_in (by omega) (by omega), Int.tmod_eq_emod_of_nonneg (by omega)]
      have h5 := Int.emod_nonneg (v * a + x) (show p ≠ 0 by omega)
      have h6 := Int.emod_lt_of_pos (v * a + x) (show 0 < p by omega)
      rw [List.foldl_cons, List.foldl_cons, h4]
      exact ih _ (fun y hy => hx y (List.mem_cons_of_mem _ hy)) h5 (by omega)
  exact key xs 0 hx (by omega) (by omega)
theorem value_at (b off cap m : Nat) (xs : List Int) (a p : Int) (w : World) (hm : xs.length = m) (hm1 : m ≤ 6) (ha : 0 ≤ a) (hap : a < p) (hp : p ≤ 1000003) (hx : ∀ x ∈ xs, 0 ≤ x ∧ x ≤ 1000003) (hb : b < w.heap.size)
    (hc : ∀ i (h : i < xs.length), w.cell? ⟨b, off + i, none⟩ = some (.int .i64 xs[i])) :
    Calls Try.prog 144 #[.slice (some ⟨b, off, none⟩) m cap, .int .i64 a, .int .i64 p] w fun e w' => e = .returned (.int .i64 (hornV a p xs.reverse)) ∧ Below w.heap.size w w' := by
  subst hm
  refine (callsIn_wide (n := 3)).1 ?_
  rw [← horn_eq ha hap hp xs.reverse (fun x h => hx x (by simpa using h))]
  exact value_in _ 3 trivial trivial trivial rfl (Nat.le_refl _) b off cap xs a p (by omega) (by omega) w hb (fun j hj => by rw [hc j hj]; simp [hj])
end Go.Proofs.Ytfdjlahaiogabab
namespace Go.Proofs.Ytfdjlahaiogabab
set_option maxRecDepth 20000
open Go.RowKit Go.Shelf

attribute [local go_sem] Oper.semAt_some

/-- An axis with its dimension. -/
abbrev AxisOf (D : List Int) := { x : Nat × Int // D[x.1]? = some x.2 }
/-- These are the last axes, the last one first. -/
def LastOnes {D : List Int} (m : Nat) (pre : List (AxisOf D)) : Prop := ∀ (i : Nat) (x : AxisOf D), pre[i]? = some x → x.1.1 + i + 1 = m
theorem LastOnes.nil {D : List Int} (m : Nat) : LastOnes (D := D) m [] := fun i x h => by simp at h
theorem LastOnes.snoc {D : List Int} {m : Nat} {pre : List (AxisOf D)} {x : AxisOf D} (h : LastOnes m pre) (hx : x.1.1 + pre.length + 1 = m) : LastOnes m (pre ++ [x]) := fun i y hy => by
  by_cases hi : i < pre.length
  · rw [List.getElem?_append_left hi] at hy
    exact h i y hy
  · by_cases e : i = pre.length
    · subst e
      simp at hy
      subst hy
      exact hx
    · rw [List.getElem?_eq_none (by simp; omega)] at hy
      cases hy
theorem LastOnes.init {D : List Int} {m : Nat} {pre : List (AxisOf D)} {x : AxisOf D} (h : LastOnes m (pre ++ [x])) : LastOnes m pre ∧ x.1.1 + pre.length + 1 = m :=
  ⟨fun i y hy => h i y (by rw [List.getElem?_append_left (List.getElem?_eq_some_iff.1 hy).1]; exact hy), h pre.length x (by simp)⟩

set_option maxRecDepth 100000 in
set_option maxHeartbeats 2000000 in
/-- slices.Backward's closure, told of the places, too. -/
theorem back3_in (F : Fence) (n : Nat) (hf : F.fn 174) (hro : F.round = none) (hn : 1 ≤ n) (l Bs b off len cap : Nat) (a : Option Addr) (zs : List Int) (hlen : zs.length = len) (ha : 0 < len → a = some ⟨b, off, none⟩) (hreach : len * 8 ≤ 140737488351232) (J Jx : List (AxisOf zs) → World → Prop)
    (hY : ∀ pre (x : AxisOf zs) W, J pre W → pre.length < len → YieldAt F (n - 1) Try.prog l #[.int .i64 (x.1.1 : Int), .int .i64 x.1.2] W fun e W' =>
      (e = .returned (.bool true) ∧ J (pre ++ [x]) W' ∧ Keeps2 Bs b W W') ∨ (e = .returned (.bool false) ∧ Jx (pre ++ [x]) W'))
    (W : World) (hBs : W.cell? ⟨Bs, 0, none⟩ = some (.slice a len cap)) (hc : ∀ j, j < len → W.cell? ⟨b, off + j, none⟩ = some (.int .i64 (zs[j]?.getD 0))) (h0 : J [] W) :
    CallsIn F n Try.prog 174 #[.func (.yield l) #[] #[], .pointer (some ⟨Bs, 0, none⟩)] W fun e W' => (∃ v, e = .returned v) ∧
      ((∃ ys : List (AxisOf zs), (LastOnes len ys ∧ ys.length = len) ∧ J ys W') ∨ (∃ pre : List (AxisOf zs), True ∧ Jx pre W')) := by
  refine callsIn_of_wp Try.func174 rfl hf ?_ hro
  simp only [Try.ntmps174, List.size_toArray, List.length_cons, List.length_nil, Nat.reduceAdd, Nat.reduceSub, Array.replicate_succ, Array.replicate_zero, List.push_toArray, List.append_toArray, List.nil_append, List.cons_append]
  have hw : IntKind.i64.wrap ((len : Int) - 1) = (len : Int) - 1 := IntWalk.i64_in _ (by omega)
  have HA := Lib.hid ha
  clear ha
  gi_wp2
  gi_loopw [3] (fun i wr => ∃ (q : Nat) (pre : List (AxisOf zs)), q ≤ len ∧ i = .int .i64 ((q : Int) - 1) ∧ Hid (LastOnes len pre ∧ pre.length = len - q) ∧ J pre wr ∧ Keeps2 Bs b W wr)
    (fun i _ => (intOf i + 1).toNat)
  case atStart => exact ⟨len, [], Nat.le_refl _, rfl, ⟨LastOnes.nil _, by simp⟩, h0, Keeps2.refl _ _ _⟩
  case round =>
    obtain ⟨q, pre, hq, rfl, HPRE, hJs, hnx⟩ := hrel
    cases q with
    | zero =>
      gi_wp2
      go_end0
      exact ⟨⟨_, rfl⟩, .inl ⟨pre, ⟨HPRE.out.1, by have := HPRE.out.2; omega⟩, hJs⟩⟩
    | succ q =>
      obtain rfl := HA.out (by omega)
      have hcx : wr.cell? ⟨b, off + q, none⟩ = some (.int .i64 (zs[q]?.getD 0)) := (hnx.2 (off + q)).trans (hc q (by omega))
      have hbs : wr.cell? ⟨Bs, 0, none⟩ = some (.slice (some ⟨b, off, none⟩) len cap) := (hnx.1 0).trans hBs
      have HZQ : Hid (zs[q]? = some (zs[q]?.getD 0)) := by show _ = _; rw [List.getElem?_eq_getElem (by omega)]; rfl
      have hpl : pre.length < len := by have := HPRE.out.2; omega
      obtain ⟨fn, tmps, assign, body, hy, hR⟩ := hY pre ⟨(q, zs[q]?.getD 0), HZQ.out⟩ wr hJs hpl
      dsimp only at hy
      have e1 : ((q + 1 : Nat) : Int) - 1 = (q : Int) := by omega
      have HPRE2 : Hid (LastOnes len (pre ++ [⟨(q, zs[q]?.getD 0), HZQ.out⟩]) ∧ (pre ++ [(⟨(q, zs[q]?.getD 0), HZQ.out⟩ : AxisOf zs)]).length = len - q) :=
        ⟨HPRE.out.1.snoc (by have := HPRE.out.2; show q + pre.length + 1 = len; omega), by have := HPRE.out.2; simp; omega⟩
      have hw2 : IntKind.i64.wrap ((q : Int) - 1) = (q : Int) - 1 := IntWalk.i64_in _ (by omega)
      clear hpl HPRE
      rw [e1]
      gi_wp2
      refine hR.mono ?_
      rintro e W3 (⟨rfl, hJ3, hk3⟩ | ⟨rfl, hJx3⟩)
      · gi_wp2
        go_roundw
        case rel => exact ⟨q, _, by omega, rfl, HPRE2, hJ3, hnx.trans hk3⟩
        case measure => simp [intOf]
      · gi_wp2
        refine bodyPost_ret (results_none rfl _ _ _) rfl ?_
        exact ⟨⟨_, rfl⟩, .inr ⟨_, trivial, hJx3⟩⟩
theorem back3_stops (F : Fence) (n : Nat) (hf : F.fn 174) (hro : F.round = none) (hn : 1 ≤ n) (Bs b off len cap : Nat) (a : Option Addr) (zs : List Int) (hlen : zs.length = len) (ha : 0 < len → a = some ⟨b, off, none⟩) (hreach : len * 8 ≤ 140737488351232) (w : World) (hBs : Bs < w.heap.size) (hb : b < w.heap.size)
    (hc : w.cell? ⟨Bs, 0, none⟩ = some (.slice a len cap)) (hI : ∀ j, j < len → w.cell? ⟨b, off + j, none⟩ = some (.int .i64 (zs[j]?.getD 0))) :
    SeqStopsK F n Try.prog 174 #[.pointer (some ⟨Bs, 0, none⟩)] (fun x : AxisOf zs => #[Value.int .i64 (x.1.1 : Int), Value.int .i64 x.1.2]) (Keeps2 Bs b) (fun ys => LastOnes len ys ∧ ys.length = len)
      (fun _ => True) len w := fun l J Jx W hW _ _ hY h0 =>
  back3_in F n hf hro hn l Bs b off len cap a zs hlen ha hreach J Jx hY W ((hW.cell (p := ⟨Bs, 0, none⟩) hBs).trans hc) (fun j hj => (hW.cell (p := ⟨b, off + j, none⟩) hb).trans (hI j hj)) h0

/-- What holds behind some rounds: n is divided by the last dimensions; the last places of the row are filled. -/
def IxInv (w : World) (V : Nat) (D : List Int) (n : Int) (m : Nat) (pre : List (AxisOf D)) (W : World) : Prop :=
  ∃ (c : Int) (cs : List Value), (W.cell? ⟨w.heap.size, 0, none⟩ = some (.int .i64 c) ∧ W.frozen? ⟨w.heap.size, 0, none⟩ = false) ∧ W.cell? ⟨V, 0, none⟩ = some (.slice (some ⟨w.heap.size + 1, 0, none⟩) m m) ∧
    W.ownsRow w.heap.size 3 1 (.slice (some ⟨w.heap.size + 1, 0, none⟩) m m) m cs ∧ (0 ≤ c ∧ c ≤ 4096) ∧ Below w.heap.size w W ∧
    (LastOnes m pre → c = n / prodL (D.drop (m - pre.length)) ∧ ∀ i, m - pre.length ≤ i → cs[i]? = (ints (idxL D n))[i]?)
theorem ownsRow_not_cells {W W' : World} {base n : Nat} {E : TypeId} {v : Value} {cs : List Value} {row : Option Nat} (h : W.ownsRow base E 1 v n cs) (hg : W.grownBy W' row) (hr : ∀ r, row = some r → ∃ o : Obj, W.heap[r]? = some o ∧ o.isCells = false) : W'.ownsRow base E 1 v n cs := by
  refine h.kept hg ?_
  rcases h.2 with ⟨rfl, -⟩ | ⟨g, cap, cur, rfl, -, hgg, -⟩
  · exact .inl rfl
  · refine .inr fun e => ?_
    obtain ⟨o, ho, hc⟩ := hr g e.symm
    rw [hgg] at ho
    cases ho
    simp [Obj.isCells] at hc
theorem IxInv.own (w : World) (V : Nat) (D : List Int) (n : Int) (m B : Nat) (hB : w.heap.size ≤ B) : OwnFrom B (IxInv w V D n m) := fun pre A A' row hs hg hr => by
  obtain ⟨c, cs, ⟨h1, h2⟩, h3, h4, h5, h6, h7⟩ := hs
  have hr' := fun r e => (hr r e).2
  exact ⟨c, cs, ⟨cell_kept h1 hg hr', (frozen_kept h1 hg hr').trans h2⟩, cell_kept h3 hg hr', ownsRow_not_cells h4 hg hr', h5, h6.grown hg h6.size (fun k e => Nat.le_trans hB (hr k e).1), h7⟩

theorem IxInv.step {w W : World} {V : Nat} {D : List Int} {n c d : Int} {m q : Nat} {pre : List (AxisOf D)} {x : AxisOf D} {cs : List Value} (hDl : D.length = m) (hD : ∀ d ∈ D, 1 ≤ d ∧ d ≤ 8) (hV : w.heap.size + 1 < V) (hx : D[q]? = some d) (hq : x.1.1 = q)
    (hc : W.cell? ⟨w.heap.size, 0, none⟩ = some (.int .i64 c)) (hf : W.frozen? ⟨w.heap.size, 0, none⟩ = false) (hv : W.cell? ⟨V, 0, none⟩ = some (.slice (some ⟨w.heap.size + 1, 0, none⟩) m m)) (ho : W.ownsRow w.heap.size 3 1 (.slice (some ⟨w.heap.size + 1, 0, none⟩) m m) m cs)
    (h0 : 0 ≤ c / d) (h1 : c / d ≤ 4096) (hB : Below w.heap.size w W) (hP : LastOnes m pre → c = n / prodL (D.drop (m - pre.length)) ∧ ∀ i, m - pre.length ≤ i → cs[i]? = (ints (idxL D n))[i]?) :
    IxInv w V D n m (pre ++ [x]) ((W.setCell ⟨w.heap.size + 1, q, none⟩ (.int .i64 (c % d))).setCell ⟨w.heap.size, 0, none⟩ (.int .i64 (c / d))).drew := by
  have hql : q < m := by have := (List.getElem?_eq_some_iff.1 hx).1; omega
  have clen : cs.length = m := by have := ho.1; omega
  have st := ho.stored q (.int .i64 (c % d))
  have e1 : (W.setCell ⟨w.heap.size + 1, q, none⟩ (.int .i64 (c % d))).cell? ⟨w.heap.size, 0, none⟩ = some (.int .i64 c) :=
    (World.cell?_of_block (w := W) (Below.heap_setCell W ⟨w.heap.size + 1, q, none⟩ _ w.heap.size (by show w.heap.size ≠ w.heap.size + 1; omega))).trans hc
  have e2 : (W.setCell ⟨w.heap.size + 1, q, none⟩ (.int .i64 (c % d))).frozen? ⟨w.heap.size, 0, none⟩ = false := by rw [World.frozen?_setCell]; exact hf
  refine ⟨c / d, cs.set q (.int .i64 (c % d)), ⟨World.cell?_setCell_same' _ _ _ (by rw [e1]; rfl), ?_⟩, ?_, ?_, ⟨h0, h1⟩, ?_, fun hl => ?_⟩
  · show World.frozen? ((W.setCell ⟨w.heap.size + 1, q, none⟩ (.int .i64 (c % d))).setCell ⟨w.heap.size, 0, none⟩ (.int .i64 (c / d))) _ = false
    rw [World.frozen?_setCell]; exact e2
  · show World.cell? ((W.setCell ⟨w.heap.size + 1, q, none⟩ (.int .i64 (c % d))).setCell ⟨w.heap.size, 0, none⟩ (.int .i64 (c / d))) _ = _
    rw [World.cell?_of_block (w := W) ((Below.heap_setCell _ ⟨w.heap.size, 0, none⟩ _ V (by show V ≠ w.heap.size; omega)).trans (Below.heap_setCell W ⟨w.heap.size + 1, q, none⟩ _ V (by show V ≠ w.heap.size + 1; omega)))]
    exact hv
  · have h9 := st.1.kept (row := some w.heap.size) (grownBy_setCell' (W.setCell ⟨w.heap.size + 1, q, none⟩ (.int .i64 (c % d))) w.heap.size (.int .i64 (c / d))) (.inr (by simp [Value.ownBlock]))
    exact h9
  · exact ((hB.setCell (p := ⟨w.heap.size + 1, q, none⟩) (by show w.heap.size ≤ w.heap.size + 1; omega) _).setCell (p := ⟨w.heap.size, 0, none⟩) (Nat.le_refl _) _).drew
  · obtain ⟨hl1, hl2⟩ := hl.init
    obtain ⟨p1, p2⟩ := hP hl1
    have e3 : m - pre.length = q + 1 := by omega
    have e4 : m - (pre ++ [x]).length = q := by simp; omega
    rw [e4]
    rw [e3] at p1 p2
    refine ⟨?_, fun i hi => ?_⟩
    · rw [p1, ← getD_at hx]
      exact div_step (by omega) (fun d hd => (hD d hd).1)
    · by_cases e : i = q
      · subst e
        rw [List.getElem?_set_self (by omega)]
        have e5 : (idxL D n)[i]? = some (c % d) := by rw [idxL_at D n i (by omega), getD_at hx, ← p1]
        simp [ints, e5]
      · rw [List.getElem?_set_ne (fun e2 => e e2.symm)]
        exact p2 i (by omega)
theorem make_full_in {F : Fence} {k : Nat} {P : Program} (w : World) {ops : Array Oper} {rest : List Oper} {o : Oper} {a : Act} {Q : Exit → Act → World → Prop}
    (hg : o.guard = none) (l c : Operand) (t : TypeId) (hop : o.op = Op.makeSlice t l c)
    (base : Nat) (e : TypeId) (i : TypeInfo) (z : Value) (size : Nat) (h1 : P.underlying t = some (.slice e)) (h2 : P.info? e = some i) (h3 : i.zero = some z) (h4 : i.size = size)
    (kl kc : IntKind) (L C : Int) (n : Nat) (hl : a.eval l = .int kl L) (hc : a.eval c = .int kc C) (hL : L = (n : Int)) (hC : C = (n : Int)) (b2 : i.bytes * n ≤ 281474976710656) (b3 : n ≤ maxLen) (b4 : base ≤ w.heap.size)
    (hK : ∀ w', w'.ownsRow base e size (.slice (some ⟨w.heap.size, 0, none⟩) n n) n (madeCells z.cells (n * size)).toList → w.grownBy w' none → wpListIn F k P ops Q rest (a.put o.dst (.slice (some ⟨w.heap.size, 0, none⟩) n n)) w') :
    wpListIn F k P ops Q (o :: rest) a w := by
  refine wpListIn_plain hg fun K hK' => ?_
  obtain ⟨w', hrun, r1, r2⟩ := run_make_full (P := P) w base t e i z size h1 h2 h3 h4 kl kc n b2 b3 b4
  subst hL
  subst hC
  unfold Oper.wpIn
  refine ⟨?_, ?_⟩
  · simp [Oper.about, hop]
  · rw [Oper.semAt_plain F _ _ (by rw [hop]; intro c hc'; cases hc')]
    simp [execOp, hop, hl, hc, hrun, Result.andThen]
    exact hK' _ _ (hK w' r1 r2)

set_option maxRecDepth 100000 in
set_option maxHeartbeats 4000000 in
theorem index_in_full (F : Fence) (k : Nat) (h3 : F.fn 116) (h5 : F.fn 150) (h7 : F.fn 174) (hro : F.round = none) (hk : 3 ≤ k) (b off cap m : Nat) (a : Option Addr) (D : List Int) (n : Int) (w : World) (h1 : D.length = m) (hm : m ≤ 12) (ha : 0 < m → a = some ⟨b, off, none⟩)
    (hD : ∀ d ∈ D, 1 ≤ d ∧ d ≤ 8) (hn0 : 0 ≤ n) (hn1 : n ≤ 4096) (hb : b < w.heap.size) (hI : ∀ j, j < m → w.cell? ⟨b, off + j, none⟩ = some (.int .i64 (D[j]?.getD 0))) :
    CallsIn F k Try.prog 116 #[.slice a m cap, .int .i64 n] w (NewRow w (idxL D n)) := by
  have hk1 : 1 ≤ k := by omega
  obtain ⟨i0, hi, hz0, hz1, hz2⟩ := info_parts infoInt
  have L1 := Lib.hid h1
  have HD := Lib.hid hD
  have HN0 := Lib.hid hn0
  have HN1 := Lib.hid hn1
  have HA := Lib.hid ha
  have HI := Lib.hid hI
  clear h1 hD hn0 hn1 ha hI
  refine callsIn_of_wp_marks Try.func116 rfl h3 ?_ hro
  simp only [Try.ntmps116, List.size_toArray, List.length_cons, List.length_nil, Nat.reduceAdd, Nat.reduceSub, Array.replicate_succ, Array.replicate_zero, List.push_toArray, List.append_toArray, List.nil_append, List.cons_append]
  gi_wp2_with (first | (gi_at_make; refine make_full_in _ rfl _ _ 24 rfl w.heap.size 3 i0 (.int .i64 0) 1 Try.underlying24 hi hz0 hz1 .i64 .i64 _ _ m rfl rfl rfl rfl (by rw [hz2]; omega) (by unfold maxLen; omega) (by simp) ?_; intro w1 hown hgrow) | (gi_at_call 150; refine (back_in F (k - 1) h5 hro _ _ _ _).mono ?_; rintro e w' ⟨rfl, rfl⟩))
  obtain ⟨V, hV0⟩ : ∃ V, V = w1.heap.size := ⟨_, rfl⟩
  have hlt := hown.lt (w.heap.size + 1) (by simp [Value.ownBlock])
  have hszw : (w.alloc (.cells #[.int .i64 n] 3)).heap.size = w.heap.size + 1 := by simp
  have hsz1 : w.heap.size + 1 ≤ w1.heap.size := by have := hgrow.size; omega
  have hb1 : Below w.heap.size w w1 := ((Below.refl w.heap.size w).alloc (Nat.le_refl _) (.cells #[.int .i64 n] 3)).grown hgrow (by omega) (fun j hj => by cases hj)
  have hblk : w1.heap[w.heap.size]? = (w.alloc (.cells #[.int .i64 n] 3)).heap[w.heap.size]? := hgrow.block _ (by omega) (by intro e; cases e)
  have bN := Boxed.new w 3 (.int .i64 n)
  have hN1 : w1.cell? ⟨w.heap.size, 0, none⟩ = some (.int .i64 n) := (World.cell?_of_block hblk).trans bN.cell
  have hF1 : w1.frozen? ⟨w.heap.size, 0, none⟩ = false := (World.frozen?_of_block hblk).trans bN.frozen
  have hN : ((w1.alloc (.cells #[.slice (some ⟨w.heap.size + 1, 0, none⟩) m m] 24)).alloc (.cells #[.slice a m cap] 24)).cell? ⟨w.heap.size, 0, none⟩ = some (.int .i64 n) := by
    rw [World.cell?_alloc_lt _ _ _ (by simp; omega), World.cell?_alloc_lt _ _ _ (by simp; omega)]
    exact hN1
  have hNF : ((w1.alloc (.cells #[.slice (some ⟨w.heap.size + 1, 0, none⟩) m m] 24)).alloc (.cells #[.slice a m cap] 24)).frozen? ⟨w.heap.size, 0, none⟩ = false := by
    rw [World.frozen?_of_block (w := w1) ((Below.heap_alloc _ _ _ (by simp; omega)).trans (Below.heap_alloc _ _ _ (by simp; omega)))]
    exact hF1
  have bV := (Boxed.new w1 24 (.slice (some ⟨w.heap.size + 1, 0, none⟩) m m)).alloc (.cells #[.slice a m cap] 24)
  have hVc := bV.cell
  have hS := (Boxed.new (w1.alloc (.cells #[.slice (some ⟨w.heap.size + 1, 0, none⟩) m m] 24)) 24 (.slice a m cap)).cell
  have hO := (hown.alloc (.cells #[.slice (some ⟨w.heap.size + 1, 0, none⟩) m m] 24)).alloc (.cells #[.slice a m cap] 24)
  have hB0 : Below w.heap.size w ((w1.alloc (.cells #[.slice (some ⟨w.heap.size + 1, 0, none⟩) m m] 24)).alloc (.cells #[.slice a m cap] 24)) := (hb1.alloc hb1.size _).alloc (by simp; omega) _
  have hsz : ((w1.alloc (.cells #[.slice (some ⟨w.heap.size + 1, 0, none⟩) m m] 24)).alloc (.cells #[.slice a m cap] 24)).heap.size = V + 1 + 1 := by rw [hV0]; simp
  simp only [World.size_alloc] at hS hVc hN hNF hO
  rw [← hV0] at hS hVc hlt hsz1 ⊢
  generalize hW0 : (w1.alloc (.cells #[.slice (some ⟨w.heap.size + 1, 0, none⟩) m m] 24)).alloc (.cells #[.slice a m cap] 24) = W0 at hN hNF hVc hS hO hB0 hsz ⊢
  clear hW0 hb1 hblk bN hN1 hF1 bV hown hgrow hszw hV0
  refine wpIn_rangeFunc_ownG hro hk1 (gf := 174) (lb := #[.pointer (some ⟨V + 1, 0, none⟩)]) rfl h7 (enters_of Try.func174 (by kernel_rfl) rfl)
    (back3_stops F (k - 1) h7 hro (by omega) (V + 1) b off m cap a D L1.out HA.out (by omega) W0 (by omega) (by omega) hS (fun j hj => (hB0.cell (p := ⟨b, off + j, none⟩) hb).trans (HI.out j hj))) (fun h k => h.trans k) (Keeps2.turn (by omega) (by omega)) (Below.refl _ _) (fun _ => rfl)
    (IxInv w V D n m) (fun _ _ _ => False) (IxInv.own w V D n m _ (by omega)) (fun _ _ _ _ _ hs _ _ => hs)
    ⟨n, _, ⟨hN, hNF⟩, hVc, hO, ⟨HN0.out, HN1.out⟩, hB0, fun _ => ⟨by
      show n = n / prodL (D.drop (m - 0))
      rw [List.drop_of_length_le (by rw [L1.out]; omega), prodL_nil, Int.ediv_one], fun i hi => by
      have clen := hO.1
      rw [List.getElem?_eq_none (by simp only [List.length_nil] at hi; omega), List.getElem?_eq_none (by rw [ints_len, idxL_len, L1.out]; simp only [List.length_nil] at hi; omega)]⟩⟩
    (fun x => { tmps := #[.slice a m cap, .int .i64 n, undef, .pointer (some ⟨w.heap.size, 0, none⟩), .slice none 0 0, .pointer (some ⟨V, 0, none⟩), .int .i64 (x.1.1 : Int), .int .i64 x.1.2, .slice a m cap, .int .i64 (m : Int), .slice (some ⟨w.heap.size + 1, 0, none⟩) m m, .slice a m cap, .func (.func 174) #[] #[.pointer (some ⟨V + 1, 0, none⟩)], .int .i64 (x.1.1 : Int), .int .i64 x.1.2, undef, undef, undef, undef, undef, undef, undef, undef, undef, undef], defers := [] }) ?assign ?body ?done ?stop
  case assign =>
    intro l x W K hK
    gi_wp2
    exact hK
  case body =>
    rintro l pre x W ⟨c, cs, ⟨hc, hf⟩, hv, ho, ⟨hc0, hc1⟩, hB, hP⟩ _
    have hx := x.2
    obtain ⟨nxt, hnxt⟩ : ∃ z, z = pre ++ [x] := ⟨_, rfl⟩
    rw [← hnxt]
    generalize hqe : x.1.1 = q at hx ⊢
    generalize hde : x.1.2 = d at hx ⊢
    have HQE := Lib.hid hqe
    have HNX := Lib.hid hnxt
    have hq : q < m := by have := (List.getElem?_eq_some_iff.1 hx).1; have := L1.out; omega
    have hdd := HD.out d (List.mem_of_getElem? hx)
    have hd1 := hdd.1
    have hd2 := hdd.2
    have hmod : c.tmod d = c % d := Int.tmod_eq_emod_of_nonneg hc0
    have hdiv : c.tdiv d = c / d := Int.tdiv_eq_ediv_of_nonneg hc0
    have hm0 := Int.emod_nonneg c (show d ≠ 0 by omega)
    have hm1 := Int.emod_lt_of_pos c (show 0 < d by omega)
    have hq0 := Int.ediv_nonneg hc0 (show 0 ≤ d by omega)
    have hq1 : c / d ≤ c := Int.ediv_le_self d hc0
    have hw1 : IntKind.i64.wrap (c % d) = c % d := IntWalk.i64_in _ (by omega)
    have hw2 : IntKind.i64.wrap (c / d) = c / d := IntWalk.i64_in _ (by omega)
    have hdz : (d == 0) = false := by simp; omega
    have clen : cs.length = m := by have := ho.1; omega
    have c3 : W.cell? ⟨w.heap.size + 1, q, none⟩ = some (cs[q]'(by omega)) := by
      rw [ho.cellAt q (by omega)]; exact List.getElem?_eq_getElem _
    have f3 := ho.frozenAt q
    have HO := Lib.hid ho
    have HP := Lib.hid hP
    have HX := Lib.hid hx
    have HBW := Lib.hid hB
    clear ho hP hx hB hdd hqe hde hnxt
    gi_wp2
    gi_region
    all_goals gi_wp2
    all_goals
      rw [HNX.out]
      exact ⟨(((KeepsOthers.setCell W ⟨w.heap.size + 1, q, none⟩ (.int .i64 (c % d))).trans (KeepsOthers.setCell _ ⟨w.heap.size, 0, none⟩ (.int .i64 (c / d)))).trans (KeepsOthers.drew _)).from _,
        (Keeps2.set (p := ⟨w.heap.size + 1, q, none⟩) (by show w.heap.size + 1 ≠ V + 1; omega) (by show w.heap.size + 1 ≠ b; omega) _).trans (Keeps2.set (p := ⟨w.heap.size, 0, none⟩) (by show w.heap.size ≠ V + 1; omega) (by show w.heap.size ≠ b; omega) _),
        IxInv.step L1.out HD.out (by omega) HX.out HQE.out hc hf hv HO.out hq0 (by omega) HBW.out HP.out⟩
  case done =>
    rintro E ys W hE ⟨hys, hyl⟩ ⟨c, cs, ⟨hc, hf⟩, hv, ho, -, hB, hP⟩ hK
    have e : cs = ints (idxL D n) := by
      apply List.ext_getElem?
      intro i
      exact (hP hys).2 i (by omega)
    subst e
    gi_wp2
    refine ⟨by simp, .inl ⟨_, _, rfl, run_takeDeferred hK, ?_⟩⟩
    have h9 := ho.kept (row := some E) (grownBy_putObj' W E (.deferred none)) (.inr (by simp [Value.ownBlock]; omega))
    refine ⟨_, results_tmp rfl _ _ _, _, rfl, ?_, hB.trans (belowK_b (w := w) (Nat.le_refl _) W E _ _ (by omega) hK rfl rfl)⟩
    exact Own.of (n := m) h9 (by rw [idxL_len, L1.out])
  case stop =>
    rintro E c pre W _ _ h _
    exact h.elim
theorem index_in {B : Nat} {v : Value} {D : List Int} {w : World} (n : Int) (h : Rd B w v (ints D)) (hB : B ≤ w.heap.size) (hw : 0 < w.heap.size) (hm : D.length ≤ 12) (hD : ∀ d ∈ D, 1 ≤ d ∧ d ≤ 8) (hn0 : 0 ≤ n) (hn1 : n ≤ 4096) :
    Calls Try.prog 116 #[v, .int .i64 n] w (NewRow w (idxL D n)) := by
  refine (callsIn_wide (n := 3)).1 ?_
  rcases h.ints_cases with ⟨rfl, a, cap, rfl⟩ | ⟨b, off, cap, rfl, hb, -, hc⟩
  · exact index_in_full _ 3 trivial trivial trivial rfl (Nat.le_refl _) 0 0 cap 0 a [] n w rfl (by omega) (fun h => absurd h (by omega)) hD hn0 hn1 hw (fun j hj => absurd hj (by omega))
  · exact index_in_full _ 3 trivial trivial trivial rfl (Nat.le_refl _) b off cap _ _ D n w rfl hm (fun _ => rfl) hD hn0 hn1 (Nat.lt_of_lt_of_le hb hB) (fun j hj => by rw [hc j hj]; simp [hj])

end Go.Proofs.Ytfdjlahaiogabab
namespace Go.Proofs.Ytfdjlahaiogabab
set_option maxRecDepth 20000
open Go.RowKit

/-- Operations that call nothing. -/
def plainB : Op → Bool
  | .move _ | .assign _ | .load _ _ | .store _ _ _ | .fieldAddr _ _ _ | .indexAddr _ _ _ | .build _ _ | .binOp _ _ _ _ _ => true
  | _ => false
/-- What such an operation does: it yields, or it halts. -/
def Tame : Result Next → Prop
  | .ok (.value _) _ => True
  | .ok .skip _ => True
  | .halt _ _ => True
  | _ => False
theorem tame_value (r : Result Value) : Tame (r.andThen fun v w' => .ok (.value v) w') := by
  cases r <;> simp [Result.andThen, Tame]
theorem tame_skip (r : Result Unit) : Tame (r.andThen fun _ w' => .ok .skip w') := by
  cases r <;> simp [Result.andThen, Tame]
theorem exec_tame {P : Program} {w : World} (ρ : Operand → Value) (o : Oper) (h : plainB o.op = true) : Tame ((execOp ρ o).run P w) := by
  unfold execOp
  cases hop : o.op <;> rw [hop] at h <;> simp only [plainB, Bool.false_eq_true] at h
  all_goals simp only [Sem.run_bind, Sem.run_pure]
  all_goals first
    | exact tame_value _
    | exact tame_skip _
    | trivial
theorem wpOpIn_plain {F : Fence} {n i : Nat} {P : Program} {ops : Array Oper} {Q Q' : Exit → Act → World → Prop} {K K' : Act → World → Prop} {a : Act} {w : World} (hp : ∀ o, ops[i]? = some o → plainB o.op = true) (hL : ¬ LetsOut Q)
    (hQ : ∀ e a w, Q e a w → Q' e a w) (hK : ∀ a w, K a w → K' a w) (h : wpOp P ops Q i K a w) : wpOpIn F n P ops Q' i K' a w := by
  unfold wpOp at h
  unfold wpOpIn
  cases ho : ops[i]? with
  | none => rw [ho] at h; exact hK _ _ h
  | some o =>
    rw [ho] at h
    have hpo := hp o ho
    have hab : o.about P w a.eval = none := by
      unfold Oper.about
      cases hop : o.op <;> first | rfl | (rw [hop] at hpo; simp [plainB] at hpo)
    dsimp only at h ⊢
    split
    · rename_i hw
      rw [if_pos hw] at h
      rcases h with h | ⟨-, h⟩
      · refine ⟨fun f hf => (by rw [hab] at hf; cases hf), ?_⟩
        rw [Oper.semAt_plain F _ _ (by intro c hc; rw [hc] at hpo; simp [plainB] at hpo)]
        have ht := exec_tame (P := P) (w := w) a.eval o hpo
        unfold Oper.wp at h
        generalize (execOp a.eval o).run P w = r at h ht
        cases r with
        | ok x w' =>
          cases x <;> first | exact hK _ _ h | exact ht.elim
        | halt x w' =>
          cases x <;> first | exact hQ _ _ _ h | exact h.elim
      · exact (hL h).elim
    · rename_i hw
      rw [if_neg hw] at h
      exact ⟨fun f hf => (by rw [hab] at hf; cases hf), hK _ _ h⟩
theorem wpAnyIn_plain {F : Fence} {n : Nat} {P : Program} {md : Region.Mode} {ops : Array Oper} {Q Q' : Exit → Act → World → Prop} (hp : ∀ (i : Nat) o, ops[i]? = some o → plainB o.op = true) (hL : ¬ LetsOut Q)
    (hQ : ∀ e a w, Q e a w → Q' e a w) : ∀ (fuel : Nat) (listed : Array Bool) (a : Act) (w : World), wpAny P md ops Q fuel listed a w → wpAnyIn F n P md ops Q' fuel listed a w := by
  intro fuel
  induction fuel with
  | zero => intro listed a w h; exact ⟨h.1, hQ _ _ _ h.2⟩
  | succ fuel ih =>
    intro listed a w h
    exact ⟨fun hr => hQ _ _ _ (h.1 hr), fun i hi => wpOpIn_plain (hp i) hL hQ (fun a w h => ih _ a w h) (h.2 i hi)⟩
/-- The reads in any order, then the stores as they are written. -/
theorem wpIn_region_reads {F : Fence} {k id : Nat} {P : Program} {Q : Exit → Act → World → Prop} {a : Act} {w : World} {l : List Oper} (n : Nat) (hm : P.follows .mixedOrders = true) (hB : Region.lexTailB .any l.toArray n = true) (hp : l.all (fun o => plainB o.op) = true)
    (h : wpStill P l.toArray w.drew (fun a' => wpList P l.toArray (fun e a w => e = .normal ∧ Q .normal a w) (l.drop n) a' w.drew) (l.take n) a) : (Code.region id l.toArray true).wpIn F k P Q a w := by
  simp only [Region.lexTailB, Bool.and_eq_true, decide_eq_true_eq] at hB
  obtain ⟨⟨⟨⟨b1, b2⟩, b3⟩, b4⟩, b5⟩ := hB
  have hlen : (l.take n).length = n := by simp at b2 ⊢; omega
  have hrest : (l.drop n).length = l.toArray.size - n := by simp
  have hinv : HeadInv .any l.toArray n (Array.replicate l.toArray.size false) :=
    { size := by simp
      closed := fun j oj _ hj => by rw [getD_replicate_false] at hj; cases hj
      tail := fun t _ ht => getD_in (by simpa using ht) (getD_replicate_false _ _) }
  have h1 := wpAnyL_lex (md := .any) (g := l.toArray.size - n) b1 b3 b4 b2 (l.take n) 0 _ a (fun j hj => by
    rw [hlen] at hj; simp [hj]) (by simpa using hlen) hinv (by rw [hlen]; exact b5) h
  have h2 := wpAny_of_head (Q' := fun e a w => e = .normal ∧ Q .normal a w) (g := l.toArray.size - n) (fun listed a' hx => by
    have h3 := wpAny_of_seq (md := .any) (Q' := fun e a w => e = .normal ∧ Q .normal a w) (l.drop n) n listed a' w.drew (fun j => by simp [List.getElem?_drop]) (by rw [hrest]; exact hx.1) hx.2
    rwa [hrest] at h3) _ _ _ h1
  have e : (l.take n).length + (l.toArray.size - n) = l.toArray.size := by rw [hlen]; simp at b2 ⊢; omega
  rw [e] at h2
  refine wpIn_region_any hm (wpAnyIn_plain (Q := fun e a w => e = .normal ∧ Q .normal a w) (fun i o ho => ?_) ?_ ?_ _ _ _ _ h2)
  · exact List.all_eq_true.1 hp o (by simpa using Array.mem_of_getElem? ho)
  · rintro ⟨a, w, h, -⟩; cases h
  · rintro e a w ⟨rfl, h⟩; exact h
end Go.Proofs.Ytfdjlahaiogabab
