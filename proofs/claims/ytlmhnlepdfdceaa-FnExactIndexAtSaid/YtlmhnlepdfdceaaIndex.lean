
/- spec.IndexAt. -/
import Derived.Test.YtlmhnlepdfdceaaOffset
import Derived.Test.YtlmhnlepdfdceaaInfo
import Derived.Laws.OwnMore
namespace Go.Proofs.Ytlmhnlepdfdceaa
set_option maxRecDepth 20000
set_option maxRecDepth 20000
open Go.RowKit

theorem idxL_len (D : List Int) (n : Int) : (idxL D n).length = D.length := by simp [idxL]
theorem idxL_at (D : List Int) (n : Int) (i : Nat) (h : i < D.length) : (idxL D n)[i]? = some ((n / prodL (D.drop (i + 1))) % D.getD i 0) := by simp [idxL, h]
theorem prodL_drop_succ (D : List Int) (i : Nat) (h : i < D.length) : prodL (D.drop i) = D.getD i 0 * prodL (D.drop (i + 1)) := by
  rw [List.drop_eq_getElem_cons h, prodL_cons, getD_at (List.getElem?_eq_getElem h)]
theorem div_step {D : List Int} {n : Int} {i : Nat} (h : i < D.length) (hD : ∀ d ∈ D, 1 ≤ d) : n / prodL (D.drop (i + 1)) / D.getD i 0 = n / prodL (D.drop i) := by
  have hp := prodL_pos (D := D.drop (i + 1)) (fun d hd => hD d (List.mem_of_mem_drop hd))
  rw [prodL_drop_succ D i h, Int.mul_comm, Int.ediv_ediv_of_nonneg (by omega)]
/-- What a function answers that makes a row and says whether. -/
def NewRowB (w : World) (xs : List Int) (b : Bool) (e : Ending) (w' : World) : Prop := ∃ r, e = .returned (.tuple #[r, .bool b]) ∧ Own w' w.heap.size w'.heap.size r xs ∧ Below w.heap.size w w'

set_option maxHeartbeats 1600000 in
theorem index_spec_full (a : Option Addr) (cap m B : Nat) (D : List Int) (n : Int) (w : World) (h1 : D.length = m) (hm : m ≤ 12) (hD : ∀ d ∈ D, 1 ≤ d ∧ d ≤ 8) (hn0 : 0 ≤ n) (hn1 : n ≤ 4096) (hd : Rd B w (.slice a m cap) (ints D)) (hB : B ≤ w.heap.size) :
    Calls Try.prog 50 #[.slice a m cap, .int .i64 n] w (NewRow w (idxL D n)) := by
  have L1 := Lib.hid h1
  have RD := Lib.hid hd
  have HD := Lib.hid hD
  have HBB := Lib.hid hB
  obtain ⟨i0, hi, hz0, hz1, hz2⟩ := info_parts infoInt
  clear h1 hd hD hB
  have hwm : IntKind.i64.wrap ((m : Int) - 1) = (m : Int) - 1 := IntWalk.i64_in _ (by omega)
  go_enter Try.func50, Try.ntmps50
  go_wp2_with (at_make; go_must (refine wpList_make_full _ rfl _ _ 22 rfl w.heap.size 3 i0 (.int .i64 0) 1 Try.underlying22 hi hz0 hz1 .i64 .i64 _ _ m rfl rfl rfl rfl (by rw [hz2]; omega) (by unfold maxLen; omega) (by simp) ?_); intro w1 hown hgrow)
  have OW := Lib.hid hown
  have HB := Lib.hid ((Below.refl w.heap.size w).grown hgrow (Nat.le_refl _) (fun j hj => by cases hj))
  clear hown hgrow hi hz0 hz1 hz2
  go_loopw [1, 6] (fun p i wr => ∃ (j : Nat) (z c : Int) (cs : List Value), j ≤ m ∧ i = .int .i64 z ∧ z = (j : Int) - 1 ∧ p = .int .i64 c ∧ 0 ≤ c ∧ c ≤ 4096 ∧ Hid (c = n / prodL (D.drop j)) ∧ Hid (wr.ownsRow w.heap.size 3 1 (.slice (some ⟨w.heap.size, 0, none⟩) m m) m cs) ∧ Hid (∀ i, j ≤ i → cs[i]? = (ints (idxL D n))[i]?) ∧ Hid (Below w.heap.size w wr)) (fun _ i _ => (intOf i + 1).toNat)
  case atStart =>
    refine ⟨m, (m : Int) - 1, n, _, Nat.le_refl _, rfl, rfl, rfl, hn0, hn1, ?_, OW, fun i hi => ?_, HB⟩
    · show n = n / prodL (D.drop m)
      rw [List.drop_of_length_le (by rw [L1.out]; exact Nat.le_refl _), prodL_nil, Int.ediv_one]
    · have clen := OW.out.1
      rw [List.getElem?_eq_none (by omega), List.getElem?_eq_none (by rw [ints_len, idxL_len, L1.out]; exact hi)]
  case round =>
    obtain ⟨j, z, c, cs, hj, rfl, hz, rfl, hc0, hc1, HC, HO, HCS, HW⟩ := hrel
    by_cases h0 : j = 0
    · subst h0
      obtain rfl : z = -1 := by omega
      clear hz
      have e : cs = ints (idxL D n) := by
        apply List.ext_getElem?
        intro i
        exact HCS.out i (by omega)
      subst e
      have HR : Hid (Own wr w.heap.size wr.heap.size (.slice (some ⟨w.heap.size, 0, none⟩) m m) (idxL D n)) := Own.of (n := m) HO.out (by rw [idxL_len, L1.out])
      go_wp2
      go_ret
      exact ⟨_, rfl, HR.out, HW.out⟩
    · obtain ⟨q, rfl⟩ : ∃ q, j = q + 1 := ⟨j - 1, by omega⟩
      obtain rfl : z = (q : Int) := by omega
      have hlt : q < m := by omega
      obtain ⟨d, D1⟩ : ∃ d, Hid (D[q]? = some d) := ⟨_, List.getElem?_eq_getElem (by rw [L1.out]; exact hlt)⟩
      obtain ⟨b, off, rfl, hbB, e1⟩ := (RD.out.below HW.out HBB.out).cellAt D1.out
      have hbw : b < w.heap.size := Nat.lt_of_lt_of_le hbB HBB.out
      have hd := HD.out d (List.mem_of_getElem? D1.out)
      have hd1 := hd.1
      have hd2 := hd.2
      have hmod : c.tmod d = c % d := Int.tmod_eq_emod_of_nonneg hc0
      have hdiv : c.tdiv d = c / d := Int.tdiv_eq_ediv_of_nonneg hc0
      have hm0 := Int.emod_nonneg c (show d ≠ 0 by omega)
      have hm1 := Int.emod_lt_of_pos c (show 0 < d by omega)
      have hq0 := Int.ediv_nonneg hc0 (show 0 ≤ d by omega)
      have hq1 : c / d ≤ c := Int.ediv_le_self d hc0
      have hw1 : IntKind.i64.wrap (c % d) = c % d := IntWalk.i64_in _ (by omega)
      have hw2 : IntKind.i64.wrap (c / d) = c / d := IntWalk.i64_in _ (by omega)
      have hdz : (d == 0) = false := by simp; omega
      have clen : cs.length = m := by have := HO.out.1; omega
      have c3 : wr.cell? ⟨w.heap.size, q, none⟩ = some (cs[q]'(by omega)) := by
        rw [HO.out.cellAt q (by omega)]; exact List.getElem?_eq_getElem _
      have f3 := HO.out.frozenAt q
      have ST := Lib.hid (HO.out.stored q (.int .i64 (c % d)))
      have HN : Hid (c / d = n / prodL (D.drop q)) := by
        show _ = _
        rw [HC.out, ← getD_at D1.out]
        exact div_step (by rw [L1.out]; exact hlt) (fun d hd => (HD.out d hd).1)
      have HV : Hid ((idxL D n)[q]? = some (c % d)) := by
        show _ = _
        rw [idxL_at D n q (by rw [L1.out]; exact hlt), getD_at D1.out, ← HC.out]
      have HCL := Lib.hid clen
      clear hd hz h0
      go_wp2
      go_roundw
      case rel =>
        refine ⟨q, (q : Int) - 1, c / d, cs.set q (.int .i64 (c % d)), by omega, by go_num, rfl, rfl, hq0, by omega, HN, ST.out.1, fun i hi => ?_, HW.out.setCell (Nat.le_refl _) _⟩
        by_cases e : i = q
        · subst e
          rw [List.getElem?_set_self (by rw [HCL.out]; exact hlt)]
          simp [ints, HV.out]
        · rw [List.getElem?_set_ne (fun e2 => e e2.symm)]
          exact HCS.out i (by omega)
      case measure => simp [intOf]

theorem index_spec {B : Nat} {v : Value} {D : List Int} {w : World} (n : Int) (h : Rd B w v (ints D)) (hB : B ≤ w.heap.size) (hm : D.length ≤ 12) (hD : ∀ d ∈ D, 1 ≤ d ∧ d ≤ 8) (hn0 : 0 ≤ n) (hn1 : n ≤ 4096) :
    Calls Try.prog 50 #[v, .int .i64 n] w (NewRow w (idxL D n)) := by
  obtain ⟨a, cap, rfl, -⟩ := ints_form h
  exact index_spec_full a cap _ B D n w rfl hm hD hn0 hn1 h hB

/-- Is n the number of an index. -/
noncomputable def inSize (L D : List Int) (n : Int) : Bool := decide (0 ≤ n) && decide (n < sizeI L D)
noncomputable def indexAtL (L D : List Int) (n : Int) : List Int := if inSize L D n = true then idxL D n else []
theorem indexAtL_len (L D : List Int) (n : Int) : (indexAtL L D n).length ≤ 12 := by
  unfold indexAtL
  split
  · rename_i h
    rw [idxL_len]
    rcases sizeI_cases L D with ⟨h1, -⟩ | ⟨-, h2, -⟩
    · simp [inSize, h1] at h; omega
    · have := h2.1; have := h2.2.1; omega
  · simp
set_option maxHeartbeats 1600000 in
theorem index_at_spec {B : Nat} {lv dv xv : Value} {L D X : List Int} {w : World} (n : Int) (h : RdT B w lv dv xv L D X) (hB : B ≤ w.heap.size) (hn : LenT L D X) (hn1 : -9223372036854775808 ≤ n) (hn2 : n ≤ 9223372036854775807) :
    Calls Try.prog 23 #[tenV lv dv xv, .int .i64 n] w (NewRowB w (indexAtL L D n) (inSize L D n)) := by
  have H0 := Lib.hid ((Held.refl w).box3 lv dv xv 27)
  have HT := Lib.hid (h.below H0.out.1 hB)
  have hBB := Nat.le_trans hB H0.out.1.size
  have HN := Lib.hid hn
  have HD0 := Lib.hid h.d
  have HB0 := Lib.hid hB
  obtain ⟨al, cl, rfl, -⟩ := ints_form h.l
  obtain ⟨ad, cd, rfl, -⟩ := ints_form h.d
  obtain ⟨ax, cx, rfl, -⟩ := ints_form h.x
  obtain ⟨ml, hml⟩ : ∃ m, m = L.length := ⟨_, rfl⟩
  obtain ⟨md, hmd⟩ : ∃ m, m = D.length := ⟨_, rfl⟩
  obtain ⟨mx, hmx⟩ : ∃ m, m = X.length := ⟨_, rfl⟩
  rw [← hmd] at HD0
  rw [← hml, ← hmd, ← hmx] at H0 HT hBB ⊢
  have HSZ := Lib.hid (size_spec HT.out hBB HN.out)
  obtain ⟨s, hs⟩ : ∃ s, s = sizeI L D := ⟨_, rfl⟩
  rw [← hs] at HSZ
  have HS := Lib.hid hs
  have hsr : (-1 ≤ s ∧ s ≤ 4096) ∧ (0 ≤ s → AxesV L D) := by
    rcases sizeI_cases L D with ⟨h1, h2⟩ | ⟨h1, h2, h3, h4⟩
    · exact ⟨by omega, fun h => by omega⟩
    · exact ⟨by omega, fun _ => h2⟩
  have hs1 := hsr.1.1
  have hs2 := hsr.1.2
  have HAX := Lib.hid hsr.2
  have hw : IntKind.i64.wrap (s - 1) = s - 1 := IntWalk.i64_in _ (by omega)
  have hcin := fun w => l01_in n 0 (s - 1) w
  have hb : inB n 0 (s - 1) = inSize L D n := by
    rw [Bool.eq_iff_iff, inB_true]
    simp only [inSize, Bool.and_eq_true, decide_eq_true_eq, ← hs]
    omega
  clear h hB hBB hn hml hmd hmx hs hsr
  cases h1 : inSize L D n with
  | false =>
    rw [hb, h1] at hcin
    have HC := Lib.hid hcin
    have HF : Hid (indexAtL L D n = []) := by show _ = _; unfold indexAtL; rw [h1]; rfl
    clear hcin hb h1
    go_enter Try.func23, Try.ntmps23
    go_wp2_with fail
    refine (Held.call H0 HSZ.out).mono ?_
    rintro e w1 ⟨rfl, H1, c0, c1, c2, -⟩
    go_wp2_with fail
    refine (HC.out _).mono ?_
    rintro e w2 ⟨rfl, rfl⟩
    go_wp2
    go_ret2
    exact ⟨_, rfl, by rw [HF.out]; exact ⟨World.ownsRow_nil _ _ _ _, (fun g hg => by cases hg), Nat.le_refl _⟩, H1.out.1⟩
  | true =>
    have hnn : 0 ≤ n ∧ n < s := by
      have := hb.trans h1
      have := inB_true.1 this
      omega
    have hnn1 := hnn.1
    have HAX2 := Lib.hid (HAX.out (by omega))
    have HF : Hid (indexAtL L D n = idxL D n) := by show _ = _; unfold indexAtL; rw [h1]; rfl
    have hn4 : n ≤ 4096 := by omega
    rw [hb, h1] at hcin
    have HC := Lib.hid hcin
    clear hcin hb h1 hnn
    go_enter Try.func23, Try.ntmps23
    go_wp2_with fail
    refine (Held.call H0 HSZ.out).mono ?_
    rintro e w1 ⟨rfl, H1, c0, c1, c2, -⟩
    go_wp2_with fail
    refine (HC.out _).mono ?_
    rintro e w2 ⟨rfl, rfl⟩
    have hidx := index_spec n (HD0.out.below H1.out.1 HB0.out) (Nat.le_trans HB0.out H1.out.1.size) (by have := HAX2.out.1; have := HAX2.out.2.1; omega) HAX2.out.2.2.2.1 hnn1 hn4
    have HI := Lib.hid hidx
    clear hidx
    go_wp2_with fail
    refine HI.out.mono ?_
    rintro e w3 ⟨v, rfl, ho, hb3⟩
    have HO := Lib.hid ho
    have HB3 := Lib.hid (H1.out.1.trans (hb3.mono H1.out.1.size))
    have HZ := Lib.hid H1.out.1.size
    clear ho hb3
    go_wp2
    go_ret2
    exact ⟨_, rfl, by rw [HF.out]; exact ⟨⟨HO.out.1.1, HO.out.1.2.imp id (fun ⟨g, cap, cur, e, hb, q⟩ => ⟨g, cap, cur, e, Nat.le_trans HZ.out hb, q⟩)⟩, HO.out.2.1, HO.out.2.2⟩, HB3.out⟩
end Go.Proofs.Ytlmhnlepdfdceaa
