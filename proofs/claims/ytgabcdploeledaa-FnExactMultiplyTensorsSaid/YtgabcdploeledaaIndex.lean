
/- spec.OffsetOf, spec.IndexAt. -/
import Derived.Test.YtgabcdploeledaaTensorOk
import Derived.Test.YtgabcdploeledaaLawKit
import Derived.Laws.OwnMore
namespace Go.Proofs.Ytgabcdploeledaa
set_option maxRecDepth 20000
open Go.RowKit

/-- The offset of the first j parts of an index. -/
def offP (D ix : List Int) (j : Nat) : Int := (List.range j).foldl (fun n i => n * D.getD i 0 + ix.getD i 0) 0
theorem offP_succ (D ix : List Int) (j : Nat) : offP D ix (j + 1) = offP D ix j * D.getD j 0 + ix.getD j 0 := by simp [offP, List.range_succ, List.foldl_append]
theorem offI_is (D ix : List Int) : offI D ix = offP D ix D.length := rfl
theorem getD_at {l : List Int} {i : Nat} {x : Int} (h : l[i]? = some x) : l.getD i 0 = x := by rw [List.getD_eq_getElem?_getD, h]; rfl
theorem prodL_take_succ (D : List Int) (j : Nat) (h : j < D.length) : prodL (D.take (j + 1)) = prodL (D.take j) * D.getD j 0 := by
  rw [List.take_add_one, List.getElem?_eq_getElem h, Option.toList_some, prodL_snoc, getD_at (List.getElem?_eq_getElem h)]
theorem offP_range {D ix : List Int} (hD : ∀ d ∈ D, 1 ≤ d) (hi : InIx D ix) : ∀ j, j ≤ D.length → 0 ≤ offP D ix j ∧ offP D ix j < prodL (D.take j) := by
  intro j
  induction j with
  | zero => intro _; simp [offP, prodL]
  | succ j ih =>
    intro hj
    obtain ⟨h1, h2⟩ := ih (by omega)
    obtain ⟨h3, h4⟩ := hi.2 j (by omega)
    rw [offP_succ, prodL_take_succ D j (by omega)]
    have hd : 1 ≤ D.getD j 0 := by
      rw [getD_at (List.getElem?_eq_getElem (show j < D.length by omega))]
      exact hD _ (List.getElem_mem _)
    have e1 := Int.mul_nonneg h1 (by omega : 0 ≤ D.getD j 0)
    have e2 : (offP D ix j + 1) * D.getD j 0 ≤ prodL (D.take j) * D.getD j 0 := Int.mul_le_mul_of_nonneg_right (by omega) (by omega)
    rw [Int.add_mul, Int.one_mul] at e2
    omega
open Classical in
noncomputable def offsetI (L D ix : List Int) : Int := if 0 ≤ sizeI L D ∧ InIx D ix then offI D ix else -1
open Classical in
theorem offsetI_no {L D ix : List Int} (h : ¬ (0 ≤ sizeI L D ∧ InIx D ix)) : offsetI L D ix = -1 := if_neg h
open Classical in
theorem offsetI_yes {L D ix : List Int} (h : 0 ≤ sizeI L D ∧ InIx D ix) : offsetI L D ix = offI D ix := if_pos h
theorem offsetI_range (L D ix : List Int) : offsetI L D ix = -1 ∨ (0 ≤ sizeI L D ∧ InIx D ix ∧ offsetI L D ix = offI D ix ∧ 0 ≤ offI D ix ∧ offI D ix < sizeI L D ∧ sizeI L D ≤ 4096) := by
  by_cases h : 0 ≤ sizeI L D ∧ InIx D ix
  · right
    rcases sizeI_cases L D with h2 | ⟨h2, h3, h4, h5⟩
    · omega
    · have := offP_range (fun d hd => (h3.2.2.2.1 d hd).1) h.2 D.length (Nat.le_refl _)
      rw [List.take_length] at this
      exact ⟨h.1, h.2, offsetI_yes h, this.1, by rw [h2]; exact this.2, by omega⟩
  · exact .inl (offsetI_no h)

set_option maxHeartbeats 800000 in
theorem offset_spec_full (a : Option Addr) (cap : Nat) (a2 : Option Addr) (cap2 m B : Nat) (D ix : List Int) (w : World) (h1 : D.length = m) (h2 : ix.length = m) (hm : m ≤ 281474976710656) (hD : ∀ d ∈ D, 1 ≤ d ∧ d ≤ 8) (hP : prodL D ≤ 4096) (hi : InIx D ix)
    (hd : Rd B w (.slice a m cap) (ints D)) (hx : Rd B w (.slice a2 m cap2) (ints ix)) :
    Calls Try.prog 74 #[.slice a m cap, .slice a2 m cap2] w fun e w' => e = .returned (.int .i64 (offI D ix)) ∧ w = w' := by
  have L1 := Lib.hid h1
  have L2 := Lib.hid h2
  have RD := Lib.hid hd
  have RX := Lib.hid hx
  have HD := Lib.hid hD
  have HI := Lib.hid hi
  have HP := Lib.hid hP
  clear h1 h2 hd hx hD hi hP
  go_enter Try.func74, Try.ntmps74
  go_wp2
  go_loop [5, 10] (fun p i => ∃ (j : Nat) (c : Int), j ≤ m ∧ i = .int .i64 j ∧ p = .int .i64 c ∧ 0 ≤ c ∧ c ≤ 4096 ∧ Hid (offP D ix j = c)) (fun _ i => m - (intOf i).toNat)
  case atStart => exact ⟨0, 0, by omega, rfl, rfl, by omega, by omega, rfl⟩
  case round =>
    obtain ⟨j, c, hj, rfl, rfl, hc1, hc2, HC⟩ := hrel
    by_cases hlt : j < m
    · obtain ⟨d, D1⟩ : ∃ d, Hid (D[j]? = some d) := ⟨_, List.getElem?_eq_getElem (by rw [L1.out]; exact hlt)⟩
      obtain ⟨x, X1⟩ : ∃ x, Hid (ix[j]? = some x) := ⟨_, List.getElem?_eq_getElem (by rw [L2.out]; exact hlt)⟩
      obtain ⟨b, off, rfl, -, e1⟩ := RD.out.cellAt D1.out
      obtain ⟨b2, off2, rfl, -, e2⟩ := RX.out.cellAt X1.out
      have hd := HD.out d (List.mem_of_getElem? D1.out)
      have hd1 := hd.1
      have hd2 := hd.2
      have hr := offP_range (fun d hd => (HD.out d hd).1) HI.out (j + 1) (by rw [L1.out]; omega)
      have hpl := prodL_take_le (fun d hd => (HD.out d hd).1) (j + 1)
      have hpp := HP.out
      have hs : offP D ix (j + 1) = c * d + x := by rw [offP_succ, getD_at D1.out, getD_at X1.out, HC.out]
      have hxx := HI.out.2 j (by rw [L1.out]; exact hlt)
      rw [getD_at D1.out, getD_at X1.out] at hxx
      have hm2 := mul_inT (c := c) (d := d) (by omega) (by omega) (by omega) (by omega)
      have hw : IntKind.i64.wrap (c * d) = c * d := IntWalk.i64_in _ (by omega)
      have hw2 : IntKind.i64.wrap (c * d + x) = c * d + x := IntWalk.i64_in _ (by omega)
      have hb1 : 0 ≤ c * d + x := by omega
      have hb2 : c * d + x ≤ 4096 := by omega
      have HS := Lib.hid hs
      clear hs hr hpl hpp hxx hd
      go_wp2
      go_round
      case rel => exact ⟨j + 1, c * d + x, by omega, by go_num, rfl, hb1, hb2, HS⟩
      case measure => simp [intOf]; omega
    · obtain rfl : j = m := by omega
      have HF : Hid (offI D ix = c) := by show _ = _; rw [offI_is, L1.out]; exact HC.out
      go_wp2
      go_ret
      exact ⟨by rw [HF.out]; rfl, rfl⟩

/-- The first j parts of an index are in range. -/
def InTo (D ix : List Int) (j : Nat) : Prop := ∀ i, i < j → 0 ≤ ix.getD i 0 ∧ ix.getD i 0 < D.getD i 0
end Go.Proofs.Ytgabcdploeledaa
namespace Go.Proofs.Ytgabcdploeledaa
set_option maxRecDepth 20000
open Go.RowKit

theorem idxL_len (D : List Int) (n : Int) : (idxL D n).length = D.length := by simp [idxL]
theorem idxL_at (D : List Int) (n : Int) (i : Nat) (h : i < D.length) : (idxL D n)[i]? = some ((n / prodL (D.drop (i + 1))) % D.getD i 0) := by simp [idxL, h]
theorem prodL_drop_succ (D : List Int) (i : Nat) (h : i < D.length) : prodL (D.drop i) = D.getD i 0 * prodL (D.drop (i + 1)) := by
  rw [List.drop_eq_getElem_cons h, prodL_cons, getD_at (List.getElem?_eq_getElem h)]
theorem div_step {D : List Int} {n : Int} {i : Nat} (h : i < D.length) (hD : ∀ d ∈ D, 1 ≤ d) : n / prodL (D.drop (i + 1)) / D.getD i 0 = n / prodL (D.drop i) := by
  have hp := prodL_pos (D := D.drop (i + 1)) (fun d hd => hD d (List.mem_of_mem_drop hd))
  rw [prodL_drop_succ D i h, Int.mul_comm, Int.ediv_ediv_of_nonneg (by omega)]
/-- What a function answers that makes a row and says whether. -/
def NewRowB (w : World) (xs : List Int) (b : Bool) (e : Ending) (w' : World) : Prop := ∃ r, e = .returned (.tuple #[r, .bool b]) ∧ Own w' w.heap.size w'.heap.size r xs ∧ Below w.heap.size w w'

set_option maxHeartbeats 1600000 in
theorem index_spec_full (a : Option Addr) (cap m B : Nat) (D : List Int) (n : Int) (w : World) (h1 : D.length = m) (hm : m ≤ 12) (hD : ∀ d ∈ D, 1 ≤ d ∧ d ≤ 8) (hn0 : 0 ≤ n) (hn1 : n ≤ 4096) (hd : Rd B w (.slice a m cap) (ints D)) (hB : B ≤ w.heap.size) :
    Calls Try.prog 72 #[.slice a m cap, .int .i64 n] w (NewRow w (idxL D n)) := by
  have L1 := Lib.hid h1
  have RD := Lib.hid hd
  have HD := Lib.hid hD
  have HBB := Lib.hid hB
  obtain ⟨i0, hi, hz0, hz1, hz2⟩ := info_parts infoInt
  clear h1 hd hD hB
  have hwm : IntKind.i64.wrap ((m : Int) - 1) = (m : Int) - 1 := IntWalk.i64_in _ (by omega)
  go_enter Try.func72, Try.ntmps72
  go_wp2_with (at_make; go_must (refine wpList_make_full _ rfl _ _ 24 rfl w.heap.size 3 i0 (.int .i64 0) 1 Try.underlying24 hi hz0 hz1 .i64 .i64 _ _ m rfl rfl rfl rfl (by rw [hz2]; omega) (by unfold maxLen; omega) (by simp) ?_); intro w1 hown hgrow)
  have OW := Lib.hid hown
  have HB := Lib.hid ((Below.refl w.heap.size w).grown hgrow (Nat.le_refl _) (fun j hj => by cases hj))
  clear hown hgrow hi hz0 hz1 hz2
  go_loopw [1, 6] (fun p i wr => ∃ (j : Nat) (z c : Int) (cs : List Value), j ≤ m ∧ i = .int .i64 z ∧ z = (j : Int) - 1 ∧ p = .int .i64 c ∧ 0 ≤ c ∧ c ≤ 4096 ∧ Hid (c = n / prodL (D.drop j)) ∧ Hid (wr.ownsRow w.heap.size 3 1 (.slice (some ⟨w.heap.size, 0, none⟩) m m) m cs) ∧ Hid (∀ i, j ≤ i → cs[i]? = (ints (idxL D n))[i]?) ∧ Hid (Below w.heap.size w wr)) (fun _ i _ => (intOf i + 1).toNat)
  case atStart =>
    refine ⟨m, (m : Int) - 1, n, _, Nat.le_refl _, rfl, rfl, rfl, hn0, hn1, ?_, OW, fun i hi => ?_, HB⟩
    · show n = n / prodL (D.drop m)
      rw [List.drop_of_length_le (by rw [L1.out]; exact Nat.le_refl _), prodL_nil, Int.ediv_one]
    · have clen := OW.out.1
      rw [List.getElem?_eq_none (by omega), List.getElem?_eq_none (by rw [ints_len, idxL_len, L1.out]; exact hi)]
  case round =>
    obtain ⟨j, z, c, cs, hj, rfl, hz, rfl, hc0, hc1, HC, HO, HCS, HW⟩ := hrel
    by_cases h0 : j = 0
    · subst h0
      obtain rfl : z = -1 := by omega
      clear hz
      have e : cs = ints (idxL D n) := by
        apply List.ext_getElem?
        intro i
        exact HCS.out i (by omega)
      subst e
      have HR : Hid (Own wr w.heap.size wr.heap.size (.slice (some ⟨w.heap.size, 0, none⟩) m m) (idxL D n)) := Own.of (n := m) HO.out (by rw [idxL_len, L1.out])
      go_wp2
      go_ret
      exact ⟨_, rfl, HR.out, HW.out⟩
    · obtain ⟨q, rfl⟩ : ∃ q, j = q + 1 := ⟨j - 1, by omega⟩
      obtain rfl : z = (q : Int) := by omega
      have hlt : q < m := by omega
      obtain ⟨d, D1⟩ : ∃ d, Hid (D[q]? = some d) := ⟨_, List.getElem?_eq_getElem (by rw [L1.out]; exact hlt)⟩
      obtain ⟨b, off, rfl, hbB, e1⟩ := (RD.out.below HW.out HBB.out).cellAt D1.out
      have hbw : b < w.heap.size := Nat.lt_of_lt_of_le hbB HBB.out
      have hd := HD.out d (List.mem_of_getElem? D1.out)
      have hd1 := hd.1
      have hd2 := hd.2
      have hmod : c.tmod d = c % d := Int.tmod_eq_emod_of_nonneg hc0
      have hdiv : c.tdiv d = c / d := Int.tdiv_eq_ediv_of_nonneg hc0
      have hm0 := Int.emod_nonneg c (show d ≠ 0 by omega)
      have hm1 := Int.emod_lt_of_pos c (show 0 < d by omega)
      have hq0 := Int.ediv_nonneg hc0 (show 0 ≤ d by omega)
      have hq1 : c / d ≤ c := Int.ediv_le_self d hc0
      have hw1 : IntKind.i64.wrap (c % d) = c % d := IntWalk.i64_in _ (by omega)
      have hw2 : IntKind.i64.wrap (c / d) = c / d := IntWalk.i64_in _ (by omega)
      have hdz : (d == 0) = false := by simp; omega
      have clen : cs.length = m := by have := HO.out.1; omega
      have c3 : wr.cell? ⟨w.heap.size, q, none⟩ = some (cs[q]'(by omega)) := by
        rw [HO.out.cellAt q (by omega)]; exact List.getElem?_eq_getElem _
      have f3 := HO.out.frozenAt q
      have ST := Lib.hid (HO.out.stored q (.int .i64 (c % d)))
      have HN : Hid (c / d = n / prodL (D.drop q)) := by
        show _ = _
        rw [HC.out, ← getD_at D1.out]
        exact div_step (by rw [L1.out]; exact hlt) (fun d hd => (HD.out d hd).1)
      have HV : Hid ((idxL D n)[q]? = some (c % d)) := by
        show _ = _
        rw [idxL_at D n q (by rw [L1.out]; exact hlt), getD_at D1.out, ← HC.out]
      have HCL := Lib.hid clen
      clear hd hz h0
      go_wp2
      go_roundw
      case rel =>
        refine ⟨q, (q : Int) - 1, c / d, cs.set q (.int .i64 (c % d)), by omega, by go_num, rfl, rfl, hq0, by omega, HN, ST.out.1, fun i hi => ?_, HW.out.setCell (Nat.le_refl _) _⟩
        by_cases e : i = q
        · subst e
          rw [List.getElem?_set_self (by rw [HCL.out]; exact hlt)]
          simp [ints, HV.out]
        · rw [List.getElem?_set_ne (fun e2 => e e2.symm)]
          exact HCS.out i (by omega)
      case measure => simp [intOf]

theorem index_spec {B : Nat} {v : Value} {D : List Int} {w : World} (n : Int) (h : Rd B w v (ints D)) (hB : B ≤ w.heap.size) (hm : D.length ≤ 12) (hD : ∀ d ∈ D, 1 ≤ d ∧ d ≤ 8) (hn0 : 0 ≤ n) (hn1 : n ≤ 4096) :
    Calls Try.prog 72 #[v, .int .i64 n] w (NewRow w (idxL D n)) := by
  obtain ⟨a, cap, rfl, -⟩ := ints_form h
  exact index_spec_full a cap _ B D n w rfl hm hD hn0 hn1 h hB

/-- Is n the number of an index. -/
noncomputable def inSize (L D : List Int) (n : Int) : Bool := decide (0 ≤ n) && decide (n < sizeI L D)
noncomputable def indexAtL (L D : List Int) (n : Int) : List Int := if inSize L D n = true then idxL D n else []
theorem indexAtL_len (L D : List Int) (n : Int) : (indexAtL L D n).length ≤ 12 := by
  unfold indexAtL
  split
  · rename_i h
    rw [idxL_len]
    rcases sizeI_cases L D with ⟨h1, -⟩ | ⟨-, h2, -⟩
    · simp [inSize, h1] at h; omega
    · have := h2.1; have := h2.2.1; omega
  · simp
end Go.Proofs.Ytgabcdploeledaa
