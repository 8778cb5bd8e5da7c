
/- spec.OffsetOf, spec.IndexAt. -/
import Derived.Test.YtlmhnlepdfdceaaTensorOk
import Derived.Test.YtlmhnlepdfdceaaLawKit
namespace Go.Proofs.Ytlmhnlepdfdceaa
set_option maxRecDepth 20000
set_option maxRecDepth 20000
open Go.RowKit

/-- The offset of the first j parts of an index. -/
def offP (D ix : List Int) (j : Nat) : Int := (List.range j).foldl (fun n i => n * D.getD i 0 + ix.getD i 0) 0
theorem offP_succ (D ix : List Int) (j : Nat) : offP D ix (j + 1) = offP D ix j * D.getD j 0 + ix.getD j 0 := by simp [offP, List.range_succ, List.foldl_append]
theorem offI_is (D ix : List Int) : offI D ix = offP D ix D.length := rfl
theorem getD_at {l : List Int} {i : Nat} {x : Int} (h : l[i]? = some x) : l.getD i 0 = x := by rw [List.getD_eq_getElem?_getD, h]; rfl
theorem prodL_take_succ (D : List Int) (j : Nat) (h : j < D.length) : prodL (D.take (j + 1)) = prodL (D.take j) * D.getD j 0 := by
  rw [List.take_add_one, List.getElem?_eq_getElem h, Option.toList_some, prodL_snoc, getD_at (List.getElem?_eq_getElem h)]
theorem offP_range {D ix : List Int} (hD : ∀ d ∈ D, 1 ≤ d) (hi : InIx D ix) : ∀ j, j ≤ D.length → 0 ≤ offP D ix j ∧ offP D ix j < prodL (D.take j) := by
  intro j
  induction j with
  | zero => intro _; simp [offP, prodL]
  | succ j ih =>
    intro hj
    obtain ⟨h1, h2⟩ := ih (by omega)
    obtain ⟨h3, h4⟩ := hi.2 j (by omega)
    rw [offP_succ, prodL_take_succ D j (by omega)]
    have hd : 1 ≤ D.getD j 0 := by
      rw [getD_at (List.getElem?_eq_getElem (show j < D.length by omega))]
      exact hD _ (List.getElem_mem _)
    have e1 := Int.mul_nonneg h1 (by omega : 0 ≤ D.getD j 0)
    have e2 : (offP D ix j + 1) * D.getD j 0 ≤ prodL (D.take j) * D.getD j 0 := Int.mul_le_mul_of_nonneg_right (by omega) (by omega)
    rw [Int.add_mul, Int.one_mul] at e2
    omega
open Classical in
noncomputable def offsetI (L D ix : List Int) : Int := if 0 ≤ sizeI L D ∧ InIx D ix then offI D ix else -1
open Classical in
theorem offsetI_no {L D ix : List Int} (h : ¬ (0 ≤ sizeI L D ∧ InIx D ix)) : offsetI L D ix = -1 := if_neg h
open Classical in
theorem offsetI_yes {L D ix : List Int} (h : 0 ≤ sizeI L D ∧ InIx D ix) : offsetI L D ix = offI D ix := if_pos h
theorem offsetI_range (L D ix : List Int) : offsetI L D ix = -1 ∨ (0 ≤ sizeI L D ∧ InIx D ix ∧ offsetI L D ix = offI D ix ∧ 0 ≤ offI D ix ∧ offI D ix < sizeI L D ∧ sizeI L D ≤ 4096) := by
  by_cases h : 0 ≤ sizeI L D ∧ InIx D ix
  · right
    rcases sizeI_cases L D with h2 | ⟨h2, h3, h4, h5⟩
    · omega
    · have := offP_range (fun d hd => (h3.2.2.2.1 d hd).1) h.2 D.length (Nat.le_refl _)
      rw [List.take_length] at this
      exact ⟨h.1, h.2, offsetI_yes h, this.1, by rw [h2]; exact this.2, by omega⟩
  · exact .inl (offsetI_no h)

/-- A cell of a list that is read. -/
theorem Rd.cellAt {B : Nat} {w : World} {a : Option Addr} {m cap : Nat} {xs : List Int} {j : Nat} {x : Int} (h : Rd B w (.slice a m cap) (ints xs)) (hx : xs[j]? = some x) : ∃ b off, a = some ⟨b, off, none⟩ ∧ b < B ∧ w.cell? ⟨b, off + j, none⟩ = some (.int .i64 x) := by
  obtain ⟨hl, e⟩ := List.getElem?_eq_some_iff.1 hx
  rcases h.ints_cases with ⟨h0, -⟩ | ⟨b, off, ca, e2, hb, -, hc⟩
  · rw [h0] at hl; simp at hl
  · cases e2
    exact ⟨b, off, rfl, hb, by rw [hc j hl, e]⟩

set_option maxHeartbeats 800000 in
theorem offset_spec_full (a : Option Addr) (cap : Nat) (a2 : Option Addr) (cap2 m B : Nat) (D ix : List Int) (w : World) (h1 : D.length = m) (h2 : ix.length = m) (hm : m ≤ 281474976710656) (hD : ∀ d ∈ D, 1 ≤ d ∧ d ≤ 8) (hP : prodL D ≤ 4096) (hi : InIx D ix)
    (hd : Rd B w (.slice a m cap) (ints D)) (hx : Rd B w (.slice a2 m cap2) (ints ix)) :
    Calls Try.prog 48 #[.slice a m cap, .slice a2 m cap2] w fun e w' => e = .returned (.int .i64 (offI D ix)) ∧ w = w' := by
  have L1 := Lib.hid h1
  have L2 := Lib.hid h2
  have RD := Lib.hid hd
  have RX := Lib.hid hx
  have HD := Lib.hid hD
  have HI := Lib.hid hi
  have HP := Lib.hid hP
  clear h1 h2 hd hx hD hi hP
  go_enter Try.func48, Try.ntmps48
  go_wp2
  go_loop [5, 10] (fun p i => ∃ (j : Nat) (c : Int), j ≤ m ∧ i = .int .i64 j ∧ p = .int .i64 c ∧ 0 ≤ c ∧ c ≤ 4096 ∧ Hid (offP D ix j = c)) (fun _ i => m - (intOf i).toNat)
  case atStart => exact ⟨0, 0, by omega, rfl, rfl, by omega, by omega, rfl⟩
  case round =>
    obtain ⟨j, c, hj, rfl, rfl, hc1, hc2, HC⟩ := hrel
    by_cases hlt : j < m
    · obtain ⟨d, D1⟩ : ∃ d, Hid (D[j]? = some d) := ⟨_, List.getElem?_eq_getElem (by rw [L1.out]; exact hlt)⟩
      obtain ⟨x, X1⟩ : ∃ x, Hid (ix[j]? = some x) := ⟨_, List.getElem?_eq_getElem (by rw [L2.out]; exact hlt)⟩
      obtain ⟨b, off, rfl, -, e1⟩ := RD.out.cellAt D1.out
      obtain ⟨b2, off2, rfl, -, e2⟩ := RX.out.cellAt X1.out
      have hd := HD.out d (List.mem_of_getElem? D1.out)
      have hd1 := hd.1
      have hd2 := hd.2
      have hr := offP_range (fun d hd => (HD.out d hd).1) HI.out (j + 1) (by rw [L1.out]; omega)
      have hpl := prodL_take_le (fun d hd => (HD.out d hd).1) (j + 1)
      have hpp := HP.out
      have hs : offP D ix (j + 1) = c * d + x := by rw [offP_succ, getD_at D1.out, getD_at X1.out, HC.out]
      have hxx := HI.out.2 j (by rw [L1.out]; exact hlt)
      rw [getD_at D1.out, getD_at X1.out] at hxx
      have hm2 := mul_in (c := c) (d := d) (by omega) (by omega) (by omega) (by omega)
      have hw : IntKind.i64.wrap (c * d) = c * d := IntWalk.i64_in _ (by omega)
      have hw2 : IntKind.i64.wrap (c * d + x) = c * d + x := IntWalk.i64_in _ (by omega)
      have hb1 : 0 ≤ c * d + x := by omega
      have hb2 : c * d + x ≤ 4096 := by omega
      have HS := Lib.hid hs
      clear hs hr hpl hpp hxx hd
      go_wp2
      go_round
      case rel => exact ⟨j + 1, c * d + x, by omega, by go_num, rfl, hb1, hb2, HS⟩
      case measure => simp [intOf]; omega
    · obtain rfl : j = m := by omega
      have HF : Hid (offI D ix = c) := by show _ = _; rw [offI_is, L1.out]; exact HC.out
      go_wp2
      go_ret
      exact ⟨by rw [HF.out]; rfl, rfl⟩

/-- The first j parts of an index are in range. -/
def InTo (D ix : List Int) (j : Nat) : Prop := ∀ i, i < j → 0 ≤ ix.getD i 0 ∧ ix.getD i 0 < D.getD i 0
set_option maxHeartbeats 1600000 in
theorem offset_of_spec {B : Nat} {lv dv xv iv : Value} {L D X ix : List Int} {w : World} (h : RdT B w lv dv xv L D X) (hi : Rd B w iv (ints ix)) (hB : B ≤ w.heap.size) (hn : LenT L D X) (hni : ix.length ≤ 281474976710656) :
    Calls Try.prog 19 #[tenV lv dv xv, iv] w fun e w' => e = .returned (.int .i64 (offsetI L D ix)) ∧ Below w.heap.size w w' := by
  have H0 := Lib.hid ((Held.refl w).box3 lv dv xv 27)
  have HT := Lib.hid (h.below H0.out.1 hB)
  have hBB := Nat.le_trans hB H0.out.1.size
  have HN := Lib.hid hn
  have HIX := Lib.hid hi
  have HD0 := Lib.hid h.d
  have HB0 := Lib.hid hB
  obtain ⟨al, cl, rfl, -⟩ := ints_form h.l
  obtain ⟨ad, cd, rfl, -⟩ := ints_form h.d
  obtain ⟨ax, cx, rfl, -⟩ := ints_form h.x
  obtain ⟨ai, ci, rfl, -⟩ := ints_form hi
  obtain ⟨ml, hml⟩ : ∃ m, m = L.length := ⟨_, rfl⟩
  obtain ⟨md, hmd⟩ : ∃ m, m = D.length := ⟨_, rfl⟩
  obtain ⟨mx, hmx⟩ : ∃ m, m = X.length := ⟨_, rfl⟩
  obtain ⟨mi, hmi⟩ : ∃ m, m = ix.length := ⟨_, rfl⟩
  have hbd := hn.d
  rw [← hmi] at hni HIX ⊢
  rw [← hmd] at hbd HD0
  rw [← hml, ← hmd, ← hmx] at H0 HT hBB ⊢
  have HSZ := Lib.hid (size_spec HT.out hBB HN.out)
  have HMD := Lib.hid hmd.symm
  have HMI := Lib.hid hmi.symm
  obtain ⟨r, hr⟩ : ∃ r, r = offsetI L D ix := ⟨_, rfl⟩
  rw [← hr]
  have HR := Lib.hid hr
  obtain ⟨s, hs⟩ : ∃ s, s = sizeI L D := ⟨_, rfl⟩
  rw [← hs] at HSZ
  have HS := Lib.hid hs
  have hsr : s < 0 ∨ (0 ≤ s ∧ AxesV L D ∧ prodL D ≤ 4096) := by
    rcases sizeI_cases L D with ⟨h1, h2⟩ | ⟨h1, h2, h3, h4⟩
    · left; omega
    · right; exact ⟨by omega, h2, h4⟩
  clear h hi hB hBB hn hml hmd hmx hmi hr hs
  rcases hsr with hs0 | ⟨hs0, hax, hpr⟩
  · have HF : Hid (r = -1) := by show r = -1; rw [HR.out]; exact offsetI_no (fun h => by rw [← HS.out] at h; omega)
    have q0 : decide (s < 0) = true := by simpa using hs0
    go_enter Try.func19, Try.ntmps19
    go_wp2_with fail
    refine (Held.call H0 HSZ.out).mono ?_
    rintro e w1 ⟨rfl, H1, c0, c1, c2, -⟩
    go_wp2
    go_ret
    exact ⟨by rw [HF.out]; rfl, H1.out.1⟩
  · have q0 : decide (s < 0) = false := by simpa using hs0
    have q0' : ¬ s < 0 := by omega
    have HAX := Lib.hid hax
    have HPR := Lib.hid hpr
    clear hax hpr
    by_cases hmm : mi ≠ md
    · have HF : Hid (r = -1) := by show r = -1; rw [HR.out]; exact offsetI_no (fun h => hmm (by rw [← HMI.out, ← HMD.out]; exact h.2.1))
      have q1 : ((mi : Int) != (md : Int)) = true := by simp; omega
      clear hmm
      go_enter Try.func19, Try.ntmps19
      go_wp2_with fail
      refine (Held.call H0 HSZ.out).mono ?_
      rintro e w1 ⟨rfl, H1, c0, c1, c2, -⟩
      go_wp2
      go_ret
      exact ⟨by rw [HF.out]; rfl, H1.out.1⟩
    · obtain rfl : mi = md := by omega
      clear hmm
      go_enter Try.func19, Try.ntmps19
      go_wp2_with fail
      refine (Held.call H0 HSZ.out).mono ?_
      rintro e w1 ⟨rfl, H1, c0, c1, c2, -⟩
      have RD1 := Lib.hid (HD0.out.below H1.out.1 HB0.out)
      have RX1 := Lib.hid (HIX.out.below H1.out.1 HB0.out)
      go_wp2
      go_loop [21] (fun i => ∃ j : Nat, j ≤ mi ∧ i = .int .i64 j ∧ Hid (InTo D ix j)) (fun i => mi - (intOf i).toNat)
      case atStart => exact ⟨0, by omega, rfl, fun i hi => by omega⟩
      case round =>
        obtain ⟨j, hj, rfl, HI⟩ := hrel
        by_cases hlt : j < mi
        · obtain ⟨d, D1⟩ : ∃ d, Hid (D[j]? = some d) := ⟨_, List.getElem?_eq_getElem (by rw [HMD.out]; exact hlt)⟩
          obtain ⟨x, X1⟩ : ∃ x, Hid (ix[j]? = some x) := ⟨_, List.getElem?_eq_getElem (by rw [HMI.out]; exact hlt)⟩
          obtain ⟨b, off, rfl, -, e1⟩ := RD1.out.cellAt D1.out
          obtain ⟨b2, off2, rfl, -, e2⟩ := RX1.out.cellAt X1.out
          have hd := HAX.out.2.2.2.1 d (List.mem_of_getElem? D1.out)
          have hd1 := hd.1
          have hd2 := hd.2
          have hw : IntKind.i64.wrap (d - 1) = d - 1 := IntWalk.i64_in _ (by omega)
          have hcin := l01_in x 0 (d - 1) w1
          cases h1 : inB x 0 (d - 1) with
          | false =>
            rw [h1] at hcin
            have HC := Lib.hid hcin
            have HF : Hid (r = -1) := by
              show r = -1
              rw [HR.out]
              refine offsetI_no (fun h => ?_)
              have h2 := h.2.2 j (by rw [HMD.out]; exact hlt)
              rw [getD_at D1.out, getD_at X1.out] at h2
              have h3 : inB x 0 (d - 1) = true := inB_true.2 (by omega)
              rw [h1] at h3; cases h3
            clear hcin h1 hd
            go_wp2_with fail
            refine HC.out.mono ?_
            rintro e w2 ⟨rfl, rfl⟩
            go_wp2
            go_ret
            exact ⟨by rw [HF.out]; rfl, H1.out.1⟩
          | true =>
            rw [h1] at hcin
            have HC := Lib.hid hcin
            have HS2 : Hid (InTo D ix (j + 1)) := by
              intro i hi
              by_cases hij : i < j
              · exact HI.out i hij
              · obtain rfl : i = j := by omega
                rw [getD_at D1.out, getD_at X1.out]
                have := inB_true.1 h1
                omega
            clear hcin h1 hd
            go_wp2_with fail
            refine HC.out.mono ?_
            rintro e w2 ⟨rfl, rfl⟩
            go_wp2
            go_round
            case rel => exact ⟨j + 1, by omega, by go_num, HS2⟩
            case measure => simp [intOf]; omega
        · obtain rfl : j = mi := by omega
          have hin : InIx D ix := ⟨by rw [HMI.out, HMD.out], fun i hi => HI.out i (by rw [HMD.out] at hi; exact hi)⟩
          have HF : Hid (r = offI D ix) := by show r = _; rw [HR.out]; exact offsetI_yes ⟨by rw [← HS.out]; exact hs0, hin⟩
          have HO := Lib.hid (offset_spec_full ad cd ai ci j B D ix w1 HMD.out HMI.out (by omega) HAX.out.2.2.2.1 HPR.out hin RD1.out RX1.out)
          clear hin
          go_wp2_with fail
          refine HO.out.mono ?_
          rintro e w2 ⟨rfl, rfl⟩
          go_wp2
          go_ret
          exact ⟨by rw [HF.out]; rfl, H1.out.1⟩
end Go.Proofs.Ytlmhnlepdfdceaa
