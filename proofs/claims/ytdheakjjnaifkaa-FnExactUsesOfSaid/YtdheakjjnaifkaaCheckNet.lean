
/- impl.checkNetwork. -/
import Derived.Test.YtdheakjjnaifkaaCanImpl
import Derived.Test.YtdheakjjnaifkaaNetOkSpec
namespace Go.Proofs.Ytdheakjjnaifkaa
set_option maxRecDepth 20000
open Go.RowKit

/-- What checkNetwork answers: a box of seven cells, or nil. -/
def CheckP (w : World) (k p q : Int) (ts : List TenE) (O : List Int) (tv ov : Value) (e : Ending) (w' : World) : Prop :=
  (NetOk k p q ts O ∧ ∃ (g : Nat) (a b : Value), e = .returned (.pointer (some ⟨g, 0, none⟩)) ∧ w.heap.size ≤ g ∧
    (w'.cell? ⟨g, 0, none⟩ = some (.int .i64 k) ∧ w'.cell? ⟨g, 1, none⟩ = some (.int .i64 p) ∧ w'.cell? ⟨g, 2, none⟩ = some (.int .i64 q) ∧ w'.cell? ⟨g, 3, none⟩ = some tv ∧ w'.cell? ⟨g, 4, none⟩ = some ov ∧ w'.cell? ⟨g, 5, none⟩ = some a ∧ w'.cell? ⟨g, 6, none⟩ = some b) ∧
    OwnG w' w.heap.size w'.heap.size [(a, labT ts), (b, (labT ts).map (dimT ts))] ∧ (∀ r ∈ ([(a, labT ts), (b, (labT ts).map (dimT ts))] : List RowE), r.1.ownBlock ≠ some g) ∧ Below w.heap.size w w') ∨
  (¬ NetOk k p q ts O ∧ e = .returned (.pointer none) ∧ Below w.heap.size w w')

set_option maxHeartbeats 6400000 in
theorem check_full {B n cap m co : Nat} {pa po : Option Addr} {k p q : Int} {ts : List TenE} {O : List Int} {w : World} (ha : RdTs B w (.slice pa n cap) ts) (ho : Rd B w (.slice po m co) (ints O)) (hB : B ≤ w.heap.size) (hn : ts.length = n) (hl : LenTs ts) (hI : ∀ t ∈ ts, allI t.1) (hm : O.length = m) (hmm : m ≤ 1048576) (hJ : allI O) :
    Calls Try.prog 51 #[netV k p q (.slice pa n cap) (.slice po m co)] w (CheckP w k p q ts O (.slice pa n cap) (.slice po m co)) := by
  obtain ⟨w1, hw1⟩ : ∃ W, W = w.alloc (.cells #[.int .i64 k, .int .i64 p, .int .i64 q, .slice pa n cap, .slice po m co] 33) := ⟨_, rfl⟩
  have hb1 : Below w.heap.size w w1 := by rw [hw1]; exact (Below.refl _ _).alloc (Nat.le_refl _) _
  have hc : w1.cell? ⟨w.heap.size, 0, none⟩ = some (.int .i64 k) ∧ w1.cell? ⟨w.heap.size, 1, none⟩ = some (.int .i64 p) ∧ w1.cell? ⟨w.heap.size, 2, none⟩ = some (.int .i64 q) ∧ w1.cell? ⟨w.heap.size, 3, none⟩ = some (.slice pa n cap) ∧ w1.cell? ⟨w.heap.size, 4, none⟩ = some (.slice po m co) := by rw [hw1]; simp
  have HTS := Lib.hid ((ha.below hb1 hB).mono (Nat.le_trans hB hb1.size))
  have HO := Lib.hid ((ho.below hb1 hB).mono (Nat.le_trans hB hb1.size))
  have HN := Lib.hid hn
  have HLN := Lib.hid hl
  have HII := Lib.hid hI
  have HM := Lib.hid hm
  have HMM := Lib.hid hmm
  have HJ := Lib.hid hJ
  have HC := Lib.hid hc
  have HB1 := Lib.hid hb1
  have HW1 := Lib.hid hw1
  clear ha ho hB hn hl hI hm hmm hJ hc hb1 hw1
  go_enter Try.func51, Try.ntmps51
  go_upto_region 1 with fail
  rw [← HW1.out]
  clear HW1
  obtain ⟨c0, c1, c2, c3, c4⟩ := HC.out
  go_wp2_with fail
  refine (ring_ok_impl k p q w1).mono ?_
  rintro e w2 ⟨rfl, hb2⟩
  have c0 := cell_kept2 hb2 c0
  have c1 := cell_kept2 hb2 c1
  have c2 := cell_kept2 hb2 c2
  have c3 := cell_kept2 hb2 c3
  have c4 := cell_kept2 hb2 c4
  have HB2 := Lib.hid hb2
  have HBT := Lib.hid (HB1.out.trans (hb2.mono HB1.out.size))
  clear hb2
  cases hr : ringB k p q with
  | false =>
    go_wp2
    go_ret
    exact .inr ⟨fun h => (by have h1 := h.1; rw [hr] at h1; cases h1), rfl, HBT.out⟩
  | true =>
    have HR := Lib.hid hr
    clear hr
    by_cases h12 : n ≤ 12
    · have q12 : decide ((12 : Int) < (n : Int)) = false := by simp; omega
      have HCM := Lib.hid (common_full (k := k) (p := p) (q := q) ((HTS.out.below HB2.out (Nat.le_refl _)).mono HB2.out.size) (Nat.le_refl _) HN.out HLN.out HII.out)
      go_wp2_with fail
      refine HCM.out.mono ?_
      rintro e w3 (⟨hv, a, b, rfl, hab, hb3⟩ | ⟨hnv, rfl, hb3⟩)
      · have R3 := Lib.hid (((Rs.start w).step HBT.out).new2 hb3 hab)
        obtain ⟨a1, e1, rfl, -⟩ := ints_form (R3.out.rd (v := a) (xs := labT ts) (by simp))
        obtain ⟨a2, e2, rfl, -⟩ := ints_form (R3.out.rd (v := b) (xs := (labT ts).map (dimT ts)) (by simp))
        obtain ⟨n1, hn1⟩ : ∃ x, x = (labT ts).length := ⟨_, rfl⟩
        obtain ⟨n2, hn2⟩ : ∃ x, x = ((labT ts).map (dimT ts)).length := ⟨_, rfl⟩
        rw [← hn1, ← hn2] at R3 ⊢
        obtain ⟨W4, hW4⟩ : ∃ W, W = w3.alloc (.cells #[.slice a1 n1 e1, .slice a2 n2 e2] 68) := ⟨_, rfl⟩
        have hb4 : Below w2.heap.size w2 W4 := by rw [hW4]; exact hb3.alloc hb3.size _
        have h4c : W4.cell? ⟨w3.heap.size, 0, none⟩ = some (.slice a1 n1 e1) ∧ W4.cell? ⟨w3.heap.size, 1, none⟩ = some (.slice a2 n2 e2) := by rw [hW4]; simp
        have R4 : Hid (Rs w W4 [] _) := Lib.hid (by rw [hW4]; exact R3.out.alloc _)
        have HE := Lib.hid (can_full (ts := ts) (w := W4) ((HO.out.below (HB2.out.trans (hb4.mono HB2.out.size)) (Nat.le_refl _)).mono (Nat.le_trans HB2.out.size hb4.size)) (R4.out.rd (v := .slice a1 n1 e1) (xs := labT ts) (by simp)) (R4.out.rd (v := .slice a2 n2 e2) (xs := (labT ts).map (dimT ts)) (by simp)) (Nat.le_refl _) HM.out HMM.out hv.ax HJ.out)
        obtain ⟨z, hz⟩ : ∃ z, z = decide (0 ≤ sizeI O (O.map (dimT ts))) := ⟨_, rfl⟩
        rw [← hz] at HE
        have HV := Lib.hid hv
        have HZ := Lib.hid hz
        have HB4 := Lib.hid hb4
        have HW4 := Lib.hid hW4
        clear hv hab hb3 hn1 hn2 hW4 hz R3 HCM
        go_upto_region 4 with fail
        rw [← HW4.out]
        have c0 := cell_kept2 hb4 c0
        have c1 := cell_kept2 hb4 c1
        have c2 := cell_kept2 hb4 c2
        have c3 := cell_kept2 hb4 c3
        have c4 := cell_kept2 hb4 c4
        obtain ⟨c5, c6⟩ := h4c
        clear HW4 hb4
        go_wp2_with fail
        refine HE.out.mono ?_
        rintro e w5 ⟨rfl, hb5⟩
        have c0 := cell_kept2 hb5 c0
        have c1 := cell_kept2 hb5 c1
        have c2 := cell_kept2 hb5 c2
        have c3 := cell_kept2 hb5 c3
        have c4 := cell_kept2 hb5 c4
        have c5 := cell_kept2 hb5 c5
        have c6 := cell_kept2 hb5 c6
        have R5 := Lib.hid (R4.out.step hb5)
        clear hb5 HE R4
        cases z with
        | false =>
          go_wp2
          go_ret
          exact .inr ⟨fun h => (by have h1 := HZ.out; rw [decide_eq_true h.2.2.2] at h1; cases h1), rfl, R5.out.bel⟩
        | true =>
          have R6 := Lib.hid (R5.out.alloc (.cells #[.int .i64 k, .int .i64 p, .int .i64 q, .slice pa n cap, .slice po m co, .slice a1 n1 e1, .slice a2 n2 e2] 70))
          go_wp2
          go_ret
          exact .inl ⟨⟨HR.out, by rw [HN.out]; exact h12, HV.out, of_decide_eq_true HZ.out.symm⟩, w5.heap.size, _, _, rfl, R5.out.bel.size, by simp, R6.out.ownG, fun r hr e => Nat.lt_irrefl _ ((R5.out.own r hr).lt _ e).2, R6.out.bel⟩
      · have hbe := (HBT.out.trans (hb3.mono HBT.out.size)).alloc (Nat.le_trans HBT.out.size hb3.size) (.cells #[nilV, nilV] 68)
        have HBE := Lib.hid hbe
        clear hbe hb3 HCM
        go_wp2
        go_ret
        exact .inr ⟨fun h => hnv h.2.2.1, rfl, HBE.out⟩
    · have q12 : decide ((12 : Int) < (n : Int)) = true := by simp; omega
      go_wp2
      go_ret
      exact .inr ⟨fun h => by have := h.2.1; have := HN.out; omega, rfl, HBT.out⟩
end Go.Proofs.Ytdheakjjnaifkaa
