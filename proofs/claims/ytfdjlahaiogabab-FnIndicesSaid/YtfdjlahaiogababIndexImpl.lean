
/- impl.IndexAt. -/
import Derived.Test.YtfdjlahaiogababIndexIn
namespace Go.Proofs.Ytfdjlahaiogabab
set_option maxRecDepth 20000
open Go.RowKit

set_option maxHeartbeats 1600000 in
theorem index_at_impl {B : Nat} {lv dv xv : Value} {L D X : List Int} {w : World} (n : Int) (h : RdT B w lv dv xv L D X) (hB : B ≤ w.heap.size) (hn : LenT L D X) (hI : allI L) :
    Calls Try.prog 47 #[tenV lv dv xv, .int .i64 n] w (NewRowB w (indexAtL L D n) (inSize L D n)) := by
  have H0 := Lib.hid ((Held.refl w).box3 lv dv xv 28)
  have HT := Lib.hid (h.below H0.out.1 hB)
  have hBB := Nat.le_trans hB H0.out.1.size
  have HN := Lib.hid hn
  have HD0 := Lib.hid h.d
  have HB0 := Lib.hid hB
  obtain ⟨al, cl, rfl, -⟩ := ints_form h.l
  obtain ⟨ad, cd, rfl, -⟩ := ints_form h.d
  obtain ⟨ax, cx, rfl, -⟩ := ints_form h.x
  have HSZ := Lib.hid (size_impl HT.out hBB HN.out hI)
  obtain ⟨s, hs⟩ : ∃ s, s = sizeI L D := ⟨_, rfl⟩
  rw [← hs] at HSZ
  have HS := Lib.hid hs
  clear h hB hBB hn hs hI
  cases hin : inSize L D n with
  | false =>
    have e : indexAtL L D n = [] := if_neg (by rw [hin]; simp)
    rw [e]
    clear e
    by_cases hn0 : n < 0
    · go_enter Try.func47, Try.ntmps47
      go_wp2
      go_ret2
      exact ⟨_, rfl, ⟨World.ownsRow_nil _ _ _ _, (fun g hg => by cases hg), Nat.le_refl _⟩, H0.out.1⟩
    · have q3 : decide (s ≤ n) = true := by
        simp only [inSize, Bool.and_eq_false_iff, decide_eq_false_iff_not] at hin
        have := HS.out
        simp only [decide_eq_true_eq]
        omega
      go_enter Try.func47, Try.ntmps47
      go_wp2_with fail
      refine (Held.call H0 HSZ.out).mono ?_
      rintro e w1 ⟨rfl, H1, c0, c1, c2, -⟩
      go_wp2
      go_ret2
      exact ⟨_, rfl, ⟨World.ownsRow_nil _ _ _ _, (fun g hg => by cases hg), Nat.le_refl _⟩, H1.out.1⟩
  | true =>
    have e : indexAtL L D n = idxL D n := if_pos hin
    rw [e]
    simp only [inSize, Bool.and_eq_true, decide_eq_true_eq] at hin
    have hss := HS.out
    have hn0 : ¬ n < 0 := by omega
    have q3 : decide (s ≤ n) = false := by simp; omega
    have HPT := Lib.hid (sizeI_parts (L := L) (D := D) (by omega))
    have hs4 : sizeI L D ≤ 4096 := by rcases sizeI_cases L D with h1 | h1 <;> omega
    have HR := Lib.hid (show 0 ≤ n ∧ n ≤ 4096 by omega)
    clear e hin hss hs4
    go_enter Try.func47, Try.ntmps47
    go_wp2_with fail
    refine (Held.call H0 HSZ.out).mono ?_
    rintro e w1 ⟨rfl, H1, c0, c1, c2, -⟩
    go_wp2_with fail
    refine (index_in n (HD0.out.below H1.out.1 HB0.out) (Nat.le_trans HB0.out H1.out.1.size) (Nat.lt_of_le_of_lt (Nat.zero_le _) (World.block_lt_of_cell? _ _ c0)) (by have := HPT.out.1.1; have := HPT.out.1.2.1; omega) HPT.out.1.2.2.2.1 HR.out.1 HR.out.2).mono ?_
    rintro e w2 ⟨v, rfl, ho, hb⟩
    have HO := Lib.hid ho
    have HB3 := Lib.hid (H1.out.1.trans (hb.mono H1.out.1.size))
    have HZ := Lib.hid H1.out.1.size
    clear ho hb
    go_wp2
    go_ret2
    exact ⟨_, rfl, ⟨⟨HO.out.1.1, HO.out.1.2.imp id (fun ⟨g, cap, cur, e, hb, q⟩ => ⟨g, cap, cur, e, Nat.le_trans HZ.out hb, q⟩)⟩, HO.out.2.1, HO.out.2.2⟩, HB3.out⟩
end Go.Proofs.Ytfdjlahaiogabab
