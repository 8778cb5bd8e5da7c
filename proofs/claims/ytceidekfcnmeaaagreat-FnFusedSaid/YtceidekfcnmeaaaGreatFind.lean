
/- slices.Index and slices.Equal at integers that are only read. -/
import Derived.Test.YtceidekfcnmeaaaGreatShelfFind
import Derived.Test.YtceidekfcnmeaaaGreatTensorOk
import Derived.Test.YtceidekfcnmeaaaGreatAxes
import Derived.Test.YtceidekfcnmeaaaGreatSliceMath
namespace Go.Proofs.YtceidekfcnmeaaaGreat
set_option maxRecDepth 20000
open Go.RowKit

theorem idxOf_find (L : List Int) (x : Int) : Lib.idxOf (L.take L.length) x = findI L x := by
  unfold findI
  split
  · rename_i hm
    have hlt := List.idxOf_lt_length_iff.2 hm
    refine Lib.idxOf_hit L L.length (L.idxOf x) x hlt (Nat.le_refl _) ?_ (fun j hj => ?_)
    · rw [List.getD_eq_getElem?_getD, List.getElem?_eq_getElem hlt]
      exact List.getElem_idxOf hlt
    · rw [List.getD_eq_getElem?_getD, List.getElem?_eq_getElem (by omega)]
      intro e
      have h1 : L.idxOf x ≤ j := by
        have h2 := List.not_of_lt_findIdx (p := (· == x)) (xs := L) hj
        simp at h2
        exact absurd e h2
      omega
  · rename_i hm
    refine Lib.idxOf_miss L L.length x (fun j hj e => hm ?_)
    rw [List.getD_eq_getElem?_getD, List.getElem?_eq_getElem hj] at e
    have e2 : L[j] = x := e
    exact e2 ▸ List.getElem_mem hj
theorem index_any {B : Nat} {v : Value} {L : List Int} {w : World} (x : Int) (h : Rd B w v (ints L)) (hn : L.length ≤ 281474976710656) :
    Calls Tryz.prog 62 #[v, .int .i64 x] w fun e w' => e = .returned (.int .i64 (findI L x)) ∧ w = w' := by
  rcases h.ints_cases with ⟨rfl, a, cap, rfl⟩ | ⟨b, off, cap, rfl, -, -, hc⟩
  · exact (Tryz.slices_Index_int_empty a cap x w).mono fun e w' h => ⟨h.1, h.2.symm⟩
  · have h1 := Tryz.slices_Index_int b off L.length cap L x w (Nat.le_refl _) (by omega) (fun j hj => by rw [hc j hj, List.getD_eq_getElem?_getD, List.getElem?_eq_getElem hj]; rfl)
    rw [idxOf_find] at h1
    exact h1.mono fun e w' h => ⟨h.1, h.2.symm⟩
theorem equal_any {B B' : Nat} {v u : Value} {L M : List Int} {w : World} (h : Rd B w v (ints L)) (h' : Rd B' w u (ints M)) (hn : L.length ≤ 281474976710656) (hm : M.length ≤ 281474976710656) :
    Calls Tryz.prog 51 #[v, u] w fun e w' => e = .returned (.bool (L == M)) ∧ Below w.heap.size w w' := by
  rcases h.ints_cases with ⟨rfl, a, cap, rfl⟩ | ⟨b, off, cap, rfl, -, -, hc⟩
  · obtain ⟨a2, c2, rfl, -⟩ := ints_form h'
    refine (Tryz.slices_Equal_int_empty a a2 cap M.length c2 w (by omega)).mono ?_
    rintro e w' ⟨rfl, rfl⟩
    refine ⟨?_, Below.refl _ _⟩
    cases M <;> simp
  · rcases h'.ints_cases with ⟨rfl, a2, cap2, rfl⟩ | ⟨b2, off2, cap2, rfl, -, -, hc2⟩
    · have hne : L.length ≠ 0 ∨ L.length = 0 := by omega
      rcases hne with hne | hne
      · refine (Tryz.slices_Equal_int_lens (some ⟨b, off, none⟩) a2 L.length cap 0 cap2 w hne).mono ?_
        rintro e w' ⟨rfl, rfl⟩
        refine ⟨?_, Below.refl _ _⟩
        cases L with
        | nil => simp at hne
        | cons x r => rfl
      · have e0 := List.eq_nil_of_length_eq_zero hne
        subst e0
        refine (Tryz.slices_Equal_int_empty (some ⟨b, off, none⟩) a2 cap 0 cap2 w (by omega)).mono ?_
        rintro e w' ⟨rfl, rfl⟩
        exact ⟨rfl, Below.refl _ _⟩
    · refine (Tryz.slices_Equal_int b off L.length cap b2 off2 M.length cap2 L M w (Nat.le_refl _) (Nat.le_refl _) (by omega) (by omega) (fun j hj => by rw [hc j hj, List.getD_eq_getElem?_getD, List.getElem?_eq_getElem hj]; rfl) (fun j hj => by rw [hc2 j hj, List.getD_eq_getElem?_getD, List.getElem?_eq_getElem hj]; rfl)).mono ?_
      rintro e w' ⟨rfl, q, rfl⟩
      rw [List.take_length, List.take_length]
      exact ⟨rfl, below_drewN (Below.refl _ _) q⟩
/-- slices.Contains at integers. -/
theorem contains_any {B : Nat} {v : Value} {L : List Int} {w : World} (x : Int) (h : Rd B w v (ints L)) (hn : L.length ≤ 281474976710656) :
    Calls Tryz.prog 32 #[v, .int .i64 x] w fun e w' => e = .returned (.bool (decide (x ∈ L))) ∧ w' = w := by
  obtain ⟨a, c, rfl, -⟩ := ints_form h
  have HI := Lib.hid (index_any x h hn)
  obtain ⟨z, hz⟩ : ∃ z, z = findI L x := ⟨_, rfl⟩
  rw [← hz] at HI
  have hq : decide ((0 : Int) ≤ z) = decide (x ∈ L) := by
    rw [hz]
    by_cases hm : x ∈ L
    · rw [decide_eq_true hm]; exact decide_eq_true (Int.not_lt.1 (fun h => (findI_neg.1 h) hm))
    · rw [decide_eq_false hm]; exact decide_eq_false (Int.not_le.2 (findI_neg.2 hm))
  rw [← hq]
  generalize L.length = m at HI ⊢
  clear hz hq h
  go_enter Tryz.func32, Tryz.ntmps32
  go_wp2_with fail
  refine HI.out.mono ?_
  rintro e w' ⟨rfl, rfl⟩
  go_wp2
  all_goals
    go_ret
    exact ⟨rfl, rfl⟩
end Go.Proofs.YtceidekfcnmeaaaGreat
namespace Go.Proofs.YtceidekfcnmeaaaGreat
set_option maxRecDepth 20000
open Go.RowKit

theorem pair_axes {a b : Option Addr} {m c d : Nat} (w : World) :
    Calls Tryz.prog 107 #[.slice a m c, .slice b m d] w fun e w' => e = .returned (.tuple #[.agg #[.slice a m c, .slice b m d], .bool true]) ∧ Below w.heap.size w w' := by
  go_enter Tryz.func107, Tryz.ntmps107
  go_wp2
  refine bodyPost_ret (v := .tuple #[.agg #[.slice a m c, .slice b m d], .bool true]) (by simp [results, Tryz.results107, go_sem]) rfl ?_
  exact ⟨rfl, (Below.refl _ _).alloc (Nat.le_refl _) _⟩
/-- The axis of a label. -/
theorem find_axis {B B' : Nat} {kv av : Value} {KL : List Int} {AX : List AxE} {w : World} {z : Nat} {n l d s : Int} (hk : Rd B w kv (ints KL)) (ha : RdA B' w av AX) (hB : B ≤ w.heap.size) (hB' : B' ≤ w.heap.size) (hm : KL.length ≤ 281474976710656) (hn : n ∈ KL) (hz : KL.idxOf n = z) (hx : AX[z]? = some (l, d, s)) :
    Calls Tryz.prog 108 #[.agg #[kv, av], .int .i64 n] w fun e w' => e = .returned (.tuple #[.agg #[.int .i64 l, .int .i64 d, .int .i64 s], .bool true]) ∧ Below w.heap.size w w' := by
  obtain ⟨ak, ck, rfl, -⟩ := ints_form hk
  obtain ⟨aa, ca, rfl⟩ := ha.form
  obtain ⟨W, hW⟩ : ∃ W, W = ((w.alloc (.cells #[.slice ak KL.length ck, .slice aa AX.length ca] 140)).alloc (.cells #[.int .i64 0, .int .i64 0, .int .i64 0] 77)) := ⟨_, rfl⟩
  have hbel : Below w.heap.size w W := by rw [hW]; exact ((Below.refl _ _).alloc (Nat.le_refl _) _).alloc (by simp) _
  have HI := Lib.hid (index_any n (hk.below (hbel.mono hB) (Nat.le_refl _)) hm)
  rw [show findI KL n = (z : Int) by unfold findI; rw [if_pos hn, hz]] at HI
  obtain ⟨b, off, rfl, -, e1, e2, e3⟩ := (ha.below (hbel.mono hB') (Nat.le_refl _)).at hx
  dsimp only at e1 e2 e3
  have hzv : z < AX.length := (List.getElem?_eq_some_iff.1 hx).1
  have q1 : decide ((z : Int) < 0) = false := by simp
  obtain ⟨mk, hmk⟩ : ∃ m, m = KL.length := ⟨_, rfl⟩
  obtain ⟨mv, hmv⟩ : ∃ m, m = AX.length := ⟨_, rfl⟩
  rw [← hmk, ← hmv] at hW ⊢
  rw [← hmk] at HI
  rw [← hmv] at hzv
  subst hW
  have HE := Lib.hid (And.intro e1 (And.intro e2 e3))
  clear hk ha hbel hB hB' hm hn hz hx e1 e2 e3 hmk hmv
  go_enter Tryz.func108, Tryz.ntmps108
  go_wp2_with fail
  refine HI.out.mono ?_
  rintro e w' ⟨rfl, rfl⟩
  have e1 := HE.out.1
  have e2 := HE.out.2.1
  have e3 := HE.out.2.2
  go_wp2
  refine bodyPost_ret (v := .tuple #[.agg #[.int .i64 l, .int .i64 d, .int .i64 s], .bool true]) (by simp [results, Tryz.results108, go_sem]) rfl ?_
  exact ⟨rfl, ((Below.refl _ _).alloc (Nat.le_refl _) _).alloc (by simp) _⟩
end Go.Proofs.YtceidekfcnmeaaaGreat
