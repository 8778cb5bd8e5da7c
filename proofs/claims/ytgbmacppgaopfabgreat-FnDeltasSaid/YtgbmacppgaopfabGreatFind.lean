
/- byLabel: what is found at a label. -/
import Derived.Test.YtgbmacppgaopfabGreatFindInt
import Derived.Test.YtgbmacppgaopfabGreatTensorOk
import Derived.Test.YtgbmacppgaopfabGreatAxes
import Derived.Test.YtgbmacppgaopfabGreatSliceMath
namespace Go.Proofs.YtgbmacppgaopfabGreat
set_option maxRecDepth 20000
open Go.RowKit

theorem pair_yes {a b : Option Addr} {m c d : Nat} (w : World) :
    Calls Tryz.prog 44 #[.slice a m c, .slice b m d] w fun e w' => e = .returned (.tuple #[.agg #[.slice a m c, .slice b m d], .bool true]) ∧ Below w.heap.size w w' := by
  go_enter Tryz.func44, Tryz.ntmps44
  go_wp2
  refine bodyPost_ret (v := .tuple #[.agg #[.slice a m c, .slice b m d], .bool true]) (by simp [results, Tryz.results44, go_sem]) rfl ?_
  exact ⟨rfl, (Below.refl _ _).alloc (Nat.le_refl _) _⟩
theorem pair_no {a b : Option Addr} {m n c d : Nat} (w : World) (hmn : m ≠ n) :
    Calls Tryz.prog 44 #[.slice a m c, .slice b n d] w fun e w' => e = .returned (.tuple #[.agg #[nilV, nilV], .bool false]) ∧ Below w.heap.size w w' := by
  have q1 : ((m : Int) == (n : Int)) = false := by simp; omega
  go_enter Tryz.func44, Tryz.ntmps44
  go_wp2
  refine bodyPost_ret (v := .tuple #[.agg #[nilV, nilV], .bool false]) (by simp [results, Tryz.results44, go_sem]) rfl ?_
  exact ⟨rfl, (Below.refl _ _).alloc (Nat.le_refl _) _⟩
theorem pair_axes {a b : Option Addr} {m c d : Nat} (w : World) :
    Calls Tryz.prog 103 #[.slice a m c, .slice b m d] w fun e w' => e = .returned (.tuple #[.agg #[.slice a m c, .slice b m d], .bool true]) ∧ Below w.heap.size w w' := by
  go_enter Tryz.func103, Tryz.ntmps103
  go_wp2
  refine bodyPost_ret (v := .tuple #[.agg #[.slice a m c, .slice b m d], .bool true]) (by simp [results, Tryz.results103, go_sem]) rfl ?_
  exact ⟨rfl, (Below.refl _ _).alloc (Nat.le_refl _) _⟩
theorem find_int {B : Nat} {kv vv : Value} {KL VL : List Int} {w : World} (n : Int) (hk : Rd B w kv (ints KL)) (hv : Rd B w vv (ints VL)) (hB : B ≤ w.heap.size) (hl : KL.length = VL.length) (hm : KL.length ≤ 281474976710656) :
    Calls Tryz.prog 68 #[.agg #[kv, vv], .int .i64 n] w fun e w' => e = .returned (.tuple #[.int .i64 ((cK KL VL n).getD 0), .bool (cK KL VL n).isSome]) ∧ Below w.heap.size w w' := by
  obtain ⟨ak, ck, rfl, -⟩ := ints_form hk
  obtain ⟨av, cv, rfl, -⟩ := ints_form hv
  have hbel : Below B w (w.alloc (.cells #[.slice ak KL.length ck, .slice av VL.length cv] 70)) := (Below.refl _ _).alloc hB _
  have HI := Lib.hid (index_any n (hk.below hbel (Nat.le_refl _)) hm)
  by_cases hn : n ∈ KL
  · obtain ⟨z, hz⟩ : ∃ z, z = KL.idxOf n := ⟨_, rfl⟩
    have hzl := List.idxOf_lt_length_iff.2 hn
    rw [← hz] at hzl
    obtain ⟨v, hvz⟩ : ∃ v, VL[z]? = some v := ⟨_, List.getElem?_eq_getElem (by omega)⟩
    rw [cK_some hn, ← hz, getD_at hvz]
    rw [show findI KL n = (z : Int) by unfold findI; rw [if_pos hn, hz]] at HI
    obtain ⟨b, off, rfl, -, e1⟩ := (hv.below hbel (Nat.le_refl _)).cellAt hvz
    have hzv : z < VL.length := by omega
    have q1 : decide ((z : Int) < 0) = false := by simp
    have HE := Lib.hid e1
    obtain ⟨mk, hmk⟩ : ∃ m, m = KL.length := ⟨_, rfl⟩
    obtain ⟨mv, hmv⟩ : ∃ m, m = VL.length := ⟨_, rfl⟩
    rw [← hmk, ← hmv] at HI HE ⊢
    rw [← hmv] at hzv
    clear hk hv hbel hB hl hm hn hz hzl hvz e1 hmk hmv
    go_enter Tryz.func68, Tryz.ntmps68
    go_wp2_with fail
    refine HI.out.mono ?_
    rintro e w' ⟨rfl, rfl⟩
    have e1 := HE.out
    go_wp2
    refine bodyPost_ret (v := .tuple #[.int .i64 v, .bool true]) (by simp [results, Tryz.results68, go_sem]) rfl ?_
    exact ⟨rfl, (Below.refl _ _).alloc (Nat.le_refl _) _⟩
  · rw [cK_none hn]
    rw [show findI KL n = -1 by unfold findI; rw [if_neg hn]] at HI
    obtain ⟨mk, hmk⟩ : ∃ m, m = KL.length := ⟨_, rfl⟩
    obtain ⟨mv, hmv⟩ : ∃ m, m = VL.length := ⟨_, rfl⟩
    rw [← hmk, ← hmv] at HI ⊢
    clear hk hv hbel hB hl hm hn hmk hmv
    go_enter Tryz.func68, Tryz.ntmps68
    go_wp2_with fail
    refine HI.out.mono ?_
    rintro e w' ⟨rfl, rfl⟩
    go_wp2
    refine bodyPost_ret (v := .tuple #[.int .i64 0, .bool false]) (by simp [results, Tryz.results68, go_sem]) rfl ?_
    exact ⟨rfl, (Below.refl _ _).alloc (Nat.le_refl _) _⟩
/-- The axis of a label. -/
theorem find_axis {B B' : Nat} {kv av : Value} {KL : List Int} {AX : List AxE} {w : World} {z : Nat} {n l d s : Int} (hk : Rd B w kv (ints KL)) (ha : RdA B' w av AX) (hB : B ≤ w.heap.size) (hB' : B' ≤ w.heap.size) (hm : KL.length ≤ 281474976710656) (hn : n ∈ KL) (hz : KL.idxOf n = z) (hx : AX[z]? = some (l, d, s)) :
    Calls Tryz.prog 104 #[.agg #[kv, av], .int .i64 n] w fun e w' => e = .returned (.tuple #[.agg #[.int .i64 l, .int .i64 d, .int .i64 s], .bool true]) ∧ Below w.heap.size w w' := by
  obtain ⟨ak, ck, rfl, -⟩ := ints_form hk
  obtain ⟨aa, ca, rfl⟩ := ha.form
  obtain ⟨W, hW⟩ : ∃ W, W = ((w.alloc (.cells #[.slice ak KL.length ck, .slice aa AX.length ca] 142)).alloc (.cells #[.int .i64 0, .int .i64 0, .int .i64 0] 85)) := ⟨_, rfl⟩
  have hbel : Below w.heap.size w W := by rw [hW]; exact ((Below.refl _ _).alloc (Nat.le_refl _) _).alloc (by simp) _
  have HI := Lib.hid (index_any n (hk.below (hbel.mono hB) (Nat.le_refl _)) hm)
  rw [show findI KL n = (z : Int) by unfold findI; rw [if_pos hn, hz]] at HI
  obtain ⟨b, off, rfl, -, e1, e2, e3⟩ := (ha.below (hbel.mono hB') (Nat.le_refl _)).at hx
  dsimp only at e1 e2 e3
  have hzv : z < AX.length := (List.getElem?_eq_some_iff.1 hx).1
  have q1 : decide ((z : Int) < 0) = false := by simp
  obtain ⟨mk, hmk⟩ : ∃ m, m = KL.length := ⟨_, rfl⟩
  obtain ⟨mv, hmv⟩ : ∃ m, m = AX.length := ⟨_, rfl⟩
  rw [← hmk, ← hmv] at hW ⊢
  rw [← hmk] at HI
  rw [← hmv] at hzv
  subst hW
  have HE := Lib.hid (And.intro e1 (And.intro e2 e3))
  clear hk ha hbel hB hB' hm hn hz hx e1 e2 e3 hmk hmv
  go_enter Tryz.func104, Tryz.ntmps104
  go_wp2_with fail
  refine HI.out.mono ?_
  rintro e w' ⟨rfl, rfl⟩
  have e1 := HE.out.1
  have e2 := HE.out.2.1
  have e3 := HE.out.2.2
  go_wp2
  refine bodyPost_ret (v := .tuple #[.agg #[.int .i64 l, .int .i64 d, .int .i64 s], .bool true]) (by simp [results, Tryz.results104, go_sem]) rfl ?_
  exact ⟨rfl, ((Below.refl _ _).alloc (Nat.le_refl _) _).alloc (by simp) _⟩
end Go.Proofs.YtgbmacppgaopfabGreat
