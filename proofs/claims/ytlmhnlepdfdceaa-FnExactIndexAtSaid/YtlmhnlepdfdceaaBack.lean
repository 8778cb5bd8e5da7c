
/- slices.Backward at integers; valueAt. -/
import Derived.RangeFuncNested
import Derived.RangeFuncBound
import Derived.RangeFuncBox
import Derived.RangeFuncCalls
import Derived.RangeFuncLeaves
import Derived.Shelf.Abstract
import Derived.Shelf.RegionOpen
import Derived.WalkKit
import Derived.OwnWalkIn
import Derived.TacticsInMore
import Derived.LoopNIn
import Derived.LoopIn
import Derived.Test.YtlmhnlepdfdceaaInfo
import Derived.Test.YtlmhnlepdfdceaaSl
namespace Go.Proofs.Ytlmhnlepdfdceaa
set_option maxRecDepth 20000
open Go.RowKit Go.Shelf

attribute [local go_sem] Oper.semAt_some

theorem drop_step (zs : List Int) (q : Nat) (h : q < zs.length) : (zs.drop q).reverse = (zs.drop (q + 1)).reverse ++ [zs[q]?.getD 0] := by
  rw [List.drop_eq_getElem_cons h, List.reverse_cons]
  simp [h]
theorem drop_prefix (zs : List Int) (q : Nat) : (zs.drop q).reverse <+: zs.reverse := by
  refine ⟨(zs.take q).reverse, ?_⟩
  rw [← List.reverse_append, List.take_append_drop]

/-- Two blocks' cells are as they were. -/
def Keeps2 (b c : Nat) (W W' : World) : Prop := (∀ o, W'.cell? ⟨b, o, none⟩ = W.cell? ⟨b, o, none⟩) ∧ (∀ o, W'.cell? ⟨c, o, none⟩ = W.cell? ⟨c, o, none⟩)
theorem Keeps2.refl (b c : Nat) (W : World) : Keeps2 b c W W := ⟨fun _ => rfl, fun _ => rfl⟩
theorem Keeps2.trans {b c : Nat} {A B C : World} (h : Keeps2 b c A B) (k : Keeps2 b c B C) : Keeps2 b c A C := ⟨fun o => (k.1 o).trans (h.1 o), fun o => (k.2 o).trans (h.2 o)⟩
theorem Keeps2.turn {b c : Nat} {w : World} (hb : b < w.heap.size) (hc : c < w.heap.size) (W : World) (l : Nat) (o o' : Obj) (hl : w.heap.size ≤ l) (h0 : W.heap[l]? = some o) (_ : o.isCells = false) (_ : o.isWalk = false) : Keeps2 b c W (W.putObj l o') := by
  have h := grownBy_putObj' W l o'
  have h1 := (Array.getElem?_eq_some_iff.1 h0).1
  exact ⟨fun q => World.cell?_of_block (w := W) (h.block b (by omega) (fun e => by cases e; omega)), fun q => World.cell?_of_block (w := W) (h.block c (by omega) (fun e => by cases e; omega))⟩
theorem Keeps2.set {b c : Nat} {W : World} {p : Addr} (hb : p.block ≠ b) (hc : p.block ≠ c) (u : Value) : Keeps2 b c W (W.setCell p u) :=
  ⟨fun _ => World.cell?_of_block (w := W) (Below.heap_setCell W p u b (fun e => hb e.symm)), fun _ => World.cell?_of_block (w := W) (Below.heap_setCell W p u c (fun e => hc e.symm))⟩

set_option maxRecDepth 100000 in
set_option maxHeartbeats 2000000 in
/-- slices.Backward's closure, for every loop body that keeps the slice's block and its box. -/
theorem back1_in (F : Fence) (n : Nat) (hf : F.fn 76) (hro : F.round = none) (hn : 1 ≤ n) (l Bs b off len cap : Nat) (zs : List Int) (hlen : zs.length = len) (hreach : len * 8 ≤ 140737488351232) (J Jx : List (Nat × Int) → World → Prop)
    (hY : ∀ pre x W, J pre W → pre.length < len → YieldAt F (n - 1) Try.prog l #[.int .i64 (x.1 : Int), .int .i64 x.2] W fun e W' =>
      (e = .returned (.bool true) ∧ J (pre ++ [x]) W' ∧ Keeps2 Bs b W W') ∨ (e = .returned (.bool false) ∧ Jx (pre ++ [x]) W'))
    (W : World) (hBs : W.cell? ⟨Bs, 0, none⟩ = some (.slice (some ⟨b, off, none⟩) len cap)) (hc : ∀ j, j < len → W.cell? ⟨b, off + j, none⟩ = some (.int .i64 (zs[j]?.getD 0))) (h0 : J [] W) :
    CallsIn F n Try.prog 76 #[.func (.yield l) #[] #[], .pointer (some ⟨Bs, 0, none⟩)] W fun e W' => (∃ v, e = .returned v) ∧
      ((∃ ys, ys.map Prod.snd = zs.reverse ∧ J ys W') ∨ (∃ pre, pre.map Prod.snd <+: zs.reverse ∧ Jx pre W')) := by
  refine callsIn_of_wp Try.func76 rfl hf ?_ hro
  simp only [Try.ntmps76, List.size_toArray, List.length_cons, List.length_nil, Nat.reduceAdd, Nat.reduceSub, Array.replicate_succ, Array.replicate_zero, List.push_toArray, List.append_toArray, List.nil_append, List.cons_append]
  have hw : IntKind.i64.wrap ((len : Int) - 1) = (len : Int) - 1 := IntWalk.i64_in _ (by omega)
  gi_wp2
  gi_loopw [3] (fun i wr => ∃ (q : Nat) (pre : List (Nat × Int)), q ≤ len ∧ i = .int .i64 ((q : Int) - 1) ∧ pre.map Prod.snd = (zs.drop q).reverse ∧ J pre wr ∧ Keeps2 Bs b W wr)
    (fun i _ => (intOf i + 1).toNat)
  case atStart => exact ⟨len, [], Nat.le_refl _, rfl, by simp [← hlen], h0, Keeps2.refl _ _ _⟩
  case round =>
    obtain ⟨q, pre, hq, rfl, hpre, hJs, hnx⟩ := hrel
    have hpl : pre.length = len - q := by have := congrArg List.length hpre; simpa [hlen] using this
    cases q with
    | zero =>
      gi_wp2
      go_end0
      exact ⟨⟨_, rfl⟩, .inl ⟨pre, by simpa using hpre, hJs⟩⟩
    | succ q =>
      have hcx : wr.cell? ⟨b, off + q, none⟩ = some (.int .i64 (zs[q]?.getD 0)) := (hnx.2 (off + q)).trans (hc q (by omega))
      have hbs : wr.cell? ⟨Bs, 0, none⟩ = some (.slice (some ⟨b, off, none⟩) len cap) := (hnx.1 0).trans hBs
      obtain ⟨fn, tmps, assign, body, hy, hR⟩ := hY pre (q, zs[q]?.getD 0) wr hJs (by omega)
      dsimp only at hy
      have e1 : ((q + 1 : Nat) : Int) - 1 = (q : Int) := by omega
      have hpre2 : (pre ++ [(q, zs[q]?.getD 0)]).map Prod.snd = (zs.drop q).reverse := by rw [List.map_append, hpre, drop_step zs q (by omega)]; rfl
      have hw2 : IntKind.i64.wrap ((q : Int) - 1) = (q : Int) - 1 := IntWalk.i64_in _ (by omega)
      clear hpre hpl
      rw [e1]
      gi_wp2
      refine hR.mono ?_
      rintro e W3 (⟨rfl, hJ3, hk3⟩ | ⟨rfl, hJx3⟩)
      · gi_wp2
        go_roundw
        case rel => exact ⟨q, _, by omega, rfl, hpre2, hJ3, hnx.trans hk3⟩
        case measure => simp [intOf]
      · gi_wp2
        refine bodyPost_ret (results_none rfl _ _ _) rfl ?_
        exact ⟨⟨_, rfl⟩, .inr ⟨_, by rw [hpre2]; exact drop_prefix zs q, hJx3⟩⟩

set_option maxHeartbeats 1000000 in
/-- slices.Backward: the slice is boxed; the function value captures the box. -/
theorem back_in (F : Fence) (n : Nat) (hf : F.fn 71) (hro : F.round = none) (a : Option Addr) (len cap : Nat) (w : World) :
    CallsIn F n Try.prog 71 #[.slice a len cap] w fun e w' => e = .returned (.func (.func 76) #[] #[.pointer (some ⟨w.heap.size, 0, none⟩)]) ∧ w' = w.alloc (.cells #[.slice a len cap] 22) := by
  refine callsIn_of_wp Try.func71 rfl hf ?_ hro
  simp only [Try.ntmps71, List.size_toArray, List.length_cons, List.length_nil, Nat.reduceAdd, Nat.reduceSub, Array.replicate_succ, Array.replicate_zero, List.push_toArray, List.append_toArray, List.nil_append, List.cons_append]
  gi_wp2
  go_ret
  exact ⟨rfl, rfl⟩

/-- slices.Backward hands back a value that yields the integers from the last one to the first. -/
theorem back_stops (F : Fence) (n : Nat) (hf : F.fn 76) (hro : F.round = none) (hn : 1 ≤ n) (Bs b off cap : Nat) (zs : List Int) (hreach : zs.length * 8 ≤ 140737488351232) (w : World) (hBs : Bs < w.heap.size) (hb : b < w.heap.size)
    (hc : w.cell? ⟨Bs, 0, none⟩ = some (.slice (some ⟨b, off, none⟩) zs.length cap)) (hI : ∀ j, j < zs.length → w.cell? ⟨b, off + j, none⟩ = some (.int .i64 (zs[j]?.getD 0))) :
    SeqStopsK F n Try.prog 76 #[.pointer (some ⟨Bs, 0, none⟩)] (fun x : Nat × Int => #[Value.int .i64 (x.1 : Int), Value.int .i64 x.2]) (Keeps2 Bs b) (fun ys => ys.map Prod.snd = zs.reverse)
      (fun pre => pre.map Prod.snd <+: zs.reverse) zs.length w := fun l J Jx W hW _ _ hY h0 =>
  back1_in F n hf hro hn l Bs b off zs.length cap zs rfl hreach J Jx hY W ((hW.cell (p := ⟨Bs, 0, none⟩) hBs).trans hc) (fun j hj => (hW.cell (p := ⟨b, off + j, none⟩) hb).trans (hI j hj)) h0

/-- One step of Horner's way, as the program reckons. -/
def hornStep (a p v x : Int) : Int := (wrap64 (wrap64 (v * a) + x)).tmod p
theorem wrap64_in {x : Int} (h1 : 0 ≤ x) (h2 : x ≤ 9223372036854775807) : wrap64 x = x := by unfold wrap64; omega
def hornL (a p : Int) (xs : List Int) : Int := xs.foldl (hornStep a p) 0
theorem hornL_snoc (a p : Int) (xs : List Int) (x : Int) : hornL a p (xs ++ [x]) = hornStep a p (hornL a p xs) x := by simp [hornL]
/-- impl.valueAt on integers in their range: Horner's way modulo p. -/
def hornV (a p : Int) (xs : List Int) : Int := xs.foldl (fun v x => (v * a + x) % p) 0
theorem horn_eq {a p : Int} (ha : 0 ≤ a) (hap : a < p) (hp : p ≤ 1000003) (xs : List Int) (hx : ∀ x ∈ xs, 0 ≤ x ∧ x ≤ 1000003) : hornL a p xs = hornV a p xs := by
  have key : ∀ (xs : List Int) (v : Int), (∀ x ∈ xs, 0 ≤ x ∧ x ≤ 1000003) → 0 ≤ v → v ≤ 1000003 → xs.foldl (hornStep a p) v = xs.foldl (fun v x => (v * a + x) % p) v := by
    intro xs
    induction xs with
    | nil => intro v _ _ _; rfl
    | cons x xs ih =>
      intro v hx h0 h1
      have h2 := hx x (by simp)
      have h3 : 0 ≤ v * a ∧ v * a ≤ 1000003 * 1000003 := ⟨Int.mul_nonneg h0 ha, Int.mul_le_mul h1 (by omega) ha (by omega)⟩
      have h4 : hornStep a p v x = (v * a + x) % p := by
        unfold hornStep
        rw [wrap64_in h3.1 (by omega), wrap64_in (by omega) (by omega), Int.tmod_eq_emod_of_nonneg (by omega)]
      have h5 := Int.emod_nonneg (v * a + x) (show p ≠ 0 by omega)
      have h6 := Int.emod_lt_of_pos (v * a + x) (show 0 < p by omega)
      rw [List.foldl_cons, List.foldl_cons, h4]
      exact ih _ (fun y hy => hx y (List.mem_cons_of_mem _ hy)) h5 (by omega)
  exact key xs 0 hx (by omega) (by omega)
end Go.Proofs.Ytlmhnlepdfdceaa
