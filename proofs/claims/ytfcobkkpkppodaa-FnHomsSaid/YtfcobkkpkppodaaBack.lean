
/- slices.Backward at integers; valueAt. -/
import Derived.RangeFuncNested
import Derived.RangeFuncBound
import Derived.RangeFuncBox
import Derived.RangeFuncCalls
import Derived.RangeFuncLeaves
import Derived.Shelf.Abstract
import Derived.Shelf.RegionOpen
import Derived.WalkKit
import Derived.OwnWalkIn
import Derived.TacticsInMore
import Derived.LoopNIn
import Derived.LoopIn
import Derived.Test.YtfcobkkpkppodaaInfo
import Derived.Test.YtfcobkkpkppodaaSl
namespace Go.Proofs.Ytfcobkkpkppodaa
set_option maxRecDepth 20000
open Go.RowKit Go.Shelf

attribute [local go_sem] Oper.semAt_some

theorem drop_step (zs : List Int) (q : Nat) (h : q < zs.length) : (zs.drop q).reverse = (zs.drop (q + 1)).reverse ++ [zs[q]?.getD 0] := by
  rw [List.drop_eq_getElem_cons h, List.reverse_cons]
  simp [h]
theorem drop_prefix (zs : List Int) (q : Nat) : (zs.drop q).reverse <+: zs.reverse := by
  refine ⟨(zs.take q).reverse, ?_⟩
  rw [← List.reverse_append, List.take_append_drop]

/-- Two blocks' cells are as they were. -/
def Keeps2 (b c : Nat) (W W' : World) : Prop := (∀ o, W'.cell? ⟨b, o, none⟩ = W.cell? ⟨b, o, none⟩) ∧ (∀ o, W'.cell? ⟨c, o, none⟩ = W.cell? ⟨c, o, none⟩)
theorem Keeps2.refl (b c : Nat) (W : World) : Keeps2 b c W W := ⟨fun _ => rfl, fun _ => rfl⟩
theorem Keeps2.trans {b c : Nat} {A B C : World} (h : Keeps2 b c A B) (k : Keeps2 b c B C) : Keeps2 b c A C := ⟨fun o => (k.1 o).trans (h.1 o), fun o => (k.2 o).trans (h.2 o)⟩
theorem Keeps2.turn {b c : Nat} {w : World} (hb : b < w.heap.size) (hc : c < w.heap.size) (W : World) (l : Nat) (o o' : Obj) (hl : w.heap.size ≤ l) (h0 : W.heap[l]? = some o) (_ : o.isCells = false) (_ : o.isWalk = false) : Keeps2 b c W (W.putObj l o') := by
  have h := grownBy_putObj' W l o'
  have h1 := (Array.getElem?_eq_some_iff.1 h0).1
  exact ⟨fun q => World.cell?_of_block (w := W) (h.block b (by omega) (fun e => by cases e; omega)), fun q => World.cell?_of_block (w := W) (h.block c (by omega) (fun e => by cases e; omega))⟩
theorem Keeps2.set {b c : Nat} {W : World} {p : Addr} (hb : p.block ≠ b) (hc : p.block ≠ c) (u : Value) : Keeps2 b c W (W.setCell p u) :=
  ⟨fun _ => World.cell?_of_block (w := W) (Below.heap_setCell W p u b (fun e => hb e.symm)), fun _ => World.cell?_of_block (w := W) (Below.heap_setCell W p u c (fun e => hc e.symm))⟩

set_option maxRecDepth 100000 in
set_option maxHeartbeats 2000000 in
/-- slices.Backward's closure, for every loop body that keeps the slice's block and its box. -/
theorem back1_in (F : Fence) (n : Nat) (hf : F.fn 102) (hro : F.round = none) (hn : 1 ≤ n) (l Bs b off len cap : Nat) (zs : List Int) (hlen : zs.length = len) (hreach : len * 8 ≤ 140737488351232) (J Jx : List (Nat × Int) → World → Prop)
    (hY : ∀ pre x W, J pre W → pre.length < len → YieldAt F (n - 1) Try.prog l #[.int .i64 (x.1 : Int), .int .i64 x.2] W fun e W' =>
      (e = .returned (.bool true) ∧ J (pre ++ [x]) W' ∧ Keeps2 Bs b W W') ∨ (e = .returned (.bool false) ∧ Jx (pre ++ [x]) W'))
    (W : World) (hBs : W.cell? ⟨Bs, 0, none⟩ = some (.slice (some ⟨b, off, none⟩) len cap)) (hc : ∀ j, j < len → W.cell? ⟨b, off + j, none⟩ = some (.int .i64 (zs[j]?.getD 0))) (h0 : J [] W) :
    CallsIn F n Try.prog 102 #[.func (.yield l) #[] #[], .pointer (some ⟨Bs, 0, none⟩)] W fun e W' => (∃ v, e = .returned v) ∧
      ((∃ ys, ys.map Prod.snd = zs.reverse ∧ J ys W') ∨ (∃ pre, pre.map Prod.snd <+: zs.reverse ∧ Jx pre W')) := by
  refine callsIn_of_wp Try.func102 rfl hf ?_ hro
  simp only [Try.ntmps102, List.size_toArray, List.length_cons, List.length_nil, Nat.reduceAdd, Nat.reduceSub, Array.replicate_succ, Array.replicate_zero, List.push_toArray, List.append_toArray, List.nil_append, List.cons_append]
  have hw : IntKind.i64.wrap ((len : Int) - 1) = (len : Int) - 1 := IntWalk.i64_in _ (by omega)
  gi_wp2
  gi_loopw [3] (fun i wr => ∃ (q : Nat) (pre : List (Nat × Int)), q ≤ len ∧ i = .int .i64 ((q : Int) - 1) ∧ pre.map Prod.snd = (zs.drop q).reverse ∧ J pre wr ∧ Keeps2 Bs b W wr)
    (fun i _ => (intOf i + 1).toNat)
  case atStart => exact ⟨len, [], Nat.le_refl _, rfl, by simp [← hlen], h0, Keeps2.refl _ _ _⟩
  case round =>
    obtain ⟨q, pre, hq, rfl, hpre, hJs, hnx⟩ := hrel
    have hpl : pre.length = len - q := by have := congrArg List.length hpre; simpa [hlen] using this
    cases q with
    | zero =>
      gi_wp2
      go_end0
      exact ⟨⟨_, rfl⟩, .inl ⟨pre, by simpa using hpre, hJs⟩⟩
    | succ q =>
      have hcx : wr.cell? ⟨b, off + q, none⟩ = some (.int .i64 (zs[q]?.getD 0)) := (hnx.2 (off + q)).trans (hc q (by omega))
      have hbs : wr.cell? ⟨Bs, 0, none⟩ = some (.slice (some ⟨b, off, none⟩) len cap) := (hnx.1 0).trans hBs
      obtain ⟨fn, tmps, assign, body, hy, hR⟩ := hY pre (q, zs[q]?.getD 0) wr hJs (by omega)
      dsimp only at hy
      have e1 : ((q + 1 : Nat) : Int) - 1 = (q : Int) := by omega
      have hpre2 : (pre ++ [(q, zs[q]?.getD 0)]).map Prod.snd = (zs.drop q).reverse := by rw [List.map_append, hpre, drop_step zs q (by omega)]; rfl
      have hw2 : IntKind.i64.wrap ((q : Int) - 1) = (q : Int) - 1 := IntWalk.i64_in _ (by omega)
      clear hpre hpl
      rw [e1]
      gi_wp2
      refine hR.mono ?_
      rintro e W3 (⟨rfl, hJ3, hk3⟩ | ⟨rfl, hJx3⟩)
      · gi_wp2
        go_roundw
        case rel => exact ⟨q, _, by omega, rfl, hpre2, hJ3, hnx.trans hk3⟩
        case measure => simp [intOf]
      · gi_wp2
        refine bodyPost_ret (results_none rfl _ _ _) rfl ?_
        exact ⟨⟨_, rfl⟩, .inr ⟨_, by rw [hpre2]; exact drop_prefix zs q, hJx3⟩⟩

set_option maxHeartbeats 1000000 in
/-- slices.Backward: the slice is boxed; the function value captures the box. -/
theorem back_in (F : Fence) (n : Nat) (hf : F.fn 99) (hro : F.round = none) (a : Option Addr) (len cap : Nat) (w : World) :
    CallsIn F n Try.prog 99 #[.slice a len cap] w fun e w' => e = .returned (.func (.func 102) #[] #[.pointer (some ⟨w.heap.size, 0, none⟩)]) ∧ w' = w.alloc (.cells #[.slice a len cap] 24) := by
  refine callsIn_of_wp Try.func99 rfl hf ?_ hro
  simp only [Try.ntmps99, List.size_toArray, List.length_cons, List.length_nil, Nat.reduceAdd, Nat.reduceSub, Array.replicate_succ, Array.replicate_zero, List.push_toArray, List.append_toArray, List.nil_append, List.cons_append]
  gi_wp2
  go_ret
  exact ⟨rfl, rfl⟩

/-- slices.Backward hands back a value that yields the integers from the last one to the first. -/
theorem back_stops (F : Fence) (n : Nat) (hf : F.fn 102) (hro : F.round = none) (hn : 1 ≤ n) (Bs b off cap : Nat) (zs : List Int) (hreach : zs.length * 8 ≤ 140737488351232) (w : World) (hBs : Bs < w.heap.size) (hb : b < w.heap.size)
    (hc : w.cell? ⟨Bs, 0, none⟩ = some (.slice (some ⟨b, off, none⟩) zs.length cap)) (hI : ∀ j, j < zs.length → w.cell? ⟨b, off + j, none⟩ = some (.int .i64 (zs[j]?.getD 0))) :
    SeqStopsK F n Try.prog 102 #[.pointer (some ⟨Bs, 0, none⟩)] (fun x : Nat × Int => #[Value.int .i64 (x.1 : Int), Value.int .i64 x.2]) (Keeps2 Bs b) (fun ys => ys.map Prod.snd = zs.reverse)
      (fun pre => pre.map Prod.snd <+: zs.reverse) zs.length w := fun l J Jx W hW _ _ hY h0 =>
  back1_in F n hf hro hn l Bs b off zs.length cap zs rfl hreach J Jx hY W ((hW.cell (p := ⟨Bs, 0, none⟩) hBs).trans hc) (fun j hj => (hW.cell (p := ⟨b, off + j, none⟩) hb).trans (hI j hj)) h0

/-- One step of Horner's way, as the program reckons. -/
def hornStep (a p v x : Int) : Int := (wrap64 (wrap64 (v * a) + x)).tmod p
theorem wrap64_in {x : Int} (h1 : 0 ≤ x) (h2 : x ≤ 9223372036854775807) : wrap64 x = x := by unfold wrap64; omega
def hornL (a p : Int) (xs : List Int) : Int := xs.foldl (hornStep a p) 0
theorem hornL_snoc (a p : Int) (xs : List Int) (x : Int) : hornL a p (xs ++ [x]) = hornStep a p (hornL a p xs) x := by simp [hornL]
set_option maxRecDepth 100000 in
set_option maxHeartbeats 2000000 in
theorem value_in (F : Fence) (n : Nat) (h3 : F.fn 87) (h5 : F.fn 99) (h7 : F.fn 102) (hro : F.round = none) (hn : 3 ≤ n) (b off cap : Nat) (zs : List Int) (a p : Int) (hp : ¬ p = 0) (hreach : zs.length * 8 ≤ 140737488351232) (w : World) (hb : b < w.heap.size)
    (hI : ∀ j, j < zs.length → w.cell? ⟨b, off + j, none⟩ = some (.int .i64 (zs[j]?.getD 0))) :
    CallsIn F n Try.prog 87 #[.slice (some ⟨b, off, none⟩) zs.length cap, .int .i64 a, .int .i64 p] w fun e W' => e = .returned (.int .i64 (hornL a p zs.reverse)) ∧ Below w.heap.size w W' := by
  have h1 : 1 ≤ n := by omega
  refine callsIn_of_wp_marks Try.func87 rfl h3 ?_ hro
  simp only [Try.ntmps87, List.size_toArray, List.length_cons, List.length_nil, Nat.reduceAdd, Nat.reduceSub, Array.replicate_succ, Array.replicate_zero, List.push_toArray, List.append_toArray, List.nil_append, List.cons_append]
  gi_wp2_with (gi_at_call 99; refine (back_in F (n - 1) h5 hro _ _ _ _).mono ?_; rintro e w' ⟨rfl, rfl⟩)
  have bA := Boxed.new w 3 (.int .i64 a)
  have bP := Boxed.new (w.alloc (.cells #[.int .i64 a] 3)) 3 (.int .i64 p)
  have bV := Boxed.new ((w.alloc (.cells #[.int .i64 a] 3)).alloc (.cells #[.int .i64 p] 3)) 3 (.int .i64 0)
  have bS := Boxed.new (((w.alloc (.cells #[.int .i64 a] 3)).alloc (.cells #[.int .i64 p] 3)).alloc (.cells #[.int .i64 0] 3)) 24 (.slice (some ⟨b, off, none⟩) zs.length cap)
  have hA := (((bA.alloc (.cells #[.int .i64 p] 3)).alloc (.cells #[.int .i64 0] 3)).alloc (.cells #[.slice (some ⟨b, off, none⟩) zs.length cap] 24)).cell
  have hP := ((bP.alloc (.cells #[.int .i64 0] 3)).alloc (.cells #[.slice (some ⟨b, off, none⟩) zs.length cap] 24)).cell
  have hV := (bV.alloc (.cells #[.slice (some ⟨b, off, none⟩) zs.length cap] 24)).cell
  have hF := (bV.alloc (.cells #[.slice (some ⟨b, off, none⟩) zs.length cap] 24)).frozen
  have hS := bS.cell
  have hB0 : Below w.heap.size w ((((w.alloc (.cells #[.int .i64 a] 3)).alloc (.cells #[.int .i64 p] 3)).alloc (.cells #[.int .i64 0] 3)).alloc (.cells #[.slice (some ⟨b, off, none⟩) zs.length cap] 24)) := ((((Below.refl _ w).alloc (Nat.le_refl _) _).alloc (by simp) _).alloc (by simp; omega) _).alloc (by simp; omega) _
  have hsz : ((((w.alloc (.cells #[.int .i64 a] 3)).alloc (.cells #[.int .i64 p] 3)).alloc (.cells #[.int .i64 0] 3)).alloc (.cells #[.slice (some ⟨b, off, none⟩) zs.length cap] 24)).heap.size = w.heap.size + 1 + 1 + 1 + 1 := by simp
  simp only [World.size_alloc] at hP hV hF hS
  clear bA bP bV bS
  generalize hW0 : (((w.alloc (.cells #[.int .i64 a] 3)).alloc (.cells #[.int .i64 p] 3)).alloc (.cells #[.int .i64 0] 3)).alloc (.cells #[.slice (some ⟨b, off, none⟩) zs.length cap] 24) = W0 at hA hP hV hF hS hB0 hsz ⊢
  clear hW0
  refine wpIn_rangeFunc_ownG hro h1 (gf := 102) (lb := #[.pointer (some ⟨w.heap.size + 1 + 1 + 1, 0, none⟩)]) rfl h7 (enters_of Try.func102 (by kernel_rfl) rfl)
    (back_stops F (n - 1) h7 hro (by omega) (w.heap.size + 1 + 1 + 1) b off cap zs hreach W0 (by omega) (by omega) hS (fun j hj => (hB0.cell (p := ⟨b, off + j, none⟩) hb).trans (hI j hj))) (fun h k => h.trans k) (Keeps2.turn (by omega) (by omega)) (Below.refl _ _) (fun _ => rfl)
    (fun pre W => ((W.cell? ⟨w.heap.size + 1 + 1, 0, none⟩ = some (.int .i64 (hornL a p (pre.map Prod.snd))) ∧ W.frozen? ⟨w.heap.size + 1 + 1, 0, none⟩ = false) ∧ W.cell? ⟨w.heap.size, 0, none⟩ = some (.int .i64 a) ∧ W.cell? ⟨w.heap.size + 1, 0, none⟩ = some (.int .i64 p)) ∧ Below w.heap.size w W)
    (fun _ _ _ => False)
    (OwnFrom.and (Own.from (fun s A B row hs hg hr => ⟨⟨cell_kept hs.1.1 hg hr, (frozen_kept hs.1.1 hg hr).trans hs.1.2⟩, cell_kept hs.2.1 hg hr, cell_kept hs.2.2 hg hr⟩) _) (ownFrom_below (Nat.le_refl _) (by omega)))
    (fun _ _ _ _ _ hs _ _ => hs)
    ⟨⟨⟨hV, hF⟩, hA, hP⟩, hB0⟩
    (fun x => { tmps := #[.slice (some ⟨b, off, none⟩) zs.length cap, .int .i64 a, .int .i64 p, undef, .pointer (some ⟨w.heap.size, 0, none⟩), .pointer (some ⟨w.heap.size + 1, 0, none⟩), .int .i64 0, .pointer (some ⟨w.heap.size + 1 + 1, 0, none⟩), undef, .int .i64 x.2, .slice (some ⟨b, off, none⟩) zs.length cap, .func (.func 102) #[] #[.pointer (some ⟨w.heap.size + 1 + 1 + 1, 0, none⟩)], .int .i64 (x.1 : Int), .int .i64 x.2, undef, undef, undef, undef, undef, undef, undef, undef], defers := [] }) ?assign ?body ?done ?stop
  case assign =>
    intro l x W K hK
    gi_wp2
    exact hK
  case body =>
    rintro l pre x W ⟨⟨⟨hc, hf⟩, ha, hq⟩, hB⟩ _
    gi_wp2
    exact ⟨(KeepsOthers.setCell _ _ _).from _, Keeps2.set (by show w.heap.size + 1 + 1 ≠ w.heap.size + 1 + 1 + 1; omega) (by show w.heap.size + 1 + 1 ≠ b; omega) _,
      ⟨⟨by rw [List.map_append]; exact (hornL_snoc a p (pre.map Prod.snd) x.2).symm ▸ World.cell?_setCell_same' _ _ _ (by rw [hc]; rfl), by rw [World.frozen?_setCell]; exact hf⟩,
        (World.cell?_of_block (w := W) (Below.heap_setCell W ⟨w.heap.size + 1 + 1, 0, none⟩ _ w.heap.size (by show w.heap.size ≠ w.heap.size + 1 + 1; omega))).trans ha,
        (World.cell?_of_block (w := W) (Below.heap_setCell W ⟨w.heap.size + 1 + 1, 0, none⟩ _ (w.heap.size + 1) (by show w.heap.size + 1 ≠ w.heap.size + 1 + 1; omega))).trans hq⟩,
      hB.setCell (p := ⟨w.heap.size + 1 + 1, 0, none⟩) (by show w.heap.size ≤ w.heap.size + 1 + 1; omega) _⟩
  case done =>
    rintro D ys W hD hys ⟨⟨⟨hc, hf⟩, ha, hq⟩, hB⟩ hK
    gi_wp2
    refine ⟨by simp, .inl ⟨_, _, rfl, run_takeDeferred hK, ?_⟩⟩
    exact ⟨_, results_tmp rfl _ _ _, rfl, hB.trans (belowK_b (w := w) (Nat.le_refl _) W D _ _ (by omega) hK rfl rfl)⟩
  case stop =>
    rintro D c pre W _ _ h _
    exact h.elim
/-- impl.valueAt on integers in their range: Horner's way modulo p. -/
def hornV (a p : Int) (xs : List Int) : Int := xs.foldl (fun v x => (v * a + x) % p) 0
theorem horn_eq {a p : Int} (ha : 0 ≤ a) (hap : a < p) (hp : p ≤ 1000003) (xs : List Int) (hx : ∀ x ∈ xs, 0 ≤ x ∧ x ≤ 1000003) : hornL a p xs = hornV a p xs := by
  have key : ∀ (xs : List Int) (v : Int), (∀ x ∈ xs, 0 ≤ x ∧ x ≤ 1000003) → 0 ≤ v → v ≤ 1000003 → xs.foldl (hornStep a p) v = xs.foldl (fun v x => (v * a + x) % p) v := by
    intro xs
    induction xs with
    | nil => intro v _ _ _; rfl
    | cons x xs ih =>
      intro v hx h0 h1
      have h2 := hx x (by simp)
      have h3 : 0 ≤ v * a ∧ v * a ≤ 1000003 * 1000003 := ⟨Int.mul_nonneg h0 ha, Int.mul_le_mul h1 (by omega) ha (by omega)⟩
      have h4 : hornStep a p v x = (v * a + x) % p := by
        unfold hornStep
        rw [wrap64_in h3.1 (by omega), wrap64_in (by omega) (by omega), Int.tmod_eq_emod_of_nonneg (by omega)]
      have h5 := Int.emod_nonneg (v * a + x) (show p ≠ 0 by omega)
      have h6 := Int.emod_lt_of_pos (v * a + x) (show 0 < p by omega)
      rw [List.foldl_cons, List.foldl_cons, h4]
      exact ih _ (fun y hy => hx y (List.mem_cons_of_mem _ hy)) h5 (by omega)
  exact key xs 0 hx (by omega) (by omega)
theorem value_at (b off cap m : Nat) (xs : List Int) (a p : Int) (w : World) (hm : xs.length = m) (hm1 : m ≤ 6) (ha : 0 ≤ a) (hap : a < p) (hp : p ≤ 1000003) (hx : ∀ x ∈ xs, 0 ≤ x ∧ x ≤ 1000003) (hb : b < w.heap.size)
    (hc : ∀ i (h : i < xs.length), w.cell? ⟨b, off + i, none⟩ = some (.int .i64 xs[i])) :
    Calls Try.prog 87 #[.slice (some ⟨b, off, none⟩) m cap, .int .i64 a, .int .i64 p] w fun e w' => e = .returned (.int .i64 (hornV a p xs.reverse)) ∧ Below w.heap.size w w' := by
  subst hm
  refine (callsIn_wide (n := 3)).1 ?_
  rw [← horn_eq ha hap hp xs.reverse (fun x h => hx x (by simpa using h))]
  exact value_in _ 3 trivial trivial trivial rfl (Nat.le_refl _) b off cap xs a p (by omega) (by omega) w hb (fun j hj => by rw [hc j hj]; simp [hj])
end Go.Proofs.Ytfcobkkpkppodaa
