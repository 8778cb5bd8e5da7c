
/- impl.indexIn (a range over slices.Backward that writes into a row), impl.IndexAt. -/
import Derived.Test.YtlmhnlepdfdceaaBack
import Derived.Test.YtlmhnlepdfdceaaIndex
import Derived.Test.YtlmhnlepdfdceaaOffsetImpl
import Derived.BigRegionIn
import Derived.Laws.OwnMore
namespace Go.Proofs.Ytlmhnlepdfdceaa
set_option maxRecDepth 20000
open Go.RowKit Go.Shelf

attribute [local go_sem] Oper.semAt_some

/-- An axis with its dimension. -/
abbrev AxisOf (D : List Int) := { x : Nat × Int // D[x.1]? = some x.2 }
/-- These are the last axes, the last one first. -/
def LastOnes {D : List Int} (m : Nat) (pre : List (AxisOf D)) : Prop := ∀ (i : Nat) (x : AxisOf D), pre[i]? = some x → x.1.1 + i + 1 = m
theorem LastOnes.nil {D : List Int} (m : Nat) : LastOnes (D := D) m [] := fun i x h => by simp at h
theorem LastOnes.snoc {D : List Int} {m : Nat} {pre : List (AxisOf D)} {x : AxisOf D} (h : LastOnes m pre) (hx : x.1.1 + pre.length + 1 = m) : LastOnes m (pre ++ [x]) := fun i y hy => by
  by_cases hi : i < pre.length
  · rw [List.getElem?_append_left hi] at hy
    exact h i y hy
  · by_cases e : i = pre.length
    · subst e
      simp at hy
      subst hy
      exact hx
    · rw [List.getElem?_eq_none (by simp; omega)] at hy
      cases hy
theorem LastOnes.init {D : List Int} {m : Nat} {pre : List (AxisOf D)} {x : AxisOf D} (h : LastOnes m (pre ++ [x])) : LastOnes m pre ∧ x.1.1 + pre.length + 1 = m :=
  ⟨fun i y hy => h i y (by rw [List.getElem?_append_left (List.getElem?_eq_some_iff.1 hy).1]; exact hy), h pre.length x (by simp)⟩

set_option maxRecDepth 100000 in
set_option maxHeartbeats 2000000 in
/-- slices.Backward's closure, told of the places, too. -/
theorem back3_in (F : Fence) (n : Nat) (hf : F.fn 76) (hro : F.round = none) (hn : 1 ≤ n) (l Bs b off len cap : Nat) (a : Option Addr) (zs : List Int) (hlen : zs.length = len) (ha : 0 < len → a = some ⟨b, off, none⟩) (hreach : len * 8 ≤ 140737488351232) (J Jx : List (AxisOf zs) → World → Prop)
    (hY : ∀ pre (x : AxisOf zs) W, J pre W → pre.length < len → YieldAt F (n - 1) Try.prog l #[.int .i64 (x.1.1 : Int), .int .i64 x.1.2] W fun e W' =>
      (e = .returned (.bool true) ∧ J (pre ++ [x]) W' ∧ Keeps2 Bs b W W') ∨ (e = .returned (.bool false) ∧ Jx (pre ++ [x]) W'))
    (W : World) (hBs : W.cell? ⟨Bs, 0, none⟩ = some (.slice a len cap)) (hc : ∀ j, j < len → W.cell? ⟨b, off + j, none⟩ = some (.int .i64 (zs[j]?.getD 0))) (h0 : J [] W) :
    CallsIn F n Try.prog 76 #[.func (.yield l) #[] #[], .pointer (some ⟨Bs, 0, none⟩)] W fun e W' => (∃ v, e = .returned v) ∧
      ((∃ ys : List (AxisOf zs), (LastOnes len ys ∧ ys.length = len) ∧ J ys W') ∨ (∃ pre : List (AxisOf zs), True ∧ Jx pre W')) := by
  refine callsIn_of_wp Try.func76 rfl hf ?_ hro
  simp only [Try.ntmps76, List.size_toArray, List.length_cons, List.length_nil, Nat.reduceAdd, Nat.reduceSub, Array.replicate_succ, Array.replicate_zero, List.push_toArray, List.append_toArray, List.nil_append, List.cons_append]
  have hw : IntKind.i64.wrap ((len : Int) - 1) = (len : Int) - 1 := IntWalk.i64_in _ (by omega)
  have HA := Lib.hid ha
  clear ha
  gi_wp2
  gi_loopw [3] (fun i wr => ∃ (q : Nat) (pre : List (AxisOf zs)), q ≤ len ∧ i = .int .i64 ((q : Int) - 1) ∧ Hid (LastOnes len pre ∧ pre.length = len - q) ∧ J pre wr ∧ Keeps2 Bs b W wr)
    (fun i _ => (intOf i + 1).toNat)
  case atStart => exact ⟨len, [], Nat.le_refl _, rfl, ⟨LastOnes.nil _, by simp⟩, h0, Keeps2.refl _ _ _⟩
  case round =>
    obtain ⟨q, pre, hq, rfl, HPRE, hJs, hnx⟩ := hrel
    cases q with
    | zero =>
      gi_wp2
      go_end0
      exact ⟨⟨_, rfl⟩, .inl ⟨pre, ⟨HPRE.out.1, by have := HPRE.out.2; omega⟩, hJs⟩⟩
    | succ q =>
      obtain rfl := HA.out (by omega)
      have hcx : wr.cell? ⟨b, off + q, none⟩ = some (.int .i64 (zs[q]?.getD 0)) := (hnx.2 (off + q)).trans (hc q (by omega))
      have hbs : wr.cell? ⟨Bs, 0, none⟩ = some (.slice (some ⟨b, off, none⟩) len cap) := (hnx.1 0).trans hBs
      have HZQ : Hid (zs[q]? = some (zs[q]?.getD 0)) := by show _ = _; rw [List.getElem?_eq_getElem (by omega)]; rfl
      have hpl : pre.length < len := by have := HPRE.out.2; omega
      obtain ⟨fn, tmps, assign, body, hy, hR⟩ := hY pre ⟨(q, zs[q]?.getD 0), HZQ.out⟩ wr hJs hpl
      dsimp only at hy
      have e1 : ((q + 1 : Nat) : Int) - 1 = (q : Int) := by omega
      have HPRE2 : Hid (LastOnes len (pre ++ [⟨(q, zs[q]?.getD 0), HZQ.out⟩]) ∧ (pre ++ [(⟨(q, zs[q]?.getD 0), HZQ.out⟩ : AxisOf zs)]).length = len - q) :=
        ⟨HPRE.out.1.snoc (by have := HPRE.out.2; show q + pre.length + 1 = len; omega), by have := HPRE.out.2; simp; omega⟩
      have hw2 : IntKind.i64.wrap ((q : Int) - 1) = (q : Int) - 1 := IntWalk.i64_in _ (by omega)
      clear hpl HPRE
      rw [e1]
      gi_wp2
      refine hR.mono ?_
      rintro e W3 (⟨rfl, hJ3, hk3⟩ | ⟨rfl, hJx3⟩)
      · gi_wp2
        go_roundw
        case rel => exact ⟨q, _, by omega, rfl, HPRE2, hJ3, hnx.trans hk3⟩
        case measure => simp [intOf]
      · gi_wp2
        refine bodyPost_ret (results_none rfl _ _ _) rfl ?_
        exact ⟨⟨_, rfl⟩, .inr ⟨_, trivial, hJx3⟩⟩
theorem back3_stops (F : Fence) (n : Nat) (hf : F.fn 76) (hro : F.round = none) (hn : 1 ≤ n) (Bs b off len cap : Nat) (a : Option Addr) (zs : List Int) (hlen : zs.length = len) (ha : 0 < len → a = some ⟨b, off, none⟩) (hreach : len * 8 ≤ 140737488351232) (w : World) (hBs : Bs < w.heap.size) (hb : b < w.heap.size)
    (hc : w.cell? ⟨Bs, 0, none⟩ = some (.slice a len cap)) (hI : ∀ j, j < len → w.cell? ⟨b, off + j, none⟩ = some (.int .i64 (zs[j]?.getD 0))) :
    SeqStopsK F n Try.prog 76 #[.pointer (some ⟨Bs, 0, none⟩)] (fun x : AxisOf zs => #[Value.int .i64 (x.1.1 : Int), Value.int .i64 x.1.2]) (Keeps2 Bs b) (fun ys => LastOnes len ys ∧ ys.length = len)
      (fun _ => True) len w := fun l J Jx W hW _ _ hY h0 =>
  back3_in F n hf hro hn l Bs b off len cap a zs hlen ha hreach J Jx hY W ((hW.cell (p := ⟨Bs, 0, none⟩) hBs).trans hc) (fun j hj => (hW.cell (p := ⟨b, off + j, none⟩) hb).trans (hI j hj)) h0

/-- What holds behind some rounds: n is divided by the last dimensions; the last places of the row are filled. -/
def IxInv (w : World) (V : Nat) (D : List Int) (n : Int) (m : Nat) (pre : List (AxisOf D)) (W : World) : Prop :=
  ∃ (c : Int) (cs : List Value), (W.cell? ⟨w.heap.size, 0, none⟩ = some (.int .i64 c) ∧ W.frozen? ⟨w.heap.size, 0, none⟩ = false) ∧ W.cell? ⟨V, 0, none⟩ = some (.slice (some ⟨w.heap.size + 1, 0, none⟩) m m) ∧
    W.ownsRow w.heap.size 3 1 (.slice (some ⟨w.heap.size + 1, 0, none⟩) m m) m cs ∧ (0 ≤ c ∧ c ≤ 4096) ∧ Below w.heap.size w W ∧
    (LastOnes m pre → c = n / prodL (D.drop (m - pre.length)) ∧ ∀ i, m - pre.length ≤ i → cs[i]? = (ints (idxL D n))[i]?)
theorem ownsRow_not_cells {W W' : World} {base n : Nat} {E : TypeId} {v : Value} {cs : List Value} {row : Option Nat} (h : W.ownsRow base E 1 v n cs) (hg : W.grownBy W' row) (hr : ∀ r, row = some r → ∃ o : Obj, W.heap[r]? = some o ∧ o.isCells = false) : W'.ownsRow base E 1 v n cs := by
  refine h.kept hg ?_
  rcases h.2 with ⟨rfl, -⟩ | ⟨g, cap, cur, rfl, -, hgg, -⟩
  · exact .inl rfl
  · refine .inr fun e => ?_
    obtain ⟨o, ho, hc⟩ := hr g e.symm
    rw [hgg] at ho
    cases ho
    simp [Obj.isCells] at hc
theorem IxInv.own (w : World) (V : Nat) (D : List Int) (n : Int) (m B : Nat) (hB : w.heap.size ≤ B) : OwnFrom B (IxInv w V D n m) := fun pre A A' row hs hg hr => by
  obtain ⟨c, cs, ⟨h1, h2⟩, h3, h4, h5, h6, h7⟩ := hs
  have hr' := fun r e => (hr r e).2
  exact ⟨c, cs, ⟨cell_kept h1 hg hr', (frozen_kept h1 hg hr').trans h2⟩, cell_kept h3 hg hr', ownsRow_not_cells h4 hg hr', h5, h6.grown hg h6.size (fun k e => Nat.le_trans hB (hr k e).1), h7⟩

theorem IxInv.step {w W : World} {V : Nat} {D : List Int} {n c d : Int} {m q : Nat} {pre : List (AxisOf D)} {x : AxisOf D} {cs : List Value} (hDl : D.length = m) (hD : ∀ d ∈ D, 1 ≤ d ∧ d ≤ 8) (hV : w.heap.size + 1 < V) (hx : D[q]? = some d) (hq : x.1.1 = q)
    (hc : W.cell? ⟨w.heap.size, 0, none⟩ = some (.int .i64 c)) (hf : W.frozen? ⟨w.heap.size, 0, none⟩ = false) (hv : W.cell? ⟨V, 0, none⟩ = some (.slice (some ⟨w.heap.size + 1, 0, none⟩) m m)) (ho : W.ownsRow w.heap.size 3 1 (.slice (some ⟨w.heap.size + 1, 0, none⟩) m m) m cs)
    (h0 : 0 ≤ c / d) (h1 : c / d ≤ 4096) (hB : Below w.heap.size w W) (hP : LastOnes m pre → c = n / prodL (D.drop (m - pre.length)) ∧ ∀ i, m - pre.length ≤ i → cs[i]? = (ints (idxL D n))[i]?) :
    IxInv w V D n m (pre ++ [x]) ((W.setCell ⟨w.heap.size + 1, q, none⟩ (.int .i64 (c % d))).setCell ⟨w.heap.size, 0, none⟩ (.int .i64 (c / d))).drew := by
  have hql : q < m := by have := (List.getElem?_eq_some_iff.1 hx).1; omega
  have clen : cs.length = m := by have := ho.1; omega
  have st := ho.stored q (.int .i64 (c % d))
  have e1 : (W.setCell ⟨w.heap.size + 1, q, none⟩ (.int .i64 (c % d))).cell? ⟨w.heap.size, 0, none⟩ = some (.int .i64 c) :=
    (World.cell?_of_block (w := W) (Below.heap_setCell W ⟨w.heap.size + 1, q, none⟩ _ w.heap.size (by show w.heap.size ≠ w.heap.size + 1; omega))).trans hc
  have e2 : (W.setCell ⟨w.heap.size + 1, q, none⟩ (.int .i64 (c % d))).frozen? ⟨w.heap.size, 0, none⟩ = false := by rw [World.frozen?_setCell]; exact hf
  refine ⟨c / d, cs.set q (.int .i64 (c % d)), ⟨World.cell?_setCell_same' _ _ _ (by rw [e1]; rfl), ?_⟩, ?_, ?_, ⟨h0, h1⟩, ?_, fun hl => ?_⟩
  · show World.frozen? ((W.setCell ⟨w.heap.size + 1, q, none⟩ (.int .i64 (c % d))).setCell ⟨w.heap.size, 0, none⟩ (.int .i64 (c / d))) _ = false
    rw [World.frozen?_setCell]; exact e2
  · show World.cell? ((W.setCell ⟨w.heap.size + 1, q, none⟩ (.int .i64 (c % d))).setCell ⟨w.heap.size, 0, none⟩ (.int .i64 (c / d))) _ = _
    rw [World.cell?_of_block (w := W) ((Below.heap_setCell _ ⟨w.heap.size, 0, none⟩ _ V (by show V ≠ w.heap.size; omega)).trans (Below.heap_setCell W ⟨w.heap.size + 1, q, none⟩ _ V (by show V ≠ w.heap.size + 1; omega)))]
    exact hv
  · have h9 := st.1.kept (row := some w.heap.size) (grownBy_setCell' (W.setCell ⟨w.heap.size + 1, q, none⟩ (.int .i64 (c % d))) w.heap.size (.int .i64 (c / d))) (.inr (by simp [Value.ownBlock]))
    exact h9
  · exact ((hB.setCell (p := ⟨w.heap.size + 1, q, none⟩) (by show w.heap.size ≤ w.heap.size + 1; omega) _).setCell (p := ⟨w.heap.size, 0, none⟩) (Nat.le_refl _) _).drew
  · obtain ⟨hl1, hl2⟩ := hl.init
    obtain ⟨p1, p2⟩ := hP hl1
    have e3 : m - pre.length = q + 1 := by omega
    have e4 : m - (pre ++ [x]).length = q := by simp; omega
    rw [e4]
    rw [e3] at p1 p2
    refine ⟨?_, fun i hi => ?_⟩
    · rw [p1, ← getD_at hx]
      exact div_step (by omega) (fun d hd => (hD d hd).1)
    · by_cases e : i = q
      · subst e
        rw [List.getElem?_set_self (by omega)]
        have e5 : (idxL D n)[i]? = some (c % d) := by rw [idxL_at D n i (by omega), getD_at hx, ← p1]
        simp [ints, e5]
      · rw [List.getElem?_set_ne (fun e2 => e e2.symm)]
        exact p2 i (by omega)
theorem make_full_in {F : Fence} {k : Nat} {P : Program} (w : World) {ops : Array Oper} {rest : List Oper} {o : Oper} {a : Act} {Q : Exit → Act → World → Prop}
    (hg : o.guard = none) (l c : Operand) (t : TypeId) (hop : o.op = Op.makeSlice t l c)
    (base : Nat) (e : TypeId) (i : TypeInfo) (z : Value) (size : Nat) (h1 : P.underlying t = some (.slice e)) (h2 : P.info? e = some i) (h3 : i.zero = some z) (h4 : i.size = size)
    (kl kc : IntKind) (L C : Int) (n : Nat) (hl : a.eval l = .int kl L) (hc : a.eval c = .int kc C) (hL : L = (n : Int)) (hC : C = (n : Int)) (b2 : i.bytes * n ≤ 281474976710656) (b3 : n ≤ maxLen) (b4 : base ≤ w.heap.size)
    (hK : ∀ w', w'.ownsRow base e size (.slice (some ⟨w.heap.size, 0, none⟩) n n) n (madeCells z.cells (n * size)).toList → w.grownBy w' none → wpListIn F k P ops Q rest (a.put o.dst (.slice (some ⟨w.heap.size, 0, none⟩) n n)) w') :
    wpListIn F k P ops Q (o :: rest) a w := by
  refine wpListIn_plain hg fun K hK' => ?_
  obtain ⟨w', hrun, r1, r2⟩ := run_make_full (P := P) w base t e i z size h1 h2 h3 h4 kl kc n b2 b3 b4
  subst hL
  subst hC
  unfold Oper.wpIn
  refine ⟨?_, ?_⟩
  · simp [Oper.about, hop]
  · rw [Oper.semAt_plain F _ _ (by rw [hop]; intro c hc'; cases hc')]
    simp [execOp, hop, hl, hc, hrun, Result.andThen]
    exact hK' _ _ (hK w' r1 r2)

set_option maxRecDepth 100000 in
set_option maxHeartbeats 4000000 in
theorem index_in_full (F : Fence) (k : Nat) (h3 : F.fn 51) (h5 : F.fn 71) (h7 : F.fn 76) (hro : F.round = none) (hk : 3 ≤ k) (b off cap m : Nat) (a : Option Addr) (D : List Int) (n : Int) (w : World) (h1 : D.length = m) (hm : m ≤ 12) (ha : 0 < m → a = some ⟨b, off, none⟩)
    (hD : ∀ d ∈ D, 1 ≤ d ∧ d ≤ 8) (hn0 : 0 ≤ n) (hn1 : n ≤ 4096) (hb : b < w.heap.size) (hI : ∀ j, j < m → w.cell? ⟨b, off + j, none⟩ = some (.int .i64 (D[j]?.getD 0))) :
    CallsIn F k Try.prog 51 #[.slice a m cap, .int .i64 n] w (NewRow w (idxL D n)) := by
  have hk1 : 1 ≤ k := by omega
  obtain ⟨i0, hi, hz0, hz1, hz2⟩ := info_parts infoInt
  have L1 := Lib.hid h1
  have HD := Lib.hid hD
  have HN0 := Lib.hid hn0
  have HN1 := Lib.hid hn1
  have HA := Lib.hid ha
  have HI := Lib.hid hI
  clear h1 hD hn0 hn1 ha hI
  refine callsIn_of_wp_marks Try.func51 rfl h3 ?_ hro
  simp only [Try.ntmps51, List.size_toArray, List.length_cons, List.length_nil, Nat.reduceAdd, Nat.reduceSub, Array.replicate_succ, Array.replicate_zero, List.push_toArray, List.append_toArray, List.nil_append, List.cons_append]
  gi_wp2_with (first | (gi_at_make; refine make_full_in _ rfl _ _ 22 rfl w.heap.size 3 i0 (.int .i64 0) 1 Try.underlying22 hi hz0 hz1 .i64 .i64 _ _ m rfl rfl rfl rfl (by rw [hz2]; omega) (by unfold maxLen; omega) (by simp) ?_; intro w1 hown hgrow) | (gi_at_call 71; refine (back_in F (k - 1) h5 hro _ _ _ _).mono ?_; rintro e w' ⟨rfl, rfl⟩))
  obtain ⟨V, hV0⟩ : ∃ V, V = w1.heap.size := ⟨_, rfl⟩
  have hlt := hown.lt (w.heap.size + 1) (by simp [Value.ownBlock])
  have hszw : (w.alloc (.cells #[.int .i64 n] 3)).heap.size = w.heap.size + 1 := by simp
  have hsz1 : w.heap.size + 1 ≤ w1.heap.size := by have := hgrow.size; omega
  have hb1 : Below w.heap.size w w1 := ((Below.refl w.heap.size w).alloc (Nat.le_refl _) (.cells #[.int .i64 n] 3)).grown hgrow (by omega) (fun j hj => by cases hj)
  have hblk : w1.heap[w.heap.size]? = (w.alloc (.cells #[.int .i64 n] 3)).heap[w.heap.size]? := hgrow.block _ (by omega) (by intro e; cases e)
  have bN := Boxed.new w 3 (.int .i64 n)
  have hN1 : w1.cell? ⟨w.heap.size, 0, none⟩ = some (.int .i64 n) := (World.cell?_of_block hblk).trans bN.cell
  have hF1 : w1.frozen? ⟨w.heap.size, 0, none⟩ = false := (World.frozen?_of_block hblk).trans bN.frozen
  have hN : ((w1.alloc (.cells #[.slice (some ⟨w.heap.size + 1, 0, none⟩) m m] 22)).alloc (.cells #[.slice a m cap] 22)).cell? ⟨w.heap.size, 0, none⟩ = some (.int .i64 n) := by
    rw [World.cell?_alloc_lt _ _ _ (by simp; omega), World.cell?_alloc_lt _ _ _ (by simp; omega)]
    exact hN1
  have hNF : ((w1.alloc (.cells #[.slice (some ⟨w.heap.size + 1, 0, none⟩) m m] 22)).alloc (.cells #[.slice a m cap] 22)).frozen? ⟨w.heap.size, 0, none⟩ = false := by
    rw [World.frozen?_of_block (w := w1) ((Below.heap_alloc _ _ _ (by simp; omega)).trans (Below.heap_alloc _ _ _ (by simp; omega)))]
    exact hF1
  have bV := (Boxed.new w1 22 (.slice (some ⟨w.heap.size + 1, 0, none⟩) m m)).alloc (.cells #[.slice a m cap] 22)
  have hVc := bV.cell
  have hS := (Boxed.new (w1.alloc (.cells #[.slice (some ⟨w.heap.size + 1, 0, none⟩) m m] 22)) 22 (.slice a m cap)).cell
  have hO := (hown.alloc (.cells #[.slice (some ⟨w.heap.size + 1, 0, none⟩) m m] 22)).alloc (.cells #[.slice a m cap] 22)
  have hB0 : Below w.heap.size w ((w1.alloc (.cells #[.slice (some ⟨w.heap.size + 1, 0, none⟩) m m] 22)).alloc (.cells #[.slice a m cap] 22)) := (hb1.alloc hb1.size _).alloc (by simp; omega) _
  have hsz : ((w1.alloc (.cells #[.slice (some ⟨w.heap.size + 1, 0, none⟩) m m] 22)).alloc (.cells #[.slice a m cap] 22)).heap.size = V + 1 + 1 := by rw [hV0]; simp
  simp only [World.size_alloc] at hS hVc hN hNF hO
  rw [← hV0] at hS hVc hlt hsz1 ⊢
  generalize hW0 : (w1.alloc (.cells #[.slice (some ⟨w.heap.size + 1, 0, none⟩) m m] 22)).alloc (.cells #[.slice a m cap] 22) = W0 at hN hNF hVc hS hO hB0 hsz ⊢
  clear hW0 hb1 hblk bN hN1 hF1 bV hown hgrow hszw hV0
  refine wpIn_rangeFunc_ownG hro hk1 (gf := 76) (lb := #[.pointer (some ⟨V + 1, 0, none⟩)]) rfl h7 (enters_of Try.func76 (by kernel_rfl) rfl)
    (back3_stops F (k - 1) h7 hro (by omega) (V + 1) b off m cap a D L1.out HA.out (by omega) W0 (by omega) (by omega) hS (fun j hj => (hB0.cell (p := ⟨b, off + j, none⟩) hb).trans (HI.out j hj))) (fun h k => h.trans k) (Keeps2.turn (by omega) (by omega)) (Below.refl _ _) (fun _ => rfl)
    (IxInv w V D n m) (fun _ _ _ => False) (IxInv.own w V D n m _ (by omega)) (fun _ _ _ _ _ hs _ _ => hs)
    ⟨n, _, ⟨hN, hNF⟩, hVc, hO, ⟨HN0.out, HN1.out⟩, hB0, fun _ => ⟨by
      show n = n / prodL (D.drop (m - 0))
      rw [List.drop_of_length_le (by rw [L1.out]; omega), prodL_nil, Int.ediv_one], fun i hi => by
      have clen := hO.1
      rw [List.getElem?_eq_none (by simp only [List.length_nil] at hi; omega), List.getElem?_eq_none (by rw [ints_len, idxL_len, L1.out]; simp only [List.length_nil] at hi; omega)]⟩⟩
    (fun x => { tmps := #[.slice a m cap, .int .i64 n, undef, .pointer (some ⟨w.heap.size, 0, none⟩), .slice none 0 0, .pointer (some ⟨V, 0, none⟩), .int .i64 (x.1.1 : Int), .int .i64 x.1.2, .slice a m cap, .int .i64 (m : Int), .slice (some ⟨w.heap.size + 1, 0, none⟩) m m, .slice a m cap, .func (.func 76) #[] #[.pointer (some ⟨V + 1, 0, none⟩)], .int .i64 (x.1.1 : Int), .int .i64 x.1.2, undef, undef, undef, undef, undef, undef, undef, undef, undef, undef], defers := [] }) ?assign ?body ?done ?stop
  case assign =>
    intro l x W K hK
    gi_wp2
    exact hK
  case body =>
    rintro l pre x W ⟨c, cs, ⟨hc, hf⟩, hv, ho, ⟨hc0, hc1⟩, hB, hP⟩ _
    have hx := x.2
    obtain ⟨nxt, hnxt⟩ : ∃ z, z = pre ++ [x] := ⟨_, rfl⟩
    rw [← hnxt]
    generalize hqe : x.1.1 = q at hx ⊢
    generalize hde : x.1.2 = d at hx ⊢
    have HQE := Lib.hid hqe
    have HNX := Lib.hid hnxt
    have hq : q < m := by have := (List.getElem?_eq_some_iff.1 hx).1; have := L1.out; omega
    have hdd := HD.out d (List.mem_of_getElem? hx)
    have hd1 := hdd.1
    have hd2 := hdd.2
    have hmod : c.tmod d = c % d := Int.tmod_eq_emod_of_nonneg hc0
    have hdiv : c.tdiv d = c / d := Int.tdiv_eq_ediv_of_nonneg hc0
    have hm0 := Int.emod_nonneg c (show d ≠ 0 by omega)
    have hm1 := Int.emod_lt_of_pos c (show 0 < d by omega)
    have hq0 := Int.ediv_nonneg hc0 (show 0 ≤ d by omega)
    have hq1 : c / d ≤ c := Int.ediv_le_self d hc0
    have hw1 : IntKind.i64.wrap (c % d) = c % d := IntWalk.i64_in _ (by omega)
    have hw2 : IntKind.i64.wrap (c / d) = c / d := IntWalk.i64_in _ (by omega)
    have hdz : (d == 0) = false := by simp; omega
    have clen : cs.length = m := by have := ho.1; omega
    have c3 : W.cell? ⟨w.heap.size + 1, q, none⟩ = some (cs[q]'(by omega)) := by
      rw [ho.cellAt q (by omega)]; exact List.getElem?_eq_getElem _
    have f3 := ho.frozenAt q
    have HO := Lib.hid ho
    have HP := Lib.hid hP
    have HX := Lib.hid hx
    have HBW := Lib.hid hB
    clear ho hP hx hB hdd hqe hde hnxt
    gi_wp2
    gi_region
    all_goals gi_wp2
    all_goals
      rw [HNX.out]
      exact ⟨(((KeepsOthers.setCell W ⟨w.heap.size + 1, q, none⟩ (.int .i64 (c % d))).trans (KeepsOthers.setCell _ ⟨w.heap.size, 0, none⟩ (.int .i64 (c / d)))).trans (KeepsOthers.drew _)).from _,
        (Keeps2.set (p := ⟨w.heap.size + 1, q, none⟩) (by show w.heap.size + 1 ≠ V + 1; omega) (by show w.heap.size + 1 ≠ b; omega) _).trans (Keeps2.set (p := ⟨w.heap.size, 0, none⟩) (by show w.heap.size ≠ V + 1; omega) (by show w.heap.size ≠ b; omega) _),
        IxInv.step L1.out HD.out (by omega) HX.out HQE.out hc hf hv HO.out hq0 (by omega) HBW.out HP.out⟩
  case done =>
    rintro E ys W hE ⟨hys, hyl⟩ ⟨c, cs, ⟨hc, hf⟩, hv, ho, -, hB, hP⟩ hK
    have e : cs = ints (idxL D n) := by
      apply List.ext_getElem?
      intro i
      exact (hP hys).2 i (by omega)
    subst e
    gi_wp2
    refine ⟨by simp, .inl ⟨_, _, rfl, run_takeDeferred hK, ?_⟩⟩
    have h9 := ho.kept (row := some E) (grownBy_putObj' W E (.deferred none)) (.inr (by simp [Value.ownBlock]; omega))
    refine ⟨_, results_tmp rfl _ _ _, _, rfl, ?_, hB.trans (belowK_b (w := w) (Nat.le_refl _) W E _ _ (by omega) hK rfl rfl)⟩
    exact Own.of (n := m) h9 (by rw [idxL_len, L1.out])
  case stop =>
    rintro E c pre W _ _ h _
    exact h.elim
theorem index_in {B : Nat} {v : Value} {D : List Int} {w : World} (n : Int) (h : Rd B w v (ints D)) (hB : B ≤ w.heap.size) (hw : 0 < w.heap.size) (hm : D.length ≤ 12) (hD : ∀ d ∈ D, 1 ≤ d ∧ d ≤ 8) (hn0 : 0 ≤ n) (hn1 : n ≤ 4096) :
    Calls Try.prog 51 #[v, .int .i64 n] w (NewRow w (idxL D n)) := by
  refine (callsIn_wide (n := 3)).1 ?_
  rcases h.ints_cases with ⟨rfl, a, cap, rfl⟩ | ⟨b, off, cap, rfl, hb, -, hc⟩
  · exact index_in_full _ 3 trivial trivial trivial rfl (Nat.le_refl _) 0 0 cap 0 a [] n w rfl (by omega) (fun h => absurd h (by omega)) hD hn0 hn1 hw (fun j hj => absurd hj (by omega))
  · exact index_in_full _ 3 trivial trivial trivial rfl (Nat.le_refl _) b off cap _ _ D n w rfl hm (fun _ => rfl) hD hn0 hn1 (Nat.lt_of_lt_of_le hb hB) (fun j hj => by rw [hc j hj]; simp [hj])

end Go.Proofs.Ytlmhnlepdfdceaa
