
/- impl.offsetIn, impl.OffsetOf, (Tensor).find. -/
import Derived.Test.YtdheakjjnaifkaaTensorOk
import Derived.Test.YtdheakjjnaifkaaTenOkImpl
import Derived.RangeFuncNested
import Derived.RangeFuncBound
import Derived.RangeFuncBox
import Derived.RangeFuncCalls
import Derived.RangeFuncLeaves
import Derived.Shelf.Abstract
import Derived.Shelf.RegionOpen
import Derived.WalkKit
import Derived.OwnWalkIn
import Derived.TacticsInMore
import Derived.LoopNIn
import Derived.LoopIn
import Derived.Test.YtdheakjjnaifkaaLawKit
import Derived.BigRegionIn
import Derived.Laws.OwnMore
import Derived.StillTailTactics
import Derived.OrdersIn
import Derived.Test.YtdheakjjnaifkaaProg
namespace Go.Proofs.Ytdheakjjnaifkaa
set_option maxRecDepth 20000
open Go.RowKit

open Classical in
/-- How many indices are before a list that may be an index; else -1. -/
noncomputable def offInI (D ix : List Int) : Int := if InIx D ix then offI D ix else -1
open Classical in
theorem offInI_no {D ix : List Int} (h : ¬ InIx D ix) : offInI D ix = -1 := if_neg h
open Classical in
theorem offInI_yes {D ix : List Int} (h : InIx D ix) : offInI D ix = offI D ix := if_pos h
theorem offsetI_in {L D ix : List Int} (h : 0 ≤ sizeI L D) : offsetI L D ix = offInI D ix := by
  by_cases hi : InIx D ix
  · rw [offsetI_yes ⟨h, hi⟩, offInI_yes hi]
  · rw [offsetI_no (fun h => hi h.2), offInI_no hi]
theorem offP_to {D ix : List Int} (hD : ∀ d ∈ D, 1 ≤ d) : ∀ j, j ≤ D.length → InTo D ix j → 0 ≤ offP D ix j ∧ offP D ix j < prodL (D.take j) := by
  intro j
  induction j with
  | zero => intro _ _; simp [offP, prodL]
  | succ j ih =>
    intro hj hi
    obtain ⟨h1, h2⟩ := ih (by omega) (fun i hij => hi i (by omega))
    obtain ⟨h3, h4⟩ := hi j (by omega)
    rw [offP_succ, prodL_take_succ D j (by omega)]
    have hd : 1 ≤ D.getD j 0 := by
      rw [getD_at (List.getElem?_eq_getElem (show j < D.length by omega))]
      exact hD _ (List.getElem_mem _)
    have e1 := Int.mul_nonneg h1 (by omega : 0 ≤ D.getD j 0)
    have e2 : (offP D ix j + 1) * D.getD j 0 ≤ prodL (D.take j) * D.getD j 0 := Int.mul_le_mul_of_nonneg_right (by omega) (by omega)
    rw [Int.add_mul, Int.one_mul] at e2
    omega

theorem sizeI_parts {L D : List Int} (h : 0 ≤ sizeI L D) : AxesV L D ∧ prodL D ≤ 4096 := by
  rcases sizeI_cases L D with ⟨h1, h2⟩ | ⟨h1, h2, h3, h4⟩
  · omega
  · exact ⟨h2, h4⟩

/-- Where the element is, or -1. -/
noncomputable def findT (k p n : Int) (L D X ix : List Int) : Int := if tensorB k p n L D X = true then offInI D ix else -1
end Go.Proofs.Ytdheakjjnaifkaa
namespace Go.Proofs.Ytdheakjjnaifkaa
set_option maxRecDepth 20000
open Go.RowKit Go.Shelf

attribute [local go_sem] Oper.semAt_some

theorem drop_step (zs : List Int) (q : Nat) (h : q < zs.length) : (zs.drop q).reverse = (zs.drop (q + 1)).reverse ++ [zs[q]?.getD 0] := by
  rw [List.drop_eq_getElem_cons h, List.reverse_cons]
  simp [h]
theorem drop_prefix (zs : List Int) (q : Nat) : (zs.drop q).reverse <+: zs.reverse := by
  refine ⟨(zs.take q).reverse, ?_⟩
  rw [← List.reverse_append, List.take_append_drop]

/-- Two blocks' cells are as they were. -/
def Keeps2 (b c : Nat) (W W' : World) : Prop := (∀ o, W'.cell? ⟨b, o, none⟩ = W.cell? ⟨b, o, none⟩) ∧ (∀ o, W'.cell? ⟨c, o, none⟩ = W.cell? ⟨c, o, none⟩)
theorem Keeps2.refl (b c : Nat) (W : World) : Keeps2 b c W W := ⟨fun _ => rfl, fun _ => rfl⟩
theorem Keeps2.trans {b c : Nat} {A B C : World} (h : Keeps2 b c A B) (k : Keeps2 b c B C) : Keeps2 b c A C := ⟨fun o => (k.1 o).trans (h.1 o), fun o => (k.2 o).trans (h.2 o)⟩
theorem Keeps2.turn {b c : Nat} {w : World} (hb : b < w.heap.size) (hc : c < w.heap.size) (W : World) (l : Nat) (o o' : Obj) (hl : w.heap.size ≤ l) (h0 : W.heap[l]? = some o) (_ : o.isCells = false) (_ : o.isWalk = false) : Keeps2 b c W (W.putObj l o') := by
  have h := grownBy_putObj' W l o'
  have h1 := (Array.getElem?_eq_some_iff.1 h0).1
  exact ⟨fun q => World.cell?_of_block (w := W) (h.block b (by omega) (fun e => by cases e; omega)), fun q => World.cell?_of_block (w := W) (h.block c (by omega) (fun e => by cases e; omega))⟩
theorem Keeps2.set {b c : Nat} {W : World} {p : Addr} (hb : p.block ≠ b) (hc : p.block ≠ c) (u : Value) : Keeps2 b c W (W.setCell p u) :=
  ⟨fun _ => World.cell?_of_block (w := W) (Below.heap_setCell W p u b (fun e => hb e.symm)), fun _ => World.cell?_of_block (w := W) (Below.heap_setCell W p u c (fun e => hc e.symm))⟩

/-- One step of Horner's way, as the program reckons. -/
def hornStep (a p v x : Int) : Int := (wrap64 (wrap64 (v * a) + x)).tmod p
theorem wrap64_in {x : Int} (h1 : 0 ≤ x) (h2 : x ≤ 9223372036854775807) : wrap64 x = x := by unfold wrap64; omega
def hornL (a p : Int) (xs : List Int) : Int := xs.foldl (hornStep a p) 0
theorem hornL_snoc (a p : Int) (xs : List Int) (x : Int) : hornL a p (xs ++ [x]) = hornStep a p (hornL a p xs) x := by simp [hornL]
/-- impl.valueAt on integers in their range: Horner's way modulo p. -/
def hornV (a p : Int) (xs : List Int) : Int := xs.foldl (fun v x => (v * a + x) % p) 0
theorem horn_eq {a p : Int} (ha : 0 ≤ a) (hap : a < p) (hp : p ≤ 1000003) (xs : List Int) (hx : ∀ x ∈ xs, 0 ≤ x ∧ x ≤ 1000003) : hornL a p xs = hornV a p xs := by
  have key : ∀ (xs : List Int) (v : Int), (∀ x ∈ xs, 0 ≤ x ∧ x ≤ 1000003) → 0 ≤ v → v ≤ 1000003 → xs.foldl (hornStep a p) v = xs.foldl (fun v x => (v * a + x) % p) v := by
    intro xs
    induction xs with
    | nil => intro v _ _ _; rfl
    | cons x xs ih =>
      intro v hx h0 h1
      have h2 := hx x (by simp)
      have h3 : 0 ≤ v * a ∧ v * a ≤ 1000003 * 1000003 := ⟨Int.mul_nonneg h0 ha, Int.mul_le_mul h1 (by omega) ha (by omega)⟩
      have h4 : hornStep a p v x = (v * a + x) % p := by
        unfold hornStep
        rw [wrap64_in h3.1 (by omega), wrap64_in (by omega) (by omega), Int.tmod_eq_emod_of_nonneg (by omega)]
      have h5 := Int.emod_nonneg (v * a + x) (show p ≠ 0 by omega)
      have h6 := Int.emod_lt_of_pos (v * a + x) (show 0 < p by omega)
      rw [List.foldl_cons, List.foldl_cons, h4]
      exact ih _ (fun y hy => hx y (List.mem_cons_of_mem _ hy)) h5 (by omega)
  exact key xs 0 hx (by omega) (by omega)
end Go.Proofs.Ytdheakjjnaifkaa
namespace Go.Proofs.Ytdheakjjnaifkaa
set_option maxRecDepth 20000
open Go.RowKit Go.Shelf

attribute [local go_sem] Oper.semAt_some

/-- An axis with its dimension. -/
abbrev AxisOf (D : List Int) := { x : Nat × Int // D[x.1]? = some x.2 }
/-- These are the last axes, the last one first. -/
def LastOnes {D : List Int} (m : Nat) (pre : List (AxisOf D)) : Prop := ∀ (i : Nat) (x : AxisOf D), pre[i]? = some x → x.1.1 + i + 1 = m
theorem LastOnes.nil {D : List Int} (m : Nat) : LastOnes (D := D) m [] := fun i x h => by simp at h
theorem LastOnes.snoc {D : List Int} {m : Nat} {pre : List (AxisOf D)} {x : AxisOf D} (h : LastOnes m pre) (hx : x.1.1 + pre.length + 1 = m) : LastOnes m (pre ++ [x]) := fun i y hy => by
  by_cases hi : i < pre.length
  · rw [List.getElem?_append_left hi] at hy
    exact h i y hy
  · by_cases e : i = pre.length
    · subst e
      simp at hy
      subst hy
      exact hx
    · rw [List.getElem?_eq_none (by simp; omega)] at hy
      cases hy
theorem LastOnes.init {D : List Int} {m : Nat} {pre : List (AxisOf D)} {x : AxisOf D} (h : LastOnes m (pre ++ [x])) : LastOnes m pre ∧ x.1.1 + pre.length + 1 = m :=
  ⟨fun i y hy => h i y (by rw [List.getElem?_append_left (List.getElem?_eq_some_iff.1 hy).1]; exact hy), h pre.length x (by simp)⟩

/-- What holds behind some rounds: n is divided by the last dimensions; the last places of the row are filled. -/
def IxInv (w : World) (V : Nat) (D : List Int) (n : Int) (m : Nat) (pre : List (AxisOf D)) (W : World) : Prop :=
  ∃ (c : Int) (cs : List Value), (W.cell? ⟨w.heap.size, 0, none⟩ = some (.int .i64 c) ∧ W.frozen? ⟨w.heap.size, 0, none⟩ = false) ∧ W.cell? ⟨V, 0, none⟩ = some (.slice (some ⟨w.heap.size + 1, 0, none⟩) m m) ∧
    W.ownsRow w.heap.size 3 1 (.slice (some ⟨w.heap.size + 1, 0, none⟩) m m) m cs ∧ (0 ≤ c ∧ c ≤ 4096) ∧ Below w.heap.size w W ∧
    (LastOnes m pre → c = n / prodL (D.drop (m - pre.length)) ∧ ∀ i, m - pre.length ≤ i → cs[i]? = (ints (idxL D n))[i]?)
theorem ownsRow_not_cells {W W' : World} {base n : Nat} {E : TypeId} {v : Value} {cs : List Value} {row : Option Nat} (h : W.ownsRow base E 1 v n cs) (hg : W.grownBy W' row) (hr : ∀ r, row = some r → ∃ o : Obj, W.heap[r]? = some o ∧ o.isCells = false) : W'.ownsRow base E 1 v n cs := by
  refine h.kept hg ?_
  rcases h.2 with ⟨rfl, -⟩ | ⟨g, cap, cur, rfl, -, hgg, -⟩
  · exact .inl rfl
  · refine .inr fun e => ?_
    obtain ⟨o, ho, hc⟩ := hr g e.symm
    rw [hgg] at ho
    cases ho
    simp [Obj.isCells] at hc
theorem IxInv.own (w : World) (V : Nat) (D : List Int) (n : Int) (m B : Nat) (hB : w.heap.size ≤ B) : OwnFrom B (IxInv w V D n m) := fun pre A A' row hs hg hr => by
  obtain ⟨c, cs, ⟨h1, h2⟩, h3, h4, h5, h6, h7⟩ := hs
  have hr' := fun r e => (hr r e).2
  exact ⟨c, cs, ⟨cell_kept h1 hg hr', (frozen_kept h1 hg hr').trans h2⟩, cell_kept h3 hg hr', ownsRow_not_cells h4 hg hr', h5, h6.grown hg h6.size (fun k e => Nat.le_trans hB (hr k e).1), h7⟩

theorem IxInv.step {w W : World} {V : Nat} {D : List Int} {n c d : Int} {m q : Nat} {pre : List (AxisOf D)} {x : AxisOf D} {cs : List Value} (hDl : D.length = m) (hD : ∀ d ∈ D, 1 ≤ d ∧ d ≤ 8) (hV : w.heap.size + 1 < V) (hx : D[q]? = some d) (hq : x.1.1 = q)
    (hc : W.cell? ⟨w.heap.size, 0, none⟩ = some (.int .i64 c)) (hf : W.frozen? ⟨w.heap.size, 0, none⟩ = false) (hv : W.cell? ⟨V, 0, none⟩ = some (.slice (some ⟨w.heap.size + 1, 0, none⟩) m m)) (ho : W.ownsRow w.heap.size 3 1 (.slice (some ⟨w.heap.size + 1, 0, none⟩) m m) m cs)
    (h0 : 0 ≤ c / d) (h1 : c / d ≤ 4096) (hB : Below w.heap.size w W) (hP : LastOnes m pre → c = n / prodL (D.drop (m - pre.length)) ∧ ∀ i, m - pre.length ≤ i → cs[i]? = (ints (idxL D n))[i]?) :
    IxInv w V D n m (pre ++ [x]) ((W.setCell ⟨w.heap.size + 1, q, none⟩ (.int .i64 (c % d))).setCell ⟨w.heap.size, 0, none⟩ (.int .i64 (c / d))).drew := by
  have hql : q < m := by have := (List.getElem?_eq_some_iff.1 hx).1; omega
  have clen : cs.length = m := by have := ho.1; omega
  have st := ho.stored q (.int .i64 (c % d))
  have e1 : (W.setCell ⟨w.heap.size + 1, q, none⟩ (.int .i64 (c % d))).cell? ⟨w.heap.size, 0, none⟩ = some (.int .i64 c) :=
    (World.cell?_of_block (w := W) (Below.heap_setCell W ⟨w.heap.size + 1, q, none⟩ _ w.heap.size (by show w.heap.size ≠ w.heap.size + 1; omega))).trans hc
  have e2 : (W.setCell ⟨w.heap.size + 1, q, none⟩ (.int .i64 (c % d))).frozen? ⟨w.heap.size, 0, none⟩ = false := by rw [World.frozen?_setCell]; exact hf
  refine ⟨c / d, cs.set q (.int .i64 (c % d)), ⟨World.cell?_setCell_same' _ _ _ (by rw [e1]; rfl), ?_⟩, ?_, ?_, ⟨h0, h1⟩, ?_, fun hl => ?_⟩
  · show World.frozen? ((W.setCell ⟨w.heap.size + 1, q, none⟩ (.int .i64 (c % d))).setCell ⟨w.heap.size, 0, none⟩ (.int .i64 (c / d))) _ = false
    rw [World.frozen?_setCell]; exact e2
  · show World.cell? ((W.setCell ⟨w.heap.size + 1, q, none⟩ (.int .i64 (c % d))).setCell ⟨w.heap.size, 0, none⟩ (.int .i64 (c / d))) _ = _
    rw [World.cell?_of_block (w := W) ((Below.heap_setCell _ ⟨w.heap.size, 0, none⟩ _ V (by show V ≠ w.heap.size; omega)).trans (Below.heap_setCell W ⟨w.heap.size + 1, q, none⟩ _ V (by show V ≠ w.heap.size + 1; omega)))]
    exact hv
  · have h9 := st.1.kept (row := some w.heap.size) (grownBy_setCell' (W.setCell ⟨w.heap.size + 1, q, none⟩ (.int .i64 (c % d))) w.heap.size (.int .i64 (c / d))) (.inr (by simp [Value.ownBlock]))
    exact h9
  · exact ((hB.setCell (p := ⟨w.heap.size + 1, q, none⟩) (by show w.heap.size ≤ w.heap.size + 1; omega) _).setCell (p := ⟨w.heap.size, 0, none⟩) (Nat.le_refl _) _).drew
  · obtain ⟨hl1, hl2⟩ := hl.init
    obtain ⟨p1, p2⟩ := hP hl1
    have e3 : m - pre.length = q + 1 := by omega
    have e4 : m - (pre ++ [x]).length = q := by simp; omega
    rw [e4]
    rw [e3] at p1 p2
    refine ⟨?_, fun i hi => ?_⟩
    · rw [p1, ← getD_at hx]
      exact div_step (by omega) (fun d hd => (hD d hd).1)
    · by_cases e : i = q
      · subst e
        rw [List.getElem?_set_self (by omega)]
        have e5 : (idxL D n)[i]? = some (c % d) := by rw [idxL_at D n i (by omega), getD_at hx, ← p1]
        simp [ints, e5]
      · rw [List.getElem?_set_ne (fun e2 => e e2.symm)]
        exact p2 i (by omega)
theorem make_full_in {F : Fence} {k : Nat} {P : Program} (w : World) {ops : Array Oper} {rest : List Oper} {o : Oper} {a : Act} {Q : Exit → Act → World → Prop}
    (hg : o.guard = none) (l c : Operand) (t : TypeId) (hop : o.op = Op.makeSlice t l c)
    (base : Nat) (e : TypeId) (i : TypeInfo) (z : Value) (size : Nat) (h1 : P.underlying t = some (.slice e)) (h2 : P.info? e = some i) (h3 : i.zero = some z) (h4 : i.size = size)
    (kl kc : IntKind) (L C : Int) (n : Nat) (hl : a.eval l = .int kl L) (hc : a.eval c = .int kc C) (hL : L = (n : Int)) (hC : C = (n : Int)) (b2 : i.bytes * n ≤ 281474976710656) (b3 : n ≤ maxLen) (b4 : base ≤ w.heap.size)
    (hK : ∀ w', w'.ownsRow base e size (.slice (some ⟨w.heap.size, 0, none⟩) n n) n (madeCells z.cells (n * size)).toList → w.grownBy w' none → wpListIn F k P ops Q rest (a.put o.dst (.slice (some ⟨w.heap.size, 0, none⟩) n n)) w') :
    wpListIn F k P ops Q (o :: rest) a w := by
  refine wpListIn_plain hg fun K hK' => ?_
  obtain ⟨w', hrun, r1, r2⟩ := run_make_full (P := P) w base t e i z size h1 h2 h3 h4 kl kc n b2 b3 b4
  subst hL
  subst hC
  unfold Oper.wpIn
  refine ⟨?_, ?_⟩
  · simp [Oper.about, hop]
  · rw [Oper.semAt_plain F _ _ (by rw [hop]; intro c hc'; cases hc')]
    simp [execOp, hop, hl, hc, hrun, Result.andThen]
    exact hK' _ _ (hK w' r1 r2)

end Go.Proofs.Ytdheakjjnaifkaa
namespace Go.Proofs.Ytdheakjjnaifkaa
set_option maxRecDepth 20000
open Go.RowKit

/-- Operations that call nothing. -/
def plainB : Op → Bool
  | .move _ | .assign _ | .load _ _ | .store _ _ _ | .fieldAddr _ _ _ | .indexAddr _ _ _ | .build _ _ | .binOp _ _ _ _ _ => true
  | _ => false
/-- What such an operation does: it yields, or it halts. -/
def Tame : Result Next → Prop
  | .ok (.value _) _ => True
  | .ok .skip _ => True
  | .halt _ _ => True
  | _ => False
theorem tame_value (r : Result Value) : Tame (r.andThen fun v w' => .ok (.value v) w') := by
  cases r <;> simp [Result.andThen, Tame]
theorem tame_skip (r : Result Unit) : Tame (r.andThen fun _ w' => .ok .skip w') := by
  cases r <;> simp [Result.andThen, Tame]
theorem exec_tame {P : Program} {w : World} (ρ : Operand → Value) (o : Oper) (h : plainB o.op = true) : Tame ((execOp ρ o).run P w) := by
  unfold execOp
  cases hop : o.op <;> rw [hop] at h <;> simp only [plainB, Bool.false_eq_true] at h
  all_goals simp only [Sem.run_bind, Sem.run_pure]
  all_goals first
    | exact tame_value _
    | exact tame_skip _
    | trivial
theorem wpOpIn_plain {F : Fence} {n i : Nat} {P : Program} {ops : Array Oper} {Q Q' : Exit → Act → World → Prop} {K K' : Act → World → Prop} {a : Act} {w : World} (hp : ∀ o, ops[i]? = some o → plainB o.op = true) (hL : ¬ LetsOut Q)
    (hQ : ∀ e a w, Q e a w → Q' e a w) (hK : ∀ a w, K a w → K' a w) (h : wpOp P ops Q i K a w) : wpOpIn F n P ops Q' i K' a w := by
  unfold wpOp at h
  unfold wpOpIn
  cases ho : ops[i]? with
  | none => rw [ho] at h; exact hK _ _ h
  | some o =>
    rw [ho] at h
    have hpo := hp o ho
    have hab : o.about P w a.eval = none := by
      unfold Oper.about
      cases hop : o.op <;> first | rfl | (rw [hop] at hpo; simp [plainB] at hpo)
    dsimp only at h ⊢
    split
    · rename_i hw
      rw [if_pos hw] at h
      rcases h with h | ⟨-, h⟩
      · refine ⟨fun f hf => (by rw [hab] at hf; cases hf), ?_⟩
        rw [Oper.semAt_plain F _ _ (by intro c hc; rw [hc] at hpo; simp [plainB] at hpo)]
        have ht := exec_tame (P := P) (w := w) a.eval o hpo
        unfold Oper.wp at h
        generalize (execOp a.eval o).run P w = r at h ht
        cases r with
        | ok x w' =>
          cases x <;> first | exact hK _ _ h | exact ht.elim
        | halt x w' =>
          cases x <;> first | exact hQ _ _ _ h | exact h.elim
      · exact (hL h).elim
    · rename_i hw
      rw [if_neg hw] at h
      exact ⟨fun f hf => (by rw [hab] at hf; cases hf), hK _ _ h⟩
theorem wpAnyIn_plain {F : Fence} {n : Nat} {P : Program} {md : Region.Mode} {ops : Array Oper} {Q Q' : Exit → Act → World → Prop} (hp : ∀ (i : Nat) o, ops[i]? = some o → plainB o.op = true) (hL : ¬ LetsOut Q)
    (hQ : ∀ e a w, Q e a w → Q' e a w) : ∀ (fuel : Nat) (listed : Array Bool) (a : Act) (w : World), wpAny P md ops Q fuel listed a w → wpAnyIn F n P md ops Q' fuel listed a w := by
  intro fuel
  induction fuel with
  | zero => intro listed a w h; exact ⟨h.1, hQ _ _ _ h.2⟩
  | succ fuel ih =>
    intro listed a w h
    exact ⟨fun hr => hQ _ _ _ (h.1 hr), fun i hi => wpOpIn_plain (hp i) hL hQ (fun a w h => ih _ a w h) (h.2 i hi)⟩
/-- The reads in any order, then the stores as they are written. -/
theorem wpIn_region_reads {F : Fence} {k id : Nat} {P : Program} {Q : Exit → Act → World → Prop} {a : Act} {w : World} {l : List Oper} (n : Nat) (hm : P.follows .mixedOrders = true) (hB : Region.lexTailB .any l.toArray n = true) (hp : l.all (fun o => plainB o.op) = true)
    (h : wpStill P l.toArray w.drew (fun a' => wpList P l.toArray (fun e a w => e = .normal ∧ Q .normal a w) (l.drop n) a' w.drew) (l.take n) a) : (Code.region id l.toArray true).wpIn F k P Q a w := by
  simp only [Region.lexTailB, Bool.and_eq_true, decide_eq_true_eq] at hB
  obtain ⟨⟨⟨⟨b1, b2⟩, b3⟩, b4⟩, b5⟩ := hB
  have hlen : (l.take n).length = n := by simp at b2 ⊢; omega
  have hrest : (l.drop n).length = l.toArray.size - n := by simp
  have hinv : HeadInv .any l.toArray n (Array.replicate l.toArray.size false) :=
    { size := by simp
      closed := fun j oj _ hj => by rw [getD_replicate_false] at hj; cases hj
      tail := fun t _ ht => getD_in (by simpa using ht) (getD_replicate_false _ _) }
  have h1 := wpAnyL_lex (md := .any) (g := l.toArray.size - n) b1 b3 b4 b2 (l.take n) 0 _ a (fun j hj => by
    rw [hlen] at hj; simp [hj]) (by simpa using hlen) hinv (by rw [hlen]; exact b5) h
  have h2 := wpAny_of_head (Q' := fun e a w => e = .normal ∧ Q .normal a w) (g := l.toArray.size - n) (fun listed a' hx => by
    have h3 := wpAny_of_seq (md := .any) (Q' := fun e a w => e = .normal ∧ Q .normal a w) (l.drop n) n listed a' w.drew (fun j => by simp [List.getElem?_drop]) (by rw [hrest]; exact hx.1) hx.2
    rwa [hrest] at h3) _ _ _ h1
  have e : (l.take n).length + (l.toArray.size - n) = l.toArray.size := by rw [hlen]; simp at b2 ⊢; omega
  rw [e] at h2
  refine wpIn_region_any hm (wpAnyIn_plain (Q := fun e a w => e = .normal ∧ Q .normal a w) (fun i o ho => ?_) ?_ ?_ _ _ _ _ h2)
  · exact List.all_eq_true.1 hp o (by simpa using Array.mem_of_getElem? ho)
  · rintro ⟨a, w, h, -⟩; cases h
  · rintro e a w ⟨rfl, h⟩; exact h
end Go.Proofs.Ytdheakjjnaifkaa
