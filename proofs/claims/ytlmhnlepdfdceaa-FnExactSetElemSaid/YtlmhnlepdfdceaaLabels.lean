
/- impl.areLabels: a map of the labels that are still free. -/
import Derived.Test.YtlmhnlepdfdceaaTensorMath
import Derived.Test.YtlmhnlepdfdceaaParseNum
import Derived.Test.YtlmhnlepdfdceaaOffset
import Derived.WalkSpells
import Derived.WalkLawsBesides
import Derived.Maps.OwnSet
import Derived.Lib.Hide
namespace Go.Proofs.Ytlmhnlepdfdceaa
set_option maxRecDepth 20000
set_option maxRecDepth 20000
open Go.RowKit Go.Maps

/-- Are these labels, no two alike. -/
def LabelsV (L : List Int) : Prop := (∀ x ∈ L, 0 ≤ x ∧ x ≤ 99) ∧ L.Nodup
open Classical in
noncomputable def labelsB (L : List Int) : Bool := decide (LabelsV L)
open Classical in
theorem labelsB_true {L : List Int} : labelsB L = true ↔ LabelsV L := decide_eq_true_iff
theorem labelsB_false {L : List Int} (h : ¬ LabelsV L) : labelsB L = false := by
  cases hb : labelsB L with
  | false => rfl
  | true => exact absurd (labelsB_true.1 hb) h

abbrev kI (i : Int) : Lit := .int .i64 i
abbrev dB (b : Bool) : DataW Unit := .lit (.bool b)
theorem kI_ne {i j : Int} (h : i ≠ j) : kI i ≠ kI j := fun e => h (by injection e)
/-- A map that holds true at just the numbers for which f holds. -/
def FreeD (D : DataW Unit) (f : Int → Bool) : Prop := IsMap D ∧ ∀ x, D.atKey (kI x) (dB false) = dB (f x)
theorem FreeD.none : FreeD (.map []) (fun _ => false) := ⟨isMap_empty, fun x => by rfl⟩
theorem FreeD.put {D : DataW Unit} {f : Int → Bool} (h : FreeD D f) (j : Int) : FreeD (D.put (kI j) (dB true)) (fun x => x == j || f x) :=
  ⟨h.1.put _ _, fun x => by
    by_cases e : x = j
    · subst e
      rw [atKey_put_same h.1 (by trivial)]
      simp
    · rw [atKey_put_other (kI_ne e), h.2 x]
      simp [e]⟩
theorem FreeD.del {D : DataW Unit} {f : Int → Bool} (h : FreeD D f) (j : Int) : FreeD (D.del (kI j)) (fun x => x != j && f x) :=
  ⟨h.1.del _, fun x => by
    by_cases e : x = j
    · subst e
      rw [atKey_del_same]
      simp
    · rw [atKey_del_other (kI_ne e), h.2 x]
      simp [e]⟩
theorem FreeD.eq {D : DataW Unit} {f g : Int → Bool} (h : FreeD D f) (e : ∀ x, f x = g x) : FreeD D g := ⟨h.1, fun x => by rw [h.2 x, e x]⟩

/-- A world behind w0 in which block b, new since w0, is such a map. -/
def MapB (w0 w : World) (b n : Nat) (f : Int → Bool) : Prop := Below w0.heap.size w0 w ∧ w0.heap.size ≤ b ∧ ∃ D : DataW Unit, w.ownsMap Try.prog 3 (plainElem Try.prog 4) b n D ∧ FreeD D f
theorem keysInt : Keyed Try.prog 3 := int_keyed Try.underlying3
theorem zeroBool (w : World) : (zeroValue 4).run Try.prog w = .ok (.bool false) w := by kernel_rfl
theorem MapB.made (w : World) : MapB w (w.alloc (.map #[] 0)) w.heap.size 0 (fun _ => false) := ⟨(Below.refl _ _).alloc (Nat.le_refl _) _, Nat.le_refl _, _, World.ownsMap_made w _ _ _, FreeD.none⟩
theorem MapB.eq {w0 w : World} {b n m : Nat} {f g : Int → Bool} (h : MapB w0 w b n f) (hm : n ≤ m) (e : ∀ x, f x = g x) : MapB w0 w b m g :=
  ⟨h.1, h.2.1, h.2.2.imp fun _ hD => ⟨hD.1.mono hm, hD.2.eq e⟩⟩
theorem wf_of {i : Int} (h1 : -9223372036854775808 ≤ i) (h2 : i ≤ 9223372036854775807) : (Lit.int .i64 i).wf = true := WalkArith.wf_i64 ⟨h1, h2⟩
theorem plainElem_bool_inv {P : Program} {e : TypeId} (he : P.underlying e = some .bool) {v : Value} {z : DataW Unit × List MemPlace} (h : plainElem P e v = some z) : ∃ x, v = .bool x ∧ z = (dB x, []) := by
  unfold plainElem at h
  rw [he] at h
  cases v <;> simp at h
  exact ⟨_, rfl, h.symm⟩

/-- 'm[i] = true'. -/
theorem MapB.store {w0 w : World} {ops : Array Oper} {rest : List Oper} {o : Oper} {a : Act} {Q : Exit → Act → World → Prop} {m x : Operand} {i : Int} {b n : Nat} {f : Int → Bool}
    (hg : o.guard = none) (hop : o.op = Op.mapUpdate 72 m x (.const (.bool true))) (hm : a.eval m = .map (some b)) (hx : a.eval x = .int .i64 i) (hown : Hid (MapB w0 w b n f)) (hn : n < 1000) (hi : (Lit.int .i64 i).wf = true)
    (hK : ∀ w', Hid (MapB w0 w' b (n + 1) (fun x => x == i || f x)) → wpList Try.prog ops Q rest (a.put o.dst undef) w') :
    wpList Try.prog ops Q (o :: rest) a w := by
  obtain ⟨hb, hle, D, hD, hF⟩ := hown.out
  refine wpList_mapUpdate_own _ hg _ _ _ 72 hop 3 4 keysInt Try.underlying72 _ b n D hm hD (by unfold maxLen; omega) _ _ (kI i) hx rfl (keyOf_int_mk Try.underlying3 hi) (dB true) [] (plainElem_bool Try.underlying4 true) ?_
  intro w' h1 h2
  exact hK w' ⟨hb.grown h2 hb.size (fun g hg => by cases hg; exact hle), hle, _, h1, hF.put i⟩
/-- 'm[i]'. -/
theorem MapB.look {w0 w : World} {ops : Array Oper} {rest : List Oper} {o : Oper} {a : Act} {Q : Exit → Act → World → Prop} {m x : Operand} {i : Int} {b n : Nat} {f : Int → Bool} (r : Bool)
    (hown : Hid (MapB w0 w b n f)) (hg : o.guard = none) (hop : o.op = Op.lookup 72 m x false) (hm : a.eval m = .map (some b)) (hx : a.eval x = .int .i64 i) (hi : (Lit.int .i64 i).wf = true) (hr : f i = r)
    (hK : wpList Try.prog ops Q rest (a.put o.dst (.bool r)) w) :
    wpList Try.prog ops Q (o :: rest) a w := by
  obtain ⟨-, -, D, hD, hF⟩ := hown.out
  refine wpList_plain hg fun K hKK => ?_
  obtain ⟨v, ps, hrun, hv⟩ := hD.lookup keysInt Try.underlying72 (zeroBool w) (plainElem_bool (H := Unit) Try.underlying4 false) (keyOf_int_mk Try.underlying3 hi)
  obtain ⟨y, rfl, e⟩ := plainElem_bool_inv Try.underlying4 hv
  have e2 : y = r := by
    have e3 := (Prod.mk.inj e).1
    rw [hF.2 i, hr] at e3
    injection e3 with e3
    injection e3 with e3
    exact e3.symm
  subst e2
  unfold Oper.wp
  simp [execOp, hop, hm, hx, hrun, Result.andThen]
  exact hKK _ _ hK
/-- 'delete(m, i)'. -/
theorem MapB.drop {w0 w : World} {ops : Array Oper} {rest : List Oper} {o : Oper} {a : Act} {Q : Exit → Act → World → Prop} {m x : Operand} {i : Int} {b n : Nat} {f : Int → Bool}
    (hg : o.guard = none) (hop : o.op = Op.call { callee := Callee.builtin Builtin.delete, args := #[m, x], argTypes := #[72, 3] }) (hm : a.eval m = .map (some b)) (hx : a.eval x = .int .i64 i) (hown : Hid (MapB w0 w b n f)) (hi : (Lit.int .i64 i).wf = true)
    (hK : ∀ w', Hid (MapB w0 w' b n (fun x => x != i && f x)) → wpList Try.prog ops Q rest (a.put o.dst (.tuple #[])) w') :
    wpList Try.prog ops Q (o :: rest) a w := by
  obtain ⟨hb, hle, D, hD, hF⟩ := hown.out
  refine wpList_delete_own _ hg _ _ 72 3 hop 4 keysInt Try.underlying72 _ b n D hm hD _ (kI i) hx (keyOf_int_mk Try.underlying3 hi) ?_
  intro w' h1 h2
  exact hK w' ⟨hb.grown h2.grown hb.size (fun g hg => by cases hg; exact hle), hle, _, h1, hF.del i⟩

theorem make_hint (n : Int) (w : World) : (Instr.makeMap 72 (some (.int .i64 n))).run Try.prog w = .ok (.map (some w.heap.size)) (w.alloc (.map #[] 0)) := by
  simp [Instr.makeMap, run_underlying Try.underlying72, asInt, asIntOf, Result.andThen]
/-- The labels that are free behind the first j of a list. -/
def freeF (L : List Int) (j : Nat) (x : Int) : Bool := decide (0 ≤ x) && decide (x ≤ 99) && !(L.take j).contains x
theorem freeF_step {L : List Int} {j : Nat} {x : Int} (hx : L[j]? = some x) (y : Int) : (y != x && freeF L j y) = freeF L (j + 1) y := by
  unfold freeF
  rw [List.take_add_one, hx]
  by_cases e : y = x
  · subst e; simp
  · simp [e]
theorem labels_step {L : List Int} {j : Nat} {x : Int} (hx : L[j]? = some x) (h : LabelsV (L.take j)) (hf : freeF L j x = true) : LabelsV (L.take (j + 1)) := by
  unfold freeF at hf
  simp only [Bool.and_eq_true, decide_eq_true_eq, Bool.not_eq_true', List.contains_eq_mem, decide_eq_false_iff_not] at hf
  refine ⟨fun y hy => ?_, ?_⟩
  · rw [List.take_add_one, hx] at hy
    simp only [Option.toList_some, List.mem_append, List.mem_singleton] at hy
    rcases hy with hy | rfl
    · exact h.1 y hy
    · exact ⟨hf.1.1, hf.1.2⟩
  · rw [List.take_add_one, hx]
    simp only [Option.toList_some]
    exact List.nodup_append.2 ⟨h.2, by simp, fun a ha b hb => by simp at hb; subst hb; exact fun e => hf.2 (e ▸ ha)⟩
theorem labels_fail {L : List Int} {j : Nat} {x : Int} (hx : L[j]? = some x) (hf : freeF L j x = false) : labelsB L = false := by
  refine labelsB_false fun h => ?_
  unfold freeF at hf
  have h1 := h.1 x (List.mem_of_getElem? hx)
  have h2 : x ∈ L.take j := by
    simp only [h1.1, h1.2, decide_true, Bool.true_and, Bool.not_eq_false', List.contains_eq_mem, decide_eq_true_eq] at hf
    exact hf
  obtain ⟨hj, e2⟩ := List.getElem?_eq_some_iff.1 hx
  have hn := h.2
  rw [← List.take_append_drop j L, List.nodup_append] at hn
  exact hn.2.2 x h2 x (by rw [List.drop_eq_getElem_cons hj, e2]; exact List.mem_cons_self) rfl

set_option maxHeartbeats 1600000 in
theorem labels_impl_full (a : Option Addr) (cap m B : Nat) (L : List Int) (w : World) (h1 : L.length = m) (hm : m ≤ 281474976710656) (hI : allI L) (hd : Rd B w (.slice a m cap) (ints L)) (hB : B ≤ w.heap.size) :
    Calls Try.prog 40 #[.slice a m cap] w fun e w' => e = .returned (.bool (labelsB L)) ∧ Below w.heap.size w w' := by
  have L1 := Lib.hid h1
  have RD := Lib.hid hd
  have HI := Lib.hid hI
  have HBB := Lib.hid hB
  have hmm := make_hint 100
  have H0 := Lib.hid (MapB.made w)
  clear h1 hd hI hB
  go_enter Try.func40, Try.ntmps40
  go_wp2
  go_loopw [8] (fun i wr => ∃ j : Nat, j ≤ 100 ∧ i = .int .i64 j ∧ Hid (MapB w wr w.heap.size j (fun x => decide (0 ≤ x) && decide (x < j)))) (fun i _ => 100 - (intOf i).toNat)
  case atStart => exact ⟨0, by omega, rfl, H0.out.eq (Nat.le_refl _) (fun x => by by_cases h : 0 ≤ x <;> simp [h])⟩
  case round =>
    obtain ⟨j, hj, rfl, HM⟩ := hrel
    by_cases hlt : j < 100
    · have hwf : (Lit.int .i64 (j : Int)).wf = true := wf_of (by omega) (by omega)
      have hlti : (j : Int) < 100 := by omega
      go_wp2_with (first | (refine MapB.store rfl rfl rfl rfl HM (by omega) hwf ?_; intro w1 H1) | go_in)
      go_roundw
      case rel => exact ⟨j + 1, by omega, by go_num, H1.out.eq (Nat.le_refl _) (fun x => by
        rw [Bool.eq_iff_iff]
        simp only [Bool.or_eq_true, Bool.and_eq_true, beq_iff_eq, decide_eq_true_eq]
        omega)⟩
      case measure => simp [intOf]; omega
    · have hnlt : ¬ (j : Int) < 100 := by omega
      have HM1 : Hid (MapB w wr w.heap.size 100 (freeF L 0)) := HM.out.eq hj (fun x => by
        rw [Bool.eq_iff_iff]
        simp only [freeF, List.take_zero, List.contains_nil, Bool.not_false, Bool.and_true, Bool.and_eq_true, decide_eq_true_eq]
        omega)
      clear HM H0 hlt
      go_wp2
      go_loopw [16] (fun i wr => ∃ j : Nat, j ≤ m ∧ i = .int .i64 j ∧ Hid (MapB w wr w.heap.size 100 (freeF L j)) ∧ Hid (LabelsV (L.take j))) (fun i _ => m - (intOf i).toNat)
      case atStart => exact ⟨0, by omega, rfl, HM1, (by simp : (∀ x ∈ L.take 0, 0 ≤ x ∧ x ≤ 99) ∧ (L.take 0).Nodup)⟩
      case round =>
        obtain ⟨j, hj, rfl, HM, HV⟩ := hrel
        by_cases hlt : j < m
        · obtain ⟨x, X1⟩ : ∃ x, Hid (L[j]? = some x) := ⟨_, List.getElem?_eq_getElem (by rw [L1.out]; exact hlt)⟩
          obtain ⟨b, off, rfl, hbB, e1⟩ := (RD.out.below HM.out.1 HBB.out).cellAt X1.out
          have hxi := HI.out x (List.mem_of_getElem? X1.out)
          have hwf : (Lit.int .i64 x).wf = true := wf_of hxi.1 hxi.2
          clear hxi
          cases hf : freeF L j x with
          | false =>
            have HF := Lib.hid (labels_fail X1.out hf)
            go_wp2_with (first | (refine MapB.look false HM rfl rfl rfl rfl hwf hf ?_) | go_in)
            go_ret
            exact ⟨by rw [HF.out]; rfl, HM.out.1⟩
          | true =>
            have HS := Lib.hid (labels_step X1.out HV.out hf)
            go_wp2_with (first | (refine MapB.look true HM rfl rfl rfl rfl hwf hf ?_) | (refine MapB.drop rfl rfl rfl rfl HM hwf ?_; intro w1 H1) | go_in)
            go_roundw
            case rel => exact ⟨j + 1, by omega, by go_num, H1.out.eq (Nat.le_refl _) (fun y => freeF_step X1.out y), HS⟩
            case measure => simp [intOf]; omega
        · obtain rfl : j = m := by omega
          have HF : Hid (labelsB L = true) := by
            have h := HV.out
            rw [List.take_of_length_le (by rw [L1.out]; omega)] at h
            exact labelsB_true.2 h
          go_wp2
          go_ret
          exact ⟨by rw [HF.out]; rfl, HM.out.1⟩
/-- areLabels. -/
theorem labels_impl {B : Nat} {v : Value} {L : List Int} {w : World} (h : Rd B w v (ints L)) (hB : B ≤ w.heap.size) (hn : L.length ≤ 281474976710656) (hI : allI L) :
    Calls Try.prog 40 #[v] w fun e w' => e = .returned (.bool (labelsB L)) ∧ Below w.heap.size w w' := by
  obtain ⟨a, cap, rfl, -⟩ := ints_form h
  exact labels_impl_full a cap _ B L w rfl hn hI h hB
end Go.Proofs.Ytlmhnlepdfdceaa
