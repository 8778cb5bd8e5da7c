
/- impl.areLabels: a map of the labels that are still free. -/
import Derived.Test.YtceidekfcnmeaaaGreatTensorOk
import Derived.Test.YtceidekfcnmeaaaGreatOpen
import Derived.WalkSpells
import Derived.WalkLawsBesides
import Derived.Maps.OwnSet
import Derived.Lib.Hide
namespace Go.Proofs.YtceidekfcnmeaaaGreat
set_option maxRecDepth 20000
open Go.RowKit Go.Maps

/-- Are these labels, no two alike. -/
def LabelsV (L : List Int) : Prop := (∀ x ∈ L, 0 ≤ x ∧ x ≤ 99) ∧ L.Nodup
open Classical in
noncomputable def labelsB (L : List Int) : Bool := decide (LabelsV L)
open Classical in
theorem labelsB_true {L : List Int} : labelsB L = true ↔ LabelsV L := decide_eq_true_iff
theorem labelsB_false {L : List Int} (h : ¬ LabelsV L) : labelsB L = false := by
  cases hb : labelsB L with
  | false => rfl
  | true => exact absurd (labelsB_true.1 hb) h

abbrev kI (i : Int) : Lit := .int .i64 i
abbrev dB (b : Bool) : DataW Unit := .lit (.bool b)
theorem kI_ne {i j : Int} (h : i ≠ j) : kI i ≠ kI j := fun e => h (by injection e)
/-- A map that holds true at just the numbers for which f holds. -/
def FreeD (D : DataW Unit) (f : Int → Bool) : Prop := IsMap D ∧ ∀ x, D.atKey (kI x) (dB false) = dB (f x)
theorem FreeD.none : FreeD (.map []) (fun _ => false) := ⟨isMap_empty, fun x => by rfl⟩
theorem FreeD.put {D : DataW Unit} {f : Int → Bool} (h : FreeD D f) (j : Int) : FreeD (D.put (kI j) (dB true)) (fun x => x == j || f x) :=
  ⟨h.1.put _ _, fun x => by
    by_cases e : x = j
    · subst e
      rw [atKey_put_same h.1 (by trivial)]
      simp
    · rw [atKey_put_other (kI_ne e), h.2 x]
      simp [e]⟩
theorem FreeD.del {D : DataW Unit} {f : Int → Bool} (h : FreeD D f) (j : Int) : FreeD (D.del (kI j)) (fun x => x != j && f x) :=
  ⟨h.1.del _, fun x => by
    by_cases e : x = j
    · subst e
      rw [atKey_del_same]
      simp
    · rw [atKey_del_other (kI_ne e), h.2 x]
      simp [e]⟩
theorem FreeD.eq {D : DataW Unit} {f g : Int → Bool} (h : FreeD D f) (e : ∀ x, f x = g x) : FreeD D g := ⟨h.1, fun x => by rw [h.2 x, e x]⟩

/-- A world behind w0 in which block b, new since w0, is such a map. -/
def MapB (w0 w : World) (b n : Nat) (f : Int → Bool) : Prop := Below w0.heap.size w0 w ∧ w0.heap.size ≤ b ∧ ∃ D : DataW Unit, w.ownsMap Tryz.prog 3 (plainElem Tryz.prog 4) b n D ∧ FreeD D f
theorem keysInt : Keyed Tryz.prog 3 := int_keyed Tryz.underlying3
theorem zeroBool (w : World) : (zeroValue 4).run Tryz.prog w = .ok (.bool false) w := by kernel_rfl
theorem MapB.made (w : World) : MapB w (w.alloc (.map #[] 0)) w.heap.size 0 (fun _ => false) := ⟨(Below.refl _ _).alloc (Nat.le_refl _) _, Nat.le_refl _, _, World.ownsMap_made w _ _ _, FreeD.none⟩
theorem MapB.eq {w0 w : World} {b n m : Nat} {f g : Int → Bool} (h : MapB w0 w b n f) (hm : n ≤ m) (e : ∀ x, f x = g x) : MapB w0 w b m g :=
  ⟨h.1, h.2.1, h.2.2.imp fun _ hD => ⟨hD.1.mono hm, hD.2.eq e⟩⟩
theorem wf_of {i : Int} (h1 : -9223372036854775808 ≤ i) (h2 : i ≤ 9223372036854775807) : (Lit.int .i64 i).wf = true := WalkArith.wf_i64 ⟨h1, h2⟩
theorem plainElem_bool_inv {P : Program} {e : TypeId} (he : P.underlying e = some .bool) {v : Value} {z : DataW Unit × List MemPlace} (h : plainElem P e v = some z) : ∃ x, v = .bool x ∧ z = (dB x, []) := by
  unfold plainElem at h
  rw [he] at h
  cases v <;> simp at h
  exact ⟨_, rfl, h.symm⟩

/-- 'm[i] = true'. -/
theorem MapB.store {w0 w : World} {ops : Array Oper} {rest : List Oper} {o : Oper} {a : Act} {Q : Exit → Act → World → Prop} {m x : Operand} {i : Int} {b n : Nat} {f : Int → Bool}
    (hg : o.guard = none) (hop : o.op = Op.mapUpdate 121 m x (.const (.bool true))) (hm : a.eval m = .map (some b)) (hx : a.eval x = .int .i64 i) (hown : Hid (MapB w0 w b n f)) (hn : n < 1000) (hi : (Lit.int .i64 i).wf = true)
    (hK : ∀ w', Hid (MapB w0 w' b (n + 1) (fun x => x == i || f x)) → wpList Tryz.prog ops Q rest (a.put o.dst undef) w') :
    wpList Tryz.prog ops Q (o :: rest) a w := by
  obtain ⟨hb, hle, D, hD, hF⟩ := hown.out
  refine wpList_mapUpdate_own _ hg _ _ _ 121 hop 3 4 keysInt Tryz.underlying121 _ b n D hm hD (by unfold maxLen; omega) _ _ (kI i) hx rfl (keyOf_int_mk Tryz.underlying3 hi) (dB true) [] (plainElem_bool Tryz.underlying4 true) ?_
  intro w' h1 h2
  exact hK w' ⟨hb.grown h2 hb.size (fun g hg => by cases hg; exact hle), hle, _, h1, hF.put i⟩
/-- 'm[i]'. -/
theorem MapB.look {w0 w : World} {ops : Array Oper} {rest : List Oper} {o : Oper} {a : Act} {Q : Exit → Act → World → Prop} {m x : Operand} {i : Int} {b n : Nat} {f : Int → Bool} (r : Bool)
    (hown : Hid (MapB w0 w b n f)) (hg : o.guard = none) (hop : o.op = Op.lookup 121 m x false) (hm : a.eval m = .map (some b)) (hx : a.eval x = .int .i64 i) (hi : (Lit.int .i64 i).wf = true) (hr : f i = r)
    (hK : wpList Tryz.prog ops Q rest (a.put o.dst (.bool r)) w) :
    wpList Tryz.prog ops Q (o :: rest) a w := by
  obtain ⟨-, -, D, hD, hF⟩ := hown.out
  refine wpList_plain hg fun K hKK => ?_
  obtain ⟨v, ps, hrun, hv⟩ := hD.lookup keysInt Tryz.underlying121 (zeroBool w) (plainElem_bool (H := Unit) Tryz.underlying4 false) (keyOf_int_mk Tryz.underlying3 hi)
  obtain ⟨y, rfl, e⟩ := plainElem_bool_inv Tryz.underlying4 hv
  have e2 : y = r := by
    have e3 := (Prod.mk.inj e).1
    rw [hF.2 i, hr] at e3
    injection e3 with e3
    injection e3 with e3
    exact e3.symm
  subst e2
  unfold Oper.wp
  simp [execOp, hop, hm, hx, hrun, Result.andThen]
  exact hKK _ _ hK
/-- 'delete(m, i)'. -/
theorem MapB.drop {w0 w : World} {ops : Array Oper} {rest : List Oper} {o : Oper} {a : Act} {Q : Exit → Act → World → Prop} {m x : Operand} {i : Int} {b n : Nat} {f : Int → Bool}
    (hg : o.guard = none) (hop : o.op = Op.call { callee := Callee.builtin Builtin.delete, args := #[m, x], argTypes := #[121, 3] }) (hm : a.eval m = .map (some b)) (hx : a.eval x = .int .i64 i) (hown : Hid (MapB w0 w b n f)) (hi : (Lit.int .i64 i).wf = true)
    (hK : ∀ w', Hid (MapB w0 w' b n (fun x => x != i && f x)) → wpList Tryz.prog ops Q rest (a.put o.dst (.tuple #[])) w') :
    wpList Tryz.prog ops Q (o :: rest) a w := by
  obtain ⟨hb, hle, D, hD, hF⟩ := hown.out
  refine wpList_delete_own _ hg _ _ 121 3 hop 4 keysInt Tryz.underlying121 _ b n D hm hD _ (kI i) hx (keyOf_int_mk Tryz.underlying3 hi) ?_
  intro w' h1 h2
  exact hK w' ⟨hb.grown h2.grown hb.size (fun g hg => by cases hg; exact hle), hle, _, h1, hF.del i⟩

theorem make_hint (n : Int) (w : World) : (Instr.makeMap 121 (some (.int .i64 n))).run Tryz.prog w = .ok (.map (some w.heap.size)) (w.alloc (.map #[] 0)) := by
  simp [Instr.makeMap, run_underlying Tryz.underlying121, asInt, asIntOf, Result.andThen]
/-- The labels that are free behind the first j of a list. -/
def freeF (L : List Int) (j : Nat) (x : Int) : Bool := decide (0 ≤ x) && decide (x ≤ 99) && !(L.take j).contains x
theorem freeF_step {L : List Int} {j : Nat} {x : Int} (hx : L[j]? = some x) (y : Int) : (y != x && freeF L j y) = freeF L (j + 1) y := by
  unfold freeF
  rw [List.take_add_one, hx]
  by_cases e : y = x
  · subst e; simp
  · simp [e]
theorem labels_step {L : List Int} {j : Nat} {x : Int} (hx : L[j]? = some x) (h : LabelsV (L.take j)) (hf : freeF L j x = true) : LabelsV (L.take (j + 1)) := by
  unfold freeF at hf
  simp only [Bool.and_eq_true, decide_eq_true_eq, Bool.not_eq_true', List.contains_eq_mem, decide_eq_false_iff_not] at hf
  refine ⟨fun y hy => ?_, ?_⟩
  · rw [List.take_add_one, hx] at hy
    simp only [Option.toList_some, List.mem_append, List.mem_singleton] at hy
    rcases hy with hy | rfl
    · exact h.1 y hy
    · exact ⟨hf.1.1, hf.1.2⟩
  · rw [List.take_add_one, hx]
    simp only [Option.toList_some]
    exact List.nodup_append.2 ⟨h.2, by simp, fun a ha b hb => by simp at hb; subst hb; exact fun e => hf.2 (e ▸ ha)⟩
theorem labels_fail {L : List Int} {j : Nat} {x : Int} (hx : L[j]? = some x) (hf : freeF L j x = false) : labelsB L = false := by
  refine labelsB_false fun h => ?_
  unfold freeF at hf
  have h1 := h.1 x (List.mem_of_getElem? hx)
  have h2 : x ∈ L.take j := by
    simp only [h1.1, h1.2, decide_true, Bool.true_and, Bool.not_eq_false', List.contains_eq_mem, decide_eq_true_eq] at hf
    exact hf
  obtain ⟨hj, e2⟩ := List.getElem?_eq_some_iff.1 hx
  have hn := h.2
  rw [← List.take_append_drop j L, List.nodup_append] at hn
  exact hn.2.2 x h2 x (by rw [List.drop_eq_getElem_cons hj, e2]; exact List.mem_cons_self) rfl

set_option maxHeartbeats 1600000 in
theorem labels_impl_full (a : Option Addr) (cap m B : Nat) (L : List Int) (w : World) (h1 : L.length = m) (hm : m ≤ 281474976710656) (hI : allI L) (hd : Rd B w (.slice a m cap) (ints L)) (hB : B ≤ w.heap.size) :
    Calls Tryz.prog 61 #[.slice a m cap] w fun e w' => e = .returned (.bool (labelsB L)) ∧ Below w.heap.size w w' := by
  have L1 := Lib.hid h1
  have RD := Lib.hid hd
  have HI := Lib.hid hI
  have HBB := Lib.hid hB
  have hmm := make_hint 100
  have H0 := Lib.hid (MapB.made w)
  clear h1 hd hI hB
  go_enter Tryz.func61, Tryz.ntmps61
  go_wp2
  go_loopw [8] (fun i wr => ∃ j : Nat, j ≤ 100 ∧ i = .int .i64 j ∧ Hid (MapB w wr w.heap.size j (fun x => decide (0 ≤ x) && decide (x < j)))) (fun i _ => 100 - (intOf i).toNat)
  case atStart => exact ⟨0, by omega, rfl, H0.out.eq (Nat.le_refl _) (fun x => by by_cases h : 0 ≤ x <;> simp [h])⟩
  case round =>
    obtain ⟨j, hj, rfl, HM⟩ := hrel
    by_cases hlt : j < 100
    · have hwf : (Lit.int .i64 (j : Int)).wf = true := wf_of (by omega) (by omega)
      have hlti : (j : Int) < 100 := by omega
      go_wp2_with (first | (refine MapB.store rfl rfl rfl rfl HM (by omega) hwf ?_; intro w1 H1) | go_in)
      go_roundw
      case rel => exact ⟨j + 1, by omega, by go_num, H1.out.eq (Nat.le_refl _) (fun x => by
        rw [Bool.eq_iff_iff]
        simp only [Bool.or_eq_true, Bool.and_eq_true, beq_iff_eq, decide_eq_true_eq]
        omega)⟩
      case measure => simp [intOf]; omega
    · have hnlt : ¬ (j : Int) < 100 := by omega
      have HM1 : Hid (MapB w wr w.heap.size 100 (freeF L 0)) := HM.out.eq hj (fun x => by
        rw [Bool.eq_iff_iff]
        simp only [freeF, List.take_zero, List.contains_nil, Bool.not_false, Bool.and_true, Bool.and_eq_true, decide_eq_true_eq]
        omega)
      clear HM H0 hlt
      go_wp2
      go_loopw [16] (fun i wr => ∃ j : Nat, j ≤ m ∧ i = .int .i64 j ∧ Hid (MapB w wr w.heap.size 100 (freeF L j)) ∧ Hid (LabelsV (L.take j))) (fun i _ => m - (intOf i).toNat)
      case atStart => exact ⟨0, by omega, rfl, HM1, (by simp : (∀ x ∈ L.take 0, 0 ≤ x ∧ x ≤ 99) ∧ (L.take 0).Nodup)⟩
      case round =>
        obtain ⟨j, hj, rfl, HM, HV⟩ := hrel
        by_cases hlt : j < m
        · obtain ⟨x, X1⟩ : ∃ x, Hid (L[j]? = some x) := ⟨_, List.getElem?_eq_getElem (by rw [L1.out]; exact hlt)⟩
          obtain ⟨b, off, rfl, hbB, e1⟩ := (RD.out.below HM.out.1 HBB.out).cellAt X1.out
          have hxi := HI.out x (List.mem_of_getElem? X1.out)
          have hwf : (Lit.int .i64 x).wf = true := wf_of hxi.1 hxi.2
          clear hxi
          cases hf : freeF L j x with
          | false =>
            have HF := Lib.hid (labels_fail X1.out hf)
            go_wp2_with (first | (refine MapB.look false HM rfl rfl rfl rfl hwf hf ?_) | go_in)
            go_ret
            exact ⟨by rw [HF.out]; rfl, HM.out.1⟩
          | true =>
            have HS := Lib.hid (labels_step X1.out HV.out hf)
            go_wp2_with (first | (refine MapB.look true HM rfl rfl rfl rfl hwf hf ?_) | (refine MapB.drop rfl rfl rfl rfl HM hwf ?_; intro w1 H1) | go_in)
            go_roundw
            case rel => exact ⟨j + 1, by omega, by go_num, H1.out.eq (Nat.le_refl _) (fun y => freeF_step X1.out y), HS⟩
            case measure => simp [intOf]; omega
        · obtain rfl : j = m := by omega
          have HF : Hid (labelsB L = true) := by
            have h := HV.out
            rw [List.take_of_length_le (by rw [L1.out]; omega)] at h
            exact labelsB_true.2 h
          go_wp2
          go_ret
          exact ⟨by rw [HF.out]; rfl, HM.out.1⟩
/-- areLabels. -/
theorem labels_impl {B : Nat} {v : Value} {L : List Int} {w : World} (h : Rd B w v (ints L)) (hB : B ≤ w.heap.size) (hn : L.length ≤ 281474976710656) (hI : allI L) :
    Calls Tryz.prog 61 #[v] w fun e w' => e = .returned (.bool (labelsB L)) ∧ Below w.heap.size w w' := by
  obtain ⟨a, cap, rfl, -⟩ := ints_form h
  exact labels_impl_full a cap _ B L w rfl hn hI h hB
end Go.Proofs.YtceidekfcnmeaaaGreat
namespace Go.Proofs.YtceidekfcnmeaaaGreat
set_option maxRecDepth 20000
open Go.RowKit

theorem axes_labels {L D : List Int} (h : labelsB L = false) : ¬ AxesV L D := fun hv => by
  have := labelsB_true.2 (show LabelsV L from ⟨hv.2.2.1, hv.2.2.2.2⟩)
  rw [h] at this; cases this
theorem sizeI_none {L D : List Int} (h : ¬ AxesV L D) : sizeI L D = -1 := by
  unfold sizeI
  rw [if_neg (by simp [axesB_false h])]
theorem sizeI_yes {L D : List Int} (h : AxesV L D) (hp : prodL D ≤ 4096) : sizeI L D = prodL D := by
  unfold sizeI
  rw [if_pos ⟨axesB_true.2 h, hp⟩]
theorem sizeI_big {L D : List Int} (hp : 4096 < prodL D) : sizeI L D = -1 := by
  unfold sizeI
  rw [if_neg (by omega)]
theorem prodL_pow {D : List Int} (h : ∀ d ∈ D, 1 ≤ d ∧ d ≤ 8) : prodL D ≤ ((8 ^ D.length : Nat) : Int) := by
  induction D with
  | nil => rw [prodL_nil]; simp
  | cons d r ih =>
    have h1 := h d (by simp)
    have h2 := ih (fun x hx => h x (by simp [hx]))
    have h3 := prodL_pos (D := r) (fun x hx => (h x (by simp [hx])).1)
    rw [prodL_cons, List.length_cons, Nat.pow_succ, Int.natCast_mul, Int.mul_comm]
    exact Int.mul_le_mul h2 h1.2 (by omega) (by omega)
theorem prodL_max {D : List Int} (h : ∀ d ∈ D, 1 ≤ d ∧ d ≤ 8) (hl : D.length ≤ 12) : prodL D ≤ 68719476736 := by
  have h1 := prodL_pow h
  have h2 : 8 ^ D.length ≤ 8 ^ 12 := Nat.pow_le_pow_right (by omega) hl
  have h3 : 8 ^ 12 = 68719476736 := by decide
  omega
theorem prodL_step {D : List Int} {j : Nat} {d : Int} (h : D[j]? = some d) : prodL (D.take (j + 1)) = prodL (D.take j) * d := by
  rw [List.take_add_one, h]
  exact prodL_snoc _ _

set_option maxHeartbeats 1600000 in
theorem size_impl {B : Nat} {lv dv xv : Value} {L D X : List Int} {w : World} (h : RdT B w lv dv xv L D X) (hB : B ≤ w.heap.size) (hn : LenT L D X) (hI : allI L) :
    Calls Tryz.prog 28 #[tenV lv dv xv] w fun e w' => e = .returned (.int .i64 (sizeI L D)) ∧ Below w.heap.size w w' := by
  have H0 := Lib.hid ((Held.refl w).box3 lv dv xv 28)
  have HT := Lib.hid (h.below H0.out.1 hB)
  have hBB := Nat.le_trans hB H0.out.1.size
  have HN := Lib.hid hn
  have RD := Lib.hid h.d
  have HB0 := Lib.hid hB
  obtain ⟨al, cl, rfl, -⟩ := ints_form h.l
  obtain ⟨ad, cd, rfl, -⟩ := ints_form h.d
  obtain ⟨ax, cx, rfl, -⟩ := ints_form h.x
  obtain ⟨ml, hml⟩ : ∃ m, m = L.length := ⟨_, rfl⟩
  obtain ⟨md, hmd⟩ : ∃ m, m = D.length := ⟨_, rfl⟩
  obtain ⟨mx, hmx⟩ : ∃ m, m = X.length := ⟨_, rfl⟩
  rw [← hmd] at RD
  rw [← hml, ← hmd, ← hmx] at H0 HT hBB ⊢
  have HLB := Lib.hid (labels_impl HT.out.l hBB HN.out.l hI)
  obtain ⟨r, hr⟩ : ∃ r, r = sizeI L D := ⟨_, rfl⟩
  rw [← hr]
  have HR := Lib.hid hr
  have HL := Lib.hid hml
  have HD := Lib.hid hmd
  clear h hB hBB hn hml hmd hmx hr hI
  by_cases h12 : 12 < ml
  · have HF : Hid (r = -1) := by
      show r = -1
      rw [HR.out]
      exact sizeI_none (fun hv => by have := hv.1; have := HL.out; omega)
    have q1 : decide ((12 : Int) < ml) = true := by simp; omega
    clear HLB
    go_enter Tryz.func28, Tryz.ntmps28
    go_wp2
    go_ret
    exact ⟨by rw [HF.out]; rfl, H0.out.1⟩
  have q1 : decide ((12 : Int) < ml) = false := by simp; omega
  by_cases hne : md = ml
  case neg =>
    have HF : Hid (r = -1) := by
      show r = -1
      rw [HR.out]
      exact sizeI_none (fun hv => by have := hv.2.1; have := HL.out; have := HD.out; omega)
    have q2 : ((md : Int) != (ml : Int)) = true := by simp; omega
    clear HLB hne
    go_enter Tryz.func28, Tryz.ntmps28
    go_wp2
    go_ret
    exact ⟨by rw [HF.out]; rfl, H0.out.1⟩
  have q2 : ((md : Int) != (ml : Int)) = false := by simp; omega
  have HNE := Lib.hid hne
  have hm : md ≤ 12 := by omega
  clear hne h12
  cases hlb : labelsB L with
  | false =>
    have HF : Hid (r = -1) := by
      show r = -1
      rw [HR.out]
      exact sizeI_none (axes_labels hlb)
    rw [hlb] at HLB
    clear hlb
    go_enter Tryz.func28, Tryz.ntmps28
    go_wp2_with fail
    refine (Held.call H0 HLB.out).mono ?_
    rintro e w1 ⟨rfl, H1, c0, c1, c2, -⟩
    go_wp2
    go_ret
    exact ⟨by rw [HF.out]; rfl, H1.out.1⟩
  | true =>
    have HLV := Lib.hid (labelsB_true.1 hlb)
    rw [hlb] at HLB
    clear hlb
    go_enter Tryz.func28, Tryz.ntmps28
    go_wp2_with fail
    refine (Held.call H0 HLB.out).mono ?_
    rintro e w1 ⟨rfl, H1, c0, c1, c2, -⟩
    have RD1 := Lib.hid (RD.out.below H1.out.1 HB0.out)
    have HW := Lib.hid H1.out.1
    clear HLB H0 H1 RD
    go_wp2
    go_loop [3, 28] (fun s i => ∃ (j : Nat) (c : Int), j ≤ md ∧ i = .int .i64 j ∧ s = .int .i64 c ∧ 1 ≤ c ∧ c ≤ 68719476736 ∧ Hid (c = prodL (D.take j)) ∧ Hid (∀ d ∈ D.take j, 1 ≤ d ∧ d ≤ 8)) (fun _ i => md - (intOf i).toNat)
    case atStart => exact ⟨0, 1, by omega, rfl, rfl, by omega, by omega, (by simp [prodL] : (1 : Int) = prodL (D.take 0)), (by simp : ∀ d ∈ D.take 0, 1 ≤ d ∧ d ≤ 8)⟩
    case round =>
      obtain ⟨j, c, hj, rfl, rfl, hc1, hc2, HC, HV⟩ := hrel
      by_cases hlt : j < md
      · obtain ⟨d, D1⟩ : ∃ d, Hid (D[j]? = some d) := ⟨_, List.getElem?_eq_getElem (by rw [← HD.out]; exact hlt)⟩
        obtain ⟨b, off, rfl, hbB, e1⟩ := RD1.out.cellAt D1.out
        clear hbB
        by_cases h1 : d < 1
        · have HF : Hid (r = -1) := by
            show r = -1
            rw [HR.out]
            exact sizeI_none (fun hv => by have := hv.2.2.2.1 d (List.mem_of_getElem? D1.out); omega)
          go_wp2
          go_ret
          exact ⟨by rw [HF.out]; rfl, HW.out⟩
        · by_cases h8 : 8 < d
          · have HF : Hid (r = -1) := by
              show r = -1
              rw [HR.out]
              exact sizeI_none (fun hv => by have := hv.2.2.2.1 d (List.mem_of_getElem? D1.out); omega)
            have q4 : decide ((8 : Int) < d) = true := by simpa using h8
            go_wp2
            go_ret
            exact ⟨by rw [HF.out]; rfl, HW.out⟩
          · have q4 : decide ((8 : Int) < d) = false := by simpa using h8
            have hm1 : c * d ≤ 68719476736 * 8 := Int.mul_le_mul hc2 (by omega) (by omega) (by omega)
            have hm2 : 1 * 1 ≤ c * d := Int.mul_le_mul hc1 (by omega) (by omega) (by omega)
            have hw : IntKind.i64.wrap (c * d) = c * d := IntWalk.i64_in _ (by omega)
            have HV2 : Hid (∀ d ∈ D.take (j + 1), 1 ≤ d ∧ d ≤ 8) := by
              show ∀ d ∈ D.take (j + 1), 1 ≤ d ∧ d ≤ 8
              intro y hy
              rw [List.take_add_one, D1.out] at hy
              simp only [Option.toList_some, List.mem_append, List.mem_singleton] at hy
              rcases hy with hy | rfl
              · exact HV.out y hy
              · omega
            have HC2 : Hid (c * d = prodL (D.take (j + 1))) := by
              show _ = _
              rw [prodL_step D1.out, ← HC.out]
            have hc3 : c * d ≤ 68719476736 := by rw [HC2.out]; exact prodL_max HV2.out (by rw [List.length_take]; omega)
            clear hm1
            go_wp2
            go_round
            case rel => exact ⟨j + 1, c * d, by omega, by go_num, rfl, by omega, hc3, HC2, HV2⟩
            case measure => simp [intOf]; omega
      · have hnlt : ¬ (j : Int) < (md : Int) := by omega
        have htake : D.take j = D := List.take_of_length_le (by rw [← HD.out]; omega)
        have hcc := HC.out
        have hvv := HV.out
        rw [htake] at hcc hvv
        have HAV : Hid (AxesV L D) := ⟨by rw [← HL.out, ← HNE.out]; exact hm, by rw [← HL.out, ← HD.out]; exact HNE.out.symm, HLV.out.1, hvv, HLV.out.2⟩
        by_cases hgt : 4096 < c
        · have HF : Hid (r = -1) := by
            show r = -1
            rw [HR.out]
            exact sizeI_big (by rw [← hcc]; exact hgt)
          have q4 : decide ((4096 : Int) < c) = true := by simpa using hgt
          clear hcc hvv htake hlt
          go_wp2
          go_ret
          exact ⟨by rw [HF.out]; rfl, HW.out⟩
        · have HF : Hid (r = c) := by
            show r = c
            rw [HR.out, sizeI_yes HAV.out (by rw [← hcc]; omega), ← hcc]
          have q4 : decide ((4096 : Int) < c) = false := by simpa using hgt
          clear hcc hvv htake hlt
          go_wp2
          go_ret
          exact ⟨by rw [HF.out]; rfl, HW.out⟩
end Go.Proofs.YtceidekfcnmeaaaGreat
