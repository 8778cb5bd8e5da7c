
/- A map of integers that hold true: made, stored into, looked up, deleted from. -/
import Derived.Test.YtgbmacppgaopfaaTensorOk
import Derived.Test.YtgbmacppgaopfaaOpen
import Derived.WalkSpells
import Derived.WalkLawsBesides
import Derived.Maps.OwnSet
import Derived.Lib.Hide
namespace Go.Proofs.Ytgbmacppgaopfaa
set_option maxRecDepth 20000
open Go.RowKit Go.Maps

abbrev kI (i : Int) : Lit := .int .i64 i
abbrev dB (b : Bool) : DataW Unit := .lit (.bool b)
theorem kI_ne {i j : Int} (h : i ≠ j) : kI i ≠ kI j := fun e => h (by injection e)
/-- A map that holds true at just the numbers for which f holds. -/
def FreeD (D : DataW Unit) (f : Int → Bool) (c : Nat) : Prop := IsMap D ∧ (∀ x, D.atKey (kI x) (dB false) = dB (f x)) ∧ (∀ x, has D (kI x) = f x) ∧ size D = c
theorem FreeD.none : FreeD (.map []) (fun _ => false) 0 := ⟨isMap_empty, fun x => by rfl, fun x => by rfl, rfl⟩
theorem FreeD.put {D : DataW Unit} {f : Int → Bool} {c : Nat} (h : FreeD D f c) (ht : Tidy D) (j : Int) (hf : f j = false) : FreeD (D.put (kI j) (dB true)) (fun x => x == j || f x) (c + 1) :=
  ⟨h.1.put _ _, fun x => by
    by_cases e : x = j
    · subst e
      rw [atKey_put_same h.1 (by trivial)]
      simp
    · rw [atKey_put_other (kI_ne e), h.2.1 x]
      simp [e], fun x => by
    by_cases e : x = j
    · subst e
      rw [has_put_same h.1 (by trivial)]
      simp
    · rw [has_put_other (kI_ne e), h.2.2.1 x]
      simp [e], by rw [size_put ht, h.2.2.1 j, hf, h.2.2.2]; rfl⟩
theorem FreeD.del {D : DataW Unit} {f : Int → Bool} {c : Nat} (h : FreeD D f c) (ht : Tidy D) (j : Int) (hf : f j = true) : FreeD (D.del (kI j)) (fun x => x != j && f x) (c - 1) :=
  ⟨h.1.del _, fun x => by
    by_cases e : x = j
    · subst e
      rw [atKey_del_same]
      simp
    · rw [atKey_del_other (kI_ne e), h.2.1 x]
      simp [e], fun x => by
    by_cases e : x = j
    · subst e
      rw [has_del_same]
      simp
    · rw [has_del_other (kI_ne e), h.2.2.1 x]
      simp [e], by
    have h1 := size_del ht (k := kI j)
    rw [h.2.2.1 j, hf, h.2.2.2] at h1
    simp at h1
    omega⟩
theorem FreeD.eq {D : DataW Unit} {f g : Int → Bool} {c : Nat} (h : FreeD D f c) (e : ∀ x, f x = g x) : FreeD D g c := ⟨h.1, fun x => by rw [h.2.1 x, e x], fun x => by rw [h.2.2.1 x, e x], h.2.2.2⟩

/-- A world behind w0 in which block b, new since w0, is such a map. -/
def MapB (w0 w : World) (b n : Nat) (f : Int → Bool) (c : Nat) : Prop := Below w0.heap.size w0 w ∧ w0.heap.size ≤ b ∧ ∃ D : DataW Unit, w.ownsMap Try.prog 3 (plainElem Try.prog 4) b n D ∧ FreeD D f c
theorem keysInt : Keyed Try.prog 3 := int_keyed Try.underlying3
theorem zeroBool (w : World) : (zeroValue 4).run Try.prog w = .ok (.bool false) w := by kernel_rfl
theorem MapB.made (w : World) : MapB w (w.alloc (.map #[] 0)) w.heap.size 0 (fun _ => false) 0 := ⟨(Below.refl _ _).alloc (Nat.le_refl _) _, Nat.le_refl _, _, World.ownsMap_made w _ _ _, FreeD.none⟩
theorem MapB.eq {w0 w : World} {b n m c : Nat} {f g : Int → Bool} (h : MapB w0 w b n f c) (hm : n ≤ m) (e : ∀ x, f x = g x) : MapB w0 w b m g c :=
  ⟨h.1, h.2.1, h.2.2.imp fun _ hD => ⟨hD.1.mono hm, hD.2.eq e⟩⟩
theorem wf_of {i : Int} (h1 : -9223372036854775808 ≤ i) (h2 : i ≤ 9223372036854775807) : (Lit.int .i64 i).wf = true := WalkArith.wf_i64 ⟨h1, h2⟩
theorem plainElem_bool_inv {P : Program} {e : TypeId} (he : P.underlying e = some .bool) {v : Value} {z : DataW Unit × List MemPlace} (h : plainElem P e v = some z) : ∃ x, v = .bool x ∧ z = (dB x, []) := by
  unfold plainElem at h
  rw [he] at h
  cases v <;> simp at h
  exact ⟨_, rfl, h.symm⟩

/-- 'm[i] = true'. -/
theorem MapB.store {w0 w : World} {ops : Array Oper} {rest : List Oper} {o : Oper} {a : Act} {Q : Exit → Act → World → Prop} {m x : Operand} {i : Int} {b n c : Nat} {f : Int → Bool}
    (hg : o.guard = none) (hop : o.op = Op.mapUpdate 144 m x (.const (.bool true))) (hm : a.eval m = .map (some b)) (hx : a.eval x = .int .i64 i) (hown : Hid (MapB w0 w b n f c)) (hn : n ≤ 281474976710656) (hf : f i = false) (hi : (Lit.int .i64 i).wf = true)
    (hK : ∀ w', Hid (MapB w0 w' b (n + 1) (fun x => x == i || f x) (c + 1)) → wpList Try.prog ops Q rest (a.put o.dst undef) w') :
    wpList Try.prog ops Q (o :: rest) a w := by
  obtain ⟨hb, hle, D, hD, hF⟩ := hown.out
  have hT := hD.tidy keysInt
  refine wpList_mapUpdate_own _ hg _ _ _ 144 hop 3 4 keysInt Try.underlying144 _ b n D hm hD (by unfold maxLen; omega) _ _ (kI i) hx rfl (keyOf_int_mk Try.underlying3 hi) (dB true) [] (plainElem_bool Try.underlying4 true) ?_
  intro w' h1 h2
  exact hK w' ⟨hb.grown h2 hb.size (fun g hg => by cases hg; exact hle), hle, _, h1, hF.put hT i hf⟩
/-- 'm[i]'. -/
theorem MapB.look {w0 w : World} {ops : Array Oper} {rest : List Oper} {o : Oper} {a : Act} {Q : Exit → Act → World → Prop} {m x : Operand} {i : Int} {b n c : Nat} {f : Int → Bool} (r : Bool)
    (hown : Hid (MapB w0 w b n f c)) (hg : o.guard = none) (hop : o.op = Op.lookup 144 m x false) (hm : a.eval m = .map (some b)) (hx : a.eval x = .int .i64 i) (hi : (Lit.int .i64 i).wf = true) (hr : f i = r)
    (hK : wpList Try.prog ops Q rest (a.put o.dst (.bool r)) w) :
    wpList Try.prog ops Q (o :: rest) a w := by
  obtain ⟨-, -, D, hD, hF⟩ := hown.out
  refine wpList_plain hg fun K hKK => ?_
  obtain ⟨v, ps, hrun, hv⟩ := hD.lookup keysInt Try.underlying144 (zeroBool w) (plainElem_bool (H := Unit) Try.underlying4 false) (keyOf_int_mk Try.underlying3 hi)
  obtain ⟨y, rfl, e⟩ := plainElem_bool_inv Try.underlying4 hv
  have e2 : y = r := by
    have e3 := (Prod.mk.inj e).1
    rw [hF.2.1 i, hr] at e3
    injection e3 with e3
    injection e3 with e3
    exact e3.symm
  subst e2
  unfold Oper.wp
  simp [execOp, hop, hm, hx, hrun, Result.andThen]
  exact hKK _ _ hK
/-- 'delete(m, i)'. -/
theorem MapB.drop {w0 w : World} {ops : Array Oper} {rest : List Oper} {o : Oper} {a : Act} {Q : Exit → Act → World → Prop} {m x : Operand} {i : Int} {b n c : Nat} {f : Int → Bool}
    (hg : o.guard = none) (hop : o.op = Op.call { callee := Callee.builtin Builtin.delete, args := #[m, x], argTypes := #[144, 3] }) (hm : a.eval m = .map (some b)) (hx : a.eval x = .int .i64 i) (hown : Hid (MapB w0 w b n f c)) (hf : f i = true) (hi : (Lit.int .i64 i).wf = true)
    (hK : ∀ w', Hid (MapB w0 w' b n (fun x => x != i && f x) (c - 1)) → wpList Try.prog ops Q rest (a.put o.dst (.tuple #[])) w') :
    wpList Try.prog ops Q (o :: rest) a w := by
  obtain ⟨hb, hle, D, hD, hF⟩ := hown.out
  have hT := hD.tidy keysInt
  refine wpList_delete_own _ hg _ _ 144 3 hop 4 keysInt Try.underlying144 _ b n D hm hD _ (kI i) hx (keyOf_int_mk Try.underlying3 hi) ?_
  intro w' h1 h2
  exact hK w' ⟨hb.grown h2.grown hb.size (fun g hg => by cases hg; exact hle), hle, _, h1, hF.del hT i hf⟩

/-- 'len(m)'. -/
theorem MapB.count {w0 w : World} {ops : Array Oper} {rest : List Oper} {o : Oper} {a : Act} {Q : Exit → Act → World → Prop} {m : Operand} {b n c : Nat} {f : Int → Bool}
    (hg : o.guard = none) (hop : o.op = Op.call { callee := Callee.builtin Builtin.len, args := #[m], argTypes := #[144] }) (hm : a.eval m = .map (some b)) (hown : Hid (MapB w0 w b n f c))
    (hK : wpList Try.prog ops Q rest (a.put o.dst (.int .i64 c)) w) :
    wpList Try.prog ops Q (o :: rest) a w := by
  obtain ⟨hb, hle, D, hD, hF⟩ := hown.out
  refine wpList_len_own _ hg _ 144 hop 3 4 Try.underlying144 _ b n D hm hD ?_
  rw [hF.2.2.2]
  exact hK
theorem make_hint (n : Int) (w : World) : (Instr.makeMap 144 (some (.int .i64 n))).run Try.prog w = .ok (.map (some w.heap.size)) (w.alloc (.map #[] 0)) := by
  simp [Instr.makeMap, run_underlying Try.underlying144, asInt, asIntOf, Result.andThen]
end Go.Proofs.Ytgbmacppgaopfaa
