
/- The kinds' names: impl.kindNames (a map that the call makes), impl.kindNamed (a range over it), spec.l04Kind. -/
import Derived.Test.YtceidekfcnmeaaaGreatDoorLawKit
import Derived.WalkSpells
import Derived.WalkLawsBesides
import Derived.Maps.StringElems
import Derived.Lib.Hide
namespace Go.Proofs.YtceidekfcnmeaaaGreatDoor
set_option maxRecDepth 20000
open Go.RowKit Go.Maps

/-- The name of a kind. -/
def kname (k : Int) : List UInt8 :=
  if k = 1 then [98, 111, 111, 108] else if k = 2 then [109, 111, 100] else if k = 3 then [99, 97, 112] else if k = 4 then [109, 105, 110]
  else if k = 5 then [119, 105, 100, 101] else if k = 6 then [115, 101, 116] else if k = 7 then [112, 111, 108, 121] else if k = 8 then [111, 109, 101, 103, 97] else []
theorem kinds_of {k : Int} (h1 : 1 ≤ k) (h2 : k ≤ 8) : k = 1 ∨ k = 2 ∨ k = 3 ∨ k = 4 ∨ k = 5 ∨ k = 6 ∨ k = 7 ∨ k = 8 := by omega
theorem kname_inj {j k : Int} (h1 : 1 ≤ j) (h2 : j ≤ 8) (h3 : 1 ≤ k) (h4 : k ≤ 8) (h : kname j = kname k) : j = k := by
  rcases kinds_of h1 h2 with rfl | rfl | rfl | rfl | rfl | rfl | rfl | rfl <;> rcases kinds_of h3 h4 with rfl | rfl | rfl | rfl | rfl | rfl | rfl | rfl <;> first | rfl | (revert h; decide)
theorem kname_plain {k : Int} (h1 : 1 ≤ k) (h2 : k ≤ 8) : (∀ x ∈ kname k, x.toNat ≠ 32) ∧ kname k ≠ [] ∧ (kname k).length ≤ 5 := by
  rcases kinds_of h1 h2 with rfl | rfl | rfl | rfl | rfl | rfl | rfl | rfl <;> decide
/-- What a name says: a kind, or 0. -/
def KindOf (l : List UInt8) (x : Int) : Prop := (1 ≤ x ∧ x ≤ 8 ∧ kname x = l) ∨ (x = 0 ∧ ∀ j, 1 ≤ j → j ≤ 8 → kname j ≠ l)
theorem KindOf.name {k x : Int} (h1 : 1 ≤ k) (h2 : k ≤ 8) (h : KindOf (kname k) x) : x = k := by
  rcases h with ⟨h3, h4, h5⟩ | ⟨-, h⟩
  · exact kname_inj h3 h4 h1 h2 h5
  · exact absurd rfl (h k h1 h2)
theorem KindOf.range {l : List UInt8} {x : Int} (h : KindOf l x) : 0 ≤ x ∧ x ≤ 8 := by
  rcases h with h | h <;> omega

/-- A number and a text, as a map's key and element. -/
abbrev lk (i : Int) : Lit := .int .i64 i
abbrev ls (l : List UInt8) : DataW Unit := .lit (.string l)
def namesD : DataW Unit := ((((((((DataW.map []).put (lk 1) (ls (kname 1))).put (lk 2) (ls (kname 2))).put (lk 3) (ls (kname 3))).put (lk 4) (ls (kname 4))).put (lk 5) (ls (kname 5))).put (lk 6) (ls (kname 6))).put (lk 7) (ls (kname 7))).put (lk 8) (ls (kname 8))
theorem names_is : namesD = .map [(lk 1, ls (kname 1)), (lk 2, ls (kname 2)), (lk 3, ls (kname 3)), (lk 4, ls (kname 4)), (lk 5, ls (kname 5)), (lk 6, ls (kname 6)), (lk 7, ls (kname 7)), (lk 8, ls (kname 8))] := by rfl
theorem names_at {k : Int} (h1 : 1 ≤ k) (h2 : k ≤ 8) (z : DataW Unit) : namesD.atKey (lk k) z = ls (kname k) := by
  rw [names_is]
  rcases kinds_of h1 h2 with rfl | rfl | rfl | rfl | rfl | rfl | rfl | rfl <;> rfl
theorem names_has {k : Int} (h1 : 1 ≤ k) (h2 : k ≤ 8) : Maps.has namesD (lk k) = true := by
  rw [names_is]
  rcases kinds_of h1 h2 with rfl | rfl | rfl | rfl | rfl | rfl | rfl | rfl <;> rfl
theorem names_key {k : Lit} (h : Maps.has namesD k = true) : ∃ j, 1 ≤ j ∧ j ≤ 8 ∧ k = lk j := by
  rw [names_is, Maps.has_eq] at h
  simp only [List.any_cons, List.any_nil, Bool.or_eq_true, Bool.or_false] at h
  rcases h with h | h | h | h | h | h | h | h <;> exact ⟨_, by decide, by decide, (WideAt.sameKey_eq h).symm⟩

/-- A world behind w0, in which block b, new since w0, holds a map from numbers to texts that reads as D. -/
def MapIn (w0 w : World) (b n : Nat) (D : DataW Unit) : Prop := Below w0.heap.size w0 w ∧ w.ownsMap Tryz.prog 3 (plainElem Tryz.prog 9) b n D ∧ w0.heap.size ≤ b
theorem keysI : Keyed Tryz.prog 3 := int_keyed Tryz.underlying3
theorem zeroS (w : World) : (zeroValue 9).run Tryz.prog w = .ok (.string ⟨#[]⟩) w := by kernel_rfl
theorem MapIn.made (w : World) : MapIn w (w.alloc (.map #[] 0)) w.heap.size 0 (.map []) := ⟨(Below.refl _ _).alloc (Nat.le_refl _) _, World.ownsMap_made w _ _ _, Nat.le_refl _⟩
theorem i64_ok {i : Int} (h1 : -9223372036854775808 ≤ i) (h2 : i ≤ 9223372036854775807) : (Lit.int .i64 i).wf = true := WalkArith.wf_i64 ⟨h1, h2⟩

/-- An entry of a map literal: the text s at the number i. -/
theorem put_entry {w0 w : World} {ops : Array Oper} {rest : List Oper} {o : Oper} {a : Act} {Q : Exit → Act → World → Prop} {m : Operand} {i : Int} {s : ByteArray} {b n : Nat} {D : DataW Unit}
    (hg : o.guard = none) (hop : o.op = Op.insert 54 m (.const (.int .i64 i)) (.const (.string s))) (hm : a.eval m = .map (some b)) (hown : Hid (MapIn w0 w b n D)) (hn : n < 100) (hi : (Lit.int .i64 i).wf = true) (hs : s.size ≤ maxLen)
    (hK : ∀ w', Hid (MapIn w0 w' b (n + 1) (D.put (lk i) (ls s.data.toList))) → wpList Tryz.prog ops Q rest (a.put o.dst undef) w') :
    wpList Tryz.prog ops Q (o :: rest) a w := by
  refine wpList_plain hg fun K hKK => ?_
  obtain ⟨w', hrun, hown', hgrow⟩ := hown.out.2.1.update keysI Tryz.underlying54 (by unfold maxLen; omega) (keyOf_int_mk Tryz.underlying3 hi) (plainElem_string (H := Unit) Tryz.underlying9 hs)
  have hx : a.eval (.const (.int .i64 i)) = .int .i64 i := rfl
  have hv : a.eval (.const (.string s)) = .string s := rfl
  unfold Oper.wp
  simp [execOp, hop, hm, hx, hv, hrun, Result.andThen]
  exact hKK _ _ (hK w' ⟨hown.out.1.grown hgrow hown.out.1.size (fun g hg => by cases hg; exact hown.out.2.2), hown', hown.out.2.2⟩)
/-- The text at a number. -/
theorem MapIn.look {w0 w : World} {b n : Nat} {D : DataW Unit} {k : Int} {l : List UInt8} (h : MapIn w0 w b n D) (hk : (Lit.int .i64 k).wf = true) (hd : ∀ z, D.atKey (lk k) z = ls l) :
    (Instr.lookup 54 (.map (some b)) (.int .i64 k) false).run Tryz.prog w = .ok (.string ⟨l.toArray⟩) w := by
  obtain ⟨v, ps, hrun, hv⟩ := h.2.1.lookup keysI Tryz.underlying54 (zeroS w) (plainElem_string (H := Unit) Tryz.underlying9 (show (⟨#[]⟩ : ByteArray).size ≤ maxLen by decide)) (keyOf_int_mk Tryz.underlying3 hk)
  rw [hd] at hv
  obtain ⟨s, rfl, e, -⟩ := plainElem_string_inv Tryz.underlying9 hv
  rw [hrun]
  simp only [Prod.mk.injEq, DataW.lit.injEq, Lit.string.injEq] at e
  rw [show (⟨l.toArray⟩ : ByteArray) = s from ByteArray.ext (by rw [e.1])]

set_option maxHeartbeats 400000 in
theorem names_made (w : World) : Calls Tryz.prog 24 #[] w fun e w' => ∃ b, e = .returned (.map (some b)) ∧ MapIn w w' b 8 namesD := by
  have hmm := @run_makeMap Tryz.prog
  have H0 := Lib.hid (MapIn.made w)
  go_enter Tryz.func24, Tryz.ntmps24
  go_wp2_with (first | (refine put_entry rfl rfl rfl (by assumption) (by decide) (by decide) (by decide) ?_; intro w1 H1) | go_in)
  go_ret
  exact ⟨_, rfl, by assumption⟩
end Go.Proofs.YtceidekfcnmeaaaGreatDoor
