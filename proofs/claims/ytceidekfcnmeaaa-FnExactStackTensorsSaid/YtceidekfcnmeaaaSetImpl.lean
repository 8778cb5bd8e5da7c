
/- impl.SetElem. -/
import Derived.Test.YtceidekfcnmeaaaRs
import Derived.Test.YtceidekfcnmeaaaZeroImpl
import Derived.Test.YtceidekfcnmeaaaElemImpl
import Derived.Test.YtceidekfcnmeaaaScalarImpl
import Derived.Laws.CopyOwn
namespace Go.Proofs.Ytceidekfcnmeaaa
set_option maxRecDepth 20000
open Go.RowKit

theorem splice_take {α : Type} {cur X x : List α} {s n : Nat} (h : cur.take n = X) (hn : n ≤ cur.length) (hs : s + x.length ≤ n) : (cur.take s ++ (x ++ cur.drop (s + x.length))).take n = X.take s ++ (x ++ X.drop (s + x.length)) := by
  subst h
  have e1 : (cur.take s).length = s := by rw [List.length_take]; omega
  rw [List.take_append, e1, List.take_append, List.take_of_length_le (by omega : (cur.take s).length ≤ n), List.take_of_length_le (by omega : x.length ≤ n - s), List.take_take, List.drop_take, Nat.min_eq_left (by omega : s ≤ n)]
  congr 2
  congr 1
  omega
/-- A row of the call's own is written by copy. -/
theorem Own.copied {w : World} {lo hi g cap m : Nat} {X x : List Int} (h : Own w lo hi (.slice (some ⟨g, 0, none⟩) m cap) X) (hm : X.length = m) (s : Nat) (hs : s + x.length ≤ m) :
    ∃ cur : Array Value, w.heap[g]? = some (.cells cur 3 (0, 0)) ∧ s + x.length ≤ cur.size ∧
      Own (w.setRow g (cur.toList.take s ++ (ints x ++ cur.toList.drop (s + (ints x).length))).toArray) lo hi (.slice (some ⟨g, 0, none⟩) m cap) (putL X s x) ∧
      w.grownBy (w.setRow g (cur.toList.take s ++ (ints x ++ cur.toList.drop (s + (ints x).length))).toArray) (some g) := by
  subst hm
  obtain ⟨⟨hl, h1⟩, h2, h3⟩ := h
  rcases h1 with ⟨h1, -⟩ | ⟨g', cap', cur, e, hb, hg, hnc, hcm, hcs, hct⟩
  · cases h1
  · simp only [Value.slice.injEq, Option.some.injEq, Addr.mk.injEq, and_true, true_and] at e
    obtain ⟨rfl, rfl⟩ := e
    have hz : (cur.toList.take s ++ (ints x ++ cur.toList.drop (s + (ints x).length))).length = cur.size := by
      have e1 : cur.toList.length = cur.size := by simp
      simp only [List.length_append, List.length_take, List.length_drop, ints_len]; omega
    have hp : (putL X s x).length = X.length := by unfold putL; simp only [List.length_append, List.length_take, List.length_drop]; omega
    refine ⟨cur, hg, by omega, ⟨⟨by rw [ints_len, hp, Nat.mul_one], .inr ⟨g, cap, _, by rw [hp], hb, setRow_heap w g _ _ _ _ hg, by rw [hp]; exact hnc, hcm, by rw [List.size_toArray, hz]; exact hcs, ?_⟩⟩, h2, by simpa [World.setRow] using h3⟩,
      ⟨rfl, rfl, rfl, by simp [World.setRow], fun k hk hne => setRow_other w g k _ (fun e => hne (by rw [e]))⟩⟩
    rw [hp]
    have e2 := splice_take (x := ints x) (s := s) hct (by simp; omega) (by rw [ints_len]; omega)
    show (cur.toList.take s ++ (ints x ++ cur.toList.drop (s + (ints x).length))).take (X.length * 1) = _
    rw [e2]
    unfold putL
    simp [ints, List.map_take, List.map_drop]

/-- copy into a row of the call's own: the world behind it bears a letter. -/
theorem wpList_copy_let {P : Program} {w : World} {ops : Array Oper} {rest : List Oper} {o : Oper} {a : Act} {Q : Exit → Act → World → Prop} (hgd : o.guard = none) (d s : Operand) (dT sT : TypeId)
    (ho : o.op = .call { callee := .builtin .copy, args := #[d, s], argTypes := #[dT, sT] }) (elem : TypeId) (hu : P.underlying dT = some (.slice elem)) (hsz : (P.info? elem).map (·.size) = some 1)
    (g off dLen dCap : Nat) (ad : Addr) (sLen sCap : Nat) (hd : a.eval d = .slice (some ⟨g, off, none⟩) dLen dCap) (hs : a.eval s = .slice (some ad) sLen sCap)
    (cur : Array Value) (t : TypeId) (hg : w.heap[g]? = some (.cells cur t (0, 0))) (cs : List Value) (hn : cs.length = Nat.min sLen dLen)
    (hsrc : ∀ j v, cs[j]? = some v → w.cell? (ad.add j) = some v) (hfit : off + cs.length ≤ cur.size) (h1 : ∀ v ∈ cs, v.oneCell' = true)
    (h : ∀ w', Hid (w' = w.setRow g (cur.toList.take off ++ (cs ++ cur.toList.drop (off + cs.length))).toArray) → wpList P ops Q rest (a.put o.dst (goInt cs.length)) w') : wpList P ops Q (o :: rest) a w :=
  wpList_copy_own hgd d s dT sT ho elem hu hsz g off dLen dCap ad sLen sCap hd hs cur t hg cs hn hsrc hfit h1 (h _ (Lib.hid rfl))

theorem setB_is {k p q : Int} {L D X ix x : List Int} {o : Nat} (ho : offsetI L D ix = (o : Int)) (ht : tensorB k p q L D X = true) : setB k p q L D X ix x = okElemB k p q x := by
  unfold setB; rw [ho, ht]; simp
end Go.Proofs.Ytceidekfcnmeaaa
