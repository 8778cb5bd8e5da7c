import Derived.Test.YtgbmacppgaopfabGreatRs
import Derived.Test.YtgbmacppgaopfabGreatZeroImpl
import Derived.Test.YtgbmacppgaopfabGreatIndexIn
import Derived.Test.YtgbmacppgaopfabGreatTensorOk2
import Derived.Test.YtgbmacppgaopfabGreatElemRd
import Derived.Test.YtgbmacppgaopfabGreatElemAt
import Derived.Test.YtgbmacppgaopfabGreatZero
import Derived.Laws.CopyOwn
import Derived.Test.YtgbmacppgaopfabGreatAxes
import Derived.Deep.RegionHeld3

/- Steps of a region behind which the world bears a letter: boxes, literals, copy. -/
namespace Go.Proofs.YtgbmacppgaopfabGreat
set_option maxRecDepth 20000
open Go.RowKit

theorem splice_take {α : Type} {cur X x : List α} {s n : Nat} (h : cur.take n = X) (hn : n ≤ cur.length) (hs : s + x.length ≤ n) : (cur.take s ++ (x ++ cur.drop (s + x.length))).take n = X.take s ++ (x ++ X.drop (s + x.length)) := by
  subst h
  have e1 : (cur.take s).length = s := by rw [List.length_take]; omega
  rw [List.take_append, e1, List.take_append, List.take_of_length_le (by omega : (cur.take s).length ≤ n), List.take_of_length_le (by omega : x.length ≤ n - s), List.take_take, List.drop_take, Nat.min_eq_left (by omega : s ≤ n)]
  congr 2
  congr 1
  omega
/-- A row of the call's own is written by copy. -/
theorem Own.copied {w : World} {lo hi g cap m : Nat} {X x : List Int} (h : Own w lo hi (.slice (some ⟨g, 0, none⟩) m cap) X) (hm : X.length = m) (s : Nat) (hs : s + x.length ≤ m) :
    ∃ cur : Array Value, w.heap[g]? = some (.cells cur 3 (0, 0)) ∧ s + x.length ≤ cur.size ∧
      Own (w.setRow g (cur.toList.take s ++ (ints x ++ cur.toList.drop (s + (ints x).length))).toArray) lo hi (.slice (some ⟨g, 0, none⟩) m cap) (putL X s x) ∧
      w.grownBy (w.setRow g (cur.toList.take s ++ (ints x ++ cur.toList.drop (s + (ints x).length))).toArray) (some g) := by
  subst hm
  obtain ⟨⟨hl, h1⟩, h2, h3⟩ := h
  rcases h1 with ⟨h1, -⟩ | ⟨g', cap', cur, e, hb, hg, hnc, hcm, hcs, hct⟩
  · cases h1
  · simp only [Value.slice.injEq, Option.some.injEq, Addr.mk.injEq, and_true, true_and] at e
    obtain ⟨rfl, rfl⟩ := e
    have hz : (cur.toList.take s ++ (ints x ++ cur.toList.drop (s + (ints x).length))).length = cur.size := by
      have e1 : cur.toList.length = cur.size := by simp
      simp only [List.length_append, List.length_take, List.length_drop, ints_len]; omega
    have hp : (putL X s x).length = X.length := by unfold putL; simp only [List.length_append, List.length_take, List.length_drop]; omega
    refine ⟨cur, hg, by omega, ⟨⟨by rw [ints_len, hp, Nat.mul_one], .inr ⟨g, cap, _, by rw [hp], hb, setRow_heap w g _ _ _ _ hg, by rw [hp]; exact hnc, hcm, by rw [List.size_toArray, hz]; exact hcs, ?_⟩⟩, h2, by simpa [World.setRow] using h3⟩,
      ⟨rfl, rfl, rfl, by simp [World.setRow], fun k hk hne => setRow_other w g k _ (fun e => hne (by rw [e]))⟩⟩
    rw [hp]
    have e2 := splice_take (x := ints x) (s := s) hct (by simp; omega) (by rw [ints_len]; omega)
    show (cur.toList.take s ++ (ints x ++ cur.toList.drop (s + (ints x).length))).take (X.length * 1) = _
    rw [e2]
    unfold putL
    simp [ints, List.map_take, List.map_drop]

end Go.Proofs.YtgbmacppgaopfabGreat
namespace Go.Proofs.YtgbmacppgaopfabGreat
set_option maxRecDepth 20000
open Go.RowKit

section
variable {w0 W : World} {bs : List BxE} {rows : List RowE}
theorem Rs.boxX (h : Rs w0 W bs rows) (a b c : Value) (T : TypeId) : ∃ WX g, W.alloc (.cells #[a, b, c] T) = WX ∧ W.heap.size = g ∧ Rs w0 WX ((g, a, b, c) :: bs) rows := ⟨_, _, rfl, rfl, h.box a b c T⟩
theorem Rs.litX (h : Rs w0 W bs rows) (x : Int) : ∃ WX g, W.alloc (.cells #[.int .i64 x] 3) = WX ∧ W.heap.size = g ∧ Rs w0 WX bs ((.slice (some ⟨g, 0, none⟩) 1 1, [x]) :: rows) := ⟨_, _, rfl, rfl, h.lit1 x⟩
/-- A list of two rows that are read. -/
def Two2 (W : World) (v : Value) (xs ys : List Int) : Prop := RdRows W.heap.size W v [xs, ys]
theorem Two2.below {W' : World} {v : Value} {xs ys : List Int} (h : Two2 W v xs ys) (hb : Below W.heap.size W W') : Two2 W' v xs ys := by
  obtain ⟨vs, h1, h2, h3⟩ := (show RdRows W.heap.size W v [xs, ys] from h).below hb (Nat.le_refl _)
  exact ⟨vs, h1.mono hb.size, h2, fun i hi => let ⟨u, e, hu⟩ := h3 i hi; ⟨u, e, hu.mono hb.size⟩⟩
end
/-- copy in a region, into a row that is known whole. -/
theorem step_copy_let {P : Program} {ops : Array Oper} {o : Oper} {a : Act} {w : World} {K : Act → World → Prop} {Q : Exit → Act → World → Prop} {E : Prop} (hgd : o.guard = none) (d s : Operand) (dT sT : TypeId)
    (ho : o.op = .call { callee := .builtin .copy, args := #[d, s], argTypes := #[dT, sT] }) (elem : TypeId) (hu : P.underlying dT = some (.slice elem)) (hsz : (P.info? elem).map (·.size) = some 1)
    (g off dLen dCap : Nat) (ad : Addr) (sLen sCap : Nat) (hd : a.eval d = .slice (some ⟨g, off, none⟩) dLen dCap) (hs : a.eval s = .slice (some ad) sLen sCap)
    (cur : Array Value) (t : TypeId) (hg : w.heap[g]? = some (.cells cur t (0, 0))) (cs : List Value) (hn : cs.length = Nat.min sLen dLen)
    (hsrc : ∀ j v, cs[j]? = some v → w.cell? (ad.add j) = some v) (hfit : off + cs.length ≤ cur.size) (h1 : ∀ v ∈ cs, v.oneCell' = true)
    (h : ∀ w', Hid (w' = w.setRow g (cur.toList.take off ++ (cs ++ cur.toList.drop (off + cs.length))).toArray) → K (a.put o.dst (goInt cs.length)) w') :
    if Region.wanted o (yielded ops a.tmps) = true then Oper.wp P o a w K Q else E := by
  have hw : Region.wanted o (yielded ops a.tmps) = true := by simp [Region.wanted, hgd]
  rw [if_pos hw]
  have hrun := run_copy_row (P := P) w dT sT o.type elem g off dLen dCap ad sLen sCap cur t cs hu hsz hg hn hsrc hfit h1
  unfold Oper.wp
  simp [execOp, ho, resolve, invoke, builtin, hd, hs, hrun, Result.andThen]
  exact h _ (Lib.hid rfl)
/-- A row of the state is written by copy. -/
theorem Rs.copied {w0 wr : World} {bs : List BxE} {rows : List RowE} {g cap m : Nat} {X x : List Int} (h : Rs w0 wr bs ((.slice (some ⟨g, 0, none⟩) m cap, X) :: rows)) (hm : X.length = m) (s : Nat) (hs : s + x.length ≤ m) :
    ∃ cur : Array Value, wr.heap[g]? = some (.cells cur 3 (0, 0)) ∧ s + x.length ≤ cur.size ∧
      Rs w0 (wr.setRow g (cur.toList.take s ++ (ints x ++ cur.toList.drop (s + (ints x).length))).toArray) bs ((.slice (some ⟨g, 0, none⟩) m cap, putL X s x) :: rows) := by
  obtain ⟨cur, h1, h2, h3, h4⟩ := (h.own1 (v := .slice (some ⟨g, 0, none⟩) m cap) (xs := X) (by simp)).copied hm s hs
  exact ⟨cur, h1, h2, h.rewrite h3.1 h4⟩
end Go.Proofs.YtgbmacppgaopfabGreat
