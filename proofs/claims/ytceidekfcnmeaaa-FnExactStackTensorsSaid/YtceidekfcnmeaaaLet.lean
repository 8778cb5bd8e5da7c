
/- Steps of a region behind which the world bears a letter: boxes, literals, copy. -/
import Derived.Test.YtceidekfcnmeaaaRs
import Derived.Test.YtceidekfcnmeaaaAxes
import Derived.Test.YtceidekfcnmeaaaSetImpl
import Derived.Laws.CopyOwn
import Derived.Deep.RegionHeld3
namespace Go.Proofs.Ytceidekfcnmeaaa
set_option maxRecDepth 20000
open Go.RowKit

section
variable {w0 W : World} {bs : List BxE} {rows : List RowE}
theorem Rs.boxX (h : Rs w0 W bs rows) (a b c : Value) (T : TypeId) : ∃ WX g, W.alloc (.cells #[a, b, c] T) = WX ∧ W.heap.size = g ∧ Rs w0 WX ((g, a, b, c) :: bs) rows := ⟨_, _, rfl, rfl, h.box a b c T⟩
theorem Rs.litX (h : Rs w0 W bs rows) (x : Int) : ∃ WX g, W.alloc (.cells #[.int .i64 x] 3) = WX ∧ W.heap.size = g ∧ Rs w0 WX bs ((.slice (some ⟨g, 0, none⟩) 1 1, [x]) :: rows) := ⟨_, _, rfl, rfl, h.lit1 x⟩
/-- A list of two rows that are read. -/
def Two2 (W : World) (v : Value) (xs ys : List Int) : Prop := RdRows W.heap.size W v [xs, ys]
theorem Two2.below {W' : World} {v : Value} {xs ys : List Int} (h : Two2 W v xs ys) (hb : Below W.heap.size W W') : Two2 W' v xs ys := by
  obtain ⟨vs, h1, h2, h3⟩ := (show RdRows W.heap.size W v [xs, ys] from h).below hb (Nat.le_refl _)
  exact ⟨vs, h1.mono hb.size, h2, fun i hi => let ⟨u, e, hu⟩ := h3 i hi; ⟨u, e, hu.mono hb.size⟩⟩
theorem Rs.listX (h : Rs w0 W bs rows) {u v : Value} {xs ys : List Int} (hu : Rd W.heap.size W u (ints xs)) (hv : Rd W.heap.size W v (ints ys)) : ∃ WX g, W.alloc (.cells #[u, v] 26) = WX ∧ W.heap.size = g ∧ Below W.heap.size W WX ∧ Rs w0 WX bs rows ∧ Two2 WX (.slice (some ⟨g, 0, none⟩) 2 2) xs ys := by
  have hb := (Below.refl W.heap.size W).alloc (Nat.le_refl _) (.cells #[u, v] 26)
  refine ⟨_, _, rfl, rfl, hb, h.alloc _, ?_⟩
  have h1 := RdRows.two (w1 := W.alloc (.cells #[u, v] 26)) (B := W.heap.size) (b := W.heap.size) (hu.below hb (Nat.le_refl _)) (hv.below hb (Nat.le_refl _)) (Nat.le_refl _) (by simp [World.cell?_alloc_at]) (by simp [World.cell?_alloc_at])
  have e : (W.alloc (.cells #[u, v] 26)).heap.size = W.heap.size + 1 := by simp
  unfold Two2
  rw [e]
  exact h1
end
/-- copy in a region, into a row that is known whole. -/
theorem step_copy_let {P : Program} {ops : Array Oper} {o : Oper} {a : Act} {w : World} {K : Act → World → Prop} {Q : Exit → Act → World → Prop} {E : Prop} (hgd : o.guard = none) (d s : Operand) (dT sT : TypeId)
    (ho : o.op = .call { callee := .builtin .copy, args := #[d, s], argTypes := #[dT, sT] }) (elem : TypeId) (hu : P.underlying dT = some (.slice elem)) (hsz : (P.info? elem).map (·.size) = some 1)
    (g off dLen dCap : Nat) (ad : Addr) (sLen sCap : Nat) (hd : a.eval d = .slice (some ⟨g, off, none⟩) dLen dCap) (hs : a.eval s = .slice (some ad) sLen sCap)
    (cur : Array Value) (t : TypeId) (hg : w.heap[g]? = some (.cells cur t (0, 0))) (cs : List Value) (hn : cs.length = Nat.min sLen dLen)
    (hsrc : ∀ j v, cs[j]? = some v → w.cell? (ad.add j) = some v) (hfit : off + cs.length ≤ cur.size) (h1 : ∀ v ∈ cs, v.oneCell' = true)
    (h : ∀ w', Hid (w' = w.setRow g (cur.toList.take off ++ (cs ++ cur.toList.drop (off + cs.length))).toArray) → K (a.put o.dst (goInt cs.length)) w') :
    if Region.wanted o (yielded ops a.tmps) = true then Oper.wp P o a w K Q else E := by
  have hw : Region.wanted o (yielded ops a.tmps) = true := by simp [Region.wanted, hgd]
  rw [if_pos hw]
  have hrun := run_copy_row (P := P) w dT sT o.type elem g off dLen dCap ad sLen sCap cur t cs hu hsz hg hn hsrc hfit h1
  unfold Oper.wp
  simp [execOp, ho, resolve, invoke, builtin, hd, hs, hrun, Result.andThen]
  exact h _ (Lib.hid rfl)
/-- A row of the state is written by copy. -/
theorem Rs.copied {w0 wr : World} {bs : List BxE} {rows : List RowE} {g cap m : Nat} {X x : List Int} (h : Rs w0 wr bs ((.slice (some ⟨g, 0, none⟩) m cap, X) :: rows)) (hm : X.length = m) (s : Nat) (hs : s + x.length ≤ m) :
    ∃ cur : Array Value, wr.heap[g]? = some (.cells cur 3 (0, 0)) ∧ s + x.length ≤ cur.size ∧
      Rs w0 (wr.setRow g (cur.toList.take s ++ (ints x ++ cur.toList.drop (s + (ints x).length))).toArray) bs ((.slice (some ⟨g, 0, none⟩) m cap, putL X s x) :: rows) := by
  obtain ⟨cur, h1, h2, h3, h4⟩ := (h.own1 (v := .slice (some ⟨g, 0, none⟩) m cap) (xs := X) (by simp)).copied hm s hs
  exact ⟨cur, h1, h2, h.rewrite h3.1 h4⟩
end Go.Proofs.Ytceidekfcnmeaaa
