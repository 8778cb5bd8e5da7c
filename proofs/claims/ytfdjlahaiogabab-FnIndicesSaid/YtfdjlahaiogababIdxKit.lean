
/- The calls of the law FnIndices, on what it draws. -/
import Derived.Test.YtfdjlahaiogababIdxMath
import Derived.Test.YtfdjlahaiogababSameKit
import Derived.Test.YtfdjlahaiogababSetImpl
import Derived.Test.YtfdjlahaiogababIndexImpl
import Derived.Test.YtfdjlahaiogababMakeSize
namespace Go.Proofs.Ytfdjlahaiogabab
set_option maxRecDepth 20000
open Go.RowKit

def TenS (w : World) (L D X : List Int) (e : Ending) (w' : World) : Prop := ∃ a1 n1 c1 a2 n2 c2 a3 n3 c3, e = .returned (tenV (.slice a1 n1 c1) (.slice a2 n2 c2) (.slice a3 n3 c3)) ∧ OwnG w' w.heap.size w'.heap.size [(.slice a1 n1 c1, L), (.slice a2 n2 c2, D), (.slice a3 n3 c3, X)] ∧ Below w.heap.size w w'
theorem TenS.of {w w' : World} {L D X : List Int} {e : Ending} (h : NewTen w L D X e w') : TenS w L D X e w' := by
  obtain ⟨lv, dv, xv, rfl, ho, hb⟩ := h
  obtain ⟨a1, n1, c1, rfl⟩ := own_slice (show Own _ _ _ lv L from ho.1 (lv, L) (by simp))
  obtain ⟨a2, n2, c2, rfl⟩ := own_slice (show Own _ _ _ dv D from ho.1 (dv, D) (by simp))
  obtain ⟨a3, n3, c3, rfl⟩ := own_slice (show Own _ _ _ xv X from ho.1 (xv, X) (by simp))
  exact ⟨_, _, _, _, _, _, _, _, _, rfl, ho, hb⟩
theorem ten_size {k p q : Int} {L D X : List Int} (h : tensorB k p q L D X = true) : ∃ N : Nat, sizeI L D = N ∧ 1 ≤ N ∧ N ≤ 4096 := by
  obtain ⟨-, h0, -, -⟩ := tensorB_inv h
  rcases sizeI_cases L D with ⟨h, -⟩ | ⟨h1, -, h3, h4⟩
  · omega
  · exact ⟨(prodL D).toNat, by omega, by omega, by omega⟩
section
variable {B B' B'' N n : Nat} {lv dv xv iv gv : Value} {k p q : Int} {L D X Y x z ix : List Int} {w : World}
theorem size_yes (ht : tensorB k p q L D X = true) (hN : sizeI L D = N) (h : RdT B w lv dv xv L D X) (hB : B ≤ w.heap.size) :
    Calls Try.prog 40 #[tenV lv dv xv] w fun e w' => e = .returned (.int .i64 N) ∧ Below w.heap.size w w' := by
  have hq := size_impl h hB (tenlen ht) (tenints ht)
  rw [hN] at hq
  exact hq
theorem ok_yes (ht : tensorB k p q L D X = true) (h : RdT B w lv dv xv L D X) (hB : B ≤ w.heap.size) :
    Calls Try.prog 45 #[ringV k p q, tenV lv dv xv] w fun e w' => e = .returned (.bool true) ∧ Below w.heap.size w w' := by
  have hq := tensor_ok_impl (k := k) (p := p) (n := q) h hB (tenlen ht) (tenints ht)
  rw [ht] at hq
  exact hq
theorem index_yes (ht : tensorB k p q L D X = true) (hi : inSize L D n = true) (he : indexAtL L D n = ix) (h : RdT B w lv dv xv L D X) (hB : B ≤ w.heap.size) :
    Calls Try.prog 47 #[tenV lv dv xv, .int .i64 n] w fun e w' => ∃ a m c, e = .returned (.tuple #[.slice a m c, .bool true]) ∧ Own w' w.heap.size w'.heap.size (.slice a m c) ix ∧ Below w.heap.size w w' := by
  have hq := index_at_impl n h hB (tenlen ht) (tenints ht)
  rw [hi, he] at hq
  refine hq.mono ?_
  rintro e w' ⟨r, rfl, ho, hb⟩
  obtain ⟨a, m, c, rfl⟩ := own_slice ho
  exact ⟨a, m, c, rfl, ho, hb⟩
theorem index_no (ht : tensorB k p q L D X = true) (hN : sizeI L D = N) (hi : inSize L D (sizeI L D) = false) (h : RdT B w lv dv xv L D X) (hB : B ≤ w.heap.size) :
    Calls Try.prog 47 #[tenV lv dv xv, .int .i64 N] w fun e w' => ∃ a m c, e = .returned (.tuple #[.slice a m c, .bool false]) ∧ Below w.heap.size w w' := by
  have hq := index_at_impl N h hB (tenlen ht) (tenints ht)
  rw [← hN, hi] at hq
  rw [← hN]
  refine hq.mono ?_
  rintro e w' ⟨r, rfl, ho, hb⟩
  obtain ⟨a, m, c, rfl⟩ := own_slice ho
  exact ⟨a, m, c, rfl, hb⟩
theorem set_yes (ht : tensorB k p q L D X = true) (hs : setB k p q L D X ix x = true) (he : setElemL k q L D X ix x = Y) (h : RdT B w lv dv xv L D X) (hi : Rd B' w iv (ints ix)) (hx : Rd B'' w gv (ints x)) (hB : B ≤ w.heap.size) (hB' : B' ≤ w.heap.size) (hB'' : B'' ≤ w.heap.size) (li : ix.length ≤ 4096) (lx : x.length ≤ 4096) :
    Calls Try.prog 49 #[ringV k p q, tenV lv dv xv, iv, gv] w (TenS w L D Y) := by
  have hT : RdT w.heap.size w lv dv xv L D X := ⟨h.l.mono hB, h.d.mono hB, h.x.mono hB⟩
  have hq := set_elem_impl (k := k) (p := p) (q := q) hT (hi.mono hB') (hx.mono hB'') (Nat.le_refl _) (tenlen ht) (by omega) (by omega) (tenints ht)
  rw [hs] at hq
  simp only [if_true, he] at hq
  exact hq.mono fun e w' h => TenS.of h
theorem off_yes (ht : tensorB k p q L D X = true) (he : offsetI L D ix = n) (h : RdT B w lv dv xv L D X) (hi : Rd B' w iv (ints ix)) (hB : B ≤ w.heap.size) (hB' : B' ≤ w.heap.size) (li : ix.length ≤ 4096) :
    Calls Try.prog 50 #[tenV lv dv xv, iv] w fun e w' => e = .returned (.int .i64 n) ∧ Below w.heap.size w w' := by
  have hT : RdT w.heap.size w lv dv xv L D X := ⟨h.l.mono hB, h.d.mono hB, h.x.mono hB⟩
  have hq := offset_of_impl hT (hi.mono hB') (Nat.le_refl _) (tenlen ht) (by omega) (tenints ht)
  rw [he] at hq
  exact hq
theorem get_yes (ht : tensorB k p q L D X = true) (he : elemAtL k p q L D X ix = z) (h : RdT B w lv dv xv L D X) (hi : Rd B' w iv (ints ix)) (hB : B ≤ w.heap.size) (hB' : B' ≤ w.heap.size) (li : ix.length ≤ 4096) :
    Calls Try.prog 52 #[ringV k p q, tenV lv dv xv, iv] w fun e w' => ∃ a m c, e = .returned (.slice a m c) ∧ Own w' w.heap.size w'.heap.size (.slice a m c) z ∧ Below w.heap.size w w' := by
  have hT : RdT w.heap.size w lv dv xv L D X := ⟨h.l.mono hB, h.d.mono hB, h.x.mono hB⟩
  have hq := elem_at_impl (k := k) (p := p) (q := q) hT (hi.mono hB') (Nat.le_refl _) (tenlen ht) (by omega) (tenints ht)
  rw [he] at hq
  refine hq.mono ?_
  rintro e w' ⟨r, rfl, ho, hb⟩
  obtain ⟨a, m, c, rfl⟩ := own_slice ho
  exact ⟨a, m, c, rfl, ho, hb⟩
theorem scalar_yes (he : scalarL k p q x = x) (hx : Rd B w gv (ints x)) (hB : B ≤ w.heap.size) (lx : x.length ≤ 4096) :
    Calls Try.prog 53 #[ringV k p q, gv] w (TenS w [] [] x) := by
  have hq : Calls _ _ _ _ (NewTen w [] [] (scalarL k p q x)) := scalar_impl (k := k) (p := p) (n := q) hx hB (by omega)
  rw [he] at hq
  exact hq.mono fun e w' h => TenS.of h
end
end Go.Proofs.Ytfdjlahaiogabab
