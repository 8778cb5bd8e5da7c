
/- Elements of rings: l02Elem, ElemOk, holds. -/
import Derived.Test.YtgabcdploeledaaRingFns
import Derived.Test.YtgabcdploeledaaLawKit
import Derived.Deep.RegionWith
import Derived.Deep.QuietTactic
import Derived.BigQuiet
import Derived.Laws.OwnMore
namespace Go.Proofs.Ytgabcdploeledaa
set_option maxRecDepth 20000
open Go.RowKit

/-- A world behind w0, in which block b holds a ring. -/
def Inv (w0 w : World) (b : Nat) (k p n : Int) : Prop := Below w0.heap.size w0 w ∧ BoxAt w b k p n ∧ b < w.heap.size
theorem Inv.step {w0 w w' : World} {b : Nat} {k p n : Int} (h : Inv w0 w b k p n) (hb : Below w.heap.size w w') : Inv w0 w' b k p n :=
  ⟨h.1.trans (hb.mono h.1.size), h.2.1.below hb h.2.2, Nat.lt_of_lt_of_le h.2.2 hb.size⟩
theorem Inv.drew {w0 w : World} {b : Nat} {k p n : Int} (h : Inv w0 w b k p n) : Inv w0 w.drew b k p n := ⟨h.1.drew, h.2.1, h.2.2⟩
theorem Inv.drewN {w0 w : World} {b : Nat} {k p n : Int} (h : Inv w0 w b k p n) (q : Nat) : Inv w0 (w.drewN q) b k p n := ⟨below_drewN h.1 q, h.2.1, h.2.2⟩
theorem Inv.box (w : World) (k p n : Int) (T : TypeId) : Inv w (w.alloc (.cells (ringC k p n) T)) w.heap.size k p n :=
  ⟨(Below.refl _ _).alloc (Nat.le_refl _) _, BoxAt.new w k p n T, by simp⟩
/-- The cells of an invariant's ring, as the walk asks them. -/
def Cs (w : World) (b : Nat) (k p n : Int) : Prop := w.cell? ⟨b, 0, none⟩ = some (.int .i64 k) ∧ w.cell? ⟨b, 1, none⟩ = some (.int .i64 p) ∧ w.cell? ⟨b, 2, none⟩ = some (.int .i64 n)
theorem Inv.cells {w0 w : World} {b : Nat} {k p n : Int} (h : Inv w0 w b k p n) : w.cell? ⟨b, 0, none⟩ = some (.int .i64 k) ∧ w.cell? ⟨b, 1, none⟩ = some (.int .i64 p) ∧ w.cell? ⟨b, 2, none⟩ = some (.int .i64 n) := h.2.1
/-- A contract that keeps what was, with the invariant carried across. -/
theorem Inv.call {P : Program} {f : FuncId} {args : Array Value} {w0 w : World} {b : Nat} {k p n : Int} {R : Ending → Prop} (h : Hid (Inv w0 w b k p n)) (hc : Calls P f args w fun e w' => R e ∧ Below w.heap.size w w') :
    Calls P f args w fun e w' => R e ∧ Hid (Inv w0 w' b k p n) ∧ w'.cell? ⟨b, 0, none⟩ = some (.int .i64 k) ∧ w'.cell? ⟨b, 1, none⟩ = some (.int .i64 p) ∧ w'.cell? ⟨b, 2, none⟩ = some (.int .i64 n) :=
  hc.mono fun _ _ ⟨he, hb⟩ => ⟨he, h.out.step hb, (h.out.step hb).cells⟩

theorem Rd.cellAt {B : Nat} {w : World} {a : Option Addr} {m cap : Nat} {xs : List Int} {j : Nat} {x : Int} (h : Rd B w (.slice a m cap) (ints xs)) (hx : xs[j]? = some x) : ∃ b off, a = some ⟨b, off, none⟩ ∧ b < B ∧ w.cell? ⟨b, off + j, none⟩ = some (.int .i64 x) := by
  obtain ⟨hl, e⟩ := List.getElem?_eq_some_iff.1 hx
  rcases h.ints_cases with ⟨h0, -⟩ | ⟨b, off, ca, e2, hb, -, hc⟩
  · rw [h0] at hl; simp at hl
  · cases e2
    exact ⟨b, off, rfl, hb, by rw [hc j hl, e]⟩

/-- The rows of a slice of slices that is only read. -/
def RdRows (B : Nat) (w : World) (v : Value) (rows : List (List Int)) : Prop :=
  ∃ vs : List Value, Rd B w v vs ∧ vs.length = rows.length ∧ ∀ i (h : i < rows.length), ∃ u, vs[i]? = some u ∧ Rd B w u (ints rows[i])
theorem RdRows.below {B B' : Nat} {w w' : World} {v : Value} {rows : List (List Int)} (h : RdRows B w v rows) (hb : Below B' w w') (hB : B ≤ B') : RdRows B w' v rows := by
  obtain ⟨vs, h1, h2, h3⟩ := h
  exact ⟨vs, h1.below hb hB, h2, fun i hi => let ⟨u, e, hu⟩ := h3 i hi; ⟨u, e, hu.below hb hB⟩⟩

/-- Does a valid ring hold these elements. -/
noncomputable def holdsB (k p n : Int) (rows : List (List Int)) : Bool := ringB k p n && rows.all fun xs => elemB k p n xs
open Classical in
theorem elemB_true {k p n : Int} {xs : List Int} : elemB k p n xs = true ↔ ElemV k p n xs := decide_eq_true_iff
theorem elemB_of_len {k p n : Int} {xs : List Int} (h : (xs.length : Int) ≠ widthI k n) : elemB k p n xs = false := by
  cases hb : elemB k p n xs with
  | false => rfl
  | true => exact absurd (elemB_true.1 hb).1 h
theorem elemB_of_at {k p n : Int} {xs : List Int} {i : Nat} {x : Int} (hx : xs[i]? = some x) (h : x < 0 ∨ topI k p n < x) : elemB k p n xs = false := by
  cases hb : elemB k p n xs with
  | false => rfl
  | true =>
    have := (elemB_true.1 hb).2 x (List.mem_of_getElem? hx)
    omega
theorem within_step {t : Int} {xs : List Int} {i : Nat} {x : Int} (hx : xs[i]? = some x) (h : Within t (xs.take i)) (h1 : 0 ≤ x) (h2 : x ≤ t) : Within t (xs.take (i + 1)) := by
  intro y hy
  rw [List.take_add_one, hx] at hy
  rcases List.mem_append.1 hy with hy | hy
  · exact h y hy
  · simp at hy; subst hy; exact ⟨h1, h2⟩
theorem inB_true {a lo hi : Int} : inB a lo hi = true ↔ lo ≤ a ∧ a ≤ hi := by simp [inB]

end Go.Proofs.Ytgabcdploeledaa
