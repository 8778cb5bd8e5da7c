
/- Elements of rings: l02Elem, ElemOk, holds. -/
import Derived.Test.YtdheakjjnaifkaaRing
import Derived.Test.YtdheakjjnaifkaaLawKit
import Derived.Deep.RegionWith
import Derived.Deep.QuietTactic
import Derived.BigQuiet
import Derived.Laws.OwnMore
import Derived.Deep.DeepCutAuto
import Derived.Deep.CutRange
namespace Go.Proofs.Ytdheakjjnaifkaa
set_option maxRecDepth 20000
open Go.RowKit

/-- A world behind w0, in which block b holds a ring. -/
def Inv (w0 w : World) (b : Nat) (k p n : Int) : Prop := Below w0.heap.size w0 w ∧ BoxAt w b k p n ∧ b < w.heap.size
theorem Inv.step {w0 w w' : World} {b : Nat} {k p n : Int} (h : Inv w0 w b k p n) (hb : Below w.heap.size w w') : Inv w0 w' b k p n :=
  ⟨h.1.trans (hb.mono h.1.size), h.2.1.below hb h.2.2, Nat.lt_of_lt_of_le h.2.2 hb.size⟩
theorem Inv.drew {w0 w : World} {b : Nat} {k p n : Int} (h : Inv w0 w b k p n) : Inv w0 w.drew b k p n := ⟨h.1.drew, h.2.1, h.2.2⟩
theorem Inv.drewN {w0 w : World} {b : Nat} {k p n : Int} (h : Inv w0 w b k p n) (q : Nat) : Inv w0 (w.drewN q) b k p n := ⟨below_drewN h.1 q, h.2.1, h.2.2⟩
theorem Inv.box (w : World) (k p n : Int) (T : TypeId) : Inv w (w.alloc (.cells (ringC k p n) T)) w.heap.size k p n :=
  ⟨(Below.refl _ _).alloc (Nat.le_refl _) _, BoxAt.new w k p n T, by simp⟩
/-- The cells of an invariant's ring, as the walk asks them. -/
def Cs (w : World) (b : Nat) (k p n : Int) : Prop := w.cell? ⟨b, 0, none⟩ = some (.int .i64 k) ∧ w.cell? ⟨b, 1, none⟩ = some (.int .i64 p) ∧ w.cell? ⟨b, 2, none⟩ = some (.int .i64 n)
theorem Inv.cells {w0 w : World} {b : Nat} {k p n : Int} (h : Inv w0 w b k p n) : w.cell? ⟨b, 0, none⟩ = some (.int .i64 k) ∧ w.cell? ⟨b, 1, none⟩ = some (.int .i64 p) ∧ w.cell? ⟨b, 2, none⟩ = some (.int .i64 n) := h.2.1
/-- A contract that keeps what was, with the invariant carried across. -/
theorem Inv.call {P : Program} {f : FuncId} {args : Array Value} {w0 w : World} {b : Nat} {k p n : Int} {R : Ending → Prop} (h : Hid (Inv w0 w b k p n)) (hc : Calls P f args w fun e w' => R e ∧ Below w.heap.size w w') :
    Calls P f args w fun e w' => R e ∧ Hid (Inv w0 w' b k p n) ∧ w'.cell? ⟨b, 0, none⟩ = some (.int .i64 k) ∧ w'.cell? ⟨b, 1, none⟩ = some (.int .i64 p) ∧ w'.cell? ⟨b, 2, none⟩ = some (.int .i64 n) :=
  hc.mono fun _ _ ⟨he, hb⟩ => ⟨he, h.out.step hb, (h.out.step hb).cells⟩

theorem Rd.cellAt {B : Nat} {w : World} {a : Option Addr} {m cap : Nat} {xs : List Int} {j : Nat} {x : Int} (h : Rd B w (.slice a m cap) (ints xs)) (hx : xs[j]? = some x) : ∃ b off, a = some ⟨b, off, none⟩ ∧ b < B ∧ w.cell? ⟨b, off + j, none⟩ = some (.int .i64 x) := by
  obtain ⟨hl, e⟩ := List.getElem?_eq_some_iff.1 hx
  rcases h.ints_cases with ⟨h0, -⟩ | ⟨b, off, ca, e2, hb, -, hc⟩
  · rw [h0] at hl; simp at hl
  · cases e2
    exact ⟨b, off, rfl, hb, by rw [hc j hl, e]⟩

/-- The rows of a slice of slices that is only read. -/
def RdRows (B : Nat) (w : World) (v : Value) (rows : List (List Int)) : Prop :=
  ∃ vs : List Value, Rd B w v vs ∧ vs.length = rows.length ∧ ∀ i (h : i < rows.length), ∃ u, vs[i]? = some u ∧ Rd B w u (ints rows[i])
theorem RdRows.below {B B' : Nat} {w w' : World} {v : Value} {rows : List (List Int)} (h : RdRows B w v rows) (hb : Below B' w w') (hB : B ≤ B') : RdRows B w' v rows := by
  obtain ⟨vs, h1, h2, h3⟩ := h
  exact ⟨vs, h1.below hb hB, h2, fun i hi => let ⟨u, e, hu⟩ := h3 i hi; ⟨u, e, hu.below hb hB⟩⟩

/-- Does a valid ring hold these elements. -/
noncomputable def holdsB (k p n : Int) (rows : List (List Int)) : Bool := ringB k p n && rows.all fun xs => elemB k p n xs
open Classical in
theorem elemB_true {k p n : Int} {xs : List Int} : elemB k p n xs = true ↔ ElemV k p n xs := decide_eq_true_iff
theorem elemB_of_len {k p n : Int} {xs : List Int} (h : (xs.length : Int) ≠ widthI k n) : elemB k p n xs = false := by
  cases hb : elemB k p n xs with
  | false => rfl
  | true => exact absurd (elemB_true.1 hb).1 h
theorem elemB_of_at {k p n : Int} {xs : List Int} {i : Nat} {x : Int} (hx : xs[i]? = some x) (h : x < 0 ∨ topI k p n < x) : elemB k p n xs = false := by
  cases hb : elemB k p n xs with
  | false => rfl
  | true =>
    have := (elemB_true.1 hb).2 x (List.mem_of_getElem? hx)
    omega
theorem within_step {t : Int} {xs : List Int} {i : Nat} {x : Int} (hx : xs[i]? = some x) (h : Within t (xs.take i)) (h1 : 0 ≤ x) (h2 : x ≤ t) : Within t (xs.take (i + 1)) := by
  intro y hy
  rw [List.take_add_one, hx] at hy
  rcases List.mem_append.1 hy with hy | hy
  · exact h y hy
  · simp at hy; subst hy; exact ⟨h1, h2⟩
theorem inB_true {a lo hi : Int} : inB a lo hi = true ↔ lo ≤ a ∧ a ≤ hi := by simp [inB]

end Go.Proofs.Ytdheakjjnaifkaa
namespace Go.Proofs.Ytdheakjjnaifkaa
set_option maxRecDepth 20000
open Go.RowKit

/-- Are all of these from 0 to t. -/
def withinB (t : Int) (xs : List Int) : Bool := xs.all fun x => decide (0 ≤ x) && decide (x ≤ t)
theorem withinB_true {t : Int} {xs : List Int} : withinB t xs = true ↔ Within t xs := by
  unfold withinB
  rw [List.all_eq_true]
  constructor
  · intro h x hx; simpa using h x hx
  · intro h x hx; simpa using h x hx
theorem withinB_false {t : Int} {xs : List Int} (h : ¬ Within t xs) : withinB t xs = false := by
  cases hb : withinB t xs with
  | false => rfl
  | true => exact absurd (withinB_true.1 hb) h
theorem elemB_within (k p n : Int) (xs : List Int) : elemB k p n xs = (decide ((xs.length : Int) = widthI k n) && withinB (topI k p n) xs) := by
  rw [Bool.eq_iff_iff, elemB_true, Bool.and_eq_true, withinB_true, decide_eq_true_eq]
  exact Iff.rfl

set_option maxHeartbeats 400000 in
theorem out_fn (x t : Int) (g : Nat) (w : World) (hc : w.cell? ⟨g, 0, none⟩ = some (.int .i64 t)) :
    Calls Try.prog 118 #[.int .i64 x, .pointer (some ⟨g, 0, none⟩)] w fun e w' => e = .returned (.bool (decide (x < 0) || decide (t < x))) ∧ w = w' := by
  by_cases h0 : x < 0
  · have e : (decide (x < 0) || decide (t < x)) = true := by simp [h0]
    rw [e]
    go_enter Try.func118, Try.ntmps118
    go_wp2
    go_ret
    exact ⟨rfl, rfl⟩
  · have e : (decide (x < 0) || decide (t < x)) = decide (t < x) := by simp [h0]
    rw [e]
    go_enter Try.func118, Try.ntmps118
    go_wp2
    go_ret
    exact ⟨rfl, rfl⟩

set_option maxHeartbeats 800000 in
theorem index_fn (a : Option Addr) (cap m B g : Nat) (t : Int) (xs : List Int) (w : World) (hc : w.cell? ⟨g, 0, none⟩ = some (.int .i64 t)) (h1 : xs.length = m) (hm : m ≤ 281474976710656) (hd : Rd B w (.slice a m cap) (ints xs)) :
    Calls Try.prog 130 #[.slice a m cap, .func (.func 118) #[] #[.pointer (some ⟨g, 0, none⟩)]] w fun e w' => ∃ r : Int, e = .returned (.int .i64 r) ∧ decide (0 ≤ r) = !withinB t xs ∧ w = w' := by
  have L1 := Lib.hid h1
  have RD := Lib.hid hd
  clear h1 hd
  go_enter Try.func130, Try.ntmps130
  go_wp2
  go_loop [8] (fun i => ∃ j : Nat, j ≤ m ∧ i = .int .i64 j ∧ Hid (Within t (xs.take j))) (fun i => m - (intOf i).toNat)
  case atStart => exact ⟨0, by omega, rfl, fun x hx => by simp at hx⟩
  case round =>
    obtain ⟨j, hj, rfl, HI⟩ := hrel
    by_cases hlt : j < m
    · obtain ⟨x, X1⟩ : ∃ x, Hid (xs[j]? = some x) := ⟨_, List.getElem?_eq_getElem (by rw [L1.out]; exact hlt)⟩
      obtain ⟨b, off, rfl, hbB, e1⟩ := RD.out.cellAt X1.out
      cases hq : (decide (x < 0) || decide (t < x)) with
      | true =>
        have HF : Hid (withinB t xs = false) := withinB_false (fun h => by
          have := h x (List.mem_of_getElem? X1.out)
          simp only [Bool.or_eq_true, decide_eq_true_eq] at hq
          omega)
        have HQ := Lib.hid hq
        clear hq
        go_wp2_with fail
        refine (out_fn x t g _ hc).mono ?_
        rw [HQ.out]
        rintro e w1 ⟨rfl, rfl⟩
        go_wp2
        go_ret
        exact ⟨_, rfl, by rw [HF.out]; simp, rfl⟩
      | false =>
        have HS : Hid (Within t (xs.take (j + 1))) := by
          simp only [Bool.or_eq_false_iff, decide_eq_false_iff_not] at hq
          exact within_step X1.out HI.out (by omega) (by omega)
        have HQ := Lib.hid hq
        clear hq
        go_wp2_with fail
        refine (out_fn x t g _ hc).mono ?_
        rw [HQ.out]
        rintro e w1 ⟨rfl, rfl⟩
        go_wp2
        go_round
        case rel => exact ⟨j + 1, by omega, by go_num, HS⟩
        case measure => simp [intOf]; omega
    · obtain rfl : j = m := by omega
      have HF : Hid (withinB t xs = true) := withinB_true.2 (by
        have := HI.out
        rw [List.take_of_length_le (by rw [L1.out]; omega)] at this
        exact this)
      go_wp2
      go_ret
      exact ⟨_, rfl, by rw [HF.out]; rfl, rfl⟩

set_option maxHeartbeats 400000 in
theorem contains_fn {B g : Nat} {v : Value} {t : Int} {xs : List Int} {w : World} (hc : w.cell? ⟨g, 0, none⟩ = some (.int .i64 t)) (hd : Rd B w v (ints xs)) (hm : xs.length ≤ 281474976710656) :
    Calls Try.prog 117 #[v, .func (.func 118) #[] #[.pointer (some ⟨g, 0, none⟩)]] w fun e w' => e = .returned (.bool (!withinB t xs)) ∧ w = w' := by
  obtain ⟨a, cap, rfl, -⟩ := ints_form hd
  have HC := Lib.hid (index_fn a cap _ B g t xs w hc rfl hm hd)
  clear hd hm hc
  go_enter Try.func117, Try.ntmps117
  go_wp2_with fail
  refine HC.out.mono ?_
  rintro e w1 ⟨r, rfl, hr, rfl⟩
  have HR := Lib.hid hr
  clear hr
  go_wp2
  go_ret
  exact ⟨by rw [← HR.out]; rfl, rfl⟩

set_option maxHeartbeats 800000 in
/-- (Ring).holdsInts. -/
theorem holds_ints {B : Nat} {v : Value} {k p n : Int} {xs : List Int} {w : World} (hr : ringB k p n = true) (h : Rd B w v (ints xs)) (hB : B ≤ w.heap.size) (hn : xs.length ≤ 281474976710656) :
    Calls Try.prog 111 #[ringV k p n, v] w fun e w' => e = .returned (.bool (withinB (topI k p n) xs)) ∧ Below w.heap.size w w' := by
  obtain ⟨a, cap, rfl, -⟩ := ints_form h
  obtain ⟨t, ht⟩ : ∃ t, t = topI k p n := ⟨_, rfl⟩
  obtain ⟨m, hm⟩ : ∃ m, m = xs.length := ⟨_, rfl⟩
  have HM := Lib.hid hm
  rw [← ht]
  rw [← hm] at h hn ⊢
  have HT := Lib.hid ht
  have HR := Lib.hid hr
  have HX := Lib.hid h
  have HN := Lib.hid hn
  have HB := Lib.hid hB
  clear h hn hB ht hr hm
  go_enter Try.func111, Try.ntmps111
  go_wp2_with fail
  refine (Inv.call (Lib.hid (Inv.box w k p n _)) (top_impl k p n _ HR.out)).mono ?_
  rw [← HT.out]
  rintro e w1 ⟨rfl, HV1, c0, c1, c2⟩
  have HB2 := Lib.hid (HV1.out.1.alloc HV1.out.1.size (.cells #[.int .i64 t] 3))
  go_wp2_with fail
  refine (contains_fn (B := B) (g := w1.heap.size) (t := t) (by simp [World.cell?_alloc_at]) (HX.out.below HB2.out HB.out) (by rw [← HM.out]; exact HN.out)).mono ?_
  rintro e w2 ⟨rfl, rfl⟩
  go_wp2
  go_ret
  exact ⟨by simp, HB2.out⟩
end Go.Proofs.Ytdheakjjnaifkaa
namespace Go.Proofs.Ytdheakjjnaifkaa
set_option maxRecDepth 20000
open Go.RowKit

theorem all_step {α : Type} {f : α → Bool} {xs : List α} {i : Nat} {x : α} (hx : xs[i]? = some x) (h : (xs.take i).all f = true) (h1 : f x = true) : (xs.take (i + 1)).all f = true := by
  rw [List.take_add_one, hx, List.all_append, h]
  simp [h1]
theorem all_fails {α : Type} {f : α → Bool} {xs : List α} {i : Nat} {x : α} (hx : xs[i]? = some x) (h1 : f x = false) : xs.all f = false := by
  cases h : xs.all f with
  | false => rfl
  | true => rw [List.all_eq_true.1 h x (List.mem_of_getElem? hx)] at h1; cases h1

end Go.Proofs.Ytdheakjjnaifkaa
namespace Go.Proofs.Ytdheakjjnaifkaa
set_option maxRecDepth 20000
open Go.RowKit

noncomputable def okElemB (k p n : Int) (xs : List Int) : Bool := ringB k p n && elemB k p n xs
theorem RdRows.one {w1 : World} {B b : Nat} {v : Value} {xs : List Int} (h : Rd B w1 v (ints xs)) (hB : B ≤ b) (hc : w1.cell? ⟨b, 0, none⟩ = some v) : RdRows (b + 1) w1 (.slice (some ⟨b, 0, none⟩) 1 1) [xs] :=
  ⟨[v], .inr ⟨b, 0, 1, rfl, by omega, by simp, fun i u hi => by
    cases i with
    | zero => simp at hi; subst hi; exact hc
    | succ i => simp at hi⟩, rfl, fun i hi => by
    simp at hi; subst hi
    exact ⟨v, rfl, h.mono (by omega)⟩⟩
theorem RdRows.two {w1 : World} {B b : Nat} {v u : Value} {xs ys : List Int} (h : Rd B w1 v (ints xs)) (h2 : Rd B w1 u (ints ys)) (hB : B ≤ b) (hc : w1.cell? ⟨b, 0, none⟩ = some v) (hd : w1.cell? ⟨b, 1, none⟩ = some u) : RdRows (b + 1) w1 (.slice (some ⟨b, 0, none⟩) 2 2) [xs, ys] :=
  ⟨[v, u], .inr ⟨b, 0, 2, rfl, by omega, by simp, fun i z hi => by
    match i, hi with
    | 0, hi => simp at hi; subst hi; exact hc
    | 1, hi => simp at hi; subst hi; exact hd⟩, rfl, fun i hi => by
    match i, hi with
    | 0, hi => exact ⟨v, rfl, h.mono (by omega)⟩
    | 1, hi => exact ⟨u, rfl, h2.mono (by omega)⟩⟩
end Go.Proofs.Ytdheakjjnaifkaa
