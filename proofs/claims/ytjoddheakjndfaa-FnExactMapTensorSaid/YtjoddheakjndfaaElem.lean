
/- Elements of rings: l02Elem, ElemOk, holds. -/
import Derived.Test.YtjoddheakjndfaaRingFns
import Derived.Test.YtjoddheakjndfaaLawKit
import Derived.Deep.RegionWith
import Derived.Deep.QuietTactic
import Derived.BigQuiet
import Derived.Laws.OwnMore
namespace Go.Proofs.Ytjoddheakjndfaa
set_option maxRecDepth 20000
open Go.RowKit

/-- A world behind w0, in which block b holds a ring. -/
def Inv (w0 w : World) (b : Nat) (k p n : Int) : Prop := Below w0.heap.size w0 w ∧ BoxAt w b k p n ∧ b < w.heap.size
theorem Inv.step {w0 w w' : World} {b : Nat} {k p n : Int} (h : Inv w0 w b k p n) (hb : Below w.heap.size w w') : Inv w0 w' b k p n :=
  ⟨h.1.trans (hb.mono h.1.size), h.2.1.below hb h.2.2, Nat.lt_of_lt_of_le h.2.2 hb.size⟩
theorem Inv.drew {w0 w : World} {b : Nat} {k p n : Int} (h : Inv w0 w b k p n) : Inv w0 w.drew b k p n := ⟨h.1.drew, h.2.1, h.2.2⟩
theorem Inv.drewN {w0 w : World} {b : Nat} {k p n : Int} (h : Inv w0 w b k p n) (q : Nat) : Inv w0 (w.drewN q) b k p n := ⟨below_drewN h.1 q, h.2.1, h.2.2⟩
theorem Inv.box (w : World) (k p n : Int) (T : TypeId) : Inv w (w.alloc (.cells (ringC k p n) T)) w.heap.size k p n :=
  ⟨(Below.refl _ _).alloc (Nat.le_refl _) _, BoxAt.new w k p n T, by simp⟩
/-- The cells of an invariant's ring, as the walk asks them. -/
def Cs (w : World) (b : Nat) (k p n : Int) : Prop := w.cell? ⟨b, 0, none⟩ = some (.int .i64 k) ∧ w.cell? ⟨b, 1, none⟩ = some (.int .i64 p) ∧ w.cell? ⟨b, 2, none⟩ = some (.int .i64 n)
theorem Inv.cells {w0 w : World} {b : Nat} {k p n : Int} (h : Inv w0 w b k p n) : w.cell? ⟨b, 0, none⟩ = some (.int .i64 k) ∧ w.cell? ⟨b, 1, none⟩ = some (.int .i64 p) ∧ w.cell? ⟨b, 2, none⟩ = some (.int .i64 n) := h.2.1
/-- A contract that keeps what was, with the invariant carried across. -/
theorem Inv.call {P : Program} {f : FuncId} {args : Array Value} {w0 w : World} {b : Nat} {k p n : Int} {R : Ending → Prop} (h : Hid (Inv w0 w b k p n)) (hc : Calls P f args w fun e w' => R e ∧ Below w.heap.size w w') :
    Calls P f args w fun e w' => R e ∧ Hid (Inv w0 w' b k p n) ∧ w'.cell? ⟨b, 0, none⟩ = some (.int .i64 k) ∧ w'.cell? ⟨b, 1, none⟩ = some (.int .i64 p) ∧ w'.cell? ⟨b, 2, none⟩ = some (.int .i64 n) :=
  hc.mono fun _ _ ⟨he, hb⟩ => ⟨he, h.out.step hb, (h.out.step hb).cells⟩

theorem Rd.cellAt {B : Nat} {w : World} {a : Option Addr} {m cap : Nat} {xs : List Int} {j : Nat} {x : Int} (h : Rd B w (.slice a m cap) (ints xs)) (hx : xs[j]? = some x) : ∃ b off, a = some ⟨b, off, none⟩ ∧ b < B ∧ w.cell? ⟨b, off + j, none⟩ = some (.int .i64 x) := by
  obtain ⟨hl, e⟩ := List.getElem?_eq_some_iff.1 hx
  rcases h.ints_cases with ⟨h0, -⟩ | ⟨b, off, ca, e2, hb, -, hc⟩
  · rw [h0] at hl; simp at hl
  · cases e2
    exact ⟨b, off, rfl, hb, by rw [hc j hl, e]⟩

/-- The rows of a slice of slices that is only read. -/
def RdRows (B : Nat) (w : World) (v : Value) (rows : List (List Int)) : Prop :=
  ∃ vs : List Value, Rd B w v vs ∧ vs.length = rows.length ∧ ∀ i (h : i < rows.length), ∃ u, vs[i]? = some u ∧ Rd B w u (ints rows[i])
theorem RdRows.below {B B' : Nat} {w w' : World} {v : Value} {rows : List (List Int)} (h : RdRows B w v rows) (hb : Below B' w w') (hB : B ≤ B') : RdRows B w' v rows := by
  obtain ⟨vs, h1, h2, h3⟩ := h
  exact ⟨vs, h1.below hb hB, h2, fun i hi => let ⟨u, e, hu⟩ := h3 i hi; ⟨u, e, hu.below hb hB⟩⟩

/-- Does a valid ring hold these elements. -/
noncomputable def holdsB (k p n : Int) (rows : List (List Int)) : Bool := ringB k p n && rows.all fun xs => elemB k p n xs
open Classical in
theorem elemB_true {k p n : Int} {xs : List Int} : elemB k p n xs = true ↔ ElemV k p n xs := decide_eq_true_iff
theorem elemB_of_len {k p n : Int} {xs : List Int} (h : (xs.length : Int) ≠ widthI k n) : elemB k p n xs = false := by
  cases hb : elemB k p n xs with
  | false => rfl
  | true => exact absurd (elemB_true.1 hb).1 h
theorem elemB_of_at {k p n : Int} {xs : List Int} {i : Nat} {x : Int} (hx : xs[i]? = some x) (h : x < 0 ∨ topI k p n < x) : elemB k p n xs = false := by
  cases hb : elemB k p n xs with
  | false => rfl
  | true =>
    have := (elemB_true.1 hb).2 x (List.mem_of_getElem? hx)
    omega
theorem within_step {t : Int} {xs : List Int} {i : Nat} {x : Int} (hx : xs[i]? = some x) (h : Within t (xs.take i)) (h1 : 0 ≤ x) (h2 : x ≤ t) : Within t (xs.take (i + 1)) := by
  intro y hy
  rw [List.take_add_one, hx] at hy
  rcases List.mem_append.1 hy with hy | hy
  · exact h y hy
  · simp at hy; subst hy; exact ⟨h1, h2⟩
theorem inB_true {a lo hi : Int} : inB a lo hi = true ↔ lo ≤ a ∧ a ≤ hi := by simp [inB]

set_option maxHeartbeats 800000 in
theorem elem_spec_full (a : Option Addr) (cap m B : Nat) (k p n : Int) (xs : List Int) (w : World) (hr : ringB k p n = true) (hn : m ≤ 281474976710656) (hx : xs.length = m) (hB : B ≤ w.heap.size)
    (ha : 0 < m → ∃ b off, a = some ⟨b, off, none⟩ ∧ b < B ∧ ∀ i (h : i < xs.length), w.cell? ⟨b, off + i, none⟩ = some (.int .i64 xs[i])) :
    Calls Try.prog 32 #[ringV k p n, .slice a m cap] w fun e w' => e = .returned (.bool (elemB k p n xs)) ∧ Below w.heap.size w w' := by
  have HA := Lib.hid ha
  have L1 := Lib.hid hx
  have HR := Lib.hid hr
  obtain ⟨t, ht⟩ : ∃ t, t = topI k p n := ⟨_, rfl⟩
  obtain ⟨wd, hwd⟩ : ∃ t, t = widthI k n := ⟨_, rfl⟩
  obtain ⟨r, hres⟩ : ∃ r, r = elemB k p n xs := ⟨_, rfl⟩
  rw [← hres]
  have HT := Lib.hid ht
  have HW := Lib.hid hwd
  have HE := Lib.hid hres
  clear ha hx hr ht hwd hres
  go_enter Try.func32, Try.ntmps32
  go_wp2
  go_loopw [9] (fun i wr => ∃ j : Nat, j ≤ m ∧ i = .int .i64 j ∧ Hid (Within t (xs.take j)) ∧ Hid (Inv w wr w.heap.size k p n)) (fun i _ => m - (intOf i).toNat)
  case atStart => exact ⟨0, by omega, rfl, fun x hx => by simp at hx, Inv.box w k p n _⟩
  case round =>
    obtain ⟨j, hj, rfl, HI, HV⟩ := hrel
    obtain ⟨c0, c1, c2⟩ := HV.out.cells
    by_cases hlt : j < m
    · obtain ⟨b, off, rfl, hbw, hcell⟩ := HA.out (by omega)
      obtain ⟨x, d1, X1⟩ := ints_cell L1.out hcell hlt
      have d2 : wr.cell? ⟨b, off + j, none⟩ = some (.int .i64 x) := (HV.out.1.cell (p := ⟨b, off + j, none⟩) (by simpa using Nat.lt_of_lt_of_le hbw hB)).trans d1
      clear hcell d1
      obtain ⟨bb, hbb⟩ : ∃ bb, bb = inB x 0 t := ⟨_, rfl⟩
      have HBB := Lib.hid hbb
      clear hbb
      cases bb with
      | true =>
        go_wp2_with fail
        refine (Inv.call HV (top_spec k p n _ HR.out)).mono ?_
        rw [← HT.out]
        clear c0 c1 c2
        rintro e w1 ⟨rfl, HV1, c0, c1, c2⟩
        go_wp2_with fail
        refine (l01_in x 0 t _).mono ?_
        rw [← HBB.out]
        rintro e w2 ⟨rfl, rfl⟩
        go_wp2
        go_roundw
        case rel => exact ⟨j + 1, by omega, by go_num, within_step X1.out HI.out (inB_true.1 HBB.out.symm).1 (inB_true.1 HBB.out.symm).2, HV1⟩
        case measure => simp [intOf]; omega
      | false =>
        have HF := Lib.hid (show elemB k p n xs = false from elemB_of_at X1.out (by
          have h := HBB.out
          have : ¬ (0 ≤ x ∧ x ≤ t) := fun h2 => by rw [inB_true.2 h2] at h; cases h
          rw [← HT.out]; omega))
        go_wp2_with fail
        refine (Inv.call HV (top_spec k p n _ HR.out)).mono ?_
        rw [← HT.out]
        clear c0 c1 c2
        rintro e w1 ⟨rfl, HV1, c0, c1, c2⟩
        go_wp2_with fail
        refine (l01_in x 0 t _).mono ?_
        rw [← HBB.out]
        rintro e w2 ⟨rfl, rfl⟩
        go_wp2
        go_ret
        exact ⟨by rw [HE.out, HF.out]; rfl, HV1.out.1⟩
    · obtain rfl : j = m := by omega
      have HQ : Hid (((j : Int) == wd) = r) := by
        show ((j : Int) == wd) = r
        rw [HE.out, HW.out]
        by_cases hq : (j : Int) = widthI k n
        · rw [elemB_true.2 ⟨by rw [L1.out]; exact hq, fun x hx => by
            have := HI.out x (by rw [List.take_of_length_le (by rw [L1.out]; omega)]; exact hx)
            rw [← HT.out]; exact this⟩]
          simpa using hq
        · rw [elemB_of_len (by rw [L1.out]; exact hq)]
          simpa using hq
      go_wp2_with fail
      refine (Inv.call HV (width_spec k p n _)).mono ?_
      rw [← HW.out]
      clear c0 c1 c2
      rintro e w1 ⟨rfl, HV1, c0, c1, c2⟩
      go_wp2
      go_ret
      exact ⟨by rw [← HQ.out]; rfl, HV1.out.1⟩
/-- spec.l02Elem. -/
theorem elem_spec {B : Nat} {v : Value} {k p n : Int} {xs : List Int} {w : World} (hr : ringB k p n = true) (h : Rd B w v (ints xs)) (hB : B ≤ w.heap.size) (hn : xs.length ≤ 281474976710656) :
    Calls Try.prog 32 #[ringV k p n, v] w fun e w' => e = .returned (.bool (elemB k p n xs)) ∧ Below w.heap.size w w' := by
  obtain ⟨a, cap, rfl, ha⟩ := ints_form h
  exact elem_spec_full a cap _ B k p n xs w hr hn rfl hB ha
end Go.Proofs.Ytjoddheakjndfaa
