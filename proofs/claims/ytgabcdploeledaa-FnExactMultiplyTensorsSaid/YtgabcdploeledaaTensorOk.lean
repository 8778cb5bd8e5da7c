
/- Tensors as plain mathematics: axes, sizes, indices, offsets, elements. -/
import Derived.Test.YtgabcdploeledaaRing
import Derived.Test.YtgabcdploeledaaRingFns
import Derived.Test.YtgabcdploeledaaLawKit
import Derived.Laws.OwnMore
import Derived.Test.YtgabcdploeledaaElem
import Derived.IntWalk
import Derived.Deep.RegionWith
import Derived.Deep.RegionHeld3
namespace Go.Proofs.Ytgabcdploeledaa
set_option maxRecDepth 20000
open Go

/-- The place of a number in a list, or -1. -/
def findI (l : List Int) (n : Int) : Int := if n ∈ l then (l.idxOf n : Int) else -1
theorem findI_neg {l : List Int} {n : Int} : findI l n < 0 ↔ n ∉ l := by
  unfold findI
  split <;> rename_i h
  · simp [h]
  · simp [h]
theorem findI_at {l : List Int} {n : Int} : ∀ {j : Nat}, l[j]? = some n → n ∉ l.take j → findI l n = j := by
  intro j hj hno
  have hm : n ∈ l := List.mem_of_getElem? hj
  unfold findI
  rw [if_pos hm]
  congr 1
  induction l generalizing j with
  | nil => simp at hj
  | cons x r ih =>
    cases j with
    | zero => simp at hj; subst hj; simp
    | succ j =>
      simp only [List.take_succ_cons, List.mem_cons, not_or] at hno
      rw [List.getElem?_cons_succ] at hj
      have hx : (x == n) = false := by rw [beq_eq_false_iff_ne]; exact fun e => hno.1 e.symm
      rw [List.idxOf_cons, hx, cond_false, ih hj hno.2 (List.mem_of_getElem? hj)]
/-- Labels and dimensions are as the axes of a tensor. -/
def AxesV (L D : List Int) : Prop := L.length ≤ 12 ∧ L.length = D.length ∧ (∀ x ∈ L, 0 ≤ x ∧ x ≤ 99) ∧ (∀ d ∈ D, 1 ≤ d ∧ d ≤ 8) ∧ L.Nodup
open Classical in
noncomputable def axesB (L D : List Int) : Bool := decide (AxesV L D)
open Classical in
theorem axesB_true {L D : List Int} : axesB L D = true ↔ AxesV L D := decide_eq_true_iff
theorem axesB_false {L D : List Int} (h : ¬ AxesV L D) : axesB L D = false := by
  cases hb : axesB L D with
  | false => rfl
  | true => exact absurd (axesB_true.1 hb) h
/-- The product of dimensions. -/
def prodL (D : List Int) : Int := D.foldl (fun n d => n * d) 1
theorem prodL_snoc (D : List Int) (d : Int) : prodL (D ++ [d]) = prodL D * d := by simp [prodL, List.foldl_append]
theorem foldl_mul (D : List Int) : ∀ a : Int, D.foldl (fun n d => n * d) a = a * prodL D := by
  induction D with
  | nil => intro a; simp [prodL]
  | cons d r ih =>
    intro a
    have e : prodL (d :: r) = d * prodL r := by
      show r.foldl (fun n d => n * d) (1 * d) = _
      rw [ih, Int.one_mul]
    rw [e]
    show r.foldl (fun n d => n * d) (a * d) = _
    rw [ih, Int.mul_assoc]
theorem prodL_cons (d : Int) (r : List Int) : prodL (d :: r) = d * prodL r := by
  show r.foldl (fun n d => n * d) (1 * d) = _
  rw [foldl_mul, Int.one_mul]
theorem prodL_nil : prodL [] = 1 := rfl
theorem prodL_app (A B : List Int) : prodL (A ++ B) = prodL A * prodL B := by
  show (A ++ B).foldl (fun n d => n * d) 1 = _
  rw [List.foldl_append, foldl_mul]
  rfl
theorem prodL_pos {D : List Int} (h : ∀ d ∈ D, 1 ≤ d) : 1 ≤ prodL D := by
  induction D with
  | nil => rw [prodL_nil]; omega
  | cons d r ih =>
    rw [prodL_cons]
    have h1 := h d (by simp)
    have h2 := ih (fun x hx => h x (by simp [hx]))
    exact Int.le_trans (by omega) (Int.mul_le_mul h1 h2 (by omega) (by omega))
theorem prodL_le_app {A B : List Int} (h : ∀ d ∈ A ++ B, 1 ≤ d) : prodL A ≤ prodL (A ++ B) := by
  rw [prodL_app]
  have h1 := prodL_pos (D := A) (fun d hd => h d (by simp [hd]))
  have h2 := prodL_pos (D := B) (fun d hd => h d (by simp [hd]))
  have := Int.mul_le_mul_of_nonneg_left h2 (by omega : 0 ≤ prodL A)
  omega
theorem prodL_take_le {D : List Int} (h : ∀ d ∈ D, 1 ≤ d) (j : Nat) : prodL (D.take j) ≤ prodL D := by
  have e := List.take_append_drop j D
  have h1 := prodL_le_app (A := D.take j) (B := D.drop j) (by rw [e]; exact h)
  rw [e] at h1
  exact h1
theorem prodL_drop_le {D : List Int} (h : ∀ d ∈ D, 1 ≤ d) (j : Nat) : prodL (D.drop j) ≤ prodL D := by
  have e := List.take_append_drop j D
  have h1 := prodL_pos (D := D.take j) (fun d hd => h d (List.mem_of_mem_take hd))
  have h2 := prodL_pos (D := D.drop j) (fun d hd => h d (List.mem_of_mem_drop hd))
  have h3 : prodL D = prodL (D.take j) * prodL (D.drop j) := by rw [← prodL_app, e]
  rw [h3]
  have := Int.mul_le_mul_of_nonneg_right h1 (by omega : 0 ≤ prodL (D.drop j))
  omega
/-- The product, capped at 4097. -/
def capI (D : List Int) : Int := D.foldl (fun n d => min (n * d) 4097) 1
theorem capI_snoc (D : List Int) (d : Int) : capI (D ++ [d]) = min (capI D * d) 4097 := by simp [capI, List.foldl_append]
theorem cap_fold {D : List Int} (h : ∀ d ∈ D, 1 ≤ d) : ∀ a : Int, 1 ≤ a → a ≤ 4097 → D.foldl (fun n d => min (n * d) 4097) a = min (a * prodL D) 4097 := by
  induction D with
  | nil => intro a h1 h2; rw [prodL_nil, Int.mul_one]; show a = _; omega
  | cons d r ih =>
    intro a h1 h2
    have hd := h d (by simp)
    have hp := prodL_pos (D := r) (fun x hx => h x (by simp [hx]))
    have e1 : a ≤ a * d := by
      have := Int.mul_le_mul_of_nonneg_left hd (by omega : 0 ≤ a)
      omega
    show r.foldl (fun n d => min (n * d) 4097) (min (a * d) 4097) = _
    rw [ih (fun x hx => h x (by simp [hx])) _ (by omega) (by omega), prodL_cons, ← Int.mul_assoc]
    by_cases hc : a * d ≤ 4097
    · rw [show min (a * d) 4097 = a * d by omega]
    · rw [show min (a * d) 4097 = 4097 by omega]
      have e2 : 4097 ≤ 4097 * prodL r := by
        have := Int.mul_le_mul_of_nonneg_left hp (by omega : (0 : Int) ≤ 4097)
        omega
      have e3 : a * d ≤ a * d * prodL r := by
        have := Int.mul_le_mul_of_nonneg_left hp (by omega : 0 ≤ a * d)
        omega
      omega
theorem capI_is {D : List Int} (h : ∀ d ∈ D, 1 ≤ d) : capI D = min (prodL D) 4097 ∧ 1 ≤ capI D ∧ capI D ≤ 4097 := by
  have e : capI D = min (1 * prodL D) 4097 := cap_fold h 1 (by omega) (by omega)
  have hp := prodL_pos h
  rw [Int.one_mul] at e
  omega
/-- TensorSize. -/
noncomputable def sizeI (L D : List Int) : Int := if axesB L D = true ∧ prodL D ≤ 4096 then prodL D else -1
theorem sizeI_cases (L D : List Int) : (sizeI L D = -1 ∧ ¬ (axesB L D = true ∧ prodL D ≤ 4096)) ∨ (sizeI L D = prodL D ∧ AxesV L D ∧ 1 ≤ prodL D ∧ prodL D ≤ 4096) := by
  unfold sizeI
  split <;> rename_i h
  · exact .inr ⟨rfl, axesB_true.1 h.1, prodL_pos (fun d hd => ((axesB_true.1 h.1).2.2.2.1 d hd).1), h.2⟩
  · exact .inl ⟨rfl, h⟩
/-- Is this a tensor over the ring. -/
noncomputable def tensorB (k p n : Int) (L D X : List Int) : Bool :=
  ringB k p n && decide (0 ≤ sizeI L D) && decide ((X.length : Int) = sizeI L D * widthI k n) && X.all fun x => decide (0 ≤ x) && decide (x ≤ topI k p n)
/-- Is this an index for these dimensions. -/
def InIx (D ix : List Int) : Prop := ix.length = D.length ∧ ∀ i, i < D.length → 0 ≤ ix.getD i 0 ∧ ix.getD i 0 < D.getD i 0
/-- How many indices are before an index. -/
def offI (D ix : List Int) : Int := (List.range D.length).foldl (fun n i => n * D.getD i 0 + ix.getD i 0) 0
/-- The index with n before it. -/
def idxL (D : List Int) (n : Int) : List Int := (List.range D.length).map fun i => (n / prodL (D.drop (i + 1))) % D.getD i 0
/-- The element at an offset; another element there. -/
def getL (w : Nat) (X : List Int) (n : Nat) : List Int := (X.drop (n * w)).take w
def putL (X : List Int) (m : Nat) (x : List Int) : List Int := X.take m ++ x ++ X.drop (m + x.length)
end Go.Proofs.Ytgabcdploeledaa
namespace Go.Proofs.Ytgabcdploeledaa
set_option maxRecDepth 20000
open Go.RowKit

/-- The cells that a world holds: block, place, value. -/
def CellsAt (w : World) : List (Nat × Nat × Value) → Prop
  | [] => True
  | (b, o, v) :: r => w.cell? ⟨b, o, none⟩ = some v ∧ CellsAt w r
theorem CellsAt.below {B : Nat} {w w' : World} {S : List (Nat × Nat × Value)} (h : CellsAt w S) (hb : Below B w w') (hl : ∀ x ∈ S, x.1 < B) : CellsAt w' S := by
  induction S with
  | nil => trivial
  | cons x r ih => exact ⟨(hb.cell (p := ⟨x.1, x.2.1, none⟩) (hl x (by simp))).trans h.1, ih h.2 (fun y hy => hl y (by simp [hy]))⟩
theorem CellsAt.grown {w w' : World} {row : Option Nat} {S : List (Nat × Nat × Value)} (h : CellsAt w S) (hg : w.grownBy w' row) (hl : ∀ x ∈ S, x.1 < w.heap.size) (hne : ∀ x ∈ S, some x.1 ≠ row) : CellsAt w' S := by
  induction S with
  | nil => trivial
  | cons x r ih => exact ⟨(World.cell?_of_block (w := w) (hg.block x.1 (hl x (by simp)) (hne x (by simp)))).trans h.1, ih h.2 (fun y hy => hl y (by simp [hy])) (fun y hy => hne y (by simp [hy]))⟩
theorem CellsAt.append {w : World} {S S' : List (Nat × Nat × Value)} (h : CellsAt w S) (h' : CellsAt w S') : CellsAt w (S ++ S') := by
  induction S with
  | nil => exact h'
  | cons x r ih => exact ⟨h.1, ih h.2⟩
/-- A world behind w0 that holds these cells. -/
def Held (w0 w : World) (S : List (Nat × Nat × Value)) : Prop := Below w0.heap.size w0 w ∧ CellsAt w S ∧ ∀ x ∈ S, x.1 < w.heap.size
theorem Held.step {w0 w w' : World} {S : List (Nat × Nat × Value)} (h : Held w0 w S) (hb : Below w.heap.size w w') : Held w0 w' S :=
  ⟨h.1.trans (hb.mono h.1.size), h.2.1.below hb h.2.2, fun x hx => Nat.lt_of_lt_of_le (h.2.2 x hx) hb.size⟩
theorem Held.refl (w : World) : Held w w [] := ⟨Below.refl _ _, trivial, fun x hx => by simp at hx⟩
theorem CellsAt.drewN {w : World} {S : List (Nat × Nat × Value)} (h : CellsAt w S) (q : Nat) : CellsAt (w.drewN q) S := by
  induction S with
  | nil => trivial
  | cons x r ih => exact ⟨h.1, ih h.2⟩
theorem Held.drewN {w0 w : World} {S : List (Nat × Nat × Value)} (h : Held w0 w S) (q : Nat) : Held w0 (w.drewN q) S := ⟨below_drewN h.1 q, h.2.1.drewN q, h.2.2⟩
theorem Held.drew {w0 w : World} {S : List (Nat × Nat × Value)} (h : Held w0 w S) : Held w0 w.drew S := h.drewN 1
theorem Held.cells {w0 w : World} {S : List (Nat × Nat × Value)} (h : Held w0 w S) : CellsAt w S := h.2.1
/-- A new block of three cells. -/
theorem Held.box3 {w0 w : World} {S : List (Nat × Nat × Value)} (h : Held w0 w S) (x y z : Value) (T : TypeId) : Held w0 (w.alloc (.cells #[x, y, z] T)) ((w.heap.size, 0, x) :: (w.heap.size, 1, y) :: (w.heap.size, 2, z) :: S) := by
  have hs := h.step ((Below.refl _ _).alloc (Nat.le_refl _) (.cells #[x, y, z] T))
  refine ⟨hs.1, ⟨by simp [World.cell?_alloc_at], by simp [World.cell?_alloc_at], by simp [World.cell?_alloc_at], hs.2.1⟩, fun q hq => ?_⟩
  simp only [List.mem_cons] at hq
  rcases hq with rfl | rfl | rfl | hq
  · simp
  · simp
  · simp
  · exact hs.2.2 q hq
theorem Held.tail {w0 w : World} {x : Nat × Nat × Value} {S : List (Nat × Nat × Value)} (h : Held w0 w (x :: S)) : Held w0 w S := ⟨h.1, h.2.1.2, fun y hy => h.2.2 y (by simp [hy])⟩
/-- A contract that keeps what was, with the cells carried across. -/
theorem Held.call {P : Program} {f : FuncId} {args : Array Value} {w0 w : World} {S : List (Nat × Nat × Value)} {R : Ending → Prop} (h : Hid (Held w0 w S)) (hc : Calls P f args w fun e w' => R e ∧ Below w.heap.size w w') :
    Calls P f args w fun e w' => R e ∧ Hid (Held w0 w' S) ∧ CellsAt w' S :=
  hc.mono fun _ _ ⟨he, hb⟩ => ⟨he, h.out.step hb, (h.out.step hb).2.1⟩
/-- .. that leaves the world as it was. -/
theorem Held.quiet {P : Program} {f : FuncId} {args : Array Value} {w : World} {R : Ending → Prop} (hc : Calls P f args w fun e w' => R e ∧ w = w') :
    Calls P f args w fun e w' => R e ∧ Below w.heap.size w w' := hc.mono fun _ _ ⟨he, hb⟩ => ⟨he, hb ▸ Below.refl _ _⟩

/-- The value of a tensor: labels, dimensions, data. -/
abbrev tenV (l d x : Value) : Value := .agg #[l, d, x]
theorem Rd.take {B : Nat} {w : World} {a : Option Addr} {m cap : Nat} {xs : List Int} (h : Rd B w (.slice a m cap) (ints xs)) (j : Nat) (hj : j ≤ xs.length) : Rd B w (.slice a j cap) (ints (xs.take j)) := by
  by_cases h0 : j = 0
  · subst h0; exact .inl ⟨rfl, _, _, rfl⟩
  · rcases h.ints_cases with ⟨rfl, -⟩ | ⟨b, off, ca, e, hb, hc, hcell⟩
    · simp at hj; omega
    · cases e
      refine .inr ⟨b, off, cap, by rw [ints_len, List.length_take, Nat.min_eq_left hj], hb, by rw [ints_len, List.length_take]; omega, fun i u hi => ?_⟩
      have hi' : i < j := by
        have := (List.getElem?_eq_some_iff.1 hi).1
        rw [ints_len, List.length_take] at this; omega
      rw [hcell i (by omega), ← hi]
      simp [ints, hi', List.getElem?_eq_getElem (show i < xs.length by omega)]

set_option maxHeartbeats 400000 in
theorem find_spec_full (a : Option Addr) (cap m : Nat) (n : Int) (xs : List Int) (w : World) (hx : xs.length = m) (hn : m ≤ 281474976710656)
    (ha : 0 < m → ∃ b off, a = some ⟨b, off, none⟩ ∧ ∀ i (h : i < xs.length), w.cell? ⟨b, off + i, none⟩ = some (.int .i64 xs[i])) :
    Calls Try.prog 70 #[.slice a m cap, .int .i64 n] w fun e w' => e = .returned (.int .i64 (findI xs n)) ∧ w = w' := by
  have HA := Lib.hid ha
  have L1 := Lib.hid hx
  clear ha hx
  go_enter Try.func70, Try.ntmps70
  go_wp2
  go_loop [9] (fun i => ∃ j : Nat, j ≤ m ∧ i = .int .i64 j ∧ Hid (n ∉ xs.take j)) (fun i => m - (intOf i).toNat)
  case atStart => exact ⟨0, by omega, rfl, by show n ∉ xs.take 0; simp⟩
  case round =>
    obtain ⟨j, hj, rfl, HI⟩ := hrel
    by_cases hlt : j < m
    · obtain ⟨b, off, rfl, hcell⟩ := HA.out (by omega)
      obtain ⟨x, d1, X1⟩ := ints_cell L1.out hcell hlt
      clear hcell
      by_cases hxn : x = n
      · subst hxn
        have HF := Lib.hid (findI_at X1.out HI.out)
        go_wp2
        go_ret
        exact ⟨by rw [HF.out]; rfl, rfl⟩
      · have hq : (x == n) = false := by simpa using hxn
        have HNE := Lib.hid hxn
        clear hxn
        go_wp2
        go_round
        case rel => exact ⟨j + 1, by omega, by go_num, by
          show n ∉ xs.take (j + 1)
          rw [List.take_add_one, X1.out]
          simp only [Option.toList_some, List.mem_append, List.mem_singleton, not_or]
          exact ⟨HI.out, fun e => HNE.out e.symm⟩⟩
        case measure => simp [intOf]; omega
    · obtain rfl : j = m := by omega
      have HF : Hid (findI xs n = -1) := by
        have h := HI.out
        rw [List.take_of_length_le (by rw [L1.out]; omega)] at h
        show findI xs n = -1
        unfold findI
        rw [if_neg h]
      go_wp2
      go_ret
      exact ⟨by rw [HF.out]; rfl, rfl⟩
theorem find_spec {B : Nat} {v : Value} {xs : List Int} {w : World} (n : Int) (h : Rd B w v (ints xs)) (hn : xs.length ≤ 281474976710656) :
    Calls Try.prog 70 #[v, .int .i64 n] w fun e w' => e = .returned (.int .i64 (findI xs n)) ∧ w = w' := by
  obtain ⟨a, cap, rfl, ha⟩ := ints_form h
  exact find_spec_full a cap _ n xs w rfl hn (fun h => let ⟨b, off, e, _, hc⟩ := ha h; ⟨b, off, e, hc⟩)

/-- The first j axes are right. -/
def AxesTo (L D : List Int) (j : Nat) : Prop := (∀ x ∈ L.take j, 0 ≤ x ∧ x ≤ 99) ∧ (∀ d ∈ D.take j, 1 ≤ d ∧ d ≤ 8) ∧ (L.take j).Nodup
theorem AxesTo.step {L D : List Int} {j : Nat} {x d : Int} (h : AxesTo L D j) (hx : L[j]? = some x) (hd : D[j]? = some d) (h1 : 0 ≤ x ∧ x ≤ 99) (h2 : 1 ≤ d ∧ d ≤ 8) (h3 : x ∉ L.take j) : AxesTo L D (j + 1) := by
  obtain ⟨a, b, c⟩ := h
  unfold AxesTo
  rw [List.take_add_one, List.take_add_one, hx, hd]
  simp only [Option.toList_some, List.mem_append, List.mem_singleton]
  refine ⟨fun y hy => hy.elim (a y) (fun e => e ▸ h1), fun y hy => hy.elim (b y) (fun e => e ▸ h2), ?_⟩
  rw [List.nodup_append]
  exact ⟨c, by simp, fun y hy z hz e => by simp at hz; subst hz; subst e; exact h3 hy⟩
theorem axes_not {L D : List Int} {j : Nat} {x d : Int} (hx : L[j]? = some x) (hd : D[j]? = some d) (h : ¬ (0 ≤ x ∧ x ≤ 99) ∨ ¬ (1 ≤ d ∧ d ≤ 8) ∨ x ∈ L.take j) : axesB L D = false := by
  apply axesB_false
  rintro ⟨-, -, h1, h2, h3⟩
  rcases h with h | h | h
  · exact h (h1 x (List.mem_of_getElem? hx))
  · exact h (h2 d (List.mem_of_getElem? hd))
  · obtain ⟨i, hi⟩ := List.getElem?_of_mem h
    have hij : i < j := by
      have := (List.getElem?_eq_some_iff.1 hi).1
      rw [List.length_take] at this; omega
    rw [List.getElem?_take_of_lt hij] at hi
    have := (List.getElem?_inj (List.getElem?_eq_some_iff.1 hi).1 h3).1 (hi.trans hx.symm)
    omega

set_option maxHeartbeats 1600000 in
theorem axes_spec_full (a : Option Addr) (cap m : Nat) (a2 : Option Addr) (cap2 m2 B : Nat) (L D : List Int) (w : World) (hL : L.length = m) (hD : D.length = m2) (hm : m ≤ 281474976710656) (hm2 : m2 ≤ 281474976710656)
    (hl : Rd B w (.slice a m cap) (ints L)) (hd : Rd B w (.slice a2 m2 cap2) (ints D)) :
    Calls Try.prog 127 #[.slice a m cap, .slice a2 m2 cap2] w fun e w' => e = .returned (.bool (axesB L D)) ∧ w = w' := by
  have HL := Lib.hid hL
  have HD := Lib.hid hD
  have RL := Lib.hid hl
  have RD := Lib.hid hd
  obtain ⟨r, hr⟩ : ∃ r, r = axesB L D := ⟨_, rfl⟩
  rw [← hr]
  have HR := Lib.hid hr
  clear hL hD hl hd hr
  by_cases h12 : 12 < m
  · have HF : Hid (r = false) := by show r = false; rw [HR.out]; exact axesB_false (fun h => by have := h.1; rw [HL.out] at this; omega)
    have q0 : decide ((12 : Int) < (m : Int)) = true := by simp; omega
    go_enter Try.func127, Try.ntmps127
    go_wp2
    go_ret
    exact ⟨by rw [HF.out]; rfl, rfl⟩
  by_cases hmm : m ≠ m2
  · have HF : Hid (r = false) := by show r = false; rw [HR.out]; exact axesB_false (fun h => by have := h.2.1; rw [HL.out, HD.out] at this; exact hmm this)
    have q0 : decide ((12 : Int) < (m : Int)) = false := by simp; omega
    have q1 : ((m : Int) != (m2 : Int)) = true := by simp; omega
    go_enter Try.func127, Try.ntmps127
    go_wp2
    go_ret
    exact ⟨by rw [HF.out]; rfl, rfl⟩
  obtain rfl : m = m2 := by omega
  have q0 : decide ((12 : Int) < (m : Int)) = false := by simp; omega
  go_enter Try.func127, Try.ntmps127
  go_wp2
  go_loop [19] (fun i => ∃ j : Nat, j ≤ m ∧ i = .int .i64 j ∧ Hid (AxesTo L D j)) (fun i => m - (intOf i).toNat)
  case atStart => exact ⟨0, by omega, rfl, by show AxesTo L D 0; simp [AxesTo]⟩
  case round =>
    obtain ⟨j, hj, rfl, HI⟩ := hrel
    by_cases hlt : j < m
    · obtain ⟨x, X1⟩ : ∃ x, Hid (L[j]? = some x) := ⟨_, List.getElem?_eq_getElem (by rw [HL.out]; exact hlt)⟩
      obtain ⟨d, D1⟩ : ∃ d, Hid (D[j]? = some d) := ⟨_, List.getElem?_eq_getElem (by rw [HD.out]; exact hlt)⟩
      obtain ⟨b, off, rfl, e1⟩ : ∃ b off, a = some ⟨b, off, none⟩ ∧ w.cell? ⟨b, off + j, none⟩ = some (.int .i64 x) := by
        rcases RL.out.ints_cases with ⟨h, -⟩ | ⟨b, off, ca, e, hb, -, hc⟩
        · have := HL.out; rw [h] at this; simp at this; omega
        · cases e
          refine ⟨b, off, rfl, ?_⟩
          rw [hc j (by rw [HL.out]; exact hlt)]
          rw [(List.getElem?_eq_some_iff.1 X1.out).2]
      obtain ⟨b2, off2, rfl, e2⟩ : ∃ b off, a2 = some ⟨b, off, none⟩ ∧ w.cell? ⟨b, off + j, none⟩ = some (.int .i64 d) := by
        rcases RD.out.ints_cases with ⟨h, -⟩ | ⟨b, off, ca, e, hb, -, hc⟩
        · have := HD.out; rw [h] at this; simp at this; omega
        · cases e
          refine ⟨b, off, rfl, ?_⟩
          rw [hc j (by rw [HD.out]; exact hlt)]
          rw [(List.getElem?_eq_some_iff.1 D1.out).2]
      have hcap : j ≤ cap := by
        rcases RL.out.ints_cases with ⟨h, -⟩ | ⟨b, off, ca, e, hb, hcc, hc⟩
        · have := HL.out; rw [h] at this; simp at this; omega
        · cases e; rw [HL.out] at hcc; omega
      have hcin := l01_in x 0 99 w
      cases h1 : inB x 0 99 with
      | false =>
        rw [h1] at hcin
        have HC := Lib.hid hcin
        have HF : Hid (r = false) := by show r = false; rw [HR.out]; exact axes_not X1.out D1.out (.inl (by simpa [inB] using h1))
        clear hcin h1
        go_wp2_with fail
        refine HC.out.mono ?_
        rintro e w1 ⟨rfl, rfl⟩
        go_wp2
        go_ret
        exact ⟨by rw [HF.out]; rfl, rfl⟩
      | true =>
        rw [h1] at hcin
        have HC := Lib.hid hcin
        have H1 : Hid (0 ≤ x ∧ x ≤ 99) := by show _ ∧ _; simpa [inB] using h1
        have hdin := l01_in d 1 8 w
        clear hcin h1
        cases h2 : inB d 1 8 with
        | false =>
          rw [h2] at hdin
          have HE := Lib.hid hdin
          have HF : Hid (r = false) := by show r = false; rw [HR.out]; exact axes_not X1.out D1.out (.inr (.inl (by simpa [inB] using h2)))
          clear hdin h2
          go_wp2_with fail
          refine HC.out.mono ?_
          rintro e w1 ⟨rfl, rfl⟩
          go_wp2_with fail
          refine HE.out.mono ?_
          rintro e w1 ⟨rfl, rfl⟩
          go_wp2
          go_ret
          exact ⟨by rw [HF.out]; rfl, rfl⟩
        | true =>
          rw [h2] at hdin
          have HE := Lib.hid hdin
          have H2 : Hid (1 ≤ d ∧ d ≤ 8) := by show _ ∧ _; simpa [inB] using h2
          have hfind := find_spec x (RL.out.take j (by rw [HL.out]; omega)) (by rw [List.length_take, HL.out]; omega)
          clear hdin h2
          by_cases h3 : x ∈ L.take j
          · obtain ⟨z, hz, hz0⟩ : ∃ z, findI (L.take j) x = z ∧ 0 ≤ z := ⟨_, rfl, Int.not_lt.1 (fun h => findI_neg.1 h h3)⟩
            rw [hz] at hfind
            have HG := Lib.hid hfind
            have HF : Hid (r = false) := by show r = false; rw [HR.out]; exact axes_not X1.out D1.out (.inr (.inr h3))
            have q1 : decide ((0 : Int) ≤ z) = true := by simpa using hz0
            clear hfind hz h3
            go_wp2_with fail
            refine HC.out.mono ?_
            rintro e w1 ⟨rfl, rfl⟩
            go_wp2_with fail
            refine HE.out.mono ?_
            rintro e w1 ⟨rfl, rfl⟩
            go_wp2_with fail
            refine HG.out.mono ?_
            rintro e w1 ⟨rfl, rfl⟩
            go_wp2
            go_ret
            exact ⟨by rw [HF.out]; rfl, rfl⟩
          · obtain ⟨z, hz, hz0⟩ : ∃ z, findI (L.take j) x = z ∧ z < 0 := ⟨_, rfl, findI_neg.2 h3⟩
            rw [hz] at hfind
            have HG := Lib.hid hfind
            have HS := Lib.hid (HI.out.step X1.out D1.out H1.out H2.out h3)
            have q1 : decide ((0 : Int) ≤ z) = false := by simpa using hz0
            clear hfind hz h3
            go_wp2_with fail
            refine HC.out.mono ?_
            rintro e w1 ⟨rfl, rfl⟩
            go_wp2_with fail
            refine HE.out.mono ?_
            rintro e w1 ⟨rfl, rfl⟩
            go_wp2_with fail
            refine HG.out.mono ?_
            rintro e w1 ⟨rfl, rfl⟩
            go_wp2
            go_round
            case rel => exact ⟨j + 1, by omega, by go_num, HS⟩
            case measure => simp [intOf]; omega
    · obtain rfl : j = m := by omega
      have HF : Hid (r = true) := by
        show r = true
        rw [HR.out, axesB_true]
        obtain ⟨h1, h2, h3⟩ := HI.out
        rw [List.take_of_length_le (by rw [HL.out]; omega)] at h1 h3
        rw [List.take_of_length_le (by rw [HD.out]; omega)] at h2
        exact ⟨by rw [HL.out]; omega, by rw [HL.out, HD.out], h1, h2, h3⟩
      go_wp2
      go_ret
      exact ⟨by rw [HF.out]; rfl, rfl⟩
theorem axes_spec {B : Nat} {v u : Value} {L D : List Int} {w : World} (hl : Rd B w v (ints L)) (hd : Rd B w u (ints D)) (h1 : L.length ≤ 281474976710656) (h2 : D.length ≤ 281474976710656) :
    Calls Try.prog 127 #[v, u] w fun e w' => e = .returned (.bool (axesB L D)) ∧ w = w' := by
  obtain ⟨a, cap, rfl, -⟩ := ints_form hl
  obtain ⟨a2, cap2, rfl, -⟩ := ints_form hd
  exact axes_spec_full a cap _ a2 cap2 _ B L D w rfl rfl h1 h2 hl hd
end Go.Proofs.Ytgabcdploeledaa
namespace Go.Proofs.Ytgabcdploeledaa
set_option maxRecDepth 20000
open Go.RowKit

theorem mul_inT {c d : Int} (h1 : 0 ≤ c) (h2 : c ≤ 1000000) (h3 : 0 ≤ d) (h4 : d ≤ 1000000) : 0 ≤ c * d ∧ c * d ≤ 1000000000000 := by
  refine ⟨Int.mul_nonneg h1 h3, ?_⟩
  have := Int.mul_le_mul h2 h4 h3 (by omega)
  omega
set_option maxHeartbeats 800000 in
theorem product_spec_full (a : Option Addr) (cap m B : Nat) (D : List Int) (w : World) (hx : D.length = m) (hn : m ≤ 281474976710656) (hD : ∀ d ∈ D, 1 ≤ d ∧ d ≤ 8) (hr : Rd B w (.slice a m cap) (ints D)) :
    Calls Try.prog 71 #[.slice a m cap, .int .i64 4096] w fun e w' => e = .returned (.int .i64 (capI D)) ∧ w = w' := by
  have L1 := Lib.hid hx
  have HR := Lib.hid hr
  have HD := Lib.hid hD
  clear hx hr hD
  go_enter Try.func71, Try.ntmps71
  go_wp2
  go_loop [5, 10] (fun p i => ∃ (j : Nat) (c : Int), j ≤ m ∧ i = .int .i64 j ∧ p = .int .i64 c ∧ 1 ≤ c ∧ c ≤ 4097 ∧ Hid (capI (D.take j) = c)) (fun _ i => m - (intOf i).toNat)
  case atStart => exact ⟨0, 1, by omega, rfl, rfl, by omega, by omega, rfl⟩
  case round =>
    obtain ⟨j, c, hj, rfl, rfl, hc1, hc2, HC⟩ := hrel
    by_cases hlt : j < m
    · obtain ⟨d, D1⟩ : ∃ d, Hid (D[j]? = some d) := ⟨_, List.getElem?_eq_getElem (by rw [L1.out]; exact hlt)⟩
      obtain ⟨b, off, rfl, e1⟩ : ∃ b off, a = some ⟨b, off, none⟩ ∧ w.cell? ⟨b, off + j, none⟩ = some (.int .i64 d) := by
        rcases HR.out.ints_cases with ⟨h, -⟩ | ⟨b, off, ca, e, hb, -, hc⟩
        · have := L1.out; rw [h] at this; simp at this; omega
        · cases e
          refine ⟨b, off, rfl, ?_⟩
          rw [hc j (by rw [L1.out]; exact hlt)]
          rw [(List.getElem?_eq_some_iff.1 D1.out).2]
      have hd := HD.out d (List.mem_of_getElem? D1.out)
      have hd1 := hd.1
      have hd2 := hd.2
      have hm := mul_inT (c := c) (d := d) (by omega) (by omega) (by omega) (by omega)
      have hlow : 1 ≤ c * d := by
        have := Int.mul_le_mul hc1 hd1 (by omega) (by omega)
        omega
      have hw : IntKind.i64.wrap (c * d) = c * d := IntWalk.i64_in _ (by omega)
      have hstep : capI (D.take (j + 1)) = min (c * d) 4097 := by rw [List.take_add_one, D1.out, Option.toList_some, capI_snoc, HC.out]
      by_cases hgt : 4097 < c * d
      · have HS : Hid (capI (D.take (j + 1)) = 4097) := by show _ = _; rw [hstep]; omega
        have q1 : decide ((4097 : Int) < c * d) = true := by simpa using hgt
        clear hstep hd
        go_wp2
        go_round
        case rel => exact ⟨j + 1, 4097, by omega, by go_num, rfl, by omega, by omega, HS⟩
        case measure => simp [intOf]; omega
      · have HS : Hid (capI (D.take (j + 1)) = c * d) := by show _ = _; rw [hstep]; omega
        have q1 : decide ((4097 : Int) < c * d) = false := by simpa using hgt
        clear hstep hd
        go_wp2
        go_round
        case rel => exact ⟨j + 1, c * d, by omega, by go_num, rfl, by omega, by omega, HS⟩
        case measure => simp [intOf]; omega
    · obtain rfl : j = m := by omega
      have HF : Hid (capI D = c) := by
        have h := HC.out
        rw [List.take_of_length_le (by rw [L1.out]; omega)] at h
        exact h
      go_wp2
      go_ret
      exact ⟨by rw [HF.out]; rfl, rfl⟩
theorem product_spec {B : Nat} {v : Value} {D : List Int} {w : World} (h : Rd B w v (ints D)) (hn : D.length ≤ 281474976710656) (hD : ∀ d ∈ D, 1 ≤ d ∧ d ≤ 8) :
    Calls Try.prog 71 #[v, .int .i64 4096] w fun e w' => e = .returned (.int .i64 (capI D)) ∧ w = w' := by
  obtain ⟨a, cap, rfl, -⟩ := ints_form h
  exact product_spec_full a cap _ B D w rfl hn hD h

/-- The three lists of a tensor that is only read. -/
structure RdT (B : Nat) (w : World) (lv dv xv : Value) (L D X : List Int) : Prop where
  l : Rd B w lv (ints L)
  d : Rd B w dv (ints D)
  x : Rd B w xv (ints X)
theorem RdT.below {B B' : Nat} {w w' : World} {lv dv xv : Value} {L D X : List Int} (h : RdT B w lv dv xv L D X) (hb : Below B' w w') (hB : B ≤ B') : RdT B w' lv dv xv L D X := ⟨h.l.below hb hB, h.d.below hb hB, h.x.below hb hB⟩
/-- So long lists are no matter of concern. -/
structure LenT (L D X : List Int) : Prop where
  l : L.length ≤ 281474976710656
  d : D.length ≤ 281474976710656
  x : X.length ≤ 281474976710656

set_option maxHeartbeats 800000 in
theorem size_spec {B : Nat} {lv dv xv : Value} {L D X : List Int} {w : World} (h : RdT B w lv dv xv L D X) (hB : B ≤ w.heap.size) (hn : LenT L D X) :
    Calls Try.prog 78 #[tenV lv dv xv] w fun e w' => e = .returned (.int .i64 (sizeI L D)) ∧ Below w.heap.size w w' := by
  have H0 := Lib.hid ((Held.refl w).box3 lv dv xv 28)
  have HT := Lib.hid (h.below H0.out.1 hB)
  have HN := Lib.hid hn
  obtain ⟨al, cl, rfl, -⟩ := ints_form h.l
  obtain ⟨ad, cd, rfl, -⟩ := ints_form h.d
  obtain ⟨ax, cx, rfl, -⟩ := ints_form h.x
  obtain ⟨ml, hml⟩ : ∃ m, m = L.length := ⟨_, rfl⟩
  obtain ⟨md, hmd⟩ : ∃ m, m = D.length := ⟨_, rfl⟩
  obtain ⟨mx, hmx⟩ : ∃ m, m = X.length := ⟨_, rfl⟩
  rw [← hml, ← hmd, ← hmx] at H0 HT ⊢
  have HAX := Lib.hid (axes_spec HT.out.l HT.out.d HN.out.l HN.out.d)
  clear h hB hn hml hmd hmx
  cases hax : axesB L D with
  | false =>
    have HF : Hid (sizeI L D = -1) := by show _ = _; unfold sizeI; rw [if_neg (by simp [hax])]
    rw [hax] at HAX
    clear hax
    go_enter Try.func78, Try.ntmps78
    go_wp2_with fail
    refine HAX.out.mono ?_
    rintro e w1 ⟨rfl, rfl⟩
    go_wp2
    go_ret
    exact ⟨by rw [HF.out]; rfl, H0.out.1⟩
  | true =>
    have hv := axesB_true.1 hax
    have HV := Lib.hid hv.2.2.2.1
    have hcap := capI_is (fun d hd => (hv.2.2.2.1 d hd).1)
    obtain ⟨c, hc⟩ : ∃ c, c = capI D := ⟨_, rfl⟩
    have hpr := product_spec HT.out.d HN.out.d HV.out
    rw [← hc] at hcap hpr
    have HP := Lib.hid hpr
    rw [hax] at HAX
    clear hpr hc
    by_cases hgt : 4096 < c
    · have HF : Hid (sizeI L D = -1) := by show _ = _; unfold sizeI; rw [if_neg (by omega)]
      have q1 : decide ((4096 : Int) < c) = true := by simpa using hgt
      clear hax hv hcap hgt
      go_enter Try.func78, Try.ntmps78
      go_wp2_with fail
      refine HAX.out.mono ?_
      rintro e w1 ⟨rfl, rfl⟩
      go_wp2_with fail
      refine HP.out.mono ?_
      rintro e w1 ⟨rfl, rfl⟩
      go_wp2
      go_ret
      exact ⟨by rw [HF.out]; rfl, H0.out.1⟩
    · have HF : Hid (sizeI L D = c) := by show _ = _; unfold sizeI; rw [if_pos ⟨hax, by omega⟩]; omega
      have q1 : decide ((4096 : Int) < c) = false := by simpa using hgt
      clear hax hv hcap hgt
      go_enter Try.func78, Try.ntmps78
      go_wp2_with fail
      refine HAX.out.mono ?_
      rintro e w1 ⟨rfl, rfl⟩
      go_wp2_with fail
      refine HP.out.mono ?_
      rintro e w1 ⟨rfl, rfl⟩
      go_wp2
      go_ret
      exact ⟨by rw [HF.out]; rfl, H0.out.1⟩
end Go.Proofs.Ytgabcdploeledaa
