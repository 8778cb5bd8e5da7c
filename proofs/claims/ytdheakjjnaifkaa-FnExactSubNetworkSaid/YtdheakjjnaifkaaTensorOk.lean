
/- Tensors as plain mathematics: axes, sizes, indices, offsets, elements. -/
import Derived.Test.YtdheakjjnaifkaaRing
import Derived.Test.YtdheakjjnaifkaaLawKit
import Derived.Laws.OwnMore
import Derived.Test.YtdheakjjnaifkaaElem
import Derived.IntWalk
import Derived.Deep.RegionWith
import Derived.Deep.RegionHeld3
namespace Go.Proofs.Ytdheakjjnaifkaa
set_option maxRecDepth 20000
open Go

/-- The place of a number in a list, or -1. -/
def findI (l : List Int) (n : Int) : Int := if n ∈ l then (l.idxOf n : Int) else -1
theorem findI_neg {l : List Int} {n : Int} : findI l n < 0 ↔ n ∉ l := by
  unfold findI
  split <;> rename_i h
  · simp [h]
  · simp [h]
theorem findI_at {l : List Int} {n : Int} : ∀ {j : Nat}, l[j]? = some n → n ∉ l.take j → findI l n = j := by
  intro j hj hno
  have hm : n ∈ l := List.mem_of_getElem? hj
  unfold findI
  rw [if_pos hm]
  congr 1
  induction l generalizing j with
  | nil => simp at hj
  | cons x r ih =>
    cases j with
    | zero => simp at hj; subst hj; simp
    | succ j =>
      simp only [List.take_succ_cons, List.mem_cons, not_or] at hno
      rw [List.getElem?_cons_succ] at hj
      have hx : (x == n) = false := by rw [beq_eq_false_iff_ne]; exact fun e => hno.1 e.symm
      rw [List.idxOf_cons, hx, cond_false, ih hj hno.2 (List.mem_of_getElem? hj)]
/-- Labels and dimensions are as the axes of a tensor. -/
def AxesV (L D : List Int) : Prop := L.length ≤ 12 ∧ L.length = D.length ∧ (∀ x ∈ L, 0 ≤ x ∧ x ≤ 99) ∧ (∀ d ∈ D, 1 ≤ d ∧ d ≤ 8) ∧ L.Nodup
open Classical in
noncomputable def axesB (L D : List Int) : Bool := decide (AxesV L D)
open Classical in
theorem axesB_true {L D : List Int} : axesB L D = true ↔ AxesV L D := decide_eq_true_iff
theorem axesB_false {L D : List Int} (h : ¬ AxesV L D) : axesB L D = false := by
  cases hb : axesB L D with
  | false => rfl
  | true => exact absurd (axesB_true.1 hb) h
/-- The product of dimensions. -/
def prodL (D : List Int) : Int := D.foldl (fun n d => n * d) 1
theorem prodL_snoc (D : List Int) (d : Int) : prodL (D ++ [d]) = prodL D * d := by simp [prodL, List.foldl_append]
theorem foldl_mul (D : List Int) : ∀ a : Int, D.foldl (fun n d => n * d) a = a * prodL D := by
  induction D with
  | nil => intro a; simp [prodL]
  | cons d r ih =>
    intro a
    have e : prodL (d :: r) = d * prodL r := by
      show r.foldl (fun n d => n * d) (1 * d) = _
      rw [ih, Int.one_mul]
    rw [e]
    show r.foldl (fun n d => n * d) (a * d) = _
    rw [ih, Int.mul_assoc]
theorem prodL_cons (d : Int) (r : List Int) : prodL (d :: r) = d * prodL r := by
  show r.foldl (fun n d => n * d) (1 * d) = _
  rw [foldl_mul, Int.one_mul]
theorem prodL_nil : prodL [] = 1 := rfl
theorem prodL_app (A B : List Int) : prodL (A ++ B) = prodL A * prodL B := by
  show (A ++ B).foldl (fun n d => n * d) 1 = _
  rw [List.foldl_append, foldl_mul]
  rfl
theorem prodL_pos {D : List Int} (h : ∀ d ∈ D, 1 ≤ d) : 1 ≤ prodL D := by
  induction D with
  | nil => rw [prodL_nil]; omega
  | cons d r ih =>
    rw [prodL_cons]
    have h1 := h d (by simp)
    have h2 := ih (fun x hx => h x (by simp [hx]))
    exact Int.le_trans (by omega) (Int.mul_le_mul h1 h2 (by omega) (by omega))
theorem prodL_le_app {A B : List Int} (h : ∀ d ∈ A ++ B, 1 ≤ d) : prodL A ≤ prodL (A ++ B) := by
  rw [prodL_app]
  have h1 := prodL_pos (D := A) (fun d hd => h d (by simp [hd]))
  have h2 := prodL_pos (D := B) (fun d hd => h d (by simp [hd]))
  have := Int.mul_le_mul_of_nonneg_left h2 (by omega : 0 ≤ prodL A)
  omega
theorem prodL_take_le {D : List Int} (h : ∀ d ∈ D, 1 ≤ d) (j : Nat) : prodL (D.take j) ≤ prodL D := by
  have e := List.take_append_drop j D
  have h1 := prodL_le_app (A := D.take j) (B := D.drop j) (by rw [e]; exact h)
  rw [e] at h1
  exact h1
theorem prodL_drop_le {D : List Int} (h : ∀ d ∈ D, 1 ≤ d) (j : Nat) : prodL (D.drop j) ≤ prodL D := by
  have e := List.take_append_drop j D
  have h1 := prodL_pos (D := D.take j) (fun d hd => h d (List.mem_of_mem_take hd))
  have h2 := prodL_pos (D := D.drop j) (fun d hd => h d (List.mem_of_mem_drop hd))
  have h3 : prodL D = prodL (D.take j) * prodL (D.drop j) := by rw [← prodL_app, e]
  rw [h3]
  have := Int.mul_le_mul_of_nonneg_right h1 (by omega : 0 ≤ prodL (D.drop j))
  omega
/-- The product, capped at 4097. -/
def capI (D : List Int) : Int := D.foldl (fun n d => min (n * d) 4097) 1
theorem capI_snoc (D : List Int) (d : Int) : capI (D ++ [d]) = min (capI D * d) 4097 := by simp [capI, List.foldl_append]
theorem cap_fold {D : List Int} (h : ∀ d ∈ D, 1 ≤ d) : ∀ a : Int, 1 ≤ a → a ≤ 4097 → D.foldl (fun n d => min (n * d) 4097) a = min (a * prodL D) 4097 := by
  induction D with
  | nil => intro a h1 h2; rw [prodL_nil, Int.mul_one]; show a = _; omega
  | cons d r ih =>
    intro a h1 h2
    have hd := h d (by simp)
    have hp := prodL_pos (D := r) (fun x hx => h x (by simp [hx]))
    have e1 : a ≤ a * d := by
      have := Int.mul_le_mul_of_nonneg_left hd (by omega : 0 ≤ a)
      omega
    show r.foldl (fun n d => min (n * d) 4097) (min (a * d) 4097) = _
    rw [ih (fun x hx => h x (by simp [hx])) _ (by omega) (by omega), prodL_cons, ← Int.mul_assoc]
    by_cases hc : a * d ≤ 4097
    · rw [show min (a * d) 4097 = a * d by omega]
    · rw [show min (a * d) 4097 = 4097 by omega]
      have e2 : 4097 ≤ 4097 * prodL r := by
        have := Int.mul_le_mul_of_nonneg_left hp (by omega : (0 : Int) ≤ 4097)
        omega
      have e3 : a * d ≤ a * d * prodL r := by
        have := Int.mul_le_mul_of_nonneg_left hp (by omega : 0 ≤ a * d)
        omega
      omega
theorem capI_is {D : List Int} (h : ∀ d ∈ D, 1 ≤ d) : capI D = min (prodL D) 4097 ∧ 1 ≤ capI D ∧ capI D ≤ 4097 := by
  have e : capI D = min (1 * prodL D) 4097 := cap_fold h 1 (by omega) (by omega)
  have hp := prodL_pos h
  rw [Int.one_mul] at e
  omega
/-- TensorSize. -/
noncomputable def sizeI (L D : List Int) : Int := if axesB L D = true ∧ prodL D ≤ 4096 then prodL D else -1
theorem sizeI_cases (L D : List Int) : (sizeI L D = -1 ∧ ¬ (axesB L D = true ∧ prodL D ≤ 4096)) ∨ (sizeI L D = prodL D ∧ AxesV L D ∧ 1 ≤ prodL D ∧ prodL D ≤ 4096) := by
  unfold sizeI
  split <;> rename_i h
  · exact .inr ⟨rfl, axesB_true.1 h.1, prodL_pos (fun d hd => ((axesB_true.1 h.1).2.2.2.1 d hd).1), h.2⟩
  · exact .inl ⟨rfl, h⟩
/-- Is this a tensor over the ring. -/
noncomputable def tensorB (k p n : Int) (L D X : List Int) : Bool :=
  ringB k p n && decide (0 ≤ sizeI L D) && decide ((X.length : Int) = sizeI L D * widthI k n) && X.all fun x => decide (0 ≤ x) && decide (x ≤ topI k p n)
/-- Is this an index for these dimensions. -/
def InIx (D ix : List Int) : Prop := ix.length = D.length ∧ ∀ i, i < D.length → 0 ≤ ix.getD i 0 ∧ ix.getD i 0 < D.getD i 0
/-- How many indices are before an index. -/
def offI (D ix : List Int) : Int := (List.range D.length).foldl (fun n i => n * D.getD i 0 + ix.getD i 0) 0
/-- The index with n before it. -/
def idxL (D : List Int) (n : Int) : List Int := (List.range D.length).map fun i => (n / prodL (D.drop (i + 1))) % D.getD i 0
/-- The element at an offset; another element there. -/
def getL (w : Nat) (X : List Int) (n : Nat) : List Int := (X.drop (n * w)).take w
def putL (X : List Int) (m : Nat) (x : List Int) : List Int := X.take m ++ x ++ X.drop (m + x.length)
end Go.Proofs.Ytdheakjjnaifkaa
namespace Go.Proofs.Ytdheakjjnaifkaa
set_option maxRecDepth 20000
open Go.RowKit

/-- The cells that a world holds: block, place, value. -/
def CellsAt (w : World) : List (Nat × Nat × Value) → Prop
  | [] => True
  | (b, o, v) :: r => w.cell? ⟨b, o, none⟩ = some v ∧ CellsAt w r
theorem CellsAt.below {B : Nat} {w w' : World} {S : List (Nat × Nat × Value)} (h : CellsAt w S) (hb : Below B w w') (hl : ∀ x ∈ S, x.1 < B) : CellsAt w' S := by
  induction S with
  | nil => trivial
  | cons x r ih => exact ⟨(hb.cell (p := ⟨x.1, x.2.1, none⟩) (hl x (by simp))).trans h.1, ih h.2 (fun y hy => hl y (by simp [hy]))⟩
theorem CellsAt.grown {w w' : World} {row : Option Nat} {S : List (Nat × Nat × Value)} (h : CellsAt w S) (hg : w.grownBy w' row) (hl : ∀ x ∈ S, x.1 < w.heap.size) (hne : ∀ x ∈ S, some x.1 ≠ row) : CellsAt w' S := by
  induction S with
  | nil => trivial
  | cons x r ih => exact ⟨(World.cell?_of_block (w := w) (hg.block x.1 (hl x (by simp)) (hne x (by simp)))).trans h.1, ih h.2 (fun y hy => hl y (by simp [hy])) (fun y hy => hne y (by simp [hy]))⟩
theorem CellsAt.append {w : World} {S S' : List (Nat × Nat × Value)} (h : CellsAt w S) (h' : CellsAt w S') : CellsAt w (S ++ S') := by
  induction S with
  | nil => exact h'
  | cons x r ih => exact ⟨h.1, ih h.2⟩
/-- A world behind w0 that holds these cells. -/
def Held (w0 w : World) (S : List (Nat × Nat × Value)) : Prop := Below w0.heap.size w0 w ∧ CellsAt w S ∧ ∀ x ∈ S, x.1 < w.heap.size
theorem Held.step {w0 w w' : World} {S : List (Nat × Nat × Value)} (h : Held w0 w S) (hb : Below w.heap.size w w') : Held w0 w' S :=
  ⟨h.1.trans (hb.mono h.1.size), h.2.1.below hb h.2.2, fun x hx => Nat.lt_of_lt_of_le (h.2.2 x hx) hb.size⟩
theorem Held.refl (w : World) : Held w w [] := ⟨Below.refl _ _, trivial, fun x hx => by simp at hx⟩
theorem CellsAt.drewN {w : World} {S : List (Nat × Nat × Value)} (h : CellsAt w S) (q : Nat) : CellsAt (w.drewN q) S := by
  induction S with
  | nil => trivial
  | cons x r ih => exact ⟨h.1, ih h.2⟩
theorem Held.drewN {w0 w : World} {S : List (Nat × Nat × Value)} (h : Held w0 w S) (q : Nat) : Held w0 (w.drewN q) S := ⟨below_drewN h.1 q, h.2.1.drewN q, h.2.2⟩
theorem Held.drew {w0 w : World} {S : List (Nat × Nat × Value)} (h : Held w0 w S) : Held w0 w.drew S := h.drewN 1
theorem Held.cells {w0 w : World} {S : List (Nat × Nat × Value)} (h : Held w0 w S) : CellsAt w S := h.2.1
/-- A new block of three cells. -/
theorem Held.box3 {w0 w : World} {S : List (Nat × Nat × Value)} (h : Held w0 w S) (x y z : Value) (T : TypeId) : Held w0 (w.alloc (.cells #[x, y, z] T)) ((w.heap.size, 0, x) :: (w.heap.size, 1, y) :: (w.heap.size, 2, z) :: S) := by
  have hs := h.step ((Below.refl _ _).alloc (Nat.le_refl _) (.cells #[x, y, z] T))
  refine ⟨hs.1, ⟨by simp [World.cell?_alloc_at], by simp [World.cell?_alloc_at], by simp [World.cell?_alloc_at], hs.2.1⟩, fun q hq => ?_⟩
  simp only [List.mem_cons] at hq
  rcases hq with rfl | rfl | rfl | hq
  · simp
  · simp
  · simp
  · exact hs.2.2 q hq
theorem Held.tail {w0 w : World} {x : Nat × Nat × Value} {S : List (Nat × Nat × Value)} (h : Held w0 w (x :: S)) : Held w0 w S := ⟨h.1, h.2.1.2, fun y hy => h.2.2 y (by simp [hy])⟩
/-- A contract that keeps what was, with the cells carried across. -/
theorem Held.call {P : Program} {f : FuncId} {args : Array Value} {w0 w : World} {S : List (Nat × Nat × Value)} {R : Ending → Prop} (h : Hid (Held w0 w S)) (hc : Calls P f args w fun e w' => R e ∧ Below w.heap.size w w') :
    Calls P f args w fun e w' => R e ∧ Hid (Held w0 w' S) ∧ CellsAt w' S :=
  hc.mono fun _ _ ⟨he, hb⟩ => ⟨he, h.out.step hb, (h.out.step hb).2.1⟩
/-- .. that leaves the world as it was. -/
theorem Held.quiet {P : Program} {f : FuncId} {args : Array Value} {w : World} {R : Ending → Prop} (hc : Calls P f args w fun e w' => R e ∧ w = w') :
    Calls P f args w fun e w' => R e ∧ Below w.heap.size w w' := hc.mono fun _ _ ⟨he, hb⟩ => ⟨he, hb ▸ Below.refl _ _⟩

/-- The value of a tensor: labels, dimensions, data. -/
abbrev tenV (l d x : Value) : Value := .agg #[l, d, x]
theorem Rd.take {B : Nat} {w : World} {a : Option Addr} {m cap : Nat} {xs : List Int} (h : Rd B w (.slice a m cap) (ints xs)) (j : Nat) (hj : j ≤ xs.length) : Rd B w (.slice a j cap) (ints (xs.take j)) := by
  by_cases h0 : j = 0
  · subst h0; exact .inl ⟨rfl, _, _, rfl⟩
  · rcases h.ints_cases with ⟨rfl, -⟩ | ⟨b, off, ca, e, hb, hc, hcell⟩
    · simp at hj; omega
    · cases e
      refine .inr ⟨b, off, cap, by rw [ints_len, List.length_take, Nat.min_eq_left hj], hb, by rw [ints_len, List.length_take]; omega, fun i u hi => ?_⟩
      have hi' : i < j := by
        have := (List.getElem?_eq_some_iff.1 hi).1
        rw [ints_len, List.length_take] at this; omega
      rw [hcell i (by omega), ← hi]
      simp [ints, hi', List.getElem?_eq_getElem (show i < xs.length by omega)]

set_option maxHeartbeats 400000 in
theorem find_spec_full (a : Option Addr) (cap m : Nat) (n : Int) (xs : List Int) (w : World) (hx : xs.length = m) (hn : m ≤ 281474976710656)
    (ha : 0 < m → ∃ b off, a = some ⟨b, off, none⟩ ∧ ∀ i (h : i < xs.length), w.cell? ⟨b, off + i, none⟩ = some (.int .i64 xs[i])) :
    Calls Try.prog 71 #[.slice a m cap, .int .i64 n] w fun e w' => e = .returned (.int .i64 (findI xs n)) ∧ w = w' := by
  have HA := Lib.hid ha
  have L1 := Lib.hid hx
  clear ha hx
  go_enter Try.func71, Try.ntmps71
  go_wp2
  go_loop [9] (fun i => ∃ j : Nat, j ≤ m ∧ i = .int .i64 j ∧ Hid (n ∉ xs.take j)) (fun i => m - (intOf i).toNat)
  case atStart => exact ⟨0, by omega, rfl, by show n ∉ xs.take 0; simp⟩
  case round =>
    obtain ⟨j, hj, rfl, HI⟩ := hrel
    by_cases hlt : j < m
    · obtain ⟨b, off, rfl, hcell⟩ := HA.out (by omega)
      obtain ⟨x, d1, X1⟩ := ints_cell L1.out hcell hlt
      clear hcell
      by_cases hxn : x = n
      · subst hxn
        have HF := Lib.hid (findI_at X1.out HI.out)
        go_wp2
        go_ret
        exact ⟨by rw [HF.out]; rfl, rfl⟩
      · have hq : (x == n) = false := by simpa using hxn
        have HNE := Lib.hid hxn
        clear hxn
        go_wp2
        go_round
        case rel => exact ⟨j + 1, by omega, by go_num, by
          show n ∉ xs.take (j + 1)
          rw [List.take_add_one, X1.out]
          simp only [Option.toList_some, List.mem_append, List.mem_singleton, not_or]
          exact ⟨HI.out, fun e => HNE.out e.symm⟩⟩
        case measure => simp [intOf]; omega
    · obtain rfl : j = m := by omega
      have HF : Hid (findI xs n = -1) := by
        have h := HI.out
        rw [List.take_of_length_le (by rw [L1.out]; omega)] at h
        show findI xs n = -1
        unfold findI
        rw [if_neg h]
      go_wp2
      go_ret
      exact ⟨by rw [HF.out]; rfl, rfl⟩
theorem find_spec {B : Nat} {v : Value} {xs : List Int} {w : World} (n : Int) (h : Rd B w v (ints xs)) (hn : xs.length ≤ 281474976710656) :
    Calls Try.prog 71 #[v, .int .i64 n] w fun e w' => e = .returned (.int .i64 (findI xs n)) ∧ w = w' := by
  obtain ⟨a, cap, rfl, ha⟩ := ints_form h
  exact find_spec_full a cap _ n xs w rfl hn (fun h => let ⟨b, off, e, _, hc⟩ := ha h; ⟨b, off, e, hc⟩)

/-- The first j axes are right. -/
def AxesTo (L D : List Int) (j : Nat) : Prop := (∀ x ∈ L.take j, 0 ≤ x ∧ x ≤ 99) ∧ (∀ d ∈ D.take j, 1 ≤ d ∧ d ≤ 8) ∧ (L.take j).Nodup
theorem AxesTo.step {L D : List Int} {j : Nat} {x d : Int} (h : AxesTo L D j) (hx : L[j]? = some x) (hd : D[j]? = some d) (h1 : 0 ≤ x ∧ x ≤ 99) (h2 : 1 ≤ d ∧ d ≤ 8) (h3 : x ∉ L.take j) : AxesTo L D (j + 1) := by
  obtain ⟨a, b, c⟩ := h
  unfold AxesTo
  rw [List.take_add_one, List.take_add_one, hx, hd]
  simp only [Option.toList_some, List.mem_append, List.mem_singleton]
  refine ⟨fun y hy => hy.elim (a y) (fun e => e ▸ h1), fun y hy => hy.elim (b y) (fun e => e ▸ h2), ?_⟩
  rw [List.nodup_append]
  exact ⟨c, by simp, fun y hy z hz e => by simp at hz; subst hz; subst e; exact h3 hy⟩
theorem axes_not {L D : List Int} {j : Nat} {x d : Int} (hx : L[j]? = some x) (hd : D[j]? = some d) (h : ¬ (0 ≤ x ∧ x ≤ 99) ∨ ¬ (1 ≤ d ∧ d ≤ 8) ∨ x ∈ L.take j) : axesB L D = false := by
  apply axesB_false
  rintro ⟨-, -, h1, h2, h3⟩
  rcases h with h | h | h
  · exact h (h1 x (List.mem_of_getElem? hx))
  · exact h (h2 d (List.mem_of_getElem? hd))
  · obtain ⟨i, hi⟩ := List.getElem?_of_mem h
    have hij : i < j := by
      have := (List.getElem?_eq_some_iff.1 hi).1
      rw [List.length_take] at this; omega
    rw [List.getElem?_take_of_lt hij] at hi
    have := (List.getElem?_inj (List.getElem?_eq_some_iff.1 hi).1 h3).1 (hi.trans hx.symm)
    omega

set_option maxHeartbeats 1600000 in
theorem axes_spec_full (a : Option Addr) (cap m : Nat) (a2 : Option Addr) (cap2 m2 B : Nat) (L D : List Int) (w : World) (hL : L.length = m) (hD : D.length = m2) (hm : m ≤ 281474976710656) (hm2 : m2 ≤ 281474976710656)
    (hl : Rd B w (.slice a m cap) (ints L)) (hd : Rd B w (.slice a2 m2 cap2) (ints D)) :
    Calls Try.prog 81 #[.slice a m cap, .slice a2 m2 cap2] w fun e w' => e = .returned (.bool (axesB L D)) ∧ w = w' := by
  have HL := Lib.hid hL
  have HD := Lib.hid hD
  have RL := Lib.hid hl
  have RD := Lib.hid hd
  obtain ⟨r, hr⟩ : ∃ r, r = axesB L D := ⟨_, rfl⟩
  rw [← hr]
  have HR := Lib.hid hr
  clear hL hD hl hd hr
  by_cases h12 : 12 < m
  · have HF : Hid (r = false) := by show r = false; rw [HR.out]; exact axesB_false (fun h => by have := h.1; rw [HL.out] at this; omega)
    have q0 : decide ((12 : Int) < (m : Int)) = true := by simp; omega
    go_enter Try.func81, Try.ntmps81
    go_wp2
    go_ret
    exact ⟨by rw [HF.out]; rfl, rfl⟩
  by_cases hmm : m ≠ m2
  · have HF : Hid (r = false) := by show r = false; rw [HR.out]; exact axesB_false (fun h => by have := h.2.1; rw [HL.out, HD.out] at this; exact hmm this)
    have q0 : decide ((12 : Int) < (m : Int)) = false := by simp; omega
    have q1 : ((m : Int) != (m2 : Int)) = true := by simp; omega
    go_enter Try.func81, Try.ntmps81
    go_wp2
    go_ret
    exact ⟨by rw [HF.out]; rfl, rfl⟩
  obtain rfl : m = m2 := by omega
  have q0 : decide ((12 : Int) < (m : Int)) = false := by simp; omega
  go_enter Try.func81, Try.ntmps81
  go_wp2
  go_loop [19] (fun i => ∃ j : Nat, j ≤ m ∧ i = .int .i64 j ∧ Hid (AxesTo L D j)) (fun i => m - (intOf i).toNat)
  case atStart => exact ⟨0, by omega, rfl, by show AxesTo L D 0; simp [AxesTo]⟩
  case round =>
    obtain ⟨j, hj, rfl, HI⟩ := hrel
    by_cases hlt : j < m
    · obtain ⟨x, X1⟩ : ∃ x, Hid (L[j]? = some x) := ⟨_, List.getElem?_eq_getElem (by rw [HL.out]; exact hlt)⟩
      obtain ⟨d, D1⟩ : ∃ d, Hid (D[j]? = some d) := ⟨_, List.getElem?_eq_getElem (by rw [HD.out]; exact hlt)⟩
      obtain ⟨b, off, rfl, e1⟩ : ∃ b off, a = some ⟨b, off, none⟩ ∧ w.cell? ⟨b, off + j, none⟩ = some (.int .i64 x) := by
        rcases RL.out.ints_cases with ⟨h, -⟩ | ⟨b, off, ca, e, hb, -, hc⟩
        · have := HL.out; rw [h] at this; simp at this; omega
        · cases e
          refine ⟨b, off, rfl, ?_⟩
          rw [hc j (by rw [HL.out]; exact hlt)]
          rw [(List.getElem?_eq_some_iff.1 X1.out).2]
      obtain ⟨b2, off2, rfl, e2⟩ : ∃ b off, a2 = some ⟨b, off, none⟩ ∧ w.cell? ⟨b, off + j, none⟩ = some (.int .i64 d) := by
        rcases RD.out.ints_cases with ⟨h, -⟩ | ⟨b, off, ca, e, hb, -, hc⟩
        · have := HD.out; rw [h] at this; simp at this; omega
        · cases e
          refine ⟨b, off, rfl, ?_⟩
          rw [hc j (by rw [HD.out]; exact hlt)]
          rw [(List.getElem?_eq_some_iff.1 D1.out).2]
      have hcap : j ≤ cap := by
        rcases RL.out.ints_cases with ⟨h, -⟩ | ⟨b, off, ca, e, hb, hcc, hc⟩
        · have := HL.out; rw [h] at this; simp at this; omega
        · cases e; rw [HL.out] at hcc; omega
      have hcin := l01_in x 0 99 w
      cases h1 : inB x 0 99 with
      | false =>
        rw [h1] at hcin
        have HC := Lib.hid hcin
        have HF : Hid (r = false) := by show r = false; rw [HR.out]; exact axes_not X1.out D1.out (.inl (by simpa [inB] using h1))
        clear hcin h1
        go_wp2_with fail
        refine HC.out.mono ?_
        rintro e w1 ⟨rfl, rfl⟩
        go_wp2
        go_ret
        exact ⟨by rw [HF.out]; rfl, rfl⟩
      | true =>
        rw [h1] at hcin
        have HC := Lib.hid hcin
        have H1 : Hid (0 ≤ x ∧ x ≤ 99) := by show _ ∧ _; simpa [inB] using h1
        have hdin := l01_in d 1 8 w
        clear hcin h1
        cases h2 : inB d 1 8 with
        | false =>
          rw [h2] at hdin
          have HE := Lib.hid hdin
          have HF : Hid (r = false) := by show r = false; rw [HR.out]; exact axes_not X1.out D1.out (.inr (.inl (by simpa [inB] using h2)))
          clear hdin h2
          go_wp2_with fail
          refine HC.out.mono ?_
          rintro e w1 ⟨rfl, rfl⟩
          go_wp2_with fail
          refine HE.out.mono ?_
          rintro e w1 ⟨rfl, rfl⟩
          go_wp2
          go_ret
          exact ⟨by rw [HF.out]; rfl, rfl⟩
        | true =>
          rw [h2] at hdin
          have HE := Lib.hid hdin
          have H2 : Hid (1 ≤ d ∧ d ≤ 8) := by show _ ∧ _; simpa [inB] using h2
          have hfind := find_spec x (RL.out.take j (by rw [HL.out]; omega)) (by rw [List.length_take, HL.out]; omega)
          clear hdin h2
          by_cases h3 : x ∈ L.take j
          · obtain ⟨z, hz, hz0⟩ : ∃ z, findI (L.take j) x = z ∧ 0 ≤ z := ⟨_, rfl, Int.not_lt.1 (fun h => findI_neg.1 h h3)⟩
            rw [hz] at hfind
            have HG := Lib.hid hfind
            have HF : Hid (r = false) := by show r = false; rw [HR.out]; exact axes_not X1.out D1.out (.inr (.inr h3))
            have q1 : decide ((0 : Int) ≤ z) = true := by simpa using hz0
            clear hfind hz h3
            go_wp2_with fail
            refine HC.out.mono ?_
            rintro e w1 ⟨rfl, rfl⟩
            go_wp2_with fail
            refine HE.out.mono ?_
            rintro e w1 ⟨rfl, rfl⟩
            go_wp2_with fail
            refine HG.out.mono ?_
            rintro e w1 ⟨rfl, rfl⟩
            go_wp2
            go_ret
            exact ⟨by rw [HF.out]; rfl, rfl⟩
          · obtain ⟨z, hz, hz0⟩ : ∃ z, findI (L.take j) x = z ∧ z < 0 := ⟨_, rfl, findI_neg.2 h3⟩
            rw [hz] at hfind
            have HG := Lib.hid hfind
            have HS := Lib.hid (HI.out.step X1.out D1.out H1.out H2.out h3)
            have q1 : decide ((0 : Int) ≤ z) = false := by simpa using hz0
            clear hfind hz h3
            go_wp2_with fail
            refine HC.out.mono ?_
            rintro e w1 ⟨rfl, rfl⟩
            go_wp2_with fail
            refine HE.out.mono ?_
            rintro e w1 ⟨rfl, rfl⟩
            go_wp2_with fail
            refine HG.out.mono ?_
            rintro e w1 ⟨rfl, rfl⟩
            go_wp2
            go_round
            case rel => exact ⟨j + 1, by omega, by go_num, HS⟩
            case measure => simp [intOf]; omega
    · obtain rfl : j = m := by omega
      have HF : Hid (r = true) := by
        show r = true
        rw [HR.out, axesB_true]
        obtain ⟨h1, h2, h3⟩ := HI.out
        rw [List.take_of_length_le (by rw [HL.out]; omega)] at h1 h3
        rw [List.take_of_length_le (by rw [HD.out]; omega)] at h2
        exact ⟨by rw [HL.out]; omega, by rw [HL.out, HD.out], h1, h2, h3⟩
      go_wp2
      go_ret
      exact ⟨by rw [HF.out]; rfl, rfl⟩
theorem axes_spec {B : Nat} {v u : Value} {L D : List Int} {w : World} (hl : Rd B w v (ints L)) (hd : Rd B w u (ints D)) (h1 : L.length ≤ 281474976710656) (h2 : D.length ≤ 281474976710656) :
    Calls Try.prog 81 #[v, u] w fun e w' => e = .returned (.bool (axesB L D)) ∧ w = w' := by
  obtain ⟨a, cap, rfl, -⟩ := ints_form hl
  obtain ⟨a2, cap2, rfl, -⟩ := ints_form hd
  exact axes_spec_full a cap _ a2 cap2 _ B L D w rfl rfl h1 h2 hl hd
end Go.Proofs.Ytdheakjjnaifkaa
namespace Go.Proofs.Ytdheakjjnaifkaa
set_option maxRecDepth 20000
open Go.RowKit

theorem mul_inT {c d : Int} (h1 : 0 ≤ c) (h2 : c ≤ 1000000) (h3 : 0 ≤ d) (h4 : d ≤ 1000000) : 0 ≤ c * d ∧ c * d ≤ 1000000000000 := by
  refine ⟨Int.mul_nonneg h1 h3, ?_⟩
  have := Int.mul_le_mul h2 h4 h3 (by omega)
  omega
set_option maxHeartbeats 800000 in
theorem product_spec_full (a : Option Addr) (cap m B : Nat) (D : List Int) (w : World) (hx : D.length = m) (hn : m ≤ 281474976710656) (hD : ∀ d ∈ D, 1 ≤ d ∧ d ≤ 8) (hr : Rd B w (.slice a m cap) (ints D)) :
    Calls Try.prog 82 #[.slice a m cap, .int .i64 4096] w fun e w' => e = .returned (.int .i64 (capI D)) ∧ w = w' := by
  have L1 := Lib.hid hx
  have HR := Lib.hid hr
  have HD := Lib.hid hD
  clear hx hr hD
  go_enter Try.func82, Try.ntmps82
  go_wp2
  go_loop [5, 10] (fun p i => ∃ (j : Nat) (c : Int), j ≤ m ∧ i = .int .i64 j ∧ p = .int .i64 c ∧ 1 ≤ c ∧ c ≤ 4097 ∧ Hid (capI (D.take j) = c)) (fun _ i => m - (intOf i).toNat)
  case atStart => exact ⟨0, 1, by omega, rfl, rfl, by omega, by omega, rfl⟩
  case round =>
    obtain ⟨j, c, hj, rfl, rfl, hc1, hc2, HC⟩ := hrel
    by_cases hlt : j < m
    · obtain ⟨d, D1⟩ : ∃ d, Hid (D[j]? = some d) := ⟨_, List.getElem?_eq_getElem (by rw [L1.out]; exact hlt)⟩
      obtain ⟨b, off, rfl, e1⟩ : ∃ b off, a = some ⟨b, off, none⟩ ∧ w.cell? ⟨b, off + j, none⟩ = some (.int .i64 d) := by
        rcases HR.out.ints_cases with ⟨h, -⟩ | ⟨b, off, ca, e, hb, -, hc⟩
        · have := L1.out; rw [h] at this; simp at this; omega
        · cases e
          refine ⟨b, off, rfl, ?_⟩
          rw [hc j (by rw [L1.out]; exact hlt)]
          rw [(List.getElem?_eq_some_iff.1 D1.out).2]
      have hd := HD.out d (List.mem_of_getElem? D1.out)
      have hd1 := hd.1
      have hd2 := hd.2
      have hm := mul_inT (c := c) (d := d) (by omega) (by omega) (by omega) (by omega)
      have hlow : 1 ≤ c * d := by
        have := Int.mul_le_mul hc1 hd1 (by omega) (by omega)
        omega
      have hw : IntKind.i64.wrap (c * d) = c * d := IntWalk.i64_in _ (by omega)
      have hstep : capI (D.take (j + 1)) = min (c * d) 4097 := by rw [List.take_add_one, D1.out, Option.toList_some, capI_snoc, HC.out]
      by_cases hgt : 4097 < c * d
      · have HS : Hid (capI (D.take (j + 1)) = 4097) := by show _ = _; rw [hstep]; omega
        have q1 : decide ((4097 : Int) < c * d) = true := by simpa using hgt
        clear hstep hd
        go_wp2
        go_round
        case rel => exact ⟨j + 1, 4097, by omega, by go_num, rfl, by omega, by omega, HS⟩
        case measure => simp [intOf]; omega
      · have HS : Hid (capI (D.take (j + 1)) = c * d) := by show _ = _; rw [hstep]; omega
        have q1 : decide ((4097 : Int) < c * d) = false := by simpa using hgt
        clear hstep hd
        go_wp2
        go_round
        case rel => exact ⟨j + 1, c * d, by omega, by go_num, rfl, by omega, by omega, HS⟩
        case measure => simp [intOf]; omega
    · obtain rfl : j = m := by omega
      have HF : Hid (capI D = c) := by
        have h := HC.out
        rw [List.take_of_length_le (by rw [L1.out]; omega)] at h
        exact h
      go_wp2
      go_ret
      exact ⟨by rw [HF.out]; rfl, rfl⟩
theorem product_spec {B : Nat} {v : Value} {D : List Int} {w : World} (h : Rd B w v (ints D)) (hn : D.length ≤ 281474976710656) (hD : ∀ d ∈ D, 1 ≤ d ∧ d ≤ 8) :
    Calls Try.prog 82 #[v, .int .i64 4096] w fun e w' => e = .returned (.int .i64 (capI D)) ∧ w = w' := by
  obtain ⟨a, cap, rfl, -⟩ := ints_form h
  exact product_spec_full a cap _ B D w rfl hn hD h

/-- The three lists of a tensor that is only read. -/
structure RdT (B : Nat) (w : World) (lv dv xv : Value) (L D X : List Int) : Prop where
  l : Rd B w lv (ints L)
  d : Rd B w dv (ints D)
  x : Rd B w xv (ints X)
theorem RdT.below {B B' : Nat} {w w' : World} {lv dv xv : Value} {L D X : List Int} (h : RdT B w lv dv xv L D X) (hb : Below B' w w') (hB : B ≤ B') : RdT B w' lv dv xv L D X := ⟨h.l.below hb hB, h.d.below hb hB, h.x.below hb hB⟩
/-- So long lists are no matter of concern. -/
structure LenT (L D X : List Int) : Prop where
  l : L.length ≤ 281474976710656
  d : D.length ≤ 281474976710656
  x : X.length ≤ 281474976710656

set_option maxHeartbeats 800000 in
theorem size_spec {B : Nat} {lv dv xv : Value} {L D X : List Int} {w : World} (h : RdT B w lv dv xv L D X) (hB : B ≤ w.heap.size) (hn : LenT L D X) :
    Calls Try.prog 47 #[tenV lv dv xv] w fun e w' => e = .returned (.int .i64 (sizeI L D)) ∧ Below w.heap.size w w' := by
  have H0 := Lib.hid ((Held.refl w).box3 lv dv xv 55)
  have HT := Lib.hid (h.below H0.out.1 hB)
  have HN := Lib.hid hn
  obtain ⟨al, cl, rfl, -⟩ := ints_form h.l
  obtain ⟨ad, cd, rfl, -⟩ := ints_form h.d
  obtain ⟨ax, cx, rfl, -⟩ := ints_form h.x
  obtain ⟨ml, hml⟩ : ∃ m, m = L.length := ⟨_, rfl⟩
  obtain ⟨md, hmd⟩ : ∃ m, m = D.length := ⟨_, rfl⟩
  obtain ⟨mx, hmx⟩ : ∃ m, m = X.length := ⟨_, rfl⟩
  rw [← hml, ← hmd, ← hmx] at H0 HT ⊢
  have HAX := Lib.hid (axes_spec HT.out.l HT.out.d HN.out.l HN.out.d)
  clear h hB hn hml hmd hmx
  cases hax : axesB L D with
  | false =>
    have HF : Hid (sizeI L D = -1) := by show _ = _; unfold sizeI; rw [if_neg (by simp [hax])]
    rw [hax] at HAX
    clear hax
    go_enter Try.func47, Try.ntmps47
    go_wp2_with fail
    refine HAX.out.mono ?_
    rintro e w1 ⟨rfl, rfl⟩
    go_wp2
    go_ret
    exact ⟨by rw [HF.out]; rfl, H0.out.1⟩
  | true =>
    have hv := axesB_true.1 hax
    have HV := Lib.hid hv.2.2.2.1
    have hcap := capI_is (fun d hd => (hv.2.2.2.1 d hd).1)
    obtain ⟨c, hc⟩ : ∃ c, c = capI D := ⟨_, rfl⟩
    have hpr := product_spec HT.out.d HN.out.d HV.out
    rw [← hc] at hcap hpr
    have HP := Lib.hid hpr
    rw [hax] at HAX
    clear hpr hc
    by_cases hgt : 4096 < c
    · have HF : Hid (sizeI L D = -1) := by show _ = _; unfold sizeI; rw [if_neg (by omega)]
      have q1 : decide ((4096 : Int) < c) = true := by simpa using hgt
      clear hax hv hcap hgt
      go_enter Try.func47, Try.ntmps47
      go_wp2_with fail
      refine HAX.out.mono ?_
      rintro e w1 ⟨rfl, rfl⟩
      go_wp2_with fail
      refine HP.out.mono ?_
      rintro e w1 ⟨rfl, rfl⟩
      go_wp2
      go_ret
      exact ⟨by rw [HF.out]; rfl, H0.out.1⟩
    · have HF : Hid (sizeI L D = c) := by show _ = _; unfold sizeI; rw [if_pos ⟨hax, by omega⟩]; omega
      have q1 : decide ((4096 : Int) < c) = false := by simpa using hgt
      clear hax hv hcap hgt
      go_enter Try.func47, Try.ntmps47
      go_wp2_with fail
      refine HAX.out.mono ?_
      rintro e w1 ⟨rfl, rfl⟩
      go_wp2_with fail
      refine HP.out.mono ?_
      rintro e w1 ⟨rfl, rfl⟩
      go_wp2
      go_ret
      exact ⟨by rw [HF.out]; rfl, H0.out.1⟩
end Go.Proofs.Ytdheakjjnaifkaa
namespace Go.Proofs.Ytdheakjjnaifkaa
set_option maxRecDepth 20000
open Go.RowKit

/-- The offset of the first j parts of an index. -/
def offP (D ix : List Int) (j : Nat) : Int := (List.range j).foldl (fun n i => n * D.getD i 0 + ix.getD i 0) 0
theorem offP_succ (D ix : List Int) (j : Nat) : offP D ix (j + 1) = offP D ix j * D.getD j 0 + ix.getD j 0 := by simp [offP, List.range_succ, List.foldl_append]
theorem offI_is (D ix : List Int) : offI D ix = offP D ix D.length := rfl
theorem getD_at {l : List Int} {i : Nat} {x : Int} (h : l[i]? = some x) : l.getD i 0 = x := by rw [List.getD_eq_getElem?_getD, h]; rfl
theorem prodL_take_succ (D : List Int) (j : Nat) (h : j < D.length) : prodL (D.take (j + 1)) = prodL (D.take j) * D.getD j 0 := by
  rw [List.take_add_one, List.getElem?_eq_getElem h, Option.toList_some, prodL_snoc, getD_at (List.getElem?_eq_getElem h)]
theorem offP_range {D ix : List Int} (hD : ∀ d ∈ D, 1 ≤ d) (hi : InIx D ix) : ∀ j, j ≤ D.length → 0 ≤ offP D ix j ∧ offP D ix j < prodL (D.take j) := by
  intro j
  induction j with
  | zero => intro _; simp [offP, prodL]
  | succ j ih =>
    intro hj
    obtain ⟨h1, h2⟩ := ih (by omega)
    obtain ⟨h3, h4⟩ := hi.2 j (by omega)
    rw [offP_succ, prodL_take_succ D j (by omega)]
    have hd : 1 ≤ D.getD j 0 := by
      rw [getD_at (List.getElem?_eq_getElem (show j < D.length by omega))]
      exact hD _ (List.getElem_mem _)
    have e1 := Int.mul_nonneg h1 (by omega : 0 ≤ D.getD j 0)
    have e2 : (offP D ix j + 1) * D.getD j 0 ≤ prodL (D.take j) * D.getD j 0 := Int.mul_le_mul_of_nonneg_right (by omega) (by omega)
    rw [Int.add_mul, Int.one_mul] at e2
    omega
open Classical in
noncomputable def offsetI (L D ix : List Int) : Int := if 0 ≤ sizeI L D ∧ InIx D ix then offI D ix else -1
open Classical in
theorem offsetI_no {L D ix : List Int} (h : ¬ (0 ≤ sizeI L D ∧ InIx D ix)) : offsetI L D ix = -1 := if_neg h
open Classical in
theorem offsetI_yes {L D ix : List Int} (h : 0 ≤ sizeI L D ∧ InIx D ix) : offsetI L D ix = offI D ix := if_pos h
theorem offsetI_range (L D ix : List Int) : offsetI L D ix = -1 ∨ (0 ≤ sizeI L D ∧ InIx D ix ∧ offsetI L D ix = offI D ix ∧ 0 ≤ offI D ix ∧ offI D ix < sizeI L D ∧ sizeI L D ≤ 4096) := by
  by_cases h : 0 ≤ sizeI L D ∧ InIx D ix
  · right
    rcases sizeI_cases L D with h2 | ⟨h2, h3, h4, h5⟩
    · omega
    · have := offP_range (fun d hd => (h3.2.2.2.1 d hd).1) h.2 D.length (Nat.le_refl _)
      rw [List.take_length] at this
      exact ⟨h.1, h.2, offsetI_yes h, this.1, by rw [h2]; exact this.2, by omega⟩
  · exact .inl (offsetI_no h)

set_option maxHeartbeats 800000 in
theorem offset_spec_full (a : Option Addr) (cap : Nat) (a2 : Option Addr) (cap2 m B : Nat) (D ix : List Int) (w : World) (h1 : D.length = m) (h2 : ix.length = m) (hm : m ≤ 281474976710656) (hD : ∀ d ∈ D, 1 ≤ d ∧ d ≤ 8) (hP : prodL D ≤ 4096) (hi : InIx D ix)
    (hd : Rd B w (.slice a m cap) (ints D)) (hx : Rd B w (.slice a2 m cap2) (ints ix)) :
    Calls Try.prog 91 #[.slice a m cap, .slice a2 m cap2] w fun e w' => e = .returned (.int .i64 (offI D ix)) ∧ w = w' := by
  have L1 := Lib.hid h1
  have L2 := Lib.hid h2
  have RD := Lib.hid hd
  have RX := Lib.hid hx
  have HD := Lib.hid hD
  have HI := Lib.hid hi
  have HP := Lib.hid hP
  clear h1 h2 hd hx hD hi hP
  go_enter Try.func91, Try.ntmps91
  go_wp2
  go_loop [5, 10] (fun p i => ∃ (j : Nat) (c : Int), j ≤ m ∧ i = .int .i64 j ∧ p = .int .i64 c ∧ 0 ≤ c ∧ c ≤ 4096 ∧ Hid (offP D ix j = c)) (fun _ i => m - (intOf i).toNat)
  case atStart => exact ⟨0, 0, by omega, rfl, rfl, by omega, by omega, rfl⟩
  case round =>
    obtain ⟨j, c, hj, rfl, rfl, hc1, hc2, HC⟩ := hrel
    by_cases hlt : j < m
    · obtain ⟨d, D1⟩ : ∃ d, Hid (D[j]? = some d) := ⟨_, List.getElem?_eq_getElem (by rw [L1.out]; exact hlt)⟩
      obtain ⟨x, X1⟩ : ∃ x, Hid (ix[j]? = some x) := ⟨_, List.getElem?_eq_getElem (by rw [L2.out]; exact hlt)⟩
      obtain ⟨b, off, rfl, -, e1⟩ := RD.out.cellAt D1.out
      obtain ⟨b2, off2, rfl, -, e2⟩ := RX.out.cellAt X1.out
      have hd := HD.out d (List.mem_of_getElem? D1.out)
      have hd1 := hd.1
      have hd2 := hd.2
      have hr := offP_range (fun d hd => (HD.out d hd).1) HI.out (j + 1) (by rw [L1.out]; omega)
      have hpl := prodL_take_le (fun d hd => (HD.out d hd).1) (j + 1)
      have hpp := HP.out
      have hs : offP D ix (j + 1) = c * d + x := by rw [offP_succ, getD_at D1.out, getD_at X1.out, HC.out]
      have hxx := HI.out.2 j (by rw [L1.out]; exact hlt)
      rw [getD_at D1.out, getD_at X1.out] at hxx
      have hm2 := mul_inT (c := c) (d := d) (by omega) (by omega) (by omega) (by omega)
      have hw : IntKind.i64.wrap (c * d) = c * d := IntWalk.i64_in _ (by omega)
      have hw2 : IntKind.i64.wrap (c * d + x) = c * d + x := IntWalk.i64_in _ (by omega)
      have hb1 : 0 ≤ c * d + x := by omega
      have hb2 : c * d + x ≤ 4096 := by omega
      have HS := Lib.hid hs
      clear hs hr hpl hpp hxx hd
      go_wp2
      go_round
      case rel => exact ⟨j + 1, c * d + x, by omega, by go_num, rfl, hb1, hb2, HS⟩
      case measure => simp [intOf]; omega
    · obtain rfl : j = m := by omega
      have HF : Hid (offI D ix = c) := by show _ = _; rw [offI_is, L1.out]; exact HC.out
      go_wp2
      go_ret
      exact ⟨by rw [HF.out]; rfl, rfl⟩

/-- The first j parts of an index are in range. -/
def InTo (D ix : List Int) (j : Nat) : Prop := ∀ i, i < j → 0 ≤ ix.getD i 0 ∧ ix.getD i 0 < D.getD i 0
end Go.Proofs.Ytdheakjjnaifkaa
namespace Go.Proofs.Ytdheakjjnaifkaa
set_option maxRecDepth 20000
open Go.RowKit

theorem idxL_len (D : List Int) (n : Int) : (idxL D n).length = D.length := by simp [idxL]
theorem idxL_at (D : List Int) (n : Int) (i : Nat) (h : i < D.length) : (idxL D n)[i]? = some ((n / prodL (D.drop (i + 1))) % D.getD i 0) := by simp [idxL, h]
theorem prodL_drop_succ (D : List Int) (i : Nat) (h : i < D.length) : prodL (D.drop i) = D.getD i 0 * prodL (D.drop (i + 1)) := by
  rw [List.drop_eq_getElem_cons h, prodL_cons, getD_at (List.getElem?_eq_getElem h)]
theorem div_step {D : List Int} {n : Int} {i : Nat} (h : i < D.length) (hD : ∀ d ∈ D, 1 ≤ d) : n / prodL (D.drop (i + 1)) / D.getD i 0 = n / prodL (D.drop i) := by
  have hp := prodL_pos (D := D.drop (i + 1)) (fun d hd => hD d (List.mem_of_mem_drop hd))
  rw [prodL_drop_succ D i h, Int.mul_comm, Int.ediv_ediv_of_nonneg (by omega)]
/-- What a function answers that makes a row and says whether. -/
def NewRowB (w : World) (xs : List Int) (b : Bool) (e : Ending) (w' : World) : Prop := ∃ r, e = .returned (.tuple #[r, .bool b]) ∧ Own w' w.heap.size w'.heap.size r xs ∧ Below w.heap.size w w'

/-- Is n the number of an index. -/
noncomputable def inSize (L D : List Int) (n : Int) : Bool := decide (0 ≤ n) && decide (n < sizeI L D)
noncomputable def indexAtL (L D : List Int) (n : Int) : List Int := if inSize L D n = true then idxL D n else []
theorem indexAtL_len (L D : List Int) (n : Int) : (indexAtL L D n).length ≤ 12 := by
  unfold indexAtL
  split
  · rename_i h
    rw [idxL_len]
    rcases sizeI_cases L D with ⟨h1, -⟩ | ⟨-, h2, -⟩
    · simp [inSize, h1] at h; omega
    · have := h2.1; have := h2.2.1; omega
  · simp
end Go.Proofs.Ytdheakjjnaifkaa
namespace Go.Proofs.Ytdheakjjnaifkaa
set_option maxRecDepth 20000
open Go.RowKit

/-- These are the same labels, in some order. -/
def SetV (xs ys : List Int) : Prop := (∀ i n, ys[i]? = some n → n ∈ xs ∧ n ∉ ys.take i) ∧ xs.length = ys.length
open Classical in
noncomputable def setV (xs ys : List Int) : Bool := decide (SetV xs ys)
open Classical in
theorem setV_true {xs ys : List Int} : setV xs ys = true ↔ SetV xs ys := decide_eq_true_iff
open Classical in
theorem setV_false {xs ys : List Int} (h : ¬ SetV xs ys) : setV xs ys = false := decide_eq_false h
theorem SetV.mem {xs ys : List Int} (h : SetV xs ys) : ∀ n ∈ ys, n ∈ xs := fun n hn => by
  obtain ⟨i, hi⟩ := List.getElem?_of_mem hn
  exact (h.1 i n hi).1
theorem nodup_of_take {ys : List Int} (h : ∀ i n, ys[i]? = some n → n ∉ ys.take i) : ys.Nodup := by
  rw [List.nodup_iff_pairwise_ne, List.pairwise_iff_getElem]
  intro i j hi hj hij e
  refine h j ys[j] (List.getElem?_eq_getElem hj) ?_
  rw [← e]
  exact List.mem_of_getElem? (i := i) (by rw [List.getElem?_take_of_lt hij, List.getElem?_eq_getElem hi])
theorem SetV.nodup {xs ys : List Int} (h : SetV xs ys) : ys.Nodup := nodup_of_take fun i n hi => (h.1 i n hi).2
theorem perm_of_nodup : ∀ {ys xs : List Int}, ys.Nodup → (∀ n ∈ ys, n ∈ xs) → xs.length = ys.length → ys.Perm xs := by
  intro ys
  induction ys with
  | nil => intro xs _ _ h; rw [List.eq_nil_of_length_eq_zero h]
  | cons y ys ih =>
    intro xs hn hm hl
    have hy := hm y (by simp)
    have hp := List.perm_cons_erase hy
    refine List.Perm.trans (List.Perm.cons y (ih (List.nodup_cons.1 hn).2 (fun n h => ?_) ?_)) hp.symm
    · have h1 := hm n (by simp [h])
      have h2 : n ≠ y := fun e => (List.nodup_cons.1 hn).1 (e ▸ h)
      exact (List.mem_erase_of_ne h2).2 h1
    · have := hp.length_eq; simp at this hl; omega
theorem SetV.perm {xs ys : List Int} (h : SetV xs ys) : ys.Perm xs := perm_of_nodup h.nodup h.mem h.2
theorem setV_perm {xs ys : List Int} (h : ys.Perm xs) (hn : xs.Nodup) : SetV xs ys := by
  refine ⟨fun i n hi => ⟨h.subset (List.mem_of_getElem? hi), fun hm => ?_⟩, h.length_eq.symm⟩
  have hnd : ys.Nodup := h.nodup_iff.2 hn
  obtain ⟨j, hj⟩ := List.getElem?_of_mem hm
  have hlt := (List.getElem?_eq_some_iff.1 hj).1
  rw [List.length_take] at hlt
  rw [List.getElem?_take_of_lt (by omega)] at hj
  have hil := (List.getElem?_eq_some_iff.1 hi).1
  have h1 := List.pairwise_iff_getElem.1 (List.nodup_iff_pairwise_ne.1 hnd) j i (by omega) hil (by omega)
  rw [List.getElem?_eq_getElem (by omega)] at hi hj
  injection hi with e1
  injection hj with e2
  exact h1 (e2.trans e1.symm)

/-- The dimensions in the order of the labels. -/
def dimsVia (L D labels : List Int) : List Int := labels.map fun n => D.getD (L.idxOf n) 0
/-- The index in the tensor, of an index in the order of the labels. -/
def viaL (L labels ix : List Int) : List Int := L.map fun n => ix.getD (labels.idxOf n) 0
/-- The places of the labels. -/
def atL (L labels : List Int) : List Int := labels.map fun n => findI L n
/-- The first N elements in the order of the labels. -/
def permX (wd : Nat) (L D X labels : List Int) (N : Nat) : List Int := (List.range N).flatMap fun n : Nat => getL wd X (offI D (viaL L labels (idxL (dimsVia L D labels) (n : Int)))).toNat
theorem permX_succ (wd : Nat) (L D X labels : List Int) (N : Nat) : permX wd L D X labels (N + 1) = permX wd L D X labels N ++ getL wd X (offI D (viaL L labels (idxL (dimsVia L D labels) (N : Int)))).toNat := by
  simp [permX, List.range_succ]
theorem idxOf_at {L : List Int} (hn : L.Nodup) {j : Nat} {x : Int} (h : L[j]? = some x) : L.idxOf x = j := by
  obtain ⟨hj, rfl⟩ := List.getElem?_eq_some_iff.1 h
  exact hn.idxOf_getElem j hj
theorem at_idxOf {L : List Int} {x : Int} (h : x ∈ L) : L[L.idxOf x]? = some x := by
  have hlt := List.idxOf_lt_length_iff.2 h
  rw [List.getElem?_eq_getElem hlt]
  congr 1
  exact List.getElem_idxOf hlt
theorem dims_self {L D : List Int} (hn : L.Nodup) (hl : L.length = D.length) : dimsVia L D L = D := by
  apply List.ext_getElem?
  intro j
  unfold dimsVia
  rw [List.getElem?_map]
  by_cases hj : j < L.length
  · rw [List.getElem?_eq_getElem hj]
    show some (D.getD (L.idxOf L[j]) 0) = _
    rw [idxOf_at hn (List.getElem?_eq_getElem hj), List.getElem?_eq_getElem (by omega), getD_at (List.getElem?_eq_getElem (by omega))]
  · rw [List.getElem?_eq_none (by omega), List.getElem?_eq_none (by omega)]; rfl
theorem dims_perm {L D labels : List Int} (hn : L.Nodup) (hl : L.length = D.length) (hp : labels.Perm L) : (dimsVia L D labels).Perm D := by
  have h := hp.map (fun n => D.getD (L.idxOf n) 0)
  have e : L.map (fun n => D.getD (L.idxOf n) 0) = D := dims_self hn hl
  rw [e] at h
  exact h
theorem prodL_perm {A B : List Int} (h : A.Perm B) : prodL A = prodL B := by
  induction h with
  | nil => rfl
  | cons x _ ih => rw [prodL_cons, prodL_cons, ih]
  | swap x y l => rw [prodL_cons, prodL_cons, prodL_cons, prodL_cons, ← Int.mul_assoc, ← Int.mul_assoc, Int.mul_comm y x]
  | trans _ _ ih1 ih2 => exact ih1.trans ih2
/-- A row that has the index's values at the labels' places is the index in the tensor. -/
theorem via_unique {L labels ix row : List Int} (hn : L.Nodup) (hp : labels.Perm L) (hr : row.length = L.length) (h : ∀ i n, labels[i]? = some n → row.getD (L.idxOf n) 0 = ix.getD i 0) : row = viaL L labels ix := by
  have hnl : labels.Nodup := hp.nodup_iff.2 hn
  apply List.ext_getElem?
  intro j
  unfold viaL
  rw [List.getElem?_map]
  by_cases hj : j < L.length
  · obtain ⟨n, hN⟩ : ∃ n, L[j]? = some n := ⟨_, List.getElem?_eq_getElem hj⟩
    have hmem : n ∈ labels := hp.symm.subset (List.mem_of_getElem? hN)
    have h1 := h (labels.idxOf n) n (at_idxOf hmem)
    rw [idxOf_at hn hN] at h1
    rw [hN]
    show _ = some (ix.getD (labels.idxOf n) 0)
    rw [← h1, List.getElem?_eq_getElem (by omega), getD_at (List.getElem?_eq_getElem (by omega))]
  · rw [List.getElem?_eq_none (by omega), List.getElem?_eq_none (by omega)]; rfl
theorem via_in {L D labels ix : List Int} (hn : L.Nodup) (hl : L.length = D.length) (hp : labels.Perm L) (h : InIx (dimsVia L D labels) ix) : InIx D (viaL L labels ix) := by
  have hlen : (dimsVia L D labels).length = labels.length := by simp [dimsVia]
  refine ⟨by simp [viaL, hl], fun j hj => ?_⟩
  obtain ⟨n, hN⟩ : ∃ n, L[j]? = some n := ⟨_, List.getElem?_eq_getElem (by omega)⟩
  have hmem : n ∈ labels := hp.symm.subset (List.mem_of_getElem? hN)
  have hlt := List.idxOf_lt_length_iff.2 hmem
  have h1 := h.2 (labels.idxOf n) (by omega)
  have e1 : (viaL L labels ix).getD j 0 = ix.getD (labels.idxOf n) 0 := getD_at (by unfold viaL; rw [List.getElem?_map, hN]; rfl)
  have e2 : (dimsVia L D labels).getD (labels.idxOf n) 0 = D.getD j 0 := by
    have e3 : (dimsVia L D labels)[labels.idxOf n]? = some (D.getD (L.idxOf n) 0) := by unfold dimsVia; rw [List.getElem?_map, at_idxOf hmem]; rfl
    rw [getD_at e3, idxOf_at hn hN]
  rw [e1, ← e2]
  exact h1
theorem idxL_in {D : List Int} (hD : ∀ d ∈ D, 1 ≤ d) (n : Int) : InIx D (idxL D n) := by
  refine ⟨idxL_len D n, fun i hi => ?_⟩
  rw [getD_at (idxL_at D n i hi)]
  have hd : 1 ≤ D.getD i 0 := by
    rw [getD_at (List.getElem?_eq_getElem hi)]
    exact hD _ (List.getElem_mem _)
  exact ⟨Int.emod_nonneg _ (by omega), Int.emod_lt_of_pos _ (by omega)⟩
theorem permX_len {wd : Nat} {L D X labels : List Int} (hn : L.Nodup) (hl : L.length = D.length) (hp : labels.Perm L) (hD : ∀ d ∈ D, 1 ≤ d) (hX : ∀ o : Nat, (o : Int) < prodL D → o * wd + wd ≤ X.length) (N : Nat) : (permX wd L D X labels N).length = N * wd := by
  have hD' : ∀ d ∈ dimsVia L D labels, 1 ≤ d := fun d hd => hD d ((dims_perm hn hl hp).subset hd)
  induction N with
  | zero => simp [permX]
  | succ N ih =>
    have hi := via_in hn hl hp (idxL_in hD' (N : Int))
    have hr := offP_range hD hi D.length (Nat.le_refl _)
    rw [← offI_is, List.take_of_length_le (Nat.le_refl _)] at hr
    rw [permX_succ, List.length_append, ih, Nat.add_mul, Nat.one_mul]
    congr 1
    unfold getL
    rw [List.length_take, List.length_drop]
    have := hX (offI D (viaL L labels (idxL (dimsVia L D labels) (N : Int)))).toNat (by omega)
    omega
end Go.Proofs.Ytdheakjjnaifkaa
namespace Go.Proofs.Ytdheakjjnaifkaa
set_option maxRecDepth 20000
open Go.RowKit

def sortL (l : List Int) : List Int := l.mergeSort (fun a b => decide (a ≤ b))
theorem sortL_perm (l : List Int) : (sortL l).Perm l := List.mergeSort_perm l _
theorem sortL_sorted (l : List Int) : (sortL l).Pairwise (· ≤ ·) := by
  have h := List.pairwise_mergeSort (le := fun a b : Int => decide (a ≤ b)) (fun a b c h1 h2 => by simp at *; omega) (fun a b => by simp; omega) l
  exact h.imp (fun h => by simpa using h)
theorem sorted_unique : ∀ {a b : List Int}, a.Pairwise (· ≤ ·) → b.Pairwise (· ≤ ·) → a.Perm b → a = b := by
  intro a
  induction a with
  | nil => intro b _ _ h; exact (List.nil_perm.1 h).symm
  | cons x a ih =>
    intro b ha hb h
    cases b with
    | nil => exact absurd h.length_eq (by simp)
    | cons y b =>
      have h1 : y ≤ x := by
        have hx : x ∈ y :: b := h.subset (by simp)
        rcases List.mem_cons.1 hx with e | e
        · omega
        · exact (List.pairwise_cons.1 hb).1 x e
      have h2 : x ≤ y := by
        have hy : y ∈ x :: a := h.symm.subset (by simp)
        rcases List.mem_cons.1 hy with e | e
        · omega
        · exact (List.pairwise_cons.1 ha).1 y e
      obtain rfl : x = y := by omega
      rw [ih (List.pairwise_cons.1 ha).2 (List.pairwise_cons.1 hb).2 (List.Perm.cons_inv h)]
theorem sortL_unique {a l : List Int} (h1 : a.Pairwise (· ≤ ·)) (h2 : a.Perm l) : a = sortL l := sorted_unique h1 (sortL_sorted l) (h2.trans (sortL_perm l).symm)
theorem sortL_len (l : List Int) : (sortL l).length = l.length := (sortL_perm l).length_eq
/-- Insertion under way: x stands at place k, and belongs among the first i + 1. -/
def Ins (l : List Int) (i k : Nat) (ys : List Int) : Prop := ∃ A x B C, ys = A ++ x :: (B ++ C) ∧ A.length = k ∧ A.length + B.length = i ∧ (A ++ B).Pairwise (· ≤ ·) ∧ (∀ b ∈ B, x < b) ∧ ys.Perm l
/-- The first i are sorted. -/
def Sorted (l : List Int) (i : Nat) (ys : List Int) : Prop := (ys.take i).Pairwise (· ≤ ·) ∧ ys.Perm l
theorem Sorted.start (l : List Int) : Sorted l 0 l := ⟨by simp, List.Perm.refl _⟩
theorem Sorted.ins {l ys : List Int} {i : Nat} (h : Sorted l i ys) (hi : i < ys.length) : Ins l i i ys := by
  refine ⟨ys.take i, ys[i], [], ys.drop (i + 1), ?_, by rw [List.length_take]; omega, by rw [List.length_take]; simp; omega, by simpa using h.1, by simp, h.2⟩
  rw [List.nil_append, ← List.drop_eq_getElem_cons hi, List.take_append_drop]
theorem Ins.len {l ys : List Int} {i k : Nat} (h : Ins l i k ys) : ys.length = l.length ∧ k ≤ i ∧ i < ys.length := by
  obtain ⟨A, x, B, C, rfl, h1, h2, -, -, h3⟩ := h
  refine ⟨h3.length_eq, by omega, ?_⟩
  simp; omega
theorem Ins.done {l ys : List Int} {i k : Nat} (h : Ins l i k ys) (hk : k = 0 ∨ ∃ y x, ys[k - 1]? = some y ∧ ys[k]? = some x ∧ y ≤ x) : Sorted l (i + 1) ys := by
  obtain ⟨A, x, B, C, rfl, h1, h2, h3, h4, h5⟩ := h
  refine ⟨?_, h5⟩
  have e : (A ++ x :: (B ++ C)).take (i + 1) = A ++ x :: B := by
    rw [List.take_append, List.take_of_length_le (by omega), show i + 1 - A.length = B.length + 1 by omega, List.take_succ_cons, List.take_append_of_le_length (Nat.le_refl _), List.take_of_length_le (Nat.le_refl _)]
  rw [e]
  have hA : ∀ a ∈ A, a ≤ x := by
    rcases hk with rfl | ⟨y, x', hy, hx, hle⟩
    · intro a ha
      rw [List.eq_nil_of_length_eq_zero h1] at ha
      simp at ha
    · intro a ha
      have hpos : 0 < A.length := List.length_pos_of_mem ha
      have e1 : x' = x := by
        rw [List.getElem?_append_right (by omega), show k - A.length = 0 by omega] at hx
        simpa using hx.symm
      rw [List.getElem?_append_left (by omega)] at hy
      rw [e1] at hle
      obtain ⟨j, hj⟩ := List.getElem?_of_mem ha
      have hjl := (List.getElem?_eq_some_iff.1 hj).1
      by_cases ej : j = k - 1
      · subst ej
        rw [hj] at hy
        injection hy with hy
        omega
      · have hp := List.pairwise_iff_getElem.1 (List.pairwise_append.1 h3).1 j (k - 1) hjl (by omega) (by omega)
        rw [List.getElem?_eq_getElem (by omega)] at hj hy
        injection hj with hj
        injection hy with hy
        omega
  rw [List.pairwise_append] at h3 ⊢
  refine ⟨h3.1, List.pairwise_cons.2 ⟨fun b hb => by have := h4 b hb; omega, h3.2.1⟩, fun a ha b hb => ?_⟩
  rcases List.mem_cons.1 hb with rfl | hb
  · exact hA a ha
  · exact h3.2.2 a ha b hb
theorem set_swap (A R : List Int) (x y : Int) (k : Nat) (h : A.length + 1 = k) : ((A ++ y :: x :: R).set k y).set (k - 1) x = A ++ x :: y :: R := by
  subst h
  rw [List.set_append_right _ _ (by omega), show A.length + 1 - A.length = 1 by omega]
  show ((A ++ y :: y :: R).set (A.length + 1 - 1) x) = _
  rw [Nat.add_sub_cancel, List.set_append_right _ _ (Nat.le_refl _), Nat.sub_self]
  rfl
theorem Ins.step {l ys : List Int} {i k : Nat} {x y : Int} (h : Ins l i k ys) (h0 : 0 < k) (hy : ys[k - 1]? = some y) (hx : ys[k]? = some x) (hlt : x < y) : Ins l i (k - 1) ((ys.set k y).set (k - 1) x) := by
  obtain ⟨A, x', B, C, rfl, h1, h2, h3, h4, h5⟩ := h
  have ex : x' = x := by
    rw [List.getElem?_append_right (by omega), show k - A.length = 0 by omega] at hx
    simpa using hx
  subst ex
  obtain ⟨A', z, rfl⟩ : ∃ A' z, A = A' ++ [z] := by
    have hne : A ≠ [] := fun e => by rw [e] at h1; simp at h1; omega
    exact ⟨A.dropLast, A.getLast hne, (List.dropLast_concat_getLast hne).symm⟩
  rw [List.length_append, List.length_singleton] at h1 h2
  have ez : z = y := by
    rw [List.append_assoc, List.getElem?_append_right (by omega), show k - 1 - A'.length = 0 by omega] at hy
    simpa using hy
  subst ez
  have e1 : A' ++ [z] ++ x' :: (B ++ C) = A' ++ z :: x' :: (B ++ C) := by simp
  rw [e1, set_swap A' (B ++ C) x' z k h1]
  rw [e1] at h5
  refine ⟨A', x', z :: B, C, by simp, by omega, by simp; omega, by simpa using h3, fun b hb => ?_, List.Perm.trans (List.Perm.append_left A' (List.Perm.swap _ _ _)) h5⟩
  rcases List.mem_cons.1 hb with rfl | hb
  · exact hlt
  · exact h4 b hb
theorem Sorted.full {l ys : List Int} (h : Sorted l l.length ys) : ys = sortL l := by
  refine sortL_unique ?_ h.2
  have := h.1
  rwa [List.take_of_length_le (by rw [h.2.length_eq]; exact Nat.le_refl _)] at this
end Go.Proofs.Ytdheakjjnaifkaa
namespace Go.Proofs.Ytdheakjjnaifkaa
set_option maxRecDepth 20000
open Go.RowKit

/-- A label, a dimension, a stride. -/
abbrev AxE := Int × Int × Int
def isum (l : List Int) : Int := l.foldr (fun a s => a + s) 0
theorem isum_append (a b : List Int) : isum (a ++ b) = isum a + isum b := by
  induction a with
  | nil => simp [isum]
  | cons x a ih => simp only [isum, List.cons_append, List.foldr_cons] at ih ⊢; omega
theorem isum_perm {a b : List Int} (h : a.Perm b) : isum a = isum b := by
  induction h with
  | nil => rfl
  | cons x _ ih => simp only [isum, List.foldr_cons] at ih ⊢; omega
  | swap x y l => simp only [isum, List.foldr_cons]; omega
  | trans _ _ ih1 ih2 => exact ih1.trans ih2
/-- The axes of a tensor. -/
def axesL (L D : List Int) : List AxE := (List.range L.length).map fun i => (L.getD i 0, D.getD i 0, prodL (D.drop (i + 1)))
/-- The axes in another order. -/
def orderA (L D labels : List Int) : List AxE := labels.map fun n => (n, D.getD (L.idxOf n) 0, prodL (D.drop (L.idxOf n + 1)))
def dimsA (AX : List AxE) : List Int := AX.map fun a => a.2.1
/-- One axis more. -/
def longerA (offs : List Int) (a : AxE) : List Int := offs.flatMap fun o => (List.range a.2.1.toNat).map fun v : Nat => o + (v : Int) * a.2.2
/-- Where the elements are. -/
def offsA (AX : List AxE) : List Int := AX.foldl longerA [0]
theorem offsA_snoc (AX : List AxE) (a : AxE) : offsA (AX ++ [a]) = longerA (offsA AX) a := by simp [offsA]
def dotA (AX : List AxE) (ix : List Int) : Int := isum ((AX.zip ix).map fun p => p.2 * p.1.2.2)
theorem dotA_snoc (AX : List AxE) (a : AxE) (ix : List Int) (x : Int) (h : AX.length = ix.length) : dotA (AX ++ [a]) (ix ++ [x]) = dotA AX ix + x * a.2.2 := by
  unfold dotA
  rw [List.zip_append h, List.map_append, isum_append]
  simp [isum]
theorem axesL_len (L D : List Int) : (axesL L D).length = L.length := by simp [axesL]
theorem orderA_len (L D labels : List Int) : (orderA L D labels).length = labels.length := by simp [orderA]
theorem axesL_at {L D : List Int} {i : Nat} {n d : Int} (hn : L[i]? = some n) (hd : D[i]? = some d) : (axesL L D)[i]? = some (n, d, prodL (D.drop (i + 1))) := by
  unfold axesL
  rw [List.getElem?_map, List.getElem?_range (List.getElem?_eq_some_iff.1 hn).1]
  show some (L.getD i 0, D.getD i 0, _) = _
  rw [getD_at hn, getD_at hd]
theorem dims_orderA (L D labels : List Int) : dimsA (orderA L D labels) = dimsVia L D labels := by simp [dimsA, orderA, dimsVia]
theorem range_mul (P d : Nat) : List.range (P * d) = (List.range P).flatMap fun m => (List.range d).map fun v => m * d + v := by
  induction P with
  | zero => simp
  | succ P ih =>
    rw [Nat.add_mul, Nat.one_mul, List.range_add, ih, List.range_succ, List.flatMap_append]
    simp
theorem idxL_snoc (D : List Int) (d : Int) (m v : Int) (h0 : 0 ≤ v) (h1 : v < d) : idxL (D ++ [d]) (m * d + v) = idxL D m ++ [v] := by
  have hq : (m * d + v) / d = m := by
    rw [Int.add_comm, Int.add_mul_ediv_right _ _ (by omega), Int.ediv_eq_zero_of_lt h0 h1, Int.zero_add]
  have hr : (m * d + v) % d = v := by
    rw [Int.add_comm, Int.add_mul_emod_self_right, Int.emod_eq_of_lt h0 h1]
  unfold idxL
  rw [List.length_append, List.length_singleton, List.range_succ, List.map_append]
  congr 1
  · apply List.map_congr_left
    intro i hi
    have hi' : i < D.length := List.mem_range.1 hi
    have e1 : (D ++ [d]).drop (i + 1) = D.drop (i + 1) ++ [d] := List.drop_append_of_le_length (by omega)
    have e2 : (D ++ [d]).getD i 0 = D.getD i 0 := by
      rw [List.getD_eq_getElem?_getD, List.getElem?_append_left hi', ← List.getD_eq_getElem?_getD]
    rw [e1, e2, prodL_snoc, Int.mul_comm (prodL _) d, ← Int.ediv_ediv_of_nonneg (by omega), hq]
  · have e1 : (D ++ [d]).drop (D.length + 1) = [] := List.drop_of_length_le (by simp)
    have e2 : (D ++ [d]).getD D.length 0 = d := by simp [List.getD_eq_getElem?_getD]
    simp only [List.map_cons, List.map_nil]
    rw [e1, e2, show prodL [] = 1 from rfl, Int.ediv_one, hr]
theorem offsA_is : ∀ (k : Nat) (AX : List AxE), AX.length = k → (∀ a ∈ AX, 1 ≤ a.2.1) → offsA AX = (List.range (prodL (dimsA AX)).toNat).map fun n : Nat => dotA AX (idxL (dimsA AX) (n : Int)) := by
  intro k
  induction k with
  | zero =>
    intro AX h _
    rw [List.eq_nil_of_length_eq_zero h]
    rfl
  | succ k ih =>
    intro AX h hd
    rcases List.eq_nil_or_concat AX with rfl | ⟨A, a, rfl⟩
    · simp at h
    simp only [List.concat_eq_append] at h hd ⊢
    have hA : A.length = k := by simp at h; omega
    have hdA : ∀ x ∈ A, 1 ≤ x.2.1 := fun x hx => hd x (by simp [hx])
    have ha : 1 ≤ a.2.1 := hd a (by simp)
    have hdD : ∀ x ∈ dimsA A, 1 ≤ x := fun x hx => by
      obtain ⟨y, hy, rfl⟩ := List.mem_map.1 hx
      exact hdA y hy
    have e0 : dimsA (A ++ [a]) = dimsA A ++ [a.2.1] := by simp [dimsA]
    have hp := prodL_pos hdD
    rw [offsA_snoc, ih A hA hdA, e0, prodL_snoc]
    have e1 : (prodL (dimsA A) * a.2.1).toNat = (prodL (dimsA A)).toNat * a.2.1.toNat := by
      rw [Int.toNat_mul (by omega) (by omega)]
    rw [e1, range_mul]
    unfold longerA
    rw [List.flatMap_map, List.map_flatMap]
    refine congrArg List.flatten (List.map_congr_left ?_)
    intro m _
    rw [List.map_map]
    apply List.map_congr_left
    intro v hv
    have hv' : v < a.2.1.toNat := List.mem_range.1 hv
    have e2 : ((m * a.2.1.toNat + v : Nat) : Int) = (m : Int) * a.2.1 + (v : Int) := by
      rw [Int.natCast_add, Int.natCast_mul, Int.toNat_of_nonneg (by omega)]
    show _ = dotA (A ++ [a]) (idxL (dimsA A ++ [a.2.1]) ((m * a.2.1.toNat + v : Nat) : Int))
    rw [e2, idxL_snoc _ _ _ _ (by omega) (by omega), dotA_snoc _ _ _ _ (by rw [idxL_len]; simp [dimsA])]
/-- The offset is the sum of the steps. -/
theorem offP_dot {D ix : List Int} : ∀ j, j ≤ D.length → offP D ix j * prodL (D.drop j) = isum ((List.range j).map fun i => ix.getD i 0 * prodL (D.drop (i + 1))) := by
  intro j
  induction j with
  | zero => intro _; simp [offP, isum]
  | succ j ih =>
    intro hj
    have h := ih (by omega)
    rw [List.range_succ, List.map_append, isum_append, ← h, offP_succ]
    have e : prodL (D.drop j) = D.getD j 0 * prodL (D.drop (j + 1)) := by
      rw [List.drop_eq_getElem_cons (by omega), prodL_cons, getD_at (List.getElem?_eq_getElem (by omega))]
    rw [e]
    simp only [isum, List.map_cons, List.map_nil, List.foldr_cons, List.foldr_nil]
    grind
theorem offI_dot {D ix : List Int} : offI D ix = isum ((List.range D.length).map fun i => ix.getD i 0 * prodL (D.drop (i + 1))) := by
  have h := offP_dot (ix := ix) D.length (Nat.le_refl _)
  rw [List.drop_of_length_le (Nat.le_refl _), show prodL [] = 1 from rfl, Int.mul_one] at h
  rw [offI_is]; exact h
theorem offI_order {L D labels ix : List Int} (hn : L.Nodup) (hl : L.length = D.length) (hp : labels.Perm L) (hx : ix.length = labels.length) : offI D (viaL L labels ix) = dotA (orderA L D labels) ix := by
  have hnl : labels.Nodup := hp.nodup_iff.2 hn
  rw [offI_dot]
  have e1 : ((List.range D.length).map fun i => (viaL L labels ix).getD i 0 * prodL (D.drop (i + 1))) = L.map fun n => ix.getD (labels.idxOf n) 0 * prodL (D.drop (L.idxOf n + 1)) := by
    apply List.ext_getElem?
    intro j
    rw [List.getElem?_map, List.getElem?_map]
    by_cases hj : j < L.length
    · rw [List.getElem?_range (by omega), List.getElem?_eq_getElem hj]
      have e2 : (viaL L labels ix)[j]? = some (ix.getD (labels.idxOf L[j]) 0) := by unfold viaL; rw [List.getElem?_map, List.getElem?_eq_getElem hj]; rfl
      simp only [Option.map_some]
      rw [getD_at e2, idxOf_at hn (List.getElem?_eq_getElem hj)]
    · rw [List.getElem?_eq_none (by simp; omega), List.getElem?_eq_none (by omega)]; rfl
  have e3 : ((orderA L D labels).zip ix).map (fun p => p.2 * p.1.2.2) = labels.map fun n => ix.getD (labels.idxOf n) 0 * prodL (D.drop (L.idxOf n + 1)) := by
    apply List.ext_getElem?
    intro j
    rw [List.getElem?_map, List.getElem?_map]
    by_cases hj : j < labels.length
    · have h1 : (orderA L D labels)[j]? = some (labels[j], D.getD (L.idxOf labels[j]) 0, prodL (D.drop (L.idxOf labels[j] + 1))) := by unfold orderA; rw [List.getElem?_map, List.getElem?_eq_getElem hj]; rfl
      have h2 : ix[j]? = some ix[j] := List.getElem?_eq_getElem (by omega)
      have h3 : ((orderA L D labels).zip ix)[j]? = some ((labels[j], D.getD (L.idxOf labels[j]) 0, prodL (D.drop (L.idxOf labels[j] + 1))), ix[j]) := List.getElem?_zip_eq_some.2 ⟨h1, h2⟩
      rw [h3, List.getElem?_eq_getElem hj]
      simp only [Option.map_some]
      rw [idxOf_at hnl (List.getElem?_eq_getElem hj), getD_at h2]
    · rw [List.getElem?_eq_none (by simp; omega), List.getElem?_eq_none (by omega)]; rfl
  unfold dotA
  rw [e1, e3]
  exact (isum_perm (hp.map _)).symm
/-- Where the elements are, in the order of the labels. -/
theorem offsA_order {L D labels : List Int} (hn : L.Nodup) (hl : L.length = D.length) (hp : labels.Perm L) (hD : ∀ d ∈ D, 1 ≤ d) : offsA (orderA L D labels) = (List.range (prodL (dimsVia L D labels)).toNat).map fun n : Nat => offI D (viaL L labels (idxL (dimsVia L D labels) (n : Int))) := by
  have hd : ∀ a ∈ orderA L D labels, 1 ≤ a.2.1 := fun a ha => by
    have h1 : a.2.1 ∈ dimsA (orderA L D labels) := List.mem_map_of_mem ha
    rw [dims_orderA] at h1
    exact hD _ ((dims_perm hn hl hp).subset h1)
  rw [offsA_is _ _ rfl hd, dims_orderA]
  apply List.map_congr_left
  intro n _
  rw [offI_order hn hl hp (by rw [idxL_len]; simp [dimsVia])]
/-- The data in the order of the labels. -/
theorem permX_offs {wd : Nat} {L D X labels : List Int} (hn : L.Nodup) (hl : L.length = D.length) (hp : labels.Perm L) (hD : ∀ d ∈ D, 1 ≤ d) : permX wd L D X labels (prodL D).toNat = (offsA (orderA L D labels)).flatMap fun o => getL wd X o.toNat := by
  rw [offsA_order hn hl hp hD, prodL_perm (dims_perm hn hl hp)]
  unfold permX
  rw [List.flatMap_map]
end Go.Proofs.Ytdheakjjnaifkaa
namespace Go.Proofs.Ytdheakjjnaifkaa
set_option maxRecDepth 20000
open Go.RowKit

/-- The elements f 0, .., f (N - 1), one after the other. -/
def gatherL (f : Nat → List Int) (N : Nat) : List Int := (List.range N).flatMap f
theorem gather_zero (f : Nat → List Int) : gatherL f 0 = [] := rfl
theorem gather_succ (f : Nat → List Int) (N : Nat) : gatherL f (N + 1) = gatherL f N ++ f N := by simp [gatherL, List.range_succ]
theorem gather_len {f : Nat → List Int} {wd : Nat} : ∀ N, (∀ i, i < N → (f i).length = wd) → (gatherL f N).length = N * wd := by
  intro N
  induction N with
  | zero => intro _; simp [gatherL]
  | succ N ih =>
    intro h
    rw [gather_succ, List.length_append, ih (fun i hi => h i (by omega)), h N (by omega), Nat.add_mul, Nat.one_mul]
theorem gather_get {f : Nat → List Int} {wd : Nat} {N i : Nat} (h : ∀ j, j < N → (f j).length = wd) (hi : i < N) : getL wd (gatherL f N) i = f i := by
  induction N with
  | zero => omega
  | succ N ih =>
    have hl := gather_len N (fun j hj => h j (by omega))
    rw [gather_succ]
    unfold getL
    by_cases e : i = N
    · subst e
      rw [List.drop_append_of_le_length (by omega), List.drop_of_length_le (by omega), List.nil_append]
      exact List.take_of_length_le (by rw [h i (by omega)]; exact Nat.le_refl _)
    · have h1 : i * wd + wd ≤ N * wd := by
        have := Nat.mul_le_mul_right wd (show i + 1 ≤ N by omega)
        rwa [Nat.add_mul, Nat.one_mul] at this
      have h2 := ih (fun j hj => h j (by omega)) (by omega)
      unfold getL at h2
      rw [List.drop_append_of_le_length (by omega), List.take_append_of_le_length (by rw [List.length_drop]; omega)]
      exact h2
theorem gather_congr {f g : Nat → List Int} {N : Nat} (h : ∀ i, i < N → f i = g i) : gatherL f N = gatherL g N := by
  induction N with
  | zero => rfl
  | succ N ih => rw [gather_succ, gather_succ, ih (fun i hi => h i (by omega)), h N (by omega)]
/-- The whole data is the elements, one after the other. -/
theorem gather_self {X : List Int} {wd N : Nat} (h : X.length = N * wd) : gatherL (getL wd X) N = X := by
  have key : ∀ n, n ≤ N → gatherL (getL wd X) n = X.take (n * wd) := by
    intro n
    induction n with
    | zero => intro _; simp [gatherL]
    | succ n ih =>
      intro hn
      rw [gather_succ, ih (by omega), Nat.add_mul, Nat.one_mul]
      unfold getL
      rw [List.take_add]
  rw [key N (Nat.le_refl _), List.take_of_length_le (by omega)]
/-- Under way: the first i elements are written over X. -/
def overL (f : Nat → List Int) (X : List Int) (wd i : Nat) : List Int := gatherL f i ++ X.drop (i * wd)
theorem over_zero (f : Nat → List Int) (X : List Int) (wd : Nat) : overL f X wd 0 = X := by simp [overL, gatherL]
theorem over_full {f : Nat → List Int} {X : List Int} {wd N : Nat} (h : X.length = N * wd) : overL f X wd N = gatherL f N := by
  unfold overL
  rw [List.drop_of_length_le (by omega), List.append_nil]
theorem over_len {f : Nat → List Int} {X : List Int} {wd N i : Nat} (hf : ∀ j, j < N → (f j).length = wd) (hX : X.length = N * wd) (hi : i ≤ N) : (overL f X wd i).length = N * wd := by
  unfold overL
  rw [List.length_append, gather_len i (fun j hj => hf j (by omega)), List.length_drop, hX]
  have := Nat.mul_le_mul_right wd hi
  omega
theorem over_put {f : Nat → List Int} {X : List Int} {wd N i : Nat} (hf : ∀ j, j < N → (f j).length = wd) (hi : i < N) : putL (overL f X wd i) (i * wd) (f i) = overL f X wd (i + 1) := by
  have hl := gather_len i (fun j hj => hf j (by omega))
  unfold putL overL
  rw [gather_succ, List.take_append_of_le_length (by omega), List.take_of_length_le (by omega), hf i hi, List.drop_append, hl, List.drop_of_length_le (by omega), List.nil_append, List.drop_drop]
  congr 2
  rw [Nat.add_mul, Nat.one_mul]
  omega
end Go.Proofs.Ytdheakjjnaifkaa
