
/- Slices of slices of integers: sizes, copies, comparisons, marks. -/
import Derived.Test.YtgabcdploeledaaElem
import Derived.Test.YtgabcdploeledaaLawKit
import Derived.Deep.Onto
namespace Go.Proofs.Ytgabcdploeledaa
set_option maxRecDepth 20000
open Go.RowKit

theorem infoRow : (Try.prog.info? 24).map (fun i => (i.zero, i.size, i.bytes)) = some (some (.slice none 0 0), 1, 24) := by kernel_rfl
def totL (rows : List (List Int)) : Nat := (rows.map List.length).sum
theorem tot_step {rows : List (List Int)} {i : Nat} {xs : List Int} (h : rows[i]? = some xs) : totL (rows.take (i + 1)) = totL (rows.take i) + xs.length := by
  rw [List.take_add_one, h]; simp [totL]
theorem tot_le (rows : List (List Int)) (i : Nat) : totL (rows.take i) ≤ totL rows := by
  have e : totL rows = totL (rows.take i) + totL (rows.drop i) := by
    unfold totL
    rw [← List.sum_append_nat, ← List.map_append, List.take_append_drop]
  omega
theorem tot_at {rows : List (List Int)} {i : Nat} {xs : List Int} (h : rows[i]? = some xs) : xs.length ≤ totL rows := by
  have h1 := tot_step h
  have h2 := tot_le rows (i + 1)
  omega
theorem tot_all {rows : List (List Int)} {n : Nat} (h : rows.length ≤ n) : totL (rows.take n) = totL rows := by rw [List.take_of_length_le h]

set_option maxHeartbeats 400000 in
theorem sz_row (a : Option Addr) (n c : Nat) (left : Int) (w : World) (hl : -1 ≤ left) (hl2 : left ≤ 281474976710656) (hn : n ≤ 281474976710656) :
    Calls Try.prog 54 #[.slice a n c, .int .i64 left] w fun e w' => e = .returned (.int .i64 (if left < n then -1 else left - n)) ∧ w = w' := by
  by_cases h : left < n
  · rw [if_pos h]
    have h2 : left - n < 0 := by omega
    go_enter Try.func54, Try.ntmps54
    go_wp2
    go_ret
    exact ⟨rfl, rfl⟩
  · rw [if_neg h]
    have h2 : 0 ≤ left - n := by omega
    have h3 : decide (left - n < 0) = false := by simp; omega
    go_enter Try.func54, Try.ntmps54
    go_wp2
    go_ret
    exact ⟨rfl, rfl⟩
/-- What the size of rows answers. -/
def SzPost (left : Int) (rows : List (List Int)) (w : World) (e : Ending) (w' : World) : Prop := ∃ r : Int, e = .returned (.int .i64 r) ∧ w = w' ∧ -1 ≤ r ∧ r ≤ left ∧ (0 ≤ r → (rows.length : Int) + totL rows ≤ left)
theorem SzPost.neg {left : Int} {rows : List (List Int)} {w : World} (h : 0 ≤ left) : SzPost left rows w (.returned (.int .i64 (-1))) w := ⟨-1, rfl, rfl, by omega, by omega, fun h => by omega⟩
theorem KeptOut.own {w w1 : World} {lo hi lo' hi' : Nat} {v : Value} {xs : List Int} (h : KeptOut w w1 lo hi) (ho : Own w lo' hi' v xs) (hd : hi' ≤ lo ∨ hi ≤ lo') : Own w1 lo' hi' v xs := by
  refine ⟨?_, ho.2.1, Nat.le_trans ho.2.2 h.2.2.2.1⟩
  have h1 := ho.1
  refine ⟨h1.1, ?_⟩
  rcases h1.2 with hn | ⟨g, cap, cur, hv, hg, hc, r⟩
  · exact .inl hn
  · refine .inr ⟨g, cap, cur, hv, hg, ?_, r⟩
    have hgi : g < hi' := ho.2.1 g (by rw [hv]; rfl)
    rw [h.2.2.2.2 g (by have := ho.2.2; omega) (by omega)]
    exact hc
theorem KeptOut.box {w w1 : World} {lo hi b : Nat} {k p n : Int} (h : KeptOut w w1 lo hi) (hx : BoxAt w b k p n) (hb : b < w.heap.size) (hd : b < lo ∨ hi ≤ b) : BoxAt w1 b k p n :=
  ⟨h.cell hx.1 hb hd, h.cell hx.2.1 hb hd, h.cell hx.2.2 hb hd⟩
theorem KeptOut.rows {w w1 : World} {lo hi B : Nat} {v : Value} {rows : List (List Int)} (h : KeptOut w w1 lo hi) (hr : RdRows B w v rows) (hB : B ≤ lo) (hs : B ≤ w.heap.size) : RdRows B w1 v rows := by
  obtain ⟨vs, h1, h2, h3⟩ := hr
  exact ⟨vs, h.rd h1 hB hs, h2, fun i hi => let ⟨u, e, hu⟩ := h3 i hi; ⟨u, e, h.rd hu hB hs⟩⟩

/-- Rows of the call's own: the outer row first, then row by row, each in blocks of its own. -/
def OwnRows (w : World) (lo hi : Nat) (v : Value) (rows : List (List Int)) : Prop :=
  ∃ (vs : List Value) (β : Nat → Nat), vs.length = rows.length ∧ w.ownsRow lo 24 1 v rows.length vs ∧ (∀ g, v.ownBlock = some g → g < β 0) ∧ (∀ i j, i ≤ j → β i ≤ β j) ∧ β rows.length ≤ hi ∧ hi ≤ w.heap.size ∧ lo ≤ β 0 ∧
    ∀ i (h : i < rows.length), ∃ u, vs[i]? = some u ∧ Own w (β i) (β (i + 1)) u rows[i]
theorem OwnRows.rd {w : World} {lo hi : Nat} {v : Value} {rows : List (List Int)} (h : OwnRows w lo hi v rows) : RdRows hi w v rows := by
  obtain ⟨vs, β, h1, h2, h3, h4, h5, h6, h7, h8⟩ := h
  refine ⟨vs, ?_, h1, fun i hi => ?_⟩
  · rcases Rd.of_own h2 with ⟨a1, a2⟩ | ⟨b, off, cap, hv, hlt, hcp, hc⟩
    · exact .inl ⟨a1, a2⟩
    · refine .inr ⟨b, off, cap, hv, ?_, hcp, hc⟩
      have h9 := h3 b (by rw [hv]; rfl)
      have h10 := h4 0 rows.length (Nat.zero_le _)
      omega
  · obtain ⟨u, hu, ho⟩ := h8 i hi
    have h10 := h4 (i + 1) rows.length hi
    exact ⟨u, hu, ho.rd.mono (by omega)⟩
theorem OwnRows.kept {w w1 : World} {lo hi lo' hi' : Nat} {v : Value} {rows : List (List Int)} (h : OwnRows w lo' hi' v rows) (hk : KeptOut w w1 lo hi) (hd : hi' ≤ lo ∨ hi ≤ lo') : OwnRows w1 lo' hi' v rows := by
  obtain ⟨vs, β, h1, h2, h3, h4, h5, h6, h7, h8⟩ := h
  have h10 := h4 0 rows.length (Nat.zero_le _)
  refine ⟨vs, β, h1, ?_, h3, h4, h5, Nat.le_trans h6 hk.2.2.2.1, h7, fun i hi => ?_⟩
  · refine ⟨h2.1, ?_⟩
    rcases h2.2 with hn | ⟨g, cap, cur, hv, hg, hc, r⟩
    · exact .inl hn
    · refine .inr ⟨g, cap, cur, hv, hg, ?_, r⟩
      have hgi := h3 g (by rw [hv]; rfl)
      rw [hk.2.2.2.2 g (by omega) (by omega)]
      exact hc
  · obtain ⟨u, hu, ho⟩ := h8 i hi
    have h11 := h4 (i + 1) rows.length hi
    have h12 := h4 0 i (Nat.zero_le _)
    exact ⟨u, hu, hk.own ho (by omega)⟩
theorem OwnRows.below {w w1 : World} {lo hi : Nat} {v : Value} {rows : List (List Int)} (h : OwnRows w lo hi v rows) (hb : Below w.heap.size w w1) : OwnRows w1 lo hi v rows :=
  h.kept (lo := hi) (hi := hi) (KeptOut.of_below hb) (.inl (Nat.le_refl _))
/-- What a function that makes rows answers. -/
def NewRows (w : World) (rows : List (List Int)) (e : Ending) (w' : World) : Prop := ∃ r, e = .returned r ∧ OwnRows w' w.heap.size w'.heap.size r rows ∧ Below w.heap.size w w'
end Go.Proofs.Ytgabcdploeledaa
