
/- Sums of elements, both. -/
import Derived.Test.YtgbmacppgaopfabGreatZero
import Derived.Test.YtgbmacppgaopfabGreatElem
import Derived.StillTailTactics
namespace Go.Proofs.YtgbmacppgaopfabGreat
set_option maxRecDepth 20000
open Go.RowKit

set_option maxHeartbeats 800000 in
theorem plus_int (k p n a b : Int) (w : World) (hr : ringB k p n = true) (ha : 0 ≤ a) (ha2 : a ≤ 1048576) (hb : 0 ≤ b) (hb2 : b ≤ 1048576) :
    Calls Tryz.prog 114 #[ringV k p n, .int .i64 a, .int .i64 b] w fun e w' => e = .returned (.int .i64 (plusI k p a b)) ∧ Below w.heap.size w w' := by
  rcases ring_cases hr with ⟨rfl, g⟩ | ⟨rfl, g⟩ | ⟨rfl, g⟩ | ⟨rfl, g⟩ | ⟨rfl, g⟩ | ⟨rfl, g⟩ | ⟨rfl, g⟩ | ⟨rfl, g⟩
  all_goals
    clear hr
    go_enter Tryz.func114, Tryz.ntmps114
    go_wp2
    all_goals
      go_ret
      exact ⟨by first | (simp [plusI]; done) | (simp [plusI]; omega), (Below.refl _ _).alloc (Nat.le_refl _) _⟩

theorem getD_of {xs : List Int} {i : Nat} {x : Int} (h : xs[i]? = some x) : xs.getD i 0 = x := by rw [List.getD_eq_getElem?_getD, h]; rfl

theorem Inv.set {w0 w : World} {b : Nat} {k p n : Int} {q : Addr} (h : Inv w0 w b k p n) (h1 : b < q.block) (h2 : w0.heap.size ≤ q.block) (u : Value) : Inv w0 (w.setCell q u) b k p n :=
  ⟨h.1.setCell h2 u, h.2.1.below ((Below.refl _ _).setCell (Nat.le_refl _) u) h1, by simpa using h.2.2⟩
/-- A slot of a row of the call's own is there. -/
theorem row_slot {w : World} {B g m j : Nat} {zs : List Int} (h : Hid (w.ownsRow B 3 1 (.slice (some ⟨g, 0, none⟩) m m) m (ints zs))) (hj : j < zs.length) : ∃ x, zs[j]? = some x ∧ w.cell? ⟨g, j, none⟩ = some (.int .i64 x) := by
  have hl : (ints zs).length = m * 1 := h.out.1
  rw [ints_len] at hl
  exact ⟨zs[j], List.getElem?_eq_getElem hj, by rw [h.out.cellAt j (by omega), ints_at _ _ hj]⟩
theorem own_row_by {w w' : World} {B n : Nat} {E : TypeId} {v : Value} {xs : List Value} (h : w.ownsRow B E 1 v n xs) (hb : Below w.heap.size w w') : w'.ownsRow B E 1 v n xs :=
  h.kept (row := none) ⟨hb.os, hb.tape, hb.output, hb.size, fun k hk _ => hb.block k hk⟩ (by
    cases hv : v.ownBlock with
    | none => exact .inl rfl
    | some g => exact .inr (by simp))
/-- The row X with x added at s, j places so far. -/
def addAt (k p : Int) (X : List Int) (s : Nat) (x : List Int) (j : Nat) : List Int := (List.range X.length).map fun i => if s ≤ i ∧ i < s + j then plusI k p (X.getD i 0) (x.getD (i - s) 0) else X.getD i 0
theorem addAt_len (k p : Int) (X : List Int) (s : Nat) (x : List Int) (j : Nat) : (addAt k p X s x j).length = X.length := by simp [addAt]
theorem addAt_zero (k p : Int) (X : List Int) (s : Nat) (x : List Int) : addAt k p X s x 0 = X := by
  apply List.ext_getElem (by simp [addAt])
  intro i h1 h2
  simp only [addAt, List.getElem_map, List.getElem_range]
  rw [if_neg (by omega), List.getD_eq_getElem?_getD, List.getElem?_eq_getElem h2]
  rfl
theorem addAt_at {k p : Int} {X : List Int} {s : Nat} {x : List Int} {j : Nat} {a : Int} (ha : X[s + j]? = some a) : (addAt k p X s x j)[s + j]? = some a := by
  have hl := (List.getElem?_eq_some_iff.1 ha).1
  unfold addAt
  rw [List.getElem?_map, List.getElem?_range hl]
  show some (if _ then _ else _) = _
  rw [if_neg (by omega), getD_of ha]
theorem addAt_next {k p : Int} {X : List Int} {s : Nat} {x : List Int} {j : Nat} {a b : Int} (ha : X[s + j]? = some a) (hb : x[j]? = some b) : (addAt k p X s x j).set (s + j) (plusI k p a b) = addAt k p X s x (j + 1) := by
  apply List.ext_getElem (by simp [addAt])
  intro i h1 h2
  simp only [addAt, List.getElem_set, List.getElem_map, List.getElem_range]
  by_cases h : s + j = i
  · subst h
    rw [if_pos rfl, if_pos (by omega), getD_of ha, Nat.add_sub_cancel_left, getD_of hb]
  · rw [if_neg h]
    by_cases h3 : s ≤ i ∧ i < s + j
    · rw [if_pos h3, if_pos (by omega)]
    · rw [if_neg h3, if_neg (by omega)]
/-- The call's memory: the row that is written, and the ring's box. -/
def AddS (w : World) (lo g m cap r : Nat) (k p n : Int) (zs : List Int) (wr : World) : Prop :=
  w.grownBy wr (some g) ∧ wr.ownsRow lo 3 1 (.slice (some ⟨g, 0, none⟩) m cap) m (ints zs) ∧ (wr.cell? ⟨r, 0, none⟩ = some (.int .i64 k) ∧ wr.cell? ⟨r, 1, none⟩ = some (.int .i64 p) ∧ wr.cell? ⟨r, 2, none⟩ = some (.int .i64 n)) ∧ r < wr.heap.size ∧ g ≠ r
theorem AddS.step {w wr w' : World} {lo g m cap r : Nat} {k p n : Int} {zs : List Int} (h : AddS w lo g m cap r k p n zs wr) (hb : Below wr.heap.size wr w') : AddS w lo g m cap r k p n zs w' := by
  obtain ⟨h1, h2, ⟨h3, h4, h5⟩, h6, h7⟩ := h
  refine ⟨⟨hb.os.trans h1.os, hb.tape.trans h1.tape, hb.output.trans h1.output, Nat.le_trans h1.size hb.size, fun j hj hne => (hb.block j (Nat.lt_of_lt_of_le hj h1.size)).trans (h1.block j hj hne)⟩, own_row_by h2 hb, ⟨?_, ?_, ?_⟩, Nat.lt_of_lt_of_le h6 hb.size, h7⟩
  · exact (hb.cell (p := ⟨r, 0, none⟩) h6).trans h3
  · exact (hb.cell (p := ⟨r, 1, none⟩) h6).trans h4
  · exact (hb.cell (p := ⟨r, 2, none⟩) h6).trans h5
theorem AddS.drew {w wr : World} {lo g m cap r : Nat} {k p n : Int} {zs : List Int} (h : AddS w lo g m cap r k p n zs wr) : AddS w lo g m cap r k p n zs wr.drew := h.step (Below.drew (Below.refl _ _))
theorem AddS.set {w wr : World} {lo g m cap r : Nat} {k p n : Int} {zs : List Int} (h : AddS w lo g m cap r k p n zs wr) (i : Nat) (x : Int) : AddS w lo g m cap r k p n (zs.set i x) (wr.setCell ⟨g, i, none⟩ (.int .i64 x)) := by
  obtain ⟨h1, h2, ⟨h3, h4, h5⟩, h6, h7⟩ := h
  have e := (h2.stored i (.int .i64 x)).1
  rw [← ints_set] at e
  refine ⟨grownBy_setCell h1 rfl _, e, ⟨?_, ?_, ?_⟩, by simpa using h6, h7⟩
  · exact (World.cell?_of_block (w := wr) (Below.heap_setCell wr ⟨g, i, none⟩ _ r (fun e => h7 e.symm))).trans h3
  · exact (World.cell?_of_block (w := wr) (Below.heap_setCell wr ⟨g, i, none⟩ _ r (fun e => h7 e.symm))).trans h4
  · exact (World.cell?_of_block (w := wr) (Below.heap_setCell wr ⟨g, i, none⟩ _ r (fun e => h7 e.symm))).trans h5
theorem AddS.at {w wr : World} {lo g m cap r : Nat} {k p n : Int} {zs : List Int} (h : AddS w lo g m cap r k p n zs wr) {i : Nat} {a : Int} (hi : zs[i]? = some a) : wr.cell? ⟨g, i, none⟩ = some (.int .i64 a) ∧ wr.frozen? ⟨g, i, none⟩ = false := by
  obtain ⟨h1, h2, -⟩ := h
  have hl : (ints zs).length = m * 1 := h2.1
  rw [ints_len] at hl
  have hlt := (List.getElem?_eq_some_iff.1 hi).1
  refine ⟨?_, h2.frozenAt i⟩
  rw [h2.cellAt i (by omega)]
  simp [ints, hi]

set_option maxHeartbeats 1600000 in
theorem add_to_full {lo g m cap s cs cx wd bx ox : Nat} {k p n : Int} {X x : List Int} {w : World} (hr : ringB k p n = true) (hX : X.length = m) (hx : x.length = wd) (hw : wd ≤ 6) (hs : s + wd ≤ m) (hm : m ≤ 281474976710656)
    (hO : w.ownsRow lo 3 1 (.slice (some ⟨g, 0, none⟩) m cap) m (ints X)) (hg : g < w.heap.size) (eX : ∀ j a, j < wd → X[s + j]? = some a → 0 ≤ a ∧ a ≤ 1048576) (ex : Within 1048576 x) (hb : bx < w.heap.size) (hne : bx ≠ g) (hc : ∀ i (h : i < x.length), w.cell? ⟨bx, ox + i, none⟩ = some (.int .i64 x[i])) :
    Calls Tryz.prog 86 #[ringV k p n, .slice (some ⟨g, s, none⟩) wd cs, .slice (some ⟨bx, ox, none⟩) wd cx] w fun e w' => e = .returned (.tuple #[]) ∧ w'.ownsRow lo 3 1 (.slice (some ⟨g, 0, none⟩) m cap) m (ints (addAt k p X s x wd)) ∧ w.grownBy w' (some g) := by
  have HC := Lib.hid hc
  have L1 := Lib.hid hX
  have L2 := Lib.hid hx
  have HR := Lib.hid hr
  have E1 := Lib.hid eX
  have E2 := Lib.hid ex
  have HNE := Lib.hid hne
  have HA0 : Hid (AddS w lo g m cap w.heap.size k p n (addAt k p X s x 0) (w.alloc (.cells (ringC k p n) 24))) := Lib.hid (by
    rw [addAt_zero]
    have hbx := Inv.box w k p n 24
    have hbl := (Below.refl w.heap.size w).alloc (Nat.le_refl _) (.cells (ringC k p n) 24)
    exact ⟨⟨hbl.os, hbl.tape, hbl.output, hbl.size, fun j hj _ => hbl.block j hj⟩, own_row_by hO hbl, hbx.cells, by simp, by omega⟩)
  clear hc hX hx hr eX ex hO hne
  go_enter Tryz.func86, Tryz.ntmps86
  go_wp2
  go_loopw [10] (fun i wr => ∃ j : Nat, j ≤ wd ∧ i = .int .i64 j ∧ Hid (AddS w lo g m cap w.heap.size k p n (addAt k p X s x j) wr)) (fun i _ => wd - (intOf i).toNat)
  case atStart => exact ⟨0, by omega, rfl, HA0⟩
  case round =>
    clear HA0
    obtain ⟨j, hj, rfl, HA⟩ := hrel
    by_cases hlt : j < wd
    · obtain ⟨b, e2, Y1⟩ := ints_cell L2.out HC.out hlt
      obtain ⟨a, X1⟩ : ∃ a, Hid (X[s + j]? = some a) := ⟨_, Lib.hid (List.getElem?_eq_getElem (by rw [L1.out]; omega))⟩
      have wa := E1.out j a hlt X1.out
      have wb := E2.out b (List.mem_of_getElem? Y1.out)
      obtain ⟨-, -, ⟨c0, c1, c2⟩, -, -⟩ := HA.out
      have d2 : wr.cell? ⟨bx, ox + j, none⟩ = some (.int .i64 b) := (World.cell?_of_block (w := w) (HA.out.1.block bx hb (fun e => HNE.out (by injection e)))).trans e2
      obtain ⟨d1, f1⟩ := HA.out.at (addAt_at (k := k) (p := p) (x := x) X1.out)
      obtain ⟨v, hv⟩ : ∃ v, v = plusI k p a b := ⟨_, rfl⟩
      have HVV := Lib.hid hv
      clear e2 hv
      go_wp2
      go_region_with (go_at_call 114; refine (plus_int k p n a b _ HR.out (by omega) (by omega) (by omega) (by omega)).mono ?_; rw [← HVV.out]; rintro e w3 ⟨rfl, hb3⟩; have HA3 := Lib.hid (HA.out.drew.step hb3); obtain ⟨c3, f3⟩ := HA3.out.at (addAt_at (k := k) (p := p) (x := x) X1.out))
      all_goals
        have HA4 := Lib.hid (HA3.out.set (s + j) v)
        rw [HVV.out, addAt_next X1.out Y1.out, ← HVV.out] at HA4
        clear hb3 c3 f3 c0 c1 c2 d1 d2 f1
        go_wp2
        go_roundw
        case rel => exact ⟨j + 1, by omega, by go_num, HA4⟩
        case measure => simp [intOf]; omega
    · obtain rfl : j = wd := by omega
      go_wp2
      refine bodyPost_end (v := .tuple #[]) (by simp [results, Tryz.results86, go_sem]) rfl ?_
      exact ⟨rfl, HA.out.2.1, HA.out.1⟩

end Go.Proofs.YtgbmacppgaopfabGreat
namespace Go.Proofs.YtgbmacppgaopfabGreat
set_option maxRecDepth 20000
open Go.RowKit

end Go.Proofs.YtgbmacppgaopfabGreat
