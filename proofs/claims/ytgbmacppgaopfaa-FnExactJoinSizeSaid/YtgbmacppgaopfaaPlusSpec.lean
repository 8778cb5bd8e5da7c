
/- Sums of elements, both. -/
import Derived.Test.YtgbmacppgaopfaaZero
import Derived.Test.YtgbmacppgaopfaaElem
import Derived.StillTailTactics
namespace Go.Proofs.Ytgbmacppgaopfaa
set_option maxRecDepth 20000
open Go.RowKit

set_option maxHeartbeats 800000 in
theorem plus_int (k p n a b : Int) (w : World) (hr : ringB k p n = true) (ha : 0 ≤ a) (ha2 : a ≤ 1048576) (hb : 0 ≤ b) (hb2 : b ≤ 1048576) :
    Calls Try.prog 156 #[ringV k p n, .int .i64 a, .int .i64 b] w fun e w' => e = .returned (.int .i64 (plusI k p a b)) ∧ Below w.heap.size w w' := by
  rcases ring_cases hr with ⟨rfl, g⟩ | ⟨rfl, g⟩ | ⟨rfl, g⟩ | ⟨rfl, g⟩ | ⟨rfl, g⟩ | ⟨rfl, g⟩ | ⟨rfl, g⟩ | ⟨rfl, g⟩
  all_goals
    clear hr
    go_enter Try.func156, Try.ntmps156
    go_wp2
    all_goals
      go_ret
      exact ⟨by first | (simp [plusI]; done) | (simp [plusI]; omega), (Below.refl _ _).alloc (Nat.le_refl _) _⟩

def fillL (m : Nat) (f : Nat → Int) (j : Nat) : List Int := (List.range m).map fun i => if i < j then f i else 0
theorem fillL_len (m : Nat) (f : Nat → Int) (j : Nat) : (fillL m f j).length = m := by simp [fillL]
theorem fillL_zero (m : Nat) (f : Nat → Int) : fillL m f 0 = zerosL m := by
  apply List.ext_getElem (by simp [fillL, zerosL])
  intro i h1 h2
  simp [fillL, zerosL]
theorem fillL_set (m : Nat) (f : Nat → Int) (j : Nat) : (fillL m f j).set j (f j) = fillL m f (j + 1) := by
  apply List.ext_getElem (by simp [fillL])
  intro i h1 h2
  simp only [fillL, List.getElem_set, List.getElem_map, List.getElem_range]
  by_cases h : j = i
  · subst h; simp
  · rw [if_neg h]
    by_cases h3 : i < j
    · rw [if_pos h3, if_pos (by omega)]
    · rw [if_neg h3, if_neg (by omega)]
theorem fillL_full (m : Nat) (f : Nat → Int) : fillL m f m = (List.range m).map f := by
  apply List.ext_getElem (by simp [fillL])
  intro i h1 h2
  have : i < m := by simpa [fillL] using h1
  simp [fillL, this]
theorem getD_of {xs : List Int} {i : Nat} {x : Int} (h : xs[i]? = some x) : xs.getD i 0 = x := by rw [List.getD_eq_getElem?_getD, h]; rfl

theorem Inv.set {w0 w : World} {b : Nat} {k p n : Int} {q : Addr} (h : Inv w0 w b k p n) (h1 : b < q.block) (h2 : w0.heap.size ≤ q.block) (u : Value) : Inv w0 (w.setCell q u) b k p n :=
  ⟨h.1.setCell h2 u, h.2.1.below ((Below.refl _ _).setCell (Nat.le_refl _) u) h1, by simpa using h.2.2⟩
/-- A slot of a row of the call's own is there. -/
theorem row_slot {w : World} {B g m j : Nat} {zs : List Int} (h : Hid (w.ownsRow B 3 1 (.slice (some ⟨g, 0, none⟩) m m) m (ints zs))) (hj : j < zs.length) : ∃ x, zs[j]? = some x ∧ w.cell? ⟨g, j, none⟩ = some (.int .i64 x) := by
  have hl : (ints zs).length = m * 1 := h.out.1
  rw [ints_len] at hl
  exact ⟨zs[j], List.getElem?_eq_getElem hj, by rw [h.out.cellAt j (by omega), ints_at _ _ hj]⟩
theorem own_row_by {w w' : World} {B n : Nat} {E : TypeId} {v : Value} {xs : List Value} (h : w.ownsRow B E 1 v n xs) (hb : Below w.heap.size w w') : w'.ownsRow B E 1 v n xs :=
  h.kept (row := none) ⟨hb.os, hb.tape, hb.output, hb.size, fun k hk _ => hb.block k hk⟩ (by
    cases hv : v.ownBlock with
    | none => exact .inl rfl
    | some g => exact .inr (by simp))
theorem row_after {w w1 w' : World} {B g m j : Nat} {zs : List Int} (h : Hid (w.ownsRow B 3 1 (.slice (some ⟨g, 0, none⟩) m m) m (ints zs))) (hb : Below w1.heap.size w1 w') (hh : w1.heap = w.heap) (hs : Hid (∃ x, zs[j]? = some x ∧ w.cell? ⟨g, j, none⟩ = some (.int .i64 x))) :
    Hid (w'.ownsRow B 3 1 (.slice (some ⟨g, 0, none⟩) m m) m (ints zs)) ∧ w'.cell? ⟨g, j, none⟩ = some (.int .i64 (zs.getD j 0)) ∧ w'.frozen? ⟨g, j, none⟩ = false := by
  have h1 : w1.ownsRow B 3 1 (.slice (some ⟨g, 0, none⟩) m m) m (ints zs) := by
    have := h.out
    unfold World.ownsRow at this ⊢
    rw [hh]; exact this
  have h2 := own_row_by h1 hb
  obtain ⟨x, hx, hc⟩ := hs.out
  have hl : (ints zs).length = m * 1 := h1.1
  rw [ints_len] at hl
  have hj := (List.getElem?_eq_some_iff.1 hx).1
  exact ⟨h2, by rw [getD_of hx, h2.cellAt j (by omega)]; simp [ints, hx], h2.frozenAt j⟩

/-- The row X with x added at s, j places so far. -/
def addAt (k p : Int) (X : List Int) (s : Nat) (x : List Int) (j : Nat) : List Int := (List.range X.length).map fun i => if s ≤ i ∧ i < s + j then plusI k p (X.getD i 0) (x.getD (i - s) 0) else X.getD i 0
theorem addAt_len (k p : Int) (X : List Int) (s : Nat) (x : List Int) (j : Nat) : (addAt k p X s x j).length = X.length := by simp [addAt]
theorem addAt_zero (k p : Int) (X : List Int) (s : Nat) (x : List Int) : addAt k p X s x 0 = X := by
  apply List.ext_getElem (by simp [addAt])
  intro i h1 h2
  simp only [addAt, List.getElem_map, List.getElem_range]
  rw [if_neg (by omega), List.getD_eq_getElem?_getD, List.getElem?_eq_getElem h2]
  rfl
theorem addAt_at {k p : Int} {X : List Int} {s : Nat} {x : List Int} {j : Nat} {a : Int} (ha : X[s + j]? = some a) : (addAt k p X s x j)[s + j]? = some a := by
  have hl := (List.getElem?_eq_some_iff.1 ha).1
  unfold addAt
  rw [List.getElem?_map, List.getElem?_range hl]
  show some (if _ then _ else _) = _
  rw [if_neg (by omega), getD_of ha]
theorem addAt_next {k p : Int} {X : List Int} {s : Nat} {x : List Int} {j : Nat} {a b : Int} (ha : X[s + j]? = some a) (hb : x[j]? = some b) : (addAt k p X s x j).set (s + j) (plusI k p a b) = addAt k p X s x (j + 1) := by
  apply List.ext_getElem (by simp [addAt])
  intro i h1 h2
  simp only [addAt, List.getElem_set, List.getElem_map, List.getElem_range]
  by_cases h : s + j = i
  · subst h
    rw [if_pos rfl, if_pos (by omega), getD_of ha, Nat.add_sub_cancel_left, getD_of hb]
  · rw [if_neg h]
    by_cases h3 : s ≤ i ∧ i < s + j
    · rw [if_pos h3, if_pos (by omega)]
    · rw [if_neg h3, if_neg (by omega)]
theorem addAt_all {k p : Int} {xs ys : List Int} : addAt k p xs 0 ys xs.length = plusL k p xs ys := by
  apply List.ext_getElem (by simp [addAt, plusL])
  intro i h1 h2
  have h3 : i < xs.length := by simpa [addAt] using h1
  simp only [addAt, plusL, List.getElem_map, List.getElem_range]
  rw [if_pos (by omega), Nat.sub_zero]
/-- The call's memory: the row that is written, and the ring's box. -/
def AddS (w : World) (lo g m cap r : Nat) (k p n : Int) (zs : List Int) (wr : World) : Prop :=
  w.grownBy wr (some g) ∧ wr.ownsRow lo 3 1 (.slice (some ⟨g, 0, none⟩) m cap) m (ints zs) ∧ (wr.cell? ⟨r, 0, none⟩ = some (.int .i64 k) ∧ wr.cell? ⟨r, 1, none⟩ = some (.int .i64 p) ∧ wr.cell? ⟨r, 2, none⟩ = some (.int .i64 n)) ∧ r < wr.heap.size ∧ g ≠ r
theorem AddS.step {w wr w' : World} {lo g m cap r : Nat} {k p n : Int} {zs : List Int} (h : AddS w lo g m cap r k p n zs wr) (hb : Below wr.heap.size wr w') : AddS w lo g m cap r k p n zs w' := by
  obtain ⟨h1, h2, ⟨h3, h4, h5⟩, h6, h7⟩ := h
  refine ⟨⟨hb.os.trans h1.os, hb.tape.trans h1.tape, hb.output.trans h1.output, Nat.le_trans h1.size hb.size, fun j hj hne => (hb.block j (Nat.lt_of_lt_of_le hj h1.size)).trans (h1.block j hj hne)⟩, own_row_by h2 hb, ⟨?_, ?_, ?_⟩, Nat.lt_of_lt_of_le h6 hb.size, h7⟩
  · exact (hb.cell (p := ⟨r, 0, none⟩) h6).trans h3
  · exact (hb.cell (p := ⟨r, 1, none⟩) h6).trans h4
  · exact (hb.cell (p := ⟨r, 2, none⟩) h6).trans h5
theorem AddS.drew {w wr : World} {lo g m cap r : Nat} {k p n : Int} {zs : List Int} (h : AddS w lo g m cap r k p n zs wr) : AddS w lo g m cap r k p n zs wr.drew := h.step (Below.drew (Below.refl _ _))
theorem AddS.set {w wr : World} {lo g m cap r : Nat} {k p n : Int} {zs : List Int} (h : AddS w lo g m cap r k p n zs wr) (i : Nat) (x : Int) : AddS w lo g m cap r k p n (zs.set i x) (wr.setCell ⟨g, i, none⟩ (.int .i64 x)) := by
  obtain ⟨h1, h2, ⟨h3, h4, h5⟩, h6, h7⟩ := h
  have e := (h2.stored i (.int .i64 x)).1
  rw [← ints_set] at e
  refine ⟨grownBy_setCell h1 rfl _, e, ⟨?_, ?_, ?_⟩, by simpa using h6, h7⟩
  · exact (World.cell?_of_block (w := wr) (Below.heap_setCell wr ⟨g, i, none⟩ _ r (fun e => h7 e.symm))).trans h3
  · exact (World.cell?_of_block (w := wr) (Below.heap_setCell wr ⟨g, i, none⟩ _ r (fun e => h7 e.symm))).trans h4
  · exact (World.cell?_of_block (w := wr) (Below.heap_setCell wr ⟨g, i, none⟩ _ r (fun e => h7 e.symm))).trans h5
theorem AddS.at {w wr : World} {lo g m cap r : Nat} {k p n : Int} {zs : List Int} (h : AddS w lo g m cap r k p n zs wr) {i : Nat} {a : Int} (hi : zs[i]? = some a) : wr.cell? ⟨g, i, none⟩ = some (.int .i64 a) ∧ wr.frozen? ⟨g, i, none⟩ = false := by
  obtain ⟨h1, h2, -⟩ := h
  have hl : (ints zs).length = m * 1 := h2.1
  rw [ints_len] at hl
  have hlt := (List.getElem?_eq_some_iff.1 hi).1
  refine ⟨?_, h2.frozenAt i⟩
  rw [h2.cellAt i (by omega)]
  simp [ints, hi]

set_option maxHeartbeats 1600000 in
theorem add_to_full {lo g m cap s cs cx wd bx ox : Nat} {k p n : Int} {X x : List Int} {w : World} (hr : ringB k p n = true) (hX : X.length = m) (hx : x.length = wd) (hw : wd ≤ 6) (hs : s + wd ≤ m) (hm : m ≤ 281474976710656)
    (hO : w.ownsRow lo 3 1 (.slice (some ⟨g, 0, none⟩) m cap) m (ints X)) (hg : g < w.heap.size) (eX : ∀ j a, j < wd → X[s + j]? = some a → 0 ≤ a ∧ a ≤ 1048576) (ex : Within 1048576 x) (hb : bx < w.heap.size) (hne : bx ≠ g) (hc : ∀ i (h : i < x.length), w.cell? ⟨bx, ox + i, none⟩ = some (.int .i64 x[i])) :
    Calls Try.prog 132 #[ringV k p n, .slice (some ⟨g, s, none⟩) wd cs, .slice (some ⟨bx, ox, none⟩) wd cx] w fun e w' => e = .returned (.tuple #[]) ∧ w'.ownsRow lo 3 1 (.slice (some ⟨g, 0, none⟩) m cap) m (ints (addAt k p X s x wd)) ∧ w.grownBy w' (some g) := by
  have HC := Lib.hid hc
  have L1 := Lib.hid hX
  have L2 := Lib.hid hx
  have HR := Lib.hid hr
  have E1 := Lib.hid eX
  have E2 := Lib.hid ex
  have HNE := Lib.hid hne
  have HA0 : Hid (AddS w lo g m cap w.heap.size k p n (addAt k p X s x 0) (w.alloc (.cells (ringC k p n) 30))) := Lib.hid (by
    rw [addAt_zero]
    have hbx := Inv.box w k p n 30
    have hbl := (Below.refl w.heap.size w).alloc (Nat.le_refl _) (.cells (ringC k p n) 30)
    exact ⟨⟨hbl.os, hbl.tape, hbl.output, hbl.size, fun j hj _ => hbl.block j hj⟩, own_row_by hO hbl, hbx.cells, by simp, by omega⟩)
  clear hc hX hx hr eX ex hO hne
  go_enter Try.func132, Try.ntmps132
  go_wp2
  go_loopw [10] (fun i wr => ∃ j : Nat, j ≤ wd ∧ i = .int .i64 j ∧ Hid (AddS w lo g m cap w.heap.size k p n (addAt k p X s x j) wr)) (fun i _ => wd - (intOf i).toNat)
  case atStart => exact ⟨0, by omega, rfl, HA0⟩
  case round =>
    clear HA0
    obtain ⟨j, hj, rfl, HA⟩ := hrel
    by_cases hlt : j < wd
    · obtain ⟨b, e2, Y1⟩ := ints_cell L2.out HC.out hlt
      obtain ⟨a, X1⟩ : ∃ a, Hid (X[s + j]? = some a) := ⟨_, Lib.hid (List.getElem?_eq_getElem (by rw [L1.out]; omega))⟩
      have wa := E1.out j a hlt X1.out
      have wb := E2.out b (List.mem_of_getElem? Y1.out)
      obtain ⟨-, -, ⟨c0, c1, c2⟩, -, -⟩ := HA.out
      have d2 : wr.cell? ⟨bx, ox + j, none⟩ = some (.int .i64 b) := (World.cell?_of_block (w := w) (HA.out.1.block bx hb (fun e => HNE.out (by injection e)))).trans e2
      obtain ⟨d1, f1⟩ := HA.out.at (addAt_at (k := k) (p := p) (x := x) X1.out)
      obtain ⟨v, hv⟩ : ∃ v, v = plusI k p a b := ⟨_, rfl⟩
      have HVV := Lib.hid hv
      clear e2 hv
      go_wp2
      go_region_with (go_at_call 156; refine (plus_int k p n a b _ HR.out (by omega) (by omega) (by omega) (by omega)).mono ?_; rw [← HVV.out]; rintro e w3 ⟨rfl, hb3⟩; have HA3 := Lib.hid (HA.out.drew.step hb3); obtain ⟨c3, f3⟩ := HA3.out.at (addAt_at (k := k) (p := p) (x := x) X1.out))
      all_goals
        have HA4 := Lib.hid (HA3.out.set (s + j) v)
        rw [HVV.out, addAt_next X1.out Y1.out, ← HVV.out] at HA4
        clear hb3 c3 f3 c0 c1 c2 d1 d2 f1
        go_wp2
        go_roundw
        case rel => exact ⟨j + 1, by omega, by go_num, HA4⟩
        case measure => simp [intOf]; omega
    · obtain rfl : j = wd := by omega
      go_wp2
      refine bodyPost_end (v := .tuple #[]) (by simp [results, Try.results132, go_sem]) rfl ?_
      exact ⟨rfl, HA.out.2.1, HA.out.1⟩

theorem own_base {w : World} {lo lo' m : Nat} {E : TypeId} {sz : Nat} {v : Value} {xs : List Value} (h : w.ownsRow lo E sz v m xs) (h1 : lo' ≤ lo) : w.ownsRow lo' E sz v m xs := ⟨h.1, h.2.imp id (fun ⟨g, cap, cur, e, hb, q⟩ => ⟨g, cap, cur, e, Nat.le_trans h1 hb, q⟩)⟩
set_option maxHeartbeats 1600000 in
theorem plus_impl_full {B : Nat} {vx : Value} {cy m by' oy : Nat} {k p n : Int} {xs ys : List Int} {w : World} (hr : ringB k p n = true) (h : Rd B w vx (ints xs)) (hx : xs.length = m) (hy : ys.length = m) (hm0 : 1 ≤ m) (hm : m ≤ 6) (hB : B ≤ w.heap.size)
    (hex : Within 1048576 xs) (hey : Within 1048576 ys) (hby : by' < w.heap.size) (hcy : ∀ i (h : i < ys.length), w.cell? ⟨by', oy + i, none⟩ = some (.int .i64 ys[i])) :
    Calls Try.prog 109 #[ringV k p n, vx, .slice (some ⟨by', oy, none⟩) m cy] w (NewRow w (plusL k p xs ys)) := by
  have L1 := Lib.hid hx
  have L2 := Lib.hid hy
  have HR := Lib.hid hr
  have E1 := Lib.hid hex
  have E2 := Lib.hid hey
  have HV1 := Lib.hid (Inv.box w k p n 30)
  have HCL := Lib.hid (clone_any (h.below HV1.out.1 hB) (Nat.le_trans hB HV1.out.1.size) (by omega))
  have HCY := Lib.hid hcy
  clear hx hy hr hex hey h hcy
  obtain ⟨c0, c1, c2⟩ := HV1.out.cells
  go_enter Try.func109, Try.ntmps109
  go_wp2_with fail
  refine HCL.out.mono ?_
  rintro e w1 ⟨v, rfl, ho, hb⟩
  have HV2 := Lib.hid (HV1.out.step hb)
  obtain ⟨c0, c1, c2⟩ := HV2.out.cells
  obtain ⟨g, cap, rfl, hglo, hghi⟩ : ∃ g cap, v = .slice (some ⟨g, 0, none⟩) m cap ∧ w.heap.size + 1 ≤ g ∧ g < w1.heap.size := by
    rcases ho.1.2 with ⟨-, hnil⟩ | ⟨g, cap, cur, e, hlo, -⟩
    · exfalso; have := L1.out; rw [hnil] at this; omega
    · rw [L1.out] at e
      have h1 := ho.2.1 g (by rw [e]; rfl)
      exact ⟨g, cap, e, by simpa using hlo, h1⟩
  have HO : Hid (w1.ownsRow (w.heap.size + 1) 3 1 (.slice (some ⟨g, 0, none⟩) m cap) m (ints xs)) := Lib.hid (by
    have h := ho.1
    rw [L1.out] at h
    simpa using h)
  have HAT := Lib.hid (add_to_full (s := 0) (cs := cap) (cx := cy) (ox := oy) HR.out L1.out L2.out hm (by omega) (by omega) HO.out hghi (fun j a _ ha => E1.out a (List.mem_of_getElem? ha)) E2.out (Nat.lt_of_lt_of_le hby HV2.out.1.size) (by omega) (fun i hi => (HV2.out.1.cell (p := ⟨by', oy + i, none⟩) hby).trans (HCY.out i hi)))
  clear hb ho HCL HV1
  go_wp2_with fail
  refine HAT.out.mono ?_
  rintro e w2 ⟨rfl, ho, hg⟩
  go_wp2
  go_ret
  refine ⟨_, rfl, Own.of (n := m) ?_ (by simp [plusL, L1.out]), HV2.out.1.grown hg HV2.out.1.size (fun j hj => by injection hj with hj; omega)⟩
  have e : addAt k p xs 0 ys m = plusL k p xs ys := by rw [← L1.out]; exact addAt_all
  rw [e] at ho
  exact own_base ho (by omega)

/-- (Ring).plus on elements. -/
theorem plus_impl {B : Nat} {vx vy : Value} {k p n : Int} {xs ys : List Int} {w : World} (hr : ringB k p n = true) (hx : Rd B w vx (ints xs)) (hy : Rd B w vy (ints ys)) (hB : B ≤ w.heap.size) (ex : ElemV k p n xs) (ey : ElemV k p n ys) :
    Calls Try.prog 109 #[ringV k p n, vx, vy] w (NewRow w (plusL k p xs ys)) := by
  obtain ⟨ay, cy, rfl, hay⟩ := ints_form hy
  have h1 := ring_width hr
  have h2 := ring_top hr
  have l1 := ex.1
  have l2 := ey.1
  have hl : ys.length = xs.length := by omega
  rw [hl]
  obtain ⟨b, oy, rfl, hb, hc⟩ := hay (by omega)
  exact plus_impl_full hr hx rfl hl (by omega) (by omega) hB (fun x hx => by have := ex.2 x hx; omega) (fun x hx => by have := ey.2 x hx; omega) (Nat.lt_of_lt_of_le hb hB) hc
end Go.Proofs.Ytgbmacppgaopfaa
namespace Go.Proofs.Ytgbmacppgaopfaa
set_option maxRecDepth 20000
open Go.RowKit

theorem plus_step {w w1 : World} {B g m j : Nat} {k p a b v : Int} {xs ys : List Int} (h : Hid (w.ownsRow B 3 1 (.slice (some ⟨g, 0, none⟩) m m) m (ints (fillL m (fun i => plusI k p (xs.getD i 0) (ys.getD i 0)) j)))) (hh : w1.heap = w.heap) (hx : Hid (xs[j]? = some a)) (hy : Hid (ys[j]? = some b)) (hv : v = plusI k p a b) :
    Hid ((w1.setCell ⟨g, j, none⟩ (.int .i64 v)).ownsRow B 3 1 (.slice (some ⟨g, 0, none⟩) m m) m (ints (fillL m (fun i => plusI k p (xs.getD i 0) (ys.getD i 0)) (j + 1)))) := by
  have h1 : w1.ownsRow B 3 1 (.slice (some ⟨g, 0, none⟩) m m) m (ints (fillL m (fun i => plusI k p (xs.getD i 0) (ys.getD i 0)) j)) := by
    have := h.out
    unfold World.ownsRow at this ⊢
    rw [hh]; exact this
  have h2 := (h1.stored j (.int .i64 v)).1
  rw [← ints_set, hv, ← getD_of hx.out, ← getD_of hy.out, fillL_set m (fun i => plusI k p (xs.getD i 0) (ys.getD i 0)) j, getD_of hx.out, getD_of hy.out, ← hv] at h2
  exact h2

set_option maxHeartbeats 1600000 in
set_option maxRecDepth 100000 in
theorem plus_spec_k1 (ax ay : Option Addr) (cx cy m B0 : Nat) (p n : Int) (xs ys : List Int) (w : World) (hr : ringB 1 p n = true) (hx : xs.length = m) (hy : ys.length = m) (hm0 : 1 ≤ m) (hm : m ≤ 6) (hB0 : B0 ≤ w.heap.size)
    (hex : Within 1048576 xs) (hey : Within 1048576 ys)
    (hax : 0 < m → ∃ b off, ax = some ⟨b, off, none⟩ ∧ b < B0 ∧ ∀ i (h : i < xs.length), w.cell? ⟨b, off + i, none⟩ = some (.int .i64 xs[i]))
    (hay : 0 < m → ∃ b off, ay = some ⟨b, off, none⟩ ∧ b < B0 ∧ ∀ i (h : i < ys.length), w.cell? ⟨b, off + i, none⟩ = some (.int .i64 ys[i])) :
    Calls Try.prog 126 #[ringV 1 p n, .slice ax m cx, .slice ay m cy] w (NewRow w (plusL 1 p xs ys)) := by
  obtain ⟨bx, ox, rfl, hbx, hcx⟩ := hax (by omega)
  obtain ⟨by', oy, rfl, hby, hcy⟩ := hay (by omega)
  have HX := Lib.hid hcx
  have HY := Lib.hid hcy
  have L1 := Lib.hid hx
  have L2 := Lib.hid hy
  have HR := Lib.hid hr
  have E1 := Lib.hid hex
  have E2 := Lib.hid hey
  have hbx2 : bx < w.heap.size := Nat.lt_of_lt_of_le hbx hB0
  have hby2 : by' < w.heap.size := Nat.lt_of_lt_of_le hby hB0
  obtain ⟨B, hB⟩ : ∃ B, B = w.heap.size := ⟨_, rfl⟩
  have HB := Lib.hid hB
  obtain ⟨i0, hi, hz0, hz1, hz2⟩ := info_parts infoInt
  have HV1 := Lib.hid (Inv.box w 1 p n 30)
  clear hax hay hcx hcy hx hy hr hex hey hbx hby hB0 hB
  go_enter Try.func126, Try.ntmps126
  go_wp2_with (at_make; refine wpList_make_full _ rfl _ _ 25 rfl B 3 i0 (.int .i64 0) 1 Try.underlying25 hi hz0 hz1 .i64 .i64 _ _ m rfl rfl rfl rfl (by rw [hz2]; omega) (by unfold maxLen; omega) (by rw [HB.out]; simp) ?_; intro w2 hown hgrow; obtain ⟨HV2, OW, hsz, f0, g1, d0, d1, d2⟩ := made_facts HV1 hown hgrow hm0; clear hown hgrow f0 g1 d0 d1 d2 hi hz0 hz1 hz2)
  have OW2 : Hid (w2.ownsRow B 3 1 (.slice (some ⟨w.heap.size + 1, 0, none⟩) m m) m (ints (zerosL m))) := by
    have h := OW.out
    rw [show (w.alloc (.cells (ringC 1 p n) 30)).heap.size = w.heap.size + 1 from by simp] at h
    exact h
  clear OW HV1
  go_loopw [14] (fun i wr => ∃ j : Nat, j ≤ m ∧ i = .int .i64 j ∧ Hid (Inv w wr w.heap.size 1 p n) ∧ Hid (wr.ownsRow B 3 1 (.slice (some ⟨w.heap.size + 1, 0, none⟩) m m) m (ints (fillL m (fun i => plusI 1 p (xs.getD i 0) (ys.getD i 0)) j)))) (fun i _ => m - (intOf i).toNat)
  case atStart => exact ⟨0, by omega, rfl, HV2, by rw [fillL_zero]; exact OW2⟩
  case round =>
    clear HV2 OW2 hsz
    obtain ⟨j, hj, rfl, HV, HO⟩ := hrel
    by_cases hlt : j < m
    · obtain ⟨a, e1, X1⟩ := ints_cell L1.out HX.out hlt
      obtain ⟨b, e2, Y1⟩ := ints_cell L2.out HY.out hlt
      have wa := E1.out a (List.mem_of_getElem? X1.out)
      have wb := E2.out b (List.mem_of_getElem? Y1.out)
      obtain ⟨c0, c1, c2⟩ := HV.out.cells
      have d1 : wr.cell? ⟨bx, ox + j, none⟩ = some (.int .i64 a) := (HV.out.1.cell (p := ⟨bx, ox + j, none⟩) hbx2).trans e1
      have d2 : wr.cell? ⟨by', oy + j, none⟩ = some (.int .i64 b) := (HV.out.1.cell (p := ⟨by', oy + j, none⟩) hby2).trans e2
      obtain ⟨x0, hx0, c3⟩ := row_slot HO (by rw [fillL_len]; exact hlt)
      have f3 := HO.out.frozenAt j
      clear e1 e2 hx0
      go_wp2
      go_still_tail 12, (by kernel_rfl)
      change wpList _ _ _ _ _ wr.drew
      go_wp2
      go_roundw
      case rel => exact ⟨j + 1, by omega, by go_num, Lib.hid (HV.out.drew.set (q := ⟨w.heap.size + 1, j, none⟩) (by simp) (by simp) _), plus_step (w1 := wr.drew) HO rfl X1 Y1 (by simp [plusI])⟩
      case measure => simp [intOf]; omega
    · obtain rfl : j = m := by omega
      go_wp2
      go_ret
      refine ⟨_, rfl, Own.of (n := j) ?_ (by simp [plusL, L1.out]), HV.out.1⟩
      have h := HO.out
      rw [fillL_full, HB.out] at h
      rw [show plusL 1 p xs ys = (List.range j).map fun i => plusI 1 p (xs.getD i 0) (ys.getD i 0) from by rw [plusL, L1.out]]
      exact h

set_option maxHeartbeats 1600000 in
set_option maxRecDepth 100000 in
theorem plus_spec_k2 (ax ay : Option Addr) (cx cy m B0 : Nat) (p n : Int) (xs ys : List Int) (w : World) (hr : ringB 2 p n = true) (hx : xs.length = m) (hy : ys.length = m) (hm0 : 1 ≤ m) (hm : m ≤ 6) (hB0 : B0 ≤ w.heap.size)
    (hex : Within 1048576 xs) (hey : Within 1048576 ys)
    (hax : 0 < m → ∃ b off, ax = some ⟨b, off, none⟩ ∧ b < B0 ∧ ∀ i (h : i < xs.length), w.cell? ⟨b, off + i, none⟩ = some (.int .i64 xs[i]))
    (hay : 0 < m → ∃ b off, ay = some ⟨b, off, none⟩ ∧ b < B0 ∧ ∀ i (h : i < ys.length), w.cell? ⟨b, off + i, none⟩ = some (.int .i64 ys[i])) :
    Calls Try.prog 126 #[ringV 2 p n, .slice ax m cx, .slice ay m cy] w (NewRow w (plusL 2 p xs ys)) := by
  obtain ⟨bx, ox, rfl, hbx, hcx⟩ := hax (by omega)
  obtain ⟨by', oy, rfl, hby, hcy⟩ := hay (by omega)
  have HX := Lib.hid hcx
  have HY := Lib.hid hcy
  have L1 := Lib.hid hx
  have L2 := Lib.hid hy
  have HR := Lib.hid hr
  have E1 := Lib.hid hex
  have E2 := Lib.hid hey
  have hbx2 : bx < w.heap.size := Nat.lt_of_lt_of_le hbx hB0
  have hby2 : by' < w.heap.size := Nat.lt_of_lt_of_le hby hB0
  obtain ⟨B, hB⟩ : ∃ B, B = w.heap.size := ⟨_, rfl⟩
  have HB := Lib.hid hB
  obtain ⟨i0, hi, hz0, hz1, hz2⟩ := info_parts infoInt
  have HV1 := Lib.hid (Inv.box w 2 p n 30)
  clear hax hay hcx hcy hx hy hr hex hey hbx hby hB0 hB
  go_enter Try.func126, Try.ntmps126
  go_wp2_with (at_make; refine wpList_make_full _ rfl _ _ 25 rfl B 3 i0 (.int .i64 0) 1 Try.underlying25 hi hz0 hz1 .i64 .i64 _ _ m rfl rfl rfl rfl (by rw [hz2]; omega) (by unfold maxLen; omega) (by rw [HB.out]; simp) ?_; intro w2 hown hgrow; obtain ⟨HV2, OW, hsz, f0, g1, d0, d1, d2⟩ := made_facts HV1 hown hgrow hm0; clear hown hgrow f0 g1 d0 d1 d2 hi hz0 hz1 hz2)
  have OW2 : Hid (w2.ownsRow B 3 1 (.slice (some ⟨w.heap.size + 1, 0, none⟩) m m) m (ints (zerosL m))) := by
    have h := OW.out
    rw [show (w.alloc (.cells (ringC 2 p n) 30)).heap.size = w.heap.size + 1 from by simp] at h
    exact h
  clear OW HV1
  go_loopw [14] (fun i wr => ∃ j : Nat, j ≤ m ∧ i = .int .i64 j ∧ Hid (Inv w wr w.heap.size 2 p n) ∧ Hid (wr.ownsRow B 3 1 (.slice (some ⟨w.heap.size + 1, 0, none⟩) m m) m (ints (fillL m (fun i => plusI 2 p (xs.getD i 0) (ys.getD i 0)) j)))) (fun i _ => m - (intOf i).toNat)
  case atStart => exact ⟨0, by omega, rfl, HV2, by rw [fillL_zero]; exact OW2⟩
  case round =>
    clear HV2 OW2 hsz
    obtain ⟨j, hj, rfl, HV, HO⟩ := hrel
    by_cases hlt : j < m
    · obtain ⟨a, e1, X1⟩ := ints_cell L1.out HX.out hlt
      obtain ⟨b, e2, Y1⟩ := ints_cell L2.out HY.out hlt
      have wa := E1.out a (List.mem_of_getElem? X1.out)
      have wb := E2.out b (List.mem_of_getElem? Y1.out)
      obtain ⟨c0, c1, c2⟩ := HV.out.cells
      have d1 : wr.cell? ⟨bx, ox + j, none⟩ = some (.int .i64 a) := (HV.out.1.cell (p := ⟨bx, ox + j, none⟩) hbx2).trans e1
      have d2 : wr.cell? ⟨by', oy + j, none⟩ = some (.int .i64 b) := (HV.out.1.cell (p := ⟨by', oy + j, none⟩) hby2).trans e2
      obtain ⟨x0, hx0, c3⟩ := row_slot HO (by rw [fillL_len]; exact hlt)
      have f3 := HO.out.frozenAt j
      clear e1 e2 hx0
      have hp1 : 2 ≤ p := by have := ring_cases HR.out; omega
      have hp2 : p ≤ 1000003 := by have := ring_cases HR.out; omega
      have hw : IntKind.i64.wrap (a + b) = a + b := IntWalk.i64_in _ (by omega)
      have hw2 : IntKind.i64.wrap ((a + b) % p) = (a + b) % p := IntWalk.i64_in _ (by have := Int.emod_nonneg (a + b) (show p ≠ 0 by omega); have := Int.emod_lt_of_pos (a + b) (show 0 < p by omega); omega)
      have hp0 : (p == 0) = false := by simp; omega
      have hpz : ¬ p = 0 := by omega
      have ht : (a + b).tmod p = (a + b) % p := Int.tmod_eq_emod_of_nonneg (by omega)
      go_wp2
      go_still_tail 15, (by kernel_rfl)
      change wpList _ _ _ _ _ wr.drew
      go_wp2
      go_roundw
      case rel => exact ⟨j + 1, by omega, by go_num, Lib.hid (HV.out.drew.set (q := ⟨w.heap.size + 1, j, none⟩) (by simp) (by simp) _), plus_step (w1 := wr.drew) HO rfl X1 Y1 (by simp [plusI])⟩
      case measure => simp [intOf]; omega
    · obtain rfl : j = m := by omega
      go_wp2
      go_ret
      refine ⟨_, rfl, Own.of (n := j) ?_ (by simp [plusL, L1.out]), HV.out.1⟩
      have h := HO.out
      rw [fillL_full, HB.out] at h
      rw [show plusL 2 p xs ys = (List.range j).map fun i => plusI 2 p (xs.getD i 0) (ys.getD i 0) from by rw [plusL, L1.out]]
      exact h

set_option maxHeartbeats 1600000 in
set_option maxRecDepth 100000 in
theorem plus_spec_k3 (ax ay : Option Addr) (cx cy m B0 : Nat) (p n : Int) (xs ys : List Int) (w : World) (hr : ringB 3 p n = true) (hx : xs.length = m) (hy : ys.length = m) (hm0 : 1 ≤ m) (hm : m ≤ 6) (hB0 : B0 ≤ w.heap.size)
    (hex : Within 1048576 xs) (hey : Within 1048576 ys)
    (hax : 0 < m → ∃ b off, ax = some ⟨b, off, none⟩ ∧ b < B0 ∧ ∀ i (h : i < xs.length), w.cell? ⟨b, off + i, none⟩ = some (.int .i64 xs[i]))
    (hay : 0 < m → ∃ b off, ay = some ⟨b, off, none⟩ ∧ b < B0 ∧ ∀ i (h : i < ys.length), w.cell? ⟨b, off + i, none⟩ = some (.int .i64 ys[i])) :
    Calls Try.prog 126 #[ringV 3 p n, .slice ax m cx, .slice ay m cy] w (NewRow w (plusL 3 p xs ys)) := by
  obtain ⟨bx, ox, rfl, hbx, hcx⟩ := hax (by omega)
  obtain ⟨by', oy, rfl, hby, hcy⟩ := hay (by omega)
  have HX := Lib.hid hcx
  have HY := Lib.hid hcy
  have L1 := Lib.hid hx
  have L2 := Lib.hid hy
  have HR := Lib.hid hr
  have E1 := Lib.hid hex
  have E2 := Lib.hid hey
  have hbx2 : bx < w.heap.size := Nat.lt_of_lt_of_le hbx hB0
  have hby2 : by' < w.heap.size := Nat.lt_of_lt_of_le hby hB0
  obtain ⟨B, hB⟩ : ∃ B, B = w.heap.size := ⟨_, rfl⟩
  have HB := Lib.hid hB
  obtain ⟨i0, hi, hz0, hz1, hz2⟩ := info_parts infoInt
  have HV1 := Lib.hid (Inv.box w 3 p n 30)
  clear hax hay hcx hcy hx hy hr hex hey hbx hby hB0 hB
  go_enter Try.func126, Try.ntmps126
  go_wp2_with (at_make; refine wpList_make_full _ rfl _ _ 25 rfl B 3 i0 (.int .i64 0) 1 Try.underlying25 hi hz0 hz1 .i64 .i64 _ _ m rfl rfl rfl rfl (by rw [hz2]; omega) (by unfold maxLen; omega) (by rw [HB.out]; simp) ?_; intro w2 hown hgrow; obtain ⟨HV2, OW, hsz, f0, g1, d0, d1, d2⟩ := made_facts HV1 hown hgrow hm0; clear hown hgrow f0 g1 d0 d1 d2 hi hz0 hz1 hz2)
  have OW2 : Hid (w2.ownsRow B 3 1 (.slice (some ⟨w.heap.size + 1, 0, none⟩) m m) m (ints (zerosL m))) := by
    have h := OW.out
    rw [show (w.alloc (.cells (ringC 3 p n) 30)).heap.size = w.heap.size + 1 from by simp] at h
    exact h
  clear OW HV1
  go_loopw [14] (fun i wr => ∃ j : Nat, j ≤ m ∧ i = .int .i64 j ∧ Hid (Inv w wr w.heap.size 3 p n) ∧ Hid (wr.ownsRow B 3 1 (.slice (some ⟨w.heap.size + 1, 0, none⟩) m m) m (ints (fillL m (fun i => plusI 3 p (xs.getD i 0) (ys.getD i 0)) j)))) (fun i _ => m - (intOf i).toNat)
  case atStart => exact ⟨0, by omega, rfl, HV2, by rw [fillL_zero]; exact OW2⟩
  case round =>
    clear HV2 OW2 hsz
    obtain ⟨j, hj, rfl, HV, HO⟩ := hrel
    by_cases hlt : j < m
    · obtain ⟨a, e1, X1⟩ := ints_cell L1.out HX.out hlt
      obtain ⟨b, e2, Y1⟩ := ints_cell L2.out HY.out hlt
      have wa := E1.out a (List.mem_of_getElem? X1.out)
      have wb := E2.out b (List.mem_of_getElem? Y1.out)
      obtain ⟨c0, c1, c2⟩ := HV.out.cells
      have d1 : wr.cell? ⟨bx, ox + j, none⟩ = some (.int .i64 a) := (HV.out.1.cell (p := ⟨bx, ox + j, none⟩) hbx2).trans e1
      have d2 : wr.cell? ⟨by', oy + j, none⟩ = some (.int .i64 b) := (HV.out.1.cell (p := ⟨by', oy + j, none⟩) hby2).trans e2
      obtain ⟨x0, hx0, c3⟩ := row_slot HO (by rw [fillL_len]; exact hlt)
      have f3 := HO.out.frozenAt j
      clear e1 e2 hx0
      by_cases hc : p < a + b
      · have hc2 : decide (p < a + b) = true := by simpa using hc
        go_wp2
        go_still_tail 15, (by kernel_rfl)
        change wpList _ _ _ _ _ wr.drew
        go_wp2
        go_roundw
        case rel => exact ⟨j + 1, by omega, by go_num, Lib.hid (HV.out.drew.set (q := ⟨w.heap.size + 1, j, none⟩) (by simp) (by simp) _), plus_step (w1 := wr.drew) HO rfl X1 Y1 (by simp [plusI]; omega)⟩
        case measure => simp [intOf]; omega
      · have hc2 : decide (p < a + b) = false := by simpa using hc
        go_wp2
        go_still_tail 15, (by kernel_rfl)
        change wpList _ _ _ _ _ wr.drew
        go_wp2
        go_roundw
        case rel => exact ⟨j + 1, by omega, by go_num, Lib.hid (HV.out.drew.set (q := ⟨w.heap.size + 1, j, none⟩) (by simp) (by simp) _), plus_step (w1 := wr.drew) HO rfl X1 Y1 (by simp [plusI]; omega)⟩
        case measure => simp [intOf]; omega
    · obtain rfl : j = m := by omega
      go_wp2
      go_ret
      refine ⟨_, rfl, Own.of (n := j) ?_ (by simp [plusL, L1.out]), HV.out.1⟩
      have h := HO.out
      rw [fillL_full, HB.out] at h
      rw [show plusL 3 p xs ys = (List.range j).map fun i => plusI 3 p (xs.getD i 0) (ys.getD i 0) from by rw [plusL, L1.out]]
      exact h

set_option maxHeartbeats 1600000 in
set_option maxRecDepth 100000 in
theorem plus_spec_k4 (ax ay : Option Addr) (cx cy m B0 : Nat) (p n : Int) (xs ys : List Int) (w : World) (hr : ringB 4 p n = true) (hx : xs.length = m) (hy : ys.length = m) (hm0 : 1 ≤ m) (hm : m ≤ 6) (hB0 : B0 ≤ w.heap.size)
    (hex : Within 1048576 xs) (hey : Within 1048576 ys)
    (hax : 0 < m → ∃ b off, ax = some ⟨b, off, none⟩ ∧ b < B0 ∧ ∀ i (h : i < xs.length), w.cell? ⟨b, off + i, none⟩ = some (.int .i64 xs[i]))
    (hay : 0 < m → ∃ b off, ay = some ⟨b, off, none⟩ ∧ b < B0 ∧ ∀ i (h : i < ys.length), w.cell? ⟨b, off + i, none⟩ = some (.int .i64 ys[i])) :
    Calls Try.prog 126 #[ringV 4 p n, .slice ax m cx, .slice ay m cy] w (NewRow w (plusL 4 p xs ys)) := by
  obtain ⟨bx, ox, rfl, hbx, hcx⟩ := hax (by omega)
  obtain ⟨by', oy, rfl, hby, hcy⟩ := hay (by omega)
  have HX := Lib.hid hcx
  have HY := Lib.hid hcy
  have L1 := Lib.hid hx
  have L2 := Lib.hid hy
  have HR := Lib.hid hr
  have E1 := Lib.hid hex
  have E2 := Lib.hid hey
  have hbx2 : bx < w.heap.size := Nat.lt_of_lt_of_le hbx hB0
  have hby2 : by' < w.heap.size := Nat.lt_of_lt_of_le hby hB0
  obtain ⟨B, hB⟩ : ∃ B, B = w.heap.size := ⟨_, rfl⟩
  have HB := Lib.hid hB
  obtain ⟨i0, hi, hz0, hz1, hz2⟩ := info_parts infoInt
  have HV1 := Lib.hid (Inv.box w 4 p n 30)
  clear hax hay hcx hcy hx hy hr hex hey hbx hby hB0 hB
  go_enter Try.func126, Try.ntmps126
  go_wp2_with (at_make; refine wpList_make_full _ rfl _ _ 25 rfl B 3 i0 (.int .i64 0) 1 Try.underlying25 hi hz0 hz1 .i64 .i64 _ _ m rfl rfl rfl rfl (by rw [hz2]; omega) (by unfold maxLen; omega) (by rw [HB.out]; simp) ?_; intro w2 hown hgrow; obtain ⟨HV2, OW, hsz, f0, g1, d0, d1, d2⟩ := made_facts HV1 hown hgrow hm0; clear hown hgrow f0 g1 d0 d1 d2 hi hz0 hz1 hz2)
  have OW2 : Hid (w2.ownsRow B 3 1 (.slice (some ⟨w.heap.size + 1, 0, none⟩) m m) m (ints (zerosL m))) := by
    have h := OW.out
    rw [show (w.alloc (.cells (ringC 4 p n) 30)).heap.size = w.heap.size + 1 from by simp] at h
    exact h
  clear OW HV1
  go_loopw [14] (fun i wr => ∃ j : Nat, j ≤ m ∧ i = .int .i64 j ∧ Hid (Inv w wr w.heap.size 4 p n) ∧ Hid (wr.ownsRow B 3 1 (.slice (some ⟨w.heap.size + 1, 0, none⟩) m m) m (ints (fillL m (fun i => plusI 4 p (xs.getD i 0) (ys.getD i 0)) j)))) (fun i _ => m - (intOf i).toNat)
  case atStart => exact ⟨0, by omega, rfl, HV2, by rw [fillL_zero]; exact OW2⟩
  case round =>
    clear HV2 OW2 hsz
    obtain ⟨j, hj, rfl, HV, HO⟩ := hrel
    by_cases hlt : j < m
    · obtain ⟨a, e1, X1⟩ := ints_cell L1.out HX.out hlt
      obtain ⟨b, e2, Y1⟩ := ints_cell L2.out HY.out hlt
      have wa := E1.out a (List.mem_of_getElem? X1.out)
      have wb := E2.out b (List.mem_of_getElem? Y1.out)
      obtain ⟨c0, c1, c2⟩ := HV.out.cells
      have d1 : wr.cell? ⟨bx, ox + j, none⟩ = some (.int .i64 a) := (HV.out.1.cell (p := ⟨bx, ox + j, none⟩) hbx2).trans e1
      have d2 : wr.cell? ⟨by', oy + j, none⟩ = some (.int .i64 b) := (HV.out.1.cell (p := ⟨by', oy + j, none⟩) hby2).trans e2
      obtain ⟨x0, hx0, c3⟩ := row_slot HO (by rw [fillL_len]; exact hlt)
      have f3 := HO.out.frozenAt j
      clear e1 e2 hx0
      by_cases hc : b < a
      · have hc2 : decide (b < a) = true := by simpa using hc
        go_wp2
        go_still_tail 12, (by kernel_rfl)
        change wpList _ _ _ _ _ wr.drew
        go_wp2
        go_roundw
        case rel => exact ⟨j + 1, by omega, by go_num, Lib.hid (HV.out.drew.set (q := ⟨w.heap.size + 1, j, none⟩) (by simp) (by simp) _), plus_step (w1 := wr.drew) HO rfl X1 Y1 (by simp [plusI]; omega)⟩
        case measure => simp [intOf]; omega
      · have hc2 : decide (b < a) = false := by simpa using hc
        go_wp2
        go_still_tail 12, (by kernel_rfl)
        change wpList _ _ _ _ _ wr.drew
        go_wp2
        go_roundw
        case rel => exact ⟨j + 1, by omega, by go_num, Lib.hid (HV.out.drew.set (q := ⟨w.heap.size + 1, j, none⟩) (by simp) (by simp) _), plus_step (w1 := wr.drew) HO rfl X1 Y1 (by simp [plusI]; omega)⟩
        case measure => simp [intOf]; omega
    · obtain rfl : j = m := by omega
      go_wp2
      go_ret
      refine ⟨_, rfl, Own.of (n := j) ?_ (by simp [plusL, L1.out]), HV.out.1⟩
      have h := HO.out
      rw [fillL_full, HB.out] at h
      rw [show plusL 4 p xs ys = (List.range j).map fun i => plusI 4 p (xs.getD i 0) (ys.getD i 0) from by rw [plusL, L1.out]]
      exact h

set_option maxHeartbeats 1600000 in
set_option maxRecDepth 100000 in
theorem plus_spec_k5 (ax ay : Option Addr) (cx cy m B0 : Nat) (p n : Int) (xs ys : List Int) (w : World) (hr : ringB 5 p n = true) (hx : xs.length = m) (hy : ys.length = m) (hm0 : 1 ≤ m) (hm : m ≤ 6) (hB0 : B0 ≤ w.heap.size)
    (hex : Within 1048576 xs) (hey : Within 1048576 ys)
    (hax : 0 < m → ∃ b off, ax = some ⟨b, off, none⟩ ∧ b < B0 ∧ ∀ i (h : i < xs.length), w.cell? ⟨b, off + i, none⟩ = some (.int .i64 xs[i]))
    (hay : 0 < m → ∃ b off, ay = some ⟨b, off, none⟩ ∧ b < B0 ∧ ∀ i (h : i < ys.length), w.cell? ⟨b, off + i, none⟩ = some (.int .i64 ys[i])) :
    Calls Try.prog 126 #[ringV 5 p n, .slice ax m cx, .slice ay m cy] w (NewRow w (plusL 5 p xs ys)) := by
  obtain ⟨bx, ox, rfl, hbx, hcx⟩ := hax (by omega)
  obtain ⟨by', oy, rfl, hby, hcy⟩ := hay (by omega)
  have HX := Lib.hid hcx
  have HY := Lib.hid hcy
  have L1 := Lib.hid hx
  have L2 := Lib.hid hy
  have HR := Lib.hid hr
  have E1 := Lib.hid hex
  have E2 := Lib.hid hey
  have hbx2 : bx < w.heap.size := Nat.lt_of_lt_of_le hbx hB0
  have hby2 : by' < w.heap.size := Nat.lt_of_lt_of_le hby hB0
  obtain ⟨B, hB⟩ : ∃ B, B = w.heap.size := ⟨_, rfl⟩
  have HB := Lib.hid hB
  obtain ⟨i0, hi, hz0, hz1, hz2⟩ := info_parts infoInt
  have HV1 := Lib.hid (Inv.box w 5 p n 30)
  clear hax hay hcx hcy hx hy hr hex hey hbx hby hB0 hB
  go_enter Try.func126, Try.ntmps126
  go_wp2_with (at_make; refine wpList_make_full _ rfl _ _ 25 rfl B 3 i0 (.int .i64 0) 1 Try.underlying25 hi hz0 hz1 .i64 .i64 _ _ m rfl rfl rfl rfl (by rw [hz2]; omega) (by unfold maxLen; omega) (by rw [HB.out]; simp) ?_; intro w2 hown hgrow; obtain ⟨HV2, OW, hsz, f0, g1, d0, d1, d2⟩ := made_facts HV1 hown hgrow hm0; clear hown hgrow f0 g1 d0 d1 d2 hi hz0 hz1 hz2)
  have OW2 : Hid (w2.ownsRow B 3 1 (.slice (some ⟨w.heap.size + 1, 0, none⟩) m m) m (ints (zerosL m))) := by
    have h := OW.out
    rw [show (w.alloc (.cells (ringC 5 p n) 30)).heap.size = w.heap.size + 1 from by simp] at h
    exact h
  clear OW HV1
  go_loopw [14] (fun i wr => ∃ j : Nat, j ≤ m ∧ i = .int .i64 j ∧ Hid (Inv w wr w.heap.size 5 p n) ∧ Hid (wr.ownsRow B 3 1 (.slice (some ⟨w.heap.size + 1, 0, none⟩) m m) m (ints (fillL m (fun i => plusI 5 p (xs.getD i 0) (ys.getD i 0)) j)))) (fun i _ => m - (intOf i).toNat)
  case atStart => exact ⟨0, by omega, rfl, HV2, by rw [fillL_zero]; exact OW2⟩
  case round =>
    clear HV2 OW2 hsz
    obtain ⟨j, hj, rfl, HV, HO⟩ := hrel
    by_cases hlt : j < m
    · obtain ⟨a, e1, X1⟩ := ints_cell L1.out HX.out hlt
      obtain ⟨b, e2, Y1⟩ := ints_cell L2.out HY.out hlt
      have wa := E1.out a (List.mem_of_getElem? X1.out)
      have wb := E2.out b (List.mem_of_getElem? Y1.out)
      obtain ⟨c0, c1, c2⟩ := HV.out.cells
      have d1 : wr.cell? ⟨bx, ox + j, none⟩ = some (.int .i64 a) := (HV.out.1.cell (p := ⟨bx, ox + j, none⟩) hbx2).trans e1
      have d2 : wr.cell? ⟨by', oy + j, none⟩ = some (.int .i64 b) := (HV.out.1.cell (p := ⟨by', oy + j, none⟩) hby2).trans e2
      obtain ⟨x0, hx0, c3⟩ := row_slot HO (by rw [fillL_len]; exact hlt)
      have f3 := HO.out.frozenAt j
      clear e1 e2 hx0
      by_cases hc : a < b
      · have hc2 : decide (a < b) = true := by simpa using hc
        go_wp2
        go_still_tail 12, (by kernel_rfl)
        change wpList _ _ _ _ _ wr.drew
        go_wp2
        go_roundw
        case rel => exact ⟨j + 1, by omega, by go_num, Lib.hid (HV.out.drew.set (q := ⟨w.heap.size + 1, j, none⟩) (by simp) (by simp) _), plus_step (w1 := wr.drew) HO rfl X1 Y1 (by simp [plusI]; omega)⟩
        case measure => simp [intOf]; omega
      · have hc2 : decide (a < b) = false := by simpa using hc
        go_wp2
        go_still_tail 12, (by kernel_rfl)
        change wpList _ _ _ _ _ wr.drew
        go_wp2
        go_roundw
        case rel => exact ⟨j + 1, by omega, by go_num, Lib.hid (HV.out.drew.set (q := ⟨w.heap.size + 1, j, none⟩) (by simp) (by simp) _), plus_step (w1 := wr.drew) HO rfl X1 Y1 (by simp [plusI]; omega)⟩
        case measure => simp [intOf]; omega
    · obtain rfl : j = m := by omega
      go_wp2
      go_ret
      refine ⟨_, rfl, Own.of (n := j) ?_ (by simp [plusL, L1.out]), HV.out.1⟩
      have h := HO.out
      rw [fillL_full, HB.out] at h
      rw [show plusL 5 p xs ys = (List.range j).map fun i => plusI 5 p (xs.getD i 0) (ys.getD i 0) from by rw [plusL, L1.out]]
      exact h

set_option maxHeartbeats 1600000 in
set_option maxRecDepth 100000 in
theorem plus_spec_k6 (ax ay : Option Addr) (cx cy m B0 : Nat) (p n : Int) (xs ys : List Int) (w : World) (hr : ringB 6 p n = true) (hx : xs.length = m) (hy : ys.length = m) (hm0 : 1 ≤ m) (hm : m ≤ 6) (hB0 : B0 ≤ w.heap.size)
    (hex : Within 1048576 xs) (hey : Within 1048576 ys)
    (hax : 0 < m → ∃ b off, ax = some ⟨b, off, none⟩ ∧ b < B0 ∧ ∀ i (h : i < xs.length), w.cell? ⟨b, off + i, none⟩ = some (.int .i64 xs[i]))
    (hay : 0 < m → ∃ b off, ay = some ⟨b, off, none⟩ ∧ b < B0 ∧ ∀ i (h : i < ys.length), w.cell? ⟨b, off + i, none⟩ = some (.int .i64 ys[i])) :
    Calls Try.prog 126 #[ringV 6 p n, .slice ax m cx, .slice ay m cy] w (NewRow w (plusL 6 p xs ys)) := by
  obtain ⟨bx, ox, rfl, hbx, hcx⟩ := hax (by omega)
  obtain ⟨by', oy, rfl, hby, hcy⟩ := hay (by omega)
  have HX := Lib.hid hcx
  have HY := Lib.hid hcy
  have L1 := Lib.hid hx
  have L2 := Lib.hid hy
  have HR := Lib.hid hr
  have E1 := Lib.hid hex
  have E2 := Lib.hid hey
  have hbx2 : bx < w.heap.size := Nat.lt_of_lt_of_le hbx hB0
  have hby2 : by' < w.heap.size := Nat.lt_of_lt_of_le hby hB0
  obtain ⟨B, hB⟩ : ∃ B, B = w.heap.size := ⟨_, rfl⟩
  have HB := Lib.hid hB
  obtain ⟨i0, hi, hz0, hz1, hz2⟩ := info_parts infoInt
  have HV1 := Lib.hid (Inv.box w 6 p n 30)
  clear hax hay hcx hcy hx hy hr hex hey hbx hby hB0 hB
  go_enter Try.func126, Try.ntmps126
  go_wp2_with (at_make; refine wpList_make_full _ rfl _ _ 25 rfl B 3 i0 (.int .i64 0) 1 Try.underlying25 hi hz0 hz1 .i64 .i64 _ _ m rfl rfl rfl rfl (by rw [hz2]; omega) (by unfold maxLen; omega) (by rw [HB.out]; simp) ?_; intro w2 hown hgrow; obtain ⟨HV2, OW, hsz, f0, g1, d0, d1, d2⟩ := made_facts HV1 hown hgrow hm0; clear hown hgrow f0 g1 d0 d1 d2 hi hz0 hz1 hz2)
  have OW2 : Hid (w2.ownsRow B 3 1 (.slice (some ⟨w.heap.size + 1, 0, none⟩) m m) m (ints (zerosL m))) := by
    have h := OW.out
    rw [show (w.alloc (.cells (ringC 6 p n) 30)).heap.size = w.heap.size + 1 from by simp] at h
    exact h
  clear OW HV1
  go_loopw [14] (fun i wr => ∃ j : Nat, j ≤ m ∧ i = .int .i64 j ∧ Hid (Inv w wr w.heap.size 6 p n) ∧ Hid (wr.ownsRow B 3 1 (.slice (some ⟨w.heap.size + 1, 0, none⟩) m m) m (ints (fillL m (fun i => plusI 6 p (xs.getD i 0) (ys.getD i 0)) j)))) (fun i _ => m - (intOf i).toNat)
  case atStart => exact ⟨0, by omega, rfl, HV2, by rw [fillL_zero]; exact OW2⟩
  case round =>
    clear HV2 OW2 hsz
    obtain ⟨j, hj, rfl, HV, HO⟩ := hrel
    by_cases hlt : j < m
    · obtain ⟨a, e1, X1⟩ := ints_cell L1.out HX.out hlt
      obtain ⟨b, e2, Y1⟩ := ints_cell L2.out HY.out hlt
      have wa := E1.out a (List.mem_of_getElem? X1.out)
      have wb := E2.out b (List.mem_of_getElem? Y1.out)
      obtain ⟨c0, c1, c2⟩ := HV.out.cells
      have d1 : wr.cell? ⟨bx, ox + j, none⟩ = some (.int .i64 a) := (HV.out.1.cell (p := ⟨bx, ox + j, none⟩) hbx2).trans e1
      have d2 : wr.cell? ⟨by', oy + j, none⟩ = some (.int .i64 b) := (HV.out.1.cell (p := ⟨by', oy + j, none⟩) hby2).trans e2
      obtain ⟨x0, hx0, c3⟩ := row_slot HO (by rw [fillL_len]; exact hlt)
      have f3 := HO.out.frozenAt j
      clear e1 e2 hx0
      go_wp2
      go_still_tail 12, (by kernel_rfl)
      change wpList _ _ _ _ _ wr.drew
      go_wp2
      go_roundw
      case rel => exact ⟨j + 1, by omega, by go_num, Lib.hid (HV.out.drew.set (q := ⟨w.heap.size + 1, j, none⟩) (by simp) (by simp) _), plus_step (w1 := wr.drew) HO rfl X1 Y1 (by simp [plusI])⟩
      case measure => simp [intOf]; omega
    · obtain rfl : j = m := by omega
      go_wp2
      go_ret
      refine ⟨_, rfl, Own.of (n := j) ?_ (by simp [plusL, L1.out]), HV.out.1⟩
      have h := HO.out
      rw [fillL_full, HB.out] at h
      rw [show plusL 6 p xs ys = (List.range j).map fun i => plusI 6 p (xs.getD i 0) (ys.getD i 0) from by rw [plusL, L1.out]]
      exact h

set_option maxHeartbeats 1600000 in
set_option maxRecDepth 100000 in
theorem plus_spec_k7 (ax ay : Option Addr) (cx cy m B0 : Nat) (p n : Int) (xs ys : List Int) (w : World) (hr : ringB 7 p n = true) (hx : xs.length = m) (hy : ys.length = m) (hm0 : 1 ≤ m) (hm : m ≤ 6) (hB0 : B0 ≤ w.heap.size)
    (hex : Within 1048576 xs) (hey : Within 1048576 ys)
    (hax : 0 < m → ∃ b off, ax = some ⟨b, off, none⟩ ∧ b < B0 ∧ ∀ i (h : i < xs.length), w.cell? ⟨b, off + i, none⟩ = some (.int .i64 xs[i]))
    (hay : 0 < m → ∃ b off, ay = some ⟨b, off, none⟩ ∧ b < B0 ∧ ∀ i (h : i < ys.length), w.cell? ⟨b, off + i, none⟩ = some (.int .i64 ys[i])) :
    Calls Try.prog 126 #[ringV 7 p n, .slice ax m cx, .slice ay m cy] w (NewRow w (plusL 7 p xs ys)) := by
  obtain ⟨bx, ox, rfl, hbx, hcx⟩ := hax (by omega)
  obtain ⟨by', oy, rfl, hby, hcy⟩ := hay (by omega)
  have HX := Lib.hid hcx
  have HY := Lib.hid hcy
  have L1 := Lib.hid hx
  have L2 := Lib.hid hy
  have HR := Lib.hid hr
  have E1 := Lib.hid hex
  have E2 := Lib.hid hey
  have hbx2 : bx < w.heap.size := Nat.lt_of_lt_of_le hbx hB0
  have hby2 : by' < w.heap.size := Nat.lt_of_lt_of_le hby hB0
  obtain ⟨B, hB⟩ : ∃ B, B = w.heap.size := ⟨_, rfl⟩
  have HB := Lib.hid hB
  obtain ⟨i0, hi, hz0, hz1, hz2⟩ := info_parts infoInt
  have HV1 := Lib.hid (Inv.box w 7 p n 30)
  clear hax hay hcx hcy hx hy hr hex hey hbx hby hB0 hB
  go_enter Try.func126, Try.ntmps126
  go_wp2_with (at_make; refine wpList_make_full _ rfl _ _ 25 rfl B 3 i0 (.int .i64 0) 1 Try.underlying25 hi hz0 hz1 .i64 .i64 _ _ m rfl rfl rfl rfl (by rw [hz2]; omega) (by unfold maxLen; omega) (by rw [HB.out]; simp) ?_; intro w2 hown hgrow; obtain ⟨HV2, OW, hsz, f0, g1, d0, d1, d2⟩ := made_facts HV1 hown hgrow hm0; clear hown hgrow f0 g1 d0 d1 d2 hi hz0 hz1 hz2)
  have OW2 : Hid (w2.ownsRow B 3 1 (.slice (some ⟨w.heap.size + 1, 0, none⟩) m m) m (ints (zerosL m))) := by
    have h := OW.out
    rw [show (w.alloc (.cells (ringC 7 p n) 30)).heap.size = w.heap.size + 1 from by simp] at h
    exact h
  clear OW HV1
  go_loopw [14] (fun i wr => ∃ j : Nat, j ≤ m ∧ i = .int .i64 j ∧ Hid (Inv w wr w.heap.size 7 p n) ∧ Hid (wr.ownsRow B 3 1 (.slice (some ⟨w.heap.size + 1, 0, none⟩) m m) m (ints (fillL m (fun i => plusI 7 p (xs.getD i 0) (ys.getD i 0)) j)))) (fun i _ => m - (intOf i).toNat)
  case atStart => exact ⟨0, by omega, rfl, HV2, by rw [fillL_zero]; exact OW2⟩
  case round =>
    clear HV2 OW2 hsz
    obtain ⟨j, hj, rfl, HV, HO⟩ := hrel
    by_cases hlt : j < m
    · obtain ⟨a, e1, X1⟩ := ints_cell L1.out HX.out hlt
      obtain ⟨b, e2, Y1⟩ := ints_cell L2.out HY.out hlt
      have wa := E1.out a (List.mem_of_getElem? X1.out)
      have wb := E2.out b (List.mem_of_getElem? Y1.out)
      obtain ⟨c0, c1, c2⟩ := HV.out.cells
      have d1 : wr.cell? ⟨bx, ox + j, none⟩ = some (.int .i64 a) := (HV.out.1.cell (p := ⟨bx, ox + j, none⟩) hbx2).trans e1
      have d2 : wr.cell? ⟨by', oy + j, none⟩ = some (.int .i64 b) := (HV.out.1.cell (p := ⟨by', oy + j, none⟩) hby2).trans e2
      obtain ⟨x0, hx0, c3⟩ := row_slot HO (by rw [fillL_len]; exact hlt)
      have f3 := HO.out.frozenAt j
      clear e1 e2 hx0
      have hp1 : 2 ≤ p := by have := ring_cases HR.out; omega
      have hp2 : p ≤ 1000003 := by have := ring_cases HR.out; omega
      have hw : IntKind.i64.wrap (a + b) = a + b := IntWalk.i64_in _ (by omega)
      have hw2 : IntKind.i64.wrap ((a + b) % p) = (a + b) % p := IntWalk.i64_in _ (by have := Int.emod_nonneg (a + b) (show p ≠ 0 by omega); have := Int.emod_lt_of_pos (a + b) (show 0 < p by omega); omega)
      have hp0 : (p == 0) = false := by simp; omega
      have hpz : ¬ p = 0 := by omega
      have ht : (a + b).tmod p = (a + b) % p := Int.tmod_eq_emod_of_nonneg (by omega)
      go_wp2
      go_still_tail 15, (by kernel_rfl)
      change wpList _ _ _ _ _ wr.drew
      go_wp2
      go_roundw
      case rel => exact ⟨j + 1, by omega, by go_num, Lib.hid (HV.out.drew.set (q := ⟨w.heap.size + 1, j, none⟩) (by simp) (by simp) _), plus_step (w1 := wr.drew) HO rfl X1 Y1 (by simp [plusI])⟩
      case measure => simp [intOf]; omega
    · obtain rfl : j = m := by omega
      go_wp2
      go_ret
      refine ⟨_, rfl, Own.of (n := j) ?_ (by simp [plusL, L1.out]), HV.out.1⟩
      have h := HO.out
      rw [fillL_full, HB.out] at h
      rw [show plusL 7 p xs ys = (List.range j).map fun i => plusI 7 p (xs.getD i 0) (ys.getD i 0) from by rw [plusL, L1.out]]
      exact h

set_option maxHeartbeats 1600000 in
set_option maxRecDepth 100000 in
theorem plus_spec_k8 (ax ay : Option Addr) (cx cy m B0 : Nat) (p n : Int) (xs ys : List Int) (w : World) (hr : ringB 8 p n = true) (hx : xs.length = m) (hy : ys.length = m) (hm0 : 1 ≤ m) (hm : m ≤ 6) (hB0 : B0 ≤ w.heap.size)
    (hex : Within 1048576 xs) (hey : Within 1048576 ys)
    (hax : 0 < m → ∃ b off, ax = some ⟨b, off, none⟩ ∧ b < B0 ∧ ∀ i (h : i < xs.length), w.cell? ⟨b, off + i, none⟩ = some (.int .i64 xs[i]))
    (hay : 0 < m → ∃ b off, ay = some ⟨b, off, none⟩ ∧ b < B0 ∧ ∀ i (h : i < ys.length), w.cell? ⟨b, off + i, none⟩ = some (.int .i64 ys[i])) :
    Calls Try.prog 126 #[ringV 8 p n, .slice ax m cx, .slice ay m cy] w (NewRow w (plusL 8 p xs ys)) := by
  obtain ⟨bx, ox, rfl, hbx, hcx⟩ := hax (by omega)
  obtain ⟨by', oy, rfl, hby, hcy⟩ := hay (by omega)
  have HX := Lib.hid hcx
  have HY := Lib.hid hcy
  have L1 := Lib.hid hx
  have L2 := Lib.hid hy
  have HR := Lib.hid hr
  have E1 := Lib.hid hex
  have E2 := Lib.hid hey
  have hbx2 : bx < w.heap.size := Nat.lt_of_lt_of_le hbx hB0
  have hby2 : by' < w.heap.size := Nat.lt_of_lt_of_le hby hB0
  obtain ⟨B, hB⟩ : ∃ B, B = w.heap.size := ⟨_, rfl⟩
  have HB := Lib.hid hB
  obtain ⟨i0, hi, hz0, hz1, hz2⟩ := info_parts infoInt
  have HV1 := Lib.hid (Inv.box w 8 p n 30)
  clear hax hay hcx hcy hx hy hr hex hey hbx hby hB0 hB
  go_enter Try.func126, Try.ntmps126
  go_wp2_with (at_make; refine wpList_make_full _ rfl _ _ 25 rfl B 3 i0 (.int .i64 0) 1 Try.underlying25 hi hz0 hz1 .i64 .i64 _ _ m rfl rfl rfl rfl (by rw [hz2]; omega) (by unfold maxLen; omega) (by rw [HB.out]; simp) ?_; intro w2 hown hgrow; obtain ⟨HV2, OW, hsz, f0, g1, d0, d1, d2⟩ := made_facts HV1 hown hgrow hm0; clear hown hgrow f0 g1 d0 d1 d2 hi hz0 hz1 hz2)
  have OW2 : Hid (w2.ownsRow B 3 1 (.slice (some ⟨w.heap.size + 1, 0, none⟩) m m) m (ints (zerosL m))) := by
    have h := OW.out
    rw [show (w.alloc (.cells (ringC 8 p n) 30)).heap.size = w.heap.size + 1 from by simp] at h
    exact h
  clear OW HV1
  go_loopw [14] (fun i wr => ∃ j : Nat, j ≤ m ∧ i = .int .i64 j ∧ Hid (Inv w wr w.heap.size 8 p n) ∧ Hid (wr.ownsRow B 3 1 (.slice (some ⟨w.heap.size + 1, 0, none⟩) m m) m (ints (fillL m (fun i => plusI 8 p (xs.getD i 0) (ys.getD i 0)) j)))) (fun i _ => m - (intOf i).toNat)
  case atStart => exact ⟨0, by omega, rfl, HV2, by rw [fillL_zero]; exact OW2⟩
  case round =>
    clear HV2 OW2 hsz
    obtain ⟨j, hj, rfl, HV, HO⟩ := hrel
    by_cases hlt : j < m
    · obtain ⟨a, e1, X1⟩ := ints_cell L1.out HX.out hlt
      obtain ⟨b, e2, Y1⟩ := ints_cell L2.out HY.out hlt
      have wa := E1.out a (List.mem_of_getElem? X1.out)
      have wb := E2.out b (List.mem_of_getElem? Y1.out)
      obtain ⟨c0, c1, c2⟩ := HV.out.cells
      have d1 : wr.cell? ⟨bx, ox + j, none⟩ = some (.int .i64 a) := (HV.out.1.cell (p := ⟨bx, ox + j, none⟩) hbx2).trans e1
      have d2 : wr.cell? ⟨by', oy + j, none⟩ = some (.int .i64 b) := (HV.out.1.cell (p := ⟨by', oy + j, none⟩) hby2).trans e2
      obtain ⟨x0, hx0, c3⟩ := row_slot HO (by rw [fillL_len]; exact hlt)
      have f3 := HO.out.frozenAt j
      clear e1 e2 hx0
      have hp1 : 2 ≤ p := by have := ring_cases HR.out; omega
      have hp2 : p ≤ 1000003 := by have := ring_cases HR.out; omega
      have hw : IntKind.i64.wrap (a + b) = a + b := IntWalk.i64_in _ (by omega)
      have hw2 : IntKind.i64.wrap ((a + b) % p) = (a + b) % p := IntWalk.i64_in _ (by have := Int.emod_nonneg (a + b) (show p ≠ 0 by omega); have := Int.emod_lt_of_pos (a + b) (show 0 < p by omega); omega)
      have hp0 : (p == 0) = false := by simp; omega
      have hpz : ¬ p = 0 := by omega
      have ht : (a + b).tmod p = (a + b) % p := Int.tmod_eq_emod_of_nonneg (by omega)
      go_wp2
      go_still_tail 15, (by kernel_rfl)
      change wpList _ _ _ _ _ wr.drew
      go_wp2
      go_roundw
      case rel => exact ⟨j + 1, by omega, by go_num, Lib.hid (HV.out.drew.set (q := ⟨w.heap.size + 1, j, none⟩) (by simp) (by simp) _), plus_step (w1 := wr.drew) HO rfl X1 Y1 (by simp [plusI])⟩
      case measure => simp [intOf]; omega
    · obtain rfl : j = m := by omega
      go_wp2
      go_ret
      refine ⟨_, rfl, Own.of (n := j) ?_ (by simp [plusL, L1.out]), HV.out.1⟩
      have h := HO.out
      rw [fillL_full, HB.out] at h
      rw [show plusL 8 p xs ys = (List.range j).map fun i => plusI 8 p (xs.getD i 0) (ys.getD i 0) from by rw [plusL, L1.out]]
      exact h

theorem plus_spec_full (ax ay : Option Addr) (cx cy m B0 : Nat) (k p n : Int) (xs ys : List Int) (w : World) (hr : ringB k p n = true) (hx : xs.length = m) (hy : ys.length = m) (hm0 : 1 ≤ m) (hm : m ≤ 6) (hB0 : B0 ≤ w.heap.size)
    (hex : Within 1048576 xs) (hey : Within 1048576 ys)
    (hax : 0 < m → ∃ b off, ax = some ⟨b, off, none⟩ ∧ b < B0 ∧ ∀ i (h : i < xs.length), w.cell? ⟨b, off + i, none⟩ = some (.int .i64 xs[i]))
    (hay : 0 < m → ∃ b off, ay = some ⟨b, off, none⟩ ∧ b < B0 ∧ ∀ i (h : i < ys.length), w.cell? ⟨b, off + i, none⟩ = some (.int .i64 ys[i])) :
    Calls Try.prog 126 #[ringV k p n, .slice ax m cx, .slice ay m cy] w (NewRow w (plusL k p xs ys)) := by
  rcases ring_cases hr with ⟨rfl, g⟩ | ⟨rfl, g⟩ | ⟨rfl, g⟩ | ⟨rfl, g⟩ | ⟨rfl, g⟩ | ⟨rfl, g⟩ | ⟨rfl, g⟩ | ⟨rfl, g⟩
  · exact plus_spec_k1 ax ay cx cy m B0 p n xs ys w hr hx hy hm0 hm hB0 hex hey hax hay
  · exact plus_spec_k2 ax ay cx cy m B0 p n xs ys w hr hx hy hm0 hm hB0 hex hey hax hay
  · exact plus_spec_k3 ax ay cx cy m B0 p n xs ys w hr hx hy hm0 hm hB0 hex hey hax hay
  · exact plus_spec_k4 ax ay cx cy m B0 p n xs ys w hr hx hy hm0 hm hB0 hex hey hax hay
  · exact plus_spec_k5 ax ay cx cy m B0 p n xs ys w hr hx hy hm0 hm hB0 hex hey hax hay
  · exact plus_spec_k6 ax ay cx cy m B0 p n xs ys w hr hx hy hm0 hm hB0 hex hey hax hay
  · exact plus_spec_k7 ax ay cx cy m B0 p n xs ys w hr hx hy hm0 hm hB0 hex hey hax hay
  · exact plus_spec_k8 ax ay cx cy m B0 p n xs ys w hr hx hy hm0 hm hB0 hex hey hax hay

/-- spec.l02Add on elements. -/
theorem plus_spec {B : Nat} {vx vy : Value} {k p n : Int} {xs ys : List Int} {w : World} (hr : ringB k p n = true) (hx : Rd B w vx (ints xs)) (hy : Rd B w vy (ints ys)) (hB : B ≤ w.heap.size) (ex : ElemV k p n xs) (ey : ElemV k p n ys) :
    Calls Try.prog 126 #[ringV k p n, vx, vy] w (NewRow w (plusL k p xs ys)) := by
  obtain ⟨ax, cx, rfl, hax⟩ := ints_form hx
  obtain ⟨ay, cy, rfl, hay⟩ := ints_form hy
  have h1 := ring_width hr
  have h2 := ring_top hr
  have l1 := ex.1
  have l2 := ey.1
  have hl : ys.length = xs.length := by omega
  rw [hl]
  exact plus_spec_full ax ay cx cy xs.length B k p n xs ys w hr rfl hl (by omega) (by omega) hB (fun x hx => by have := ex.2 x hx; omega) (fun x hx => by have := ey.2 x hx; omega) hax (fun _ => hay (by omega))
end Go.Proofs.Ytgbmacppgaopfaa
