
/- spec.l05Ints: a copy of a list. -/
import Derived.Test.YtdheakjjnaifkaaLawKit
import Derived.Deep.DeepMust
import Derived.Maps.AppendAt
import Derived.Laws.AppendOwnNone
import Derived.Test.YtdheakjjnaifkaaBx
import Derived.Test.YtdheakjjnaifkaaTensorOk2
import Derived.Test.YtdheakjjnaifkaaElem
import Derived.Deep.RegionHeld3
import Derived.StillTailTactics
import Derived.Test.YtdheakjjnaifkaaTensorOk
namespace Go.Proofs.Ytdheakjjnaifkaa
set_option maxRecDepth 20000
open Go.RowKit

theorem one_cells (xs : List Int) : ∀ u ∈ ints xs, u.oneCell' = true := by
  intro u hu
  obtain ⟨x, -, rfl⟩ := List.mem_map.1 hu
  rfl
theorem news_at {w : World} {b off : Nat} {xs : List Int} (hc : ∀ i (h : i < xs.length), w.cell? ⟨b, off + i, none⟩ = some (.int .i64 xs[i])) : ∀ j u, (ints xs)[j]? = some u → w.cell? ((⟨b, off, none⟩ : Addr).add j) = some u := by
  intro j u hj
  have hlt : j < xs.length := by
    have := (List.getElem?_eq_some_iff.1 hj).1
    rwa [ints_len] at this
  rw [ints_at xs j hlt] at hj
  rw [Addr.add_lit, hc j hlt]
  exact hj
theorem run_append_none_cap {P : Program} {w : World} (base : Nat) (t ty e : TypeId) (i : TypeInfo) (size : Nat) (ht : P.underlying t = some (.slice e)) (hi : P.info? e = some i) (v : Value) (n : Nat) (xs : List Value) (hown : w.ownsRow base e size v n xs) (c : Nat) :
    (Builtin.append_ #[t, t] ty #[v, .slice none 0 c]).run P w = .ok v w := by
  rcases hown.2 with ⟨rfl, rfl⟩ | ⟨g, cap, cur, rfl, -, -, hnc, -⟩
  · simp [Builtin.append_, run_underlying ht, sizeOf, typeInfo, hi, Builtin.lenOf, Builtin.firstCells]
  · simp [Builtin.append_, run_underlying ht, sizeOf, typeInfo, hi, Builtin.lenOf, Builtin.firstCells, hnc, storeCells]
/-- 'append(v, l...)' of a list without elements and without a place. -/
theorem wpList_append_none_cap {P : Program} {w : World} {ops : Array Oper} {rest : List Oper} {o : Oper} {a : Act} {Q : Exit → Act → World → Prop} (hgd : o.guard = none) (s x : Operand) (t : TypeId)
    (ho : o.op = .call { callee := .builtin .append, args := #[s, x], argTypes := #[t, t] })
    (base : Nat) (e : TypeId) (i : TypeInfo) (size : Nat) (ht : P.underlying t = some (.slice e)) (hi : P.info? e = some i)
    (v : Value) (n c : Nat) (xs : List Value) (hs : a.eval s = v) (hown : w.ownsRow base e size v n xs) (hx : a.eval x = .slice none 0 c)
    (h : wpList P ops Q rest (a.put o.dst v) w) : wpList P ops Q (o :: rest) a w := by
  refine wpList_plain hgd fun K hK => ?_
  have hrun := run_append_none_cap (P := P) (w := w) base t o.type e i size ht hi v n xs hown c
  unfold Oper.wp
  simp [execOp, ho, resolve, invoke, builtin, hs, hx, hrun, Result.andThen]
  exact hK _ _ h

set_option maxHeartbeats 800000 in
theorem ints_new_some (ad : Addr) (cap m : Nat) (xs : List Int) (w : World) (hm : xs.length = m) (hn : m ≤ 1099511627776) (hc : ∀ j u, (ints xs)[j]? = some u → w.cell? (ad.add j) = some u) (hb : 0 < m → ad.block < w.heap.size ∧ ad.spot = none) :
    Calls Try.prog 109 #[.slice (some ad) m cap] w (NewRow w xs) := by
  obtain ⟨i0, hi, hz0, hz1, hz2⟩ := info_parts infoInt
  have J0 := Lib.hid hi
  have J1 := Lib.hid hz0
  have J2 := Lib.hid hz1
  have J3 := Lib.hid hz2
  have HM := Lib.hid hm
  have HC : Hid (∀ j u, (ints xs)[j]? = some u → (w.alloc (.cells #[] 3)).cell? (ad.add j) = some u) := Lib.hid fun j u hj => by
    have hlt : j < xs.length := by
      have := (List.getElem?_eq_some_iff.1 hj).1
      rwa [ints_len] at this
    have h2 := hb (by omega)
    rw [← hc j u hj]
    refine ((Below.refl w.heap.size w).alloc (Nat.le_refl _) _).cell (p := ad.add j) ?_
    obtain ⟨b, off, sp⟩ := ad
    simp only at h2
    obtain ⟨h3, rfl⟩ := h2
    rw [Addr.add_lit]
    exact h3
  have HL := Lib.hid (World.ownsRow_lit (base := w.heap.size) (e := 3) (size := 1) w #[] 0 (Nat.le_refl _) (by unfold maxLen; omega) rfl)
  clear hi hz0 hz1 hz2 hm hc hb
  go_enter Try.func109, Try.ntmps109
  go_wp2_with (at_builtin; go_must (refine wpList_append_own _ rfl _ _ 25 rfl w.heap.size 3 i0 (.int .i64 0) 1 8 Try.underlying25 J0.out J1.out J2.out J3.out rfl (by decide) _ _ _ rfl HL.out ad m cap (ints xs) rfl ?c1 HC.out (one_cells xs) ?c2 ?c3 (by simp) ?_))
  case c1 => rw [ints_len, HM.out]
  case c2 => unfold maxLen; omega
  case c3 => omega
  intro v' w2 hown hg _
  have RES : Hid (NewRow w xs (.returned v') w2) := Lib.hid ⟨v', rfl, Own.of (n := 0 + m) (by simpa using hown) (by rw [HM.out]; omega), by
    have := ((Below.refl w.heap.size w).alloc (Nat.le_refl _) (.cells #[] 3)).grown hg (by simp) (fun j hj => by cases hj; exact Nat.le_refl _)
    exact this⟩
  clear hown hg
  go_wp2
  go_ret
  exact RES.out
set_option maxHeartbeats 800000 in
theorem ints_new_none (cap : Nat) (w : World) : Calls Try.prog 109 #[.slice none 0 cap] w (NewRow w []) := by
  obtain ⟨i0, hi, hz0, hz1, hz2⟩ := info_parts infoInt
  have J0 := Lib.hid hi
  have HL := Lib.hid (World.ownsRow_lit (base := w.heap.size) (e := 3) (size := 1) w #[] 0 (Nat.le_refl _) (by unfold maxLen; omega) rfl)
  clear hi hz0 hz1 hz2
  have RES : Hid (Own (w.alloc (.cells #[] 3)) w.heap.size (w.alloc (.cells #[] 3)).heap.size (.slice (some ⟨w.heap.size, 0, none⟩) 0 0) []) := Lib.hid (Own.of (n := 0) HL.out rfl)
  go_enter Try.func109, Try.ntmps109
  go_wp2_with (at_builtin; go_must (refine wpList_append_none_cap rfl _ _ 25 rfl w.heap.size 3 i0 1 Try.underlying25 J0.out _ _ cap _ rfl HL.out rfl ?_))
  go_ret
  exact ⟨_, rfl, RES.out, (Below.refl _ _).alloc (Nat.le_refl _) _⟩
theorem ints_new {B : Nat} {v : Value} {xs : List Int} {w : World} (h : Rd B w v (ints xs)) (hB : B ≤ w.heap.size) (hn : xs.length ≤ 1099511627776) : Calls Try.prog 109 #[v] w (NewRow w xs) := by
  rcases h.ints_cases with ⟨rfl, a, cap, rfl⟩ | ⟨b, off, cap, rfl, hb, hcc, hc⟩
  · cases a with
    | none => exact ints_new_none cap w
    | some ad => exact ints_new_some ad cap 0 [] w rfl (by omega) (fun j u hj => by simp [ints] at hj) (fun h => by omega)
  · exact ints_new_some ⟨b, off, none⟩ cap _ xs w rfl hn (news_at hc) (fun _ => ⟨by show b < _; omega, rfl⟩)
end Go.Proofs.Ytdheakjjnaifkaa
namespace Go.Proofs.Ytdheakjjnaifkaa
set_option maxRecDepth 20000
open Go.RowKit

noncomputable def scalarL (k p n : Int) (xs : List Int) : List Int := if okElemB k p n xs = true then xs else []
end Go.Proofs.Ytdheakjjnaifkaa
namespace Go.Proofs.Ytdheakjjnaifkaa
set_option maxRecDepth 20000
open Go.RowKit

theorem set3_far {w : World} {r g o : Nat} {a b c u : Value} (h : r ≠ g) (hc : w.cell? ⟨r, o, none⟩ = some u) : (((w.setCell ⟨g, 0, none⟩ a).setCell ⟨g, 1, none⟩ b).setCell ⟨g, 2, none⟩ c).cell? ⟨r, o, none⟩ = some u := by
  have far : ∀ (w : World) (i : Nat) (v : Value), (w.setCell ⟨g, i, none⟩ v).cell? ⟨r, o, none⟩ = w.cell? ⟨r, o, none⟩ := fun w i v => World.cell?_setCell_other w _ _ _ (by intro e; injection e with e1; exact h e1.symm)
  rw [far, far, far]; exact hc
theorem set3_keep {w : World} {r g : Nat} {a b c x y z : Value} (h : r ≠ g) (h0 : w.cell? ⟨r, 0, none⟩ = some x) (h1 : w.cell? ⟨r, 1, none⟩ = some y) (h2 : w.cell? ⟨r, 2, none⟩ = some z) :
    (((w.setCell ⟨g, 0, none⟩ a).setCell ⟨g, 1, none⟩ b).setCell ⟨g, 2, none⟩ c).cell? ⟨r, 0, none⟩ = some x ∧ (((w.setCell ⟨g, 0, none⟩ a).setCell ⟨g, 1, none⟩ b).setCell ⟨g, 2, none⟩ c).cell? ⟨r, 1, none⟩ = some y ∧ (((w.setCell ⟨g, 0, none⟩ a).setCell ⟨g, 1, none⟩ b).setCell ⟨g, 2, none⟩ c).cell? ⟨r, 2, none⟩ = some z :=
  ⟨set3_far h h0, set3_far h h1, set3_far h h2⟩

set_option maxHeartbeats 1600000 in
theorem copy_spec {B : Nat} {lv dv xv : Value} {L D X : List Int} {w : World} (h : RdT B w lv dv xv L D X) (hB : B ≤ w.heap.size) (h1 : L.length ≤ 1099511627776) (h2 : D.length ≤ 1099511627776) (h3 : X.length ≤ 1099511627776) :
    Calls Try.prog 98 #[tenV lv dv xv] w (NewTen w L D X) := by
  have H0 := Lib.hid h
  have HB := Lib.hid hB
  obtain ⟨al, cl, rfl, -⟩ := ints_form h.l
  obtain ⟨ad, cd, rfl, -⟩ := ints_form h.d
  obtain ⟨ax, cx, rfl, -⟩ := ints_form h.x
  have T0 := Lib.hid (Bx.two w (.slice al L.length cl) (.slice ad D.length cd) (.slice ax X.length cx) nilV nilV nilV 55 55)
  have HI1 := Lib.hid (fun (w1 : World) (hb : Below w.heap.size w w1) => ints_new (H0.out.below hb HB.out).l (Nat.le_trans HB.out hb.size) h1)
  have HI2 := Lib.hid (fun (w1 : World) (hb : Below w.heap.size w w1) => ints_new (H0.out.below hb HB.out).d (Nat.le_trans HB.out hb.size) h2)
  have HI3 := Lib.hid (fun (w1 : World) (hb : Below w.heap.size w w1) => ints_new (H0.out.below hb HB.out).x (Nat.le_trans HB.out hb.size) h3)
  obtain ⟨ml, hml⟩ : ∃ m, m = L.length := ⟨_, rfl⟩
  obtain ⟨md, hmd⟩ : ∃ m, m = D.length := ⟨_, rfl⟩
  obtain ⟨mx, hmx⟩ : ∃ m, m = X.length := ⟨_, rfl⟩
  rw [← hml, ← hmd, ← hmx] at T0 ⊢
  rw [← hml] at HI1
  rw [← hmd] at HI2
  rw [← hmx] at HI3
  clear h hB h1 h2 h3 H0 hml hmd hmx
  go_enter Try.func98, Try.ntmps98
  go_wp2
  generalize hW : (w.alloc (.cells #[.slice al ml cl, .slice ad md cd, .slice ax mx cx] 55)).alloc (.cells #[nilV, nilV, nilV] 55) = w1 at T0 ⊢
  clear hW
  have T1 := Lib.hid (And.intro (T0.out.1.step ((Below.refl _ _).drew)) (T0.out.2.step ((Below.refl _ _).drew)))
  clear T0
  obtain ⟨-, s0, s1, s2, -⟩ := T1.out.1
  have AR1 := Lib.hid True.intro
  have AR2 := Lib.hid True.intro
  have AR3 := Lib.hid True.intro
  go_region_held3 (fun w' => w'.cell? ⟨w.heap.size, 0, none⟩ = some (.slice al ml cl) ∧ w'.cell? ⟨w.heap.size, 1, none⟩ = some (.slice ad md cd) ∧ w'.cell? ⟨w.heap.size, 2, none⟩ = some (.slice ax mx cx)) (first | exact ⟨s0, s1, s2⟩ | with_reducible exact set3_keep (Nat.ne_of_lt (Nat.lt_succ_self _)) s0 s1 s2) (first
    | (go_at_call 109; have AR := AR1; clear AR AR1; refine (HI1.out _ T1.out.1.bel).mono ?_; rintro e w2 ⟨u1, rfl, ho, hb⟩; obtain ⟨a1, c1, rfl, -⟩ := ints_form ho.rd; have T2 := Lib.hid (And.intro (T1.out.1.step hb) (T1.out.2.step hb)); have Z2 := Lib.hid hb.size; have O12 := Lib.hid ho; clear ho hb s0 s1 s2; obtain ⟨-, s0, s1, s2, -⟩ := T2.out.1)
    | (go_at_call 109; have AR := AR2; clear AR AR2; refine (HI2.out _ T2.out.1.bel).mono ?_; rintro e w3 ⟨u2, rfl, ho, hb⟩; obtain ⟨a2, c2, rfl, -⟩ := ints_form ho.rd; have T3 := Lib.hid (And.intro (T2.out.1.step hb) (T2.out.2.step hb)); have Z3 := Lib.hid hb.size; have O13 := Lib.hid (O12.out.below hb (Nat.le_refl _)); have O23 := Lib.hid ho; clear ho hb s0 s1 s2; obtain ⟨-, s0, s1, s2, -⟩ := T3.out.1)
    | (go_at_call 109; have AR := AR3; clear AR AR3; refine (HI3.out _ T3.out.1.bel).mono ?_; rintro e w4 ⟨u3, rfl, ho, hb⟩; obtain ⟨a3, c3, rfl, -⟩ := ints_form ho.rd; have T4 := Lib.hid (And.intro (T3.out.1.step hb) (T3.out.2.step hb)); have Z4 := Lib.hid hb.size; have O14 := Lib.hid (O13.out.below hb (Nat.le_refl _)); have O24 := Lib.hid (O23.out.below hb (Nat.le_refl _)); have O34 := Lib.hid ho; clear ho hb s0 s1 s2; obtain ⟨-, s0, s1, s2, -⟩ := T4.out.1; obtain ⟨-, t0, t1, t2, fr, -, -⟩ := T4.out.2; have f0 := fr 0; have f1 := fr 1; have f2 := fr 2; clear fr))
  clear s0 s1 s2
  go_wp2
  refine bodyPost_ret (v := tenV (.slice a1 L.length c1) (.slice a2 D.length c2) (.slice a3 X.length c3)) (by simp [results, Try.results98, go_sem, t0, t1, t2]) rfl ?_
  have z1 := T1.out.2.lt
  have z1' := T1.out.1.bel.size
  have z2 := Z2.out
  have z3 := Z3.out
  have z4 := Z4.out
  refine ⟨_, _, _, rfl, ?_, ((T4.out.2.bel.setCell (by simp) _).setCell (by simp) _).setCell (by simp) _⟩
  exact OwnG.wide (lo := w1.drew.heap.size) (hi := w4.heap.size) (OwnG.three (m1 := w2.heap.size) (m2 := w3.heap.size) (Own.set (Own.set (Own.set O14.out (by omega) _) (by omega) _) (by omega) _) (Own.set (Own.set (Own.set O24.out (by omega) _) (by omega) _) (by omega) _) (Own.set (Own.set (Own.set O34.out (by omega) _) (by omega) _) (by omega) _) z2 z3 z4) z1' (by simp) (by simp)
end Go.Proofs.Ytdheakjjnaifkaa
namespace Go.Proofs.Ytdheakjjnaifkaa
set_option maxRecDepth 20000
open Go.RowKit

/-- The first j integers of x stand at s. -/
def putTo (s j : Nat) (X x : List Int) : List Int := X.take s ++ (x.take j ++ X.drop (s + j))
theorem putTo_len {s j : Nat} {X x : List Int} (h : s + x.length ≤ X.length) (hj : j ≤ x.length) : (putTo s j X x).length = X.length := by
  unfold putTo; simp only [List.length_append, List.length_take, List.length_drop]; omega
theorem putTo_zero (s : Nat) (X x : List Int) : putTo s 0 X x = X := by simp [putTo]
theorem putTo_set {s j : Nat} {X x : List Int} {a : Int} (h : s + x.length ≤ X.length) (hj : x[j]? = some a) : (putTo s j X x).set (s + j) a = putTo s (j + 1) X x := by
  have hlt := (List.getElem?_eq_some_iff.1 hj).1
  have ha := (List.getElem?_eq_some_iff.1 hj).2
  have h1 : (X.take s).length = s := by rw [List.length_take]; omega
  have h2 : (x.take j).length = j := by rw [List.length_take]; omega
  have h3 : X.drop (s + j) = X[s + j]'(by omega) :: X.drop (s + (j + 1)) := by rw [List.drop_eq_getElem_cons (by omega)]; rfl
  unfold putTo
  rw [List.set_append_right _ _ (by omega), h1, Nat.add_sub_cancel_left, List.set_append_right _ _ (by omega), h2, Nat.sub_self, h3, List.set_cons_zero, List.take_add_one, hj]
  simp
theorem putTo_full {s : Nat} {X x : List Int} : putTo s x.length X x = putL X s x := by simp [putTo, putL]
theorem ints_put (xs : List Int) (i : Nat) (x : Int) : ints (xs.set i x) = (ints xs).set i (.int .i64 x) := by simp [ints, List.map_set]
theorem own_slot {w : World} {B g m cap j : Nat} {zs : List Int} (h : Hid (w.ownsRow B 3 1 (.slice (some ⟨g, 0, none⟩) m cap) m (ints zs))) (hj : j < zs.length) : ∃ x, w.cell? ⟨g, j, none⟩ = some (.int .i64 x) := by
  have hl : (ints zs).length = m * 1 := h.out.1
  rw [ints_len] at hl
  exact ⟨zs[j], by rw [h.out.cellAt j (by omega), ints_at _ _ hj]⟩
theorem put_step {w : World} {B g m cap s j : Nat} {X x : List Int} {a : Int} (h : Hid (w.ownsRow B 3 1 (.slice (some ⟨g, 0, none⟩) m cap) m (ints (putTo s j X x)))) (hl : s + x.length ≤ X.length) (ha : x[j]? = some a) :
    Hid ((w.drew.setCell ⟨g, s + j, none⟩ (.int .i64 a)).ownsRow B 3 1 (.slice (some ⟨g, 0, none⟩) m cap) m (ints (putTo s (j + 1) X x))) := by
  have h1 : w.drew.ownsRow B 3 1 (.slice (some ⟨g, 0, none⟩) m cap) m (ints (putTo s j X x)) := h.out
  have h2 := (h1.stored (s + j) (.int .i64 a)).1
  rw [← ints_put, putTo_set hl ha] at h2
  exact h2
theorem grownBy_drew {w w1 : World} {r : Option Nat} (h : w.grownBy w1 r) : w.grownBy w1.drew r := ⟨h.os, h.tape, h.output, h.size, h.block⟩

end Go.Proofs.Ytdheakjjnaifkaa
namespace Go.Proofs.Ytdheakjjnaifkaa
set_option maxRecDepth 20000
open Go.RowKit

theorem Bx.grown {w0 w w' : World} {r : Nat} {a b c : Value} {row : Option Nat} (h : Bx w0 w r a b c) (hg : w.grownBy w' row) (hne : ∀ g, row = some g → r ≠ g ∧ w0.heap.size ≤ g) : Bx w0 w' r a b c := by
  have hb : w'.heap[r]? = w.heap[r]? := hg.block r h.lt (fun e => (hne r e.symm).1 rfl)
  have hc : ∀ o, w'.cell? ⟨r, o, none⟩ = w.cell? ⟨r, o, none⟩ := fun o => World.cell?_of_block (w := w) hb
  refine ⟨h.bel.grown hg h.bel.size (fun j hj => (hne j hj).2), (hc 0).trans h.c0, (hc 1).trans h.c1, (hc 2).trans h.c2, fun j => ?_, Nat.lt_of_lt_of_le h.lt hg.size, h.lo⟩
  rw [← h.fr j]
  simp only [World.frozen?, hb]
abbrev Three (w0 w : World) (k p q : Int) (lv dv xv a b c : Value) : Prop := Bx w0 w w0.heap.size (.int .i64 k) (.int .i64 p) (.int .i64 q) ∧ Bx w0 w (w0.heap.size + 1) lv dv xv ∧ Bx w0 w (w0.heap.size + 1 + 1) a b c
/-- Three boxes at the beginning. -/
theorem Three.start (w : World) (k p q : Int) (x y z a b c : Value) (T T2 T3 : TypeId) :
    Three w (((w.alloc (.cells #[.int .i64 k, .int .i64 p, .int .i64 q] T)).alloc (.cells #[x, y, z] T2)).alloc (.cells #[a, b, c] T3)) k p q x y z a b c := by
  obtain ⟨h1, h2⟩ := Bx.two w (.int .i64 k) (.int .i64 p) (.int .i64 q) x y z T T2
  have h3 := Bx.new h2.bel a b c T3
  simp only [World.size_alloc] at h3
  exact ⟨h1.alloc _, h2.alloc _, h3⟩
theorem Three.step {w0 w w' : World} {k p q : Int} {lv dv xv a b c : Value} (h : Three w0 w k p q lv dv xv a b c) (hb : Below w.heap.size w w') : Three w0 w' k p q lv dv xv a b c := ⟨h.1.step hb, h.2.1.step hb, h.2.2.step hb⟩
theorem Three.cells {w0 w : World} {k p q : Int} {lv dv xv a b c : Value} (h : Three w0 w k p q lv dv xv a b c) :
    w.cell? ⟨w0.heap.size, 0, none⟩ = some (.int .i64 k) ∧ w.cell? ⟨w0.heap.size, 1, none⟩ = some (.int .i64 p) ∧ w.cell? ⟨w0.heap.size, 2, none⟩ = some (.int .i64 q) ∧ w.cell? ⟨w0.heap.size + 1, 0, none⟩ = some lv ∧ w.cell? ⟨w0.heap.size + 1, 1, none⟩ = some dv ∧ w.cell? ⟨w0.heap.size + 1, 2, none⟩ = some xv := ⟨h.1.c0, h.1.c1, h.1.c2, h.2.1.c0, h.2.1.c1, h.2.1.c2⟩
theorem Three.ans {w0 w : World} {k p q : Int} {lv dv xv a b c : Value} (h : Three w0 w k p q lv dv xv a b c) :
    w.cell? ⟨w0.heap.size + 1 + 1, 0, none⟩ = some a ∧ w.cell? ⟨w0.heap.size + 1 + 1, 1, none⟩ = some b ∧ w.cell? ⟨w0.heap.size + 1 + 1, 2, none⟩ = some c ∧ w.frozen? ⟨w0.heap.size + 1 + 1, 0, none⟩ = false ∧ w.frozen? ⟨w0.heap.size + 1 + 1, 1, none⟩ = false ∧ w.frozen? ⟨w0.heap.size + 1 + 1, 2, none⟩ = false := ⟨h.2.2.c0, h.2.2.c1, h.2.2.c2, h.2.2.fr 0, h.2.2.fr 1, h.2.2.fr 2⟩

noncomputable def setB (k p q : Int) (L D X ix x : List Int) : Bool := decide (0 ≤ offsetI L D ix) && (tensorB k p q L D X && okElemB k p q x)
noncomputable def setElemL (k q : Int) (L D X ix x : List Int) : List Int := putL X ((offsetI L D ix).toNat * (widthI k q).toNat) x
end Go.Proofs.Ytdheakjjnaifkaa
namespace Go.Proofs.Ytdheakjjnaifkaa
set_option maxRecDepth 20000
open Go.RowKit

theorem own_form {w : World} {lo hi : Nat} {v : Value} {xs : List Int} (h : Own w lo hi v xs) {n : Nat} (hn : xs.length = n) (h0 : 1 ≤ n) : ∃ g cap, v = .slice (some ⟨g, 0, none⟩) n cap ∧ ∀ j u, (ints xs)[j]? = some u → w.cell? ((⟨g, 0, none⟩ : Addr).add j) = some u := by
  subst hn
  rcases h.1.2 with ⟨-, hnil⟩ | ⟨g, cap, cur, e, hb, hg, hnc, hcm, hcs, htake⟩
  · omega
  · refine ⟨g, cap, e, fun j u hu => ?_⟩
    have hlt : j < xs.length := by
      have := (List.getElem?_eq_some_iff.1 hu).1
      rwa [ints_len] at this
    have h1 : w.ownsRow lo 3 1 (.slice (some ⟨g, 0, none⟩) xs.length cap) xs.length (ints xs) := e ▸ h.1
    rw [Addr.add_lit, Nat.zero_add, h1.cellAt j (by omega)]
    exact hu
theorem ints_append (xs ys : List Int) : ints (xs ++ ys) = ints xs ++ ints ys := by simp [ints]
theorem Bx.set3 {w0 w : World} {r : Nat} {a b c : Value} (h : Bx w0 w r a b c) (x y z : Value) : Bx w0 (((w.setCell ⟨r, 0, none⟩ x).setCell ⟨r, 1, none⟩ y).setCell ⟨r, 2, none⟩ z) r x y z := by
  have c := ((h.set x 0).set y 1).set z 2
  simp only [if_true, if_false, Nat.one_ne_zero, Nat.zero_ne_one, Nat.reduceEqDiff] at c
  exact c
theorem Bx.far3 {w0 w : World} {r g : Nat} {a b c : Value} (h : Bx w0 w r a b c) (hg : r ≠ g) (h0 : w0.heap.size ≤ g) (x y z : Value) : Bx w0 (((w.setCell ⟨g, 0, none⟩ x).setCell ⟨g, 1, none⟩ y).setCell ⟨g, 2, none⟩ z) r a b c :=
  ((h.far hg h0 x 0).far hg h0 y 1).far hg h0 z 2
theorem Bx.last {w0 w : World} {r : Nat} {a b c : Value} (h : Bx w0 w r a b c) (z : Value) : Bx w0 (w.setCell ⟨r, 2, none⟩ z) r a b z := by
  have c := h.set z 2
  simp only [if_true, if_false, Nat.reduceEqDiff, Nat.succ_ne_zero] at c
  exact c
/-- The third box is written. -/
theorem Three.put {w0 w : World} {k p q : Int} {lv dv xv a b c : Value} (h : Three w0 w k p q lv dv xv a b c) (x y z : Value) :
    Three w0 (((w.setCell ⟨w0.heap.size + 1 + 1, 0, none⟩ x).setCell ⟨w0.heap.size + 1 + 1, 1, none⟩ y).setCell ⟨w0.heap.size + 1 + 1, 2, none⟩ z) k p q lv dv xv x y z :=
  ⟨h.1.far3 (by omega) (by omega) x y z, h.2.1.far3 (by omega) (by omega) x y z, h.2.2.set3 x y z⟩
theorem Three.putLast {w0 w : World} {k p q : Int} {lv dv xv a b c : Value} (h : Three w0 w k p q lv dv xv a b c) (z : Value) :
    Three w0 (w.setCell ⟨w0.heap.size + 1 + 1, 2, none⟩ z) k p q lv dv xv a b z :=
  ⟨h.1.far (by omega) (by omega) z 2, h.2.1.far (by omega) (by omega) z 2, h.2.2.last z⟩
theorem Three.second {w0 w : World} {k p q : Int} {lv dv xv a b c : Value} (h : Three w0 w k p q lv dv xv a b c) :
    w.cell? ⟨w0.heap.size + 1, 0, none⟩ = some lv ∧ w.cell? ⟨w0.heap.size + 1, 1, none⟩ = some dv ∧ w.cell? ⟨w0.heap.size + 1, 2, none⟩ = some xv ∧ w.frozen? ⟨w0.heap.size + 1, 0, none⟩ = false ∧ w.frozen? ⟨w0.heap.size + 1, 1, none⟩ = false ∧ w.frozen? ⟨w0.heap.size + 1, 2, none⟩ = false :=
  ⟨h.2.1.c0, h.2.1.c1, h.2.1.c2, h.2.1.fr 0, h.2.1.fr 1, h.2.1.fr 2⟩
theorem Three.ring {w0 w : World} {k p q : Int} {lv dv xv a b c : Value} (h : Three w0 w k p q lv dv xv a b c) :
    w.cell? ⟨w0.heap.size, 0, none⟩ = some (.int .i64 k) ∧ w.cell? ⟨w0.heap.size, 1, none⟩ = some (.int .i64 p) ∧ w.cell? ⟨w0.heap.size, 2, none⟩ = some (.int .i64 q) := ⟨h.1.c0, h.1.c1, h.1.c2⟩

abbrev BxE := Nat × Value × Value × Value
abbrev RowE := Value × List Int
structure Rs (w0 wr : World) (bs : List BxE) (rows : List RowE) : Prop where
  bel : Below w0.heap.size w0 wr
  own : ∀ r ∈ rows, wr.ownsRow w0.heap.size 3 1 r.1 r.2.length (ints r.2)
  apart : ApartG rows
  bx : ∀ b ∈ bs, Bx w0 wr b.1 b.2.1 b.2.2.1 b.2.2.2
  far : ∀ b ∈ bs, ∀ r ∈ rows, r.1.ownBlock ≠ some b.1
  dis : bs.Pairwise (fun a b => a.1 ≠ b.1)
variable {w0 wr w' : World} {bs : List BxE} {rows : List RowE}
theorem Rs.start (w : World) : Rs w w [] [] := ⟨Below.refl _ _, fun r h => by simp at h, List.Pairwise.nil, fun b h => by simp at h, fun b h => by simp at h, List.Pairwise.nil⟩
theorem Rs.step (h : Rs w0 wr bs rows) (hb : Below wr.heap.size wr w') : Rs w0 w' bs rows :=
  ⟨h.bel.trans (hb.mono h.bel.size), fun r hr => (h.own r hr).kept (row := none) ⟨hb.os, hb.tape, hb.output, hb.size, fun k hk _ => hb.block k hk⟩ (by cases r.1.ownBlock <;> simp), h.apart, fun b hm => (h.bx b hm).step hb, h.far, h.dis⟩
theorem Rs.drew (h : Rs w0 wr bs rows) : Rs w0 wr.drew bs rows := h.step (Below.drew (Below.refl _ _))
theorem Rs.alloc (h : Rs w0 wr bs rows) (o : Obj) : Rs w0 (wr.alloc o) bs rows := h.step ((Below.refl _ _).alloc (Nat.le_refl _) o)
/-- A box more. -/
theorem Rs.box (h : Rs w0 wr bs rows) (a b c : Value) (T : TypeId) : Rs w0 (wr.alloc (.cells #[a, b, c] T)) ((wr.heap.size, a, b, c) :: bs) rows := by
  have h1 := h.alloc (.cells #[a, b, c] T)
  refine ⟨h1.bel, h1.own, h1.apart, fun x hx => ?_, fun x hx r hr => ?_, List.pairwise_cons.2 ⟨fun x hx => ?_, h.dis⟩⟩
  · rcases List.mem_cons.1 hx with rfl | hx
    · exact Bx.new h.bel a b c T
    · exact h1.bx x hx
  · rcases List.mem_cons.1 hx with rfl | hx
    · intro e; have := ((h.own r hr).lt _ e).2; exact Nat.lt_irrefl _ this
    · exact h.far x hx r hr
  · exact Nat.ne_of_gt (h.bx x hx).lt
/-- A row more, out of a call. -/
theorem Rs.new {v : Value} {xs : List Int} (h : Rs w0 wr bs rows) (hb : Below wr.heap.size wr w') (ho : Own w' wr.heap.size w'.heap.size v xs) : Rs w0 w' bs ((v, xs) :: rows) := by
  have h1 := h.step hb
  refine ⟨h1.bel, fun r hr => ?_, List.pairwise_cons.2 ⟨fun r hr g hg e => ?_, h.apart⟩, h1.bx, fun b hm r hr => ?_, h.dis⟩
  · rcases List.mem_cons.1 hr with rfl | hr
    · exact ⟨ho.1.1, ho.1.2.imp id (fun ⟨g, cap, cur, e, hb, q⟩ => ⟨g, cap, cur, e, Nat.le_trans h.bel.size hb, q⟩)⟩
    · exact h1.own r hr
  · have h2 := ho.lo g hg
    have h3 := ((h.own r hr).lt g e).2
    omega
  · rcases List.mem_cons.1 hr with rfl | hr
    · intro e
      have h2 := ho.lo _ e
      have h3 := (h.bx b hm).lt
      omega
    · exact h.far b hm r hr
theorem Rs.new3 {a b c : Value} {x y z : List Int} (h : Rs w0 wr bs rows) (hb : Below wr.heap.size wr w') (ho : OwnG w' wr.heap.size w'.heap.size [(a, x), (b, y), (c, z)]) : Rs w0 w' bs ((a, x) :: (b, y) :: (c, z) :: rows) := by
  have h1 := h.step hb
  have hlo : ∀ r ∈ [(a, x), (b, y), (c, z)], ∀ g, r.1.ownBlock = some g → wr.heap.size ≤ g := fun r hr g hg => (ho.1 r hr).lo g hg
  have e : (a, x) :: (b, y) :: (c, z) :: rows = [(a, x), (b, y), (c, z)] ++ rows := rfl
  rw [e]
  refine ⟨h1.bel, fun r hr => ?_, List.pairwise_append.2 ⟨ho.2, h.apart, fun r hr s hs g hg e => ?_⟩, h1.bx, fun b hm r hr => ?_, h.dis⟩
  · rcases List.mem_append.1 hr with hr | hr
    · have hq := ho.1 r hr
      exact ⟨hq.1.1, hq.1.2.imp id (fun ⟨g, cap, cur, e, hb, q⟩ => ⟨g, cap, cur, e, Nat.le_trans h.bel.size hb, q⟩)⟩
    · exact h1.own r hr
  · have h2 := hlo r hr g hg
    have h3 := ((h.own s hs).lt g e).2
    omega
  · rcases List.mem_append.1 hr with hr | hr
    · intro e
      have h2 := hlo r hr _ e
      have h3 := (h.bx b hm).lt
      omega
    · exact h.far b hm r hr
/-- An empty row that is written out. -/
theorem Rs.lit (h : Rs w0 wr bs rows) : Rs w0 (wr.alloc (.cells #[] 3)) bs ((.slice (some ⟨wr.heap.size, 0, none⟩) 0 0, []) :: rows) := by
  refine h.new ((Below.refl _ _).alloc (Nat.le_refl _) _) ⟨?_, fun g hg => ?_, Nat.le_refl _⟩
  · exact World.ownsRow_lit (base := wr.heap.size) (e := 3) (size := 1) wr #[] 0 (Nat.le_refl _) (by unfold maxLen; omega) rfl
  · simp only [Value.ownBlock, Option.some.injEq] at hg; subst hg; simp
theorem ApartG.symm {r s : RowE} (h : ∀ g, r.1.ownBlock = some g → s.1.ownBlock ≠ some g) : ∀ g, s.1.ownBlock = some g → r.1.ownBlock ≠ some g := fun g h1 h2 => h g h2 h1
/-- The rows in another order, or fewer of them. -/
theorem Rs.perm {rows' : List RowE} (h : Rs w0 wr bs rows) (hp : rows.Perm rows') : Rs w0 wr bs rows' :=
  ⟨h.bel, fun r hr => h.own r (hp.symm.subset hr), (hp.pairwise_iff ApartG.symm).1 h.apart, h.bx, fun b hm r hr => h.far b hm r (hp.symm.subset hr), h.dis⟩
theorem Rs.sub {rows' : List RowE} (h : Rs w0 wr bs rows) (hs : rows'.Sublist rows) : Rs w0 wr bs rows' :=
  ⟨h.bel, fun r hr => h.own r (hs.subset hr), h.apart.sublist hs, h.bx, fun b hm r hr => h.far b hm r (hs.subset hr), h.dis⟩
theorem Rs.permB {bs' : List BxE} (h : Rs w0 wr bs rows) (hp : bs.Perm bs') : Rs w0 wr bs' rows :=
  ⟨h.bel, h.own, h.apart, fun b hm => h.bx b (hp.symm.subset hm), fun b hm => h.far b (hp.symm.subset hm), (hp.pairwise_iff Ne.symm).1 h.dis⟩
theorem Rs.subB {bs' : List BxE} (h : Rs w0 wr bs rows) (hs : bs'.Sublist bs) : Rs w0 wr bs' rows :=
  ⟨h.bel, h.own, h.apart, fun b hm => h.bx b (hs.subset hm), fun b hm => h.far b (hs.subset hm), h.dis.sublist hs⟩
/-- Two rows change places. -/
theorem Rs.swap {a b : RowE} (h : Rs w0 wr bs (a :: b :: rows)) : Rs w0 wr bs (b :: a :: rows) := h.perm (List.Perm.swap _ _ _)
theorem Rs.third {a b c : RowE} (h : Rs w0 wr bs (a :: b :: c :: rows)) : Rs w0 wr bs (c :: a :: b :: rows) := h.perm (List.Perm.trans (List.Perm.cons _ (List.Perm.swap _ _ _)) (List.Perm.swap _ _ _))
theorem Rs.fourth {a b c d : RowE} (h : Rs w0 wr bs (a :: b :: c :: d :: rows)) : Rs w0 wr bs (d :: a :: b :: c :: rows) :=
  h.perm (List.Perm.trans (List.Perm.cons _ (List.Perm.trans (List.Perm.cons _ (List.Perm.swap _ _ _)) (List.Perm.swap _ _ _))) (List.Perm.swap _ _ _))
theorem Rs.swapB {a b : BxE} (h : Rs w0 wr (a :: b :: bs) rows) : Rs w0 wr (b :: a :: bs) rows := h.permB (List.Perm.swap _ _ _)
theorem Rs.thirdB {a b c : BxE} (h : Rs w0 wr (a :: b :: c :: bs) rows) : Rs w0 wr (c :: a :: b :: bs) rows := h.permB (List.Perm.trans (List.Perm.cons _ (List.Perm.swap _ _ _)) (List.Perm.swap _ _ _))
/-- What is told of a row that is first. -/
theorem Rs.rd {v : Value} {xs : List Int} (h : Rs w0 wr bs rows) (hm : (v, xs) ∈ rows) : Rd wr.heap.size wr v (ints xs) := by
  have ho := h.own _ hm
  exact (Own.of (n := xs.length) ho rfl).rd
theorem Rs.own1 {v : Value} {xs : List Int} (h : Rs w0 wr bs rows) (hm : (v, xs) ∈ rows) : Own wr w0.heap.size wr.heap.size v xs := Own.of (n := xs.length) (h.own _ hm) rfl
theorem Rs.ownG (h : Rs w0 wr bs rows) : OwnG wr w0.heap.size wr.heap.size rows := ⟨fun r hr => Own.of (n := r.2.length) (h.own r hr) rfl, h.apart⟩
/-- The first row has grown by an append. -/
theorem Rs.app {v : Value} {xs news : List Int} {g n cap : Nat} (h : Rs w0 wr bs ((v, xs) :: rows)) (ho : w'.ownsRow w0.heap.size 3 1 (.slice (some ⟨g, 0, none⟩) n cap) n (ints (xs ++ news))) (hn : (xs ++ news).length = n) (hg : wr.grownBy w' v.ownBlock) (hl : v.ownBlock = some g ∨ g = wr.heap.size) :
    Rs w0 w' bs ((.slice (some ⟨g, 0, none⟩) n cap, xs ++ news) :: rows) := by
  have hlo : ∀ k, v.ownBlock = some k → w0.heap.size ≤ k := fun k hk => ((h.own (v, xs) (by simp)).lt k hk).1
  have hap := List.pairwise_cons.1 h.apart
  have kept : ∀ r ∈ rows, w'.ownsRow w0.heap.size 3 1 r.1 r.2.length (ints r.2) := fun r hr => (h.own r (by simp [hr])).kept hg (by
    cases hv : r.1.ownBlock with
    | none => exact .inl rfl
    | some k => exact .inr fun e => hap.1 r hr k e.symm hv)
  have fresh : ∀ k, (k = wr.heap.size ∨ v.ownBlock = some k) → ∀ r ∈ rows, r.1.ownBlock ≠ some k := fun k hk r hr e => by
    rcases hk with rfl | hk
    · have := ((h.own r (by simp [hr])).lt _ e).2; omega
    · exact hap.1 r hr k hk e
  refine ⟨h.bel.grown hg h.bel.size hlo, fun r hr => ?_, List.pairwise_cons.2 ⟨fun r hr k hk e => ?_, hap.2⟩, fun b hm => (h.bx b hm).grown hg (fun k hk => ⟨fun e => h.far b hm (v, xs) (by simp) (by rw [hk, e]), hlo k hk⟩), fun b hm r hr => ?_, h.dis⟩
  · rcases List.mem_cons.1 hr with rfl | hr
    · rw [hn]; exact ho
    · exact kept r hr
  · simp only [Value.ownBlock, Option.some.injEq] at hk
    subst hk
    exact fresh g (hl.symm) r hr e
  · rcases List.mem_cons.1 hr with rfl | hr
    · simp only [Value.ownBlock, ne_eq, Option.some.injEq]
      intro e
      rcases hl with hl | hl
      · exact h.far b hm (v, xs) (by simp) (by rw [hl, e])
      · have := (h.bx b hm).lt; omega
    · exact h.far b hm r (by simp [hr])
/-- The first row is written. -/
theorem Rs.put {xs : List Int} {g n cap : Nat} (h : Rs w0 wr bs ((.slice (some ⟨g, 0, none⟩) n cap, xs) :: rows)) (hn : xs.length = n) (i : Nat) (x : Int) : Rs w0 (wr.setCell ⟨g, i, none⟩ (.int .i64 x)) bs ((.slice (some ⟨g, 0, none⟩) n cap, xs.set i x) :: rows) := by
  have h0 := h.own (.slice (some ⟨g, 0, none⟩) n cap, xs) (by simp)
  have h0' : wr.ownsRow w0.heap.size 3 1 (.slice (some ⟨g, 0, none⟩) n cap) n (ints xs) := hn ▸ h0
  have st := h0'.stored i (.int .i64 x)
  have hlo := (h0.lt g rfl).1
  have hap := List.pairwise_cons.1 h.apart
  refine ⟨h.bel.setCell hlo _, fun r hr => ?_, List.pairwise_cons.2 ⟨hap.1, hap.2⟩, fun b hm => (h.bx b hm).far (fun e => h.far b hm (.slice (some ⟨g, 0, none⟩) n cap, xs) (by simp) (by rw [e]; rfl)) hlo _ i, fun b hm r hr => ?_, h.dis⟩
  · rcases List.mem_cons.1 hr with rfl | hr2
    · have h1 := st.1
      rw [← ints_put] at h1
      show World.ownsRow _ _ _ _ _ _ _
      rw [List.length_set, hn]; exact h1
    · exact (h.own r (by simp [hr2])).kept st.2 (by
        cases hv : r.1.ownBlock with
        | none => exact .inl rfl
        | some k => exact .inr fun e => by injection e with e; exact hap.1 r hr2 g rfl (by rw [hv, e]))
  · rcases List.mem_cons.1 hr with rfl | hr
    · exact h.far b hm (.slice (some ⟨g, 0, none⟩) n cap, xs) (by simp)
    · exact h.far b hm r (by simp [hr])
/-- The cells of a box. -/
theorem Rs.at {r : Nat} {a b c : Value} (h : Rs w0 wr bs rows) (hm : (r, a, b, c) ∈ bs) : (wr.cell? ⟨r, 0, none⟩ = some a ∧ wr.cell? ⟨r, 1, none⟩ = some b ∧ wr.cell? ⟨r, 2, none⟩ = some c) ∧ wr.frozen? ⟨r, 0, none⟩ = false ∧ wr.frozen? ⟨r, 1, none⟩ = false ∧ wr.frozen? ⟨r, 2, none⟩ = false :=
  have k := h.bx _ hm
  ⟨⟨k.c0, k.c1, k.c2⟩, k.fr 0, k.fr 1, k.fr 2⟩
theorem Rs.row {v : Value} {xs : List Int} {n : Nat} (h : Rs w0 wr bs rows) (hm : (v, xs) ∈ rows) (hn : xs.length = n) : wr.ownsRow w0.heap.size 3 1 v n (ints xs) := hn ▸ h.own _ hm
theorem Rs.nil (h : Rs w0 wr bs rows) : Rs w0 wr bs ((nilV, []) :: rows) :=
  ⟨h.bel, fun r hr => by
    rcases List.mem_cons.1 hr with rfl | hr
    · exact World.ownsRow_nil _ _ _ _
    · exact h.own r hr, List.pairwise_cons.2 ⟨fun r _ g hg => by simp [Value.ownBlock] at hg, h.apart⟩, h.bx, fun b hm r hr => by
    rcases List.mem_cons.1 hr with rfl | hr
    · simp [Value.ownBlock]
    · exact h.far b hm r hr, h.dis⟩
/-- A row of n zeros that make has made. -/
theorem Rs.made {n : Nat} (h : Rs w0 wr bs rows) (ho : w'.ownsRow wr.heap.size 3 1 (.slice (some ⟨wr.heap.size, 0, none⟩) n n) n (madeCells (Value.int .i64 0).cells (n * 1)).toList) (hg : wr.grownBy w' none) :
    Rs w0 w' bs ((.slice (some ⟨wr.heap.size, 0, none⟩) n n, List.replicate n 0) :: rows) := by
  have e : (madeCells (Value.int .i64 0).cells (n * 1)).toList = ints (List.replicate n 0) := by
    rw [Nat.mul_one]
    exact (toList_madeCells_one _ _).trans (by simp [ints])
  rw [e] at ho
  exact h.new ((Below.refl _ _).grown hg (Nat.le_refl _) (fun k hk => by cases hk)) (Own.of (n := n) ho (by simp))
/-- A store into a box of the list, others kept. -/
theorem Rs.setB {r : Nat} {a b c : Value} (h : Rs w0 wr ((r, a, b, c) :: bs) rows) (i : Nat) (v : Value) : Rs w0 (wr.setCell ⟨r, i, none⟩ v) ((r, (if i = 0 then v else a), (if i = 1 then v else b), (if i = 2 then v else c)) :: bs) rows := by
  have h0 := h.bx (r, a, b, c) (by simp)
  have hd := List.pairwise_cons.1 h.dis
  refine ⟨h.bel.setCell h0.lo _, fun x hx => (h.own x hx).kept (grownBy_set wr r i v) ?_, h.apart, fun x hx => ?_, fun x hx y hy => ?_, List.pairwise_cons.2 ⟨fun x hx => hd.1 x hx, hd.2⟩⟩
  · cases hv : x.1.ownBlock with
    | none => exact .inl rfl
    | some k => exact .inr fun e => by injection e with e; subst e; exact h.far (k, a, b, c) (by simp) x hx hv
  · rcases List.mem_cons.1 hx with rfl | hx
    · exact h0.set v i
    · exact (h.bx x (by simp [hx])).far (fun e => hd.1 x hx e.symm) h0.lo v i
  · rcases List.mem_cons.1 hx with rfl | hx
    · exact h.far (r, a, b, c) (by simp) y hy
    · exact h.far x (by simp [hx]) y hy
theorem Rs.set3 {r : Nat} {a b c : Value} (h : Rs w0 wr ((r, a, b, c) :: bs) rows) (x y z : Value) : Rs w0 (((wr.setCell ⟨r, 0, none⟩ x).setCell ⟨r, 1, none⟩ y).setCell ⟨r, 2, none⟩ z) ((r, x, y, z) :: bs) rows := by
  have c := ((h.setB 0 x).setB 1 y).setB 2 z
  simp only [if_true, if_false, Nat.one_ne_zero, Nat.zero_ne_one, Nat.reduceEqDiff] at c
  exact c
theorem Rs.last {r : Nat} {a b c : Value} (h : Rs w0 wr ((r, a, b, c) :: bs) rows) (z : Value) : Rs w0 (wr.setCell ⟨r, 2, none⟩ z) ((r, a, b, z) :: bs) rows := by
  have c := h.setB 2 z
  simp only [if_true, if_false, Nat.reduceEqDiff, Nat.succ_ne_zero] at c
  exact c
theorem Rs.first {r : Nat} {a b c : Value} (h : Rs w0 wr ((r, a, b, c) :: bs) rows) (z : Value) : Rs w0 (wr.setCell ⟨r, 0, none⟩ z) ((r, z, b, c) :: bs) rows := by
  have c := h.setB 0 z
  simp only [if_true, if_false, Nat.reduceEqDiff, Nat.zero_ne_one] at c
  exact c
end Go.Proofs.Ytdheakjjnaifkaa
namespace Go.Proofs.Ytdheakjjnaifkaa
set_option maxRecDepth 20000
open Go.RowKit

end Go.Proofs.Ytdheakjjnaifkaa
