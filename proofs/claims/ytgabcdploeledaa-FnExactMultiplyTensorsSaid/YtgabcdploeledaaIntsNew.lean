
/- spec.l05Ints: a copy of a list. -/
import Derived.Test.YtgabcdploeledaaLawKit
import Derived.Deep.DeepMust
import Derived.Maps.AppendAt
import Derived.Laws.AppendOwnNone
namespace Go.Proofs.Ytgabcdploeledaa
set_option maxRecDepth 20000
open Go.RowKit

theorem one_cells (xs : List Int) : ∀ u ∈ ints xs, u.oneCell' = true := by
  intro u hu
  obtain ⟨x, -, rfl⟩ := List.mem_map.1 hu
  rfl
theorem news_at {w : World} {b off : Nat} {xs : List Int} (hc : ∀ i (h : i < xs.length), w.cell? ⟨b, off + i, none⟩ = some (.int .i64 xs[i])) : ∀ j u, (ints xs)[j]? = some u → w.cell? ((⟨b, off, none⟩ : Addr).add j) = some u := by
  intro j u hj
  have hlt : j < xs.length := by
    have := (List.getElem?_eq_some_iff.1 hj).1
    rwa [ints_len] at this
  rw [ints_at xs j hlt] at hj
  rw [Addr.add_lit, hc j hlt]
  exact hj
theorem run_append_none_cap {P : Program} {w : World} (base : Nat) (t ty e : TypeId) (i : TypeInfo) (size : Nat) (ht : P.underlying t = some (.slice e)) (hi : P.info? e = some i) (v : Value) (n : Nat) (xs : List Value) (hown : w.ownsRow base e size v n xs) (c : Nat) :
    (Builtin.append_ #[t, t] ty #[v, .slice none 0 c]).run P w = .ok v w := by
  rcases hown.2 with ⟨rfl, rfl⟩ | ⟨g, cap, cur, rfl, -, -, hnc, -⟩
  · simp [Builtin.append_, run_underlying ht, sizeOf, typeInfo, hi, Builtin.lenOf, Builtin.firstCells]
  · simp [Builtin.append_, run_underlying ht, sizeOf, typeInfo, hi, Builtin.lenOf, Builtin.firstCells, hnc, storeCells]
/-- 'append(v, l...)' of a list without elements and without a place. -/
theorem wpList_append_none_cap {P : Program} {w : World} {ops : Array Oper} {rest : List Oper} {o : Oper} {a : Act} {Q : Exit → Act → World → Prop} (hgd : o.guard = none) (s x : Operand) (t : TypeId)
    (ho : o.op = .call { callee := .builtin .append, args := #[s, x], argTypes := #[t, t] })
    (base : Nat) (e : TypeId) (i : TypeInfo) (size : Nat) (ht : P.underlying t = some (.slice e)) (hi : P.info? e = some i)
    (v : Value) (n c : Nat) (xs : List Value) (hs : a.eval s = v) (hown : w.ownsRow base e size v n xs) (hx : a.eval x = .slice none 0 c)
    (h : wpList P ops Q rest (a.put o.dst v) w) : wpList P ops Q (o :: rest) a w := by
  refine wpList_plain hgd fun K hK => ?_
  have hrun := run_append_none_cap (P := P) (w := w) base t o.type e i size ht hi v n xs hown c
  unfold Oper.wp
  simp [execOp, ho, resolve, invoke, builtin, hs, hx, hrun, Result.andThen]
  exact hK _ _ h

set_option maxHeartbeats 800000 in
theorem ints_new_some (ad : Addr) (cap m : Nat) (xs : List Int) (w : World) (hm : xs.length = m) (hn : m ≤ 1099511627776) (hc : ∀ j u, (ints xs)[j]? = some u → w.cell? (ad.add j) = some u) (hb : 0 < m → ad.block < w.heap.size ∧ ad.spot = none) :
    Calls Try.prog 128 #[.slice (some ad) m cap] w (NewRow w xs) := by
  obtain ⟨i0, hi, hz0, hz1, hz2⟩ := info_parts infoInt
  have J0 := Lib.hid hi
  have J1 := Lib.hid hz0
  have J2 := Lib.hid hz1
  have J3 := Lib.hid hz2
  have HM := Lib.hid hm
  have HC : Hid (∀ j u, (ints xs)[j]? = some u → (w.alloc (.cells #[] 3)).cell? (ad.add j) = some u) := Lib.hid fun j u hj => by
    have hlt : j < xs.length := by
      have := (List.getElem?_eq_some_iff.1 hj).1
      rwa [ints_len] at this
    have h2 := hb (by omega)
    rw [← hc j u hj]
    refine ((Below.refl w.heap.size w).alloc (Nat.le_refl _) _).cell (p := ad.add j) ?_
    obtain ⟨b, off, sp⟩ := ad
    simp only at h2
    obtain ⟨h3, rfl⟩ := h2
    rw [Addr.add_lit]
    exact h3
  have HL := Lib.hid (World.ownsRow_lit (base := w.heap.size) (e := 3) (size := 1) w #[] 0 (Nat.le_refl _) (by unfold maxLen; omega) rfl)
  clear hi hz0 hz1 hz2 hm hc hb
  go_enter Try.func128, Try.ntmps128
  go_wp2_with (at_builtin; go_must (refine wpList_append_own _ rfl _ _ 24 rfl w.heap.size 3 i0 (.int .i64 0) 1 8 Try.underlying24 J0.out J1.out J2.out J3.out rfl (by decide) _ _ _ rfl HL.out ad m cap (ints xs) rfl ?c1 HC.out (one_cells xs) ?c2 ?c3 (by simp) ?_))
  case c1 => rw [ints_len, HM.out]
  case c2 => unfold maxLen; omega
  case c3 => omega
  intro v' w2 hown hg _
  have RES : Hid (NewRow w xs (.returned v') w2) := Lib.hid ⟨v', rfl, Own.of (n := 0 + m) (by simpa using hown) (by rw [HM.out]; omega), by
    have := ((Below.refl w.heap.size w).alloc (Nat.le_refl _) (.cells #[] 3)).grown hg (by simp) (fun j hj => by cases hj; exact Nat.le_refl _)
    exact this⟩
  clear hown hg
  go_wp2
  go_ret
  exact RES.out
set_option maxHeartbeats 800000 in
theorem ints_new_none (cap : Nat) (w : World) : Calls Try.prog 128 #[.slice none 0 cap] w (NewRow w []) := by
  obtain ⟨i0, hi, hz0, hz1, hz2⟩ := info_parts infoInt
  have J0 := Lib.hid hi
  have HL := Lib.hid (World.ownsRow_lit (base := w.heap.size) (e := 3) (size := 1) w #[] 0 (Nat.le_refl _) (by unfold maxLen; omega) rfl)
  clear hi hz0 hz1 hz2
  have RES : Hid (Own (w.alloc (.cells #[] 3)) w.heap.size (w.alloc (.cells #[] 3)).heap.size (.slice (some ⟨w.heap.size, 0, none⟩) 0 0) []) := Lib.hid (Own.of (n := 0) HL.out rfl)
  go_enter Try.func128, Try.ntmps128
  go_wp2_with (at_builtin; go_must (refine wpList_append_none_cap rfl _ _ 24 rfl w.heap.size 3 i0 1 Try.underlying24 J0.out _ _ cap _ rfl HL.out rfl ?_))
  go_ret
  exact ⟨_, rfl, RES.out, (Below.refl _ _).alloc (Nat.le_refl _) _⟩
theorem ints_new {B : Nat} {v : Value} {xs : List Int} {w : World} (h : Rd B w v (ints xs)) (hB : B ≤ w.heap.size) (hn : xs.length ≤ 1099511627776) : Calls Try.prog 128 #[v] w (NewRow w xs) := by
  rcases h.ints_cases with ⟨rfl, a, cap, rfl⟩ | ⟨b, off, cap, rfl, hb, hcc, hc⟩
  · cases a with
    | none => exact ints_new_none cap w
    | some ad => exact ints_new_some ad cap 0 [] w rfl (by omega) (fun j u hj => by simp [ints] at hj) (fun h => by omega)
  · exact ints_new_some ⟨b, off, none⟩ cap _ xs w rfl hn (news_at hc) (fun _ => ⟨by show b < _; omega, rfl⟩)
end Go.Proofs.Ytgabcdploeledaa
