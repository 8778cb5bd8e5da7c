
/- From how an argument reads to what the walks ask: a slice of tensors. -/
import Derived.Test.YtdheakjjnaifkaaOpenTen
import Derived.Test.YtdheakjjnaifkaaTens
import Derived.Deep.Slices
import Derived.Deep.Strs
namespace Go.Proofs.Ytdheakjjnaifkaa
set_option maxRecDepth 20000
open Go.ChangeShapes Go.WideShapes Go.ChangeAt Go.WideMaps Go.WideElems Go.RowKit Go.Joins

theorem list_of {α : Type} {Q : Nat → α → Prop} : ∀ n : Nat, (∀ i, i < n → ∃ y, Q i y) → ∃ l : List α, l.length = n ∧ ∀ (i : Nat) (y : α), l[i]? = some y → Q i y := by
  intro n
  induction n with
  | zero => exact fun _ => ⟨[], rfl, fun i y h => by simp at h⟩
  | succ n ih =>
    intro h
    obtain ⟨l, hl, hq⟩ := ih (fun i hi => h i (by omega))
    obtain ⟨y, hy⟩ := h n (by omega)
    refine ⟨l ++ [y], by simp [hl], fun i z hi => ?_⟩
    by_cases e : i < n
    · rw [List.getElem?_append_left (by omega)] at hi
      exact hq i z hi
    · have hlt := (List.getElem?_eq_some_iff.1 hi).1
      rw [List.length_append, List.length_singleton] at hlt
      obtain rfl : i = n := by omega
      rw [List.getElem?_append_right (by omega), hl, Nat.sub_self] at hi
      have e : y = z := by simpa using hi
      exact e ▸ hy
theorem list3 {α : Type} {l : List α} (h : l.length = 3) : ∃ a b c, l = [a, b, c] := by
  match l, h with
  | [a, b, c], _ => exact ⟨a, b, c, rfl⟩
theorem add_none (b off i : Nat) : (⟨b, off, none⟩ : Addr).add i = ⟨b, off + i, none⟩ := by unfold Addr.add; split <;> simp_all
theorem addr_zero2 {a : Addr} {w : World} {v : Value} (h : w.cell? ((a.add 0).add 0) = some v) : ∃ b off, a = ⟨b, off, none⟩ := by
  have e : ∀ x : Addr, x.add 0 = x := fun x => by unfold Addr.add; split <;> simp_all
  rw [e, e] at h
  exact addr_of h
/-- Every tensor of the datum is three lists. -/
def TensData {H : Type} (d : DataW H) (ts : List TenE) : Prop := ts = [] ∨ ∃ elems spare, d = .slice elems spare ∧ elems.length = ts.length ∧ ∀ (i : Nat) (t : TenE), ts[i]? = some t → ∃ d0 d1 d2, elems[i]? = some (.agg [d0, d1, d2]) ∧ ListData d0 t.1 ∧ ListData d1 t.2.1 ∧ ListData d2 t.2.2
set_option maxHeartbeats 800000 in
theorem open_tens_cell {H : Type} {enc : TypeId × Value → H} {W : World} {fuel : Nat} {v : Value} {y : DataW H × List MemPlace} (hf : DataW.trod enc Try.prog W 0 (fun _ => true) true fuel 24 [v] = some y) (hlt : ∀ x ∈ y.2, x.block < W.heap.size) :
    ∃ ts, RdTs W.heap.size W v ts ∧ TensData y.1 ts ∧ ∀ t ∈ ts, allI t.1 ∧ allI t.2.1 ∧ allI t.2.2 := by
  obtain ⟨d, ps⟩ := y
  dsimp only at hlt ⊢
  rcases Go.Deep.open_slice Try.underlying24 hf with ⟨hcs, hx⟩ | ⟨a, len, cap, m, n, D, Pl, hcs, _, hl, hmx, hm, hx, hrow⟩
  · simp at hcs
    subst hcs
    simp only [Prod.mk.injEq] at hx
    exact ⟨[], ⟨[], .inl ⟨rfl, _, _, rfl⟩, rfl, fun i u t hu => by simp at hu⟩, .inl rfl, fun t ht => by simp at ht⟩
  · simp at hcs
    subst hcs
    simp only [Prod.mk.injEq] at hx
    obtain ⟨rfl, rfl⟩ := hx
    simp only [if_true] at hm
    subst hm
    rw [tenCells] at hlt hrow
    have key : ∀ i, i < len → ∃ y : (TenW × TenE) × (DataW H × DataW H × DataW H), (W.cell? ((a.add (i * 3)).add 0) = some y.1.1.1 ∧ W.cell? ((a.add (i * 3)).add 1) = some y.1.1.2.1 ∧ W.cell? ((a.add (i * 3)).add 2) = some y.1.1.2.2) ∧ a.block < W.heap.size ∧
        RdT W.heap.size W y.1.1.1 y.1.1.2.1 y.1.1.2.2 y.1.2.1 y.1.2.2.1 y.1.2.2.2 ∧ D i = .agg [y.2.1, y.2.2.1, y.2.2.2] ∧ (ListData y.2.1 y.1.2.1 ∧ ListData y.2.2.1 y.1.2.2.1 ∧ ListData y.2.2.2 y.1.2.2.2) ∧ allI y.1.2.1 ∧ allI y.1.2.2.1 ∧ allI y.1.2.2.2 := fun i hi => by
      obtain ⟨cs', hc, ht⟩ := hrow i (by omega)
      have hblk : a.block < W.heap.size := by
        have h1 := World.cells?_block hc (by omega)
        have h2 : (a.add (i * 3)).block = a.block := by unfold Addr.add; split <;> rfl
        rw [h2] at h1; exact h1
      obtain ⟨_, h3, hcell⟩ := World.cells?_some hc
      obtain ⟨c0, c1, c2, rfl⟩ := list3 h3
      obtain ⟨y0, y1, y2, n', hx, _, h0, h1, h2⟩ := Go.Deep.trod_struct3 Try.underlying98 ht
      have e0 : DataW.trod enc Try.prog W 0 (fun _ => true) true n' 25 [c0] = some y0 := h0
      have e1 : DataW.trod enc Try.prog W 0 (fun _ => true) true n' 25 [c1] = some y1 := h1
      have e2 : DataW.trod enc Try.prog W 0 (fun _ => true) true n' 25 [c2] = some y2 := h2
      simp only [Prod.mk.injEq] at hx
      have hpl : ∀ x ∈ Pl i, x.block < W.heap.size := fun x hx' => hlt x (List.mem_append.2 (.inr (List.mem_flatMap.2 ⟨i, List.mem_range.2 (by omega), hx'⟩)))
      rw [hx.2] at hpl
      obtain ⟨L, r0, i0, s0⟩ := open_ints_cell e0 (fun x hx => hpl x (by simp [hx]))
      obtain ⟨D', r1, i1, s1⟩ := open_ints_cell e1 (fun x hx => hpl x (by simp [hx]))
      obtain ⟨X, r2, i2, s2⟩ := open_ints_cell e2 (fun x hx => hpl x (by simp [hx]))
      exact ⟨(((c0, c1, c2), (L, D', X)), (y0.1, y1.1, y2.1)), ⟨(hcell 0 (by omega)), (hcell 1 (by omega)), (hcell 2 (by omega))⟩, hblk, ⟨r0, r1, r2⟩, hx.1, ⟨s0, s1, s2⟩, i0, i1, i2⟩
    obtain ⟨l, hll, hq⟩ := list_of len key
    refine ⟨l.map (·.1.2), ?_, .inr ⟨_, _, rfl, by simp [hll], fun i t ht => ?_⟩, fun t ht => ?_⟩
    · refine ⟨l.map (·.1.1), ?_, by simp, fun i u t hu ht => ?_⟩
      · by_cases h0 : len = 0
        · subst h0
          rw [List.length_eq_zero_iff.1 hll]
          exact .inl ⟨rfl, _, _, rfl⟩
        · have hl0 : l[0]? = some (l[0]'(by omega)) := List.getElem?_eq_getElem (by omega)
          obtain ⟨⟨k0, -, -⟩, hblk, -⟩ := hq 0 _ hl0
          rw [Nat.zero_mul] at k0
          obtain ⟨b, off, rfl⟩ := addr_zero2 k0
          refine .inr ⟨b, off, m, by rw [List.length_map, hll], hblk, fun i u hu => ?_⟩
          rw [List.getElem?_map] at hu
          cases hy : l[i]? with
          | none => rw [hy] at hu; cases hu
          | some y =>
            rw [hy] at hu
            obtain rfl : y.1.1 = u := by simpa using hu
            obtain ⟨⟨q0, q1, q2⟩, -⟩ := hq i y hy
            rw [add_none, add_none] at q0 q1 q2
            exact ⟨q0, q1, q2⟩
      · rw [List.getElem?_map] at hu ht
        cases hy : l[i]? with
        | none => rw [hy] at hu; cases hu
        | some y =>
          rw [hy] at hu ht
          obtain rfl : y.1.1 = u := by simpa using hu
          obtain rfl : y.1.2 = t := by simpa using ht
          exact (hq i y hy).2.2.1
    · rw [List.getElem?_map] at ht
      cases hy : l[i]? with
      | none => rw [hy] at ht; cases ht
      | some y =>
        rw [hy] at ht
        obtain rfl : y.1.2 = t := by simpa using ht
        have hil := (List.getElem?_eq_some_iff.1 hy).1
        obtain ⟨-, -, -, hd, hs, -⟩ := hq i y hy
        refine ⟨y.2.1, y.2.2.1, y.2.2.2, ?_, hs⟩
        rw [List.getElem?_map, List.getElem?_range (by omega)]
        simp [hd]
    · obtain ⟨y, hy, rfl⟩ := List.mem_map.1 ht
      obtain ⟨i, hi, rfl⟩ := List.mem_iff_getElem.1 hy
      exact (hq i _ (List.getElem?_eq_getElem hi)).2.2.2.2.2
theorem open_tens {H : Type} {enc : TypeId × Value → H} {W : World} {base : Nat} {v : Value} {d : DataW H} {ps : List MemPlace} (hok : Value.okWide Try.prog W .any base 24 v) (h : DataW.Trod enc Try.prog W 0 (fun _ => true) true 24 v d ps) (hlt : ∀ x ∈ ps, x.block < W.heap.size) :
    ∃ ts, RdTs W.heap.size W v ts ∧ TensData d ts ∧ ∀ t ∈ ts, allI t.1 ∧ allI t.2.1 ∧ allI t.2.2 := by
  obtain ⟨a0, len, cap, rfl⟩ := okWide_slice Try.underlying24 hok
  obtain ⟨fuel, hf⟩ := h
  exact open_tens_cell (y := (d, ps)) (by simpa [Value.cells] using hf) hlt
theorem weights_all3 {H : Type} {P : Program} {e : TypeId} : ∀ {ds : List (DataW H)} {i : Nat} {d : DataW H}, ds[i]? = some d → ∀ n ∈ d.weights P e, n ∈ DataW.weightsAll P e ds
  | d0 :: ds, 0, d, hd, n, hn => by
    simp only [List.getElem?_cons_zero, Option.some.injEq] at hd
    subst hd
    simp only [DataW.weightsAll, List.mem_append]
    exact .inl hn
  | d0 :: ds, i + 1, d, hd, n, hn => by
    simp only [List.getElem?_cons_succ] at hd
    simp only [DataW.weightsAll, List.mem_append]
    exact .inr (weights_all3 hd n hn)
  | [], _, _, hd, _, _ => by simp at hd
theorem tens_bound {H : Type} {tys : List TypeId} {ds : List (DataW H)} {j : Nat} {d : DataW H} {ts : List TenE} (h : (DataW.weightsEach Try.prog tys ds).all (· ≤ reachBytes) = true) (ht : tys[j]? = some 24) (hd : ds[j]? = some d) (hx : TensData d ts) :
    ts.length ≤ 281474976710656 ∧ ∀ t ∈ ts, t.1.length ≤ 17592186044416 ∧ t.2.1.length ≤ 17592186044416 ∧ t.2.2.length ≤ 17592186044416 := by
  rcases hx with rfl | ⟨elems, spare, rfl, hl, hr⟩
  · exact ⟨by simp, fun t hx => by simp at hx⟩
  · have k2 := reachBytes_lt
    have k5 : (2 : Nat) ^ 47 = 140737488355328 := by decide
    constructor
    · have k1 := sized_slice h ht hd Try.underlying24
      have k3 : Try.prog.bytesOf 98 = 72 := by kernel_rfl
      rw [k3] at k1
      omega
    · intro t hx
      obtain ⟨i, hi⟩ := List.getElem?_of_mem hx
      obtain ⟨d0, d1, d2, he, s0, s1, s2⟩ := hr i t hi
      have h' : (DataW.weightsEach Try.prog [25, 25, 25] [d0, d1, d2]).all (· ≤ reachBytes) = true := by
        refine List.all_eq_true.2 fun n hn => List.all_eq_true.1 h n (DataW.weights_mem_each ht hd n ?_)
        rw [DataW.weights, Try.underlying24]
        refine List.mem_cons_of_mem _ (List.mem_append.2 (.inl (weights_all3 he _ ?_)))
        rw [DataW.weights, Try.underlying98]
        exact hn
      exact ⟨ints_bound h' (j := 0) rfl rfl s0, ints_bound h' (j := 1) rfl rfl s1, ints_bound h' (j := 2) rfl rfl s2⟩
end Go.Proofs.Ytdheakjjnaifkaa
