
/- From how an argument reads to what the walks ask: a network. -/
import Derived.Test.YtdheakjjnaifkaaOpenTens
import Derived.Test.YtdheakjjnaifkaaOpenRing
import Derived.Test.YtdheakjjnaifkaaNetKit
namespace Go.Proofs.Ytdheakjjnaifkaa
set_option maxRecDepth 20000
open Go.ChangeShapes Go.WideShapes Go.ChangeAt Go.WideMaps Go.WideElems Go.RowKit Go.Joins

theorem netCells : Try.prog.cellsOf 27 = 5 := by kernel_rfl
theorem array5 {α : Type} {cs : Array α} (h : cs.size = 5) : ∃ c0 c1 c2 c3 c4, cs = #[c0, c1, c2, c3, c4] := by
  obtain ⟨l⟩ := cs
  match l, h with
  | [c0, c1, c2, c3, c4], _ => exact ⟨c0, c1, c2, c3, c4, rfl⟩
set_option maxHeartbeats 800000 in
theorem open_network {H : Type} {enc : TypeId × Value → H} {W : World} {base : Nat} {v : Value} {d : DataW H} {ps : List MemPlace} (hok : Value.okWide Try.prog W .any base 27 v) (h : DataW.Trod enc Try.prog W 0 (fun _ => true) true 27 v d ps) (hlt : ∀ x ∈ ps, x.block < W.heap.size) :
    ∃ (k p q : Int) (tv ov : Value) (ts : List TenE) (O : List Int) (d0 d1 d2 : DataW H), v = netV k p q tv ov ∧ d = .agg [d0, d1, d2] ∧ RdTs W.heap.size W tv ts ∧ Rd W.heap.size W ov (ints O) ∧ TensData d1 ts ∧ ListData d2 O ∧ (∀ t ∈ ts, allI t.1 ∧ allI t.2.1 ∧ allI t.2.2) ∧ allI O := by
  obtain ⟨cs, rfl, hsz⟩ := okWide_struct Try.underlying27 hok
  obtain ⟨fuel, hf⟩ := h
  obtain ⟨c0, c1, c2, c3, c4, rfl⟩ := array5 (hsz.trans netCells)
  obtain ⟨y0, y1, y2, n, hx, _, h0, h1, h2⟩ := Go.Deep.trod_struct3 Try.underlying27 hf
  simp only [Prod.mk.injEq] at hx
  obtain ⟨rfl, rfl⟩ := hx
  have e0 : DataW.trod enc Try.prog W 0 (fun _ => true) true n 23 [c0, c1, c2] = some y0 := h0
  have e1 : DataW.trod enc Try.prog W 0 (fun _ => true) true n 24 [c3] = some y1 := h1
  have e2 : DataW.trod enc Try.prog W 0 (fun _ => true) true n 25 [c4] = some y2 := h2
  obtain ⟨ts, rt, st, it⟩ := open_tens_cell e1 (fun x hx => hlt x (by simp [hx]))
  obtain ⟨O, ro, io, so⟩ := open_ints_cell e2 (fun x hx => hlt x (by simp [hx]))
  obtain ⟨z0, z1, z2, n', hz, _, q0, q1, q2⟩ := Go.Deep.trod_struct3 Try.underlying23 e0
  have g0 : DataW.trod enc Try.prog W 0 (fun _ => true) true n' 3 [c0] = some z0 := q0
  have g1 : DataW.trod enc Try.prog W 0 (fun _ => true) true n' 3 [c1] = some z1 := q1
  have g2 : DataW.trod enc Try.prog W 0 (fun _ => true) true n' 3 [c2] = some z2 := q2
  obtain ⟨a, i0, -, -⟩ := DataW.trod_int Try.underlying3 g0
  obtain ⟨b, i1, -, -⟩ := DataW.trod_int Try.underlying3 g1
  obtain ⟨c, i2, -, -⟩ := DataW.trod_int Try.underlying3 g2
  simp at i0 i1 i2
  subst i0 i1 i2
  exact ⟨a, b, c, c3, c4, ts, O, y0.1, y1.1, y2.1, rfl, rfl, rt, ro, st, so, it, io⟩
theorem net_bound {H : Type} {tys : List TypeId} {ds : List (DataW H)} {j : Nat} {d0 d1 d2 : DataW H} {ts : List TenE} {O : List Int} (h : (DataW.weightsEach Try.prog tys ds).all (· ≤ reachBytes) = true) (ht : tys[j]? = some 27) (hd : ds[j]? = some (.agg [d0, d1, d2])) (h1 : TensData d1 ts) (h2 : ListData d2 O) :
    LenN ts O := by
  have h' : (DataW.weightsEach Try.prog [23, 24, 25] [d0, d1, d2]).all (· ≤ reachBytes) = true := by
    refine List.all_eq_true.2 fun n hn => List.all_eq_true.1 h n (DataW.weights_mem_each ht hd n ?_)
    rw [DataW.weights, Try.underlying27]
    exact hn
  have k1 := tens_bound h' (j := 1) rfl rfl h1
  exact ⟨k1.1, k1.2, ints_bound h' (j := 2) rfl rfl h2⟩
end Go.Proofs.Ytdheakjjnaifkaa
