
/- A stack of tensors. -/
import Derived.Test.YtfdjlahaiogabaaSliceTen
namespace Go.Proofs.Ytfdjlahaiogabaa
set_option maxRecDepth 20000

/-- Element after element, of each of the layers. -/
def stackL (wd N : Nat) (Ys : List (List Int)) : List Int := gatherL (fun n => Ys.flatMap fun Y => getL wd Y n) N
def stackTo (wd : Nat) (Ys : List (List Int)) (n : Nat) : List Int := getL wd (Ys.getD (n % Ys.length) []) (n / Ys.length)
theorem flatMap_range {α β : Type} (d : α) (l : List α) (f : α → List β) : l.flatMap f = (List.range l.length).flatMap fun i => f (l.getD i d) := by
  have e : l = (List.range l.length).map fun i => l.getD i d := by
    apply List.ext_getElem?
    intro i
    rw [List.getElem?_map]
    by_cases hi : i < l.length
    · rw [List.getElem?_range hi, List.getElem?_eq_getElem hi]
      simp [List.getD_eq_getElem?_getD, hi]
    · rw [List.getElem?_eq_none (by omega), List.getElem?_eq_none (by simp; omega)]; rfl
  conv => lhs; rw [e]
  rw [List.flatMap_map]
theorem stack_is (wd N : Nat) (Ys : List (List Int)) (hY : 1 ≤ Ys.length) : stackL wd N Ys = gatherL (stackTo wd Ys) (N * Ys.length) := by
  unfold stackL gatherL
  rw [range_mul, List.flatMap_assoc]
  refine congrArg List.flatten (List.map_congr_left ?_)
  intro n _
  rw [flatMap_range [] Ys, List.flatMap_map]
  refine congrArg List.flatten (List.map_congr_left ?_)
  intro v hv
  have hv' := List.mem_range.1 hv
  unfold stackTo
  rw [Nat.add_comm, Nat.add_mul_mod_self_right, Nat.mod_eq_of_lt hv', Nat.add_mul_div_right _ _ (by omega), Nat.div_eq_of_lt hv', Nat.zero_add]
theorem fixD_via {c : Int → Option Int} {L D : List Int} (hn : L.Nodup) (hl : L.length = D.length) : fixD c L D = dimsVia L D (fixL c L) := by
  apply List.ext_getElem?
  intro j
  by_cases hj : j < (fixL c L).length
  · have h1 : (fixL c L)[j]? = some (fixL c L)[j] := List.getElem?_eq_getElem hj
    obtain ⟨n, hn1⟩ : ∃ n, n = (fixL c L)[j] := ⟨_, rfl⟩
    rw [← hn1] at h1
    have hm := List.mem_filter.1 (List.mem_of_getElem? h1)
    have hc : c n = none := by have := hm.2; cases h : c n <;> simp_all
    have h2 := left_at c hc L D hl hm.1
    have hnf : (fixL c L).Nodup := hn.filter _
    rw [idxOf_at hnf h1] at h2
    unfold dimsVia
    rw [List.getElem?_map, h1, Option.map_some, ← h2, List.getElem?_eq_getElem (by rw [fixD_len]; exact hj)]
    simp [List.getD_eq_getElem?_getD, fixD_len, hj]
  · rw [List.getElem?_eq_none (by rw [fixD_len]; omega), List.getElem?_eq_none (by simp [dimsVia]; omega)]
theorem fixL_ex (L : List Int) (b v : Int) : fixL (cK [b] [v]) L = exL L b := fixL_one L b v
theorem fixD_ex {L D : List Int} (hn : L.Nodup) (hl : L.length = D.length) (b v : Int) : fixD (cK [b] [v]) L D = exD L D b := by
  rw [fixD_via hn hl, fixL_ex]; rfl
/-- One slice more: what the lists say so far. -/
theorem fix_more {k p q : Int} {wd N : Nat} {L D X K V : List Int} {i : Nat} {n v : Int} (h : TF k p q L D X wd N) (hKV : K.length = V.length) (hok : OkC (L.map (cK K V)) D) (hn : K[i]? = some n) (hv : V[i]? = some v) (hm : n ∈ fixL (cK (K.take i) (V.take i)) L) :
    exL (fixL (cK (K.take i) (V.take i)) L) n = fixL (cK (K.take (i + 1)) (V.take (i + 1))) L ∧ exD (fixL (cK (K.take i) (V.take i)) L) (fixD (cK (K.take i) (V.take i)) L D) n = fixD (cK (K.take (i + 1)) (V.take (i + 1))) L D ∧ fixX wd (cK [n] [v]) (fixL (cK (K.take i) (V.take i)) L) (fixD (cK (K.take i) (V.take i)) L D) (fixX wd (cK (K.take i) (V.take i)) L D X) = fixX wd (cK (K.take (i + 1)) (V.take (i + 1))) L D X := by
  have hl := h.ax.2.1
  have hnd := h.ax.2.2.2.2
  have h1 := ok_take hl hnd hKV hok i
  have h2 := fix_next hl hok hn hv hm
  have hf := h.fix h1
  have h3 : OkC ((fixL (cK (K.take i) (V.take i)) L).map (cK [n] [v])) (fixD (cK (K.take i) (V.take i)) L D) := ok_one hf.ax.2.1 hf.ax.2.2.2.2 fun _ => h2
  have e := fun m (_ : m ∈ L) => cK_step hn hv m
  refine ⟨?_, ?_, ?_⟩
  · rw [← fixL_ex _ n v, ← fixL_or]; exact fixL_congr e
  · rw [← fixD_ex hf.ax.2.2.2.2 hf.ax.2.1 n v, ← fixD_or]; exact fixD_congr e
  · rw [fixX_or hl h1 h3 h.dim h.room]; exact fixX_congr e
theorem fix_same {wd : Nat} {L D X K V : List Int} {i : Nat} {n v : Int} (hn : K[i]? = some n) (hv : V[i]? = some v) (hm : n ∉ fixL (cK (K.take i) (V.take i)) L) :
    fixL (cK (K.take i) (V.take i)) L = fixL (cK (K.take (i + 1)) (V.take (i + 1))) L ∧ fixD (cK (K.take i) (V.take i)) L D = fixD (cK (K.take (i + 1)) (V.take (i + 1))) L D ∧ fixX wd (cK (K.take i) (V.take i)) L D X = fixX wd (cK (K.take (i + 1)) (V.take (i + 1))) L D X :=
  ⟨fixL_congr (cK_again hn hv hm), fixD_congr (cK_again hn hv hm), fixX_congr (cK_again hn hv hm)⟩
theorem fix_nil {k p q : Int} {wd N : Nat} {L D X : List Int} (h : TF k p q L D X wd N) (V : List Int) : fixL (cK [] V) L = L ∧ fixD (cK [] V) L D = D ∧ fixX wd (cK [] V) L D X = X := by
  have hl := h.ax.2.1
  have e0 : ∀ n ∈ L, cK [] V n = none := fun n _ => cK_none (by simp)
  have e1 : fixL (cK [] V) L = L := fix_none e0
  have e2 : fixD (cK [] V) L D = D := by
    rw [fixD_via h.ax.2.2.2.2 hl, e1, dims_self h.ax.2.2.2.2 hl]
  refine ⟨e1, e2, ?_⟩
  have hid : ∀ (M ix : List Int), ix.length = M.length → fillC (M.map (cK [] V)) ix = ix := by
    intro M
    induction M with
    | nil => intro ix h; rw [List.eq_nil_of_length_eq_zero h]; rfl
    | cons m M ih =>
      intro ix h
      cases ix with
      | nil => simp at h
      | cons x ix =>
        rw [List.map_cons, cK_none (by simp)]
        simp only [fillC, List.headD_cons, List.tail_cons]
        rw [ih ix (by simpa using h)]
  have hX := gather_self h.lX
  have hN : (prodL D).toNat = N := by have := h.pr; omega
  unfold fixX
  rw [e2, hN]
  conv => rhs; rw [← hX]
  refine gather_congr fun m hm => ?_
  have hm2 : (m : Int) < prodL D := by have := h.pr; omega
  unfold fixF
  rw [e2, hid _ _ (by rw [idxL_len, hl]), off_idx h.dim (by omega) hm2, Int.toNat_natCast]
end Go.Proofs.Ytfdjlahaiogabaa
