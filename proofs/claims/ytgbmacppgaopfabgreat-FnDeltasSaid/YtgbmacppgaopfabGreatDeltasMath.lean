
/- Contractions with deltas and the diagonals of them, by reckoning over all lists of labels that are drawn. -/
import Derived.Test.YtgbmacppgaopfabGreatLinKit
import Derived.Test.YtgbmacppgaopfabGreatPairsMath
import Derived.Test.YtgbmacppgaopfabGreatDeltaSpec
import Derived.Test.YtgbmacppgaopfabGreatDiagMath
namespace Go.Proofs.YtgbmacppgaopfabGreat
set_option maxRecDepth 20000
open Go.RowKit

def six : List Int := [0, 1, 2, 3, 4, 5]
def labs3 : List (List Int) := ((six.map fun a => [a]) ++ ((six.flatMap fun a => six.map fun b => [a, b]) ++ (six.flatMap fun a => six.flatMap fun b => six.map fun c => [a, b, c]))).filter fun l => decide l.Nodup
theorem six_mem {x : Int} (h : 0 ≤ x ∧ x < 6) : x ∈ six := by
  have : x = 0 ∨ x = 1 ∨ x = 2 ∨ x = 3 ∨ x = 4 ∨ x = 5 := by omega
  rcases this with rfl | rfl | rfl | rfl | rfl | rfl <;> decide
theorem labs_mem {L D : List Int} (h : LabV 6 3 L D) (hn : L ≠ []) : L ∈ labs3 := by
  have hnd := h.nd
  have hr : ∀ x ∈ L, x ∈ six := fun x hx => six_mem (h.rg x hx)
  have hm := h.most
  clear h
  refine List.mem_filter.2 ⟨?_, decide_eq_true hnd⟩
  match L, hm, hn with
  | [], _, hn => exact absurd rfl hn
  | [a], _, _ => exact List.mem_append.2 (.inl (List.mem_map.2 ⟨a, hr a (by simp), rfl⟩))
  | [a, b], _, _ => exact List.mem_append.2 (.inr (List.mem_append.2 (.inl (List.mem_flatMap.2 ⟨a, hr a (by simp), List.mem_map.2 ⟨b, hr b (by simp), rfl⟩⟩))))
  | [a, b, c], _, _ => exact List.mem_append.2 (.inr (List.mem_append.2 (.inr (List.mem_flatMap.2 ⟨a, hr a (by simp), List.mem_flatMap.2 ⟨b, hr b (by simp), List.mem_map.2 ⟨c, hr c (by simp), rfl⟩⟩⟩))))
  | a :: b :: c :: e :: r, hm, _ => simp at hm
/-- What a write leaves. -/
theorem putL_get {X x : List Int} {s i : Nat} (h : s + x.length ≤ X.length) : (putL X s x)[i]? = if s ≤ i ∧ i < s + x.length then x[i - s]? else X[i]? := by
  unfold putL
  have h0 : (X.take s).length = s := by rw [List.length_take]; omega
  have h1 : (X.take s ++ x).length = s + x.length := by rw [List.length_append, h0]
  by_cases a : i < s
  · rw [List.getElem?_append_left (by omega), List.getElem?_append_left (by omega), List.getElem?_take_of_lt a, if_neg (by omega)]
  · by_cases b : i < s + x.length
    · rw [List.getElem?_append_left (by omega), List.getElem?_append_right (by omega), h0, if_pos ⟨by omega, b⟩]
    · rw [List.getElem?_append_right (by omega), List.getElem?_drop, h1, if_neg (by omega)]
      congr 1
      omega
theorem getL_none {wd n i : Nat} {X : List Int} (h : wd ≤ i) : (getL wd X n)[i]? = none := by
  unfold getL
  exact List.getElem?_eq_none (by rw [List.length_take]; omega)
theorem getL_put_same {wd n : Nat} {X x : List Int} (hx : x.length = wd) (h : n * wd + wd ≤ X.length) : getL wd (putL X (n * wd) x) n = x := by
  refine List.ext_getElem? fun i => ?_
  by_cases hi : i < wd
  · rw [getL_at hi, putL_get (by omega), if_pos ⟨by omega, by omega⟩]
    congr 1
    omega
  · rw [getL_none (by omega), List.getElem?_eq_none (by omega)]
theorem getL_put_other {wd n m : Nat} {X x : List Int} (hx : x.length = wd) (h : m * wd + wd ≤ X.length) (hne : n ≠ m) : getL wd (putL X (m * wd) x) n = getL wd X n := by
  refine List.ext_getElem? fun i => ?_
  by_cases hi : i < wd
  · rw [getL_at hi, getL_at hi, putL_get (by omega)]
    have h2 : ¬ (m * wd ≤ n * wd + i ∧ n * wd + i < m * wd + x.length) := by
      intro ⟨a, b⟩
      rcases Nat.lt_or_gt_of_ne hne with c | c
      · have := Nat.mul_le_mul_right wd (show n + 1 ≤ m by omega)
        rw [Nat.add_mul, Nat.one_mul] at this
        omega
      · have := Nat.mul_le_mul_right wd (show m + 1 ≤ n by omega)
        rw [Nat.add_mul, Nat.one_mul] at this
        omega
    rw [if_neg h2]
  · rw [getL_none (by omega), getL_none (by omega)]
/-- Where a delta has a one. -/
def dflag (m : Nat) (d : Int) (n : Nat) : Bool := (List.range d.toNat).any fun i => diagO (List.replicate m d) i == n
theorem deltaTo_get {wd N : Nat} {D one Z : List Int} (h1 : one.length = wd) (hZ : Z.length = N * wd) : ∀ j, (∀ i, i < j → diagO D i < N) → (deltaTo wd D one Z j).length = N * wd ∧ ∀ n, n < N → getL wd (deltaTo wd D one Z j) n = if ((List.range j).any fun i => diagO D i == n) = true then one else getL wd Z n := by
  intro j
  induction j with
  | zero => intro _; exact ⟨hZ, fun n _ => by simp [deltaTo_zero]⟩
  | succ j ih =>
    intro hO
    obtain ⟨i1, i2⟩ := ih fun i hi => hO i (by omega)
    have hj := hO j (by omega)
    have hm := Nat.mul_le_mul_right wd (show diagO D j + 1 ≤ N by omega)
    rw [Nat.add_mul, Nat.one_mul] at hm
    rw [deltaTo_succ]
    refine ⟨by rw [putL_lens (by omega)]; exact i1, fun n hn => ?_⟩
    by_cases e : n = diagO D j
    · subst e
      rw [getL_put_same h1 (by omega), if_pos]
      rw [List.any_eq_true]
      exact ⟨j, by simp, by simp⟩
    · rw [getL_put_other h1 (by omega) e, i2 n hn]
      rw [List.range_succ, List.any_append]
      have : ([j].any fun i => diagO D i == n) = false := by simp; exact fun h => e h.symm
      rw [this, Bool.or_false]
theorem deltaTo_within {t : Int} {wd : Nat} {D one Z : List Int} (h1 : Within t one) (hZ : Within t Z) : ∀ j, Within t (deltaTo wd D one Z j) := by
  intro j
  induction j with
  | zero => exact hZ
  | succ j ih => rw [deltaTo_succ]; exact putL_within ih h1
/-- A delta whose places are in range. -/
theorem delta_get {k p q d : Int} {m N : Nat} (hr : ringB k p q = true) (hN : (prodL (List.replicate m d)).toNat = N) (hO : ∀ i, i < d.toNat → diagO (List.replicate m d) i < N) :
    (deltaL k p q m d).length = N * (widthI k q).toNat ∧ Within (topI k p q) (deltaL k p q m d) ∧ ∀ n, n < N → getL (widthI k q).toNat (deltaL k p q m d) n = if dflag m d n = true then oneL k p q else zeroL k p q := by
  have hwd := ring_width hr
  have ho := oneL_elem hr
  have hz := zeroL_elem hr
  have hZ : zeroTenL k p q (List.replicate m d) = gatherL (fun _ => zeroL k p q) N := by unfold zeroTenL; rw [hN, repL_gather]
  have hlz : ∀ i, i < N → (zeroL k p q).length = (widthI k q).toNat := fun _ _ => by have := hz.1; omega
  have h1 := deltaTo_get (wd := (widthI k q).toNat) (N := N) (D := List.replicate m d) (one := oneL k p q) (Z := zeroTenL k p q (List.replicate m d)) (by have := ho.1; omega) (by rw [hZ]; exact gather_len _ hlz) d.toNat hO
  refine ⟨h1.1, deltaTo_within ho.2 (by rw [hZ]; exact gather_within fun _ _ => hz.2) _, fun n hn => ?_⟩
  have h2 := h1.2 n hn
  rw [hZ, gather_get hlz hn] at h2
  unfold dflag
  unfold deltaL
  rw [hZ]
  exact h2
/-- A sum in which but one term is not zero. -/
theorem sum_flag {k p q : Int} (hr : ringB k p q = true) {α : Type} {f : α → List Int} {g : α → Bool} : ∀ (l : List α) (s : List Int), ElemV k p q s → (∀ z ∈ l, ElemV k p q (f z)) →
    sumT k p s (l.map fun z => timesL k p (f z) (if g z = true then oneL k p q else zeroL k p q)) = sumT k p s ((l.filter g).map f) := by
  intro l
  induction l with
  | nil => intro s _ _; rfl
  | cons a l ih =>
    intro s hs hf
    have ha := hf a (by simp)
    have hl : ∀ z ∈ l, ElemV k p q (f z) := fun z hz => hf z (by simp [hz])
    unfold sumT at ih ⊢
    rw [List.map_cons, List.foldl_cons]
    by_cases e : g a = true
    · rw [if_pos e, List.filter_cons_of_pos e, List.map_cons, List.foldl_cons, (times_one hr ha).1]
      exact ih _ (plusL_elem hr hs ha) hl
    · rw [if_neg e, List.filter_cons_of_neg e, times_zero hr ha, plusL_zero hr hs]
      exact ih _ hs hl
def gDs (L : List Int) : List Int := L.map gD
/-- The pairs of a contraction with a delta: the tensor's offset, and whether the delta has a one there. -/
def dP (m : Nat) (L M K : List Int) (e : Nat) : List (Nat × Bool) :=
  let d := gD (L.getD 0 0)
  let J := joinL L M
  let JD := joinD L (gDs L) M (List.replicate m d)
  ((List.range (prodL JD).toNat).filter fun c => decide (offJ (keepL J K) (keepD J JD K) J JD c = e)).map fun c => (offJ L (gDs L) J JD c, dflag m d (offJ M (List.replicate m d) J JD c))
def chkP (m : Nat) (L M K : List Int) : Bool :=
  let d := gD (L.getD 0 0)
  let J := joinL L M
  let JD := joinD L (gDs L) M (List.replicate m d)
  decide (keepL J K = K) && (decide (prodL JD ≤ 4096) && (decide (prodL (keepD J JD K) ≤ 4096) && (decide (prodL (List.replicate m d) ≤ 4096) && ((List.range d.toNat).all (fun i => decide (diagO (List.replicate m d) i < (prodL (List.replicate m d)).toNat)) && (List.range (prodL JD).toNat).all fun c => decide (offJ L (gDs L) J JD c < (prodL (gDs L)).toNat) && decide (offJ M (List.replicate m d) J JD c < (prodL (List.replicate m d)).toNat)))))
def M2 (L : List Int) : List Int := [L.getD 0 0, 50]
def M3 (L : List Int) : List Int := [L.getD 0 0, 60, 70]
def K2 (L : List Int) : List Int := L.tail ++ [50]
def K3 (L : List Int) : List Int := L ++ [60, 70]
def chkA2 (L : List Int) : Bool := (List.range (prodL (gDs L)).toNat).all fun e => decide ((dP 2 L (M2 L) (K2 L) e).filter (·.2) = [(permF L (gDs L) (L.tail ++ [L.getD 0 0]) e, true)]) && decide (permF (50 :: L.tail) (gDs L) (K2 L) e = permF L (gDs L) (L.tail ++ [L.getD 0 0]) e)
def dimF (L : List Int) : List Int := gDs L ++ [gD (L.getD 0 0), gD (L.getD 0 0)]
def dimG (L : List Int) : List Int := gDs L ++ [gD (L.getD 0 0)]
def gF (L : List Int) (n : Nat) : Nat := diagF (K3 L) (dimF L) 60 ((K3 L).idxOf 70) ((K3 L).idxOf 60) n
def hF (L : List Int) (n : Nat) : Nat := diagF (L ++ [70]) (dimG L) 70 ((L ++ [70]).idxOf (L.getD 0 0)) ((L ++ [70]).idxOf 70) n
def chkH (L : List Int) : Bool := (List.range (prodL (gDs L)).toNat).all fun n => decide (hF L n < (prodL (dimG L)).toNat) && (decide (gF L (hF L n) < (prodL (dimF L)).toNat) && decide ((dP 3 L (M3 L) (K3 L) (gF L (hF L n))).filter (·.2) = [(n, true)]))
def chkD (L : List Int) : Bool := let x := L.getD 0 0
  decide (keepD (joinL L (M2 L)) (joinD L (gDs L) (M2 L) [gD x, gD x]) (K2 L) = dimsVia L (gDs L) (L.tail ++ [x])) && (decide (keepD (joinL L (M3 L)) (joinD L (gDs L) (M3 L) [gD x, gD x, gD x]) (K3 L) = dimF L) && (decide (exL (K3 L) 60 = L ++ [70]) && (decide (exD (K3 L) (dimF L) 60 = dimG L) && (decide (exL (L ++ [70]) 70 = L) && (decide (exD (L ++ [70]) (dimG L) 70 = gDs L) && (decide ((K2 L).Perm (50 :: L.tail)) && (decide ((L.tail ++ [x]).Perm L) && (decide (L.Nodup) && decide (dimsVia (50 :: L.tail) (gDs L) (K2 L) = dimsVia L (gDs L) (L.tail ++ [x]))))))))))
theorem chk_P2 : (labs3.all fun L => chkP 2 L (M2 L) (K2 L)) = true := by kernel_rfl
theorem chk_P3 : (labs3.all fun L => chkP 3 L (M3 L) (K3 L)) = true := by kernel_rfl
theorem chk_A2 : labs3.all chkA2 = true := by kernel_rfl
theorem chk_H : labs3.all chkH = true := by kernel_rfl
theorem chk_D : labs3.all chkD = true := by kernel_rfl
/-- A contraction with a delta. -/
theorem pair_delta {k p q : Int} {m : Nat} {L M K X : List Int} (ht : tensorB k p q L (gDs L) X = true) (hc : chkP m L M K = true) :
    pairL k p q L (gDs L) X M (List.replicate m (gD (L.getD 0 0))) (deltaL k p q m (gD (L.getD 0 0))) K = gatherL (fun e => sumT k p (zeroL k p q) (((dP m L M K e).filter (·.2)).map fun z => getL (widthI k q).toNat X z.1)) (prodL (keepD (joinL L M) (joinD L (gDs L) M (List.replicate m (gD (L.getD 0 0)))) K)).toNat ∧
    ∀ e, ElemV k p q (sumT k p (zeroL k p q) (((dP m L M K e).filter (·.2)).map fun z => getL (widthI k q).toNat X z.1)) := by
  obtain ⟨d, hd⟩ : ∃ d, d = gD (L.getD 0 0) := ⟨_, rfl⟩
  unfold chkP at hc
  simp only [← hd, Bool.and_eq_true, decide_eq_true_eq, List.all_eq_true, List.mem_range] at hc ⊢
  obtain ⟨c1, c2, c3, c4, c5, c6⟩ := hc
  have hf := LinT.of ht
  have hr := hf.rg
  have hdl := delta_get (k := k) (p := p) (q := q) (m := m) (d := d) hr rfl c5
  unfold pairL
  unfold accL
  have hel : ∀ c, c < (prodL (joinD L (gDs L) M (List.replicate m d))).toNat → ElemV k p q (getL (widthI k q).toNat X (offJ L (gDs L) (joinL L M) (joinD L (gDs L) M (List.replicate m d)) c)) := fun c hc => hf.get (c6 c hc).1
  have hte : ∀ c, c < (prodL (joinD L (gDs L) M (List.replicate m d))).toNat → termJ k p (widthI k q).toNat L (gDs L) X M (List.replicate m d) (deltaL k p q m d) (joinL L M) (joinD L (gDs L) M (List.replicate m d)) c = timesL k p (getL (widthI k q).toNat X (offJ L (gDs L) (joinL L M) (joinD L (gDs L) M (List.replicate m d)) c)) (if dflag m d (offJ M (List.replicate m d) (joinL L M) (joinD L (gDs L) M (List.replicate m d)) c) = true then oneL k p q else zeroL k p q) := fun c hc => by
    unfold termJ
    rw [hdl.2.2 _ (c6 c hc).2]
  have hz := zeroL_elem hr
  have hin : ∀ o, ∀ z ∈ dP m L M K o, ElemV k p q (getL (widthI k q).toNat X z.1) := fun o z hz2 => by
    unfold dP at hz2
    simp only [← hd] at hz2
    obtain ⟨c, hc, rfl⟩ := List.mem_map.1 hz2
    exact hel c (by simpa using (List.mem_filter.1 hc).1)
  have heo : ∀ o, accE k p q (offJ (keepL (joinL L M) K) (keepD (joinL L M) (joinD L (gDs L) M (List.replicate m d)) K) (joinL L M) (joinD L (gDs L) M (List.replicate m d))) (termJ k p (widthI k q).toNat L (gDs L) X M (List.replicate m d) (deltaL k p q m d) (joinL L M) (joinD L (gDs L) M (List.replicate m d))) (prodL (joinD L (gDs L) M (List.replicate m d))).toNat o = sumT k p (zeroL k p q) (((dP m L M K o).filter (·.2)).map fun z => getL (widthI k q).toNat X z.1) := fun o => by
    rw [accE_sum]
    rw [← sum_flag (f := fun z : Nat × Bool => getL (widthI k q).toNat X z.1) (g := fun z => z.2) hr _ _ hz (hin o)]
    unfold dP
    simp only [← hd]
    rw [List.map_map]
    refine congrArg _ (List.map_congr_left fun c hc => ?_)
    exact hte c (by simpa using (List.mem_filter.1 hc).1)
  refine ⟨gather_congr fun e _ => heo e, fun e => sumT_elem hr hz fun t ht2 => ?_⟩
  obtain ⟨z, hz2, rfl⟩ := List.mem_map.1 ht2
  exact hin e z (List.mem_filter.1 hz2).1
end Go.Proofs.YtgbmacppgaopfabGreat
