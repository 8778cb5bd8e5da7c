
/- spec.l06Names. -/
import Derived.Test.YtdheakjjnaifkaaTensorOk
import Derived.Test.YtdheakjjnaifkaaTenFacts
import Derived.Test.YtdheakjjnaifkaaRs
import Derived.Test.YtdheakjjnaifkaaBx
import Derived.Deep.RegionHeld3
import Derived.Test.YtdheakjjnaifkaaTensorOk2
import Derived.Test.YtdheakjjnaifkaaElemAt
import Derived.Deep.AppendLies
import Derived.Deep.RegionLaw
namespace Go.Proofs.Ytdheakjjnaifkaa
set_option maxRecDepth 20000
open Go.RowKit

/-- A row of the call's own, not empty: its cells. -/
theorem Own.slot {w : World} {lo hi m cap : Nat} {a : Option Addr} {xs : List Int} (h : Own w lo hi (.slice a m cap) xs) (hm : xs.length = m) (h0 : 0 < m) :
    ∃ g, a = some ⟨g, 0, none⟩ ∧ lo ≤ g ∧ g < hi ∧ (∀ i x, xs[i]? = some x → w.cell? ⟨g, i, none⟩ = some (.int .i64 x)) ∧ ∀ i, w.frozen? ⟨g, i, none⟩ = false := by
  subst hm
  rcases h.1.2 with ⟨-, hnil⟩ | ⟨g, cap', cur, e, hb, -⟩
  · omega
  · cases e
    refine ⟨g, rfl, hb, h.2.1 g rfl, fun i x hi => ?_, fun i => h.1.frozenAt i⟩
    have hlt := (List.getElem?_eq_some_iff.1 hi).1
    rw [h.1.cellAt i (by omega), ints_at xs i hlt, (List.getElem?_eq_some_iff.1 hi).2]
open Classical in
noncomputable def nameI (F T : List Int) (n : Int) : Int := if n ∈ F then T.getD (F.idxOf n) 0 else n
noncomputable def namesL (L F T : List Int) : List Int := L.map (nameI F T)
theorem namesL_len (L F T : List Int) : (namesL L F T).length = L.length := by simp [namesL]
/-- The first j are renamed. -/
noncomputable def nameTo (j : Nat) (L F T : List Int) : List Int := (L.take j).map (nameI F T) ++ L.drop j
theorem nameTo_zero (L F T : List Int) : nameTo 0 L F T = L := by simp [nameTo]
theorem nameTo_full (L F T : List Int) : nameTo L.length L F T = namesL L F T := by simp [nameTo, namesL]
theorem nameTo_len (j : Nat) (L F T : List Int) : (nameTo j L F T).length = L.length := by simp [nameTo]; omega
theorem nameTo_at {j : Nat} {L F T : List Int} {n : Int} (h : L[j]? = some n) : (nameTo j L F T)[j]? = some n := by
  have hlt := (List.getElem?_eq_some_iff.1 h).1
  unfold nameTo
  rw [List.getElem?_append_right (by simp; omega)]
  simp [Nat.min_eq_left (Nat.le_of_lt hlt), h]
theorem nameTo_set {j : Nat} {L F T : List Int} {n : Int} (h : L[j]? = some n) : (nameTo j L F T).set j (nameI F T n) = nameTo (j + 1) L F T := by
  have hlt := (List.getElem?_eq_some_iff.1 h).1
  have e1 : ((L.take j).map (nameI F T)).length = j := by rw [List.length_map, List.length_take]; omega
  have e2 : L.drop j = n :: L.drop (j + 1) := by rw [List.drop_eq_getElem_cons hlt, (List.getElem?_eq_some_iff.1 h).2]
  unfold nameTo
  rw [List.set_append_right _ _ (by omega), e1, Nat.sub_self, e2, List.set_cons_zero, List.take_add_one, h]
  simp
theorem nameTo_same {j : Nat} {L F T : List Int} {n : Int} (h : L[j]? = some n) (hn : nameI F T n = n) : nameTo (j + 1) L F T = nameTo j L F T := by
  rw [← nameTo_set h, hn]
  obtain ⟨hlt, e⟩ := List.getElem?_eq_some_iff.1 (nameTo_at (F := F) (T := T) h)
  have h2 := List.set_getElem_self hlt
  rwa [e] at h2
theorem nameI_in {F T : List Int} {n : Int} {q : Nat} {t : Int} (hm : n ∈ F) (hq : F.idxOf n = q) (ht : T[q]? = some t) : nameI F T n = t := by
  unfold nameI; rw [if_pos hm, hq, getD_at ht]
theorem nameI_out {F T : List Int} {n : Int} (hm : n ∉ F) : nameI F T n = n := if_neg hm
end Go.Proofs.Ytdheakjjnaifkaa
namespace Go.Proofs.Ytdheakjjnaifkaa
set_option maxRecDepth 20000
open Go.RowKit

def SetTo (xs ys : List Int) (j : Nat) : Prop := ∀ i n, i < j → ys[i]? = some n → n ∈ xs ∧ n ∉ ys.take i
theorem SetTo.step {xs ys : List Int} {j : Nat} {n : Int} (h : SetTo xs ys j) (hn : ys[j]? = some n) (h1 : n ∈ xs) (h2 : n ∉ ys.take j) : SetTo xs ys (j + 1) := fun i k hi hk => by
  by_cases e : i = j
  · subst e; rw [hn] at hk; injection hk with hk; subst hk; exact ⟨h1, h2⟩
  · exact h i k (by omega) hk
theorem set_not {xs ys : List Int} {j : Nat} {n : Int} (hn : ys[j]? = some n) (h : n ∉ xs ∨ n ∈ ys.take j) : setV xs ys = false := setV_false fun hv => by
  have h1 := hv.1 j n hn
  rcases h with h | h
  · exact h h1.1
  · exact h1.2 h
theorem set_end {xs ys : List Int} (h : SetTo xs ys ys.length) : setV xs ys = decide (xs.length = ys.length) := by
  by_cases e : xs.length = ys.length
  · rw [decide_eq_true e]
    exact setV_true.2 ⟨fun i n hi => h i n (List.getElem?_eq_some_iff.1 hi).1 hi, e⟩
  · rw [decide_eq_false e]
    exact setV_false (fun hv => e hv.2)
theorem eq_not {xs ys : List Int} {j : Nat} {x : Int} (hx : xs[j]? = some x) (h : ys[j]? ≠ some x) : decide (xs = ys) = false := decide_eq_false fun e => h (by rw [← e]; exact hx)
end Go.Proofs.Ytdheakjjnaifkaa
namespace Go.Proofs.Ytdheakjjnaifkaa
set_option maxRecDepth 20000
open Go.RowKit

end Go.Proofs.Ytdheakjjnaifkaa
namespace Go.Proofs.Ytdheakjjnaifkaa
set_option maxRecDepth 20000
open Go.RowKit

theorem atL_len (L labels : List Int) : (atL L labels).length = labels.length := by simp [atL]
theorem dimsVia_len (L D labels : List Int) : (dimsVia L D labels).length = labels.length := by simp [dimsVia]
theorem atL_at {L labels : List Int} {j : Nat} {n : Int} (h : labels[j]? = some n) : (atL L labels)[j]? = some (findI L n) := by unfold atL; rw [List.getElem?_map, h]; rfl
theorem dimsVia_at {L D labels : List Int} {j : Nat} {n : Int} (h : labels[j]? = some n) : (dimsVia L D labels)[j]? = some (D.getD (L.idxOf n) 0) := by unfold dimsVia; rw [List.getElem?_map, h]; rfl
theorem take_snoc {xs : List Int} {j : Nat} {x : Int} (h : xs[j]? = some x) : xs.take j ++ [x] = xs.take (j + 1) := by rw [List.take_add_one, h]; rfl
theorem ints_snoc (xs : List Int) (x : Int) : ints xs ++ [.int .i64 x] = ints (xs ++ [x]) := by simp [ints]
/-- What the law of append gives, for the head row. -/
theorem Rs.app1 {w0 wr w' : World} {bs : List BxE} {rows : List RowE} {v : Value} {xs : List Int} {x : Int} {g n cap : Nat} (h : Rs w0 wr bs ((v, xs) :: rows)) (hn : xs.length = n) (ho : w'.ownsRow w0.heap.size 3 1 (.slice (some ⟨g, 0, none⟩) (n + 1) cap) (n + 1) (ints xs ++ [.int .i64 x])) (hg : wr.grownBy w' v.ownBlock) (hl : v.ownBlock = some g ∨ g = wr.heap.size) :
    Rs w0 w' bs ((.slice (some ⟨g, 0, none⟩) (n + 1) cap, xs ++ [x]) :: rows) := by
  rw [ints_snoc] at ho
  exact h.app ho (by simp [hn]) hg hl
/-- A label's place under way in the index. -/
def IxTo (L labels ix row : List Int) (j : Nat) : Prop := ∀ i n, i < j → labels[i]? = some n → row.getD (L.idxOf n) 0 = ix.getD i 0
theorem IxTo.step {L labels ix row : List Int} {j : Nat} {n x : Int} (hn : L.Nodup) (hp : labels.Perm L) (h : IxTo L labels ix row j) (hj : labels[j]? = some n) (hx : ix[j]? = some x) (hr : row.length = L.length) : IxTo L labels ix (row.set (L.idxOf n) x) (j + 1) := fun i k hi hk => by
  have hmem : ∀ z ∈ labels, L.idxOf z < row.length := fun z hz => by rw [hr]; exact List.idxOf_lt_length_iff.2 (hp.subset hz)
  have hnm := hmem n (List.mem_of_getElem? hj)
  by_cases e : i = j
  · subst e
    rw [hj] at hk
    injection hk with hk
    subst hk
    rw [getD_at (List.getElem?_set_self hnm), getD_at hx]
  · have hne : L.idxOf n ≠ L.idxOf k := fun e2 => by
      have hk2 : k = n := by
        have h1 := at_idxOf (hp.subset (List.mem_of_getElem? hk))
        have h2 := at_idxOf (hp.subset (List.mem_of_getElem? hj))
        rw [← e2] at h1
        rw [h1] at h2
        injection h2
      subst hk2
      have hnl : labels.Nodup := hp.nodup_iff.2 hn
      exact e ((List.getElem?_inj (List.getElem?_eq_some_iff.1 hk).1 hnl).1 (hk.trans hj.symm))
    rw [List.getD_eq_getElem?_getD, List.getElem?_set_ne hne, ← List.getD_eq_getElem?_getD]
    exact h i k (by omega) hk

/-- What is known of a tensor that is valid, and of its labels in some order. -/
structure PF (k p q : Int) (L D X labels : List Int) (m wd N : Nat) : Prop where
  lL : L.length = m
  lD : D.length = m
  lG : labels.length = m
  m12 : m ≤ 12
  nd : L.Nodup
  pm : labels.Perm L
  dD : ∀ d ∈ D, 1 ≤ d ∧ d ≤ 8
  pD : prodL D = (N : Int)
  n1 : 1 ≤ N ∧ N ≤ 4096
  hw : widthI k q = (wd : Int)
  w6 : 1 ≤ wd ∧ wd ≤ 6
  lX : X.length = N * wd
  rg : ringB k p q = true
theorem PF.of {k p q : Int} {L D X labels : List Int} (ht : tensorB k p q L D X = true) (hs : SetV L labels) : PF k p q L D X labels L.length (widthI k q).toNat (prodL D).toNat := by
  obtain ⟨hrb, hs0, hxl, -⟩ := tensorB_inv ht
  have hwd := ring_width hrb
  rcases sizeI_cases L D with ⟨h, -⟩ | ⟨h1, h2, h3, h4⟩
  · omega
  · obtain ⟨a1, a2, a3, a4, a5⟩ := h2
    refine ⟨rfl, a2.symm, hs.2.symm, a1, a5, hs.perm, a4, by omega, by omega, by omega, by omega, ?_, hrb⟩
    have e1 : (((prodL D).toNat * (widthI k q).toNat : Nat) : Int) = prodL D * widthI k q := by
      rw [Int.natCast_mul, Int.toNat_of_nonneg (by omega), Int.toNat_of_nonneg (by omega)]
    rw [h1, ← e1] at hxl
    exact_mod_cast hxl
theorem PF.dims {k p q : Int} {L D X labels : List Int} {m wd N : Nat} (h : PF k p q L D X labels m wd N) : (∀ d ∈ dimsVia L D labels, 1 ≤ d ∧ d ≤ 8) ∧ prodL (dimsVia L D labels) = (N : Int) ∧ capI (dimsVia L D labels) = (N : Int) := by
  have hp := dims_perm (D := D) h.nd (by rw [h.lL, h.lD]) h.pm
  have h1 : ∀ d ∈ dimsVia L D labels, 1 ≤ d ∧ d ≤ 8 := fun d hd => h.dD d (hp.subset hd)
  have h2 : prodL (dimsVia L D labels) = (N : Int) := by rw [prodL_perm hp, h.pD]
  refine ⟨h1, h2, ?_⟩
  have h3 := (capI_is (fun d hd => (h1 d hd).1)).1
  have := h.n1
  rw [h3, h2]; omega
theorem PF.at {k p q : Int} {L D X labels : List Int} {m wd N : Nat} (h : PF k p q L D X labels m wd N) {j : Nat} {n : Int} (hj : labels[j]? = some n) : ∃ (z : Nat) (d : Int), L.idxOf n = z ∧ z < m ∧ findI L n = (z : Int) ∧ D[z]? = some d ∧ (dimsVia L D labels)[j]? = some d := by
  have hm : n ∈ L := h.pm.subset (List.mem_of_getElem? hj)
  have hlt := List.idxOf_lt_length_iff.2 hm
  refine ⟨_, D[L.idxOf n]'(by rw [h.lD, ← h.lL]; exact hlt), rfl, by rw [← h.lL]; exact hlt, by unfold findI; rw [if_pos hm], List.getElem?_eq_getElem _, ?_⟩
  rw [dimsVia_at hj, getD_at (List.getElem?_eq_getElem _)]
/-- The offset of an index in another order. -/
theorem PF.off {k p q : Int} {L D X labels : List Int} {m wd N : Nat} (h : PF k p q L D X labels m wd N) (c : Nat) : ∃ o : Nat, offI D (viaL L labels (idxL (dimsVia L D labels) (c : Int))) = (o : Int) ∧ o < N ∧ o * wd + wd ≤ X.length ∧ InIx D (viaL L labels (idxL (dimsVia L D labels) (c : Int))) := by
  have hi := via_in h.nd (by rw [h.lL, h.lD]) h.pm (idxL_in (fun d hd => (h.dims.1 d hd).1) (c : Int))
  have hr := offP_range (fun d hd => (h.dD d hd).1) hi D.length (Nat.le_refl _)
  rw [← offI_is, List.take_of_length_le (Nat.le_refl _), h.pD] at hr
  refine ⟨(offI D (viaL L labels (idxL (dimsVia L D labels) (c : Int)))).toNat, by omega, by omega, ?_, hi⟩
  rw [h.lX]
  have h2 : (offI D (viaL L labels (idxL (dimsVia L D labels) (c : Int)))).toNat + 1 ≤ N := by omega
  have h3 := Nat.mul_le_mul_right wd h2
  rw [Nat.add_mul, Nat.one_mul] at h3
  exact h3
theorem PF.len {k p q : Int} {L D X labels : List Int} {m wd N : Nat} (h : PF k p q L D X labels m wd N) (c : Nat) : (permX wd L D X labels c).length = c * wd :=
  permX_len h.nd (by rw [h.lL, h.lD]) h.pm (fun d hd => (h.dD d hd).1) (fun o ho => by
    rw [h.pD] at ho
    rw [h.lX]
    have h3 := Nat.mul_le_mul_right wd (show o + 1 ≤ N by omega)
    rw [Nat.add_mul, Nat.one_mul] at h3
    exact h3) c

end Go.Proofs.Ytdheakjjnaifkaa
namespace Go.Proofs.Ytdheakjjnaifkaa
set_option maxRecDepth 20000
open Go.RowKit

noncomputable def permB (k p q : Int) (L D X labels : List Int) : Bool := tensorB k p q L D X && setV L labels
noncomputable def permDataL (k q : Int) (L D X labels : List Int) : List Int := permX (widthI k q).toNat L D X labels (prodL D).toNat
/-- The answer box is stored: what was made stays. -/
theorem OwnG.set3 {w : World} {lo hi r : Nat} {a b c : Value} {x y z : List Int} (h : OwnG w lo hi [(a, x), (b, y), (c, z)]) (hr : r < lo) (u v t : Value) : OwnG (((w.setCell ⟨r, 0, none⟩ u).setCell ⟨r, 1, none⟩ v).setCell ⟨r, 2, none⟩ t) lo hi [(a, x), (b, y), (c, z)] := by
  obtain ⟨o1, o2, o3⟩ := h.rows
  exact OwnG.of3 h.2 (Own.set (Own.set (Own.set o1 hr _) hr _) hr _) (Own.set (Own.set (Own.set o2 hr _) hr _) hr _) (Own.set (Own.set (Own.set o3 hr _) hr _) hr _)
end Go.Proofs.Ytdheakjjnaifkaa
namespace Go.Proofs.Ytdheakjjnaifkaa
set_option maxRecDepth 20000
open Go.RowKit

noncomputable def relB (k p q : Int) (L D X F T : List Int) : Bool := tensorB k p q L D X && (decide (F.length = T.length) && decide (0 ≤ sizeI (namesL L F T) D))
/-- A ring's box, a tensor's, and one that waits for the answer. -/
theorem Rs.three (w : World) (k p q : Int) (x y z : Value) (T T2 T3 : TypeId) :
    Rs w (((w.alloc (.cells #[.int .i64 k, .int .i64 p, .int .i64 q] T)).alloc (.cells #[x, y, z] T2)).alloc (.cells #[nilV, nilV, nilV] T3)) [(w.heap.size + 1 + 1, nilV, nilV, nilV), (w.heap.size + 1, x, y, z), (w.heap.size, .int .i64 k, .int .i64 p, .int .i64 q)] [] := by
  have h := (((Rs.start w).box (.int .i64 k) (.int .i64 p) (.int .i64 q) T).box x y z T2).box nilV nilV nilV T3
  simp only [World.size_alloc] at h
  exact h
end Go.Proofs.Ytdheakjjnaifkaa
namespace Go.Proofs.Ytdheakjjnaifkaa
set_option maxRecDepth 20000
open Go.RowKit

/-- A call has written over the first row. -/
theorem Rs.rewrite {w0 wr w' : World} {bs : List BxE} {rows : List RowE} {v : Value} {X X' : List Int} (h : Rs w0 wr bs ((v, X) :: rows)) (ho : w'.ownsRow w0.heap.size 3 1 v X'.length (ints X')) (hg : wr.grownBy w' v.ownBlock) : Rs w0 w' bs ((v, X') :: rows) := by
  have hap := List.pairwise_cons.1 h.apart
  have hlo : ∀ k, v.ownBlock = some k → w0.heap.size ≤ k := fun k hk => ((h.own (v, X) (by simp)).lt k hk).1
  refine ⟨h.bel.grown hg h.bel.size hlo, fun r hr => ?_, List.pairwise_cons.2 ⟨fun r hr => hap.1 r hr, hap.2⟩, fun b hm => (h.bx b hm).grown hg (fun k hk => ⟨fun e => h.far b hm (v, X) (by simp) (by rw [hk, e]), hlo k hk⟩), fun b hm r hr => ?_, h.dis⟩
  · rcases List.mem_cons.1 hr with rfl | hr
    · exact ho
    · exact (h.own r (by simp [hr])).kept hg (by
        cases hv : r.1.ownBlock with
        | none => exact .inl rfl
        | some k => exact .inr fun e => hap.1 r hr k e.symm hv)
  · rcases List.mem_cons.1 hr with rfl | hr
    · exact h.far b hm (v, X) (by simp)
    · exact h.far b hm r (by simp [hr])
/-- The axes of a valid tensor, and how long its lists are. -/
theorem tensor_axes {k p q : Int} {L D X : List Int} (ht : tensorB k p q L D X = true) : AxesV L D := by
  obtain ⟨-, h0, -, -⟩ := tensorB_inv ht
  rcases sizeI_cases L D with ⟨h, -⟩ | ⟨-, h2, -, -⟩
  · omega
  · exact h2
theorem ten_lens {k p q : Int} {L D X : List Int} (h : tensorB k p q L D X = true) : L.length ≤ 12 ∧ D.length ≤ 12 ∧ X.length ≤ 24576 := by
  have ha := tensor_axes h
  have hp := PF.of h (setV_perm (List.Perm.refl L) ha.2.2.2.2)
  refine ⟨ha.1, by have := ha.1; have := ha.2.1; omega, ?_⟩
  rw [hp.lX]
  exact Nat.le_trans (Nat.mul_le_mul hp.n1.2 hp.w6.2) (by omega)
end Go.Proofs.Ytdheakjjnaifkaa
