
/- The axes of a diagonal: one is dropped, another has both strides. -/
import Derived.Test.YtgbmacppgaopfabGreatJoinImpl
import Derived.Test.YtgbmacppgaopfabGreatAlong
import Derived.Test.YtgbmacppgaopfabGreatDiagMath
namespace Go.Proofs.YtgbmacppgaopfabGreat
set_option maxRecDepth 20000
open Go.RowKit

/-- The strides on the diagonal. -/
def diagS (L D : List Int) (a b : Int) (n : Int) : Int := if n = a then stepI L D a + stepI L D b else stepI L D n
theorem axJ_set {L : List Int} {d s : Int → Int} {a x : Int} (hn : L.Nodup) (ha : a ∈ L) : (axJ L d s).set (L.idxOf a) (a, d a, x) = axJ L d (fun n => if n = a then x else s n) := by
  apply List.ext_getElem?
  intro i
  unfold axJ
  by_cases hi : i < L.length
  · have hm : L[i]? = some L[i] := List.getElem?_eq_getElem hi
    by_cases e : L.idxOf a = i
    · have h2 : L[i] = a := by
        have := at_idxOf ha
        rw [e, hm] at this
        exact Option.some.inj this
      rw [e, List.getElem?_set_self (by simpa using hi), List.getElem?_map, hm]
      show some (a, d a, x) = some (L[i], d L[i], if L[i] = a then x else s L[i])
      rw [h2, if_pos rfl]
    · rw [List.getElem?_set_ne e, List.getElem?_map, List.getElem?_map, hm]
      show some (L[i], d L[i], s L[i]) = some (L[i], d L[i], if L[i] = a then x else s L[i])
      rw [if_neg (fun e2 => e (by rw [← e2]; exact idxOf_at hn hm))]
  · rw [List.getElem?_eq_none (by simp; omega), List.getElem?_eq_none (by simp; omega)]
theorem ex_erase {L : List Int} {b : Int} (hn : L.Nodup) : L.eraseIdx (L.idxOf b) = exL L b := by
  rw [← List.erase_eq_eraseIdx_of_idxOf (rfl), hn.erase_eq_filter]
  unfold exL
  congr 1
  funext n
  by_cases h : n = b
  · simp [h]
  · simp [h]
theorem axJ_erase {L : List Int} {d s : Int → Int} {b : Int} (hn : L.Nodup) : (axJ L d s).eraseIdx (L.idxOf b) = axJ (exL L b) d s := by
  unfold axJ
  rw [← ex_erase hn, List.eraseIdx_eq_take_drop_succ, List.eraseIdx_eq_take_drop_succ, List.map_append, List.map_take, List.map_drop]
theorem diag_axes {L D : List Int} {a b : Int} (hn : L.Nodup) (ha : a ∈ L) : ((axJ L (dimI L D) (stepI L D)).set (L.idxOf a) (a, dimI L D a, stepI L D a + stepI L D b)).eraseIdx (L.idxOf b) = axJ (exL L b) (dimI L D) (diagS L D a b) := by
  rw [axJ_set hn ha, axJ_erase hn]
  rfl
/-- Where the elements of the diagonal are. -/
theorem diag_dot {L D ix : List Int} {a b : Int} (hn : L.Nodup) (hl : L.length = D.length) (ha : a ∈ L) (hb : b ∈ L) (hab : a ≠ b) (hx : ix.length = (exL L b).length) :
    dotA (axJ (exL L b) (dimI L D) (diagS L D a b)) ix = offI D (diagIx L (exL L b) ix (L.idxOf a) (L.idxOf b)) := by
  have hK := ex_nodup (b := b) hn
  have haK : a ∈ exL L b := ex_mem.2 ⟨ha, hab⟩
  obtain ⟨rv, hrv⟩ : ∃ f : Int → Int, f = fun n => if n = b then ix.getD ((exL L b).idxOf a) 0 else ix.getD ((exL L b).idxOf n) 0 := ⟨_, rfl⟩
  have e1 : offI D (diagIx L (exL L b) ix (L.idxOf a) (L.idxOf b)) = isum (L.map fun n => rv n * stepI L D n) := by
    rw [offI_dot]
    congr 1
    apply List.ext_getElem?
    intro i
    by_cases hi : i < L.length
    · have hm : L[i]? = some L[i] := List.getElem?_eq_getElem hi
      rw [List.getElem?_map, List.getElem?_map, List.getElem?_range (by rw [← hl]; exact hi), hm]
      show some ((diagIx L (exL L b) ix (L.idxOf a) (L.idxOf b)).getD i 0 * prodL (D.drop (i + 1))) = some (rv L[i] * stepI L D L[i])
      have h2 : stepI L D L[i] = prodL (D.drop (i + 1)) := by
        unfold stepI
        rw [if_pos (List.getElem_mem _), idxOf_at hn hm]
      have hva : (viaL L (exL L b) ix).getD (L.idxOf a) 0 = ix.getD ((exL L b).idxOf a) 0 := getD_at (by unfold viaL; rw [List.getElem?_map, at_idxOf ha]; rfl)
      have h3 : (diagIx L (exL L b) ix (L.idxOf a) (L.idxOf b)).getD i 0 = rv L[i] := by
        unfold diagIx
        by_cases e : L.idxOf b = i
        · have hbi : L[i] = b := by
            have := at_idxOf hb
            rw [e, hm] at this
            exact Option.some.inj this
          rw [e, List.getD_eq_getElem?_getD, List.getElem?_set_self (by unfold viaL; simpa using hi), Option.getD_some, hva, hrv, hbi]
          simp
        · rw [List.getD_eq_getElem?_getD, List.getElem?_set_ne e, ← List.getD_eq_getElem?_getD]
          have hnb : L[i] ≠ b := fun e2 => e (by rw [← e2]; exact idxOf_at hn hm)
          rw [hrv]
          show _ = (if L[i] = b then _ else _)
          rw [if_neg hnb]
          exact getD_at (by unfold viaL; rw [List.getElem?_map, hm]; rfl)
      rw [h2, h3]
    · rw [List.getElem?_eq_none (by rw [List.length_map, List.length_range, ← hl]; omega), List.getElem?_eq_none (by rw [List.length_map]; omega)]
  have hpL : L.Perm (b :: exL L b) := by
    rw [← ex_erase hn, ← List.erase_eq_eraseIdx_of_idxOf rfl]
    exact List.perm_cons_erase hb
  have hpK : (exL L b).Perm (a :: (exL L b).erase a) := List.perm_cons_erase haK
  have hgr : ∀ n ∈ (exL L b).erase a, n ≠ a ∧ n ≠ b := fun n h => by
    rw [hK.erase_eq_filter] at h
    have h1 := List.mem_filter.1 h
    exact ⟨by simpa using h1.2, (ex_mem.1 h1.1).2⟩
  rw [e1, isum_perm (hpL.map _), dotA_dotP hx]
  unfold dotP
  rw [map_by_labels hK (fun x y => x * y) ix (diagS L D a b)]
  rw [isum_perm (hpK.map _), List.map_cons, List.map_cons]
  show ix.getD ((exL L b).idxOf a) 0 * diagS L D a b a + isum (((exL L b).erase a).map _) = rv b * stepI L D b + isum ((exL L b).map _)
  rw [isum_perm (hpK.map _), List.map_cons]
  show ix.getD ((exL L b).idxOf a) 0 * diagS L D a b a + isum (((exL L b).erase a).map _) = rv b * stepI L D b + (rv a * stepI L D a + isum (((exL L b).erase a).map _))
  have h4 : ((exL L b).erase a).map (fun n => ix.getD ((exL L b).idxOf n) 0 * diagS L D a b n) = ((exL L b).erase a).map (fun n => rv n * stepI L D n) := List.map_congr_left fun n h => by
    obtain ⟨h1, h2⟩ := hgr n h
    unfold diagS
    rw [if_neg h1, hrv]
    show _ = (if n = b then _ else _) * _
    rw [if_neg h2]
  have h5 : rv b = ix.getD ((exL L b).idxOf a) 0 := by rw [hrv]; simp
  have h6 : rv a = ix.getD ((exL L b).idxOf a) 0 := by rw [hrv]; simp [hab]
  have h7 : diagS L D a b a = stepI L D a + stepI L D b := by unfold diagS; rw [if_pos rfl]
  rw [h4, h5, h6, h7, Int.mul_add]
  omega
theorem diag_offs {L D : List Int} {a b : Int} (hax : AxesV L D) (ha : a ∈ L) (hb : b ∈ L) (hab : a ≠ b) (hd : D.getD (L.idxOf a) 0 = D.getD (L.idxOf b) 0) : offsA (axJ (exL L b) (dimI L D) (diagS L D a b)) = (List.range (prodL (exD L D b)).toNat).map fun n : Nat => (diagF L D b (L.idxOf a) (L.idxOf b) n : Int) := by
  have hn := hax.2.2.2.2
  have hdim : (exL L b).map (dimI L D) = exD L D b := rfl
  have hD := fun d hd => (hax.2.2.2.1 d hd).1
  have hne : L.idxOf a ≠ L.idxOf b := fun e => hab (by
    have h1 := at_idxOf ha
    rw [e, at_idxOf hb] at h1
    exact (Option.some.inj h1).symm)
  rw [offsA_is _ _ rfl (fun x hx => by
    obtain ⟨n, hm, rfl⟩ := List.mem_map.1 hx
    exact hD _ ((ex_sub (b := b) hn hax.2.1).subset (by rw [← hdim]; exact List.mem_map_of_mem hm))), axJ_dims, hdim]
  apply List.map_congr_left
  intro n _
  rw [diag_dot hn hax.2.1 ha hb hab (by rw [idxL_len, exD_len]), (diag_lt hn hax.2.1 (at_idxOf ha) (at_idxOf hb) hne hd hD n).2.1]
theorem diag_pa {L D : List Int} {a b : Int} (hax : AxesV L D) (hP : prodL D ≤ 4096) : PA (axJ (exL L b) (dimI L D) (diagS L D a b)) ∧ prodL (exD L D b) ≤ 4096 := by
  have hn := hax.2.2.2.2
  have hD := fun d hd => (hax.2.2.2.1 d hd).1
  have hdim : (exL L b).map (dimI L D) = exD L D b := rfl
  have h1 := prodL_subD (ex_sub (b := b) hn hax.2.1) hD
  refine ⟨axJ_pa (by have h2 := ex_len L b; have h3 := hax.1; omega) (fun n hm => hax.2.2.2.1 _ ((ex_sub (b := b) hn hax.2.1).subset (by rw [← hdim]; exact List.mem_map_of_mem hm))) (fun n _ => ?_) (by rw [hdim]; omega), by omega⟩
  have h4 := stepI_small (L := L) hD hP a
  have h5 := stepI_small (L := L) hD hP b
  have h6 := stepI_small (L := L) hD hP n
  unfold diagS
  split <;> omega
theorem diag_along {L D X : List Int} {a b : Int} {wd : Nat} (hax : AxesV L D) (ha : a ∈ L) (hb : b ∈ L) (hab : a ≠ b) (hd : D.getD (L.idxOf a) 0 = D.getD (L.idxOf b) 0) : alongL wd X 0 (offsA (axJ (exL L b) (dimI L D) (diagS L D a b))) (offsA (axJ (exL L b) (dimI L D) (diagS L D a b))).length = gatherL (fun n => getL wd X (diagF L D b (L.idxOf a) (L.idxOf b) n)) (prodL (exD L D b)).toNat := by
  rw [diag_offs hax ha hb hab hd]
  unfold alongL gatherL
  rw [List.take_of_length_le (Nat.le_refl _), List.flatMap_map]
  simp only [Int.zero_add, Int.toNat_natCast]
end Go.Proofs.YtgbmacppgaopfabGreat
