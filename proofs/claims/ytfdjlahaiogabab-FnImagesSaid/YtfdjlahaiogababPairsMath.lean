
/- Every ring is a commutative semiring; counts multiply. Plain mathematics. -/
import Derived.Test.YtfdjlahaiogababPow2
import Derived.Test.YtfdjlahaiogababPairMath
import Derived.Test.YtfdjlahaiogababDrawn
namespace Go.Proofs.Ytfdjlahaiogabab
set_option maxRecDepth 20000
open Go

theorem or_nat {k p n a : Int} (hr : ringB k p n = true) (ha : 0 ≤ a ∧ a ≤ topI k p n) : a < 1073741824 := by have := ring_top hr; omega
theorem plusI_comm {k p n a b : Int} (hr : ringB k p n = true) (ha : 0 ≤ a ∧ a ≤ topI k p n) (hb : 0 ≤ b ∧ b ≤ topI k p n) : plusI k p a b = plusI k p b a := by
  have h1 := or_nat hr ha
  have h2 := or_nat hr hb
  unfold plusI
  by_cases c1 : k = 1 ∨ k = 6
  · rw [if_pos c1, if_pos c1, bits_i64_or a b ha.1 h1 hb.1 h2, bits_i64_or b a hb.1 h2 ha.1 h1, Nat.or_comm]
  · rw [if_neg c1, if_neg c1, Int.add_comm a b, Int.min_comm a b, Int.max_comm a b]
theorem plusI_zero {k p n a : Int} (hr : ringB k p n = true) (ha : 0 ≤ a ∧ a ≤ topI k p n) : plusI k p a (if k = 4 then p else 0) = a := by
  have h1 := or_nat hr ha
  have g := ring_cases hr
  have ht : k = 3 ∨ k = 4 ∨ k = 5 → topI k p n = p := fun hk => by unfold topI; rw [if_neg (by omega), if_neg (by omega), if_neg (by omega)]
  unfold plusI
  by_cases c1 : k = 1 ∨ k = 6
  · rw [if_pos c1, if_neg (by omega), bits_i64_or a 0 ha.1 h1 (by omega) (by omega)]
    simp; omega
  · rw [if_neg c1]
    by_cases c3 : k = 3
    · have := ht (by omega); rw [if_pos c3, if_neg (by omega)]; omega
    · rw [if_neg c3]
      by_cases c4 : k = 4
      · have := ht (by omega); rw [if_pos c4, if_pos c4]; omega
      · rw [if_neg c4]
        by_cases c5 : k = 5
        · rw [if_pos c5, if_neg c4]; omega
        · rw [if_neg c5, if_neg c4]
          have hp : topI k p n = p - 1 := by unfold topI; rw [if_neg (by omega), if_neg (by omega), if_pos (by omega)]
          rw [Int.add_zero]
          exact Int.emod_eq_of_lt ha.1 (by omega)
theorem zero_LL {k p n : Int} {m : Nat} (hm : (m : Int) = widthI k n) : zeroL k p n = LL m fun _ => if k = 4 then p else 0 := by
  unfold zeroL
  rw [← hm]
  refine LL_congr fun i hi => ?_
  by_cases h4 : k = 4
  · have hw : widthI k n = 1 := by rw [h4]; rfl
    have : (m : Int).toNat = m := Int.toNat_natCast m
    rw [if_pos ⟨by omega, h4⟩, if_pos h4]
  · rw [if_neg (fun e => h4 e.2), if_neg h4]
theorem times_zero {k p n : Int} {xs : List Int} (hr : ringB k p n = true) (hx : ElemV k p n xs) : timesL k p xs (zeroL k p n) = zeroL k p n := by
  rw [zero_LL hx.1]
  by_cases h : high k
  · rw [times_high h]
    refine LL_congr fun c hc => ?_
    have h4 : ¬ k = 4 := by unfold high at h; omega
    rw [conv_congr (X' := fun i => xs.getD i 0) (Y' := fun _ => 0) (fun _ _ => rfl) (fun i hi => by rw [LL_at hi, if_neg h4]), if_neg h4]
    have : convC xs.length (k == 8) (fun i => xs.getD i 0) (fun _ => 0) c = 0 := by
      unfold convC
      have z : ∀ n : Nat, sumN n (fun _ => 0) = 0 := fun n => by
        induction n with
        | zero => rfl
        | succ n ih => simp only [sumN]; rw [ih]; rfl
      rw [sumN_congr (g := fun _ => 0) (fun i _ => by
        rw [sumN_congr (g := fun _ => 0) (fun j _ => by unfold dC; simp), z]), z]
    rw [this]; simp
  · have hw : xs.length = 1 := by have := hx.1; rw [low_width h] at this; omega
    rw [times_low hr h, hw]
    have ha := elem_at hr hx 0
    rw [LL_at (by omega)]
    generalize xs.getD 0 0 = a at ha
    have h1 := or_nat hr ha
    have g := ring_cases hr
    have ht : k = 3 ∨ k = 4 ∨ k = 5 → topI k p n = p := fun hk => by unfold topI; rw [if_neg (by omega), if_neg (by omega), if_neg (by omega)]
    unfold high at h
    show [_] = [_]
    refine congrArg (fun x => [x]) ?_
    show timesI k p a (if k = 4 then p else 0) = (if k = 4 then p else 0)
    unfold timesI
    by_cases c1 : k = 1 ∨ k = 6
    · rw [if_pos c1, if_neg (by omega), bits_i64_and a 0 ha.1 h1 (by omega) (by omega)]; simp
    · rw [if_neg c1]
      by_cases c3 : k = 3
      · rw [if_pos c3, if_neg (by omega), Int.mul_zero]; omega
      · rw [if_neg c3]
        by_cases c4 : k = 4
        · rw [if_pos c4, if_pos c4]; omega
        · rw [if_neg c4, if_neg c4]; omega
end Go.Proofs.Ytfdjlahaiogabab
namespace Go.Proofs.Ytfdjlahaiogabab
set_option maxRecDepth 20000
open Go.RowKit

/-- A map of the numbers below N onto themselves, one to one. -/
theorem range_perm {N : Nat} {sg : Nat → Nat} (h1 : ∀ m, m < N → sg m < N) (h2 : ∀ a b, a < N → b < N → sg a = sg b → a = b) : ((List.range N).map sg).Perm (List.range N) := by
  have hn : ((List.range N).map sg).Nodup := by
    rw [List.nodup_iff_pairwise_ne, List.pairwise_map]
    exact (List.pairwise_iff_getElem.2 fun i j hi hj hij e => by
      simp at hi hj
      have := h2 _ _ (by simp; omega) (by simp; omega) e
      simp at this
      omega)
  have hi : ((((List.range N).map sg).map fun m : Nat => (m : Int))).Nodup := by
    rw [List.nodup_iff_pairwise_ne, List.pairwise_map]
    exact (List.nodup_iff_pairwise_ne.1 hn).imp fun h e => h (Int.ofNat_inj.1 e)
  have hp := perm_of_nodup (xs := (List.range N).map fun m : Nat => (m : Int)) hi (fun x hx => by
    obtain ⟨m, hm, rfl⟩ := List.mem_map.1 hx
    obtain ⟨a, ha, rfl⟩ := List.mem_map.1 hm
    exact List.mem_map.2 ⟨sg a, List.mem_range.2 (h1 a (List.mem_range.1 ha)), rfl⟩) (by simp)
  have hq := hp.map Int.toNat
  rw [List.map_map, List.map_map, List.map_map] at hq
  have e1 : (List.range N).map (Int.toNat ∘ fun m : Nat => (m : Int)) = List.range N := by
    conv => rhs; rw [← List.map_id (List.range N)]
    apply List.map_congr_left
    intro m _
    simp
  have e2 : (List.range N).map (Int.toNat ∘ (fun m : Nat => (m : Int)) ∘ sg) = (List.range N).map sg := by
    apply List.map_congr_left
    intro m _
    simp
  first | (rw [e1] at hq; rw [← e2]; exact hq) | (simpa using hq)
end Go.Proofs.Ytfdjlahaiogabab
namespace Go.Proofs.Ytfdjlahaiogabab
set_option maxRecDepth 20000
open Go.RowKit

theorem via_comp {L A C ix : List Int} (h : ∀ n ∈ L, n ∈ A) : viaL L A (viaL A C ix) = viaL L C ix := by
  unfold viaL
  apply List.map_congr_left
  intro n hn
  exact getD_at (by rw [List.getElem?_map, at_idxOf (h n hn)]; rfl)
theorem via_id {J ix : List Int} (hn : J.Nodup) (hl : ix.length = J.length) : viaL J J ix = ix := by
  apply List.ext_getElem?
  intro i
  by_cases hi : i < J.length
  · have hm : J[i]? = some J[i] := List.getElem?_eq_getElem hi
    unfold viaL
    rw [List.getElem?_map, hm, List.getElem?_eq_getElem (show i < ix.length by omega)]
    show some (ix.getD (J.idxOf J[i]) 0) = _
    rw [idxOf_at hn hm, getD_at (List.getElem?_eq_getElem (show i < ix.length by omega))]
  · rw [List.getElem?_eq_none (by unfold viaL; rw [List.length_map]; omega), List.getElem?_eq_none (by omega)]
/-- The number of the same index when the labels stand otherwise. -/
structure Turned (J JD J' JD' : List Int) : Prop where
  a : SubAx J' JD' J JD
  b : SubAx J JD J' JD'
  pos : ∀ d ∈ JD, 1 ≤ d
  pos' : ∀ d ∈ JD', 1 ≤ d
theorem Turned.idx {J JD J' JD' : List Int} (h : Turned J JD J' JD') (n : Nat) : idxL JD' (offJ J' JD' J JD n : Int) = viaL J' J (idxL JD (n : Int)) := by
  have h1 := h.a.inx h.b.len (idxL_in h.pos (n : Int))
  have h2 := offP_range h.pos' h1 JD'.length (Nat.le_refl _)
  rw [← offI_is, List.take_of_length_le (Nat.le_refl _)] at h2
  have e : (offJ J' JD' J JD n : Int) = offI JD' (viaL J' J (idxL JD (n : Int))) := by unfold offJ; omega
  rw [e, idx_off h.pos' h1]
theorem Turned.back {J JD J' JD' : List Int} (h : Turned J JD J' JD') (n : Nat) : viaL J J' (idxL JD' (offJ J' JD' J JD n : Int)) = idxL JD (n : Int) := by
  rw [h.idx, via_comp h.b.sub, via_id h.b.nd (by rw [idxL_len, h.b.len])]
/-- A tensor's offset is the same. -/
theorem Turned.off {J JD J' JD' L D : List Int} (h : Turned J JD J' JD') (hL : ∀ n ∈ L, n ∈ J') (n : Nat) : offJ L D J' JD' (offJ J' JD' J JD n) = offJ L D J JD n := by
  unfold offJ
  have e := h.idx n
  unfold offJ at e
  rw [e, via_comp hL]
theorem Turned.size {J JD J' JD' : List Int} (h : Turned J JD J' JD') : prodL JD' = prodL JD := by
  have hp : J'.Perm J := (List.perm_ext_iff_of_nodup h.a.nd h.b.nd).2 fun n => ⟨h.a.sub n, h.b.sub n⟩
  have e : dimsVia J JD J' = JD' := by
    apply List.ext_getElem?
    intro i
    by_cases hi : i < J'.length
    · have hm : J'[i]? = some J'[i] := List.getElem?_eq_getElem hi
      have hj : i < JD'.length := by rw [← h.a.len]; exact hi
      unfold dimsVia
      rw [List.getElem?_map, hm, List.getElem?_eq_getElem hj]
      show some (JD.getD (J.idxOf J'[i]) 0) = _
      rw [← h.a.dim i _ hm, getD_at (List.getElem?_eq_getElem hj)]
    · rw [List.getElem?_eq_none (by rw [dimsVia_len]; omega), List.getElem?_eq_none (by rw [← h.a.len]; omega)]
  rw [← e]
  exact prodL_perm (dims_perm h.b.nd h.b.len hp)
theorem Turned.perm {J JD J' JD' : List Int} (h : Turned J JD J' JD') : ((List.range (prodL JD).toNat).map (offJ J' JD' J JD)).Perm (List.range (prodL JD).toNat) := by
  have hs := h.size
  refine range_perm (fun m _ => ?_) (fun x y hx hy e => ?_)
  · have h1 := (h.a.off h.b.len h.pos' h.pos h.b.nd m).2
    rw [hs] at h1
    omega
  · have h1 := h.back x
    rw [e, h.back y] at h1
    have h2 := off_idx h.pos (n := (x : Int)) (by omega) (by omega)
    have h3 := off_idx h.pos (n := (y : Int)) (by omega) (by omega)
    rw [← h1] at h2
    omega
end Go.Proofs.Ytfdjlahaiogabab
namespace Go.Proofs.Ytfdjlahaiogabab
set_option maxRecDepth 20000
open Go.RowKit

theorem FitV.symm {L D L' D' : List Int} (h : FitV L D L' D') (hn : L.Nodup) : FitV L' D' L D := fun j n hj hm hmL => by
  have h1 := at_idxOf hmL
  have h2 := (List.getElem?_eq_some_iff.1 h1).1
  have h3 := h (L'.idxOf n) n h2 h1 (List.mem_of_getElem? hm)
  rw [idxOf_at hn hm] at h3
  exact h3.symm
theorem join_mem {L L' : List Int} {n : Int} (h : n ∈ joinL L L') : n ∈ L ∨ n ∈ L' := by
  rcases List.mem_append.1 h with h | h
  · exact .inl h
  · exact .inr (rest_sub h).1
theorem Turned.dims {J JD J' JD' : List Int} (h : Turned J JD J' JD') : dimsVia J JD J' = JD' := by
  apply List.ext_getElem?
  intro i
  by_cases hi : i < J'.length
  · have hm : J'[i]? = some J'[i] := List.getElem?_eq_getElem hi
    have hj : i < JD'.length := by rw [← h.a.len]; exact hi
    unfold dimsVia
    rw [List.getElem?_map, hm, List.getElem?_eq_getElem hj]
    show some (JD.getD (J.idxOf J'[i]) 0) = _
    rw [← h.a.dim i _ hm, getD_at (List.getElem?_eq_getElem hj)]
  · rw [List.getElem?_eq_none (by rw [dimsVia_len]; omega), List.getElem?_eq_none (by rw [← h.a.len]; omega)]
theorem Turned.labels {J JD J' JD' : List Int} (h : Turned J JD J' JD') : J'.Perm J :=
  (List.perm_ext_iff_of_nodup h.a.nd h.b.nd).2 fun n => ⟨h.a.sub n, h.b.sub n⟩
theorem Turned.symm {J JD J' JD' : List Int} (h : Turned J JD J' JD') : Turned J' JD' J JD := ⟨h.b, h.a, h.pos', h.pos⟩
end Go.Proofs.Ytfdjlahaiogabab
namespace Go.Proofs.Ytfdjlahaiogabab
set_option maxRecDepth 20000
open Go.RowKit

theorem LabV.fit {n m m' : Nat} {L D L' D' : List Int} (h : LabV n m L D) (h' : LabV n m' L' D') : FitV L D L' D' := fun j x _ hm hmL => by
  rw [h'.dv j x hm]
  exact h.dv _ x (at_idxOf hmL)
theorem LabV.joinDim {n m m' : Nat} {L D L' D' : List Int} (h : LabV n m L D) (h' : LabV n m' L' D') : ∀ d ∈ joinD L D L' D', 1 ≤ d ∧ d ≤ 3 := fun d hd => by
  rcases List.mem_append.1 hd with h1 | h1
  · exact h.dm d h1
  · unfold dimsVia at h1
    obtain ⟨x, hx, rfl⟩ := List.mem_map.1 h1
    have h2 := at_idxOf (rest_sub hx).1
    have h3 := (List.getElem?_eq_some_iff.1 h2).1
    rw [getD_at (List.getElem?_eq_getElem (show L'.idxOf x < D'.length by rw [← h'.len]; exact h3))]
    exact h'.dm _ (List.getElem_mem _)
theorem pow3_le : ∀ {n : Nat}, n ≤ 6 → (3 : Int) ^ n ≤ 729 := fun {n} h => by
  rcases (by omega : n = 0 ∨ n = 1 ∨ n = 2 ∨ n = 3 ∨ n = 4 ∨ n = 5 ∨ n = 6) with e | e | e | e | e | e | e <;> rw [e] <;> decide
theorem keepD_dim {J JD keep : List Int} {t : Int} (hl : J.length = JD.length) (h : ∀ d ∈ JD, 1 ≤ d ∧ d ≤ t) : ∀ d ∈ keepD J JD keep, 1 ≤ d ∧ d ≤ t := fun d hd => by
  unfold keepD dimsVia at hd
  obtain ⟨x, hx, rfl⟩ := List.mem_map.1 hd
  have h3 := (List.getElem?_eq_some_iff.1 (at_idxOf (keep_sub x hx))).1
  rw [getD_at (List.getElem?_eq_getElem (show J.idxOf x < JD.length by omega))]
  exact h _ (List.getElem_mem _)
/-- What is kept of the join of two drawn tensors. -/
theorem LabV.pair {L D L' D' : List Int} (keep : List Int) (h : LabV 6 3 L D) (h' : LabV 6 3 L' D') : prodL (joinD L D L' D') ≤ 729 ∧ AxesV (keepL (joinL L L') keep) (keepD (joinL L L') (joinD L D L' D') keep) ∧ prodL (keepD (joinL L L') (joinD L D L' D') keep) ≤ 729 := by
  have hd := h.joinDim h'
  have hn := join_nodup h.nd h'.nd
  have hjl := joinD_len (L' := L') (D' := D') h.len
  have h6 : (joinL L L').length ≤ 6 := by
    have := join_len L L'
    have := h.most
    have := h'.most
    omega
  have hk6 := keep_len (joinL L L') keep
  have hkd := keepD_dim (keep := keep) hjl.symm hd
  have hkl : (keepD (joinL L L') (joinD L D L' D') keep).length = (keepL (joinL L L') keep).length := by unfold keepD; rw [dimsVia_len]
  refine ⟨Int.le_trans (prodL_le3 hd).2 (pow3_le (by omega)), ⟨by omega, hkl.symm, fun x hx => ?_, fun d hd2 => ?_, keep_nodup hn⟩, Int.le_trans (prodL_le3 hkd).2 (pow3_le (by omega))⟩
  · rcases join_mem (keep_sub x hx) with h1 | h1
    · have := h.rg x h1; omega
    · have := h'.rg x h1; omega
  · have := hkd d hd2; omega
theorem sizeI_of {L D : List Int} (h : AxesV L D) (hp : prodL D ≤ 4096) : sizeI L D = prodL D := by
  rcases sizeI_cases L D with ⟨-, h2⟩ | ⟨h2, -⟩
  · exact absurd ⟨axesB_true.2 h, hp⟩ h2
  · exact h2
theorem pairs_ok {k p q : Int} {L D X L' D' X' : List Int} (keep : List Int) (ht : tensorB k p q L D X = true) (ht' : tensorB k p q L' D' X' = true) (h : LabV 6 3 L D) (h' : LabV 6 3 L' D') : pairB k p q L D X L' D' X' keep = true := by
  obtain ⟨h1, h2, h3⟩ := h.pair keep h'
  have h4 := prodL_pos (D := keepD (joinL L L') (joinD L D L' D') keep) (fun d hd => (h2.2.2.2.1 d hd).1)
  unfold pairB pfB smallB
  rw [ht, ht', fitV_true.2 (h.fit h'), sizeI_of h2 (by omega)]
  simp only [Bool.true_and, Bool.and_eq_true, decide_eq_true_eq]
  exact ⟨by omega, by omega⟩
theorem gather_within {t : Int} {f : Nat → List Int} {N : Nat} (h : ∀ i, i < N → Within t (f i)) : Within t (gatherL f N) := fun x hx => by
  unfold gatherL at hx
  obtain ⟨n, hn, hx⟩ := List.mem_flatMap.1 hx
  exact h n (List.mem_range.1 hn) x hx
/-- The contraction of two tensors is a tensor. -/
theorem pair_ten {k p q : Int} {L D X L' D' X' keep : List Int} (h : pairB k p q L D X L' D' X' keep = true) : tensorB k p q (keepL (joinL L L') keep) (keepD (joinL L L') (joinD L D L' D') keep) (pairL k p q L D X L' D' X' keep) = true := by
  obtain ⟨h1, h2, h3, -, h5⟩ := pairB_parts h
  have hr := (tensorB_inv h1).1
  obtain ⟨wd, hw, -, -⟩ := width_pos hr
  have fa := TenF.of h1 hw
  have fb := TenF.of h2 hw
  have HJA := joinD_ax fa.ax fb.ax
  obtain ⟨ka, kp1, kp2, -⟩ := sizeI_axes h5
  have SJA : SubAx L D (joinL L L') (joinD L D L' D') := SubAx.left fa.ax.2.2.2.2 fa.ax.2.1
  have SJB : SubAx L' D' (joinL L L') (joinD L D L' D') := SubAx.right fa.ax.2.1 fb.ax.2.2.2.2 fb.ax.2.1 h3
  have hJ1 : ∀ d ∈ joinD L D L' D', 1 ≤ d := fun d hd => (HJA.1 d hd).1
  have ht : ∀ m, m < (prodL (joinD L D L' D')).toNat → ElemV k p q (termJ k p wd L D X L' D' X' (joinL L L') (joinD L D L' D') m) := fun n _ => termJ_elem hr hw fa.lX fb.lX fa.wX fb.wX (by have h := (SJA.off HJA.2.2.2 fa.dim hJ1 HJA.2.1 n).2; rw [fa.pr] at h; omega) (by have h := (SJB.off HJA.2.2.2 fb.dim hJ1 HJA.2.1 n).2; rw [fb.pr] at h; omega)
  refine (tensorB_of hr ka kp2 ?_ ?_).1
  · unfold pairL
    rw [hw, Int.toNat_natCast, acc_len hr hw ht (Nat.le_refl _), Int.natCast_mul]
    congr 1
    omega
  · unfold pairL accL
    rw [hw, Int.toNat_natCast]
    exact gather_within fun i _ => (accE_elem hr ht _ (Nat.le_refl _) i).2
end Go.Proofs.Ytfdjlahaiogabab
