
/- Fused axes: the contraction over them, and their splitting, by reckoning over all orders of the axes. -/
import Derived.Test.YtceidekfcnmeaaaGreatLinKit
import Derived.Test.YtceidekfcnmeaaaGreatPairsMath
import Derived.Test.YtceidekfcnmeaaaGreatRegMath
namespace Go.Proofs.YtceidekfcnmeaaaGreat
set_option maxRecDepth 20000
open Go.RowKit

def p314 : List (List Int) := [[3, 1, 4], [3, 4, 1], [1, 3, 4], [1, 4, 3], [4, 3, 1], [4, 1, 3]]
def p153 : List (List Int) := [[1, 5, 3], [1, 3, 5], [5, 1, 3], [5, 3, 1], [3, 1, 5], [3, 5, 1]]
theorem perm_314 {A : List Int} (h : A.Perm [3, 1, 4]) : A ∈ p314 := by
  have hl := h.length_eq
  have hn : A.Nodup := h.nodup_iff.2 (by decide)
  have hs : ∀ x ∈ A, x = 3 ∨ x = 1 ∨ x = 4 := fun x hx => by simpa using h.subset hx
  match A, hl with
  | [x, y, z], _ =>
    have hx := hs x (by simp)
    have hy := hs y (by simp)
    have hz := hs z (by simp)
    clear hs h
    rcases hx with rfl | rfl | rfl <;> rcases hy with rfl | rfl | rfl <;> rcases hz with rfl | rfl | rfl <;> first | decide | (exfalso; revert hn; decide)
theorem perm_153 {A : List Int} (h : A.Perm [1, 5, 3]) : A ∈ p153 := by
  have hl := h.length_eq
  have hn : A.Nodup := h.nodup_iff.2 (by decide)
  have hs : ∀ x ∈ A, x = 1 ∨ x = 5 ∨ x = 3 := fun x hx => by simpa using h.subset hx
  match A, hl with
  | [x, y, z], _ =>
    have hx := hs x (by simp)
    have hy := hs y (by simp)
    have hz := hs z (by simp)
    clear hs h
    rcases hx with rfl | rfl | rfl <;> rcases hy with rfl | rfl | rfl <;> rcases hz with rfl | rfl | rfl <;> first | decide | (exfalso; revert hn; decide)
def fuA (A : List Int) : List Int := dimsVia [3, 1, 4] [2, 3, 2] A
def fuB (B : List Int) : List Int := dimsVia [1, 5, 3] [3, 2, 2] B
/-- The pairs of offsets whose products are summed up. -/
def uP (A B : List Int) (e : Nat) : List (Nat × Nat) := ((List.range 24).filter fun c => decide (offJ [4, 5] [2, 2] (joinL A B) (joinD A (fuA A) B (fuB B)) c = e)).map fun c => (offJ A (fuA A) (joinL A B) (joinD A (fuA A) B (fuB B)) c, offJ B (fuB B) (joinL A B) (joinD A (fuA A) B (fuB B)) c)
def vP (A B : List Int) (e : Nat) : List (Nat × Nat) := ((List.range 24).filter fun c => decide (offJ [4, 5] [2, 2] [4, 9, 5] [2, 6, 2] c = e)).map fun c => (permF A (fuA A) [4, 3, 1] (offJ [4, 9] [2, 6] [4, 9, 5] [2, 6, 2] c), permF B (fuB B) [5, 3, 1] (offJ [5, 9] [2, 6] [4, 9, 5] [2, 6, 2] c))
def fitQ (A B : List Int) : Bool := (List.range 3).all fun j => !decide (B.getD j 0 ∈ A) || decide ((fuA A).getD (A.idxOf (B.getD j 0)) 0 = (fuB B).getD j 0)
def chkA (A : List Int) : Bool := decide (regL A [3, 1] = [4, 3, 1]) && (decide (fuseL A [3, 1] 9 = [4, 9]) && (decide (fuseD A (fuA A) [3, 1] = [2, 6]) && (decide (dimsVia A (fuA A) [4, 3, 1] = [2, 2, 3]) && (decide (prodL (fuA A) = 12) && (decide (A.Perm [4, 3, 1]) && decide (A.length = 3))))))
def chkB (B : List Int) : Bool := decide (regL B [3, 1] = [5, 3, 1]) && (decide (fuseL B [3, 1] 9 = [5, 9]) && (decide (fuseD B (fuB B) [3, 1] = [2, 6]) && (decide (dimsVia B (fuB B) [5, 3, 1] = [2, 2, 3]) && (decide (prodL (fuB B) = 12) && (decide (B.Perm [5, 3, 1]) && decide (B.length = 3))))))
def chkAB (A B : List Int) : Bool := decide (keepL (joinL A B) [4, 5] = [4, 5]) && (decide (keepD (joinL A B) (joinD A (fuA A) B (fuB B)) [4, 5] = [2, 2]) && (decide (prodL (joinD A (fuA A) B (fuB B)) = 24) && (fitQ A B && (List.range 4).all fun e => (uP A B e).isPerm (vP A B e) && (uP A B e).all fun z => decide (z.1 < 12) && decide (z.2 < 12))))
theorem chk_A : (p314.all chkA) = true := by kernel_rfl
theorem chk_B : (p153.all chkB) = true := by kernel_rfl
theorem chk_AB : (p314.all fun A => p153.all fun B => chkAB A B) = true := by kernel_rfl
def chkV : Bool := (List.range 24).all fun c => decide (offJ [4, 9] [2, 6] [4, 9, 5] [2, 6, 2] c < 12) && decide (offJ [5, 9] [2, 6] [4, 9, 5] [2, 6, 2] c < 12)
theorem chk_V : chkV = true := by kernel_rfl
theorem axes_49 : AxesV [4, 9] [2, 6] := by unfold AxesV; decide
theorem axes_59 : AxesV [5, 9] [2, 6] := by unfold AxesV; decide
theorem axes_45 : AxesV [4, 5] [2, 2] := by unfold AxesV; decide
theorem axes_431 : AxesV [4, 3, 1] [2, 2, 3] := by unfold AxesV; decide
theorem size_of {L D : List Int} (h : AxesV L D) (hp : prodL D ≤ 4096) : sizeI L D = prodL D := by
  unfold sizeI
  rw [if_pos ⟨axesB_true.2 h, hp⟩]
theorem sub_dec {L F : List Int} (h : ∀ j, j < F.length → F.getD j 0 ∈ L ∧ F.getD j 0 ∉ F.take j) : subB L F = true := by
  refine subB_true.2 (fun i n hi hn => ?_)
  have e : F.getD i 0 = n := by rw [List.getD_eq_getElem?_getD, hn]; rfl
  rw [← e]
  exact h i hi

/-- What the law's equations are. -/
structure FusedAll (k p q : Int) (A XA B XB Px Qy : List Int) : Prop where
  ta : tensorB k p q A (fuA A) XA = true
  tb : tensorB k p q B (fuB B) XB = true
  fa : fuseB k p q A (fuA A) XA [3, 1] 9 = true
  fb : fuseB k p q B (fuB B) XB [3, 1] 9 = true
  la : fuseL A [3, 1] 9 = [4, 9] ∧ fuseD A (fuA A) [3, 1] = [2, 6] ∧ regX k q A (fuA A) XA [3, 1] = Px
  lb : fuseL B [3, 1] 9 = [5, 9] ∧ fuseD B (fuB B) [3, 1] = [2, 6] ∧ regX k q B (fuB B) XB [3, 1] = Qy
  tx : tensorB k p q [4, 9] [2, 6] Px = true
  ty : tensorB k p q [5, 9] [2, 6] Qy = true
  sp : regB k p q [4, 9] [2, 6] Px [9] [3, 1] [2, 3] = true
  ls : restL [9] [4, 9] ++ [3, 1] = [4, 3, 1] ∧ dimsVia [4, 9] [2, 6] (restL [9] [4, 9]) ++ [2, 3] = [2, 2, 3] ∧ regX k q [4, 9] [2, 6] Px [9] = Px
  tz : tensorB k p q [4, 3, 1] [2, 2, 3] Px = true
  sz : sameB k p q [4, 3, 1] [2, 2, 3] Px A (fuA A) XA = true
  pu : pairB k p q A (fuA A) XA B (fuB B) XB [4, 5] = true
  lu : keepL (joinL A B) [4, 5] = [4, 5] ∧ keepD (joinL A B) (joinD A (fuA A) B (fuB B)) [4, 5] = [2, 2]
  pv : pairB k p q [4, 9] [2, 6] Px [5, 9] [2, 6] Qy [4, 5] = true
  lv : keepL (joinL [4, 9] [5, 9]) [4, 5] = [4, 5] ∧ keepD (joinL [4, 9] [5, 9]) (joinD [4, 9] [2, 6] [5, 9] [2, 6]) [4, 5] = [2, 2]
  eq : pairL k p q A (fuA A) XA B (fuB B) XB [4, 5] = pairL k p q [4, 9] [2, 6] Px [5, 9] [2, 6] Qy [4, 5]
/-- The same data under other labels and dimensions of the same size. -/
theorem ten_relabel {k p q : Int} {L D X L' D' : List Int} (h : tensorB k p q L D X = true) (ha : AxesV L' D') (hp : prodL D' = prodL D) (hs : prodL D ≤ 4096) : tensorB k p q L' D' X = true := by
  obtain ⟨h1, h2, h3, h4⟩ := tensorB_inv h
  have e1 : sizeI L D = prodL D := by
    rcases sizeI_cases L D with ⟨e, -⟩ | ⟨e, -⟩
    · omega
    · exact e
  have e2 : sizeI L' D' = prodL D := by rw [size_of ha (by omega), hp]
  unfold tensorB
  simp only [Bool.and_eq_true, decide_eq_true_eq, List.all_eq_true]
  exact ⟨⟨⟨h1, by rw [e2]; omega⟩, by rw [e2, ← e1]; exact h3⟩, fun x hx => h4 x hx⟩
section
variable {k p q : Int} {A B Y Z : List Int}
theorem fused_all (ht : tensorB k p q [3, 1, 4] [2, 3, 2] Y = true) (hu : tensorB k p q [1, 5, 3] [3, 2, 2] Z = true) (hA : A.Perm [3, 1, 4]) (hB : B.Perm [1, 5, 3]) :
    ∃ Px Qy, FusedAll k p q A (permDataL k q [3, 1, 4] [2, 3, 2] Y A) B (permDataL k q [1, 5, 3] [3, 2, 2] Z B) Px Qy := by
  obtain ⟨XA, hXA⟩ : ∃ x, x = permDataL k q [3, 1, 4] [2, 3, 2] Y A := ⟨_, rfl⟩
  obtain ⟨XB, hXB⟩ : ∃ x, x = permDataL k q [1, 5, 3] [3, 2, 2] Z B := ⟨_, rfl⟩
  have ta : tensorB k p q A (fuA A) XA = true := by rw [hXA]; exact (perm_ok ht hA).2.1
  have tb : tensorB k p q B (fuB B) XB = true := by rw [hXB]; exact (perm_ok hu hB).2.1
  rw [← hXA, ← hXB]
  have hpA := perm_314 hA
  have hpB := perm_153 hB
  have cA := List.all_eq_true.1 chk_A A hpA
  have cB := List.all_eq_true.1 chk_B B hpB
  have cAB := List.all_eq_true.1 (List.all_eq_true.1 chk_AB A hpA) B hpB
  unfold chkA at cA
  unfold chkB at cB
  unfold chkAB at cAB
  simp only [Bool.and_eq_true, decide_eq_true_eq] at cA cB cAB
  obtain ⟨a1, a2, a3, a4, a5, a6, a7⟩ := cA
  obtain ⟨b1, b2, b3, b4, b5, b6, b7⟩ := cB
  obtain ⟨j1, j2, j3, j4, j5⟩ := cAB
  have hf := TF.of ta
  have hg := TF.of tb
  have e12 : (prodL (fuA A)).toNat = 12 := by rw [a5]; rfl
  have g12 : (prodL (fuB B)).toNat = 12 := by rw [b5]; rfl
  rw [e12] at hf
  rw [g12] at hg
  -- the fused tensors
  have hx6 : regX k q A (fuA A) XA [3, 1] = permDataL k q A (fuA A) XA [4, 3, 1] := by unfold regX; rw [a1]
  have hy6 : regX k q B (fuB B) XB [3, 1] = permDataL k q B (fuB B) XB [5, 3, 1] := by unfold regX; rw [b1]
  obtain ⟨Px, hPx⟩ : ∃ x, x = permDataL k q A (fuA A) XA [4, 3, 1] := ⟨_, rfl⟩
  obtain ⟨Qy, hQy⟩ : ∃ x, x = permDataL k q B (fuB B) XB [5, 3, 1] := ⟨_, rfl⟩
  have tz0 := (perm_ok ta a6.symm).2.1
  rw [← hPx, a4] at tz0
  have tw0 := (perm_ok tb b6.symm).2.1
  rw [← hQy, b4] at tw0
  have tx := ten_relabel tz0 axes_49 rfl (by decide)
  have ty := ten_relabel tw0 axes_59 rfl (by decide)
  have hnA : A.Nodup := hf.ax.2.2.2.2
  have fa : fuseB k p q A (fuA A) XA [3, 1] 9 = true := by
    unfold fuseB
    rw [ta, a2, a3, size_of axes_49 (by decide)]
    have hs : subB A [3, 1] = true := sub_dec fun j hj => by
      match j, hj with
      | 0, _ => exact ⟨hA.symm.subset (by simp), by simp⟩
      | 1, _ => exact ⟨hA.symm.subset (by simp), by decide⟩
    rw [hs]; decide
  have fb : fuseB k p q B (fuB B) XB [3, 1] 9 = true := by
    unfold fuseB
    rw [tb, b2, b3, size_of axes_59 (by decide)]
    have hs : subB B [3, 1] = true := sub_dec fun j hj => by
      match j, hj with
      | 0, _ => exact ⟨hB.symm.subset (by simp), by simp⟩
      | 1, _ => exact ⟨hB.symm.subset (by simp), by decide⟩
    rw [hs]; decide
  have sp : regB k p q [4, 9] [2, 6] Px [9] [3, 1] [2, 3] = true := by
    unfold regB
    have hs : subB [4, 9] [9] = true := sub_dec fun j hj => by
      match j, hj with
      | 0, _ => exact ⟨by decide, by decide⟩
    have e1 : restL [9] [4, 9] ++ [3, 1] = [4, 3, 1] := by decide
    have e2 : dimsVia [4, 9] [2, 6] (restL [9] [4, 9]) ++ [2, 3] = [2, 2, 3] := by decide
    rw [tx, hs, e1, e2, size_of axes_431 (by decide)]; decide
  have hself : regX k q [4, 9] [2, 6] Px [9] = Px := by
    unfold regX
    rw [show regL [4, 9] [9] = [4, 9] from by decide]
    exact (perm_back tx).2
  have sz : sameB k p q [4, 3, 1] [2, 2, 3] Px A (fuA A) XA = true := by
    have h1 := (same_perm tz0 a6).2.2.2
    have h2 := perm_perm ta a6.symm (List.Perm.refl A)
    have h3 := perm_back ta
    rw [a4, ← hPx, h3.1, h3.2] at h2
    rw [h2.1, h2.2] at h1
    exact h1
  have pu : pairB k p q A (fuA A) XA B (fuB B) XB [4, 5] = true := by
    have hfit : fitV A (fuA A) B (fuB B) = true := fitV_true.2 (fun j n hj hn hm => by
      rw [b7] at hj
      have h1 := List.all_eq_true.1 j4 j (by simpa using hj)
      have e : B.getD j 0 = n := by rw [List.getD_eq_getElem?_getD, hn]; rfl
      rw [e] at h1
      simpa [hm] using h1)
    unfold pairB pfB smallB
    rw [ta, tb, hfit, j1, j2, j3, size_of axes_45 (by decide)]; decide
  have pv : pairB k p q [4, 9] [2, 6] Px [5, 9] [2, 6] Qy [4, 5] = true := by
    have hfit : fitV [4, 9] [2, 6] [5, 9] [2, 6] = true := fitV_true.2 (fun j n hj hn hm => by
      match j, hj with
      | 0, _ => simp at hn; subst hn; simp at hm
      | 1, _ => simp at hn; subst hn; decide)
    have e1 : keepL (joinL [4, 9] [5, 9]) [4, 5] = [4, 5] := by decide
    have e2 : keepD (joinL [4, 9] [5, 9]) (joinD [4, 9] [2, 6] [5, 9] [2, 6]) [4, 5] = [2, 2] := by decide
    have e3 : prodL (joinD [4, 9] [2, 6] [5, 9] [2, 6]) = 24 := by decide
    unfold pairB pfB smallB
    rw [tx, ty, hfit, e1, e2, e3, size_of axes_45 (by decide)]; decide
  refine ⟨Px, Qy, ta, tb, fa, fb, ⟨a2, a3, by rw [hx6, hPx]⟩, ⟨b2, b3, by rw [hy6, hQy]⟩, tx, ty, sp, ⟨by decide, by decide, hself⟩, tz0, sz, pu, ⟨j1, j2⟩, pv, ⟨by decide, by decide⟩, ?_⟩
  -- the contraction
  obtain ⟨wd, hwd⟩ : ∃ x, x = (widthI k q).toNat := ⟨_, rfl⟩
  rw [← hwd] at hf hg
  have hr := hf.rg
  have hJv : joinL [4, 9] [5, 9] = [4, 9, 5] := by decide
  have hDv : joinD [4, 9] [2, 6] [5, 9] [2, 6] = [2, 6, 2] := by decide
  have hKv : keepL [4, 9, 5] [4, 5] = [4, 5] := by decide
  have hEv : keepD [4, 9, 5] [2, 6, 2] [4, 5] = [2, 2] := by decide
  have hNv : (prodL [2, 6, 2]).toNat = 24 := by decide
  have hMv : (prodL [2, 2]).toNat = 4 := by decide
  have hNu : (prodL (joinD A (fuA A) B (fuB B))).toNat = 24 := by rw [j3]; rfl
  unfold pairL
  rw [hJv, hDv, hKv, hEv, hNv, hMv, j1, j2, hNu, hMv, ← hwd]
  unfold accL gatherL
  have hgetP : ∀ n, n < 12 → getL wd Px n = getL wd XA (permF A (fuA A) [4, 3, 1] n) := fun n hn => by
    rw [hPx]
    unfold permDataL permX
    rw [e12, ← hwd]
    exact gather_get (f := fun n : Nat => getL wd XA (permF A (fuA A) [4, 3, 1] n)) (fun j hj => getL_len (by
      have h1 := (LinT.mk hr hf.hw hf.w6 hf.ax hf.pr hf.n1 hf.lX hf.wX).permLt a6.symm j
      have h2 := Nat.mul_le_mul_right wd (show permF A (fuA A) [4, 3, 1] j + 1 ≤ 12 by omega)
      rw [Nat.add_mul, Nat.one_mul] at h2
      have := hf.lX
      omega)) hn
  have hgetQ : ∀ n, n < 12 → getL wd Qy n = getL wd XB (permF B (fuB B) [5, 3, 1] n) := fun n hn => by
    rw [hQy]
    unfold permDataL permX
    rw [g12, ← hwd]
    exact gather_get (f := fun n : Nat => getL wd XB (permF B (fuB B) [5, 3, 1] n)) (fun j hj => getL_len (by
      have h1 := (LinT.mk hr hg.hw hg.w6 hg.ax hg.pr hg.n1 hg.lX hg.wX).permLt b6.symm j
      have h2 := Nat.mul_le_mul_right wd (show permF B (fuB B) [5, 3, 1] j + 1 ≤ 12 by omega)
      rw [Nat.add_mul, Nat.one_mul] at h2
      have := hg.lX
      omega)) hn
  refine congrArg List.flatten (List.map_congr_left fun e he => ?_)
  have he4 : e ∈ List.range 4 := he
  have h5 := List.all_eq_true.1 j5 e he4
  simp only [Bool.and_eq_true, List.all_eq_true, decide_eq_true_eq] at h5
  obtain ⟨hperm, hlt⟩ := h5
  rw [accE_sum, accE_sum]
  have e1 : (((List.range 24).filter fun m => decide (offJ [4, 5] [2, 2] (joinL A B) (joinD A (fuA A) B (fuB B)) m = e)).map (termJ k p wd A (fuA A) XA B (fuB B) XB (joinL A B) (joinD A (fuA A) B (fuB B)))) = (uP A B e).map fun z => timesL k p (getL wd XA z.1) (getL wd XB z.2) := by
    unfold uP
    rw [List.map_map]
    rfl
  have e2 : (((List.range 24).filter fun m => decide (offJ [4, 5] [2, 2] [4, 9, 5] [2, 6, 2] m = e)).map (termJ k p wd [4, 9] [2, 6] Px [5, 9] [2, 6] Qy [4, 9, 5] [2, 6, 2])) = (vP A B e).map fun z => timesL k p (getL wd XA z.1) (getL wd XB z.2) := by
    unfold vP
    rw [List.map_map]
    refine List.map_congr_left fun c hc => ?_
    have hc24 := (List.mem_filter.1 hc).1
    have h6 := List.all_eq_true.1 chk_V c hc24
    simp only [Bool.and_eq_true, decide_eq_true_eq] at h6
    show timesL k p (getL wd Px _) (getL wd Qy _) = _
    rw [hgetP _ h6.1, hgetQ _ h6.2]
    rfl
  rw [e1, e2]
  refine sumT_perm hr ((List.isPerm_iff.1 hperm).map _) (zeroL_elem hr) (fun t ht2 => ?_)
  obtain ⟨z, hz, rfl⟩ := List.mem_map.1 ht2
  exact timesL_elem hr (getL_elem hf.hw hf.lX hf.wX (hlt z hz).1) (getL_elem hg.hw hg.lX hg.wX (hlt z hz).2)
end
end Go.Proofs.YtceidekfcnmeaaaGreat
