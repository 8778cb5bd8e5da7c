
/- The calls of the law FnFused, on what it draws. -/
import Derived.Test.YtceidekfcnmeaaaGreatFusedMath
import Derived.Test.YtceidekfcnmeaaaGreatFuseImpl
import Derived.Test.YtceidekfcnmeaaaGreatSplitImpl
import Derived.Test.YtceidekfcnmeaaaGreatPairImpl
import Derived.Test.YtceidekfcnmeaaaGreatSizeImpl
namespace Go.Proofs.YtceidekfcnmeaaaGreat
set_option maxRecDepth 20000
open Go.RowKit

/-- A literal, as it is read. -/
theorem rd_lits (W : World) (xs : List Int) (T : TypeId) : Rd (W.heap.size + 1) (W.alloc (.cells (ints xs).toArray T)) (.slice (some ⟨W.heap.size, 0, none⟩) xs.length xs.length) (ints xs) := by
  refine .inr ⟨W.heap.size, 0, xs.length, by rw [ints_len], Nat.lt_succ_self _, by rw [ints_len]; exact Nat.le_refl _, fun i u hu => ?_⟩
  rw [Nat.zero_add, World.cell?_alloc_new, ← hu]
  simp
theorem axes_314 : AxesV [3, 1, 4] [2, 3, 2] := by unfold AxesV; decide
theorem axes_153 : AxesV [1, 5, 3] [3, 2, 2] := by unfold AxesV; decide
theorem zero_ten {k p q : Int} {L D : List Int} (hk : ringB k p q = true) (ha : AxesV L D) (hp : prodL D ≤ 4096) (h1 : 1 ≤ prodL D) : zeroTenB k p q L D = true ∧ tensorB k p q L D (zeroTenL k p q D) = true := by
  obtain ⟨wd, hw, w1, w6⟩ := width_pos hk
  have hs := size_of ha hp
  have hz0 : ElemV k p q (zeroL k p q) := zeroL_elem hk
  have ez : zeroTenL k p q D = gatherL (fun _ => zeroL k p q) (prodL D).toNat := by
    unfold zeroTenL
    have hr : ∀ M, repL (zeroL k p q) M = gatherL (fun _ => zeroL k p q) M := by
      intro M
      induction M with
      | zero => rfl
      | succ M ih => rw [repL_succ, gather_succ, ih]
    exact hr _
  have hlen : (gatherL (fun _ => zeroL k p q) (prodL D).toNat).length = (prodL D).toNat * wd := gather_len _ fun i hi => by
    have := hz0.1
    omega
  refine ⟨?_, ?_⟩
  · unfold zeroTenB; rw [hk, hs, decide_eq_true (by omega)]; rfl
  · rw [ez]
    refine (tensorB_of hk ha (by omega) ?_ (gather_within fun i hi => hz0.2)).1
    rw [hw, hlen, Int.natCast_mul]
    congr 1
    omega
theorem pair_short {k p q : Int} {L D X L' D' X' K l d G : List Int} (h : pairB k p q L D X L' D' X' K = true) (he : keepL (joinL L L') K = l ∧ keepD (joinL L L') (joinD L D L' D') K = d) (hx : pairL k p q L D X L' D' X' K = G) : LenT l d G := by
  have h1 := pair_len_L k p q L D X L' D' X' K
  have h2 := pair_len_D k p q L D X L' D' X' K
  have h3 := pair_len_X k p q L D X L' D' X' K
  rw [if_pos h, he.1] at h1
  rw [if_pos h, he.2] at h2
  rw [if_pos h, hx] at h3
  exact ⟨by omega, by omega, by omega⟩
section
variable {B B' B'' : Nat} {lv dv xv lu du xu fv gv : Value} {k p q c : Int} {L D X L' D' X' F A G l d x : List Int} {w : World}
theorem fuse_yes (h : fuseB k p q L D X F c = true) (ht : tensorB k p q L D X = true) (he : fuseL L F c = l ∧ fuseD L D F = d ∧ regX k q L D X F = x) (ha : RdT B w lv dv xv L D X) (hf : Rd B' w fv (ints F)) (hB : B ≤ w.heap.size) (hB' : B' ≤ w.heap.size) (hl : F.length ≤ 1048576) (hv : -9223372036854775808 ≤ c ∧ c ≤ 9223372036854775807) :
    Calls Tryz.prog 26 #[ringV k p q, tenV lv dv xv, fv, .int .i64 c] w (NewS w l d x fun t => .tuple #[t, .bool true]) := by
  have hT : RdT w.heap.size w lv dv xv L D X := ⟨ha.l.mono hB, ha.d.mono hB, ha.x.mono hB⟩
  have hq := fuse_labels_impl (k := k) (p := p) (q := q) (c := c) hT (hf.mono hB') (Nat.le_refl _) (ten_len ht) hl (ten_ints ht) hv
  rw [h] at hq
  simp only [if_true, he.1, he.2.1, he.2.2] at hq
  exact hq.mono fun e w' h => NewS.of2 h
theorem split_yes (h : regB k p q L D X [c] A G = true) (ht : tensorB k p q L D X = true) (he : restL [c] L ++ A = l ∧ dimsVia L D (restL [c] L) ++ G = d ∧ regX k q L D X [c] = x) (ha : RdT B w lv dv xv L D X) (hf : Rd B' w fv (ints A)) (hg : Rd B'' w gv (ints G)) (hB : B ≤ w.heap.size) (hB' : B' ≤ w.heap.size) (hB'' : B'' ≤ w.heap.size) (hl : A.length ≤ 1048576) (hl2 : G.length ≤ 1048576) (hJ : allI A) :
    Calls Tryz.prog 27 #[ringV k p q, tenV lv dv xv, .int .i64 c, fv, gv] w (NewS w l d x fun t => .tuple #[t, .bool true]) := by
  have hT : RdT w.heap.size w lv dv xv L D X := ⟨ha.l.mono hB, ha.d.mono hB, ha.x.mono hB⟩
  have hq := split_label_impl (k := k) (p := p) (q := q) (b := c) hT (hf.mono hB') (hg.mono hB'') (Nat.le_refl _) (ten_len ht) hl hl2 (ten_ints ht) hJ
  rw [h] at hq
  simp only [if_true, he.1, he.2.1, he.2.2] at hq
  exact hq.mono fun e w' h => NewS.of2 h
theorem pairf_yes (h : pairB k p q L D X L' D' X' F = true) (ht : tensorB k p q L D X = true) (hu : tensorB k p q L' D' X' = true) (he : keepL (joinL L L') F = l ∧ keepD (joinL L L') (joinD L D L' D') F = d) (hx : pairL k p q L D X L' D' X' F = x) (ha : RdT B w lv dv xv L D X) (hb : RdT B' w lu du xu L' D' X') (hf : Rd B'' w fv (ints F)) (hB : B ≤ w.heap.size) (hB' : B' ≤ w.heap.size) (hB'' : B'' ≤ w.heap.size) (hl : F.length ≤ 1048576) :
    Calls Tryz.prog 21 #[ringV k p q, tenV lv dv xv, tenV lu du xu, fv] w (NewS w l d x fun t => .tuple #[t, .bool true]) := by
  have hq := contract_pair_impl (k := k) (p := p) (q := q) ha hb hf hB hB' hB'' (ten_len ht) (ten_len hu) (by omega) (ten_ints ht) (ten_ints hu)
  rw [h] at hq
  simp only [if_true, he.1, he.2, hx] at hq
  exact hq.mono fun e w' h => NewS.of2 h
theorem sizef_yes (ht : tensorB k p q L D X = true) (he : sizeI L D = c) (h : RdT B w lv dv xv L D X) (hB : B ≤ w.heap.size) :
    Calls Tryz.prog 28 #[tenV lv dv xv] w fun e w' => e = .returned (.int .i64 c) ∧ Below w.heap.size w w' := by
  have hq := size_impl h hB (ten_len ht) (ten_ints ht)
  rw [he] at hq
  exact hq
end
end Go.Proofs.YtceidekfcnmeaaaGreat
