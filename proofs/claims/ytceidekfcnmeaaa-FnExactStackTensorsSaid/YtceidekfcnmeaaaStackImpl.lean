
/- impl.StackTensors: tensors stacked. -/
import Derived.Test.YtceidekfcnmeaaaStackKit
import Derived.Deep.RegionLaw
namespace Go.Proofs.Ytceidekfcnmeaaa
set_option maxRecDepth 20000
open Go.RowKit

set_option maxHeartbeats 16000000 in
theorem stack_impl_some {B : Nat} {lv : Value} {k p q b : Int} {ts : List TenE} {n : Nat} {L D X : List Int} {w : World} (ha : RdTs B w lv ts) (hB : B ≤ w.heap.size) (hn : ts.length = n) (hn0 : 1 ≤ n) (hnn : n ≤ 1048576) (hh : ts[0]? = some (L, D, X)) (hlen : ∀ t ∈ ts, t.1.length ≤ 1048576 ∧ t.2.1.length ≤ 1048576 ∧ t.2.2.length ≤ 1048576) (hI : ∀ t ∈ ts, allI t.1) (hb : inI b) {fb : Bool} (hfb : fb = stackB k p q ts b) :
    Calls Try.prog 8 #[ringV k p q, lv, .int .i64 b] w (NewTen2 w (if fb = true then L ++ [b] else []) (if fb = true then D ++ [(n : Int)] else []) (if fb = true then stackX k q ts L D else []) fb) := by
  have HA : Hid (RdTs w.heap.size w lv ts) := Lib.hid (ha.mono hB)
  obtain ⟨pl, cp, rfl⟩ := ha.form
  rw [hn] at HA ⊢
  obtain ⟨gh, oh, al, cl, ad, cd, ax, cx, rfl, hgh, j0, j1, j2, hT⟩ := HA.out.at hh
  have hhl := hlen _ (List.mem_of_getElem? hh)
  have HIL := Lib.hid (hI _ (List.mem_of_getElem? hh))
  obtain ⟨m1, hm1⟩ : ∃ m, m = L.length := ⟨_, rfl⟩
  obtain ⟨m2, hm2⟩ : ∃ m, m = D.length := ⟨_, rfl⟩
  obtain ⟨m3, hm3⟩ : ∃ m, m = X.length := ⟨_, rfl⟩
  have HML : Hid (L.length = m1 ∧ D.length = m2 ∧ m1 ≤ 1048576 ∧ m2 ≤ 1048576 ∧ X.length ≤ 1048576) := Lib.hid ⟨hm1.symm, hm2.symm, by rw [hm1]; exact hhl.1, by rw [hm2]; exact hhl.2.1, hhl.2.2⟩
  have HT : Hid (RdT w.heap.size w (.slice al m1 cl) (.slice ad m2 cd) (.slice ax m3 cx) L D X) := Lib.hid (by
    have h := hT
    simp only at h
    rw [← hm1, ← hm2, ← hm3] at h
    exact h)
  have hk : w.cell? ⟨gh, oh, none⟩ = some (.slice al m1 cl) ∧ w.cell? ⟨gh, oh + 1, none⟩ = some (.slice ad m2 cd) ∧ w.cell? ⟨gh, oh + 2, none⟩ = some (.slice ax m3 cx) := by
    simp only [Nat.zero_mul, Nat.add_zero, ← hm1, ← hm2, ← hm3] at j0 j1 j2
    exact ⟨j0, j1, j2⟩
  clear j0 j1 j2
  obtain ⟨k0, k1, k2⟩ := hk
  have HBI := Lib.hid hb
  have HN := Lib.hid hn
  have HH := Lib.hid hh
  have HLEN := Lib.hid hlen
  have HII := Lib.hid hI
  have HFB : Hid (fb = (decide (0 ≤ sizeI (L ++ [b]) (D ++ [(n : Int)])) && ts.all fun t => alB k p q L D t.1 t.2.1 t.2.2)) := Lib.hid (by rw [hfb, stackB_alt hh, hn])
  obtain ⟨yl, hyl⟩ : ∃ l, l = (if fb = true then L ++ [b] else []) := ⟨_, rfl⟩
  obtain ⟨yd, hyd⟩ : ∃ l, l = (if fb = true then D ++ [(n : Int)] else []) := ⟨_, rfl⟩
  obtain ⟨yx, hyx⟩ : ∃ l, l = (if fb = true then stackX k q ts L D else []) := ⟨_, rfl⟩
  have HNO : Hid (fb = false → yl = [] ∧ yd = [] ∧ yx = []) := Lib.hid (fun h => by subst h; exact ⟨hyl, hyd, hyx⟩)
  have HYES : Hid (fb = true → yl = L ++ [b] ∧ yd = D ++ [(n : Int)] ∧ yx = stackX k q ts L D) := Lib.hid (fun h => by subst h; exact ⟨hyl, hyd, hyx⟩)
  rw [← hyl, ← hyd, ← hyx]
  clear hyl hyd hyx hfb hb hn hh hlen hI hm1 hm2 hm3 hT hhl ha hB
  -- the four boxes
  obtain ⟨wB, hwB⟩ : ∃ W, W = (((w.alloc (.cells #[.int .i64 k, .int .i64 p, .int .i64 q] 31)).alloc (.cells #[.slice (some ⟨gh, oh, none⟩) n cp] 33)).alloc (.cells #[nilV, nilV, nilV] 28)).alloc (.cells #[.slice al m1 cl, .slice ad m2 cd, .slice ax m3 cx] 28) := ⟨_, rfl⟩
  have HWB := Lib.hid hwB
  have HBB : Hid (Below w.heap.size w wB) := Lib.hid (by
    rw [hwB]
    exact ((((Below.refl _ _).alloc (Nat.le_refl _) _).alloc (by simp) _).alloc (by simp; omega) _).alloc (by simp; omega) _)
  have HSZ4 : Hid (wB.heap.size = w.heap.size + 4) := Lib.hid (by rw [hwB]; simp)
  have HS0 : Hid (Rs w wB [(w.heap.size + 3, .slice al m1 cl, .slice ad m2 cd, .slice ax m3 cx), (w.heap.size + 2, nilV, nilV, nilV), (w.heap.size, .int .i64 k, .int .i64 p, .int .i64 q)] []) := Lib.hid (by
    have h := ((((Rs.start w).box (.int .i64 k) (.int .i64 p) (.int .i64 q) 31).alloc (.cells #[.slice (some ⟨gh, oh, none⟩) n cp] 33)).box nilV nilV nilV 28).box (.slice al m1 cl) (.slice ad m2 cd) (.slice ax m3 cx) 28
    simp only [World.size_alloc] at h
    rw [hwB]
    exact h)
  have HLC : Hid (wB.cell? ⟨w.heap.size + 1, 0, none⟩ = some (.slice (some ⟨gh, oh, none⟩) n cp)) := Lib.hid (by
    rw [hwB, World.cell?_alloc_lt _ _ _ (by simp), World.cell?_alloc_lt _ _ _ (by simp)]
    simp [World.cell?_alloc_at])
  clear hwB
  have HSW := Lib.hid (fun (W : World) (hb : Below wB.heap.size wB W) => HS0.out.step hb)
  have HBW := Lib.hid (fun (W : World) (hb : Below wB.heap.size wB W) => HBB.out.trans (hb.mono HBB.out.size))
  have HK4 : Hid (∀ W : World, Below wB.heap.size wB W → (W.cell? ⟨w.heap.size + 3, 0, none⟩ = some (.slice al m1 cl) ∧ W.cell? ⟨w.heap.size + 3, 1, none⟩ = some (.slice ad m2 cd) ∧ W.cell? ⟨w.heap.size + 3, 2, none⟩ = some (.slice ax m3 cx)) ∧ W.cell? ⟨w.heap.size + 1, 0, none⟩ = some (.slice (some ⟨gh, oh, none⟩) n cp)) := Lib.hid (fun W hb => ⟨((HSW.out W hb).at (r := w.heap.size + 3) (a := .slice al m1 cl) (b := .slice ad m2 cd) (c := .slice ax m3 cx) (by simp)).1, cell_kept hb HLC.out⟩)
  have HLW : Hid (∀ W : World, Below wB.heap.size wB W → RdW W (.slice al m1 cl) L ∧ RdW W (.slice ad m2 cd) D) := Lib.hid (fun W hb => ⟨(HT.out.l.below (HBW.out W hb) (Nat.le_refl _)).mono (HBW.out W hb).size, (HT.out.d.below (HBW.out W hb) (Nat.le_refl _)).mono (HBW.out W hb).size⟩)
  have q0 : ((n : Int) == 0) = false := by simp; omega
  have hg1 : gh < w.heap.size + 1 := by omega
  have hg2 : gh < w.heap.size + 2 := by omega
  have hg3 : gh < w.heap.size + 1 + 1 := by omega
  have hg4 : ¬ gh = w.heap.size := by omega
  have hg5 : ¬ gh = w.heap.size + 1 := by omega
  have hg6 : ¬ gh = w.heap.size + 2 := by omega
  have hg7 : ¬ gh = w.heap.size + 1 + 1 := by omega
  have RX : Hid (Rs wB wB.drew [] [] ∧ True ∧ True) := Lib.hid ⟨(Rs.start wB).drew, trivial, trivial⟩
  go_enter Try.func8, Try.ntmps8
  go_upto_region 4 with fail
  rw [← HWB.out]
  clear k0 k1 k2 q0 HWB hg1 hg2 hg3 hg4 hg5 hg6 hg7
  refine wp_region_held_drew (S := (fun w' => (w'.cell? ⟨w.heap.size + 3, 0, none⟩ = some (.slice al m1 cl) ∧ w'.cell? ⟨w.heap.size + 3, 1, none⟩ = some (.slice ad m2 cd) ∧ w'.cell? ⟨w.heap.size + 3, 2, none⟩ = some (.slice ax m3 cx)) ∧ w'.cell? ⟨w.heap.size + 1, 0, none⟩ = some (.slice (some ⟨gh, oh, none⟩) n cp))) (by kernel_rfl) (by (try dsimp only); with_reducible exact HK4.out _ RX.out.1.bel) (fun hHeld => ?_)
  obtain ⟨WX, hW⟩ : ∃ W, W = wB.drew := ⟨_, rfl⟩
  rw [← hW] at hHeld RX ⊢
  clear hW
  refine wpAnyH_take (i := 0) (v := ?_) rfl (by kernel_rfl) (by kernel_rfl) (by kernel_rfl) (fun _ _ _ h => h) (Or.inl ⟨by rfl, ?_⟩) (by assumption) ?_
  rotate_left
  · intro w hSw; (try dsimp only at hSw); go_simp <;> with_reducible rfl
  try simp only [Act.put, List.getElem_toArray, List.getElem_cons_zero, List.setIfInBounds_toArray, List.set_cons_zero, List.set_cons_succ]
  refine wpAnyH_take (i := 1) (v := ?_) rfl (by kernel_rfl) (by kernel_rfl) (by kernel_rfl) (fun _ _ _ h => h) (Or.inl ⟨by rfl, ?_⟩) (by assumption) ?_
  rotate_left
  · intro w hSw; (try dsimp only at hSw); go_simp <;> with_reducible rfl
  try simp only [Act.put, List.getElem_toArray, List.getElem_cons_succ, List.getElem_cons_zero, List.setIfInBounds_toArray, List.set_cons_zero, List.set_cons_succ]
  refine wpAnyH_take (i := 2) (v := ?_) rfl (by kernel_rfl) (by kernel_rfl) (by kernel_rfl) (fun _ _ _ h => h) (Or.inl ⟨by rfl, ?_⟩) (by assumption) ?_
  rotate_left
  · intro w hSw; (try dsimp only at hSw); go_simp <;> with_reducible rfl
  try simp only [Act.put, List.getElem_toArray, List.getElem_cons_succ, List.getElem_cons_zero, List.setIfInBounds_toArray, List.set_cons_zero, List.set_cons_succ]
  refine wpAnyH_take (i := 6) (v := ?_) rfl (by kernel_rfl) (by kernel_rfl) (by kernel_rfl) (fun _ _ _ h => h) (Or.inl ⟨by rfl, ?_⟩) (by assumption) ?_
  rotate_left
  · intro w hSw; (try dsimp only at hSw); go_simp <;> with_reducible rfl
  try simp only [Act.put, List.getElem_toArray, List.getElem_cons_succ, List.getElem_cons_zero, List.setIfInBounds_toArray, List.set_cons_zero, List.set_cons_succ]
  refine wpAnyH_take (i := 7) (v := ?_) rfl (by kernel_rfl) (by kernel_rfl) (by kernel_rfl) (fun _ _ _ h => h) (Or.inl ⟨by rfl, ?_⟩) (by assumption) ?_
  rotate_left
  · intro w hSw; (try dsimp only at hSw); go_simp <;> with_reducible rfl
  try simp only [Act.put, List.getElem_toArray, List.getElem_cons_succ, List.getElem_cons_zero, List.setIfInBounds_toArray, List.set_cons_zero, List.set_cons_succ]
  refine wpAnyH_take (i := 8) (v := ?_) rfl (by kernel_rfl) (by kernel_rfl) (by kernel_rfl) (fun _ _ _ h => h) (Or.inl ⟨by rfl, ?_⟩) (by assumption) ?_
  rotate_left
  · intro w hSw; (try dsimp only at hSw); go_simp <;> with_reducible rfl
  try simp only [Act.put, List.getElem_toArray, List.getElem_cons_succ, List.getElem_cons_zero, List.setIfInBounds_toArray, List.set_cons_zero, List.set_cons_succ]
  refine wpAnyH_take (i := 9) (v := ?_) rfl (by kernel_rfl) (by kernel_rfl) (by kernel_rfl) (fun _ _ _ h => h) (Or.inl ⟨by rfl, ?_⟩) (by assumption) ?_
  rotate_left
  · intro w hSw; (try dsimp only at hSw); go_simp <;> with_reducible rfl
  try simp only [Act.put, List.getElem_toArray, List.getElem_cons_succ, List.getElem_cons_zero, List.setIfInBounds_toArray, List.set_cons_zero, List.set_cons_succ]
  apply share10 (F := fun (g3 : Nat) (g4 : Nat) (g5 : Nat) (c5 : Nat) (g10 : Nat) (g11 : Nat) (g12 : Nat) (c12 : Nat) (g14 : Nat) (WX : World) => Hid (Rs wB WX [(g14, .slice (some ⟨g5, 0, none⟩) (m1 + 1) c5, .slice (some ⟨g12, 0, none⟩) (m2 + 1) c12, nilV)] [(.slice (some ⟨g5, 0, none⟩) (m1 + 1) c5, L ++ [b]), (.slice (some ⟨g12, 0, none⟩) (m2 + 1) c12, D ++ [(n : Int)])] ∧ True ∧ True))
  intro K3_4_5_10_11_12_14_15
  apply share10 (F := fun (g3 : Nat) (g4 : Nat) (g5 : Nat) (c5 : Nat) (g10 : Nat) (g11 : Nat) (g12 : Nat) (c12 : Nat) (g14 : Nat) (WX : World) => Hid (Rs wB WX [(g14, nilV, nilV, nilV)] [(.slice (some ⟨g5, 0, none⟩) (m1 + 1) c5, L ++ [b]), (.slice (some ⟨g12, 0, none⟩) (m2 + 1) c12, D ++ [(n : Int)])] ∧ True ∧ True))
  intro K3_4_5_10_11_12_14
  apply share9 (F := fun (g3 : Nat) (g4 : Nat) (g5 : Nat) (c5 : Nat) (g10 : Nat) (g11 : Nat) (g12 : Nat) (c12 : Nat) (WX : World) => Hid (Rs wB WX [] [(.slice (some ⟨g5, 0, none⟩) (m1 + 1) c5, L ++ [b]), (.slice (some ⟨g12, 0, none⟩) (m2 + 1) c12, D ++ [(n : Int)])] ∧ True ∧ True))
  intro K3_4_5_10_11_12
  apply share8 (F := fun (g3 : Nat) (g4 : Nat) (g5 : Nat) (c5 : Nat) (g10 : Nat) (g11 : Nat) (g14 : Nat) (WX : World) => Hid (Rs wB WX [(g14, nilV, nilV, nilV)] [(.slice (some ⟨g5, 0, none⟩) (m1 + 1) c5, L ++ [b])] ∧ True ∧ Two2 WX (.slice (some ⟨g11, 0, none⟩) 2 2) D [(n : Int)]))
  intro K3_4_5_10_11_14
  apply share7 (F := fun (g3 : Nat) (g4 : Nat) (g5 : Nat) (c5 : Nat) (g10 : Nat) (g11 : Nat) (WX : World) => Hid (Rs wB WX [] [(.slice (some ⟨g5, 0, none⟩) (m1 + 1) c5, L ++ [b])] ∧ True ∧ Two2 WX (.slice (some ⟨g11, 0, none⟩) 2 2) D [(n : Int)]))
  intro K3_4_5_10_11
  apply share7 (F := fun (g3 : Nat) (g4 : Nat) (g5 : Nat) (c5 : Nat) (g10 : Nat) (g14 : Nat) (WX : World) => Hid (Rs wB WX [(g14, nilV, nilV, nilV)] [(.slice (some ⟨g5, 0, none⟩) (m1 + 1) c5, L ++ [b])] ∧ True ∧ RdW WX (.slice (some ⟨g10, 0, none⟩) 1 1) [(n : Int)]))
  intro K3_4_5_10_14
  apply share6 (F := fun (g3 : Nat) (g4 : Nat) (g10 : Nat) (g11 : Nat) (g14 : Nat) (WX : World) => Hid (Rs wB WX [(g14, nilV, nilV, nilV)] [] ∧ Two2 WX (.slice (some ⟨g4, 0, none⟩) 2 2) L [b] ∧ Two2 WX (.slice (some ⟨g11, 0, none⟩) 2 2) D [(n : Int)]))
  intro K3_4_10_11_14
  apply share6 (F := fun (g3 : Nat) (g4 : Nat) (g5 : Nat) (c5 : Nat) (g10 : Nat) (WX : World) => Hid (Rs wB WX [] [(.slice (some ⟨g5, 0, none⟩) (m1 + 1) c5, L ++ [b])] ∧ True ∧ RdW WX (.slice (some ⟨g10, 0, none⟩) 1 1) [(n : Int)]))
  intro K3_4_5_10
  apply share6 (F := fun (g3 : Nat) (g4 : Nat) (g5 : Nat) (c5 : Nat) (g14 : Nat) (WX : World) => Hid (Rs wB WX [(g14, nilV, nilV, nilV)] [(.slice (some ⟨g5, 0, none⟩) (m1 + 1) c5, L ++ [b])] ∧ True ∧ True))
  intro K3_4_5_14
  apply share5 (F := fun (g3 : Nat) (g4 : Nat) (g10 : Nat) (g11 : Nat) (WX : World) => Hid (Rs wB WX [] [] ∧ Two2 WX (.slice (some ⟨g4, 0, none⟩) 2 2) L [b] ∧ Two2 WX (.slice (some ⟨g11, 0, none⟩) 2 2) D [(n : Int)]))
  intro K3_4_10_11
  apply share5 (F := fun (g3 : Nat) (g4 : Nat) (g10 : Nat) (g14 : Nat) (WX : World) => Hid (Rs wB WX [(g14, nilV, nilV, nilV)] [] ∧ Two2 WX (.slice (some ⟨g4, 0, none⟩) 2 2) L [b] ∧ RdW WX (.slice (some ⟨g10, 0, none⟩) 1 1) [(n : Int)]))
  intro K3_4_10_14
  apply share5 (F := fun (g3 : Nat) (g10 : Nat) (g11 : Nat) (g14 : Nat) (WX : World) => Hid (Rs wB WX [(g14, nilV, nilV, nilV)] [] ∧ RdW WX (.slice (some ⟨g3, 0, none⟩) 1 1) [b] ∧ Two2 WX (.slice (some ⟨g11, 0, none⟩) 2 2) D [(n : Int)]))
  intro K3_10_11_14
  apply share5 (F := fun (g3 : Nat) (g4 : Nat) (g5 : Nat) (c5 : Nat) (WX : World) => Hid (Rs wB WX [] [(.slice (some ⟨g5, 0, none⟩) (m1 + 1) c5, L ++ [b])] ∧ True ∧ True))
  intro K3_4_5
  apply share4 (F := fun (g3 : Nat) (g4 : Nat) (g10 : Nat) (WX : World) => Hid (Rs wB WX [] [] ∧ Two2 WX (.slice (some ⟨g4, 0, none⟩) 2 2) L [b] ∧ RdW WX (.slice (some ⟨g10, 0, none⟩) 1 1) [(n : Int)]))
  intro K3_4_10
  apply share4 (F := fun (g3 : Nat) (g4 : Nat) (g14 : Nat) (WX : World) => Hid (Rs wB WX [(g14, nilV, nilV, nilV)] [] ∧ Two2 WX (.slice (some ⟨g4, 0, none⟩) 2 2) L [b] ∧ True))
  intro K3_4_14
  apply share4 (F := fun (g3 : Nat) (g10 : Nat) (g11 : Nat) (WX : World) => Hid (Rs wB WX [] [] ∧ RdW WX (.slice (some ⟨g3, 0, none⟩) 1 1) [b] ∧ Two2 WX (.slice (some ⟨g11, 0, none⟩) 2 2) D [(n : Int)]))
  intro K3_10_11
  apply share4 (F := fun (g3 : Nat) (g10 : Nat) (g14 : Nat) (WX : World) => Hid (Rs wB WX [(g14, nilV, nilV, nilV)] [] ∧ RdW WX (.slice (some ⟨g3, 0, none⟩) 1 1) [b] ∧ RdW WX (.slice (some ⟨g10, 0, none⟩) 1 1) [(n : Int)]))
  intro K3_10_14
  apply share4 (F := fun (g10 : Nat) (g11 : Nat) (g14 : Nat) (WX : World) => Hid (Rs wB WX [(g14, nilV, nilV, nilV)] [] ∧ True ∧ Two2 WX (.slice (some ⟨g11, 0, none⟩) 2 2) D [(n : Int)]))
  intro K10_11_14
  apply share3 (F := fun (g3 : Nat) (g4 : Nat) (WX : World) => Hid (Rs wB WX [] [] ∧ Two2 WX (.slice (some ⟨g4, 0, none⟩) 2 2) L [b] ∧ True))
  intro K3_4
  apply share3 (F := fun (g3 : Nat) (g10 : Nat) (WX : World) => Hid (Rs wB WX [] [] ∧ RdW WX (.slice (some ⟨g3, 0, none⟩) 1 1) [b] ∧ RdW WX (.slice (some ⟨g10, 0, none⟩) 1 1) [(n : Int)]))
  intro K3_10
  apply share3 (F := fun (g3 : Nat) (g14 : Nat) (WX : World) => Hid (Rs wB WX [(g14, nilV, nilV, nilV)] [] ∧ RdW WX (.slice (some ⟨g3, 0, none⟩) 1 1) [b] ∧ True))
  intro K3_14
  apply share3 (F := fun (g10 : Nat) (g11 : Nat) (WX : World) => Hid (Rs wB WX [] [] ∧ True ∧ Two2 WX (.slice (some ⟨g11, 0, none⟩) 2 2) D [(n : Int)]))
  intro K10_11
  apply share3 (F := fun (g10 : Nat) (g14 : Nat) (WX : World) => Hid (Rs wB WX [(g14, nilV, nilV, nilV)] [] ∧ True ∧ RdW WX (.slice (some ⟨g10, 0, none⟩) 1 1) [(n : Int)]))
  intro K10_14
  apply share2 (F := fun (g3 : Nat) (WX : World) => Hid (Rs wB WX [] [] ∧ RdW WX (.slice (some ⟨g3, 0, none⟩) 1 1) [b] ∧ True))
  intro K3
  apply share2 (F := fun (g10 : Nat) (WX : World) => Hid (Rs wB WX [] [] ∧ True ∧ RdW WX (.slice (some ⟨g10, 0, none⟩) 1 1) [(n : Int)]))
  intro K10
  apply share2 (F := fun (g14 : Nat) (WX : World) => Hid (Rs wB WX [(g14, nilV, nilV, nilV)] [] ∧ True ∧ True))
  intro K14
  focus
    refine wpAnyH_ready (rs := [3, 10, 14]) (by kernel_rfl) (by simp) ?_
    refine AllReadyH.cons rfl (fun K hK => ?_) (AllReadyH.cons rfl (fun K hK => ?_) (AllReadyH.cons rfl (fun K hK => ?_) AllReadyH.nil))
    focus
      (go_simp; obtain ⟨WY, g3, hW, hg, hb, RY⟩ := lit_r WX b; rw [hW]; (try rw [hg]); replace RX := Lib.hid (And.intro (RX.out.1.step hb) (And.intro (RY) (True.intro))); clear RY hW hg hb; obtain ⟨WX, hW⟩ : ∃ W, W = WY := ⟨_, rfl⟩; rw [← hW] at RX ⊢; clear hW)
      refine hK.out _ _ (by (try dsimp only); with_reducible exact HK4.out _ RX.out.1.bel) (fun hHeld => ?_)
      clear hK K
      try simp only [Act.put, List.getElem_toArray, List.getElem_cons_succ, List.getElem_cons_zero, List.setIfInBounds_toArray, List.set_cons_zero, List.set_cons_succ]
      exact K3.out g3 WX RX
    focus
      (go_simp; obtain ⟨WY, g10, hW, hg, hb, RY⟩ := lit_r WX (n : Int); rw [hW]; (try rw [hg]); replace RX := Lib.hid (And.intro (RX.out.1.step hb) (And.intro (True.intro) (RY))); clear RY hW hg hb; obtain ⟨WX, hW⟩ : ∃ W, W = WY := ⟨_, rfl⟩; rw [← hW] at RX ⊢; clear hW)
      refine hK.out _ _ (by (try dsimp only); with_reducible exact HK4.out _ RX.out.1.bel) (fun hHeld => ?_)
      clear hK K
      try simp only [Act.put, List.getElem_toArray, List.getElem_cons_succ, List.getElem_cons_zero, List.setIfInBounds_toArray, List.set_cons_zero, List.set_cons_succ]
      exact K10.out g10 WX RX
    focus
      (go_simp; obtain ⟨WY, g14, hW, hg, hb, RY⟩ := RX.out.1.boxR nilV nilV nilV 28; rw [hW]; (try rw [hg]); replace RX := Lib.hid (And.intro RY (And.intro (True.intro) (True.intro))); clear RY hW hg hb; obtain ⟨WX, hW⟩ : ∃ W, W = WY := ⟨_, rfl⟩; rw [← hW] at RX ⊢; clear hW)
      refine hK.out _ _ (by (try dsimp only); with_reducible exact HK4.out _ RX.out.1.bel) (fun hHeld => ?_)
      clear hK K
      try simp only [Act.put, List.getElem_toArray, List.getElem_cons_succ, List.getElem_cons_zero, List.setIfInBounds_toArray, List.set_cons_zero, List.set_cons_succ]
      exact K14.out g14 WX RX
  focus
    intro g14 WX RX
    have hHeld : ((fun w' => (w'.cell? ⟨w.heap.size + 3, 0, none⟩ = some (.slice al m1 cl) ∧ w'.cell? ⟨w.heap.size + 3, 1, none⟩ = some (.slice ad m2 cd) ∧ w'.cell? ⟨w.heap.size + 3, 2, none⟩ = some (.slice ax m3 cx)) ∧ w'.cell? ⟨w.heap.size + 1, 0, none⟩ = some (.slice (some ⟨gh, oh, none⟩) n cp))) WX := by (try dsimp only); with_reducible exact HK4.out _ RX.out.1.bel
    refine wpAnyH_ready (rs := [3, 10]) (by kernel_rfl) (by simp) ?_
    refine AllReadyH.cons rfl (fun K hK => ?_) (AllReadyH.cons rfl (fun K hK => ?_) AllReadyH.nil)
    focus
      (go_simp; obtain ⟨WY, g3, hW, hg, hb, RY⟩ := lit_r WX b; rw [hW]; (try rw [hg]); replace RX := Lib.hid (And.intro (RX.out.1.step hb) (And.intro (RY) (True.intro))); clear RY hW hg hb; obtain ⟨WX, hW⟩ : ∃ W, W = WY := ⟨_, rfl⟩; rw [← hW] at RX ⊢; clear hW)
      refine hK.out _ _ (by (try dsimp only); with_reducible exact HK4.out _ RX.out.1.bel) (fun hHeld => ?_)
      clear hK K
      try simp only [Act.put, List.getElem_toArray, List.getElem_cons_succ, List.getElem_cons_zero, List.setIfInBounds_toArray, List.set_cons_zero, List.set_cons_succ]
      exact K3_14.out g3 g14 WX RX
    focus
      (go_simp; obtain ⟨WY, g10, hW, hg, hb, RY⟩ := lit_r WX (n : Int); rw [hW]; (try rw [hg]); replace RX := Lib.hid (And.intro (RX.out.1.step hb) (And.intro (True.intro) (RY))); clear RY hW hg hb; obtain ⟨WX, hW⟩ : ∃ W, W = WY := ⟨_, rfl⟩; rw [← hW] at RX ⊢; clear hW)
      refine hK.out _ _ (by (try dsimp only); with_reducible exact HK4.out _ RX.out.1.bel) (fun hHeld => ?_)
      clear hK K
      try simp only [Act.put, List.getElem_toArray, List.getElem_cons_succ, List.getElem_cons_zero, List.setIfInBounds_toArray, List.set_cons_zero, List.set_cons_succ]
      exact K10_14.out g10 g14 WX RX
  focus
    intro g10 WX RX
    have hHeld : ((fun w' => (w'.cell? ⟨w.heap.size + 3, 0, none⟩ = some (.slice al m1 cl) ∧ w'.cell? ⟨w.heap.size + 3, 1, none⟩ = some (.slice ad m2 cd) ∧ w'.cell? ⟨w.heap.size + 3, 2, none⟩ = some (.slice ax m3 cx)) ∧ w'.cell? ⟨w.heap.size + 1, 0, none⟩ = some (.slice (some ⟨gh, oh, none⟩) n cp))) WX := by (try dsimp only); with_reducible exact HK4.out _ RX.out.1.bel
    refine wpAnyH_ready (rs := [3, 11, 14]) (by kernel_rfl) (by simp) ?_
    refine AllReadyH.cons rfl (fun K hK => ?_) (AllReadyH.cons rfl (fun K hK => ?_) (AllReadyH.cons rfl (fun K hK => ?_) AllReadyH.nil))
    focus
      (go_simp; obtain ⟨WY, g3, hW, hg, hb, RY⟩ := lit_r WX b; rw [hW]; (try rw [hg]); replace RX := Lib.hid (And.intro (RX.out.1.step hb) (And.intro (RY) (RX.out.2.2.below hb))); clear RY hW hg hb; obtain ⟨WX, hW⟩ : ∃ W, W = WY := ⟨_, rfl⟩; rw [← hW] at RX ⊢; clear hW)
      refine hK.out _ _ (by (try dsimp only); with_reducible exact HK4.out _ RX.out.1.bel) (fun hHeld => ?_)
      clear hK K
      try simp only [Act.put, List.getElem_toArray, List.getElem_cons_succ, List.getElem_cons_zero, List.setIfInBounds_toArray, List.set_cons_zero, List.set_cons_succ]
      exact K3_10.out g3 g10 WX RX
    focus
      (go_simp; obtain ⟨WY, g11, hW, hg, hb, RY⟩ := list_r (HLW.out _ RX.out.1.bel).2 RX.out.2.2; rw [hW]; (try rw [hg]); replace RX := Lib.hid (And.intro (RX.out.1.step hb) (And.intro (True.intro) (RY))); clear RY hW hg hb; obtain ⟨WX, hW⟩ : ∃ W, W = WY := ⟨_, rfl⟩; rw [← hW] at RX ⊢; clear hW)
      refine hK.out _ _ (by (try dsimp only); with_reducible exact HK4.out _ RX.out.1.bel) (fun hHeld => ?_)
      clear hK K
      try simp only [Act.put, List.getElem_toArray, List.getElem_cons_succ, List.getElem_cons_zero, List.setIfInBounds_toArray, List.set_cons_zero, List.set_cons_succ]
      exact K10_11.out g10 g11 WX RX
    focus
      (go_simp; obtain ⟨WY, g14, hW, hg, hb, RY⟩ := RX.out.1.boxR nilV nilV nilV 28; rw [hW]; (try rw [hg]); replace RX := Lib.hid (And.intro RY (And.intro (True.intro) (RX.out.2.2.below hb))); clear RY hW hg hb; obtain ⟨WX, hW⟩ : ∃ W, W = WY := ⟨_, rfl⟩; rw [← hW] at RX ⊢; clear hW)
      refine hK.out _ _ (by (try dsimp only); with_reducible exact HK4.out _ RX.out.1.bel) (fun hHeld => ?_)
      clear hK K
      try simp only [Act.put, List.getElem_toArray, List.getElem_cons_succ, List.getElem_cons_zero, List.setIfInBounds_toArray, List.set_cons_zero, List.set_cons_succ]
      exact wpAnyH_listed (by kernel_rfl) (K10_14.out g10 g14 WX RX)
  focus
    intro g3 WX RX
    have hHeld : ((fun w' => (w'.cell? ⟨w.heap.size + 3, 0, none⟩ = some (.slice al m1 cl) ∧ w'.cell? ⟨w.heap.size + 3, 1, none⟩ = some (.slice ad m2 cd) ∧ w'.cell? ⟨w.heap.size + 3, 2, none⟩ = some (.slice ax m3 cx)) ∧ w'.cell? ⟨w.heap.size + 1, 0, none⟩ = some (.slice (some ⟨gh, oh, none⟩) n cp))) WX := by (try dsimp only); with_reducible exact HK4.out _ RX.out.1.bel
    refine wpAnyH_ready (rs := [4, 10, 14]) (by kernel_rfl) (by simp) ?_
    refine AllReadyH.cons rfl (fun K hK => ?_) (AllReadyH.cons rfl (fun K hK => ?_) (AllReadyH.cons rfl (fun K hK => ?_) AllReadyH.nil))
    focus
      (go_simp; obtain ⟨WY, g4, hW, hg, hb, RY⟩ := list_r (HLW.out _ RX.out.1.bel).1 RX.out.2.1; rw [hW]; (try rw [hg]); replace RX := Lib.hid (And.intro (RX.out.1.step hb) (And.intro (RY) (True.intro))); clear RY hW hg hb; obtain ⟨WX, hW⟩ : ∃ W, W = WY := ⟨_, rfl⟩; rw [← hW] at RX ⊢; clear hW)
      refine hK.out _ _ (by (try dsimp only); with_reducible exact HK4.out _ RX.out.1.bel) (fun hHeld => ?_)
      clear hK K
      try simp only [Act.put, List.getElem_toArray, List.getElem_cons_succ, List.getElem_cons_zero, List.setIfInBounds_toArray, List.set_cons_zero, List.set_cons_succ]
      exact K3_4.out g3 g4 WX RX
    focus
      (go_simp; obtain ⟨WY, g10, hW, hg, hb, RY⟩ := lit_r WX (n : Int); rw [hW]; (try rw [hg]); replace RX := Lib.hid (And.intro (RX.out.1.step hb) (And.intro (RX.out.2.1.below hb) (RY))); clear RY hW hg hb; obtain ⟨WX, hW⟩ : ∃ W, W = WY := ⟨_, rfl⟩; rw [← hW] at RX ⊢; clear hW)
      refine hK.out _ _ (by (try dsimp only); with_reducible exact HK4.out _ RX.out.1.bel) (fun hHeld => ?_)
      clear hK K
      try simp only [Act.put, List.getElem_toArray, List.getElem_cons_succ, List.getElem_cons_zero, List.setIfInBounds_toArray, List.set_cons_zero, List.set_cons_succ]
      exact wpAnyH_listed (by kernel_rfl) (K3_10.out g3 g10 WX RX)
    focus
      (go_simp; obtain ⟨WY, g14, hW, hg, hb, RY⟩ := RX.out.1.boxR nilV nilV nilV 28; rw [hW]; (try rw [hg]); replace RX := Lib.hid (And.intro RY (And.intro (RX.out.2.1.below hb) (True.intro))); clear RY hW hg hb; obtain ⟨WX, hW⟩ : ∃ W, W = WY := ⟨_, rfl⟩; rw [← hW] at RX ⊢; clear hW)
      refine hK.out _ _ (by (try dsimp only); with_reducible exact HK4.out _ RX.out.1.bel) (fun hHeld => ?_)
      clear hK K
      try simp only [Act.put, List.getElem_toArray, List.getElem_cons_succ, List.getElem_cons_zero, List.setIfInBounds_toArray, List.set_cons_zero, List.set_cons_succ]
      exact wpAnyH_listed (by kernel_rfl) (K3_14.out g3 g14 WX RX)
  focus
    intro g10 g14 WX RX
    have hHeld : ((fun w' => (w'.cell? ⟨w.heap.size + 3, 0, none⟩ = some (.slice al m1 cl) ∧ w'.cell? ⟨w.heap.size + 3, 1, none⟩ = some (.slice ad m2 cd) ∧ w'.cell? ⟨w.heap.size + 3, 2, none⟩ = some (.slice ax m3 cx)) ∧ w'.cell? ⟨w.heap.size + 1, 0, none⟩ = some (.slice (some ⟨gh, oh, none⟩) n cp))) WX := by (try dsimp only); with_reducible exact HK4.out _ RX.out.1.bel
    refine wpAnyH_ready (rs := [3, 11]) (by kernel_rfl) (by simp) ?_
    refine AllReadyH.cons rfl (fun K hK => ?_) (AllReadyH.cons rfl (fun K hK => ?_) AllReadyH.nil)
    focus
      (go_simp; obtain ⟨WY, g3, hW, hg, hb, RY⟩ := lit_r WX b; rw [hW]; (try rw [hg]); replace RX := Lib.hid (And.intro (RX.out.1.step hb) (And.intro (RY) (RX.out.2.2.below hb))); clear RY hW hg hb; obtain ⟨WX, hW⟩ : ∃ W, W = WY := ⟨_, rfl⟩; rw [← hW] at RX ⊢; clear hW)
      refine hK.out _ _ (by (try dsimp only); with_reducible exact HK4.out _ RX.out.1.bel) (fun hHeld => ?_)
      clear hK K
      try simp only [Act.put, List.getElem_toArray, List.getElem_cons_succ, List.getElem_cons_zero, List.setIfInBounds_toArray, List.set_cons_zero, List.set_cons_succ]
      exact K3_10_14.out g3 g10 g14 WX RX
    focus
      (go_simp; obtain ⟨WY, g11, hW, hg, hb, RY⟩ := list_r (HLW.out _ RX.out.1.bel).2 RX.out.2.2; rw [hW]; (try rw [hg]); replace RX := Lib.hid (And.intro (RX.out.1.step hb) (And.intro (True.intro) (RY))); clear RY hW hg hb; obtain ⟨WX, hW⟩ : ∃ W, W = WY := ⟨_, rfl⟩; rw [← hW] at RX ⊢; clear hW)
      refine hK.out _ _ (by (try dsimp only); with_reducible exact HK4.out _ RX.out.1.bel) (fun hHeld => ?_)
      clear hK K
      try simp only [Act.put, List.getElem_toArray, List.getElem_cons_succ, List.getElem_cons_zero, List.setIfInBounds_toArray, List.set_cons_zero, List.set_cons_succ]
      exact K10_11_14.out g10 g11 g14 WX RX
  focus
    intro g10 g11 WX RX
    have hHeld : ((fun w' => (w'.cell? ⟨w.heap.size + 3, 0, none⟩ = some (.slice al m1 cl) ∧ w'.cell? ⟨w.heap.size + 3, 1, none⟩ = some (.slice ad m2 cd) ∧ w'.cell? ⟨w.heap.size + 3, 2, none⟩ = some (.slice ax m3 cx)) ∧ w'.cell? ⟨w.heap.size + 1, 0, none⟩ = some (.slice (some ⟨gh, oh, none⟩) n cp))) WX := by (try dsimp only); with_reducible exact HK4.out _ RX.out.1.bel
    refine wpAnyH_ready (rs := [3, 14]) (by kernel_rfl) (by simp) ?_
    refine AllReadyH.cons rfl (fun K hK => ?_) (AllReadyH.cons rfl (fun K hK => ?_) AllReadyH.nil)
    focus
      (go_simp; obtain ⟨WY, g3, hW, hg, hb, RY⟩ := lit_r WX b; rw [hW]; (try rw [hg]); replace RX := Lib.hid (And.intro (RX.out.1.step hb) (And.intro (RY) (RX.out.2.2.below hb))); clear RY hW hg hb; obtain ⟨WX, hW⟩ : ∃ W, W = WY := ⟨_, rfl⟩; rw [← hW] at RX ⊢; clear hW)
      refine hK.out _ _ (by (try dsimp only); with_reducible exact HK4.out _ RX.out.1.bel) (fun hHeld => ?_)
      clear hK K
      try simp only [Act.put, List.getElem_toArray, List.getElem_cons_succ, List.getElem_cons_zero, List.setIfInBounds_toArray, List.set_cons_zero, List.set_cons_succ]
      exact K3_10_11.out g3 g10 g11 WX RX
    focus
      (go_simp; obtain ⟨WY, g14, hW, hg, hb, RY⟩ := RX.out.1.boxR nilV nilV nilV 28; rw [hW]; (try rw [hg]); replace RX := Lib.hid (And.intro RY (And.intro (True.intro) (RX.out.2.2.below hb))); clear RY hW hg hb; obtain ⟨WX, hW⟩ : ∃ W, W = WY := ⟨_, rfl⟩; rw [← hW] at RX ⊢; clear hW)
      refine hK.out _ _ (by (try dsimp only); with_reducible exact HK4.out _ RX.out.1.bel) (fun hHeld => ?_)
      clear hK K
      try simp only [Act.put, List.getElem_toArray, List.getElem_cons_succ, List.getElem_cons_zero, List.setIfInBounds_toArray, List.set_cons_zero, List.set_cons_succ]
      exact wpAnyH_listed (by kernel_rfl) (K10_11_14.out g10 g11 g14 WX RX)
  focus
    intro g3 g14 WX RX
    have hHeld : ((fun w' => (w'.cell? ⟨w.heap.size + 3, 0, none⟩ = some (.slice al m1 cl) ∧ w'.cell? ⟨w.heap.size + 3, 1, none⟩ = some (.slice ad m2 cd) ∧ w'.cell? ⟨w.heap.size + 3, 2, none⟩ = some (.slice ax m3 cx)) ∧ w'.cell? ⟨w.heap.size + 1, 0, none⟩ = some (.slice (some ⟨gh, oh, none⟩) n cp))) WX := by (try dsimp only); with_reducible exact HK4.out _ RX.out.1.bel
    refine wpAnyH_ready (rs := [4, 10]) (by kernel_rfl) (by simp) ?_
    refine AllReadyH.cons rfl (fun K hK => ?_) (AllReadyH.cons rfl (fun K hK => ?_) AllReadyH.nil)
    focus
      (go_simp; obtain ⟨WY, g4, hW, hg, hb, RY⟩ := list_r (HLW.out _ RX.out.1.bel).1 RX.out.2.1; rw [hW]; (try rw [hg]); replace RX := Lib.hid (And.intro (RX.out.1.step hb) (And.intro (RY) (True.intro))); clear RY hW hg hb; obtain ⟨WX, hW⟩ : ∃ W, W = WY := ⟨_, rfl⟩; rw [← hW] at RX ⊢; clear hW)
      refine hK.out _ _ (by (try dsimp only); with_reducible exact HK4.out _ RX.out.1.bel) (fun hHeld => ?_)
      clear hK K
      try simp only [Act.put, List.getElem_toArray, List.getElem_cons_succ, List.getElem_cons_zero, List.setIfInBounds_toArray, List.set_cons_zero, List.set_cons_succ]
      exact K3_4_14.out g3 g4 g14 WX RX
    focus
      (go_simp; obtain ⟨WY, g10, hW, hg, hb, RY⟩ := lit_r WX (n : Int); rw [hW]; (try rw [hg]); replace RX := Lib.hid (And.intro (RX.out.1.step hb) (And.intro (RX.out.2.1.below hb) (RY))); clear RY hW hg hb; obtain ⟨WX, hW⟩ : ∃ W, W = WY := ⟨_, rfl⟩; rw [← hW] at RX ⊢; clear hW)
      refine hK.out _ _ (by (try dsimp only); with_reducible exact HK4.out _ RX.out.1.bel) (fun hHeld => ?_)
      clear hK K
      try simp only [Act.put, List.getElem_toArray, List.getElem_cons_succ, List.getElem_cons_zero, List.setIfInBounds_toArray, List.set_cons_zero, List.set_cons_succ]
      exact wpAnyH_listed (by kernel_rfl) (K3_10_14.out g3 g10 g14 WX RX)
  focus
    intro g3 g10 WX RX
    have hHeld : ((fun w' => (w'.cell? ⟨w.heap.size + 3, 0, none⟩ = some (.slice al m1 cl) ∧ w'.cell? ⟨w.heap.size + 3, 1, none⟩ = some (.slice ad m2 cd) ∧ w'.cell? ⟨w.heap.size + 3, 2, none⟩ = some (.slice ax m3 cx)) ∧ w'.cell? ⟨w.heap.size + 1, 0, none⟩ = some (.slice (some ⟨gh, oh, none⟩) n cp))) WX := by (try dsimp only); with_reducible exact HK4.out _ RX.out.1.bel
    refine wpAnyH_ready (rs := [4, 11, 14]) (by kernel_rfl) (by simp) ?_
    refine AllReadyH.cons rfl (fun K hK => ?_) (AllReadyH.cons rfl (fun K hK => ?_) (AllReadyH.cons rfl (fun K hK => ?_) AllReadyH.nil))
    focus
      (go_simp; obtain ⟨WY, g4, hW, hg, hb, RY⟩ := list_r (HLW.out _ RX.out.1.bel).1 RX.out.2.1; rw [hW]; (try rw [hg]); replace RX := Lib.hid (And.intro (RX.out.1.step hb) (And.intro (RY) (RX.out.2.2.below hb))); clear RY hW hg hb; obtain ⟨WX, hW⟩ : ∃ W, W = WY := ⟨_, rfl⟩; rw [← hW] at RX ⊢; clear hW)
      refine hK.out _ _ (by (try dsimp only); with_reducible exact HK4.out _ RX.out.1.bel) (fun hHeld => ?_)
      clear hK K
      try simp only [Act.put, List.getElem_toArray, List.getElem_cons_succ, List.getElem_cons_zero, List.setIfInBounds_toArray, List.set_cons_zero, List.set_cons_succ]
      exact K3_4_10.out g3 g4 g10 WX RX
    focus
      (go_simp; obtain ⟨WY, g11, hW, hg, hb, RY⟩ := list_r (HLW.out _ RX.out.1.bel).2 RX.out.2.2; rw [hW]; (try rw [hg]); replace RX := Lib.hid (And.intro (RX.out.1.step hb) (And.intro (RX.out.2.1.below hb) (RY))); clear RY hW hg hb; obtain ⟨WX, hW⟩ : ∃ W, W = WY := ⟨_, rfl⟩; rw [← hW] at RX ⊢; clear hW)
      refine hK.out _ _ (by (try dsimp only); with_reducible exact HK4.out _ RX.out.1.bel) (fun hHeld => ?_)
      clear hK K
      try simp only [Act.put, List.getElem_toArray, List.getElem_cons_succ, List.getElem_cons_zero, List.setIfInBounds_toArray, List.set_cons_zero, List.set_cons_succ]
      exact wpAnyH_listed (by kernel_rfl) (K3_10_11.out g3 g10 g11 WX RX)
    focus
      (go_simp; obtain ⟨WY, g14, hW, hg, hb, RY⟩ := RX.out.1.boxR nilV nilV nilV 28; rw [hW]; (try rw [hg]); replace RX := Lib.hid (And.intro RY (And.intro (RX.out.2.1.below hb) (RX.out.2.2.below hb))); clear RY hW hg hb; obtain ⟨WX, hW⟩ : ∃ W, W = WY := ⟨_, rfl⟩; rw [← hW] at RX ⊢; clear hW)
      refine hK.out _ _ (by (try dsimp only); with_reducible exact HK4.out _ RX.out.1.bel) (fun hHeld => ?_)
      clear hK K
      try simp only [Act.put, List.getElem_toArray, List.getElem_cons_succ, List.getElem_cons_zero, List.setIfInBounds_toArray, List.set_cons_zero, List.set_cons_succ]
      exact wpAnyH_listed (by kernel_rfl) (K3_10_14.out g3 g10 g14 WX RX)
  focus
    intro g3 g4 WX RX
    have hHeld : ((fun w' => (w'.cell? ⟨w.heap.size + 3, 0, none⟩ = some (.slice al m1 cl) ∧ w'.cell? ⟨w.heap.size + 3, 1, none⟩ = some (.slice ad m2 cd) ∧ w'.cell? ⟨w.heap.size + 3, 2, none⟩ = some (.slice ax m3 cx)) ∧ w'.cell? ⟨w.heap.size + 1, 0, none⟩ = some (.slice (some ⟨gh, oh, none⟩) n cp))) WX := by (try dsimp only); with_reducible exact HK4.out _ RX.out.1.bel
    refine wpAnyH_ready (rs := [5, 10, 14]) (by kernel_rfl) (by simp) ?_
    refine AllReadyH.cons rfl (fun K hK => ?_) (AllReadyH.cons rfl (fun K hK => ?_) (AllReadyH.cons rfl (fun K hK => ?_) AllReadyH.nil))
    focus
      (go_simp; go_at_call 24; refine Calls.mono (concat_two (xs := L) (ys := [b]) (show RdRows WX.heap.size WX _ [L, [b]] from RX.out.2.1) (Nat.le_refl _) (by have := HML.out; simp; omega)) ?_; rintro e WY ⟨v, rfl, ho, hb⟩; obtain ⟨g5, c5, rfl, -⟩ := own_form (n := m1 + 1) ho (by rw [List.length_append, HML.out.1]; rfl) (by omega); replace RX := Lib.hid (And.intro (RX.out.1.new hb ho) (And.intro (True.intro) (True.intro))); clear hb ho; obtain ⟨WX, hW⟩ : ∃ W, W = WY := ⟨_, rfl⟩; rw [← hW] at RX ⊢; clear hW; change K _ _)
      refine hK.out _ _ (by (try dsimp only); with_reducible exact HK4.out _ RX.out.1.bel) (fun hHeld => ?_)
      clear hK K
      try simp only [Act.put, List.getElem_toArray, List.getElem_cons_succ, List.getElem_cons_zero, List.setIfInBounds_toArray, List.set_cons_zero, List.set_cons_succ]
      exact K3_4_5.out g3 g4 g5 c5 WX RX
    focus
      (go_simp; obtain ⟨WY, g10, hW, hg, hb, RY⟩ := lit_r WX (n : Int); rw [hW]; (try rw [hg]); replace RX := Lib.hid (And.intro (RX.out.1.step hb) (And.intro (RX.out.2.1.below hb) (RY))); clear RY hW hg hb; obtain ⟨WX, hW⟩ : ∃ W, W = WY := ⟨_, rfl⟩; rw [← hW] at RX ⊢; clear hW)
      refine hK.out _ _ (by (try dsimp only); with_reducible exact HK4.out _ RX.out.1.bel) (fun hHeld => ?_)
      clear hK K
      try simp only [Act.put, List.getElem_toArray, List.getElem_cons_succ, List.getElem_cons_zero, List.setIfInBounds_toArray, List.set_cons_zero, List.set_cons_succ]
      exact wpAnyH_listed (by kernel_rfl) (K3_4_10.out g3 g4 g10 WX RX)
    focus
      (go_simp; obtain ⟨WY, g14, hW, hg, hb, RY⟩ := RX.out.1.boxR nilV nilV nilV 28; rw [hW]; (try rw [hg]); replace RX := Lib.hid (And.intro RY (And.intro (RX.out.2.1.below hb) (True.intro))); clear RY hW hg hb; obtain ⟨WX, hW⟩ : ∃ W, W = WY := ⟨_, rfl⟩; rw [← hW] at RX ⊢; clear hW)
      refine hK.out _ _ (by (try dsimp only); with_reducible exact HK4.out _ RX.out.1.bel) (fun hHeld => ?_)
      clear hK K
      try simp only [Act.put, List.getElem_toArray, List.getElem_cons_succ, List.getElem_cons_zero, List.setIfInBounds_toArray, List.set_cons_zero, List.set_cons_succ]
      exact wpAnyH_listed (by kernel_rfl) (K3_4_14.out g3 g4 g14 WX RX)
  focus
    intro g10 g11 g14 WX RX
    have hHeld : ((fun w' => (w'.cell? ⟨w.heap.size + 3, 0, none⟩ = some (.slice al m1 cl) ∧ w'.cell? ⟨w.heap.size + 3, 1, none⟩ = some (.slice ad m2 cd) ∧ w'.cell? ⟨w.heap.size + 3, 2, none⟩ = some (.slice ax m3 cx)) ∧ w'.cell? ⟨w.heap.size + 1, 0, none⟩ = some (.slice (some ⟨gh, oh, none⟩) n cp))) WX := by (try dsimp only); with_reducible exact HK4.out _ RX.out.1.bel
    refine wpAnyH_ready (rs := [3]) (by kernel_rfl) (by simp) ?_
    refine AllReadyH.cons rfl (fun K hK => ?_) AllReadyH.nil
    focus
      (go_simp; obtain ⟨WY, g3, hW, hg, hb, RY⟩ := lit_r WX b; rw [hW]; (try rw [hg]); replace RX := Lib.hid (And.intro (RX.out.1.step hb) (And.intro (RY) (RX.out.2.2.below hb))); clear RY hW hg hb; obtain ⟨WX, hW⟩ : ∃ W, W = WY := ⟨_, rfl⟩; rw [← hW] at RX ⊢; clear hW)
      refine hK.out _ _ (by (try dsimp only); with_reducible exact HK4.out _ RX.out.1.bel) (fun hHeld => ?_)
      clear hK K
      try simp only [Act.put, List.getElem_toArray, List.getElem_cons_succ, List.getElem_cons_zero, List.setIfInBounds_toArray, List.set_cons_zero, List.set_cons_succ]
      exact K3_10_11_14.out g3 g10 g11 g14 WX RX
  focus
    intro g3 g10 g14 WX RX
    have hHeld : ((fun w' => (w'.cell? ⟨w.heap.size + 3, 0, none⟩ = some (.slice al m1 cl) ∧ w'.cell? ⟨w.heap.size + 3, 1, none⟩ = some (.slice ad m2 cd) ∧ w'.cell? ⟨w.heap.size + 3, 2, none⟩ = some (.slice ax m3 cx)) ∧ w'.cell? ⟨w.heap.size + 1, 0, none⟩ = some (.slice (some ⟨gh, oh, none⟩) n cp))) WX := by (try dsimp only); with_reducible exact HK4.out _ RX.out.1.bel
    refine wpAnyH_ready (rs := [4, 11]) (by kernel_rfl) (by simp) ?_
    refine AllReadyH.cons rfl (fun K hK => ?_) (AllReadyH.cons rfl (fun K hK => ?_) AllReadyH.nil)
    focus
      (go_simp; obtain ⟨WY, g4, hW, hg, hb, RY⟩ := list_r (HLW.out _ RX.out.1.bel).1 RX.out.2.1; rw [hW]; (try rw [hg]); replace RX := Lib.hid (And.intro (RX.out.1.step hb) (And.intro (RY) (RX.out.2.2.below hb))); clear RY hW hg hb; obtain ⟨WX, hW⟩ : ∃ W, W = WY := ⟨_, rfl⟩; rw [← hW] at RX ⊢; clear hW)
      refine hK.out _ _ (by (try dsimp only); with_reducible exact HK4.out _ RX.out.1.bel) (fun hHeld => ?_)
      clear hK K
      try simp only [Act.put, List.getElem_toArray, List.getElem_cons_succ, List.getElem_cons_zero, List.setIfInBounds_toArray, List.set_cons_zero, List.set_cons_succ]
      exact K3_4_10_14.out g3 g4 g10 g14 WX RX
    focus
      (go_simp; obtain ⟨WY, g11, hW, hg, hb, RY⟩ := list_r (HLW.out _ RX.out.1.bel).2 RX.out.2.2; rw [hW]; (try rw [hg]); replace RX := Lib.hid (And.intro (RX.out.1.step hb) (And.intro (RX.out.2.1.below hb) (RY))); clear RY hW hg hb; obtain ⟨WX, hW⟩ : ∃ W, W = WY := ⟨_, rfl⟩; rw [← hW] at RX ⊢; clear hW)
      refine hK.out _ _ (by (try dsimp only); with_reducible exact HK4.out _ RX.out.1.bel) (fun hHeld => ?_)
      clear hK K
      try simp only [Act.put, List.getElem_toArray, List.getElem_cons_succ, List.getElem_cons_zero, List.setIfInBounds_toArray, List.set_cons_zero, List.set_cons_succ]
      exact wpAnyH_listed (by kernel_rfl) (K3_10_11_14.out g3 g10 g11 g14 WX RX)
  focus
    intro g3 g10 g11 WX RX
    have hHeld : ((fun w' => (w'.cell? ⟨w.heap.size + 3, 0, none⟩ = some (.slice al m1 cl) ∧ w'.cell? ⟨w.heap.size + 3, 1, none⟩ = some (.slice ad m2 cd) ∧ w'.cell? ⟨w.heap.size + 3, 2, none⟩ = some (.slice ax m3 cx)) ∧ w'.cell? ⟨w.heap.size + 1, 0, none⟩ = some (.slice (some ⟨gh, oh, none⟩) n cp))) WX := by (try dsimp only); with_reducible exact HK4.out _ RX.out.1.bel
    refine wpAnyH_ready (rs := [4, 14]) (by kernel_rfl) (by simp) ?_
    refine AllReadyH.cons rfl (fun K hK => ?_) (AllReadyH.cons rfl (fun K hK => ?_) AllReadyH.nil)
    focus
      (go_simp; obtain ⟨WY, g4, hW, hg, hb, RY⟩ := list_r (HLW.out _ RX.out.1.bel).1 RX.out.2.1; rw [hW]; (try rw [hg]); replace RX := Lib.hid (And.intro (RX.out.1.step hb) (And.intro (RY) (RX.out.2.2.below hb))); clear RY hW hg hb; obtain ⟨WX, hW⟩ : ∃ W, W = WY := ⟨_, rfl⟩; rw [← hW] at RX ⊢; clear hW)
      refine hK.out _ _ (by (try dsimp only); with_reducible exact HK4.out _ RX.out.1.bel) (fun hHeld => ?_)
      clear hK K
      try simp only [Act.put, List.getElem_toArray, List.getElem_cons_succ, List.getElem_cons_zero, List.setIfInBounds_toArray, List.set_cons_zero, List.set_cons_succ]
      exact K3_4_10_11.out g3 g4 g10 g11 WX RX
    focus
      (go_simp; obtain ⟨WY, g14, hW, hg, hb, RY⟩ := RX.out.1.boxR nilV nilV nilV 28; rw [hW]; (try rw [hg]); replace RX := Lib.hid (And.intro RY (And.intro (RX.out.2.1.below hb) (RX.out.2.2.below hb))); clear RY hW hg hb; obtain ⟨WX, hW⟩ : ∃ W, W = WY := ⟨_, rfl⟩; rw [← hW] at RX ⊢; clear hW)
      refine hK.out _ _ (by (try dsimp only); with_reducible exact HK4.out _ RX.out.1.bel) (fun hHeld => ?_)
      clear hK K
      try simp only [Act.put, List.getElem_toArray, List.getElem_cons_succ, List.getElem_cons_zero, List.setIfInBounds_toArray, List.set_cons_zero, List.set_cons_succ]
      exact wpAnyH_listed (by kernel_rfl) (K3_10_11_14.out g3 g10 g11 g14 WX RX)
  focus
    intro g3 g4 g14 WX RX
    have hHeld : ((fun w' => (w'.cell? ⟨w.heap.size + 3, 0, none⟩ = some (.slice al m1 cl) ∧ w'.cell? ⟨w.heap.size + 3, 1, none⟩ = some (.slice ad m2 cd) ∧ w'.cell? ⟨w.heap.size + 3, 2, none⟩ = some (.slice ax m3 cx)) ∧ w'.cell? ⟨w.heap.size + 1, 0, none⟩ = some (.slice (some ⟨gh, oh, none⟩) n cp))) WX := by (try dsimp only); with_reducible exact HK4.out _ RX.out.1.bel
    refine wpAnyH_ready (rs := [5, 10]) (by kernel_rfl) (by simp) ?_
    refine AllReadyH.cons rfl (fun K hK => ?_) (AllReadyH.cons rfl (fun K hK => ?_) AllReadyH.nil)
    focus
      (go_simp; go_at_call 24; refine Calls.mono (concat_two (xs := L) (ys := [b]) (show RdRows WX.heap.size WX _ [L, [b]] from RX.out.2.1) (Nat.le_refl _) (by have := HML.out; simp; omega)) ?_; rintro e WY ⟨v, rfl, ho, hb⟩; obtain ⟨g5, c5, rfl, -⟩ := own_form (n := m1 + 1) ho (by rw [List.length_append, HML.out.1]; rfl) (by omega); replace RX := Lib.hid (And.intro (RX.out.1.new hb ho) (And.intro (True.intro) (True.intro))); clear hb ho; obtain ⟨WX, hW⟩ : ∃ W, W = WY := ⟨_, rfl⟩; rw [← hW] at RX ⊢; clear hW; change K _ _)
      refine hK.out _ _ (by (try dsimp only); with_reducible exact HK4.out _ RX.out.1.bel) (fun hHeld => ?_)
      clear hK K
      try simp only [Act.put, List.getElem_toArray, List.getElem_cons_succ, List.getElem_cons_zero, List.setIfInBounds_toArray, List.set_cons_zero, List.set_cons_succ]
      exact K3_4_5_14.out g3 g4 g5 c5 g14 WX RX
    focus
      (go_simp; obtain ⟨WY, g10, hW, hg, hb, RY⟩ := lit_r WX (n : Int); rw [hW]; (try rw [hg]); replace RX := Lib.hid (And.intro (RX.out.1.step hb) (And.intro (RX.out.2.1.below hb) (RY))); clear RY hW hg hb; obtain ⟨WX, hW⟩ : ∃ W, W = WY := ⟨_, rfl⟩; rw [← hW] at RX ⊢; clear hW)
      refine hK.out _ _ (by (try dsimp only); with_reducible exact HK4.out _ RX.out.1.bel) (fun hHeld => ?_)
      clear hK K
      try simp only [Act.put, List.getElem_toArray, List.getElem_cons_succ, List.getElem_cons_zero, List.setIfInBounds_toArray, List.set_cons_zero, List.set_cons_succ]
      exact wpAnyH_listed (by kernel_rfl) (K3_4_10_14.out g3 g4 g10 g14 WX RX)
  focus
    intro g3 g4 g10 WX RX
    have hHeld : ((fun w' => (w'.cell? ⟨w.heap.size + 3, 0, none⟩ = some (.slice al m1 cl) ∧ w'.cell? ⟨w.heap.size + 3, 1, none⟩ = some (.slice ad m2 cd) ∧ w'.cell? ⟨w.heap.size + 3, 2, none⟩ = some (.slice ax m3 cx)) ∧ w'.cell? ⟨w.heap.size + 1, 0, none⟩ = some (.slice (some ⟨gh, oh, none⟩) n cp))) WX := by (try dsimp only); with_reducible exact HK4.out _ RX.out.1.bel
    refine wpAnyH_ready (rs := [5, 11, 14]) (by kernel_rfl) (by simp) ?_
    refine AllReadyH.cons rfl (fun K hK => ?_) (AllReadyH.cons rfl (fun K hK => ?_) (AllReadyH.cons rfl (fun K hK => ?_) AllReadyH.nil))
    focus
      (go_simp; go_at_call 24; refine Calls.mono (concat_two (xs := L) (ys := [b]) (show RdRows WX.heap.size WX _ [L, [b]] from RX.out.2.1) (Nat.le_refl _) (by have := HML.out; simp; omega)) ?_; rintro e WY ⟨v, rfl, ho, hb⟩; obtain ⟨g5, c5, rfl, -⟩ := own_form (n := m1 + 1) ho (by rw [List.length_append, HML.out.1]; rfl) (by omega); replace RX := Lib.hid (And.intro (RX.out.1.new hb ho) (And.intro (True.intro) (RX.out.2.2.below hb))); clear hb ho; obtain ⟨WX, hW⟩ : ∃ W, W = WY := ⟨_, rfl⟩; rw [← hW] at RX ⊢; clear hW; change K _ _)
      refine hK.out _ _ (by (try dsimp only); with_reducible exact HK4.out _ RX.out.1.bel) (fun hHeld => ?_)
      clear hK K
      try simp only [Act.put, List.getElem_toArray, List.getElem_cons_succ, List.getElem_cons_zero, List.setIfInBounds_toArray, List.set_cons_zero, List.set_cons_succ]
      exact K3_4_5_10.out g3 g4 g5 c5 g10 WX RX
    focus
      (go_simp; obtain ⟨WY, g11, hW, hg, hb, RY⟩ := list_r (HLW.out _ RX.out.1.bel).2 RX.out.2.2; rw [hW]; (try rw [hg]); replace RX := Lib.hid (And.intro (RX.out.1.step hb) (And.intro (RX.out.2.1.below hb) (RY))); clear RY hW hg hb; obtain ⟨WX, hW⟩ : ∃ W, W = WY := ⟨_, rfl⟩; rw [← hW] at RX ⊢; clear hW)
      refine hK.out _ _ (by (try dsimp only); with_reducible exact HK4.out _ RX.out.1.bel) (fun hHeld => ?_)
      clear hK K
      try simp only [Act.put, List.getElem_toArray, List.getElem_cons_succ, List.getElem_cons_zero, List.setIfInBounds_toArray, List.set_cons_zero, List.set_cons_succ]
      exact wpAnyH_listed (by kernel_rfl) (K3_4_10_11.out g3 g4 g10 g11 WX RX)
    focus
      (go_simp; obtain ⟨WY, g14, hW, hg, hb, RY⟩ := RX.out.1.boxR nilV nilV nilV 28; rw [hW]; (try rw [hg]); replace RX := Lib.hid (And.intro RY (And.intro (RX.out.2.1.below hb) (RX.out.2.2.below hb))); clear RY hW hg hb; obtain ⟨WX, hW⟩ : ∃ W, W = WY := ⟨_, rfl⟩; rw [← hW] at RX ⊢; clear hW)
      refine hK.out _ _ (by (try dsimp only); with_reducible exact HK4.out _ RX.out.1.bel) (fun hHeld => ?_)
      clear hK K
      try simp only [Act.put, List.getElem_toArray, List.getElem_cons_succ, List.getElem_cons_zero, List.setIfInBounds_toArray, List.set_cons_zero, List.set_cons_succ]
      exact wpAnyH_listed (by kernel_rfl) (K3_4_10_14.out g3 g4 g10 g14 WX RX)
  focus
    intro g3 g4 g5 c5 WX RX
    have hHeld : ((fun w' => (w'.cell? ⟨w.heap.size + 3, 0, none⟩ = some (.slice al m1 cl) ∧ w'.cell? ⟨w.heap.size + 3, 1, none⟩ = some (.slice ad m2 cd) ∧ w'.cell? ⟨w.heap.size + 3, 2, none⟩ = some (.slice ax m3 cx)) ∧ w'.cell? ⟨w.heap.size + 1, 0, none⟩ = some (.slice (some ⟨gh, oh, none⟩) n cp))) WX := by (try dsimp only); with_reducible exact HK4.out _ RX.out.1.bel
    refine wpAnyH_ready (rs := [10, 14]) (by kernel_rfl) (by simp) ?_
    refine AllReadyH.cons rfl (fun K hK => ?_) (AllReadyH.cons rfl (fun K hK => ?_) AllReadyH.nil)
    focus
      (go_simp; obtain ⟨WY, g10, hW, hg, hb, RY⟩ := lit_r WX (n : Int); rw [hW]; (try rw [hg]); replace RX := Lib.hid (And.intro (RX.out.1.step hb) (And.intro (True.intro) (RY))); clear RY hW hg hb; obtain ⟨WX, hW⟩ : ∃ W, W = WY := ⟨_, rfl⟩; rw [← hW] at RX ⊢; clear hW)
      refine hK.out _ _ (by (try dsimp only); with_reducible exact HK4.out _ RX.out.1.bel) (fun hHeld => ?_)
      clear hK K
      try simp only [Act.put, List.getElem_toArray, List.getElem_cons_succ, List.getElem_cons_zero, List.setIfInBounds_toArray, List.set_cons_zero, List.set_cons_succ]
      exact wpAnyH_listed (by kernel_rfl) (K3_4_5_10.out g3 g4 g5 c5 g10 WX RX)
    focus
      (go_simp; obtain ⟨WY, g14, hW, hg, hb, RY⟩ := RX.out.1.boxR nilV nilV nilV 28; rw [hW]; (try rw [hg]); replace RX := Lib.hid (And.intro RY (And.intro (True.intro) (True.intro))); clear RY hW hg hb; obtain ⟨WX, hW⟩ : ∃ W, W = WY := ⟨_, rfl⟩; rw [← hW] at RX ⊢; clear hW)
      refine hK.out _ _ (by (try dsimp only); with_reducible exact HK4.out _ RX.out.1.bel) (fun hHeld => ?_)
      clear hK K
      try simp only [Act.put, List.getElem_toArray, List.getElem_cons_succ, List.getElem_cons_zero, List.setIfInBounds_toArray, List.set_cons_zero, List.set_cons_succ]
      exact wpAnyH_listed (by kernel_rfl) (K3_4_5_14.out g3 g4 g5 c5 g14 WX RX)
  focus
    intro g3 g10 g11 g14 WX RX
    have hHeld : ((fun w' => (w'.cell? ⟨w.heap.size + 3, 0, none⟩ = some (.slice al m1 cl) ∧ w'.cell? ⟨w.heap.size + 3, 1, none⟩ = some (.slice ad m2 cd) ∧ w'.cell? ⟨w.heap.size + 3, 2, none⟩ = some (.slice ax m3 cx)) ∧ w'.cell? ⟨w.heap.size + 1, 0, none⟩ = some (.slice (some ⟨gh, oh, none⟩) n cp))) WX := by (try dsimp only); with_reducible exact HK4.out _ RX.out.1.bel
    refine wpAnyH_ready (rs := [4]) (by kernel_rfl) (by simp) ?_
    refine AllReadyH.cons rfl (fun K hK => ?_) AllReadyH.nil
    focus
      (go_simp; obtain ⟨WY, g4, hW, hg, hb, RY⟩ := list_r (HLW.out _ RX.out.1.bel).1 RX.out.2.1; rw [hW]; (try rw [hg]); replace RX := Lib.hid (And.intro (RX.out.1.step hb) (And.intro (RY) (RX.out.2.2.below hb))); clear RY hW hg hb; obtain ⟨WX, hW⟩ : ∃ W, W = WY := ⟨_, rfl⟩; rw [← hW] at RX ⊢; clear hW)
      refine hK.out _ _ (by (try dsimp only); with_reducible exact HK4.out _ RX.out.1.bel) (fun hHeld => ?_)
      clear hK K
      try simp only [Act.put, List.getElem_toArray, List.getElem_cons_succ, List.getElem_cons_zero, List.setIfInBounds_toArray, List.set_cons_zero, List.set_cons_succ]
      exact K3_4_10_11_14.out g3 g4 g10 g11 g14 WX RX
  focus
    intro g3 g4 g10 g14 WX RX
    have hHeld : ((fun w' => (w'.cell? ⟨w.heap.size + 3, 0, none⟩ = some (.slice al m1 cl) ∧ w'.cell? ⟨w.heap.size + 3, 1, none⟩ = some (.slice ad m2 cd) ∧ w'.cell? ⟨w.heap.size + 3, 2, none⟩ = some (.slice ax m3 cx)) ∧ w'.cell? ⟨w.heap.size + 1, 0, none⟩ = some (.slice (some ⟨gh, oh, none⟩) n cp))) WX := by (try dsimp only); with_reducible exact HK4.out _ RX.out.1.bel
    refine wpAnyH_ready (rs := [5, 11]) (by kernel_rfl) (by simp) ?_
    refine AllReadyH.cons rfl (fun K hK => ?_) (AllReadyH.cons rfl (fun K hK => ?_) AllReadyH.nil)
    focus
      (go_simp; go_at_call 24; refine Calls.mono (concat_two (xs := L) (ys := [b]) (show RdRows WX.heap.size WX _ [L, [b]] from RX.out.2.1) (Nat.le_refl _) (by have := HML.out; simp; omega)) ?_; rintro e WY ⟨v, rfl, ho, hb⟩; obtain ⟨g5, c5, rfl, -⟩ := own_form (n := m1 + 1) ho (by rw [List.length_append, HML.out.1]; rfl) (by omega); replace RX := Lib.hid (And.intro (RX.out.1.new hb ho) (And.intro (True.intro) (RX.out.2.2.below hb))); clear hb ho; obtain ⟨WX, hW⟩ : ∃ W, W = WY := ⟨_, rfl⟩; rw [← hW] at RX ⊢; clear hW; change K _ _)
      refine hK.out _ _ (by (try dsimp only); with_reducible exact HK4.out _ RX.out.1.bel) (fun hHeld => ?_)
      clear hK K
      try simp only [Act.put, List.getElem_toArray, List.getElem_cons_succ, List.getElem_cons_zero, List.setIfInBounds_toArray, List.set_cons_zero, List.set_cons_succ]
      exact K3_4_5_10_14.out g3 g4 g5 c5 g10 g14 WX RX
    focus
      (go_simp; obtain ⟨WY, g11, hW, hg, hb, RY⟩ := list_r (HLW.out _ RX.out.1.bel).2 RX.out.2.2; rw [hW]; (try rw [hg]); replace RX := Lib.hid (And.intro (RX.out.1.step hb) (And.intro (RX.out.2.1.below hb) (RY))); clear RY hW hg hb; obtain ⟨WX, hW⟩ : ∃ W, W = WY := ⟨_, rfl⟩; rw [← hW] at RX ⊢; clear hW)
      refine hK.out _ _ (by (try dsimp only); with_reducible exact HK4.out _ RX.out.1.bel) (fun hHeld => ?_)
      clear hK K
      try simp only [Act.put, List.getElem_toArray, List.getElem_cons_succ, List.getElem_cons_zero, List.setIfInBounds_toArray, List.set_cons_zero, List.set_cons_succ]
      exact wpAnyH_listed (by kernel_rfl) (K3_4_10_11_14.out g3 g4 g10 g11 g14 WX RX)
  focus
    intro g3 g4 g10 g11 WX RX
    have hHeld : ((fun w' => (w'.cell? ⟨w.heap.size + 3, 0, none⟩ = some (.slice al m1 cl) ∧ w'.cell? ⟨w.heap.size + 3, 1, none⟩ = some (.slice ad m2 cd) ∧ w'.cell? ⟨w.heap.size + 3, 2, none⟩ = some (.slice ax m3 cx)) ∧ w'.cell? ⟨w.heap.size + 1, 0, none⟩ = some (.slice (some ⟨gh, oh, none⟩) n cp))) WX := by (try dsimp only); with_reducible exact HK4.out _ RX.out.1.bel
    refine wpAnyH_ready (rs := [5, 14]) (by kernel_rfl) (by simp) ?_
    refine AllReadyH.cons rfl (fun K hK => ?_) (AllReadyH.cons rfl (fun K hK => ?_) AllReadyH.nil)
    focus
      (go_simp; go_at_call 24; refine Calls.mono (concat_two (xs := L) (ys := [b]) (show RdRows WX.heap.size WX _ [L, [b]] from RX.out.2.1) (Nat.le_refl _) (by have := HML.out; simp; omega)) ?_; rintro e WY ⟨v, rfl, ho, hb⟩; obtain ⟨g5, c5, rfl, -⟩ := own_form (n := m1 + 1) ho (by rw [List.length_append, HML.out.1]; rfl) (by omega); replace RX := Lib.hid (And.intro (RX.out.1.new hb ho) (And.intro (True.intro) (RX.out.2.2.below hb))); clear hb ho; obtain ⟨WX, hW⟩ : ∃ W, W = WY := ⟨_, rfl⟩; rw [← hW] at RX ⊢; clear hW; change K _ _)
      refine hK.out _ _ (by (try dsimp only); with_reducible exact HK4.out _ RX.out.1.bel) (fun hHeld => ?_)
      clear hK K
      try simp only [Act.put, List.getElem_toArray, List.getElem_cons_succ, List.getElem_cons_zero, List.setIfInBounds_toArray, List.set_cons_zero, List.set_cons_succ]
      exact K3_4_5_10_11.out g3 g4 g5 c5 g10 g11 WX RX
    focus
      (go_simp; obtain ⟨WY, g14, hW, hg, hb, RY⟩ := RX.out.1.boxR nilV nilV nilV 28; rw [hW]; (try rw [hg]); replace RX := Lib.hid (And.intro RY (And.intro (RX.out.2.1.below hb) (RX.out.2.2.below hb))); clear RY hW hg hb; obtain ⟨WX, hW⟩ : ∃ W, W = WY := ⟨_, rfl⟩; rw [← hW] at RX ⊢; clear hW)
      refine hK.out _ _ (by (try dsimp only); with_reducible exact HK4.out _ RX.out.1.bel) (fun hHeld => ?_)
      clear hK K
      try simp only [Act.put, List.getElem_toArray, List.getElem_cons_succ, List.getElem_cons_zero, List.setIfInBounds_toArray, List.set_cons_zero, List.set_cons_succ]
      exact wpAnyH_listed (by kernel_rfl) (K3_4_10_11_14.out g3 g4 g10 g11 g14 WX RX)
  focus
    intro g3 g4 g5 c5 g14 WX RX
    have hHeld : ((fun w' => (w'.cell? ⟨w.heap.size + 3, 0, none⟩ = some (.slice al m1 cl) ∧ w'.cell? ⟨w.heap.size + 3, 1, none⟩ = some (.slice ad m2 cd) ∧ w'.cell? ⟨w.heap.size + 3, 2, none⟩ = some (.slice ax m3 cx)) ∧ w'.cell? ⟨w.heap.size + 1, 0, none⟩ = some (.slice (some ⟨gh, oh, none⟩) n cp))) WX := by (try dsimp only); with_reducible exact HK4.out _ RX.out.1.bel
    refine wpAnyH_ready (rs := [10]) (by kernel_rfl) (by simp) ?_
    refine AllReadyH.cons rfl (fun K hK => ?_) AllReadyH.nil
    focus
      (go_simp; obtain ⟨WY, g10, hW, hg, hb, RY⟩ := lit_r WX (n : Int); rw [hW]; (try rw [hg]); replace RX := Lib.hid (And.intro (RX.out.1.step hb) (And.intro (True.intro) (RY))); clear RY hW hg hb; obtain ⟨WX, hW⟩ : ∃ W, W = WY := ⟨_, rfl⟩; rw [← hW] at RX ⊢; clear hW)
      refine hK.out _ _ (by (try dsimp only); with_reducible exact HK4.out _ RX.out.1.bel) (fun hHeld => ?_)
      clear hK K
      try simp only [Act.put, List.getElem_toArray, List.getElem_cons_succ, List.getElem_cons_zero, List.setIfInBounds_toArray, List.set_cons_zero, List.set_cons_succ]
      exact wpAnyH_listed (by kernel_rfl) (K3_4_5_10_14.out g3 g4 g5 c5 g10 g14 WX RX)
  focus
    intro g3 g4 g5 c5 g10 WX RX
    have hHeld : ((fun w' => (w'.cell? ⟨w.heap.size + 3, 0, none⟩ = some (.slice al m1 cl) ∧ w'.cell? ⟨w.heap.size + 3, 1, none⟩ = some (.slice ad m2 cd) ∧ w'.cell? ⟨w.heap.size + 3, 2, none⟩ = some (.slice ax m3 cx)) ∧ w'.cell? ⟨w.heap.size + 1, 0, none⟩ = some (.slice (some ⟨gh, oh, none⟩) n cp))) WX := by (try dsimp only); with_reducible exact HK4.out _ RX.out.1.bel
    refine wpAnyH_ready (rs := [11, 14]) (by kernel_rfl) (by simp) ?_
    refine AllReadyH.cons rfl (fun K hK => ?_) (AllReadyH.cons rfl (fun K hK => ?_) AllReadyH.nil)
    focus
      (go_simp; obtain ⟨WY, g11, hW, hg, hb, RY⟩ := list_r (HLW.out _ RX.out.1.bel).2 RX.out.2.2; rw [hW]; (try rw [hg]); replace RX := Lib.hid (And.intro (RX.out.1.step hb) (And.intro (True.intro) (RY))); clear RY hW hg hb; obtain ⟨WX, hW⟩ : ∃ W, W = WY := ⟨_, rfl⟩; rw [← hW] at RX ⊢; clear hW)
      refine hK.out _ _ (by (try dsimp only); with_reducible exact HK4.out _ RX.out.1.bel) (fun hHeld => ?_)
      clear hK K
      try simp only [Act.put, List.getElem_toArray, List.getElem_cons_succ, List.getElem_cons_zero, List.setIfInBounds_toArray, List.set_cons_zero, List.set_cons_succ]
      exact wpAnyH_listed (by kernel_rfl) (K3_4_5_10_11.out g3 g4 g5 c5 g10 g11 WX RX)
    focus
      (go_simp; obtain ⟨WY, g14, hW, hg, hb, RY⟩ := RX.out.1.boxR nilV nilV nilV 28; rw [hW]; (try rw [hg]); replace RX := Lib.hid (And.intro RY (And.intro (True.intro) (RX.out.2.2.below hb))); clear RY hW hg hb; obtain ⟨WX, hW⟩ : ∃ W, W = WY := ⟨_, rfl⟩; rw [← hW] at RX ⊢; clear hW)
      refine hK.out _ _ (by (try dsimp only); with_reducible exact HK4.out _ RX.out.1.bel) (fun hHeld => ?_)
      clear hK K
      try simp only [Act.put, List.getElem_toArray, List.getElem_cons_succ, List.getElem_cons_zero, List.setIfInBounds_toArray, List.set_cons_zero, List.set_cons_succ]
      exact wpAnyH_listed (by kernel_rfl) (K3_4_5_10_14.out g3 g4 g5 c5 g10 g14 WX RX)
  focus
    intro g3 g4 g10 g11 g14 WX RX
    have hHeld : ((fun w' => (w'.cell? ⟨w.heap.size + 3, 0, none⟩ = some (.slice al m1 cl) ∧ w'.cell? ⟨w.heap.size + 3, 1, none⟩ = some (.slice ad m2 cd) ∧ w'.cell? ⟨w.heap.size + 3, 2, none⟩ = some (.slice ax m3 cx)) ∧ w'.cell? ⟨w.heap.size + 1, 0, none⟩ = some (.slice (some ⟨gh, oh, none⟩) n cp))) WX := by (try dsimp only); with_reducible exact HK4.out _ RX.out.1.bel
    refine wpAnyH_ready (rs := [5]) (by kernel_rfl) (by simp) ?_
    refine AllReadyH.cons rfl (fun K hK => ?_) AllReadyH.nil
    focus
      (go_simp; go_at_call 24; refine Calls.mono (concat_two (xs := L) (ys := [b]) (show RdRows WX.heap.size WX _ [L, [b]] from RX.out.2.1) (Nat.le_refl _) (by have := HML.out; simp; omega)) ?_; rintro e WY ⟨v, rfl, ho, hb⟩; obtain ⟨g5, c5, rfl, -⟩ := own_form (n := m1 + 1) ho (by rw [List.length_append, HML.out.1]; rfl) (by omega); replace RX := Lib.hid (And.intro (RX.out.1.new hb ho) (And.intro (True.intro) (RX.out.2.2.below hb))); clear hb ho; obtain ⟨WX, hW⟩ : ∃ W, W = WY := ⟨_, rfl⟩; rw [← hW] at RX ⊢; clear hW; change K _ _)
      refine hK.out _ _ (by (try dsimp only); with_reducible exact HK4.out _ RX.out.1.bel) (fun hHeld => ?_)
      clear hK K
      try simp only [Act.put, List.getElem_toArray, List.getElem_cons_succ, List.getElem_cons_zero, List.setIfInBounds_toArray, List.set_cons_zero, List.set_cons_succ]
      exact K3_4_5_10_11_14.out g3 g4 g5 c5 g10 g11 g14 WX RX
  focus
    intro g3 g4 g5 c5 g10 g14 WX RX
    have hHeld : ((fun w' => (w'.cell? ⟨w.heap.size + 3, 0, none⟩ = some (.slice al m1 cl) ∧ w'.cell? ⟨w.heap.size + 3, 1, none⟩ = some (.slice ad m2 cd) ∧ w'.cell? ⟨w.heap.size + 3, 2, none⟩ = some (.slice ax m3 cx)) ∧ w'.cell? ⟨w.heap.size + 1, 0, none⟩ = some (.slice (some ⟨gh, oh, none⟩) n cp))) WX := by (try dsimp only); with_reducible exact HK4.out _ RX.out.1.bel
    refine wpAnyH_ready (rs := [11]) (by kernel_rfl) (by simp) ?_
    refine AllReadyH.cons rfl (fun K hK => ?_) AllReadyH.nil
    focus
      (go_simp; obtain ⟨WY, g11, hW, hg, hb, RY⟩ := list_r (HLW.out _ RX.out.1.bel).2 RX.out.2.2; rw [hW]; (try rw [hg]); replace RX := Lib.hid (And.intro (RX.out.1.step hb) (And.intro (True.intro) (RY))); clear RY hW hg hb; obtain ⟨WX, hW⟩ : ∃ W, W = WY := ⟨_, rfl⟩; rw [← hW] at RX ⊢; clear hW)
      refine hK.out _ _ (by (try dsimp only); with_reducible exact HK4.out _ RX.out.1.bel) (fun hHeld => ?_)
      clear hK K
      try simp only [Act.put, List.getElem_toArray, List.getElem_cons_succ, List.getElem_cons_zero, List.setIfInBounds_toArray, List.set_cons_zero, List.set_cons_succ]
      exact wpAnyH_listed (by kernel_rfl) (K3_4_5_10_11_14.out g3 g4 g5 c5 g10 g11 g14 WX RX)
  focus
    intro g3 g4 g5 c5 g10 g11 WX RX
    have hHeld : ((fun w' => (w'.cell? ⟨w.heap.size + 3, 0, none⟩ = some (.slice al m1 cl) ∧ w'.cell? ⟨w.heap.size + 3, 1, none⟩ = some (.slice ad m2 cd) ∧ w'.cell? ⟨w.heap.size + 3, 2, none⟩ = some (.slice ax m3 cx)) ∧ w'.cell? ⟨w.heap.size + 1, 0, none⟩ = some (.slice (some ⟨gh, oh, none⟩) n cp))) WX := by (try dsimp only); with_reducible exact HK4.out _ RX.out.1.bel
    refine wpAnyH_ready (rs := [12, 14]) (by kernel_rfl) (by simp) ?_
    refine AllReadyH.cons rfl (fun K hK => ?_) (AllReadyH.cons rfl (fun K hK => ?_) AllReadyH.nil)
    focus
      (go_simp; go_at_call 24; refine Calls.mono (concat_two (xs := D) (ys := [(n : Int)]) (show RdRows WX.heap.size WX _ [D, [(n : Int)]] from RX.out.2.2) (Nat.le_refl _) (by have := HML.out; simp; omega)) ?_; rintro e WY ⟨v, rfl, ho, hb⟩; obtain ⟨g12, c12, rfl, -⟩ := own_form (n := m2 + 1) ho (by rw [List.length_append, HML.out.2.1]; rfl) (by omega); replace RX := Lib.hid (And.intro (RX.out.1.new hb ho).swap (And.intro (True.intro) (True.intro))); clear hb ho; obtain ⟨WX, hW⟩ : ∃ W, W = WY := ⟨_, rfl⟩; rw [← hW] at RX ⊢; clear hW; change K _ _)
      refine hK.out _ _ (by (try dsimp only); with_reducible exact HK4.out _ RX.out.1.bel) (fun hHeld => ?_)
      clear hK K
      try simp only [Act.put, List.getElem_toArray, List.getElem_cons_succ, List.getElem_cons_zero, List.setIfInBounds_toArray, List.set_cons_zero, List.set_cons_succ]
      refine wpAnyH_take (i := 13) (v := ?_) rfl (by kernel_rfl) (by kernel_rfl) (by kernel_rfl) (fun _ _ _ h => h) (Or.inl ⟨by rfl, ?_⟩) (by assumption) ?_
      rotate_left
      · intro w hSw; (try dsimp only at hSw); go_simp <;> with_reducible rfl
      try simp only [Act.put, List.getElem_toArray, List.getElem_cons_succ, List.getElem_cons_zero, List.setIfInBounds_toArray, List.set_cons_zero, List.set_cons_succ]
      exact K3_4_5_10_11_12.out g3 g4 g5 c5 g10 g11 g12 c12 WX RX
    focus
      (go_simp; obtain ⟨WY, g14, hW, hg, hb, RY⟩ := RX.out.1.boxR nilV nilV nilV 28; rw [hW]; (try rw [hg]); replace RX := Lib.hid (And.intro RY (And.intro (True.intro) (RX.out.2.2.below hb))); clear RY hW hg hb; obtain ⟨WX, hW⟩ : ∃ W, W = WY := ⟨_, rfl⟩; rw [← hW] at RX ⊢; clear hW)
      refine hK.out _ _ (by (try dsimp only); with_reducible exact HK4.out _ RX.out.1.bel) (fun hHeld => ?_)
      clear hK K
      try simp only [Act.put, List.getElem_toArray, List.getElem_cons_succ, List.getElem_cons_zero, List.setIfInBounds_toArray, List.set_cons_zero, List.set_cons_succ]
      exact wpAnyH_listed (by kernel_rfl) (K3_4_5_10_11_14.out g3 g4 g5 c5 g10 g11 g14 WX RX)
  focus
    intro g3 g4 g5 c5 g10 g11 g14 WX RX
    have hHeld : ((fun w' => (w'.cell? ⟨w.heap.size + 3, 0, none⟩ = some (.slice al m1 cl) ∧ w'.cell? ⟨w.heap.size + 3, 1, none⟩ = some (.slice ad m2 cd) ∧ w'.cell? ⟨w.heap.size + 3, 2, none⟩ = some (.slice ax m3 cx)) ∧ w'.cell? ⟨w.heap.size + 1, 0, none⟩ = some (.slice (some ⟨gh, oh, none⟩) n cp))) WX := by (try dsimp only); with_reducible exact HK4.out _ RX.out.1.bel
    refine wpAnyH_ready (rs := [12]) (by kernel_rfl) (by simp) ?_
    refine AllReadyH.cons rfl (fun K hK => ?_) AllReadyH.nil
    focus
      (go_simp; go_at_call 24; refine Calls.mono (concat_two (xs := D) (ys := [(n : Int)]) (show RdRows WX.heap.size WX _ [D, [(n : Int)]] from RX.out.2.2) (Nat.le_refl _) (by have := HML.out; simp; omega)) ?_; rintro e WY ⟨v, rfl, ho, hb⟩; obtain ⟨g12, c12, rfl, -⟩ := own_form (n := m2 + 1) ho (by rw [List.length_append, HML.out.2.1]; rfl) (by omega); replace RX := Lib.hid (And.intro (RX.out.1.new hb ho).swap (And.intro (True.intro) (True.intro))); clear hb ho; obtain ⟨WX, hW⟩ : ∃ W, W = WY := ⟨_, rfl⟩; rw [← hW] at RX ⊢; clear hW; change K _ _)
      refine hK.out _ _ (by (try dsimp only); with_reducible exact HK4.out _ RX.out.1.bel) (fun hHeld => ?_)
      clear hK K
      try simp only [Act.put, List.getElem_toArray, List.getElem_cons_succ, List.getElem_cons_zero, List.setIfInBounds_toArray, List.set_cons_zero, List.set_cons_succ]
      refine wpAnyH_take (i := 13) (v := ?_) rfl (by kernel_rfl) (by kernel_rfl) (by kernel_rfl) (fun _ _ _ h => h) (Or.inl ⟨by rfl, ?_⟩) (by assumption) ?_
      rotate_left
      · intro w hSw; (try dsimp only at hSw); go_simp <;> with_reducible rfl
      try simp only [Act.put, List.getElem_toArray, List.getElem_cons_succ, List.getElem_cons_zero, List.setIfInBounds_toArray, List.set_cons_zero, List.set_cons_succ]
      exact K3_4_5_10_11_12_14.out g3 g4 g5 c5 g10 g11 g12 c12 g14 WX RX
  focus
    intro g3 g4 g5 c5 g10 g11 g12 c12 WX RX
    have hHeld : ((fun w' => (w'.cell? ⟨w.heap.size + 3, 0, none⟩ = some (.slice al m1 cl) ∧ w'.cell? ⟨w.heap.size + 3, 1, none⟩ = some (.slice ad m2 cd) ∧ w'.cell? ⟨w.heap.size + 3, 2, none⟩ = some (.slice ax m3 cx)) ∧ w'.cell? ⟨w.heap.size + 1, 0, none⟩ = some (.slice (some ⟨gh, oh, none⟩) n cp))) WX := by (try dsimp only); with_reducible exact HK4.out _ RX.out.1.bel
    refine wpAnyH_ready (rs := [14]) (by kernel_rfl) (by simp) ?_
    refine AllReadyH.cons rfl (fun K hK => ?_) AllReadyH.nil
    focus
      (go_simp; obtain ⟨WY, g14, hW, hg, hb, RY⟩ := RX.out.1.boxR nilV nilV nilV 28; rw [hW]; (try rw [hg]); replace RX := Lib.hid (And.intro RY (And.intro (True.intro) (True.intro))); clear RY hW hg hb; obtain ⟨WX, hW⟩ : ∃ W, W = WY := ⟨_, rfl⟩; rw [← hW] at RX ⊢; clear hW)
      refine hK.out _ _ (by (try dsimp only); with_reducible exact HK4.out _ RX.out.1.bel) (fun hHeld => ?_)
      clear hK K
      try simp only [Act.put, List.getElem_toArray, List.getElem_cons_succ, List.getElem_cons_zero, List.setIfInBounds_toArray, List.set_cons_zero, List.set_cons_succ]
      exact wpAnyH_listed (by kernel_rfl) (K3_4_5_10_11_12_14.out g3 g4 g5 c5 g10 g11 g12 c12 g14 WX RX)
  focus
    intro g3 g4 g5 c5 g10 g11 g12 c12 g14 WX RX
    have hHeld : ((fun w' => (w'.cell? ⟨w.heap.size + 3, 0, none⟩ = some (.slice al m1 cl) ∧ w'.cell? ⟨w.heap.size + 3, 1, none⟩ = some (.slice ad m2 cd) ∧ w'.cell? ⟨w.heap.size + 3, 2, none⟩ = some (.slice ax m3 cx)) ∧ w'.cell? ⟨w.heap.size + 1, 0, none⟩ = some (.slice (some ⟨gh, oh, none⟩) n cp))) WX := by (try dsimp only); with_reducible exact HK4.out _ RX.out.1.bel
    refine wpAnyH_ready (rs := [15]) (by kernel_rfl) (by simp) ?_
    refine AllReadyH.cons rfl (fun K hK => ?_) AllReadyH.nil
    focus
      (obtain ⟨⟨t0, t1, t2⟩, f0, f1, f2⟩ := RX.out.1.at (r := g14) (a := nilV) (b := nilV) (c := nilV) (by simp); go_simp; have RY := RX.out.1.set3 (.slice (some ⟨g5, 0, none⟩) (m1 + 1) c5) (.slice (some ⟨g12, 0, none⟩) (m2 + 1) c12) nilV; obtain ⟨WY, hW⟩ : ∃ WY, WY = (((WX.setCell ⟨g14, 0, none⟩ (.slice (some ⟨g5, 0, none⟩) (m1 + 1) c5)).setCell ⟨g14, 1, none⟩ (.slice (some ⟨g12, 0, none⟩) (m2 + 1) c12)).setCell ⟨g14, 2, none⟩ nilV) := ⟨_, rfl⟩; rw [← hW] at RY ⊢; clear hW t0 t1 t2 f0 f1 f2; replace RX := Lib.hid (And.intro RY (And.intro True.intro True.intro)); clear RY; obtain ⟨WX, hW⟩ : ∃ W, W = WY := ⟨_, rfl⟩; rw [← hW] at RX ⊢; clear hW)
      refine hK.out _ _ (by (try dsimp only); with_reducible exact HK4.out _ RX.out.1.bel) (fun hHeld => ?_)
      clear hK K
      try simp only [Act.put, List.getElem_toArray, List.getElem_cons_succ, List.getElem_cons_zero, List.setIfInBounds_toArray, List.set_cons_zero, List.set_cons_succ]
      exact K3_4_5_10_11_12_14_15.out g3 g4 g5 c5 g10 g11 g12 c12 g14 WX RX
  intro g3 g4 g5 c5 g10 g11 g12 c12 g14 WX RX
  refine wpAnyH_done (by kernel_rfl) ?_ _
-- 26 states
  obtain ⟨s, hs⟩ : ∃ s, s = sizeI (L ++ [b]) (D ++ [(n : Int)]) := ⟨_, rfl⟩
  have HS := Lib.hid hs
  have R4 := Lib.hid RX.out.1
  have HSZ := Lib.hid (size_impl (lv := .slice (some ⟨g5, 0, none⟩) (m1 + 1) c5) (dv := .slice (some ⟨g12, 0, none⟩) (m2 + 1) c12) (xv := nilV) (L := L ++ [b]) (D := D ++ [(n : Int)]) (X := []) (w := WX) ⟨R4.out.rd (by simp), R4.out.rd (by simp), .inl ⟨rfl, none, 0, rfl⟩⟩ (Nat.le_refl _) ⟨by have := HML.out; simp; omega, by have := HML.out; simp; omega, by simp⟩ (fun z hz => (List.mem_append.1 hz).elim (HIL.out z) (fun h => by rw [List.mem_singleton.1 h]; exact HBI.out)))
  rw [← hs] at HSZ
  obtain ⟨⟨o0, o1, o2⟩, -⟩ := R4.out.at (r := g14) (a := .slice (some ⟨g5, 0, none⟩) (m1 + 1) c5) (b := .slice (some ⟨g12, 0, none⟩) (m2 + 1) c12) (c := nilV) (by simp)
  clear hs RX
  go_wp2_with fail
  refine HSZ.out.mono ?_
  clear HSZ o0 o1 o2
  rintro e W5 ⟨rfl, hb⟩
  have R5 := Lib.hid (R4.out.step hb)
  clear hb R4
  by_cases hs0 : s < 0
  · have q1 : decide (s < 0) = true := by simpa using hs0
    obtain rfl : fb = false := by rw [HFB.out, ← HS.out]; simp; intro h; omega
    obtain ⟨rfl, rfl, rfl⟩ := HNO.out (by simp)
    have SW := Lib.hid (HSW.out _ R5.out.bel)
    obtain ⟨⟨t0, t1, t2⟩, f0, f1, f2⟩ := SW.out.at (r := w.heap.size + 2) (a := nilV) (b := nilV) (c := nilV) (by simp)
    go_wp2
    refine bodyPost_ret (v := .tuple #[tenV nilV nilV nilV, .bool false]) (by simp [results, Try.results8, go_sem, t0, t1, t2]) rfl ?_
    exact NewTen2.nils (((SW.out.bel.setCell (p := ⟨w.heap.size + 2, 0, none⟩) (by show w.heap.size ≤ w.heap.size + 2; omega) _).setCell (p := ⟨w.heap.size + 2, 1, none⟩) (by show w.heap.size ≤ w.heap.size + 2; omega) _).setCell (p := ⟨w.heap.size + 2, 2, none⟩) (by show w.heap.size ≤ w.heap.size + 2; omega) _)
  · have hpa := sizeI_parts (L := L ++ [b]) (D := D ++ [(n : Int)]) (by rw [← HS.out]; omega)
    have hn8 : n ≤ 8 := by have h := hpa.1.2.2.2.1 (n : Int) (by simp); omega
    have h12 : m1 + 1 ≤ 12 := by have h := hpa.1.1; rw [List.length_append, HML.out.1] at h; exact h
    obtain rfl : m2 = m1 := by have h := hpa.1.2.1; rw [List.length_append, List.length_append, HML.out.1, HML.out.2.1] at h; simp at h; omega
    have HPA := Lib.hid hpa
    have q1 : decide (s < 0) = false := by simpa using hs0
    obtain ⟨i0, hi, hz0, hz1, hz2⟩ := info_parts infoTensor
    obtain ⟨gm, hgm⟩ : ∃ x, x = W5.heap.size := ⟨_, rfl⟩
    have HGM := Lib.hid hgm
    obtain ⟨-, l5⟩ := HK4.out _ R5.out.bel
    have b5 : w.heap.size + 1 < W5.heap.size := World.block_lt_of_cell? _ _ l5
    have HBE := Lib.hid R5.out.bel.size
    clear hpa hs0
    go_wp2_with (at_make; refine wpList_make_full _ rfl _ _ 33 rfl wB.heap.size 28 i0 (.agg #[.slice none 0 0, .slice none 0 0, .slice none 0 0]) 3 Try.underlying33 hi hz0 hz1 .i64 .i64 _ _ n rfl rfl rfl rfl (by rw [hz2]; omega) (by unfold maxLen; omega) HBE.out ?_; intro W6 hown hgrow; have hb6 := (Below.refl W5.heap.size W5).grown hgrow (Nat.le_refl _) (fun j hj => by cases hj); have R6 := Lib.hid (R5.out.step hb6); obtain ⟨-, l6⟩ := HK4.out _ R6.out.bel; have b6 : w.heap.size + 1 < W6.heap.size := World.block_lt_of_cell? _ _ l6)
    have OW6 := Lib.hid hown
    have HB6 := Lib.hid hb6
    clear hown hgrow hb6 hi hz0 hz1 hz2 l5 b5 l6 b6
    obtain ⟨W7, hW7⟩ : ∃ W, W = W6.alloc (.cells #[.slice (some ⟨W5.heap.size, 0, none⟩) n n] 33) := ⟨_, rfl⟩
    rw [← hW7]
    rw [← hgm] at hW7 OW6 ⊢
    have hlt10 : gm < W6.heap.size := (OW6.out.lt gm rfl).2
    have hrow : ∀ r ∈ rowsR [] ++ [(.slice (some ⟨g5, 0, none⟩) (m2 + 1) c5, L ++ [b]), (.slice (some ⟨g12, 0, none⟩) (m2 + 1) c12, D ++ [(n : Int)])], r.1.ownBlock ≠ some gm := fun r hr e => by
      have h1 : r ∈ [(.slice (some ⟨g5, 0, none⟩) (m2 + 1) c5, L ++ [b]), (.slice (some ⟨g12, 0, none⟩) (m2 + 1) c12, D ++ [(n : Int)])] := by simpa [rowsR] using hr
      have h2 := ((R5.out.own r h1).lt gm e).2
      omega
    have H7R : Hid (Rs wB W7 [(g14, .slice (some ⟨g5, 0, none⟩) (m2 + 1) c5, .slice (some ⟨g12, 0, none⟩) (m2 + 1) c12, nilV)] (rowsR [] ++ [(.slice (some ⟨g5, 0, none⟩) (m2 + 1) c5, L ++ [b]), (.slice (some ⟨g12, 0, none⟩) (m2 + 1) c12, D ++ [(n : Int)])])) := Lib.hid (by rw [hW7]; exact R6.out.alloc _)
    have H7O : Hid (W7.ownsRow wB.heap.size 28 3 (.slice (some ⟨gm, 0, none⟩) n n) n (madeCells (Value.agg #[.slice none 0 0, .slice none 0 0, .slice none 0 0]).cells (n * 3)).toList) := Lib.hid (by rw [hW7]; exact OW6.out.alloc _)
    have h14 : g14 < W5.heap.size := (R5.out.bx (g14, .slice (some ⟨g5, 0, none⟩) (m2 + 1) c5, .slice (some ⟨g12, 0, none⟩) (m2 + 1) c12, nilV) (by simp)).lt
    have H7C : Hid (W7.cell? ⟨W6.heap.size, 0, none⟩ = some (.slice (some ⟨gm, 0, none⟩) n n) ∧ W6.heap.size ≠ gm ∧ g14 ≠ gm) := Lib.hid ⟨by rw [hW7]; simp, by omega, by omega⟩
    have H7F := Lib.hid hrow
    have AL0 := Lib.hid (show ∀ t ∈ ts.take 0, alB k p q L D t.1 t.2.1 t.2.2 = true from fun t ht => by simp at ht)
    clear hrow hW7 OW6 R6 R5 h14 hgm
    go_loopw [45] (fun i wr => ∃ (kk : Nat) (zs : List (TenW × TenE)) (cs : List Value), kk ≤ n ∧ i = .int .i64 kk ∧ Hid (zs.map (·.2) = (ts.take kk).map (fun t : TenE => ((L, D, permDataL k q t.1 t.2.1 t.2.2 L) : TenE))) ∧ Hid (Cells3 cs zs) ∧ Hid (wr.ownsRow wB.heap.size 28 3 (.slice (some ⟨gm, 0, none⟩) n n) n cs) ∧ Hid (Rs wB wr [(g14, .slice (some ⟨g5, 0, none⟩) (m2 + 1) c5, .slice (some ⟨g12, 0, none⟩) (m2 + 1) c12, nilV)] (rowsR zs ++ [(.slice (some ⟨g5, 0, none⟩) (m2 + 1) c5, L ++ [b]), (.slice (some ⟨g12, 0, none⟩) (m2 + 1) c12, D ++ [(n : Int)])])) ∧ Hid (∀ r ∈ rowsR zs ++ [(.slice (some ⟨g5, 0, none⟩) (m2 + 1) c5, L ++ [b]), (.slice (some ⟨g12, 0, none⟩) (m2 + 1) c12, D ++ [(n : Int)])], r.1.ownBlock ≠ some gm) ∧ Hid (wr.cell? ⟨W6.heap.size, 0, none⟩ = some (.slice (some ⟨gm, 0, none⟩) n n) ∧ W6.heap.size ≠ gm ∧ g14 ≠ gm) ∧ Hid (∀ t ∈ ts.take kk, alB k p q L D t.1 t.2.1 t.2.2 = true)) (fun i _ => n - (intOf i).toNat)
    case atStart => exact ⟨0, [], _, by omega, rfl, (show ([] : List (TenW × TenE)).map (·.2) = (ts.take 0).map (fun t : TenE => ((L, D, permDataL k q t.1 t.2.1 t.2.2 L) : TenE)) by simp), (show Cells3 _ [] from fun i z h => by simp at h), H7O, H7R, H7F, H7C, AL0⟩
    case round =>
      clear H7R H7O H7C H7F AL0
      obtain ⟨kk, zs, cs, hk, rfl, HZ, HC, HO, HR, HF, HG, HAL⟩ := hrel
      have HSR := Lib.hid (HSW.out _ HR.out.bel)
      by_cases hlt : kk < n
      · obtain ⟨t, ht⟩ : ∃ t, ts[kk]? = some t := ⟨_, List.getElem?_eq_getElem (by rw [HN.out]; exact hlt)⟩
        obtain ⟨g', o', a1, v1, a2, v2, a3, v3, eg, hgt, k0, k1, k2, hT⟩ := (HA.out.below (HBW.out _ HR.out.bel) (Nat.le_refl _)).at ht
        cases eg
        have hle := HLEN.out t (List.mem_of_getElem? ht)
        have hti := HII.out t (List.mem_of_getElem? ht)
        obtain ⟨W8, hW8⟩ : ∃ W, W = wr.alloc (.cells #[.slice a1 t.1.length v1, .slice a2 t.2.1.length v2, .slice a3 t.2.2.length v3] 28) := ⟨_, rfl⟩
        have hb8 : Below wr.heap.size wr W8 := by rw [hW8]; exact (Below.refl _ _).alloc (Nat.le_refl _) _
        have h8c : W8.cell? ⟨wr.heap.size, 0, none⟩ = some (.slice a1 t.1.length v1) ∧ W8.cell? ⟨wr.heap.size, 1, none⟩ = some (.slice a2 t.2.1.length v2) ∧ W8.cell? ⟨wr.heap.size, 2, none⟩ = some (.slice a3 t.2.2.length v3) := by rw [hW8]; simp
        have hbw := HBW.out _ HR.out.bel
        have HE := Lib.hid (aligned_impl (k := k) (p := p) (q := q) (w := W8) (HT.out.below (hbw.trans (hb8.mono hbw.size)) (Nat.le_refl _)) (hT.below hb8 hbw.size) (Nat.le_trans hbw.size hb8.size) (Nat.le_trans hbw.size hb8.size) ⟨by omega, by omega, by omega⟩ (by have := HML.out; omega) (by have := HML.out; omega) hti)
        have HTK := Lib.hid ht
        have HB8 := Lib.hid hb8
        obtain ⟨n1, hn1⟩ : ∃ x, x = t.1.length := ⟨_, rfl⟩
        obtain ⟨n2, hn2⟩ : ∃ x, x = t.2.1.length := ⟨_, rfl⟩
        obtain ⟨n3, hn3⟩ : ∃ x, x = t.2.2.length := ⟨_, rfl⟩
        rw [← hn1, ← hn2, ← hn3] at HE hW8 h8c
        rw [← hn1] at k0
        rw [← hn2] at k1
        rw [← hn3] at k2
        have HW8 := Lib.hid hW8
        have gl : gh < wr.heap.size := Nat.lt_of_lt_of_le hgt hbw.size
        clear ht hT hgt hle hti hn1 hn2 hn3 hbw hb8 hW8
        go_upto_region 11 with fail
        rw [← HW8.out]
        obtain ⟨c0, c1, c2⟩ := h8c
        have b8 := HB8.out.trans (Below.refl _ _)
        obtain ⟨⟨f0, f1, f2⟩, -⟩ := ((HSR.out.step HB8.out).at (r := w.heap.size + 3) (a := .slice al m2 cl) (b := .slice ad m2 cd) (c := .slice ax m3 cx) (by simp))
        obtain ⟨⟨r0, r1, r2⟩, -⟩ := ((HSR.out.step HB8.out).at (r := w.heap.size) (a := .int .i64 k) (b := .int .i64 p) (c := .int .i64 q) (by simp))
        clear k0 k1 k2 gl HW8
        cases hfa : alB k p q L D t.1 t.2.1 t.2.2 with
        | false =>
          rw [hfa] at HE
          simp only [Bool.false_eq_true, if_false] at HE
          obtain rfl : fb = false := by
            have h1 : (ts.all fun t => alB k p q L D t.1 t.2.1 t.2.2) = false := by
              rw [List.all_eq_false]
              exact ⟨t, List.mem_of_getElem? HTK.out, by rw [hfa]; simp⟩
            rw [HFB.out, h1, Bool.and_false]
          obtain ⟨rfl, rfl, rfl⟩ := HNO.out (by simp)
          go_wp2_with fail
          refine HE.out.mono ?_
          clear HE c0 c1 c2 f0 f1 f2 r0 r1 r2
          rintro e w2 ⟨lv, dv, xv, rfl, ho, hb⟩
          obtain ⟨b1, e1, rfl, -⟩ := ints_form ho.rows.1.rd
          obtain ⟨b2, e2, rfl, -⟩ := ints_form ho.rows.2.1.rd
          obtain ⟨b3, e3, rfl, -⟩ := ints_form ho.rows.2.2.rd
          obtain ⟨W9, hW9⟩ : ∃ W, W = w2.alloc (.cells #[.slice b1 0 e1, .slice b2 0 e2, .slice b3 0 e3] 28) := ⟨_, rfl⟩
          have hb9 : Below w2.heap.size w2 W9 := by rw [hW9]; exact (Below.refl _ _).alloc (Nat.le_refl _) _
          have SW := Lib.hid (((HSR.out.step HB8.out).step hb).step hb9)
          have HW9 := Lib.hid hW9
          clear ho hb hb9 hW9
          go_upto_region 13 with fail
          have e9 := HW9.out
          rw [← HW9.out]
          clear HW9 e9
          obtain ⟨⟨t0, t1, t2⟩, f0, f1, f2⟩ := SW.out.at (r := w.heap.size + 2) (a := nilV) (b := nilV) (c := nilV) (by simp)
          go_wp2
          refine bodyPost_ret (v := .tuple #[tenV nilV nilV nilV, .bool false]) (by simp [results, Try.results8, go_sem, t0, t1, t2]) rfl ?_
          exact NewTen2.nils (((SW.out.bel.setCell (p := ⟨w.heap.size + 2, 0, none⟩) (by show w.heap.size ≤ w.heap.size + 2; omega) _).setCell (p := ⟨w.heap.size + 2, 1, none⟩) (by show w.heap.size ≤ w.heap.size + 2; omega) _).setCell (p := ⟨w.heap.size + 2, 2, none⟩) (by show w.heap.size ≤ w.heap.size + 2; omega) _)
        | true =>
          rw [hfa] at HE
          simp only [if_true] at HE
          obtain ⟨py, hpy⟩ : ∃ x, x = permDataL k q t.1 t.2.1 t.2.2 L := ⟨_, rfl⟩
          rw [← hpy] at HE
          go_wp2_with fail
          refine HE.out.mono ?_
          clear HE c0 c1 c2 f0 f1 f2 r0 r1 r2
          rintro e w2 ⟨lv, dv, xv, rfl, ho, hb⟩
          obtain ⟨b1, e1, rfl, -⟩ := ints_form ho.rows.1.rd
          obtain ⟨b2, e2, rfl, -⟩ := ints_form ho.rows.2.1.rd
          obtain ⟨b3, e3, rfl, -⟩ := ints_form ho.rows.2.2.rd
          obtain ⟨d3, hd3⟩ : ∃ x, x = py.length := ⟨_, rfl⟩
          rw [HML.out.1, HML.out.2.1, ← hd3] at ho ⊢
          obtain ⟨W9, hW9⟩ : ∃ W, W = w2.alloc (.cells #[.slice b1 m2 e1, .slice b2 m2 e2, .slice b3 d3 e3] 28) := ⟨_, rfl⟩
          have hb9 : Below w2.heap.size w2 W9 := by rw [hW9]; exact (Below.refl _ _).alloc (Nat.le_refl _) _
          have hbt : Below wr.heap.size wr W9 := HB8.out.trans ((hb.trans (hb9.mono hb.size)).mono HB8.out.size)
          have h9c : W9.cell? ⟨w2.heap.size, 0, none⟩ = some (.slice b1 m2 e1) ∧ W9.cell? ⟨w2.heap.size, 1, none⟩ = some (.slice b2 m2 e2) ∧ W9.cell? ⟨w2.heap.size, 2, none⟩ = some (.slice b3 d3 e3) := by rw [hW9]; simp
          have hzl : zs.length = kk := by
            have h1 := congrArg List.length HZ.out
            rw [List.length_map, List.length_map, List.length_take, HN.out] at h1
            omega
          have clen : cs.length = n * 3 := HO.out.1
          have hG := (HO.out.lt gm rfl)
          have HO9 := Lib.hid (HO.out.kept (row := none) ⟨hbt.os, hbt.tape, hbt.output, hbt.size, fun j hj _ => hbt.block j hj⟩ (.inr (by simp [Value.ownBlock])))
          have R2 := ((HR.out.step HB8.out).new3 hb ho).alloc (.cells #[.slice b1 m2 e1, .slice b2 m2 e2, .slice b3 d3 e3] 28)
          rw [← hW9] at R2
          have HZ2 : Hid ((zs ++ [((((.slice b1 m2 e1, .slice b2 m2 e2, .slice b3 d3 e3) : TenW), ((L, D, py) : TenE)) : TenW × TenE)]).map (·.2) = (ts.take (kk + 1)).map (fun t : TenE => ((L, D, permDataL k q t.1 t.2.1 t.2.2 L) : TenE))) := Lib.hid (by
            rw [List.map_append, HZ.out, List.take_add_one, HTK.out, List.map_append, hpy]; rfl)
          have HC2 := Lib.hid (HC.out.snoc (((((.slice b1 m2 e1, .slice b2 m2 e2, .slice b3 d3 e3) : TenW), ((L, D, py) : TenE)) : TenW × TenE)) hzl (by omega))
          have hF2 : ∀ r ∈ rowsR (zs ++ [((((.slice b1 m2 e1, .slice b2 m2 e2, .slice b3 d3 e3) : TenW), ((L, D, py) : TenE)) : TenW × TenE)]) ++ [(.slice (some ⟨g5, 0, none⟩) (m2 + 1) c5, L ++ [b]), (.slice (some ⟨g12, 0, none⟩) (m2 + 1) c12, D ++ [(n : Int)])], r.1.ownBlock ≠ some gm := fun r hr e => by
            have hlo : gm < W8.heap.size := Nat.lt_of_lt_of_le hG.2 HB8.out.size
            rw [rowsR_snoc] at hr
            rcases List.mem_cons.1 hr with rfl | hr
            · have := ho.rows.1.lo _ e; omega
            · rcases List.mem_cons.1 hr with rfl | hr
              · have := ho.rows.2.1.lo _ e; omega
              · rcases List.mem_cons.1 hr with rfl | hr
                · have := ho.rows.2.2.lo _ e; omega
                · exact HF.out r hr e
          have HF2 := Lib.hid hF2
          have R3 : Hid (Rs wB (((W9.setCell ⟨gm, kk * 3, none⟩ (.slice b1 m2 e1)).setCell ⟨gm, kk * 3 + 1, none⟩ (.slice b2 m2 e2)).setCell ⟨gm, kk * 3 + 2, none⟩ (.slice b3 d3 e3)) [(g14, .slice (some ⟨g5, 0, none⟩) (m2 + 1) c5, .slice (some ⟨g12, 0, none⟩) (m2 + 1) c12, nilV)] (rowsR (zs ++ [((((.slice b1 m2 e1, .slice b2 m2 e2, .slice b3 d3 e3) : TenW), ((L, D, py) : TenE)) : TenW × TenE)]) ++ [(.slice (some ⟨g5, 0, none⟩) (m2 + 1) c5, L ++ [b]), (.slice (some ⟨g12, 0, none⟩) (m2 + 1) c12, D ++ [(n : Int)])])) := Lib.hid (by
            have hnb : ∀ b ∈ ([(g14, .slice (some ⟨g5, 0, none⟩) (m2 + 1) c5, .slice (some ⟨g12, 0, none⟩) (m2 + 1) c12, nilV)] : List BxE), b.1 ≠ gm := fun b hm => by
              rw [List.mem_singleton.1 hm]; exact HG.out.2.2
            have h2 : Rs wB W9 [(g14, .slice (some ⟨g5, 0, none⟩) (m2 + 1) c5, .slice (some ⟨g12, 0, none⟩) (m2 + 1) c12, nilV)] (rowsR (zs ++ [((((.slice b1 m2 e1, .slice b2 m2 e2, .slice b3 d3 e3) : TenW), ((L, D, py) : TenE)) : TenW × TenE)]) ++ [(.slice (some ⟨g5, 0, none⟩) (m2 + 1) c5, L ++ [b]), (.slice (some ⟨g12, 0, none⟩) (m2 + 1) c12, D ++ [(n : Int)])]) := by rw [rowsR_snoc]; exact R2
            exact ((h2.beside hG.1 hnb hF2 _ _).beside hG.1 hnb hF2 _ _).beside hG.1 hnb hF2 _ _)
          have s1 := HO9.out.stored (kk * 3) (.slice b1 m2 e1)
          have s2 := s1.1.stored (kk * 3 + 1) (.slice b2 m2 e2)
          have s3 := s2.1.stored (kk * 3 + 2) (.slice b3 d3 e3)
          have HO3 := Lib.hid s3.1
          have c10 := cell_kept hbt HG.out.1
          have HG3 : Hid ((((W9.setCell ⟨gm, kk * 3, none⟩ (.slice b1 m2 e1)).setCell ⟨gm, kk * 3 + 1, none⟩ (.slice b2 m2 e2)).setCell ⟨gm, kk * 3 + 2, none⟩ (.slice b3 d3 e3)).cell? ⟨W6.heap.size, 0, none⟩ = some (.slice (some ⟨gm, 0, none⟩) n n) ∧ W6.heap.size ≠ gm ∧ g14 ≠ gm) := Lib.hid ⟨by
            have hne : ∀ o : Nat, (⟨gm, o, none⟩ : Addr) ≠ ⟨W6.heap.size, 0, none⟩ := fun o e => HG.out.2.1 (by injection e with e1; exact e1.symm)
            rw [World.cell?_setCell_other _ _ _ _ (hne _), World.cell?_setCell_other _ _ _ _ (hne _), World.cell?_setCell_other _ _ _ _ (hne _)]
            exact c10, HG.out.2⟩
          have HAL2 : Hid (∀ t ∈ ts.take (kk + 1), alB k p q L D t.1 t.2.1 t.2.2 = true) := Lib.hid (fun u hu => by
            rw [List.take_add_one, HTK.out] at hu
            rcases List.mem_append.1 hu with h | h
            · exact HAL.out u h
            · have e : u = t := by simpa using h
              rw [e]; exact hfa)
          obtain ⟨z0, hz0⟩ : ∃ z, cs[kk * 3]? = some z := ⟨_, List.getElem?_eq_getElem (by omega)⟩
          have q0 : W9.cell? ⟨gm, kk * 3, none⟩ = some z0 := by rw [HO9.out.cellAt _ (by omega)]; exact hz0
          obtain ⟨z1, hz1⟩ : ∃ z, cs[kk * 3 + 1]? = some z := ⟨_, List.getElem?_eq_getElem (by omega)⟩
          have q1 : W9.cell? ⟨gm, kk * 3 + 1, none⟩ = some z1 := by rw [HO9.out.cellAt _ (by omega)]; exact hz1
          obtain ⟨z2, hz2⟩ : ∃ z, cs[kk * 3 + 2]? = some z := ⟨_, List.getElem?_eq_getElem (by omega)⟩
          have q2 : W9.cell? ⟨gm, kk * 3 + 2, none⟩ = some z2 := by rw [HO9.out.cellAt _ (by omega)]; exact hz2
          have f0 := HO9.out.frozenAt (kk * 3)
          have f1 := HO9.out.frozenAt (kk * 3 + 1)
          have f2 := HO9.out.frozenAt (kk * 3 + 2)
          have HW9 := Lib.hid hW9
          clear ho hb hb9 hbt R2 hF2 s1 s2 s3 hG hzl hz0 hz1 hz2 clen hfa hpy hd3 hW9
          go_upto_region 14 with fail
          rw [← HW9.out]
          obtain ⟨c0, c1, c2⟩ := h9c
          clear HW9
          go_wp2
          go_roundw
          case rel => exact ⟨kk + 1, _, _, by omega, by go_num, HZ2, HC2, HO3, R3, HF2, HG3, HAL2⟩
          case measure => simp [intOf]; omega
      · obtain rfl : kk = n := by omega
        have hall : (ts.all fun t => alB k p q L D t.1 t.2.1 t.2.2) = true := by
          rw [List.all_eq_true]
          intro t ht
          exact HAL.out t (by rw [List.take_of_length_le (by rw [HN.out]; exact Nat.le_refl _)]; exact ht)
        obtain rfl : fb = true := by
          have hs1 : 0 ≤ s := by have := HPA.out.1; have h2 := HS.out; exact Int.not_lt.1 (by simpa using q1)
          rw [HFB.out, hall, ← HS.out]; simpa using hs1
        obtain ⟨y1, y2, y3⟩ := HYES.out rfl
        have hh1 := hall
        rw [List.all_eq_true] at hh1
        have ht : tensorB k p q L D X = true := by
          have h1 := hh1 (L, D, X) (List.mem_of_getElem? HH.out)
          simp only [alB, permB, Bool.and_eq_true] at h1
          exact h1.1.1
        obtain ⟨wd, hwd⟩ : ∃ x, x = (widthI k q).toNat := ⟨_, rfl⟩
        obtain ⟨N, hN⟩ : ∃ x, x = (prodL D).toNat := ⟨_, rfl⟩
        have hft := TF.of ht
        rw [← hwd, ← hN] at hft
        have FT := Lib.hid hft
        obtain ⟨Ys, hYs⟩ : ∃ Y, Y = ts.map fun t => permDataL k q t.1 t.2.1 t.2.2 L := ⟨_, rfl⟩
        have hYl : Ys.length = kk := by rw [hYs, List.length_map, HN.out]
        have hYY : ∀ Y ∈ Ys, Y.length = N * wd := fun Y hY => by
          rw [hYs] at hY
          obtain ⟨t, hm, rfl⟩ := List.mem_map.1 hY
          have hf : fitB k p q L D X t.1 t.2.1 t.2.2 = true := by
            rw [fit_split, ht]
            exact (hh1 t hm)
          rw [(fit_facts hf).2.1]
          exact hft.lX
        have hNN : N * kk ≤ 4096 := by
          have h2 := HPA.out.2
          rw [prodL_snoc, hft.pr] at h2
          exact_mod_cast h2
        have hsz : sizeI (L ++ [b]) (D ++ [(kk : Int)]) = ((N * kk : Nat) : Int) := by
          rcases sizeI_cases (L ++ [b]) (D ++ [(kk : Int)]) with ⟨h1, -⟩ | ⟨h1, -⟩
          · rw [← HS.out] at h1; exfalso; rw [h1] at q1; simp at q1
          · rw [h1, prodL_snoc, hft.pr]; exact_mod_cast rfl
        have hF : ∀ i, i < N * kk → (stackTo wd Ys i).length = wd ∧ ∃ Y, Ys[i % kk]? = some Y ∧ stackTo wd Ys i = getL wd Y (i / kk) ∧ i / kk * wd + wd ≤ Y.length ∧ i / kk ≤ 4096 := fun i hi => by
          have h1 : i % kk < kk := Nat.mod_lt _ hn0
          obtain ⟨Y, hY⟩ : ∃ Y, Ys[i % kk]? = some Y := ⟨_, List.getElem?_eq_getElem (by rw [hYl]; exact h1)⟩
          have h2 : i / kk < N := by rw [Nat.div_lt_iff_lt_mul hn0]; exact hi
          have h3 := Nat.mul_le_mul_right wd (show i / kk + 1 ≤ N by omega)
          rw [Nat.add_mul, Nat.one_mul] at h3
          have h4 := hYY Y (List.mem_of_getElem? hY)
          have h5 : stackTo wd Ys i = getL wd Y (i / kk) := by
            unfold stackTo
            rw [hYl, List.getD_eq_getElem?_getD, hY]; rfl
          have h6 := hft.n1.2
          exact ⟨by rw [h5]; exact getL_len (by omega), Y, hY, h5, by omega, by omega⟩
        have HSTK := Lib.hid hF
        have HX : Hid (yx = gatherL (stackTo wd Ys) (N * kk)) := Lib.hid (by
          rw [y3, ← hYl, ← stack_is wd N Ys (by rw [hYl]; exact hn0)]
          unfold stackX
          rw [← hwd, ← hN, ← hYs])
        have HY12 := Lib.hid (And.intro y1 y2)
        have hzm : zs.map (·.2) = ts.map (fun t : TenE => ((L, D, permDataL k q t.1 t.2.1 t.2.2 L) : TenE)) := by rw [HZ.out, List.take_of_length_le (by rw [HN.out]; exact Nat.le_refl _)]
        have HZI : Hid (∀ (i : Nat) (Y : List Int), Ys[i]? = some Y → ∃ z, zs[i]? = some z ∧ z.2 = (L, D, Y)) := Lib.hid (fun i Y hY => by
          rw [hYs, List.getElem?_map] at hY
          obtain ⟨t, h1, rfl⟩ := Option.map_eq_some_iff.1 hY
          have h2 : (zs.map (·.2))[i]? = some ((fun t : TenE => ((L, D, permDataL k q t.1 t.2.1 t.2.2 L) : TenE)) t) := by rw [hzm, List.getElem?_map, h1]; rfl
          rw [List.getElem?_map] at h2
          obtain ⟨z, h3, h4⟩ := Option.map_eq_some_iff.1 h2
          exact ⟨z, h3, h4⟩)
        have hG : ∀ (j : Nat) (W : World), j < N * kk → Below wr.heap.size wr W → Calls Try.prog 28 #[.int .i64 j, .pointer (some ⟨W6.heap.size, 0, none⟩), .pointer (some ⟨w.heap.size + 1, 0, none⟩), .pointer (some ⟨w.heap.size, 0, none⟩)] W (fun e w' => ∃ v, e = .returned v ∧ Rd w'.heap.size w' v (ints (stackTo wd Ys j)) ∧ Below W.heap.size W w') := fun j W hj hb => by
          obtain ⟨-, Y, hY, e1, h1, h2⟩ := HSTK.out j hj
          obtain ⟨z, hz, ez⟩ := HZI.out _ _ hY
          have hm := rowsR_mem (List.mem_of_getElem? hz)
          have hbw := HR.out.bel.trans (hb.mono HR.out.bel.size)
          obtain ⟨p0, p1, p2⟩ := HC.out _ _ hz
          have clen : cs.length = kk * 3 := HO.out.1
          have hmod : j % kk < kk := Nat.mod_lt _ hn0
          obtain ⟨x1, c1, ex1, -⟩ := ints_form (HR.out.rd (List.mem_append_left _ hm.1))
          obtain ⟨x2, c2, ex2, -⟩ := ints_form (HR.out.rd (List.mem_append_left _ hm.2.1))
          obtain ⟨x3, c3, ex3, -⟩ := ints_form (HR.out.rd (List.mem_append_left _ hm.2.2))
          have hrd : RdT wr.heap.size wr z.1.1 z.1.2.1 z.1.2.2 L D Y := by
            have i1 := HR.out.rd (List.mem_append_left _ hm.1)
            have i2 := HR.out.rd (List.mem_append_left _ hm.2.1)
            have i3 := HR.out.rd (List.mem_append_left _ hm.2.2)
            rw [ez] at i1 i2 i3
            exact ⟨i1, i2, i3⟩
          have hE := elem_rd (k := k) (p := p) (q := q) (w := W.drew) wd (j / kk) (hrd.below (hb.trans ((Below.refl _ _).drew.mono hb.size)) (Nat.le_refl _)) (hb.trans ((Below.refl _ _).drew.mono hb.size)).size FT.out.hw FT.out.w6.1 FT.out.w6.2 h2 h1
          rw [ex1, ex2, ex3] at hE
          have d0 := cell_kept hb (show wr.cell? ⟨gm, j % kk * 3, none⟩ = some z.1.1 by rw [HO.out.cellAt _ (by omega)]; exact p0)
          have d1 := cell_kept hb (show wr.cell? ⟨gm, j % kk * 3 + 1, none⟩ = some z.1.2.1 by rw [HO.out.cellAt _ (by omega)]; exact p1)
          have d2 := cell_kept hb (show wr.cell? ⟨gm, j % kk * 3 + 2, none⟩ = some z.1.2.2 by rw [HO.out.cellAt _ (by omega)]; exact p2)
          rw [ex1] at d0
          rw [ex2] at d1
          rw [ex3] at d2
          have hq := stack_view (bl := W6.heap.size) (bs := w.heap.size + 1) (br := w.heap.size) (g := gm) (o := 0) (n := kk) (j := j) (k := k) (p := p) (q := q) hn0 (by omega) (cell_kept hb HG.out.1) (HK4.out _ hbw).2 ((HSW.out _ hbw).at (r := w.heap.size) (a := .int .i64 k) (b := .int .i64 p) (c := .int .i64 q) (by simp)).1 ⟨by rw [Nat.zero_add]; exact d0, by rw [Nat.zero_add]; exact d1, by rw [Nat.zero_add]; exact d2⟩ hE (fun e W' h => by
            obtain ⟨v, rfl, -, hb'⟩ := h
            exact ⟨⟨v, rfl⟩, (Below.refl _ _).drew.trans (hb'.mono (Nat.le_refl _))⟩)
          refine hq.mono ?_
          rintro e W' ⟨v, rfl, hv, hb'⟩
          have hbW : Below W.heap.size W W' := (Below.refl _ _).drew.trans (hb'.mono (Nat.le_refl _))
          exact ⟨v, rfl, by rw [e1]; exact hv.mono (Nat.le_trans hb.size hbW.size), hbW⟩
        have HFV := Lib.hid (filled_view3 (B := wr.heap.size) (K := 28) (c1 := .pointer (some ⟨W6.heap.size, 0, none⟩)) (c2 := .pointer (some ⟨w.heap.size + 1, 0, none⟩)) (c3 := .pointer (some ⟨w.heap.size, 0, none⟩)) (L := L ++ [b]) (D := D ++ [(kk : Int)]) (X := []) (N := N * kk) (wt := wd) (m := m2 + 1) (mx := 0) (F := stackTo wd Ys) (w := wr) ⟨HR.out.rd (v := .slice (some ⟨g5, 0, none⟩) (m2 + 1) c5) (xs := L ++ [b]) (List.mem_append_right _ (by simp)), HR.out.rd (v := .slice (some ⟨g12, 0, none⟩) (m2 + 1) c12) (xs := D ++ [(kk : Int)]) (List.mem_append_right _ (by simp)), .inl ⟨rfl, none, 0, rfl⟩⟩ (Nat.le_refl _) ⟨by have := HML.out; simp; omega, by have := HML.out; simp; omega, by simp⟩ (fun z hz => (List.mem_append.1 hz).elim (HIL.out z) (fun h => by rw [List.mem_singleton.1 h]; exact HBI.out)) hsz (by rw [List.length_append, HML.out.1]; rfl) (by rw [List.length_append, HML.out.2.1]; rfl) h12 hNN hft.w6.1 hft.w6.2 (fun args w => by kernel_rfl) (fun i hi => (HSTK.out i hi).1) hG)
        obtain ⟨⟨o0, o1, o2⟩, -⟩ := HR.out.at (r := g14) (a := .slice (some ⟨g5, 0, none⟩) (m2 + 1) c5) (b := .slice (some ⟨g12, 0, none⟩) (m2 + 1) c12) (c := nilV) (by simp)
        clear hG hsz hF hall hh1 hft hYs hYl hYY hNN hzm ht y1 y2 y3 hwd hN
        go_wp2_with fail
        refine HFV.out.mono ?_
        clear HFV o0 o1 o2
        rintro e w9 ⟨l9, d9, x9, rfl, ho, hb⟩
        obtain ⟨p1, u1, rfl, -⟩ := ints_form (show Rd _ w9 l9 (ints (L ++ [b])) from (ho.1 (l9, L ++ [b]) (by simp)).rd)
        obtain ⟨p2, u2, rfl, -⟩ := ints_form (show Rd _ w9 d9 (ints (D ++ [(kk : Int)])) from (ho.1 (d9, D ++ [(kk : Int)]) (by simp)).rd)
        obtain ⟨p3, u3, rfl, -⟩ := ints_form (show Rd _ w9 x9 (ints (gatherL (stackTo wd Ys) (N * kk))) from (ho.1 (x9, gatherL (stackTo wd Ys) (N * kk)) (by simp)).rd)
        rw [← HX.out] at ho ⊢
        rw [← HY12.out.1, ← HY12.out.2] at ho ⊢
        have S9 := Lib.hid ((HSR.out).new3 hb ho)
        obtain ⟨⟨t0, t1, t2⟩, f0, f1, f2⟩ := S9.out.at (r := w.heap.size + 2) (a := nilV) (b := nilV) (c := nilV) (by simp)
        clear ho hb
        go_wp2
        refine bodyPost_ret (v := .tuple #[tenV (.slice p1 yl.length u1) (.slice p2 yd.length u2) (.slice p3 yx.length u3), .bool true]) (by simp [results, Try.results8, go_sem, t0, t1, t2]) rfl ?_
        have h3 := S9.out.swapB.set3 (.slice p1 yl.length u1) (.slice p2 yd.length u2) (.slice p3 yx.length u3)
        exact ⟨_, _, _, rfl, h3.ownG, h3.bel⟩
end Go.Proofs.Ytceidekfcnmeaaa
