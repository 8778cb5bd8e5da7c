
/- impl.FuseLabels. -/
import Derived.Test.YtceidekfcnmeaaaGreatRegImpl
import Derived.Test.YtceidekfcnmeaaaGreatCountA
namespace Go.Proofs.YtceidekfcnmeaaaGreat
set_option maxRecDepth 20000
open Go.RowKit

theorem Rs.litB {w0 W : World} {bs : List BxE} {rows : List RowE} (h : Rs w0 W bs rows) (x : Int) : ∃ WX g, W.alloc (.cells #[.int .i64 x] 3) = WX ∧ W.heap.size = g ∧ Below W.heap.size W WX ∧ Rs w0 WX bs ((.slice (some ⟨g, 0, none⟩) 1 1, [x]) :: rows) := ⟨_, _, rfl, rfl, (Below.refl _ _).alloc (Nat.le_refl _) _, h.lit1 x⟩
theorem fus_from_m (n : Nat) (x : Value) (w : World) : (method (n + 1) 93 x "loop.example/g03211/impl.from").run Tryz.prog w = .ok (152, x) w := by kernel_rfl
theorem fus_to_m (n : Nat) (x : Value) (w : World) : (method (n + 1) 93 x "loop.example/g03211/impl.to").run Tryz.prog w = .ok (153, x) w := by kernel_rfl
theorem fus_nil (n : Nat) (x : Value) (w : World) : (nilAhead (n + 1) 93 x "loop.example/g03211/impl.to").run Tryz.prog w = .ok (some false) w := by kernel_rfl
theorem fus_from_c (x : Value) (w : World) : (callFunc 152 #[x]).run Tryz.prog w = .ok (.enter 152 #[x]) w := by kernel_rfl
theorem fus_to_c (x av : Value) (w : World) : (callFunc 153 #[x, av]).run Tryz.prog w = .ok (.enter 153 #[x, av]) w := by kernel_rfl
set_option maxHeartbeats 400000 in
theorem fus_from {B mf cf : Nat} {af : Option Addr} {F : List Int} {c : Int} {w : World} (h : Rd B w (.slice af mf cf) (ints F)) (hB : B ≤ w.heap.size) :
    Calls Tryz.prog 152 #[.agg #[.slice af mf cf, .int .i64 c]] w fun e w' => ∃ fv, e = .returned fv ∧ Below w.heap.size w w' ∧ Rd w'.heap.size w' fv (ints F) := by
  have hb := (Below.refl w.heap.size w).alloc (Nat.le_refl _) (.cells #[.slice af mf cf, .int .i64 c] 93)
  have H := Lib.hid ((h.below hb hB).mono (Nat.le_trans hB hb.size))
  have HB := Lib.hid hb
  clear h hB hb
  go_enter Tryz.func152, Tryz.ntmps152
  go_wp2
  go_ret
  exact ⟨_, rfl, HB.out, H.out⟩
set_option maxHeartbeats 1600000 in
theorem fus_to {B : Nat} {fv av : Value} {AX : List AxE} {c : Int} {w : World} (hm : AX.length ≤ 1024) (hd : ∀ d ∈ dimsA AX, 1 ≤ d ∧ d ≤ 8) (hP : prodL (dimsA AX) ≤ 1073741824) (ha : RdA B w av AX) (hB : B ≤ w.heap.size) :
    Calls Tryz.prog 153 #[.agg #[fv, .int .i64 c], av] w fun e w' => ∃ u v, e = .returned (.tuple #[u, v]) ∧ Below w.heap.size w w' ∧ Rd w'.heap.size w' u (ints [c]) ∧ Rd w'.heap.size w' v (ints [prodL (dimsA AX)]) := by
  have HC := Lib.hid (fun (W : World) (hb : Below w.heap.size w W) => count_impl hm hd hP (ha.below hb hB) (Nat.le_trans hB hb.size))
  obtain ⟨P, hP2⟩ : ∃ P, P = prodL (dimsA AX) := ⟨_, rfl⟩
  rw [← hP2] at HC ⊢
  have RX : Hid (Rs w (w.alloc (.cells #[fv, .int .i64 c] 93)) [] []) := Lib.hid ((Rs.start w).alloc _)
  have b1 : (w.alloc (.cells #[fv, .int .i64 c] 93)).cell? ⟨w.heap.size, 1, none⟩ = some (.int .i64 c) := by simp [World.cell?_alloc_at]
  have bl : w.heap.size < (w.alloc (.cells #[fv, .int .i64 c] 93)).heap.size := by simp
  clear hP2 ha hP hB hd hm
  go_enter Tryz.func153, Tryz.ntmps153
  go_wp2
  generalize w.alloc (.cells #[fv, .int .i64 c] 93) = V at RX b1 bl ⊢
  have RN := RX
  have BN := Lib.hid (And.intro b1 bl)
  replace RX := Lib.hid RX.out.drew
  replace b1 : V.drew.cell? ⟨w.heap.size, 1, none⟩ = some (.int .i64 c) := b1
  replace bl : w.heap.size < V.drew.heap.size := bl
  refine wp_region_held_drew (S := (fun w' => w'.cell? ⟨w.heap.size, 1, none⟩ = some (.int .i64 c))) (by kernel_rfl) (by (try dsimp only); with_reducible exact b1) (fun hHeld => ?_)
  refine wpAnyH_take (i := 0) (v := ?_) rfl (by kernel_rfl) (by kernel_rfl) (by kernel_rfl) (fun _ _ _ h => h) (Or.inl ⟨by rfl, ?_⟩) (by assumption) ?_
  rotate_left
  · intro w hSw; (try dsimp only at hSw); go_simp <;> with_reducible rfl
  try simp only [Act.put, List.getElem_toArray, List.getElem_cons_zero, List.setIfInBounds_toArray, List.set_cons_zero, List.set_cons_succ]
  refine wpAnyH_take (i := 1) (v := ?_) rfl (by kernel_rfl) (by kernel_rfl) (by kernel_rfl) (fun _ _ _ h => h) (Or.inl ⟨by rfl, ?_⟩) (by assumption) ?_
  rotate_left
  · intro w hSw; (try dsimp only at hSw); go_simp <;> with_reducible rfl
  try simp only [Act.put, List.getElem_toArray, List.getElem_cons_succ, List.getElem_cons_zero, List.setIfInBounds_toArray, List.set_cons_zero, List.set_cons_succ]
  refine wpAnyH_take (i := 3) (v := ?_) rfl (by kernel_rfl) (by kernel_rfl) (by kernel_rfl) (fun _ _ _ h => h) (Or.inl ⟨by rfl, ?_⟩) (by assumption) ?_
  rotate_left
  · intro w hSw; (try dsimp only at hSw); go_simp <;> with_reducible rfl
  try simp only [Act.put, List.getElem_toArray, List.getElem_cons_succ, List.getElem_cons_zero, List.setIfInBounds_toArray, List.set_cons_zero, List.set_cons_succ]
  refine wpAnyH_ready (rs := [2, 4]) (by kernel_rfl) (by simp) ?_
  refine AllReadyH.cons rfl (fun K hK => ?_) (AllReadyH.cons rfl (fun K hK => ?_) AllReadyH.nil)
  focus
    go_simp
    ((first | (obtain ⟨WX, gc, hW, hg, hbX, RXn⟩ := RX.out.litB c; rw [hW]; (try rw [hg]); replace b1 := (hbX.cell (p := ⟨w.heap.size, 1, none⟩) bl).trans b1; replace bl := Nat.lt_of_lt_of_le bl hbX.size; clear hbX hW) | (obtain ⟨WZ, gc, hW, hg, hbX, RXn⟩ := RN.out.litB c; rw [hW]; (try rw [hg]); replace RXn := RXn.drew; have bZ : WZ.drew.cell? ⟨w.heap.size, 1, none⟩ = some (.int .i64 c) := (hbX.cell (p := ⟨w.heap.size, 1, none⟩) BN.out.2).trans BN.out.1; have lZ : w.heap.size < WZ.drew.heap.size := Nat.lt_of_lt_of_le BN.out.2 hbX.size; clear hbX hW b1 bl; generalize WZ.drew = WX at RXn bZ lZ ⊢; have b1 := bZ; have bl := lZ; clear bZ lZ) | (obtain ⟨WX, gp, hW, hg, hbX, RXn⟩ := RX.out.litB P; rw [hW]; (try rw [hg]); replace b1 := (hbX.cell (p := ⟨w.heap.size, 1, none⟩) bl).trans b1; replace bl := Nat.lt_of_lt_of_le bl hbX.size; clear hbX hW)); replace RX := Lib.hid RXn; clear RXn)
    refine hK.out _ _ (by (try dsimp only); with_reducible exact b1) (fun hHeld => ?_)
    clear hK K
    try simp only [Act.put, List.getElem_toArray, List.getElem_cons_succ, List.getElem_cons_zero, List.setIfInBounds_toArray, List.set_cons_zero, List.set_cons_succ]
    refine wpAnyH_ready (rs := [4]) (by kernel_rfl) (by simp) ?_
    refine AllReadyH.cons rfl (fun K hK => ?_) AllReadyH.nil
    go_simp
    (go_at_call 56; refine (HC.out _ RX.out.bel).mono ?_; rintro e WX ⟨rfl, hb⟩; replace b1 := (hb.cell (p := ⟨w.heap.size, 1, none⟩) bl).trans b1; replace bl := Nat.lt_of_lt_of_le bl hb.size; replace RX := Lib.hid (RX.out.step hb); clear hb)
    go_wp2_with fail
    refine hK.out _ _ (by (try dsimp only); with_reducible exact b1) (fun hHeld => ?_)
    clear hK K
    try simp only [Act.put, List.getElem_toArray, List.getElem_cons_succ, List.getElem_cons_zero, List.setIfInBounds_toArray, List.set_cons_zero, List.set_cons_succ]
    refine wpAnyH_take (i := 6) (v := ?_) rfl (by kernel_rfl) (by kernel_rfl) (by kernel_rfl) (fun _ _ _ h => h) (Or.inl ⟨by rfl, ?_⟩) (by assumption) ?_
    rotate_left
    · intro w hSw; (try dsimp only at hSw); go_simp <;> with_reducible rfl
    try simp only [Act.put, List.getElem_toArray, List.getElem_cons_succ, List.getElem_cons_zero, List.setIfInBounds_toArray, List.set_cons_zero, List.set_cons_succ]
    refine wpAnyH_ready (rs := [5]) (by kernel_rfl) (by simp) ?_
    refine AllReadyH.cons rfl (fun K hK => ?_) AllReadyH.nil
    go_simp
    ((first | (obtain ⟨WX, gc, hW, hg, hbX, RXn⟩ := RX.out.litB c; rw [hW]; (try rw [hg]); replace b1 := (hbX.cell (p := ⟨w.heap.size, 1, none⟩) bl).trans b1; replace bl := Nat.lt_of_lt_of_le bl hbX.size; clear hbX hW) | (obtain ⟨WZ, gc, hW, hg, hbX, RXn⟩ := RN.out.litB c; rw [hW]; (try rw [hg]); replace RXn := RXn.drew; have bZ : WZ.drew.cell? ⟨w.heap.size, 1, none⟩ = some (.int .i64 c) := (hbX.cell (p := ⟨w.heap.size, 1, none⟩) BN.out.2).trans BN.out.1; have lZ : w.heap.size < WZ.drew.heap.size := Nat.lt_of_lt_of_le BN.out.2 hbX.size; clear hbX hW b1 bl; generalize WZ.drew = WX at RXn bZ lZ ⊢; have b1 := bZ; have bl := lZ; clear bZ lZ) | (obtain ⟨WX, gp, hW, hg, hbX, RXn⟩ := RX.out.litB P; rw [hW]; (try rw [hg]); replace b1 := (hbX.cell (p := ⟨w.heap.size, 1, none⟩) bl).trans b1; replace bl := Nat.lt_of_lt_of_le bl hbX.size; clear hbX hW)); replace RX := Lib.hid RXn; clear RXn)
    refine hK.out _ _ (by (try dsimp only); with_reducible exact b1) (fun hHeld => ?_)
    clear hK K
    try simp only [Act.put, List.getElem_toArray, List.getElem_cons_succ, List.getElem_cons_zero, List.setIfInBounds_toArray, List.set_cons_zero, List.set_cons_succ]
    refine wpAnyH_take (i := 7) (v := ?_) rfl (by kernel_rfl) (by kernel_rfl) (by kernel_rfl) (fun _ _ _ h => h) (Or.inl ⟨by rfl, ?_⟩) (by assumption) ?_
    rotate_left
    · intro w hSw; (try dsimp only at hSw); go_simp <;> with_reducible rfl
    try simp only [Act.put, List.getElem_toArray, List.getElem_cons_succ, List.getElem_cons_zero, List.setIfInBounds_toArray, List.set_cons_zero, List.set_cons_succ]
    refine wpAnyH_done (by kernel_rfl) ?_ _
  rotate_left 1
  focus
    go_simp
    (go_at_call 56; refine (HC.out _ RX.out.bel).mono ?_; rintro e WX ⟨rfl, hb⟩; replace b1 := (hb.cell (p := ⟨w.heap.size, 1, none⟩) bl).trans b1; replace bl := Nat.lt_of_lt_of_le bl hb.size; replace RX := Lib.hid (RX.out.step hb); clear hb)
    go_wp2_with fail
    refine hK.out _ _ (by (try dsimp only); with_reducible exact b1) (fun hHeld => ?_)
    clear hK K
    try simp only [Act.put, List.getElem_toArray, List.getElem_cons_succ, List.getElem_cons_zero, List.setIfInBounds_toArray, List.set_cons_zero, List.set_cons_succ]
    refine wpAnyH_ready (rs := [2, 5]) (by kernel_rfl) (by simp) ?_
    refine AllReadyH.cons rfl (fun K hK => ?_) (AllReadyH.cons rfl (fun K hK => ?_) AllReadyH.nil)
    focus
      go_simp
      ((first | (obtain ⟨WX, gc, hW, hg, hbX, RXn⟩ := RX.out.litB c; rw [hW]; (try rw [hg]); replace b1 := (hbX.cell (p := ⟨w.heap.size, 1, none⟩) bl).trans b1; replace bl := Nat.lt_of_lt_of_le bl hbX.size; clear hbX hW) | (obtain ⟨WZ, gc, hW, hg, hbX, RXn⟩ := RN.out.litB c; rw [hW]; (try rw [hg]); replace RXn := RXn.drew; have bZ : WZ.drew.cell? ⟨w.heap.size, 1, none⟩ = some (.int .i64 c) := (hbX.cell (p := ⟨w.heap.size, 1, none⟩) BN.out.2).trans BN.out.1; have lZ : w.heap.size < WZ.drew.heap.size := Nat.lt_of_lt_of_le BN.out.2 hbX.size; clear hbX hW b1 bl; generalize WZ.drew = WX at RXn bZ lZ ⊢; have b1 := bZ; have bl := lZ; clear bZ lZ) | (obtain ⟨WX, gp, hW, hg, hbX, RXn⟩ := RX.out.litB P; rw [hW]; (try rw [hg]); replace b1 := (hbX.cell (p := ⟨w.heap.size, 1, none⟩) bl).trans b1; replace bl := Nat.lt_of_lt_of_le bl hbX.size; clear hbX hW)); replace RX := Lib.hid RXn; clear RXn)
      refine hK.out _ _ (by (try dsimp only); with_reducible exact b1) (fun hHeld => ?_)
      clear hK K
      try simp only [Act.put, List.getElem_toArray, List.getElem_cons_succ, List.getElem_cons_zero, List.setIfInBounds_toArray, List.set_cons_zero, List.set_cons_succ]
      refine wpAnyH_take (i := 6) (v := ?_) rfl (by kernel_rfl) (by kernel_rfl) (by kernel_rfl) (fun _ _ _ h => h) (Or.inl ⟨by rfl, ?_⟩) (by assumption) ?_
      rotate_left
      · intro w hSw; (try dsimp only at hSw); go_simp <;> with_reducible rfl
      try simp only [Act.put, List.getElem_toArray, List.getElem_cons_succ, List.getElem_cons_zero, List.setIfInBounds_toArray, List.set_cons_zero, List.set_cons_succ]
      refine wpAnyH_ready (rs := [5]) (by kernel_rfl) (by simp) ?_
      refine AllReadyH.cons rfl (fun K hK => ?_) AllReadyH.nil
      go_simp
      ((first | (obtain ⟨WX, gc, hW, hg, hbX, RXn⟩ := RX.out.litB c; rw [hW]; (try rw [hg]); replace b1 := (hbX.cell (p := ⟨w.heap.size, 1, none⟩) bl).trans b1; replace bl := Nat.lt_of_lt_of_le bl hbX.size; clear hbX hW) | (obtain ⟨WZ, gc, hW, hg, hbX, RXn⟩ := RN.out.litB c; rw [hW]; (try rw [hg]); replace RXn := RXn.drew; have bZ : WZ.drew.cell? ⟨w.heap.size, 1, none⟩ = some (.int .i64 c) := (hbX.cell (p := ⟨w.heap.size, 1, none⟩) BN.out.2).trans BN.out.1; have lZ : w.heap.size < WZ.drew.heap.size := Nat.lt_of_lt_of_le BN.out.2 hbX.size; clear hbX hW b1 bl; generalize WZ.drew = WX at RXn bZ lZ ⊢; have b1 := bZ; have bl := lZ; clear bZ lZ) | (obtain ⟨WX, gp, hW, hg, hbX, RXn⟩ := RX.out.litB P; rw [hW]; (try rw [hg]); replace b1 := (hbX.cell (p := ⟨w.heap.size, 1, none⟩) bl).trans b1; replace bl := Nat.lt_of_lt_of_le bl hbX.size; clear hbX hW)); replace RX := Lib.hid RXn; clear RXn)
      refine hK.out _ _ (by (try dsimp only); with_reducible exact b1) (fun hHeld => ?_)
      clear hK K
      try simp only [Act.put, List.getElem_toArray, List.getElem_cons_succ, List.getElem_cons_zero, List.setIfInBounds_toArray, List.set_cons_zero, List.set_cons_succ]
      refine wpAnyH_take (i := 7) (v := ?_) rfl (by kernel_rfl) (by kernel_rfl) (by kernel_rfl) (fun _ _ _ h => h) (Or.inl ⟨by rfl, ?_⟩) (by assumption) ?_
      rotate_left
      · intro w hSw; (try dsimp only at hSw); go_simp <;> with_reducible rfl
      try simp only [Act.put, List.getElem_toArray, List.getElem_cons_succ, List.getElem_cons_zero, List.setIfInBounds_toArray, List.set_cons_zero, List.set_cons_succ]
      refine wpAnyH_done (by kernel_rfl) ?_ _
    rotate_left 1
    focus
      go_simp
      ((first | (obtain ⟨WX, gc, hW, hg, hbX, RXn⟩ := RX.out.litB c; rw [hW]; (try rw [hg]); replace b1 := (hbX.cell (p := ⟨w.heap.size, 1, none⟩) bl).trans b1; replace bl := Nat.lt_of_lt_of_le bl hbX.size; clear hbX hW) | (obtain ⟨WZ, gc, hW, hg, hbX, RXn⟩ := RN.out.litB c; rw [hW]; (try rw [hg]); replace RXn := RXn.drew; have bZ : WZ.drew.cell? ⟨w.heap.size, 1, none⟩ = some (.int .i64 c) := (hbX.cell (p := ⟨w.heap.size, 1, none⟩) BN.out.2).trans BN.out.1; have lZ : w.heap.size < WZ.drew.heap.size := Nat.lt_of_lt_of_le BN.out.2 hbX.size; clear hbX hW b1 bl; generalize WZ.drew = WX at RXn bZ lZ ⊢; have b1 := bZ; have bl := lZ; clear bZ lZ) | (obtain ⟨WX, gp, hW, hg, hbX, RXn⟩ := RX.out.litB P; rw [hW]; (try rw [hg]); replace b1 := (hbX.cell (p := ⟨w.heap.size, 1, none⟩) bl).trans b1; replace bl := Nat.lt_of_lt_of_le bl hbX.size; clear hbX hW)); replace RX := Lib.hid RXn; clear RXn)
      refine hK.out _ _ (by (try dsimp only); with_reducible exact b1) (fun hHeld => ?_)
      clear hK K
      try simp only [Act.put, List.getElem_toArray, List.getElem_cons_succ, List.getElem_cons_zero, List.setIfInBounds_toArray, List.set_cons_zero, List.set_cons_succ]
      refine wpAnyH_ready (rs := [2]) (by kernel_rfl) (by simp) ?_
      refine AllReadyH.cons rfl (fun K hK => ?_) AllReadyH.nil
      go_simp
      ((first | (obtain ⟨WX, gc, hW, hg, hbX, RXn⟩ := RX.out.litB c; rw [hW]; (try rw [hg]); replace b1 := (hbX.cell (p := ⟨w.heap.size, 1, none⟩) bl).trans b1; replace bl := Nat.lt_of_lt_of_le bl hbX.size; clear hbX hW) | (obtain ⟨WZ, gc, hW, hg, hbX, RXn⟩ := RN.out.litB c; rw [hW]; (try rw [hg]); replace RXn := RXn.drew; have bZ : WZ.drew.cell? ⟨w.heap.size, 1, none⟩ = some (.int .i64 c) := (hbX.cell (p := ⟨w.heap.size, 1, none⟩) BN.out.2).trans BN.out.1; have lZ : w.heap.size < WZ.drew.heap.size := Nat.lt_of_lt_of_le BN.out.2 hbX.size; clear hbX hW b1 bl; generalize WZ.drew = WX at RXn bZ lZ ⊢; have b1 := bZ; have bl := lZ; clear bZ lZ) | (obtain ⟨WX, gp, hW, hg, hbX, RXn⟩ := RX.out.litB P; rw [hW]; (try rw [hg]); replace b1 := (hbX.cell (p := ⟨w.heap.size, 1, none⟩) bl).trans b1; replace bl := Nat.lt_of_lt_of_le bl hbX.size; clear hbX hW)); replace RX := Lib.hid RXn; clear RXn)
      refine hK.out _ _ (by (try dsimp only); with_reducible exact b1) (fun hHeld => ?_)
      clear hK K
      try simp only [Act.put, List.getElem_toArray, List.getElem_cons_succ, List.getElem_cons_zero, List.setIfInBounds_toArray, List.set_cons_zero, List.set_cons_succ]
      refine wpAnyH_take (i := 6) (v := ?_) rfl (by kernel_rfl) (by kernel_rfl) (by kernel_rfl) (fun _ _ _ h => h) (Or.inl ⟨by rfl, ?_⟩) (by assumption) ?_
      rotate_left
      · intro w hSw; (try dsimp only at hSw); go_simp <;> with_reducible rfl
      try simp only [Act.put, List.getElem_toArray, List.getElem_cons_succ, List.getElem_cons_zero, List.setIfInBounds_toArray, List.set_cons_zero, List.set_cons_succ]
      refine wpAnyH_take (i := 7) (v := ?_) rfl (by kernel_rfl) (by kernel_rfl) (by kernel_rfl) (fun _ _ _ h => h) (Or.inl ⟨by rfl, ?_⟩) (by assumption) ?_
      rotate_left
      · intro w hSw; (try dsimp only at hSw); go_simp <;> with_reducible rfl
      try simp only [Act.put, List.getElem_toArray, List.getElem_cons_succ, List.getElem_cons_zero, List.setIfInBounds_toArray, List.set_cons_zero, List.set_cons_succ]
      refine wpAnyH_done (by kernel_rfl) ?_ _
    rotate_left 1
  rotate_left 2
  all_goals
    go_wp2
    refine bodyPost_ret (v := .tuple #[.slice (some ⟨gc, 0, none⟩) 1 1, .slice (some ⟨gp, 0, none⟩) 1 1]) (by simp [results, Tryz.results153, go_sem]) rfl ?_
    exact ⟨_, _, rfl, RX.out.bel, RX.out.rd (v := .slice (some ⟨gc, 0, none⟩) 1 1) (xs := [c]) (by simp), RX.out.rd (v := .slice (some ⟨gp, 0, none⟩) 1 1) (xs := [P]) (by simp)⟩
theorem dimsA_axesL {L D : List Int} (hl : L.length = D.length) : dimsA (axesL L D) = D := by
  unfold dimsA axesL
  rw [List.map_map]
  refine List.ext_getElem? fun i => ?_
  rw [List.getElem?_map]
  by_cases h : i < L.length
  · rw [List.getElem?_range h, List.getElem?_eq_getElem (show i < D.length by omega)]
    simp only [Option.map_some, Function.comp_def]
    rw [getD_at (List.getElem?_eq_getElem (show i < D.length by omega))]
  · rw [List.getElem?_eq_none (by simp; omega), List.getElem?_eq_none (by omega)]; rfl
theorem axTo_dims {L D F : List Int} : dimsA (AxTo L D F) = dimsVia L D F ∧ (AxTo L D F).length = F.length := by
  have h1 : dimsA (axesL (regL L F) (dimsVia L D (regL L F))) = dimsVia L D (regL L F) := dimsA_axesL (by rw [dimsVia_len])
  constructor
  · unfold AxTo
    show ((axesL (regL L F) (dimsVia L D (regL L F))).drop _).map _ = _
    rw [List.map_drop]
    have h2 : (axesL (regL L F) (dimsVia L D (regL L F))).map (fun a => a.2.1) = dimsVia L D (regL L F) := h1
    rw [h2]
    unfold regL
    rw [dims_app]
    exact List.drop_left' (by rw [dimsVia_len])
  · unfold AxTo
    rw [List.length_drop, axesL_len]
    unfold regL
    rw [List.length_append]
    omega
set_option maxHeartbeats 3200000 in
theorem fuse_labels_impl {B : Nat} {lv dv xv fv : Value} {k p q c : Int} {L D X F : List Int} {w : World} (ha : RdT B w lv dv xv L D X) (hf : Rd B w fv (ints F)) (hB : B ≤ w.heap.size) (hn : LenT L D X) (hmf : F.length ≤ 1048576) (hI : allI L) (hv : -9223372036854775808 ≤ c ∧ c ≤ 9223372036854775807) :
    Calls Tryz.prog 26 #[ringV k p q, tenV lv dv xv, fv, .int .i64 c] w (NewTen2 w (if fuseB k p q L D X F c = true then fuseL L F c else []) (if fuseB k p q L D X F c = true then fuseD L D F else []) (if fuseB k p q L D X F c = true then regX k q L D X F else []) (fuseB k p q L D X F c)) := by
  have HT : Hid (RdT w.heap.size w lv dv xv L D X) := Lib.hid ⟨ha.l.mono hB, ha.d.mono hB, ha.x.mono hB⟩
  have HF : Hid (Rd w.heap.size w fv (ints F)) := Lib.hid (hf.mono hB)
  obtain ⟨al, cl, rfl, -⟩ := ints_form ha.l
  obtain ⟨ad, cd, rfl, -⟩ := ints_form ha.d
  obtain ⟨ax, cx, rfl, -⟩ := ints_form ha.x
  obtain ⟨af, cf, rfl, -⟩ := ints_form hf
  obtain ⟨m1, hm1⟩ : ∃ m, m = L.length := ⟨_, rfl⟩
  obtain ⟨m2, hm2⟩ : ∃ m, m = D.length := ⟨_, rfl⟩
  obtain ⟨m3, hm3⟩ : ∃ m, m = X.length := ⟨_, rfl⟩
  rw [← hm1, ← hm2, ← hm3] at HT ⊢
  obtain ⟨mf, hm4⟩ : ∃ m, m = F.length := ⟨_, rfl⟩
  rw [← hm4] at HF ⊢
  have R0 : Hid (Rs w (((w.alloc (.cells #[.int .i64 k, .int .i64 p, .int .i64 q] 24)).alloc (.cells #[.slice al m1 cl, .slice ad m2 cd, .slice ax m3 cx] 28)).alloc (.cells #[nilV, nilV, nilV] 28)) [(w.heap.size + 1 + 1, nilV, nilV, nilV), (w.heap.size + 1, .slice al m1 cl, .slice ad m2 cd, .slice ax m3 cx), (w.heap.size, .int .i64 k, .int .i64 p, .int .i64 q)] []) := by
    have h := ((((Rs.start w).box (.int .i64 k) (.int .i64 p) (.int .i64 q) 24).box (.slice al m1 cl) (.slice ad m2 cd) (.slice ax m3 cx) 28).box (nilV) (nilV) (nilV) 28)
    simp only [World.size_alloc] at h
    exact h
  have HQ := Lib.hid (regroup_any (k := k) (p := p) (q := q) (F := F) (A := [c]) (G := [prodL (dimsVia L D F)]) (x := .agg #[.slice af mf cf, .int .i64 c]) (HT.out.below R0.out.bel (Nat.le_refl _)) R0.out.bel.size hn hI (fun z hz => by simp at hz; subst hz; exact hv) hmf (by simp) (by simp)
    (fun n W => fus_from_m n _ W) (fun n W => fus_to_m n _ W) (fun n W => fus_nil n _ W) (fun W => fus_from_c _ W) (fun W av => fus_to_c _ av W)
    (fun W hb => fus_from (B := w.heap.size) (HF.out.below ((R0.out.step hb).bel) (Nat.le_refl _)) (R0.out.step hb).bel.size)
    (fun W av hb ht hs hr => by
      have hx := axTo_dims (L := L) (D := D) (F := F)
      obtain ⟨g1, g2, g3, g4, g5, g6⟩ := fuse_dims ht hs
      have h := fus_to (c := c) (fv := .slice af mf cf) (AX := AxTo L D F) (w := W) (by rw [hx.2]; have := (rest_perm (TF.of ht).ax.2.2.2.2 hs).length_eq; unfold regL at this; rw [List.length_append] at this; have := (TF.of ht).ax.1; omega) (by rw [hx.1]; exact g1) (by rw [hx.1]; omega) hr (Nat.le_refl _)
      rw [hx.1] at h
      exact h))
  rw [reg_fuse] at HQ
  obtain ⟨fb, hfb⟩ : ∃ x, x = fuseB k p q L D X F c := ⟨_, rfl⟩
  rw [← hfb] at HQ ⊢
  obtain ⟨zl, hzl⟩ : ∃ l, l = (if fb = true then fuseL L F c else []) := ⟨_, rfl⟩
  obtain ⟨zd, hzd⟩ : ∃ l, l = (if fb = true then fuseD L D F else []) := ⟨_, rfl⟩
  obtain ⟨zx, hzx⟩ : ∃ l, l = (if fb = true then regX k q L D X F else []) := ⟨_, rfl⟩
  have HNO : Hid (fb = false → zl = [] ∧ zd = [] ∧ zx = []) := Lib.hid (fun h => by subst h; exact ⟨hzl, hzd, hzx⟩)
  have HYES : Hid (fb = true → zl = fuseL L F c ∧ zd = fuseD L D F ∧ zx = regX k q L D X F) := Lib.hid (fun h => by subst h; exact ⟨hzl, hzd, hzx⟩)
  rw [← hzl, ← hzd, ← hzx]
  clear hzl hzd hzx
  have HQ2 := HQ
  rw [show (if fb = true then restL F L ++ [c] else []) = zl from by
      cases fb with
      | true => exact (HYES.out rfl).1.symm
      | false => exact (HNO.out rfl).1.symm, show (if fb = true then dimsVia L D (restL F L) ++ [prodL (dimsVia L D F)] else []) = zd from by
      cases fb with
      | true => exact (HYES.out rfl).2.1.symm
      | false => exact (HNO.out rfl).2.1.symm, show (if fb = true then regX k q L D X F else []) = zx from by
      cases fb with
      | true => exact (HYES.out rfl).2.2.symm
      | false => exact (HNO.out rfl).2.2.symm] at HQ2
  clear ha hf hB hn hmf hI hv hm1 hm2 hm3 hm4 hfb HQ
  obtain ⟨⟨r0, r1, r2⟩, -⟩ := R0.out.at (r := w.heap.size) (a := .int .i64 k) (b := .int .i64 p) (c := .int .i64 q) (by simp)
  obtain ⟨⟨s0, s1, s2⟩, -⟩ := R0.out.at (r := w.heap.size + 1) (a := .slice al m1 cl) (b := .slice ad m2 cd) (c := .slice ax m3 cx) (by simp)
  go_enter Tryz.func26, Tryz.ntmps26
  go_wp2_with fail
  refine HQ2.out.mono ?_
  clear r0 r1 r2 s0 s1 s2 HQ2
  rintro e w5 ⟨l', d', x', rfl, ho, hb⟩
  have R5 := Lib.hid (R0.out.step hb)
  obtain ⟨a1, c1, rfl, -⟩ := ints_form ho.rows.1.rd
  obtain ⟨a2, c2, rfl, -⟩ := ints_form ho.rows.2.1.rd
  obtain ⟨a3, c3, rfl, -⟩ := ints_form ho.rows.2.2.rd
  have lt1 := (R0.out.bx (w.heap.size + 1 + 1, nilV, nilV, nilV) (by simp)).lt
  have hz1 := R0.out.bel.size
  obtain ⟨q1, hq1⟩ : ∃ m, m = List.length (zl) := ⟨_, rfl⟩
  obtain ⟨q2, hq2⟩ : ∃ m, m = List.length (zd) := ⟨_, rfl⟩
  obtain ⟨q3, hq3⟩ : ∃ m, m = List.length (zx) := ⟨_, rfl⟩
  rw [← hq1, ← hq2, ← hq3] at ho ⊢
  have HO := Lib.hid (ho.set3 lt1 (.slice a1 q1 c1) (.slice a2 q2 c2) (.slice a3 q3 c3))
  clear hb ho hq1 hq2 hq3
  obtain ⟨⟨t0, t1, t2⟩, f0, f1, f2⟩ := R5.out.at (r := w.heap.size + 1 + 1) (a := nilV) (b := nilV) (c := nilV) (by simp)
  go_wp2
  refine bodyPost_ret (v := .tuple #[tenV (.slice a1 q1 c1) (.slice a2 q2 c2) (.slice a3 q3 c3), .bool fb]) (by simp [results, Tryz.results26, go_sem, t0, t1, t2]) rfl ?_
  refine ⟨_, _, _, rfl, ?_, ((R5.out.bel.setCell (by simp; omega) _).setCell (by simp; omega) _).setCell (by simp; omega) _⟩
  exact HO.out.wide hz1 (by simp) (by simp)
end Go.Proofs.YtceidekfcnmeaaaGreat
