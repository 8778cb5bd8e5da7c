
/- spec.SplitLabel. -/
import Derived.Test.YtgdkllhgaikpnaaRegMath
namespace Go.Proofs.Ytgdkllhgaikpnaa
set_option maxRecDepth 20000
open Go.RowKit

/-- A row is brought to the front, where the first is or the second. -/
theorem rs_front {w0 wr : World} {bs : List BxE} {rows : List RowE} {v : Value} {xs : List Int} (h : Rs w0 wr bs rows) (hm : (∃ r, rows = (v, xs) :: r) ∨ (∃ a r, rows = a :: (v, xs) :: r)) : ∃ r : List RowE, Rs w0 wr bs ((v, xs) :: r) ∧ (rows.drop 2).Sublist r := by
  rcases hm with ⟨r, rfl⟩ | ⟨a, r, rfl⟩
  · exact ⟨r, h, List.drop_sublist 1 r⟩
  · exact ⟨a :: r, h.swap, List.sublist_cons_self a r⟩
set_option maxHeartbeats 16000000 in
theorem split_label_spec {B : Nat} {lv dv xv av gv : Value} {k p q b : Int} {L D X A G : List Int} {w : World} (ha : RdT B w lv dv xv L D X) (hav : Rd B w av (ints A)) (hgv : Rd B w gv (ints G)) (hB : B ≤ w.heap.size) (hn : LenT L D X) (hmA : A.length ≤ 1048576) (hmG : G.length ≤ 1048576) :
    Calls Try.prog 24 #[ringV k p q, tenV lv dv xv, .int .i64 b, av, gv] w (NewTen2 w (if regB k p q L D X [b] A G = true then restL [b] L ++ A else []) (if regB k p q L D X [b] A G = true then dimsVia L D (restL [b] L) ++ G else []) (if regB k p q L D X [b] A G = true then regX k q L D X [b] else []) (regB k p q L D X [b] A G)) := by
  have HT : Hid (RdT w.heap.size w lv dv xv L D X) := Lib.hid ⟨ha.l.mono hB, ha.d.mono hB, ha.x.mono hB⟩
  have HA : Hid (Rd w.heap.size w av (ints A)) := Lib.hid (hav.mono hB)
  have HG : Hid (Rd w.heap.size w gv (ints G)) := Lib.hid (hgv.mono hB)
  obtain ⟨al, cl, rfl, -⟩ := ints_form ha.l
  obtain ⟨ad, cd, rfl, -⟩ := ints_form ha.d
  obtain ⟨ax, cx, rfl, -⟩ := ints_form ha.x
  obtain ⟨aA, cA, rfl, -⟩ := ints_form hav
  obtain ⟨aG, cG, rfl, -⟩ := ints_form hgv
  obtain ⟨m1, hm1⟩ : ∃ m, m = L.length := ⟨_, rfl⟩
  obtain ⟨m2, hm2⟩ : ∃ m, m = D.length := ⟨_, rfl⟩
  obtain ⟨m3, hm3⟩ : ∃ m, m = X.length := ⟨_, rfl⟩
  obtain ⟨mA, hmA2⟩ : ∃ m, m = A.length := ⟨_, rfl⟩
  obtain ⟨mG, hmG2⟩ : ∃ m, m = G.length := ⟨_, rfl⟩
  rw [← hm1, ← hm2, ← hm3] at HT
  rw [← hmA2] at HA hmA
  rw [← hmG2] at HG hmG
  rw [← hm1, ← hm2, ← hm3, ← hmA2, ← hmG2]
  have HM := Lib.hid (And.intro hm1 (And.intro hm2 (And.intro hm3 (And.intro hmA2 hmG2))))
  obtain ⟨i0, hi, hz0, hz1, hz2⟩ := info_parts infoInt
  have J0 := Lib.hid hi
  have J1 := Lib.hid hz0
  have J2 := Lib.hid hz1
  have J3 := Lib.hid hz2
  have R0 : Hid (Rs w (((w.alloc (.cells #[.int .i64 k, .int .i64 p, .int .i64 q] 31)).alloc (.cells #[.slice al m1 cl, .slice ad m2 cd, .slice ax m3 cx] 28)).alloc (.cells #[nilV, nilV, nilV] 28)) [(w.heap.size + 1 + 1, nilV, nilV, nilV), (w.heap.size + 1, .slice al m1 cl, .slice ad m2 cd, .slice ax m3 cx), (w.heap.size, .int .i64 k, .int .i64 p, .int .i64 q)] []) := by
    have h := ((((Rs.start w).box (.int .i64 k) (.int .i64 p) (.int .i64 q) 31).box (.slice al m1 cl) (.slice ad m2 cd) (.slice ax m3 cx) 28).box (nilV) (nilV) (nilV) 28)
    simp only [World.size_alloc] at h
    exact h
  have OKA := Lib.hid (fun (w1 : World) (hb : Below w.heap.size w w1) => tensor_ok_spec (k := k) (p := p) (n := q) (HT.out.below hb (Nat.le_refl _)) hb.size hn)
  have HAX := Lib.hid (fun (w1 : World) (hb : Below w.heap.size w w1) => axes_spec (HA.out.below hb (Nat.le_refl _)) (HG.out.below hb (Nat.le_refl _)) (by rw [← HM.out.2.2.2.1]; omega) (by rw [← HM.out.2.2.2.2]; omega))
  have HF1 := Lib.hid (find_spec b (HT.out.l.below R0.out.bel (Nat.le_refl _)) hn.l)
  obtain ⟨tb, htb⟩ : ∃ x, x = tensorB k p q L D X := ⟨_, rfl⟩
  obtain ⟨xb, hxb⟩ : ∃ x, x = axesB A G := ⟨_, rfl⟩
  obtain ⟨zi, hzi⟩ : ∃ z, z = findI L b := ⟨_, rfl⟩
  obtain ⟨s, hs⟩ : ∃ x, x = sizeI (restL [b] L ++ A) (dimsVia L D (restL [b] L) ++ G) := ⟨_, rfl⟩
  obtain ⟨fb, hfb⟩ : ∃ x, x = regB k p q L D X [b] A G := ⟨_, rfl⟩
  have HFB : Hid (fb = (tb && (decide (b ∈ L) && (decide (1 ≤ mA) && (xb && (decide (capI G = D.getD (L.idxOf b) 0) && decide (0 ≤ s))))))) := Lib.hid (by rw [hfb, htb, hxb, hs, hmA2]; exact reg_split)
  have HTB := Lib.hid htb
  have HXB := Lib.hid hxb
  have HZI := Lib.hid hzi
  have HS := Lib.hid hs
  rw [← htb] at OKA
  rw [← hxb] at HAX
  rw [← hzi] at HF1
  rw [← hfb]
  obtain ⟨zl, hzl⟩ : ∃ l, l = (if fb = true then restL [b] L ++ A else []) := ⟨_, rfl⟩
  obtain ⟨zd, hzd⟩ : ∃ l, l = (if fb = true then dimsVia L D (restL [b] L) ++ G else []) := ⟨_, rfl⟩
  obtain ⟨zx, hzx⟩ : ∃ l, l = (if fb = true then regX k q L D X [b] else []) := ⟨_, rfl⟩
  have HNO : Hid (fb = false → zl = [] ∧ zd = [] ∧ zx = []) := Lib.hid (fun h => by subst h; exact ⟨hzl, hzd, hzx⟩)
  have HYES : Hid (fb = true → zl = restL [b] L ++ A ∧ zd = dimsVia L D (restL [b] L) ++ G ∧ zx = regX k q L D X [b]) := Lib.hid (fun h => by subst h; exact ⟨hzl, hzd, hzx⟩)
  rw [← hzl, ← hzd, ← hzx]
  clear ha hav hgv hB hn hm1 hm2 hm3 hmA2 hmG2 htb hxb hzi hs hfb hzl hzd hzx hi hz0 hz1 hz2
  have RX := Lib.hid R0.out.drew
  obtain ⟨⟨s0, s1, s2⟩, -⟩ := R0.out.at (r := w.heap.size + 1) (a := .slice al m1 cl) (b := .slice ad m2 cd) (c := .slice ax m3 cx) (by simp)
  cases tb with
  | false =>
    obtain rfl : fb = false := by rw [HFB.out]; rfl
    go_enter Try.func24, Try.ntmps24
    go_wp2_with fail
    refine HF1.out.mono ?_
    rintro e w0 ⟨rfl, rfl⟩
    clear s0 s1 s2
    obtain ⟨⟨r0, r1, r2⟩, -⟩ := RX.out.at (r := w.heap.size) (a := .int .i64 k) (b := .int .i64 p) (c := .int .i64 q) (by simp)
    obtain ⟨⟨s0, s1, s2⟩, -⟩ := RX.out.at (r := w.heap.size + 1) (a := .slice al m1 cl) (b := .slice ad m2 cd) (c := .slice ax m3 cx) (by simp)
    go_wp2
    refine wp_region_held_drew (S := (fun w' => (w'.cell? ⟨w.heap.size, 0, none⟩ = some (.int .i64 k) ∧ w'.cell? ⟨w.heap.size, 1, none⟩ = some (.int .i64 p) ∧ w'.cell? ⟨w.heap.size, 2, none⟩ = some (.int .i64 q)) ∧ (w'.cell? ⟨w.heap.size + 1, 0, none⟩ = some (.slice al m1 cl) ∧ w'.cell? ⟨w.heap.size + 1, 1, none⟩ = some (.slice ad m2 cd) ∧ w'.cell? ⟨w.heap.size + 1, 2, none⟩ = some (.slice ax m3 cx)))) (by kernel_rfl) (by (try dsimp only); with_reducible exact ⟨⟨r0, r1, r2⟩, ⟨s0, s1, s2⟩⟩) (fun hHeld => ?_)
    refine wpAnyH_take (i := 0) (v := ?_) rfl (by kernel_rfl) (by kernel_rfl) (by kernel_rfl) (fun _ _ _ h => h) (Or.inl ⟨by rfl, ?_⟩) (by assumption) ?_
    rotate_left
    · intro w hSw; (try dsimp only at hSw); go_simp <;> with_reducible rfl
    try simp only [Act.put, List.getElem_toArray, List.getElem_cons_zero, List.setIfInBounds_toArray, List.set_cons_zero, List.set_cons_succ]
    refine wpAnyH_take (i := 1) (v := ?_) rfl (by kernel_rfl) (by kernel_rfl) (by kernel_rfl) (fun _ _ _ h => h) (Or.inl ⟨by rfl, ?_⟩) (by assumption) ?_
    rotate_left
    · intro w hSw; (try dsimp only at hSw); go_simp <;> with_reducible rfl
    try simp only [Act.put, List.getElem_toArray, List.getElem_cons_succ, List.getElem_cons_zero, List.setIfInBounds_toArray, List.set_cons_zero, List.set_cons_succ]
    refine wpAnyH_ready (rs := [2]) (by kernel_rfl) (by simp) ?_
    refine AllReadyH.cons rfl (fun K hK => ?_) AllReadyH.nil
    go_simp
    (go_at_call 30; refine (OKA.out _ RX.out.bel).mono ?_; rintro e WX ⟨rfl, hb⟩; replace RX := Lib.hid (RX.out.step hb); clear hb r0 r1 r2 s0 s1 s2; obtain ⟨⟨r0, r1, r2⟩, -⟩ := RX.out.at (r := w.heap.size) (a := .int .i64 k) (b := .int .i64 p) (c := .int .i64 q) (by simp); obtain ⟨⟨s0, s1, s2⟩, -⟩ := RX.out.at (r := w.heap.size + 1) (a := .slice al m1 cl) (b := .slice ad m2 cd) (c := .slice ax m3 cx) (by simp))
    go_wp2_with fail
    refine hK.out _ _ (by (try dsimp only); with_reducible exact ⟨⟨r0, r1, r2⟩, ⟨s0, s1, s2⟩⟩) (fun hHeld => ?_)
    clear hK K
    try simp only [Act.put, List.getElem_toArray, List.getElem_cons_succ, List.getElem_cons_zero, List.setIfInBounds_toArray, List.set_cons_zero, List.set_cons_succ]
    refine wpAnyH_take (i := 3) (v := ?_) rfl (by kernel_rfl) (by kernel_rfl) (by kernel_rfl) (fun _ _ _ h => h) (Or.inl ⟨by rfl, ?_⟩) (by assumption) ?_
    rotate_left
    · intro w hSw; (try dsimp only at hSw); go_simp <;> with_reducible rfl
    try simp only [Act.put, List.getElem_toArray, List.getElem_cons_succ, List.getElem_cons_zero, List.setIfInBounds_toArray, List.set_cons_zero, List.set_cons_succ]
    refine wpAnyH_take (i := 4) (v := ?_) rfl (by kernel_rfl) (by kernel_rfl) (by kernel_rfl) (fun _ _ _ h => h) (Or.inl ⟨by rfl, ?_⟩) (by assumption) ?_
    rotate_left
    · intro w hSw; (try dsimp only at hSw); go_simp <;> with_reducible rfl
    try simp only [Act.put, List.getElem_toArray, List.getElem_cons_succ, List.getElem_cons_zero, List.setIfInBounds_toArray, List.set_cons_zero, List.set_cons_succ]
    refine wpAnyH_take (i := 5) (v := undef) rfl (by kernel_rfl) (by kernel_rfl) (by kernel_rfl) (fun _ _ _ h => h) (Or.inr ⟨by rfl, rfl⟩) (by assumption) ?_
    try simp only [Act.put, List.getElem_toArray, List.getElem_cons_succ, List.getElem_cons_zero, List.setIfInBounds_toArray, List.set_cons_zero, List.set_cons_succ]
    refine wpAnyH_take (i := 6) (v := undef) rfl (by kernel_rfl) (by kernel_rfl) (by kernel_rfl) (fun _ _ _ h => h) (Or.inr ⟨by rfl, rfl⟩) (by assumption) ?_
    try simp only [Act.put, List.getElem_toArray, List.getElem_cons_succ, List.getElem_cons_zero, List.setIfInBounds_toArray, List.set_cons_zero, List.set_cons_succ]
    refine wpAnyH_take (i := 7) (v := ?_) rfl (by kernel_rfl) (by kernel_rfl) (by kernel_rfl) (fun _ _ _ h => h) (Or.inl ⟨by rfl, ?_⟩) (by assumption) ?_
    rotate_left
    · intro w hSw; (try dsimp only at hSw); go_simp <;> with_reducible rfl
    try simp only [Act.put, List.getElem_toArray, List.getElem_cons_succ, List.getElem_cons_zero, List.setIfInBounds_toArray, List.set_cons_zero, List.set_cons_succ]
    refine wpAnyH_take (i := 8) (v := ?_) rfl (by kernel_rfl) (by kernel_rfl) (by kernel_rfl) (fun _ _ _ h => h) (Or.inl ⟨by rfl, ?_⟩) (by assumption) ?_
    rotate_left
    · intro w hSw; (try dsimp only at hSw); go_simp <;> with_reducible rfl
    try simp only [Act.put, List.getElem_toArray, List.getElem_cons_succ, List.getElem_cons_zero, List.setIfInBounds_toArray, List.set_cons_zero, List.set_cons_succ]
    refine wpAnyH_take (i := 9) (v := undef) rfl (by kernel_rfl) (by kernel_rfl) (by kernel_rfl) (fun _ _ _ h => h) (Or.inr ⟨by rfl, rfl⟩) (by assumption) ?_
    try simp only [Act.put, List.getElem_toArray, List.getElem_cons_succ, List.getElem_cons_zero, List.setIfInBounds_toArray, List.set_cons_zero, List.set_cons_succ]
    refine wpAnyH_take (i := 10) (v := undef) rfl (by kernel_rfl) (by kernel_rfl) (by kernel_rfl) (fun _ _ _ h => h) (Or.inr ⟨by rfl, rfl⟩) (by assumption) ?_
    try simp only [Act.put, List.getElem_toArray, List.getElem_cons_succ, List.getElem_cons_zero, List.setIfInBounds_toArray, List.set_cons_zero, List.set_cons_succ]
    refine wpAnyH_take (i := 11) (v := undef) rfl (by kernel_rfl) (by kernel_rfl) (by kernel_rfl) (fun _ _ _ h => h) (Or.inr ⟨by rfl, rfl⟩) (by assumption) ?_
    try simp only [Act.put, List.getElem_toArray, List.getElem_cons_succ, List.getElem_cons_zero, List.setIfInBounds_toArray, List.set_cons_zero, List.set_cons_succ]
    refine wpAnyH_take (i := 12) (v := ?_) rfl (by kernel_rfl) (by kernel_rfl) (by kernel_rfl) (fun _ _ _ h => h) (Or.inl ⟨by rfl, ?_⟩) (by assumption) ?_
    rotate_left
    · intro w hSw; (try dsimp only at hSw); go_simp <;> with_reducible rfl
    try simp only [Act.put, List.getElem_toArray, List.getElem_cons_succ, List.getElem_cons_zero, List.setIfInBounds_toArray, List.set_cons_zero, List.set_cons_succ]
    refine wpAnyH_take (i := 13) (v := ?_) rfl (by kernel_rfl) (by kernel_rfl) (by kernel_rfl) (fun _ _ _ h => h) (Or.inl ⟨by rfl, ?_⟩) (by assumption) ?_
    rotate_left
    · intro w hSw; (try dsimp only at hSw); go_simp <;> with_reducible rfl
    try simp only [Act.put, List.getElem_toArray, List.getElem_cons_succ, List.getElem_cons_zero, List.setIfInBounds_toArray, List.set_cons_zero, List.set_cons_succ]
    refine wpAnyH_take (i := 14) (v := undef) rfl (by kernel_rfl) (by kernel_rfl) (by kernel_rfl) (fun _ _ _ h => h) (Or.inr ⟨by rfl, rfl⟩) (by assumption) ?_
    try simp only [Act.put, List.getElem_toArray, List.getElem_cons_succ, List.getElem_cons_zero, List.setIfInBounds_toArray, List.set_cons_zero, List.set_cons_succ]
    refine wpAnyH_take (i := 15) (v := undef) rfl (by kernel_rfl) (by kernel_rfl) (by kernel_rfl) (fun _ _ _ h => h) (Or.inr ⟨by rfl, rfl⟩) (by assumption) ?_
    try simp only [Act.put, List.getElem_toArray, List.getElem_cons_succ, List.getElem_cons_zero, List.setIfInBounds_toArray, List.set_cons_zero, List.set_cons_succ]
    refine wpAnyH_take (i := 16) (v := undef) rfl (by kernel_rfl) (by kernel_rfl) (by kernel_rfl) (fun _ _ _ h => h) (Or.inr ⟨by rfl, rfl⟩) (by assumption) ?_
    try simp only [Act.put, List.getElem_toArray, List.getElem_cons_succ, List.getElem_cons_zero, List.setIfInBounds_toArray, List.set_cons_zero, List.set_cons_succ]
    refine wpAnyH_take (i := 17) (v := undef) rfl (by kernel_rfl) (by kernel_rfl) (by kernel_rfl) (fun _ _ _ h => h) (Or.inr ⟨by rfl, rfl⟩) (by assumption) ?_
    try simp only [Act.put, List.getElem_toArray, List.getElem_cons_succ, List.getElem_cons_zero, List.setIfInBounds_toArray, List.set_cons_zero, List.set_cons_succ]
    refine wpAnyH_take (i := 18) (v := ?_) rfl (by kernel_rfl) (by kernel_rfl) (by kernel_rfl) (fun _ _ _ h => h) (Or.inl ⟨by rfl, ?_⟩) (by assumption) ?_
    rotate_left
    · intro w hSw; (try dsimp only at hSw); go_simp <;> with_reducible rfl
    try simp only [Act.put, List.getElem_toArray, List.getElem_cons_succ, List.getElem_cons_zero, List.setIfInBounds_toArray, List.set_cons_zero, List.set_cons_succ]
    refine wpAnyH_take (i := 19) (v := ?_) rfl (by kernel_rfl) (by kernel_rfl) (by kernel_rfl) (fun _ _ _ h => h) (Or.inl ⟨by rfl, ?_⟩) (by assumption) ?_
    rotate_left
    · intro w hSw; (try dsimp only at hSw); go_simp <;> with_reducible rfl
    try simp only [Act.put, List.getElem_toArray, List.getElem_cons_succ, List.getElem_cons_zero, List.setIfInBounds_toArray, List.set_cons_zero, List.set_cons_succ]
    refine wpAnyH_take (i := 20) (v := undef) rfl (by kernel_rfl) (by kernel_rfl) (by kernel_rfl) (fun _ _ _ h => h) (Or.inr ⟨by rfl, rfl⟩) (by assumption) ?_
    try simp only [Act.put, List.getElem_toArray, List.getElem_cons_succ, List.getElem_cons_zero, List.setIfInBounds_toArray, List.set_cons_zero, List.set_cons_succ]
    refine wpAnyH_take (i := 21) (v := undef) rfl (by kernel_rfl) (by kernel_rfl) (by kernel_rfl) (fun _ _ _ h => h) (Or.inr ⟨by rfl, rfl⟩) (by assumption) ?_
    try simp only [Act.put, List.getElem_toArray, List.getElem_cons_succ, List.getElem_cons_zero, List.setIfInBounds_toArray, List.set_cons_zero, List.set_cons_succ]
    refine wpAnyH_take (i := 22) (v := undef) rfl (by kernel_rfl) (by kernel_rfl) (by kernel_rfl) (fun _ _ _ h => h) (Or.inr ⟨by rfl, rfl⟩) (by assumption) ?_
    try simp only [Act.put, List.getElem_toArray, List.getElem_cons_succ, List.getElem_cons_zero, List.setIfInBounds_toArray, List.set_cons_zero, List.set_cons_succ]
    refine wpAnyH_take (i := 23) (v := undef) rfl (by kernel_rfl) (by kernel_rfl) (by kernel_rfl) (fun _ _ _ h => h) (Or.inr ⟨by rfl, rfl⟩) (by assumption) ?_
    try simp only [Act.put, List.getElem_toArray, List.getElem_cons_succ, List.getElem_cons_zero, List.setIfInBounds_toArray, List.set_cons_zero, List.set_cons_succ]
    refine wpAnyH_take (i := 24) (v := undef) rfl (by kernel_rfl) (by kernel_rfl) (by kernel_rfl) (fun _ _ _ h => h) (Or.inr ⟨by rfl, rfl⟩) (by assumption) ?_
    try simp only [Act.put, List.getElem_toArray, List.getElem_cons_succ, List.getElem_cons_zero, List.setIfInBounds_toArray, List.set_cons_zero, List.set_cons_succ]
    refine wpAnyH_take (i := 25) (v := undef) rfl (by kernel_rfl) (by kernel_rfl) (by kernel_rfl) (fun _ _ _ h => h) (Or.inr ⟨by rfl, rfl⟩) (by assumption) ?_
    try simp only [Act.put, List.getElem_toArray, List.getElem_cons_succ, List.getElem_cons_zero, List.setIfInBounds_toArray, List.set_cons_zero, List.set_cons_succ]
    refine wpAnyH_take (i := 26) (v := undef) rfl (by kernel_rfl) (by kernel_rfl) (by kernel_rfl) (fun _ _ _ h => h) (Or.inr ⟨by rfl, rfl⟩) (by assumption) ?_
    try simp only [Act.put, List.getElem_toArray, List.getElem_cons_succ, List.getElem_cons_zero, List.setIfInBounds_toArray, List.set_cons_zero, List.set_cons_succ]
    refine wpAnyH_take (i := 27) (v := undef) rfl (by kernel_rfl) (by kernel_rfl) (by kernel_rfl) (fun _ _ _ h => h) (Or.inr ⟨by rfl, rfl⟩) (by assumption) ?_
    try simp only [Act.put, List.getElem_toArray, List.getElem_cons_succ, List.getElem_cons_zero, List.setIfInBounds_toArray, List.set_cons_zero, List.set_cons_succ]
    refine wpAnyH_take (i := 28) (v := ?_) rfl (by kernel_rfl) (by kernel_rfl) (by kernel_rfl) (fun _ _ _ h => h) (Or.inl ⟨by rfl, ?_⟩) (by assumption) ?_
    rotate_left
    · intro w hSw; (try dsimp only at hSw); go_simp <;> with_reducible rfl
    try simp only [Act.put, List.getElem_toArray, List.getElem_cons_succ, List.getElem_cons_zero, List.setIfInBounds_toArray, List.set_cons_zero, List.set_cons_succ]
    refine wpAnyH_done (by kernel_rfl) ?_ _
    clear r0 r1 r2 s0 s1 s2
    obtain ⟨rfl, rfl, rfl⟩ := HNO.out (by simp)
    obtain ⟨⟨t0, t1, t2⟩, f0, f1, f2⟩ := RX.out.at (r := w.heap.size + 1 + 1) (a := nilV) (b := nilV) (c := nilV) (by simp)
    go_wp2
    refine bodyPost_ret (v := .tuple #[tenV nilV nilV nilV, .bool false]) (by simp [results, Try.results24, go_sem, t0, t1, t2]) rfl ?_
    exact NewTen2.nils (((RX.out.bel.setCell (by simp; omega) _).setCell (by simp; omega) _).setCell (by simp; omega) _)
  | true =>
  by_cases hz0 : zi < 0
  · have q1 : decide (zi < 0) = true := by simpa using hz0
    obtain rfl : fb = false := by rw [HFB.out, decide_eq_false (findI_neg.1 (by rw [← HZI.out]; exact hz0))]; simp
    go_enter Try.func24, Try.ntmps24
    go_wp2_with fail
    refine HF1.out.mono ?_
    rintro e w0 ⟨rfl, rfl⟩
    clear s0 s1 s2
    obtain ⟨⟨r0, r1, r2⟩, -⟩ := RX.out.at (r := w.heap.size) (a := .int .i64 k) (b := .int .i64 p) (c := .int .i64 q) (by simp)
    obtain ⟨⟨s0, s1, s2⟩, -⟩ := RX.out.at (r := w.heap.size + 1) (a := .slice al m1 cl) (b := .slice ad m2 cd) (c := .slice ax m3 cx) (by simp)
    go_wp2
    refine wp_region_held_drew (S := (fun w' => (w'.cell? ⟨w.heap.size, 0, none⟩ = some (.int .i64 k) ∧ w'.cell? ⟨w.heap.size, 1, none⟩ = some (.int .i64 p) ∧ w'.cell? ⟨w.heap.size, 2, none⟩ = some (.int .i64 q)) ∧ (w'.cell? ⟨w.heap.size + 1, 0, none⟩ = some (.slice al m1 cl) ∧ w'.cell? ⟨w.heap.size + 1, 1, none⟩ = some (.slice ad m2 cd) ∧ w'.cell? ⟨w.heap.size + 1, 2, none⟩ = some (.slice ax m3 cx)))) (by kernel_rfl) (by (try dsimp only); with_reducible exact ⟨⟨r0, r1, r2⟩, ⟨s0, s1, s2⟩⟩) (fun hHeld => ?_)
    refine wpAnyH_take (i := 0) (v := ?_) rfl (by kernel_rfl) (by kernel_rfl) (by kernel_rfl) (fun _ _ _ h => h) (Or.inl ⟨by rfl, ?_⟩) (by assumption) ?_
    rotate_left
    · intro w hSw; (try dsimp only at hSw); go_simp <;> with_reducible rfl
    try simp only [Act.put, List.getElem_toArray, List.getElem_cons_zero, List.setIfInBounds_toArray, List.set_cons_zero, List.set_cons_succ]
    refine wpAnyH_take (i := 1) (v := ?_) rfl (by kernel_rfl) (by kernel_rfl) (by kernel_rfl) (fun _ _ _ h => h) (Or.inl ⟨by rfl, ?_⟩) (by assumption) ?_
    rotate_left
    · intro w hSw; (try dsimp only at hSw); go_simp <;> with_reducible rfl
    try simp only [Act.put, List.getElem_toArray, List.getElem_cons_succ, List.getElem_cons_zero, List.setIfInBounds_toArray, List.set_cons_zero, List.set_cons_succ]
    refine wpAnyH_ready (rs := [2]) (by kernel_rfl) (by simp) ?_
    refine AllReadyH.cons rfl (fun K hK => ?_) AllReadyH.nil
    go_simp
    (go_at_call 30; refine (OKA.out _ RX.out.bel).mono ?_; rintro e WX ⟨rfl, hb⟩; replace RX := Lib.hid (RX.out.step hb); clear hb r0 r1 r2 s0 s1 s2; obtain ⟨⟨r0, r1, r2⟩, -⟩ := RX.out.at (r := w.heap.size) (a := .int .i64 k) (b := .int .i64 p) (c := .int .i64 q) (by simp); obtain ⟨⟨s0, s1, s2⟩, -⟩ := RX.out.at (r := w.heap.size + 1) (a := .slice al m1 cl) (b := .slice ad m2 cd) (c := .slice ax m3 cx) (by simp))
    go_wp2_with fail
    refine hK.out _ _ (by (try dsimp only); with_reducible exact ⟨⟨r0, r1, r2⟩, ⟨s0, s1, s2⟩⟩) (fun hHeld => ?_)
    clear hK K
    try simp only [Act.put, List.getElem_toArray, List.getElem_cons_succ, List.getElem_cons_zero, List.setIfInBounds_toArray, List.set_cons_zero, List.set_cons_succ]
    refine wpAnyH_take (i := 3) (v := ?_) rfl (by kernel_rfl) (by kernel_rfl) (by kernel_rfl) (fun _ _ _ h => h) (Or.inl ⟨by rfl, ?_⟩) (by assumption) ?_
    rotate_left
    · intro w hSw; (try dsimp only at hSw); go_simp <;> with_reducible rfl
    try simp only [Act.put, List.getElem_toArray, List.getElem_cons_succ, List.getElem_cons_zero, List.setIfInBounds_toArray, List.set_cons_zero, List.set_cons_succ]
    refine wpAnyH_take (i := 4) (v := ?_) rfl (by kernel_rfl) (by kernel_rfl) (by kernel_rfl) (fun _ _ _ h => h) (Or.inl ⟨by rfl, ?_⟩) (by assumption) ?_
    rotate_left
    · intro w hSw; (try dsimp only at hSw); go_simp <;> with_reducible rfl
    try simp only [Act.put, List.getElem_toArray, List.getElem_cons_succ, List.getElem_cons_zero, List.setIfInBounds_toArray, List.set_cons_zero, List.set_cons_succ]
    refine wpAnyH_take (i := 5) (v := ?_) rfl (by kernel_rfl) (by kernel_rfl) (by kernel_rfl) (fun _ _ _ h => h) (Or.inl ⟨by rfl, ?_⟩) (by assumption) ?_
    rotate_left
    · intro w hSw; (try dsimp only at hSw); go_simp <;> with_reducible rfl
    try simp only [Act.put, List.getElem_toArray, List.getElem_cons_succ, List.getElem_cons_zero, List.setIfInBounds_toArray, List.set_cons_zero, List.set_cons_succ]
    refine wpAnyH_take (i := 6) (v := ?_) rfl (by kernel_rfl) (by kernel_rfl) (by kernel_rfl) (fun _ _ _ h => h) (Or.inl ⟨by rfl, ?_⟩) (by assumption) ?_
    rotate_left
    · intro w hSw; (try dsimp only at hSw); go_simp <;> with_reducible rfl
    try simp only [Act.put, List.getElem_toArray, List.getElem_cons_succ, List.getElem_cons_zero, List.setIfInBounds_toArray, List.set_cons_zero, List.set_cons_succ]
    refine wpAnyH_take (i := 7) (v := ?_) rfl (by kernel_rfl) (by kernel_rfl) (by kernel_rfl) (fun _ _ _ h => h) (Or.inl ⟨by rfl, ?_⟩) (by assumption) ?_
    rotate_left
    · intro w hSw; (try dsimp only at hSw); go_simp <;> with_reducible rfl
    try simp only [Act.put, List.getElem_toArray, List.getElem_cons_succ, List.getElem_cons_zero, List.setIfInBounds_toArray, List.set_cons_zero, List.set_cons_succ]
    refine wpAnyH_take (i := 8) (v := ?_) rfl (by kernel_rfl) (by kernel_rfl) (by kernel_rfl) (fun _ _ _ h => h) (Or.inl ⟨by rfl, ?_⟩) (by assumption) ?_
    rotate_left
    · intro w hSw; (try dsimp only at hSw); go_simp <;> with_reducible rfl
    try simp only [Act.put, List.getElem_toArray, List.getElem_cons_succ, List.getElem_cons_zero, List.setIfInBounds_toArray, List.set_cons_zero, List.set_cons_succ]
    refine wpAnyH_take (i := 9) (v := undef) rfl (by kernel_rfl) (by kernel_rfl) (by kernel_rfl) (fun _ _ _ h => h) (Or.inr ⟨by rfl, rfl⟩) (by assumption) ?_
    try simp only [Act.put, List.getElem_toArray, List.getElem_cons_succ, List.getElem_cons_zero, List.setIfInBounds_toArray, List.set_cons_zero, List.set_cons_succ]
    refine wpAnyH_take (i := 10) (v := undef) rfl (by kernel_rfl) (by kernel_rfl) (by kernel_rfl) (fun _ _ _ h => h) (Or.inr ⟨by rfl, rfl⟩) (by assumption) ?_
    try simp only [Act.put, List.getElem_toArray, List.getElem_cons_succ, List.getElem_cons_zero, List.setIfInBounds_toArray, List.set_cons_zero, List.set_cons_succ]
    refine wpAnyH_take (i := 11) (v := undef) rfl (by kernel_rfl) (by kernel_rfl) (by kernel_rfl) (fun _ _ _ h => h) (Or.inr ⟨by rfl, rfl⟩) (by assumption) ?_
    try simp only [Act.put, List.getElem_toArray, List.getElem_cons_succ, List.getElem_cons_zero, List.setIfInBounds_toArray, List.set_cons_zero, List.set_cons_succ]
    refine wpAnyH_take (i := 12) (v := ?_) rfl (by kernel_rfl) (by kernel_rfl) (by kernel_rfl) (fun _ _ _ h => h) (Or.inl ⟨by rfl, ?_⟩) (by assumption) ?_
    rotate_left
    · intro w hSw; (try dsimp only at hSw); go_simp <;> with_reducible rfl
    try simp only [Act.put, List.getElem_toArray, List.getElem_cons_succ, List.getElem_cons_zero, List.setIfInBounds_toArray, List.set_cons_zero, List.set_cons_succ]
    refine wpAnyH_take (i := 13) (v := ?_) rfl (by kernel_rfl) (by kernel_rfl) (by kernel_rfl) (fun _ _ _ h => h) (Or.inl ⟨by rfl, ?_⟩) (by assumption) ?_
    rotate_left
    · intro w hSw; (try dsimp only at hSw); go_simp <;> with_reducible rfl
    try simp only [Act.put, List.getElem_toArray, List.getElem_cons_succ, List.getElem_cons_zero, List.setIfInBounds_toArray, List.set_cons_zero, List.set_cons_succ]
    refine wpAnyH_take (i := 14) (v := undef) rfl (by kernel_rfl) (by kernel_rfl) (by kernel_rfl) (fun _ _ _ h => h) (Or.inr ⟨by rfl, rfl⟩) (by assumption) ?_
    try simp only [Act.put, List.getElem_toArray, List.getElem_cons_succ, List.getElem_cons_zero, List.setIfInBounds_toArray, List.set_cons_zero, List.set_cons_succ]
    refine wpAnyH_take (i := 15) (v := undef) rfl (by kernel_rfl) (by kernel_rfl) (by kernel_rfl) (fun _ _ _ h => h) (Or.inr ⟨by rfl, rfl⟩) (by assumption) ?_
    try simp only [Act.put, List.getElem_toArray, List.getElem_cons_succ, List.getElem_cons_zero, List.setIfInBounds_toArray, List.set_cons_zero, List.set_cons_succ]
    refine wpAnyH_take (i := 16) (v := undef) rfl (by kernel_rfl) (by kernel_rfl) (by kernel_rfl) (fun _ _ _ h => h) (Or.inr ⟨by rfl, rfl⟩) (by assumption) ?_
    try simp only [Act.put, List.getElem_toArray, List.getElem_cons_succ, List.getElem_cons_zero, List.setIfInBounds_toArray, List.set_cons_zero, List.set_cons_succ]
    refine wpAnyH_take (i := 17) (v := undef) rfl (by kernel_rfl) (by kernel_rfl) (by kernel_rfl) (fun _ _ _ h => h) (Or.inr ⟨by rfl, rfl⟩) (by assumption) ?_
    try simp only [Act.put, List.getElem_toArray, List.getElem_cons_succ, List.getElem_cons_zero, List.setIfInBounds_toArray, List.set_cons_zero, List.set_cons_succ]
    refine wpAnyH_take (i := 18) (v := ?_) rfl (by kernel_rfl) (by kernel_rfl) (by kernel_rfl) (fun _ _ _ h => h) (Or.inl ⟨by rfl, ?_⟩) (by assumption) ?_
    rotate_left
    · intro w hSw; (try dsimp only at hSw); go_simp <;> with_reducible rfl
    try simp only [Act.put, List.getElem_toArray, List.getElem_cons_succ, List.getElem_cons_zero, List.setIfInBounds_toArray, List.set_cons_zero, List.set_cons_succ]
    refine wpAnyH_take (i := 19) (v := ?_) rfl (by kernel_rfl) (by kernel_rfl) (by kernel_rfl) (fun _ _ _ h => h) (Or.inl ⟨by rfl, ?_⟩) (by assumption) ?_
    rotate_left
    · intro w hSw; (try dsimp only at hSw); go_simp <;> with_reducible rfl
    try simp only [Act.put, List.getElem_toArray, List.getElem_cons_succ, List.getElem_cons_zero, List.setIfInBounds_toArray, List.set_cons_zero, List.set_cons_succ]
    refine wpAnyH_take (i := 20) (v := undef) rfl (by kernel_rfl) (by kernel_rfl) (by kernel_rfl) (fun _ _ _ h => h) (Or.inr ⟨by rfl, rfl⟩) (by assumption) ?_
    try simp only [Act.put, List.getElem_toArray, List.getElem_cons_succ, List.getElem_cons_zero, List.setIfInBounds_toArray, List.set_cons_zero, List.set_cons_succ]
    refine wpAnyH_take (i := 21) (v := undef) rfl (by kernel_rfl) (by kernel_rfl) (by kernel_rfl) (fun _ _ _ h => h) (Or.inr ⟨by rfl, rfl⟩) (by assumption) ?_
    try simp only [Act.put, List.getElem_toArray, List.getElem_cons_succ, List.getElem_cons_zero, List.setIfInBounds_toArray, List.set_cons_zero, List.set_cons_succ]
    refine wpAnyH_take (i := 22) (v := undef) rfl (by kernel_rfl) (by kernel_rfl) (by kernel_rfl) (fun _ _ _ h => h) (Or.inr ⟨by rfl, rfl⟩) (by assumption) ?_
    try simp only [Act.put, List.getElem_toArray, List.getElem_cons_succ, List.getElem_cons_zero, List.setIfInBounds_toArray, List.set_cons_zero, List.set_cons_succ]
    refine wpAnyH_take (i := 23) (v := undef) rfl (by kernel_rfl) (by kernel_rfl) (by kernel_rfl) (fun _ _ _ h => h) (Or.inr ⟨by rfl, rfl⟩) (by assumption) ?_
    try simp only [Act.put, List.getElem_toArray, List.getElem_cons_succ, List.getElem_cons_zero, List.setIfInBounds_toArray, List.set_cons_zero, List.set_cons_succ]
    refine wpAnyH_take (i := 24) (v := undef) rfl (by kernel_rfl) (by kernel_rfl) (by kernel_rfl) (fun _ _ _ h => h) (Or.inr ⟨by rfl, rfl⟩) (by assumption) ?_
    try simp only [Act.put, List.getElem_toArray, List.getElem_cons_succ, List.getElem_cons_zero, List.setIfInBounds_toArray, List.set_cons_zero, List.set_cons_succ]
    refine wpAnyH_take (i := 25) (v := undef) rfl (by kernel_rfl) (by kernel_rfl) (by kernel_rfl) (fun _ _ _ h => h) (Or.inr ⟨by rfl, rfl⟩) (by assumption) ?_
    try simp only [Act.put, List.getElem_toArray, List.getElem_cons_succ, List.getElem_cons_zero, List.setIfInBounds_toArray, List.set_cons_zero, List.set_cons_succ]
    refine wpAnyH_take (i := 26) (v := undef) rfl (by kernel_rfl) (by kernel_rfl) (by kernel_rfl) (fun _ _ _ h => h) (Or.inr ⟨by rfl, rfl⟩) (by assumption) ?_
    try simp only [Act.put, List.getElem_toArray, List.getElem_cons_succ, List.getElem_cons_zero, List.setIfInBounds_toArray, List.set_cons_zero, List.set_cons_succ]
    refine wpAnyH_take (i := 27) (v := undef) rfl (by kernel_rfl) (by kernel_rfl) (by kernel_rfl) (fun _ _ _ h => h) (Or.inr ⟨by rfl, rfl⟩) (by assumption) ?_
    try simp only [Act.put, List.getElem_toArray, List.getElem_cons_succ, List.getElem_cons_zero, List.setIfInBounds_toArray, List.set_cons_zero, List.set_cons_succ]
    refine wpAnyH_take (i := 28) (v := ?_) rfl (by kernel_rfl) (by kernel_rfl) (by kernel_rfl) (fun _ _ _ h => h) (Or.inl ⟨by rfl, ?_⟩) (by assumption) ?_
    rotate_left
    · intro w hSw; (try dsimp only at hSw); go_simp <;> with_reducible rfl
    try simp only [Act.put, List.getElem_toArray, List.getElem_cons_succ, List.getElem_cons_zero, List.setIfInBounds_toArray, List.set_cons_zero, List.set_cons_succ]
    refine wpAnyH_done (by kernel_rfl) ?_ _
    clear r0 r1 r2 s0 s1 s2
    obtain ⟨rfl, rfl, rfl⟩ := HNO.out (by simp)
    obtain ⟨⟨t0, t1, t2⟩, f0, f1, f2⟩ := RX.out.at (r := w.heap.size + 1 + 1) (a := nilV) (b := nilV) (c := nilV) (by simp)
    go_wp2
    refine bodyPost_ret (v := .tuple #[tenV nilV nilV nilV, .bool false]) (by simp [results, Try.results24, go_sem, t0, t1, t2]) rfl ?_
    exact NewTen2.nils (((RX.out.bel.setCell (by simp; omega) _).setCell (by simp; omega) _).setCell (by simp; omega) _)
  have q1 : decide (zi < 0) = false := by simpa using hz0
  by_cases hA0 : mA < 1
  · have q2 : decide ((mA : Int) < 1) = true := by simp; omega
    obtain rfl : fb = false := by rw [HFB.out, decide_eq_false (show ¬ 1 ≤ mA by omega)]; simp
    go_enter Try.func24, Try.ntmps24
    go_wp2_with fail
    refine HF1.out.mono ?_
    rintro e w0 ⟨rfl, rfl⟩
    clear s0 s1 s2
    obtain ⟨⟨r0, r1, r2⟩, -⟩ := RX.out.at (r := w.heap.size) (a := .int .i64 k) (b := .int .i64 p) (c := .int .i64 q) (by simp)
    obtain ⟨⟨s0, s1, s2⟩, -⟩ := RX.out.at (r := w.heap.size + 1) (a := .slice al m1 cl) (b := .slice ad m2 cd) (c := .slice ax m3 cx) (by simp)
    go_wp2
    refine wp_region_held_drew (S := (fun w' => (w'.cell? ⟨w.heap.size, 0, none⟩ = some (.int .i64 k) ∧ w'.cell? ⟨w.heap.size, 1, none⟩ = some (.int .i64 p) ∧ w'.cell? ⟨w.heap.size, 2, none⟩ = some (.int .i64 q)) ∧ (w'.cell? ⟨w.heap.size + 1, 0, none⟩ = some (.slice al m1 cl) ∧ w'.cell? ⟨w.heap.size + 1, 1, none⟩ = some (.slice ad m2 cd) ∧ w'.cell? ⟨w.heap.size + 1, 2, none⟩ = some (.slice ax m3 cx)))) (by kernel_rfl) (by (try dsimp only); with_reducible exact ⟨⟨r0, r1, r2⟩, ⟨s0, s1, s2⟩⟩) (fun hHeld => ?_)
    refine wpAnyH_take (i := 0) (v := ?_) rfl (by kernel_rfl) (by kernel_rfl) (by kernel_rfl) (fun _ _ _ h => h) (Or.inl ⟨by rfl, ?_⟩) (by assumption) ?_
    rotate_left
    · intro w hSw; (try dsimp only at hSw); go_simp <;> with_reducible rfl
    try simp only [Act.put, List.getElem_toArray, List.getElem_cons_zero, List.setIfInBounds_toArray, List.set_cons_zero, List.set_cons_succ]
    refine wpAnyH_take (i := 1) (v := ?_) rfl (by kernel_rfl) (by kernel_rfl) (by kernel_rfl) (fun _ _ _ h => h) (Or.inl ⟨by rfl, ?_⟩) (by assumption) ?_
    rotate_left
    · intro w hSw; (try dsimp only at hSw); go_simp <;> with_reducible rfl
    try simp only [Act.put, List.getElem_toArray, List.getElem_cons_succ, List.getElem_cons_zero, List.setIfInBounds_toArray, List.set_cons_zero, List.set_cons_succ]
    refine wpAnyH_ready (rs := [2]) (by kernel_rfl) (by simp) ?_
    refine AllReadyH.cons rfl (fun K hK => ?_) AllReadyH.nil
    go_simp
    (go_at_call 30; refine (OKA.out _ RX.out.bel).mono ?_; rintro e WX ⟨rfl, hb⟩; replace RX := Lib.hid (RX.out.step hb); clear hb r0 r1 r2 s0 s1 s2; obtain ⟨⟨r0, r1, r2⟩, -⟩ := RX.out.at (r := w.heap.size) (a := .int .i64 k) (b := .int .i64 p) (c := .int .i64 q) (by simp); obtain ⟨⟨s0, s1, s2⟩, -⟩ := RX.out.at (r := w.heap.size + 1) (a := .slice al m1 cl) (b := .slice ad m2 cd) (c := .slice ax m3 cx) (by simp))
    go_wp2_with fail
    refine hK.out _ _ (by (try dsimp only); with_reducible exact ⟨⟨r0, r1, r2⟩, ⟨s0, s1, s2⟩⟩) (fun hHeld => ?_)
    clear hK K
    try simp only [Act.put, List.getElem_toArray, List.getElem_cons_succ, List.getElem_cons_zero, List.setIfInBounds_toArray, List.set_cons_zero, List.set_cons_succ]
    refine wpAnyH_take (i := 3) (v := ?_) rfl (by kernel_rfl) (by kernel_rfl) (by kernel_rfl) (fun _ _ _ h => h) (Or.inl ⟨by rfl, ?_⟩) (by assumption) ?_
    rotate_left
    · intro w hSw; (try dsimp only at hSw); go_simp <;> with_reducible rfl
    try simp only [Act.put, List.getElem_toArray, List.getElem_cons_succ, List.getElem_cons_zero, List.setIfInBounds_toArray, List.set_cons_zero, List.set_cons_succ]
    refine wpAnyH_take (i := 4) (v := ?_) rfl (by kernel_rfl) (by kernel_rfl) (by kernel_rfl) (fun _ _ _ h => h) (Or.inl ⟨by rfl, ?_⟩) (by assumption) ?_
    rotate_left
    · intro w hSw; (try dsimp only at hSw); go_simp <;> with_reducible rfl
    try simp only [Act.put, List.getElem_toArray, List.getElem_cons_succ, List.getElem_cons_zero, List.setIfInBounds_toArray, List.set_cons_zero, List.set_cons_succ]
    refine wpAnyH_take (i := 5) (v := ?_) rfl (by kernel_rfl) (by kernel_rfl) (by kernel_rfl) (fun _ _ _ h => h) (Or.inl ⟨by rfl, ?_⟩) (by assumption) ?_
    rotate_left
    · intro w hSw; (try dsimp only at hSw); go_simp <;> with_reducible rfl
    try simp only [Act.put, List.getElem_toArray, List.getElem_cons_succ, List.getElem_cons_zero, List.setIfInBounds_toArray, List.set_cons_zero, List.set_cons_succ]
    refine wpAnyH_take (i := 6) (v := ?_) rfl (by kernel_rfl) (by kernel_rfl) (by kernel_rfl) (fun _ _ _ h => h) (Or.inl ⟨by rfl, ?_⟩) (by assumption) ?_
    rotate_left
    · intro w hSw; (try dsimp only at hSw); go_simp <;> with_reducible rfl
    try simp only [Act.put, List.getElem_toArray, List.getElem_cons_succ, List.getElem_cons_zero, List.setIfInBounds_toArray, List.set_cons_zero, List.set_cons_succ]
    refine wpAnyH_take (i := 7) (v := ?_) rfl (by kernel_rfl) (by kernel_rfl) (by kernel_rfl) (fun _ _ _ h => h) (Or.inl ⟨by rfl, ?_⟩) (by assumption) ?_
    rotate_left
    · intro w hSw; (try dsimp only at hSw); go_simp <;> with_reducible rfl
    try simp only [Act.put, List.getElem_toArray, List.getElem_cons_succ, List.getElem_cons_zero, List.setIfInBounds_toArray, List.set_cons_zero, List.set_cons_succ]
    refine wpAnyH_take (i := 8) (v := ?_) rfl (by kernel_rfl) (by kernel_rfl) (by kernel_rfl) (fun _ _ _ h => h) (Or.inl ⟨by rfl, ?_⟩) (by assumption) ?_
    rotate_left
    · intro w hSw; (try dsimp only at hSw); go_simp <;> with_reducible rfl
    try simp only [Act.put, List.getElem_toArray, List.getElem_cons_succ, List.getElem_cons_zero, List.setIfInBounds_toArray, List.set_cons_zero, List.set_cons_succ]
    refine wpAnyH_take (i := 9) (v := ?_) rfl (by kernel_rfl) (by kernel_rfl) (by kernel_rfl) (fun _ _ _ h => h) (Or.inl ⟨by rfl, ?_⟩) (by assumption) ?_
    rotate_left
    · intro w hSw; (try dsimp only at hSw); go_simp <;> with_reducible rfl
    try simp only [Act.put, List.getElem_toArray, List.getElem_cons_succ, List.getElem_cons_zero, List.setIfInBounds_toArray, List.set_cons_zero, List.set_cons_succ]
    refine wpAnyH_take (i := 10) (v := ?_) rfl (by kernel_rfl) (by kernel_rfl) (by kernel_rfl) (fun _ _ _ h => h) (Or.inl ⟨by rfl, ?_⟩) (by assumption) ?_
    rotate_left
    · intro w hSw; (try dsimp only at hSw); go_simp <;> with_reducible rfl
    try simp only [Act.put, List.getElem_toArray, List.getElem_cons_succ, List.getElem_cons_zero, List.setIfInBounds_toArray, List.set_cons_zero, List.set_cons_succ]
    refine wpAnyH_take (i := 11) (v := ?_) rfl (by kernel_rfl) (by kernel_rfl) (by kernel_rfl) (fun _ _ _ h => h) (Or.inl ⟨by rfl, ?_⟩) (by assumption) ?_
    rotate_left
    · intro w hSw; (try dsimp only at hSw); go_simp <;> with_reducible rfl
    try simp only [Act.put, List.getElem_toArray, List.getElem_cons_succ, List.getElem_cons_zero, List.setIfInBounds_toArray, List.set_cons_zero, List.set_cons_succ]
    refine wpAnyH_take (i := 12) (v := ?_) rfl (by kernel_rfl) (by kernel_rfl) (by kernel_rfl) (fun _ _ _ h => h) (Or.inl ⟨by rfl, ?_⟩) (by assumption) ?_
    rotate_left
    · intro w hSw; (try dsimp only at hSw); go_simp <;> with_reducible rfl
    try simp only [Act.put, List.getElem_toArray, List.getElem_cons_succ, List.getElem_cons_zero, List.setIfInBounds_toArray, List.set_cons_zero, List.set_cons_succ]
    refine wpAnyH_take (i := 13) (v := ?_) rfl (by kernel_rfl) (by kernel_rfl) (by kernel_rfl) (fun _ _ _ h => h) (Or.inl ⟨by rfl, ?_⟩) (by assumption) ?_
    rotate_left
    · intro w hSw; (try dsimp only at hSw); go_simp <;> with_reducible rfl
    try simp only [Act.put, List.getElem_toArray, List.getElem_cons_succ, List.getElem_cons_zero, List.setIfInBounds_toArray, List.set_cons_zero, List.set_cons_succ]
    refine wpAnyH_take (i := 14) (v := undef) rfl (by kernel_rfl) (by kernel_rfl) (by kernel_rfl) (fun _ _ _ h => h) (Or.inr ⟨by rfl, rfl⟩) (by assumption) ?_
    try simp only [Act.put, List.getElem_toArray, List.getElem_cons_succ, List.getElem_cons_zero, List.setIfInBounds_toArray, List.set_cons_zero, List.set_cons_succ]
    refine wpAnyH_take (i := 15) (v := undef) rfl (by kernel_rfl) (by kernel_rfl) (by kernel_rfl) (fun _ _ _ h => h) (Or.inr ⟨by rfl, rfl⟩) (by assumption) ?_
    try simp only [Act.put, List.getElem_toArray, List.getElem_cons_succ, List.getElem_cons_zero, List.setIfInBounds_toArray, List.set_cons_zero, List.set_cons_succ]
    refine wpAnyH_take (i := 16) (v := undef) rfl (by kernel_rfl) (by kernel_rfl) (by kernel_rfl) (fun _ _ _ h => h) (Or.inr ⟨by rfl, rfl⟩) (by assumption) ?_
    try simp only [Act.put, List.getElem_toArray, List.getElem_cons_succ, List.getElem_cons_zero, List.setIfInBounds_toArray, List.set_cons_zero, List.set_cons_succ]
    refine wpAnyH_take (i := 17) (v := undef) rfl (by kernel_rfl) (by kernel_rfl) (by kernel_rfl) (fun _ _ _ h => h) (Or.inr ⟨by rfl, rfl⟩) (by assumption) ?_
    try simp only [Act.put, List.getElem_toArray, List.getElem_cons_succ, List.getElem_cons_zero, List.setIfInBounds_toArray, List.set_cons_zero, List.set_cons_succ]
    refine wpAnyH_take (i := 18) (v := ?_) rfl (by kernel_rfl) (by kernel_rfl) (by kernel_rfl) (fun _ _ _ h => h) (Or.inl ⟨by rfl, ?_⟩) (by assumption) ?_
    rotate_left
    · intro w hSw; (try dsimp only at hSw); go_simp <;> with_reducible rfl
    try simp only [Act.put, List.getElem_toArray, List.getElem_cons_succ, List.getElem_cons_zero, List.setIfInBounds_toArray, List.set_cons_zero, List.set_cons_succ]
    refine wpAnyH_take (i := 19) (v := ?_) rfl (by kernel_rfl) (by kernel_rfl) (by kernel_rfl) (fun _ _ _ h => h) (Or.inl ⟨by rfl, ?_⟩) (by assumption) ?_
    rotate_left
    · intro w hSw; (try dsimp only at hSw); go_simp <;> with_reducible rfl
    try simp only [Act.put, List.getElem_toArray, List.getElem_cons_succ, List.getElem_cons_zero, List.setIfInBounds_toArray, List.set_cons_zero, List.set_cons_succ]
    refine wpAnyH_take (i := 20) (v := undef) rfl (by kernel_rfl) (by kernel_rfl) (by kernel_rfl) (fun _ _ _ h => h) (Or.inr ⟨by rfl, rfl⟩) (by assumption) ?_
    try simp only [Act.put, List.getElem_toArray, List.getElem_cons_succ, List.getElem_cons_zero, List.setIfInBounds_toArray, List.set_cons_zero, List.set_cons_succ]
    refine wpAnyH_take (i := 21) (v := undef) rfl (by kernel_rfl) (by kernel_rfl) (by kernel_rfl) (fun _ _ _ h => h) (Or.inr ⟨by rfl, rfl⟩) (by assumption) ?_
    try simp only [Act.put, List.getElem_toArray, List.getElem_cons_succ, List.getElem_cons_zero, List.setIfInBounds_toArray, List.set_cons_zero, List.set_cons_succ]
    refine wpAnyH_take (i := 22) (v := undef) rfl (by kernel_rfl) (by kernel_rfl) (by kernel_rfl) (fun _ _ _ h => h) (Or.inr ⟨by rfl, rfl⟩) (by assumption) ?_
    try simp only [Act.put, List.getElem_toArray, List.getElem_cons_succ, List.getElem_cons_zero, List.setIfInBounds_toArray, List.set_cons_zero, List.set_cons_succ]
    refine wpAnyH_take (i := 23) (v := undef) rfl (by kernel_rfl) (by kernel_rfl) (by kernel_rfl) (fun _ _ _ h => h) (Or.inr ⟨by rfl, rfl⟩) (by assumption) ?_
    try simp only [Act.put, List.getElem_toArray, List.getElem_cons_succ, List.getElem_cons_zero, List.setIfInBounds_toArray, List.set_cons_zero, List.set_cons_succ]
    refine wpAnyH_take (i := 24) (v := undef) rfl (by kernel_rfl) (by kernel_rfl) (by kernel_rfl) (fun _ _ _ h => h) (Or.inr ⟨by rfl, rfl⟩) (by assumption) ?_
    try simp only [Act.put, List.getElem_toArray, List.getElem_cons_succ, List.getElem_cons_zero, List.setIfInBounds_toArray, List.set_cons_zero, List.set_cons_succ]
    refine wpAnyH_take (i := 25) (v := undef) rfl (by kernel_rfl) (by kernel_rfl) (by kernel_rfl) (fun _ _ _ h => h) (Or.inr ⟨by rfl, rfl⟩) (by assumption) ?_
    try simp only [Act.put, List.getElem_toArray, List.getElem_cons_succ, List.getElem_cons_zero, List.setIfInBounds_toArray, List.set_cons_zero, List.set_cons_succ]
    refine wpAnyH_take (i := 26) (v := undef) rfl (by kernel_rfl) (by kernel_rfl) (by kernel_rfl) (fun _ _ _ h => h) (Or.inr ⟨by rfl, rfl⟩) (by assumption) ?_
    try simp only [Act.put, List.getElem_toArray, List.getElem_cons_succ, List.getElem_cons_zero, List.setIfInBounds_toArray, List.set_cons_zero, List.set_cons_succ]
    refine wpAnyH_take (i := 27) (v := undef) rfl (by kernel_rfl) (by kernel_rfl) (by kernel_rfl) (fun _ _ _ h => h) (Or.inr ⟨by rfl, rfl⟩) (by assumption) ?_
    try simp only [Act.put, List.getElem_toArray, List.getElem_cons_succ, List.getElem_cons_zero, List.setIfInBounds_toArray, List.set_cons_zero, List.set_cons_succ]
    refine wpAnyH_take (i := 28) (v := ?_) rfl (by kernel_rfl) (by kernel_rfl) (by kernel_rfl) (fun _ _ _ h => h) (Or.inl ⟨by rfl, ?_⟩) (by assumption) ?_
    rotate_left
    · intro w hSw; (try dsimp only at hSw); go_simp <;> with_reducible rfl
    try simp only [Act.put, List.getElem_toArray, List.getElem_cons_succ, List.getElem_cons_zero, List.setIfInBounds_toArray, List.set_cons_zero, List.set_cons_succ]
    refine wpAnyH_done (by kernel_rfl) ?_ _
    clear r0 r1 r2 s0 s1 s2
    obtain ⟨rfl, rfl, rfl⟩ := HNO.out (by simp)
    obtain ⟨⟨t0, t1, t2⟩, f0, f1, f2⟩ := RX.out.at (r := w.heap.size + 1 + 1) (a := nilV) (b := nilV) (c := nilV) (by simp)
    go_wp2
    refine bodyPost_ret (v := .tuple #[tenV nilV nilV nilV, .bool false]) (by simp [results, Try.results24, go_sem, t0, t1, t2]) rfl ?_
    exact NewTen2.nils (((RX.out.bel.setCell (by simp; omega) _).setCell (by simp; omega) _).setCell (by simp; omega) _)
  have q2 : decide ((mA : Int) < 1) = false := by simp; omega
  cases xb with
  | false =>
    obtain rfl : fb = false := by rw [HFB.out]; simp
    go_enter Try.func24, Try.ntmps24
    go_wp2_with fail
    refine HF1.out.mono ?_
    rintro e w0 ⟨rfl, rfl⟩
    clear s0 s1 s2
    obtain ⟨⟨r0, r1, r2⟩, -⟩ := RX.out.at (r := w.heap.size) (a := .int .i64 k) (b := .int .i64 p) (c := .int .i64 q) (by simp)
    obtain ⟨⟨s0, s1, s2⟩, -⟩ := RX.out.at (r := w.heap.size + 1) (a := .slice al m1 cl) (b := .slice ad m2 cd) (c := .slice ax m3 cx) (by simp)
    go_wp2
    refine wp_region_held_drew (S := (fun w' => (w'.cell? ⟨w.heap.size, 0, none⟩ = some (.int .i64 k) ∧ w'.cell? ⟨w.heap.size, 1, none⟩ = some (.int .i64 p) ∧ w'.cell? ⟨w.heap.size, 2, none⟩ = some (.int .i64 q)) ∧ (w'.cell? ⟨w.heap.size + 1, 0, none⟩ = some (.slice al m1 cl) ∧ w'.cell? ⟨w.heap.size + 1, 1, none⟩ = some (.slice ad m2 cd) ∧ w'.cell? ⟨w.heap.size + 1, 2, none⟩ = some (.slice ax m3 cx)))) (by kernel_rfl) (by (try dsimp only); with_reducible exact ⟨⟨r0, r1, r2⟩, ⟨s0, s1, s2⟩⟩) (fun hHeld => ?_)
    refine wpAnyH_take (i := 0) (v := ?_) rfl (by kernel_rfl) (by kernel_rfl) (by kernel_rfl) (fun _ _ _ h => h) (Or.inl ⟨by rfl, ?_⟩) (by assumption) ?_
    rotate_left
    · intro w hSw; (try dsimp only at hSw); go_simp <;> with_reducible rfl
    try simp only [Act.put, List.getElem_toArray, List.getElem_cons_zero, List.setIfInBounds_toArray, List.set_cons_zero, List.set_cons_succ]
    refine wpAnyH_take (i := 1) (v := ?_) rfl (by kernel_rfl) (by kernel_rfl) (by kernel_rfl) (fun _ _ _ h => h) (Or.inl ⟨by rfl, ?_⟩) (by assumption) ?_
    rotate_left
    · intro w hSw; (try dsimp only at hSw); go_simp <;> with_reducible rfl
    try simp only [Act.put, List.getElem_toArray, List.getElem_cons_succ, List.getElem_cons_zero, List.setIfInBounds_toArray, List.set_cons_zero, List.set_cons_succ]
    refine wpAnyH_ready (rs := [2]) (by kernel_rfl) (by simp) ?_
    refine AllReadyH.cons rfl (fun K hK => ?_) AllReadyH.nil
    go_simp
    (go_at_call 30; refine (OKA.out _ RX.out.bel).mono ?_; rintro e WX ⟨rfl, hb⟩; replace RX := Lib.hid (RX.out.step hb); clear hb r0 r1 r2 s0 s1 s2; obtain ⟨⟨r0, r1, r2⟩, -⟩ := RX.out.at (r := w.heap.size) (a := .int .i64 k) (b := .int .i64 p) (c := .int .i64 q) (by simp); obtain ⟨⟨s0, s1, s2⟩, -⟩ := RX.out.at (r := w.heap.size + 1) (a := .slice al m1 cl) (b := .slice ad m2 cd) (c := .slice ax m3 cx) (by simp))
    go_wp2_with fail
    refine hK.out _ _ (by (try dsimp only); with_reducible exact ⟨⟨r0, r1, r2⟩, ⟨s0, s1, s2⟩⟩) (fun hHeld => ?_)
    clear hK K
    try simp only [Act.put, List.getElem_toArray, List.getElem_cons_succ, List.getElem_cons_zero, List.setIfInBounds_toArray, List.set_cons_zero, List.set_cons_succ]
    refine wpAnyH_take (i := 3) (v := ?_) rfl (by kernel_rfl) (by kernel_rfl) (by kernel_rfl) (fun _ _ _ h => h) (Or.inl ⟨by rfl, ?_⟩) (by assumption) ?_
    rotate_left
    · intro w hSw; (try dsimp only at hSw); go_simp <;> with_reducible rfl
    try simp only [Act.put, List.getElem_toArray, List.getElem_cons_succ, List.getElem_cons_zero, List.setIfInBounds_toArray, List.set_cons_zero, List.set_cons_succ]
    refine wpAnyH_take (i := 4) (v := ?_) rfl (by kernel_rfl) (by kernel_rfl) (by kernel_rfl) (fun _ _ _ h => h) (Or.inl ⟨by rfl, ?_⟩) (by assumption) ?_
    rotate_left
    · intro w hSw; (try dsimp only at hSw); go_simp <;> with_reducible rfl
    try simp only [Act.put, List.getElem_toArray, List.getElem_cons_succ, List.getElem_cons_zero, List.setIfInBounds_toArray, List.set_cons_zero, List.set_cons_succ]
    refine wpAnyH_take (i := 5) (v := ?_) rfl (by kernel_rfl) (by kernel_rfl) (by kernel_rfl) (fun _ _ _ h => h) (Or.inl ⟨by rfl, ?_⟩) (by assumption) ?_
    rotate_left
    · intro w hSw; (try dsimp only at hSw); go_simp <;> with_reducible rfl
    try simp only [Act.put, List.getElem_toArray, List.getElem_cons_succ, List.getElem_cons_zero, List.setIfInBounds_toArray, List.set_cons_zero, List.set_cons_succ]
    refine wpAnyH_take (i := 6) (v := ?_) rfl (by kernel_rfl) (by kernel_rfl) (by kernel_rfl) (fun _ _ _ h => h) (Or.inl ⟨by rfl, ?_⟩) (by assumption) ?_
    rotate_left
    · intro w hSw; (try dsimp only at hSw); go_simp <;> with_reducible rfl
    try simp only [Act.put, List.getElem_toArray, List.getElem_cons_succ, List.getElem_cons_zero, List.setIfInBounds_toArray, List.set_cons_zero, List.set_cons_succ]
    refine wpAnyH_take (i := 7) (v := ?_) rfl (by kernel_rfl) (by kernel_rfl) (by kernel_rfl) (fun _ _ _ h => h) (Or.inl ⟨by rfl, ?_⟩) (by assumption) ?_
    rotate_left
    · intro w hSw; (try dsimp only at hSw); go_simp <;> with_reducible rfl
    try simp only [Act.put, List.getElem_toArray, List.getElem_cons_succ, List.getElem_cons_zero, List.setIfInBounds_toArray, List.set_cons_zero, List.set_cons_succ]
    refine wpAnyH_take (i := 8) (v := ?_) rfl (by kernel_rfl) (by kernel_rfl) (by kernel_rfl) (fun _ _ _ h => h) (Or.inl ⟨by rfl, ?_⟩) (by assumption) ?_
    rotate_left
    · intro w hSw; (try dsimp only at hSw); go_simp <;> with_reducible rfl
    try simp only [Act.put, List.getElem_toArray, List.getElem_cons_succ, List.getElem_cons_zero, List.setIfInBounds_toArray, List.set_cons_zero, List.set_cons_succ]
    refine wpAnyH_take (i := 9) (v := ?_) rfl (by kernel_rfl) (by kernel_rfl) (by kernel_rfl) (fun _ _ _ h => h) (Or.inl ⟨by rfl, ?_⟩) (by assumption) ?_
    rotate_left
    · intro w hSw; (try dsimp only at hSw); go_simp <;> with_reducible rfl
    try simp only [Act.put, List.getElem_toArray, List.getElem_cons_succ, List.getElem_cons_zero, List.setIfInBounds_toArray, List.set_cons_zero, List.set_cons_succ]
    refine wpAnyH_take (i := 10) (v := ?_) rfl (by kernel_rfl) (by kernel_rfl) (by kernel_rfl) (fun _ _ _ h => h) (Or.inl ⟨by rfl, ?_⟩) (by assumption) ?_
    rotate_left
    · intro w hSw; (try dsimp only at hSw); go_simp <;> with_reducible rfl
    try simp only [Act.put, List.getElem_toArray, List.getElem_cons_succ, List.getElem_cons_zero, List.setIfInBounds_toArray, List.set_cons_zero, List.set_cons_succ]
    refine wpAnyH_take (i := 11) (v := ?_) rfl (by kernel_rfl) (by kernel_rfl) (by kernel_rfl) (fun _ _ _ h => h) (Or.inl ⟨by rfl, ?_⟩) (by assumption) ?_
    rotate_left
    · intro w hSw; (try dsimp only at hSw); go_simp <;> with_reducible rfl
    try simp only [Act.put, List.getElem_toArray, List.getElem_cons_succ, List.getElem_cons_zero, List.setIfInBounds_toArray, List.set_cons_zero, List.set_cons_succ]
    refine wpAnyH_take (i := 12) (v := ?_) rfl (by kernel_rfl) (by kernel_rfl) (by kernel_rfl) (fun _ _ _ h => h) (Or.inl ⟨by rfl, ?_⟩) (by assumption) ?_
    rotate_left
    · intro w hSw; (try dsimp only at hSw); go_simp <;> with_reducible rfl
    try simp only [Act.put, List.getElem_toArray, List.getElem_cons_succ, List.getElem_cons_zero, List.setIfInBounds_toArray, List.set_cons_zero, List.set_cons_succ]
    refine wpAnyH_take (i := 13) (v := ?_) rfl (by kernel_rfl) (by kernel_rfl) (by kernel_rfl) (fun _ _ _ h => h) (Or.inl ⟨by rfl, ?_⟩) (by assumption) ?_
    rotate_left
    · intro w hSw; (try dsimp only at hSw); go_simp <;> with_reducible rfl
    try simp only [Act.put, List.getElem_toArray, List.getElem_cons_succ, List.getElem_cons_zero, List.setIfInBounds_toArray, List.set_cons_zero, List.set_cons_succ]
    refine wpAnyH_take (i := 14) (v := ?_) rfl (by kernel_rfl) (by kernel_rfl) (by kernel_rfl) (fun _ _ _ h => h) (Or.inl ⟨by rfl, ?_⟩) (by assumption) ?_
    rotate_left
    · intro w hSw; (try dsimp only at hSw); go_simp <;> with_reducible rfl
    try simp only [Act.put, List.getElem_toArray, List.getElem_cons_succ, List.getElem_cons_zero, List.setIfInBounds_toArray, List.set_cons_zero, List.set_cons_succ]
    refine wpAnyH_take (i := 15) (v := ?_) rfl (by kernel_rfl) (by kernel_rfl) (by kernel_rfl) (fun _ _ _ h => h) (Or.inl ⟨by rfl, ?_⟩) (by assumption) ?_
    rotate_left
    · intro w hSw; (try dsimp only at hSw); go_simp <;> with_reducible rfl
    try simp only [Act.put, List.getElem_toArray, List.getElem_cons_succ, List.getElem_cons_zero, List.setIfInBounds_toArray, List.set_cons_zero, List.set_cons_succ]
    refine wpAnyH_ready (rs := [16]) (by kernel_rfl) (by simp) ?_
    refine AllReadyH.cons rfl (fun K hK => ?_) AllReadyH.nil
    go_simp
    (go_at_call 48; refine (HAX.out _ RX.out.bel).mono ?_; rintro e WX ⟨rfl, rfl⟩)
    go_wp2_with fail
    refine hK.out _ _ (by (try dsimp only); with_reducible exact ⟨⟨r0, r1, r2⟩, ⟨s0, s1, s2⟩⟩) (fun hHeld => ?_)
    clear hK K
    try simp only [Act.put, List.getElem_toArray, List.getElem_cons_succ, List.getElem_cons_zero, List.setIfInBounds_toArray, List.set_cons_zero, List.set_cons_succ]
    refine wpAnyH_take (i := 17) (v := ?_) rfl (by kernel_rfl) (by kernel_rfl) (by kernel_rfl) (fun _ _ _ h => h) (Or.inl ⟨by rfl, ?_⟩) (by assumption) ?_
    rotate_left
    · intro w hSw; (try dsimp only at hSw); go_simp <;> with_reducible rfl
    try simp only [Act.put, List.getElem_toArray, List.getElem_cons_succ, List.getElem_cons_zero, List.setIfInBounds_toArray, List.set_cons_zero, List.set_cons_succ]
    refine wpAnyH_take (i := 18) (v := ?_) rfl (by kernel_rfl) (by kernel_rfl) (by kernel_rfl) (fun _ _ _ h => h) (Or.inl ⟨by rfl, ?_⟩) (by assumption) ?_
    rotate_left
    · intro w hSw; (try dsimp only at hSw); go_simp <;> with_reducible rfl
    try simp only [Act.put, List.getElem_toArray, List.getElem_cons_succ, List.getElem_cons_zero, List.setIfInBounds_toArray, List.set_cons_zero, List.set_cons_succ]
    refine wpAnyH_take (i := 19) (v := ?_) rfl (by kernel_rfl) (by kernel_rfl) (by kernel_rfl) (fun _ _ _ h => h) (Or.inl ⟨by rfl, ?_⟩) (by assumption) ?_
    rotate_left
    · intro w hSw; (try dsimp only at hSw); go_simp <;> with_reducible rfl
    try simp only [Act.put, List.getElem_toArray, List.getElem_cons_succ, List.getElem_cons_zero, List.setIfInBounds_toArray, List.set_cons_zero, List.set_cons_succ]
    refine wpAnyH_take (i := 20) (v := undef) rfl (by kernel_rfl) (by kernel_rfl) (by kernel_rfl) (fun _ _ _ h => h) (Or.inr ⟨by rfl, rfl⟩) (by assumption) ?_
    try simp only [Act.put, List.getElem_toArray, List.getElem_cons_succ, List.getElem_cons_zero, List.setIfInBounds_toArray, List.set_cons_zero, List.set_cons_succ]
    refine wpAnyH_take (i := 21) (v := undef) rfl (by kernel_rfl) (by kernel_rfl) (by kernel_rfl) (fun _ _ _ h => h) (Or.inr ⟨by rfl, rfl⟩) (by assumption) ?_
    try simp only [Act.put, List.getElem_toArray, List.getElem_cons_succ, List.getElem_cons_zero, List.setIfInBounds_toArray, List.set_cons_zero, List.set_cons_succ]
    refine wpAnyH_take (i := 22) (v := undef) rfl (by kernel_rfl) (by kernel_rfl) (by kernel_rfl) (fun _ _ _ h => h) (Or.inr ⟨by rfl, rfl⟩) (by assumption) ?_
    try simp only [Act.put, List.getElem_toArray, List.getElem_cons_succ, List.getElem_cons_zero, List.setIfInBounds_toArray, List.set_cons_zero, List.set_cons_succ]
    refine wpAnyH_take (i := 23) (v := undef) rfl (by kernel_rfl) (by kernel_rfl) (by kernel_rfl) (fun _ _ _ h => h) (Or.inr ⟨by rfl, rfl⟩) (by assumption) ?_
    try simp only [Act.put, List.getElem_toArray, List.getElem_cons_succ, List.getElem_cons_zero, List.setIfInBounds_toArray, List.set_cons_zero, List.set_cons_succ]
    refine wpAnyH_take (i := 24) (v := undef) rfl (by kernel_rfl) (by kernel_rfl) (by kernel_rfl) (fun _ _ _ h => h) (Or.inr ⟨by rfl, rfl⟩) (by assumption) ?_
    try simp only [Act.put, List.getElem_toArray, List.getElem_cons_succ, List.getElem_cons_zero, List.setIfInBounds_toArray, List.set_cons_zero, List.set_cons_succ]
    refine wpAnyH_take (i := 25) (v := undef) rfl (by kernel_rfl) (by kernel_rfl) (by kernel_rfl) (fun _ _ _ h => h) (Or.inr ⟨by rfl, rfl⟩) (by assumption) ?_
    try simp only [Act.put, List.getElem_toArray, List.getElem_cons_succ, List.getElem_cons_zero, List.setIfInBounds_toArray, List.set_cons_zero, List.set_cons_succ]
    refine wpAnyH_take (i := 26) (v := undef) rfl (by kernel_rfl) (by kernel_rfl) (by kernel_rfl) (fun _ _ _ h => h) (Or.inr ⟨by rfl, rfl⟩) (by assumption) ?_
    try simp only [Act.put, List.getElem_toArray, List.getElem_cons_succ, List.getElem_cons_zero, List.setIfInBounds_toArray, List.set_cons_zero, List.set_cons_succ]
    refine wpAnyH_take (i := 27) (v := undef) rfl (by kernel_rfl) (by kernel_rfl) (by kernel_rfl) (fun _ _ _ h => h) (Or.inr ⟨by rfl, rfl⟩) (by assumption) ?_
    try simp only [Act.put, List.getElem_toArray, List.getElem_cons_succ, List.getElem_cons_zero, List.setIfInBounds_toArray, List.set_cons_zero, List.set_cons_succ]
    refine wpAnyH_take (i := 28) (v := ?_) rfl (by kernel_rfl) (by kernel_rfl) (by kernel_rfl) (fun _ _ _ h => h) (Or.inl ⟨by rfl, ?_⟩) (by assumption) ?_
    rotate_left
    · intro w hSw; (try dsimp only at hSw); go_simp <;> with_reducible rfl
    try simp only [Act.put, List.getElem_toArray, List.getElem_cons_succ, List.getElem_cons_zero, List.setIfInBounds_toArray, List.set_cons_zero, List.set_cons_succ]
    refine wpAnyH_done (by kernel_rfl) ?_ _
    clear r0 r1 r2 s0 s1 s2
    obtain ⟨rfl, rfl, rfl⟩ := HNO.out (by simp)
    obtain ⟨⟨t0, t1, t2⟩, f0, f1, f2⟩ := RX.out.at (r := w.heap.size + 1 + 1) (a := nilV) (b := nilV) (c := nilV) (by simp)
    go_wp2
    refine bodyPost_ret (v := .tuple #[tenV nilV nilV nilV, .bool false]) (by simp [results, Try.results24, go_sem, t0, t1, t2]) rfl ?_
    exact NewTen2.nils (((RX.out.bel.setCell (by simp; omega) _).setCell (by simp; omega) _).setCell (by simp; omega) _)
  | true =>
  have FT := Lib.hid (TF.of HTB.out.symm)
  have hax := axesB_true.1 HXB.out.symm
  have hbL : b ∈ L := by
    have h := HZI.out
    unfold findI at h
    by_cases hm : b ∈ L
    · exact hm
    · rw [if_neg hm] at h; omega
  obtain ⟨z, hz⟩ : ∃ z, z = L.idxOf b := ⟨_, rfl⟩
  have hzb : zi = (z : Int) := by
    have h := HZI.out
    unfold findI at h
    rw [if_pos hbL] at h
    rw [h, hz]
  subst hzb
  have hzL := at_idxOf hbL
  rw [← hz] at hzL
  have h12 : m1 ≤ 12 := by rw [HM.out.1]; exact FT.out.ax.1
  have hm21 : m1 = m2 := by rw [HM.out.1, HM.out.2.1]; exact FT.out.ax.2.1
  subst hm21
  have hz1 : z < m1 := by have := (List.getElem?_eq_some_iff.1 hzL).1; have := HM.out.1; omega
  obtain ⟨d, hd⟩ : ∃ d, D[z]? = some d := ⟨_, List.getElem?_eq_getElem (by rw [← HM.out.2.1]; exact hz1)⟩
  have hgd : D.getD (L.idxOf b) 0 = d := by rw [← hz]; exact getD_at hd
  rw [hgd] at HFB
  obtain ⟨bd, od, rfl, hbd, de⟩ := (HT.out.d.below RX.out.bel (Nat.le_refl _)).cellAt hd
  have HDE : Hid (∀ W : World, Below w.heap.size w W → W.cell? ⟨bd, od + z, none⟩ = some (.int .i64 d)) := Lib.hid (fun W hb => by
    obtain ⟨b1, o1, e1, -, h1⟩ := (HT.out.d.below hb (Nat.le_refl _)).cellAt hd
    cases e1
    exact h1)
  obtain ⟨PG, hPG⟩ : ∃ n, n = capI G := ⟨_, rfl⟩
  rw [← hPG] at HFB
  have HMAG : Hid (mA = mG) := Lib.hid (by rw [HM.out.2.2.2.1, HM.out.2.2.2.2]; exact hax.2.1)
  have hmA12 : mA ≤ 12 := by rw [HM.out.2.2.2.1]; exact hax.1
  have HPR := Lib.hid (fun (W : World) (hb : Below w.heap.size w W) => product_spec (HG.out.below hb (Nat.le_refl _)) (by rw [← HM.out.2.2.2.2]; omega) hax.2.2.2.1)
  rw [← hPG] at HPR
  have q4 : decide ((z : Int) < 0) = false := by simp
  have HSV : Hid (SubV L [b]) := Lib.hid (subB_true.1 (by rw [sub_one, decide_eq_true hbL]))
  have HSE := Lib.hid ((rest_setV FT.out.ax.2.2.2.2).2 HSV.out)
  have HBL := Lib.hid hbL
  clear hax hbL hz hzL hd hgd hPG hz0 q1
  have q1 : decide ((z : Int) < 0) = false := q4
  clear s0 s1 s2 de
  go_enter Try.func24, Try.ntmps24
  go_wp2_with fail
  refine HF1.out.mono ?_
  rintro e w0 ⟨rfl, rfl⟩
  obtain ⟨⟨r0, r1, r2⟩, -⟩ := RX.out.at (r := w.heap.size) (a := .int .i64 k) (b := .int .i64 p) (c := .int .i64 q) (by simp)
  obtain ⟨⟨s0, s1, s2⟩, -⟩ := RX.out.at (r := w.heap.size + 1) (a := .slice al m1 cl) (b := .slice (some ⟨bd, od, none⟩) m1 cd) (c := .slice ax m3 cx) (by simp)
  have de := HDE.out _ RX.out.bel
  go_wp2
  refine wp_region_held_drew (S := (fun w' => (w'.cell? ⟨w.heap.size, 0, none⟩ = some (.int .i64 k) ∧ w'.cell? ⟨w.heap.size, 1, none⟩ = some (.int .i64 p) ∧ w'.cell? ⟨w.heap.size, 2, none⟩ = some (.int .i64 q)) ∧ (w'.cell? ⟨w.heap.size + 1, 0, none⟩ = some (.slice al m1 cl) ∧ w'.cell? ⟨w.heap.size + 1, 1, none⟩ = some (.slice (some ⟨bd, od, none⟩) m1 cd) ∧ w'.cell? ⟨w.heap.size + 1, 2, none⟩ = some (.slice ax m3 cx)) ∧ w'.cell? ⟨bd, od + z, none⟩ = some (.int .i64 d))) (by kernel_rfl) (by (try dsimp only); with_reducible exact ⟨⟨r0, r1, r2⟩, ⟨s0, s1, s2⟩, de⟩) (fun hHeld => ?_)
  refine wpAnyH_take (i := 0) (v := ?_) rfl (by kernel_rfl) (by kernel_rfl) (by kernel_rfl) (fun _ _ _ h => h) (Or.inl ⟨by rfl, ?_⟩) (by assumption) ?_
  rotate_left
  · intro w hSw; (try dsimp only at hSw); go_simp <;> with_reducible rfl
  try simp only [Act.put, List.getElem_toArray, List.getElem_cons_zero, List.setIfInBounds_toArray, List.set_cons_zero, List.set_cons_succ]
  refine wpAnyH_take (i := 1) (v := ?_) rfl (by kernel_rfl) (by kernel_rfl) (by kernel_rfl) (fun _ _ _ h => h) (Or.inl ⟨by rfl, ?_⟩) (by assumption) ?_
  rotate_left
  · intro w hSw; (try dsimp only at hSw); go_simp <;> with_reducible rfl
  try simp only [Act.put, List.getElem_toArray, List.getElem_cons_succ, List.getElem_cons_zero, List.setIfInBounds_toArray, List.set_cons_zero, List.set_cons_succ]
  refine wpAnyH_ready (rs := [2]) (by kernel_rfl) (by simp) ?_
  refine AllReadyH.cons rfl (fun K hK => ?_) AllReadyH.nil
  go_simp
  (go_at_call 30; refine (OKA.out _ RX.out.bel).mono ?_; rintro e WX ⟨rfl, hb⟩; replace RX := Lib.hid (RX.out.step hb); clear de; have de := HDE.out _ RX.out.bel; clear hb r0 r1 r2 s0 s1 s2; obtain ⟨⟨r0, r1, r2⟩, -⟩ := RX.out.at (r := w.heap.size) (a := .int .i64 k) (b := .int .i64 p) (c := .int .i64 q) (by simp); obtain ⟨⟨s0, s1, s2⟩, -⟩ := RX.out.at (r := w.heap.size + 1) (a := .slice al m1 cl) (b := .slice (some ⟨bd, od, none⟩) m1 cd) (c := .slice ax m3 cx) (by simp))
  go_wp2_with fail
  refine hK.out _ _ (by (try dsimp only); with_reducible exact ⟨⟨r0, r1, r2⟩, ⟨s0, s1, s2⟩, de⟩) (fun hHeld => ?_)
  clear hK K
  try simp only [Act.put, List.getElem_toArray, List.getElem_cons_succ, List.getElem_cons_zero, List.setIfInBounds_toArray, List.set_cons_zero, List.set_cons_succ]
  refine wpAnyH_take (i := 3) (v := ?_) rfl (by kernel_rfl) (by kernel_rfl) (by kernel_rfl) (fun _ _ _ h => h) (Or.inl ⟨by rfl, ?_⟩) (by assumption) ?_
  rotate_left
  · intro w hSw; (try dsimp only at hSw); go_simp <;> with_reducible rfl
  try simp only [Act.put, List.getElem_toArray, List.getElem_cons_succ, List.getElem_cons_zero, List.setIfInBounds_toArray, List.set_cons_zero, List.set_cons_succ]
  refine wpAnyH_take (i := 4) (v := ?_) rfl (by kernel_rfl) (by kernel_rfl) (by kernel_rfl) (fun _ _ _ h => h) (Or.inl ⟨by rfl, ?_⟩) (by assumption) ?_
  rotate_left
  · intro w hSw; (try dsimp only at hSw); go_simp <;> with_reducible rfl
  try simp only [Act.put, List.getElem_toArray, List.getElem_cons_succ, List.getElem_cons_zero, List.setIfInBounds_toArray, List.set_cons_zero, List.set_cons_succ]
  refine wpAnyH_take (i := 5) (v := ?_) rfl (by kernel_rfl) (by kernel_rfl) (by kernel_rfl) (fun _ _ _ h => h) (Or.inl ⟨by rfl, ?_⟩) (by assumption) ?_
  rotate_left
  · intro w hSw; (try dsimp only at hSw); go_simp <;> with_reducible rfl
  try simp only [Act.put, List.getElem_toArray, List.getElem_cons_succ, List.getElem_cons_zero, List.setIfInBounds_toArray, List.set_cons_zero, List.set_cons_succ]
  refine wpAnyH_take (i := 6) (v := ?_) rfl (by kernel_rfl) (by kernel_rfl) (by kernel_rfl) (fun _ _ _ h => h) (Or.inl ⟨by rfl, ?_⟩) (by assumption) ?_
  rotate_left
  · intro w hSw; (try dsimp only at hSw); go_simp <;> with_reducible rfl
  try simp only [Act.put, List.getElem_toArray, List.getElem_cons_succ, List.getElem_cons_zero, List.setIfInBounds_toArray, List.set_cons_zero, List.set_cons_succ]
  refine wpAnyH_take (i := 7) (v := ?_) rfl (by kernel_rfl) (by kernel_rfl) (by kernel_rfl) (fun _ _ _ h => h) (Or.inl ⟨by rfl, ?_⟩) (by assumption) ?_
  rotate_left
  · intro w hSw; (try dsimp only at hSw); go_simp <;> with_reducible rfl
  try simp only [Act.put, List.getElem_toArray, List.getElem_cons_succ, List.getElem_cons_zero, List.setIfInBounds_toArray, List.set_cons_zero, List.set_cons_succ]
  refine wpAnyH_take (i := 8) (v := ?_) rfl (by kernel_rfl) (by kernel_rfl) (by kernel_rfl) (fun _ _ _ h => h) (Or.inl ⟨by rfl, ?_⟩) (by assumption) ?_
  rotate_left
  · intro w hSw; (try dsimp only at hSw); go_simp <;> with_reducible rfl
  try simp only [Act.put, List.getElem_toArray, List.getElem_cons_succ, List.getElem_cons_zero, List.setIfInBounds_toArray, List.set_cons_zero, List.set_cons_succ]
  refine wpAnyH_take (i := 9) (v := ?_) rfl (by kernel_rfl) (by kernel_rfl) (by kernel_rfl) (fun _ _ _ h => h) (Or.inl ⟨by rfl, ?_⟩) (by assumption) ?_
  rotate_left
  · intro w hSw; (try dsimp only at hSw); go_simp <;> with_reducible rfl
  try simp only [Act.put, List.getElem_toArray, List.getElem_cons_succ, List.getElem_cons_zero, List.setIfInBounds_toArray, List.set_cons_zero, List.set_cons_succ]
  refine wpAnyH_take (i := 10) (v := ?_) rfl (by kernel_rfl) (by kernel_rfl) (by kernel_rfl) (fun _ _ _ h => h) (Or.inl ⟨by rfl, ?_⟩) (by assumption) ?_
  rotate_left
  · intro w hSw; (try dsimp only at hSw); go_simp <;> with_reducible rfl
  try simp only [Act.put, List.getElem_toArray, List.getElem_cons_succ, List.getElem_cons_zero, List.setIfInBounds_toArray, List.set_cons_zero, List.set_cons_succ]
  refine wpAnyH_take (i := 11) (v := ?_) rfl (by kernel_rfl) (by kernel_rfl) (by kernel_rfl) (fun _ _ _ h => h) (Or.inl ⟨by rfl, ?_⟩) (by assumption) ?_
  rotate_left
  · intro w hSw; (try dsimp only at hSw); go_simp <;> with_reducible rfl
  try simp only [Act.put, List.getElem_toArray, List.getElem_cons_succ, List.getElem_cons_zero, List.setIfInBounds_toArray, List.set_cons_zero, List.set_cons_succ]
  refine wpAnyH_take (i := 12) (v := ?_) rfl (by kernel_rfl) (by kernel_rfl) (by kernel_rfl) (fun _ _ _ h => h) (Or.inl ⟨by rfl, ?_⟩) (by assumption) ?_
  rotate_left
  · intro w hSw; (try dsimp only at hSw); go_simp <;> with_reducible rfl
  try simp only [Act.put, List.getElem_toArray, List.getElem_cons_succ, List.getElem_cons_zero, List.setIfInBounds_toArray, List.set_cons_zero, List.set_cons_succ]
  refine wpAnyH_take (i := 13) (v := ?_) rfl (by kernel_rfl) (by kernel_rfl) (by kernel_rfl) (fun _ _ _ h => h) (Or.inl ⟨by rfl, ?_⟩) (by assumption) ?_
  rotate_left
  · intro w hSw; (try dsimp only at hSw); go_simp <;> with_reducible rfl
  try simp only [Act.put, List.getElem_toArray, List.getElem_cons_succ, List.getElem_cons_zero, List.setIfInBounds_toArray, List.set_cons_zero, List.set_cons_succ]
  refine wpAnyH_take (i := 14) (v := ?_) rfl (by kernel_rfl) (by kernel_rfl) (by kernel_rfl) (fun _ _ _ h => h) (Or.inl ⟨by rfl, ?_⟩) (by assumption) ?_
  rotate_left
  · intro w hSw; (try dsimp only at hSw); go_simp <;> with_reducible rfl
  try simp only [Act.put, List.getElem_toArray, List.getElem_cons_succ, List.getElem_cons_zero, List.setIfInBounds_toArray, List.set_cons_zero, List.set_cons_succ]
  refine wpAnyH_take (i := 15) (v := ?_) rfl (by kernel_rfl) (by kernel_rfl) (by kernel_rfl) (fun _ _ _ h => h) (Or.inl ⟨by rfl, ?_⟩) (by assumption) ?_
  rotate_left
  · intro w hSw; (try dsimp only at hSw); go_simp <;> with_reducible rfl
  try simp only [Act.put, List.getElem_toArray, List.getElem_cons_succ, List.getElem_cons_zero, List.setIfInBounds_toArray, List.set_cons_zero, List.set_cons_succ]
  refine wpAnyH_ready (rs := [16]) (by kernel_rfl) (by simp) ?_
  refine AllReadyH.cons rfl (fun K hK => ?_) AllReadyH.nil
  go_simp
  (go_at_call 48; refine (HAX.out _ RX.out.bel).mono ?_; rintro e WX ⟨rfl, rfl⟩)
  go_wp2_with fail
  refine hK.out _ _ (by (try dsimp only); with_reducible exact ⟨⟨r0, r1, r2⟩, ⟨s0, s1, s2⟩, de⟩) (fun hHeld => ?_)
  clear hK K
  try simp only [Act.put, List.getElem_toArray, List.getElem_cons_succ, List.getElem_cons_zero, List.setIfInBounds_toArray, List.set_cons_zero, List.set_cons_succ]
  refine wpAnyH_take (i := 17) (v := ?_) rfl (by kernel_rfl) (by kernel_rfl) (by kernel_rfl) (fun _ _ _ h => h) (Or.inl ⟨by rfl, ?_⟩) (by assumption) ?_
  rotate_left
  · intro w hSw; (try dsimp only at hSw); go_simp <;> with_reducible rfl
  try simp only [Act.put, List.getElem_toArray, List.getElem_cons_succ, List.getElem_cons_zero, List.setIfInBounds_toArray, List.set_cons_zero, List.set_cons_succ]
  refine wpAnyH_take (i := 18) (v := ?_) rfl (by kernel_rfl) (by kernel_rfl) (by kernel_rfl) (fun _ _ _ h => h) (Or.inl ⟨by rfl, ?_⟩) (by assumption) ?_
  rotate_left
  · intro w hSw; (try dsimp only at hSw); go_simp <;> with_reducible rfl
  try simp only [Act.put, List.getElem_toArray, List.getElem_cons_succ, List.getElem_cons_zero, List.setIfInBounds_toArray, List.set_cons_zero, List.set_cons_succ]
  refine wpAnyH_take (i := 19) (v := ?_) rfl (by kernel_rfl) (by kernel_rfl) (by kernel_rfl) (fun _ _ _ h => h) (Or.inl ⟨by rfl, ?_⟩) (by assumption) ?_
  rotate_left
  · intro w hSw; (try dsimp only at hSw); go_simp <;> with_reducible rfl
  try simp only [Act.put, List.getElem_toArray, List.getElem_cons_succ, List.getElem_cons_zero, List.setIfInBounds_toArray, List.set_cons_zero, List.set_cons_succ]
  refine wpAnyH_take (i := 20) (v := ?_) rfl (by kernel_rfl) (by kernel_rfl) (by kernel_rfl) (fun _ _ _ h => h) (Or.inl ⟨by rfl, ?_⟩) (by assumption) ?_
  rotate_left
  · intro w hSw; (try dsimp only at hSw); go_simp <;> with_reducible rfl
  try simp only [Act.put, List.getElem_toArray, List.getElem_cons_succ, List.getElem_cons_zero, List.setIfInBounds_toArray, List.set_cons_zero, List.set_cons_succ]
  refine wpAnyH_take (i := 22) (v := ?_) rfl (by kernel_rfl) (by kernel_rfl) (by kernel_rfl) (fun _ _ _ h => h) (Or.inl ⟨by rfl, ?_⟩) (by assumption) ?_
  rotate_left
  · intro w hSw; (try dsimp only at hSw); go_simp <;> with_reducible rfl
  try simp only [Act.put, List.getElem_toArray, List.getElem_cons_succ, List.getElem_cons_zero, List.setIfInBounds_toArray, List.set_cons_zero, List.set_cons_succ]
  refine wpAnyH_take (i := 23) (v := ?_) rfl (by kernel_rfl) (by kernel_rfl) (by kernel_rfl) (fun _ _ _ h => h) (Or.inl ⟨by rfl, ?_⟩) (by assumption) ?_
  rotate_left
  · intro w hSw; (try dsimp only at hSw); go_simp <;> with_reducible rfl
  try simp only [Act.put, List.getElem_toArray, List.getElem_cons_succ, List.getElem_cons_zero, List.setIfInBounds_toArray, List.set_cons_zero, List.set_cons_succ]
  refine wpAnyH_take (i := 24) (v := ?_) rfl (by kernel_rfl) (by kernel_rfl) (by kernel_rfl) (fun _ _ _ h => h) (Or.inl ⟨by rfl, ?_⟩) (by assumption) ?_
  rotate_left
  · intro w hSw; (try dsimp only at hSw); go_simp <;> with_reducible rfl
  try simp only [Act.put, List.getElem_toArray, List.getElem_cons_succ, List.getElem_cons_zero, List.setIfInBounds_toArray, List.set_cons_zero, List.set_cons_succ]
  refine wpAnyH_take (i := 25) (v := ?_) rfl (by kernel_rfl) (by kernel_rfl) (by kernel_rfl) (fun _ _ _ h => h) (Or.inl ⟨by rfl, ?_⟩) (by assumption) ?_
  rotate_left
  · intro w hSw; (try dsimp only at hSw); go_simp <;> with_reducible rfl
  try simp only [Act.put, List.getElem_toArray, List.getElem_cons_succ, List.getElem_cons_zero, List.setIfInBounds_toArray, List.set_cons_zero, List.set_cons_succ]
  refine wpAnyH_take (i := 26) (v := ?_) rfl (by kernel_rfl) (by kernel_rfl) (by kernel_rfl) (fun _ _ _ h => h) (Or.inl ⟨by rfl, ?_⟩) (by assumption) ?_
  rotate_left
  · intro w hSw; (try dsimp only at hSw); go_simp <;> with_reducible rfl
  try simp only [Act.put, List.getElem_toArray, List.getElem_cons_succ, List.getElem_cons_zero, List.setIfInBounds_toArray, List.set_cons_zero, List.set_cons_succ]
  refine wpAnyH_ready (rs := [21]) (by kernel_rfl) (by simp) ?_
  refine AllReadyH.cons rfl (fun K hK => ?_) AllReadyH.nil
  go_simp
  (go_at_call 34; refine (HPR.out _ RX.out.bel).mono ?_; rintro e WX ⟨rfl, rfl⟩)
  go_wp2_with fail
  refine hK.out _ _ (by (try dsimp only); with_reducible exact ⟨⟨r0, r1, r2⟩, ⟨s0, s1, s2⟩, de⟩) (fun hHeld => ?_)
  clear hK K
  try simp only [Act.put, List.getElem_toArray, List.getElem_cons_succ, List.getElem_cons_zero, List.setIfInBounds_toArray, List.set_cons_zero, List.set_cons_succ]
  refine wpAnyH_take (i := 27) (v := ?_) rfl (by kernel_rfl) (by kernel_rfl) (by kernel_rfl) (fun _ _ _ h => h) (Or.inl ⟨by rfl, ?_⟩) (by assumption) ?_
  rotate_left
  · intro w hSw; (try dsimp only at hSw); go_simp <;> with_reducible rfl
  try simp only [Act.put, List.getElem_toArray, List.getElem_cons_succ, List.getElem_cons_zero, List.setIfInBounds_toArray, List.set_cons_zero, List.set_cons_succ]
  refine wpAnyH_take (i := 28) (v := ?_) rfl (by kernel_rfl) (by kernel_rfl) (by kernel_rfl) (fun _ _ _ h => h) (Or.inl ⟨by rfl, ?_⟩) (by assumption) ?_
  rotate_left
  · intro w hSw; (try dsimp only at hSw); go_simp <;> with_reducible rfl
  try simp only [Act.put, List.getElem_toArray, List.getElem_cons_succ, List.getElem_cons_zero, List.setIfInBounds_toArray, List.set_cons_zero, List.set_cons_succ]
  refine wpAnyH_done (by kernel_rfl) ?_ _
  clear r0 r1 r2 s0 s1 s2 de
  by_cases hpd : PG = d
  case neg =>
    have q5 : (PG == d) = false := by simpa using hpd
    have q6 : (PG != d) = true := by simpa using hpd
    obtain rfl : fb = false := by rw [HFB.out, decide_eq_false hpd]; simp
    obtain ⟨rfl, rfl, rfl⟩ := HNO.out (by simp)
    obtain ⟨⟨t0, t1, t2⟩, f0, f1, f2⟩ := RX.out.at (r := w.heap.size + 1 + 1) (a := nilV) (b := nilV) (c := nilV) (by simp)
    go_wp2
    refine bodyPost_ret (v := .tuple #[tenV nilV nilV nilV, .bool false]) (by simp [results, Try.results24, go_sem, t0, t1, t2]) rfl ?_
    exact NewTen2.nils (((RX.out.bel.setCell (by simp; omega) _).setCell (by simp; omega) _).setCell (by simp; omega) _)
  have q5 : (PG == d) = true := by simpa using hpd
  have q6 : (PG != d) = false := by simpa using hpd
  have HFB2 : Hid (fb = decide (0 ≤ s)) := Lib.hid (by rw [HFB.out, decide_eq_true hpd, decide_eq_true HBL.out, decide_eq_true (show 1 ≤ mA by omega)]; simp)
  obtain ⟨nR, hnR⟩ : ∃ n, n = (restL [b] L).length := ⟨_, rfl⟩
  have HNR : Hid (nR = (restL [b] L).length ∧ nR + 1 = m1) := Lib.hid (by
    have h := (rest_perm FT.out.ax.2.2.2.2 HSV.out).length_eq
    unfold regL at h
    rw [List.length_append, ← hnR, ← HM.out.1] at h
    exact ⟨hnR, h⟩)
  have hnr4 : nR ≤ 12 := by have := HNR.out.2; omega
  have RL := Lib.hid (RX.out.lit1 b)
  have HRE := Lib.hid (rest_spec (RL.out.bel.size |> fun hz => (⟨(HT.out.below RL.out.bel (Nat.le_refl _)).l.mono hz, (HT.out.below RL.out.bel (Nat.le_refl _)).d.mono hz, (HT.out.below RL.out.bel (Nat.le_refl _)).x.mono hz⟩ : RdT _ _ (.slice al m1 cl) (.slice (some ⟨bd, od, none⟩) m1 cd) (.slice ax m3 cx) L D X)) (RL.out.rd (v := .slice (some ⟨WX.heap.size, 0, none⟩) 1 1) (xs := [b]) (by simp)) (Nat.le_refl _) HM.out.1.symm (by omega) (by simp))
  clear hnR hpd
  obtain ⟨⟨s0, s1, s2⟩, -⟩ := RL.out.at (r := w.heap.size + 1) (a := .slice al m1 cl) (b := .slice (some ⟨bd, od, none⟩) m1 cd) (c := .slice ax m3 cx) (by simp)
  go_wp2_with fail
  refine HRE.out.mono ?_
  clear s0 s1 s2 HRE
  rintro e w2 ⟨vr, rfl, ho, hb⟩
  obtain ⟨aR, cR, rfl, -⟩ := ints_form ho.rd
  rw [← HNR.out.1] at ho ⊢
  have RN := Lib.hid ((RL.out.new hb ho).sub (rows' := [(.slice aR nR cR, restL [b] L)]) (List.Sublist.cons_cons _ (List.nil_sublist _)))
  clear ho hb RL RX
  have RX := Lib.hid RN.out.drew
  obtain ⟨⟨r0, r1, r2⟩, -⟩ := RX.out.at (r := w.heap.size) (a := .int .i64 k) (b := .int .i64 p) (c := .int .i64 q) (by simp)
  obtain ⟨⟨s0, s1, s2⟩, -⟩ := RX.out.at (r := w.heap.size + 1) (a := .slice al m1 cl) (b := .slice (some ⟨bd, od, none⟩) m1 cd) (c := .slice ax m3 cx) (by simp)
  have HTm := Lib.hid (fun (W : World) (hb : Below w.heap.size w W) => (⟨(HT.out.below hb (Nat.le_refl _)).l.mono hb.size, (HT.out.below hb (Nat.le_refl _)).d.mono hb.size, (HT.out.below hb (Nat.le_refl _)).x.mono hb.size⟩ : RdT W.heap.size W (.slice al m1 cl) (.slice (some ⟨bd, od, none⟩) m1 cd) (.slice ax m3 cx) L D X))
  have HRL : Hid (restL [b] L ++ [b] = regL L [b]) := Lib.hid rfl
  go_upto_region 5 with fail
  go_cut [14] (fun bp wx => ∃ (gb : Nat) (a1 : Option Addr) (n1 c1 : Nat) (a2 : Option Addr) (n2 c2 : Nat) (a3 : Option Addr) (n3 c3 : Nat), bp = .pointer (some ⟨gb, 0, none⟩) ∧ Hid (Rs w wx ((gb, .slice a1 n1 c1, .slice a2 n2 c2, .slice a3 n3 c3) :: [(w.heap.size + 1 + 1, nilV, nilV, nilV), (w.heap.size + 1, Value.slice al m1 cl, Value.slice (some ⟨bd, od, none⟩) m1 cd, Value.slice ax m3 cx), (w.heap.size, Value.int .i64 k, Value.int .i64 p, Value.int .i64 q)]) [(.slice a1 n1 c1, regL L [b]), (.slice a2 n2 c2, dimsVia L D (regL L [b])), (.slice a3 n3 c3, regX k q L D X [b]), (.slice aR nR cR, restL [b] L)]))
  case first =>
    refine wp_region_held_drew (S := (fun w' => (w'.cell? ⟨w.heap.size, 0, none⟩ = some (.int .i64 k) ∧ w'.cell? ⟨w.heap.size, 1, none⟩ = some (.int .i64 p) ∧ w'.cell? ⟨w.heap.size, 2, none⟩ = some (.int .i64 q)) ∧ (w'.cell? ⟨w.heap.size + 1, 0, none⟩ = some (.slice al m1 cl) ∧ w'.cell? ⟨w.heap.size + 1, 1, none⟩ = some (.slice (some ⟨bd, od, none⟩) m1 cd) ∧ w'.cell? ⟨w.heap.size + 1, 2, none⟩ = some (.slice ax m3 cx)))) (by kernel_rfl) (by (try dsimp only); with_reducible exact ⟨⟨r0, r1, r2⟩, ⟨s0, s1, s2⟩⟩) (fun hHeld => ?_)
    refine wpAnyH_take (i := 0) (v := ?_) rfl (by kernel_rfl) (by kernel_rfl) (by kernel_rfl) (fun _ _ _ h => h) (Or.inl ⟨by rfl, ?_⟩) (by assumption) ?_
    rotate_left
    · intro w hSw; (try dsimp only at hSw); go_simp <;> with_reducible rfl
    try simp only [Act.put, List.getElem_toArray, List.getElem_cons_zero, List.setIfInBounds_toArray, List.set_cons_zero, List.set_cons_succ]
    refine wpAnyH_take (i := 1) (v := ?_) rfl (by kernel_rfl) (by kernel_rfl) (by kernel_rfl) (fun _ _ _ h => h) (Or.inl ⟨by rfl, ?_⟩) (by assumption) ?_
    rotate_left
    · intro w hSw; (try dsimp only at hSw); go_simp <;> with_reducible rfl
    try simp only [Act.put, List.getElem_toArray, List.getElem_cons_succ, List.getElem_cons_zero, List.setIfInBounds_toArray, List.set_cons_zero, List.set_cons_succ]
    refine wpAnyH_take (i := 2) (v := ?_) rfl (by kernel_rfl) (by kernel_rfl) (by kernel_rfl) (fun _ _ _ h => h) (Or.inl ⟨by rfl, ?_⟩) (by assumption) ?_
    rotate_left
    · intro w hSw; (try dsimp only at hSw); go_simp <;> with_reducible rfl
    try simp only [Act.put, List.getElem_toArray, List.getElem_cons_succ, List.getElem_cons_zero, List.setIfInBounds_toArray, List.set_cons_zero, List.set_cons_succ]
    refine wpAnyH_take (i := 4) (v := ?_) rfl (by kernel_rfl) (by kernel_rfl) (by kernel_rfl) (fun _ _ _ h => h) (Or.inl ⟨by rfl, ?_⟩) (by assumption) ?_
    rotate_left
    · intro w hSw; (try dsimp only at hSw); go_simp <;> with_reducible rfl
    try simp only [Act.put, List.getElem_toArray, List.getElem_cons_succ, List.getElem_cons_zero, List.setIfInBounds_toArray, List.set_cons_zero, List.set_cons_succ]
    refine wpAnyH_ready (rs := [3, 5, 8]) (by kernel_rfl) (by simp) ?_
    refine AllReadyH.cons rfl (fun K hK => ?_) (AllReadyH.cons rfl (fun K hK => ?_) (AllReadyH.cons rfl (fun K hK => ?_) AllReadyH.nil))
    focus
      go_simp
      (go_at_call 31; refine (ints_new (RX.out.rd (v := .slice aR nR cR) (xs := restL [b] L) (by simp)) (Nat.le_refl _) (by rw [← HNR.out.1]; omega)).mono ?_; rintro e WX ⟨vc, rfl, ho, hb⟩; obtain ⟨aC, cC, rfl, -⟩ := ints_form ho.rd; rw [← HNR.out.1] at ho ⊢; clear r0 r1 r2 s0 s1 s2; replace RX := Lib.hid (RX.out.new hb ho); clear ho hb; obtain ⟨⟨r0, r1, r2⟩, -⟩ := RX.out.at (r := w.heap.size) (a := .int .i64 k) (b := .int .i64 p) (c := .int .i64 q) (by simp); obtain ⟨⟨s0, s1, s2⟩, -⟩ := RX.out.at (r := w.heap.size + 1) (a := .slice al m1 cl) (b := .slice (some ⟨bd, od, none⟩) m1 cd) (c := .slice ax m3 cx) (by simp))
      go_wp2_with fail
      refine hK.out _ _ (by (try dsimp only); with_reducible exact ⟨⟨r0, r1, r2⟩, ⟨s0, s1, s2⟩⟩) (fun hHeld => ?_)
      clear hK K
      try simp only [Act.put, List.getElem_toArray, List.getElem_cons_succ, List.getElem_cons_zero, List.setIfInBounds_toArray, List.set_cons_zero, List.set_cons_succ]
      refine wpAnyH_ready (rs := [5, 8]) (by kernel_rfl) (by simp) ?_
      refine AllReadyH.cons rfl (fun K hK => ?_) (AllReadyH.cons rfl (fun K hK => ?_) AllReadyH.nil)
      focus
        go_simp
        ((first | (obtain ⟨WX, gl, hW, hg, RXn⟩ := RX.out.litX b; rw [hW]; (try rw [hg])) | (obtain ⟨WZ, gl, hW, hg, RXn⟩ := RN.out.litX b; rw [hW]; (try rw [hg]); replace RXn := RXn.drew; clear hW; generalize WZ.drew = WX at RXn ⊢)); clear r0 r1 r2 s0 s1 s2; replace RX := Lib.hid RXn; clear RXn; obtain ⟨⟨r0, r1, r2⟩, -⟩ := RX.out.at (r := w.heap.size) (a := .int .i64 k) (b := .int .i64 p) (c := .int .i64 q) (by simp); obtain ⟨⟨s0, s1, s2⟩, -⟩ := RX.out.at (r := w.heap.size + 1) (a := .slice al m1 cl) (b := .slice (some ⟨bd, od, none⟩) m1 cd) (c := .slice ax m3 cx) (by simp))
        refine hK.out _ _ (by (try dsimp only); with_reducible exact ⟨⟨r0, r1, r2⟩, ⟨s0, s1, s2⟩⟩) (fun hHeld => ?_)
        clear hK K
        try simp only [Act.put, List.getElem_toArray, List.getElem_cons_succ, List.getElem_cons_zero, List.setIfInBounds_toArray, List.set_cons_zero, List.set_cons_succ]
        refine wpAnyH_ready (rs := [6, 8]) (by kernel_rfl) (by simp) ?_
        refine AllReadyH.cons rfl (fun K hK => ?_) (AllReadyH.cons rfl (fun K hK => ?_) AllReadyH.nil)
        focus
          (have O1 := Lib.hid (RX.out.row (v := .slice aC nR cC) (xs := restL [b] L) (by simp) HNR.out.1.symm); have HNW := Lib.hid (news_at (w := WX) (b := gl) (off := 0) (xs := [b]) (fun i hi => by obtain ⟨bz, oz, ez, -, hcl⟩ := (RX.out.rd (v := .slice (some ⟨gl, 0, none⟩) 1 1) (xs := [b]) (by simp)).cellAt (List.getElem?_eq_getElem hi); cases ez; exact hcl)); refine step_append_lies _ rfl (.tmp 56) (.tmp 58) 26 rfl w.heap.size 3 i0 (.int .i64 0) 1 8 Try.underlying26 J0.out J1.out J2.out J3.out rfl Nat.one_pos (.slice aC nR cC) nR (ints (restL [b] L)) rfl O1.out ⟨gl, 0, none⟩ 1 1 (ints [b]) rfl rfl HNW.out (one_cells _) (by omega) (by unfold maxLen; omega) (by omega) RX.out.bel.size _ rfl ?_; intro gC capC WX hown hgrow hl _; rw [← ints_append] at hown; have h11 := (rs_front RX.out (v := .slice aC nR cC) (xs := restL [b] L) (by first | exact .inl ⟨_, rfl⟩ | exact .inr ⟨_, _, rfl⟩)).choose_spec; have h12 := h11.1.app hown (by rw [List.length_append, ← HNR.out.1]; rfl) hgrow hl; rw [HRL.out] at h12; have h13 := h12.sub (rows' := [(.slice (some ⟨gC, 0, none⟩) (nR + 1) capC, regL L [b]), (.slice aR nR cR, restL [b] L)]) (List.Sublist.cons_cons _ h11.2); clear r0 r1 r2 s0 s1 s2; replace RX := Lib.hid h13; clear hown hgrow hl h11 h12 h13 O1 HNW; obtain ⟨⟨r0, r1, r2⟩, -⟩ := RX.out.at (r := w.heap.size) (a := .int .i64 k) (b := .int .i64 p) (c := .int .i64 q) (by simp); obtain ⟨⟨s0, s1, s2⟩, -⟩ := RX.out.at (r := w.heap.size + 1) (a := .slice al m1 cl) (b := .slice (some ⟨bd, od, none⟩) m1 cd) (c := .slice ax m3 cx) (by simp))
          refine hK.out _ _ (by (try dsimp only); with_reducible exact ⟨⟨r0, r1, r2⟩, ⟨s0, s1, s2⟩⟩) (fun hHeld => ?_)
          clear hK K
          try simp only [Act.put, List.getElem_toArray, List.getElem_cons_succ, List.getElem_cons_zero, List.setIfInBounds_toArray, List.set_cons_zero, List.set_cons_succ]
          refine wpAnyH_ready (rs := [7, 8]) (by kernel_rfl) (by simp) ?_
          refine AllReadyH.cons rfl (fun K hK => ?_) (AllReadyH.cons rfl (fun K hK => ?_) AllReadyH.nil)
          focus
            go_simp
            (go_at_call 46; refine (permute_spec (B := _) (HTm.out _ RX.out.bel) (RX.out.rd (v := .slice (some ⟨gC, 0, none⟩) (nR + 1) capC) (xs := regL L [b]) (by simp)) (Nat.le_refl _) HTB.out.symm HSE.out).mono ?_; rintro e WX ⟨l', d', x', rfl, ho, hb⟩; obtain ⟨a1, n1, c1, rfl⟩ := Own.slice ho.rows.1; obtain ⟨a2, n2, c2, rfl⟩ := Own.slice ho.rows.2.1; obtain ⟨a3, n3, c3, rfl⟩ := Own.slice ho.rows.2.2; clear r0 r1 r2 s0 s1 s2; replace RX := Lib.hid (RX.out.new3 hb ho); clear ho hb; obtain ⟨⟨r0, r1, r2⟩, -⟩ := RX.out.at (r := w.heap.size) (a := .int .i64 k) (b := .int .i64 p) (c := .int .i64 q) (by simp); obtain ⟨⟨s0, s1, s2⟩, -⟩ := RX.out.at (r := w.heap.size + 1) (a := .slice al m1 cl) (b := .slice (some ⟨bd, od, none⟩) m1 cd) (c := .slice ax m3 cx) (by simp))
            go_wp2_with fail
            refine hK.out _ _ (by (try dsimp only); with_reducible exact ⟨⟨r0, r1, r2⟩, ⟨s0, s1, s2⟩⟩) (fun hHeld => ?_)
            clear hK K
            try simp only [Act.put, List.getElem_toArray, List.getElem_cons_succ, List.getElem_cons_zero, List.setIfInBounds_toArray, List.set_cons_zero, List.set_cons_succ]
            refine wpAnyH_ready (rs := [8]) (by kernel_rfl) (by simp) ?_
            refine AllReadyH.cons rfl (fun K hK => ?_) AllReadyH.nil
            go_simp
            ((first | (obtain ⟨WX, gb, hW, hg, RXn⟩ := RX.out.boxX nilV nilV nilV 28; rw [hW]; (try rw [hg])) | (obtain ⟨WZ, gb, hW, hg, RXn⟩ := RN.out.boxX nilV nilV nilV 28; rw [hW]; (try rw [hg]); replace RXn := RXn.drew; clear hW; generalize WZ.drew = WX at RXn ⊢)); clear r0 r1 r2 s0 s1 s2; replace RX := Lib.hid RXn; clear RXn; obtain ⟨⟨r0, r1, r2⟩, -⟩ := RX.out.at (r := w.heap.size) (a := .int .i64 k) (b := .int .i64 p) (c := .int .i64 q) (by simp); obtain ⟨⟨s0, s1, s2⟩, -⟩ := RX.out.at (r := w.heap.size + 1) (a := .slice al m1 cl) (b := .slice (some ⟨bd, od, none⟩) m1 cd) (c := .slice ax m3 cx) (by simp))
            refine hK.out _ _ (by (try dsimp only); with_reducible exact ⟨⟨r0, r1, r2⟩, ⟨s0, s1, s2⟩⟩) (fun hHeld => ?_)
            clear hK K
            try simp only [Act.put, List.getElem_toArray, List.getElem_cons_succ, List.getElem_cons_zero, List.setIfInBounds_toArray, List.set_cons_zero, List.set_cons_succ]
            refine wpAnyH_ready (rs := [9]) (by kernel_rfl) (by simp) ?_
            refine AllReadyH.cons rfl (fun K hK => ?_) AllReadyH.nil
            (obtain ⟨⟨o0, o1, o2⟩, g0, g1, g2⟩ := RX.out.at List.mem_cons_self)
            go_simp
            (clear o0 o1 o2 g0 g1 g2 r0 r1 r2 s0 s1 s2; replace RX := Lib.hid (RX.out.set3 (.slice a1 n1 c1) (.slice a2 n2 c2) (.slice a3 n3 c3)); obtain ⟨⟨r0, r1, r2⟩, -⟩ := RX.out.at (r := w.heap.size) (a := .int .i64 k) (b := .int .i64 p) (c := .int .i64 q) (by simp); obtain ⟨⟨s0, s1, s2⟩, -⟩ := RX.out.at (r := w.heap.size + 1) (a := .slice al m1 cl) (b := .slice (some ⟨bd, od, none⟩) m1 cd) (c := .slice ax m3 cx) (by simp))
            refine hK.out _ _ (by (try dsimp only); with_reducible exact ⟨⟨r0, r1, r2⟩, ⟨s0, s1, s2⟩⟩) (fun hHeld => ?_)
            clear hK K
            try simp only [Act.put, List.getElem_toArray, List.getElem_cons_succ, List.getElem_cons_zero, List.setIfInBounds_toArray, List.set_cons_zero, List.set_cons_succ]
            refine wpAnyH_done (by kernel_rfl) ?_ _
          rotate_left 1
          focus
            go_simp
            ((first | (obtain ⟨WX, gb, hW, hg, RXn⟩ := RX.out.boxX nilV nilV nilV 28; rw [hW]; (try rw [hg])) | (obtain ⟨WZ, gb, hW, hg, RXn⟩ := RN.out.boxX nilV nilV nilV 28; rw [hW]; (try rw [hg]); replace RXn := RXn.drew; clear hW; generalize WZ.drew = WX at RXn ⊢)); clear r0 r1 r2 s0 s1 s2; replace RX := Lib.hid RXn; clear RXn; obtain ⟨⟨r0, r1, r2⟩, -⟩ := RX.out.at (r := w.heap.size) (a := .int .i64 k) (b := .int .i64 p) (c := .int .i64 q) (by simp); obtain ⟨⟨s0, s1, s2⟩, -⟩ := RX.out.at (r := w.heap.size + 1) (a := .slice al m1 cl) (b := .slice (some ⟨bd, od, none⟩) m1 cd) (c := .slice ax m3 cx) (by simp))
            refine hK.out _ _ (by (try dsimp only); with_reducible exact ⟨⟨r0, r1, r2⟩, ⟨s0, s1, s2⟩⟩) (fun hHeld => ?_)
            clear hK K
            try simp only [Act.put, List.getElem_toArray, List.getElem_cons_succ, List.getElem_cons_zero, List.setIfInBounds_toArray, List.set_cons_zero, List.set_cons_succ]
            refine wpAnyH_ready (rs := [7]) (by kernel_rfl) (by simp) ?_
            refine AllReadyH.cons rfl (fun K hK => ?_) AllReadyH.nil
            go_simp
            (go_at_call 46; refine (permute_spec (B := _) (HTm.out _ RX.out.bel) (RX.out.rd (v := .slice (some ⟨gC, 0, none⟩) (nR + 1) capC) (xs := regL L [b]) (by simp)) (Nat.le_refl _) HTB.out.symm HSE.out).mono ?_; rintro e WX ⟨l', d', x', rfl, ho, hb⟩; obtain ⟨a1, n1, c1, rfl⟩ := Own.slice ho.rows.1; obtain ⟨a2, n2, c2, rfl⟩ := Own.slice ho.rows.2.1; obtain ⟨a3, n3, c3, rfl⟩ := Own.slice ho.rows.2.2; clear r0 r1 r2 s0 s1 s2; replace RX := Lib.hid (RX.out.new3 hb ho); clear ho hb; obtain ⟨⟨r0, r1, r2⟩, -⟩ := RX.out.at (r := w.heap.size) (a := .int .i64 k) (b := .int .i64 p) (c := .int .i64 q) (by simp); obtain ⟨⟨s0, s1, s2⟩, -⟩ := RX.out.at (r := w.heap.size + 1) (a := .slice al m1 cl) (b := .slice (some ⟨bd, od, none⟩) m1 cd) (c := .slice ax m3 cx) (by simp))
            go_wp2_with fail
            refine hK.out _ _ (by (try dsimp only); with_reducible exact ⟨⟨r0, r1, r2⟩, ⟨s0, s1, s2⟩⟩) (fun hHeld => ?_)
            clear hK K
            try simp only [Act.put, List.getElem_toArray, List.getElem_cons_succ, List.getElem_cons_zero, List.setIfInBounds_toArray, List.set_cons_zero, List.set_cons_succ]
            refine wpAnyH_ready (rs := [9]) (by kernel_rfl) (by simp) ?_
            refine AllReadyH.cons rfl (fun K hK => ?_) AllReadyH.nil
            (obtain ⟨⟨o0, o1, o2⟩, g0, g1, g2⟩ := RX.out.at List.mem_cons_self)
            go_simp
            (clear o0 o1 o2 g0 g1 g2 r0 r1 r2 s0 s1 s2; replace RX := Lib.hid (RX.out.set3 (.slice a1 n1 c1) (.slice a2 n2 c2) (.slice a3 n3 c3)); obtain ⟨⟨r0, r1, r2⟩, -⟩ := RX.out.at (r := w.heap.size) (a := .int .i64 k) (b := .int .i64 p) (c := .int .i64 q) (by simp); obtain ⟨⟨s0, s1, s2⟩, -⟩ := RX.out.at (r := w.heap.size + 1) (a := .slice al m1 cl) (b := .slice (some ⟨bd, od, none⟩) m1 cd) (c := .slice ax m3 cx) (by simp))
            refine hK.out _ _ (by (try dsimp only); with_reducible exact ⟨⟨r0, r1, r2⟩, ⟨s0, s1, s2⟩⟩) (fun hHeld => ?_)
            clear hK K
            try simp only [Act.put, List.getElem_toArray, List.getElem_cons_succ, List.getElem_cons_zero, List.setIfInBounds_toArray, List.set_cons_zero, List.set_cons_succ]
            refine wpAnyH_done (by kernel_rfl) ?_ _
          rotate_left 1
        rotate_left 2
        focus
          go_simp
          ((first | (obtain ⟨WX, gb, hW, hg, RXn⟩ := RX.out.boxX nilV nilV nilV 28; rw [hW]; (try rw [hg])) | (obtain ⟨WZ, gb, hW, hg, RXn⟩ := RN.out.boxX nilV nilV nilV 28; rw [hW]; (try rw [hg]); replace RXn := RXn.drew; clear hW; generalize WZ.drew = WX at RXn ⊢)); clear r0 r1 r2 s0 s1 s2; replace RX := Lib.hid RXn; clear RXn; obtain ⟨⟨r0, r1, r2⟩, -⟩ := RX.out.at (r := w.heap.size) (a := .int .i64 k) (b := .int .i64 p) (c := .int .i64 q) (by simp); obtain ⟨⟨s0, s1, s2⟩, -⟩ := RX.out.at (r := w.heap.size + 1) (a := .slice al m1 cl) (b := .slice (some ⟨bd, od, none⟩) m1 cd) (c := .slice ax m3 cx) (by simp))
          refine hK.out _ _ (by (try dsimp only); with_reducible exact ⟨⟨r0, r1, r2⟩, ⟨s0, s1, s2⟩⟩) (fun hHeld => ?_)
          clear hK K
          try simp only [Act.put, List.getElem_toArray, List.getElem_cons_succ, List.getElem_cons_zero, List.setIfInBounds_toArray, List.set_cons_zero, List.set_cons_succ]
          refine wpAnyH_ready (rs := [6]) (by kernel_rfl) (by simp) ?_
          refine AllReadyH.cons rfl (fun K hK => ?_) AllReadyH.nil
          (have O1 := Lib.hid (RX.out.row (v := .slice aC nR cC) (xs := restL [b] L) (by simp) HNR.out.1.symm); have HNW := Lib.hid (news_at (w := WX) (b := gl) (off := 0) (xs := [b]) (fun i hi => by obtain ⟨bz, oz, ez, -, hcl⟩ := (RX.out.rd (v := .slice (some ⟨gl, 0, none⟩) 1 1) (xs := [b]) (by simp)).cellAt (List.getElem?_eq_getElem hi); cases ez; exact hcl)); refine step_append_lies _ rfl (.tmp 56) (.tmp 58) 26 rfl w.heap.size 3 i0 (.int .i64 0) 1 8 Try.underlying26 J0.out J1.out J2.out J3.out rfl Nat.one_pos (.slice aC nR cC) nR (ints (restL [b] L)) rfl O1.out ⟨gl, 0, none⟩ 1 1 (ints [b]) rfl rfl HNW.out (one_cells _) (by omega) (by unfold maxLen; omega) (by omega) RX.out.bel.size _ rfl ?_; intro gC capC WX hown hgrow hl _; rw [← ints_append] at hown; have h11 := (rs_front RX.out (v := .slice aC nR cC) (xs := restL [b] L) (by first | exact .inl ⟨_, rfl⟩ | exact .inr ⟨_, _, rfl⟩)).choose_spec; have h12 := h11.1.app hown (by rw [List.length_append, ← HNR.out.1]; rfl) hgrow hl; rw [HRL.out] at h12; have h13 := h12.sub (rows' := [(.slice (some ⟨gC, 0, none⟩) (nR + 1) capC, regL L [b]), (.slice aR nR cR, restL [b] L)]) (List.Sublist.cons_cons _ h11.2); clear r0 r1 r2 s0 s1 s2; replace RX := Lib.hid h13; clear hown hgrow hl h11 h12 h13 O1 HNW; obtain ⟨⟨r0, r1, r2⟩, -⟩ := RX.out.at (r := w.heap.size) (a := .int .i64 k) (b := .int .i64 p) (c := .int .i64 q) (by simp); obtain ⟨⟨s0, s1, s2⟩, -⟩ := RX.out.at (r := w.heap.size + 1) (a := .slice al m1 cl) (b := .slice (some ⟨bd, od, none⟩) m1 cd) (c := .slice ax m3 cx) (by simp))
          refine hK.out _ _ (by (try dsimp only); with_reducible exact ⟨⟨r0, r1, r2⟩, ⟨s0, s1, s2⟩⟩) (fun hHeld => ?_)
          clear hK K
          try simp only [Act.put, List.getElem_toArray, List.getElem_cons_succ, List.getElem_cons_zero, List.setIfInBounds_toArray, List.set_cons_zero, List.set_cons_succ]
          refine wpAnyH_ready (rs := [7]) (by kernel_rfl) (by simp) ?_
          refine AllReadyH.cons rfl (fun K hK => ?_) AllReadyH.nil
          go_simp
          (go_at_call 46; refine (permute_spec (B := _) (HTm.out _ RX.out.bel) (RX.out.rd (v := .slice (some ⟨gC, 0, none⟩) (nR + 1) capC) (xs := regL L [b]) (by simp)) (Nat.le_refl _) HTB.out.symm HSE.out).mono ?_; rintro e WX ⟨l', d', x', rfl, ho, hb⟩; obtain ⟨a1, n1, c1, rfl⟩ := Own.slice ho.rows.1; obtain ⟨a2, n2, c2, rfl⟩ := Own.slice ho.rows.2.1; obtain ⟨a3, n3, c3, rfl⟩ := Own.slice ho.rows.2.2; clear r0 r1 r2 s0 s1 s2; replace RX := Lib.hid (RX.out.new3 hb ho); clear ho hb; obtain ⟨⟨r0, r1, r2⟩, -⟩ := RX.out.at (r := w.heap.size) (a := .int .i64 k) (b := .int .i64 p) (c := .int .i64 q) (by simp); obtain ⟨⟨s0, s1, s2⟩, -⟩ := RX.out.at (r := w.heap.size + 1) (a := .slice al m1 cl) (b := .slice (some ⟨bd, od, none⟩) m1 cd) (c := .slice ax m3 cx) (by simp))
          go_wp2_with fail
          refine hK.out _ _ (by (try dsimp only); with_reducible exact ⟨⟨r0, r1, r2⟩, ⟨s0, s1, s2⟩⟩) (fun hHeld => ?_)
          clear hK K
          try simp only [Act.put, List.getElem_toArray, List.getElem_cons_succ, List.getElem_cons_zero, List.setIfInBounds_toArray, List.set_cons_zero, List.set_cons_succ]
          refine wpAnyH_ready (rs := [9]) (by kernel_rfl) (by simp) ?_
          refine AllReadyH.cons rfl (fun K hK => ?_) AllReadyH.nil
          (obtain ⟨⟨o0, o1, o2⟩, g0, g1, g2⟩ := RX.out.at List.mem_cons_self)
          go_simp
          (clear o0 o1 o2 g0 g1 g2 r0 r1 r2 s0 s1 s2; replace RX := Lib.hid (RX.out.set3 (.slice a1 n1 c1) (.slice a2 n2 c2) (.slice a3 n3 c3)); obtain ⟨⟨r0, r1, r2⟩, -⟩ := RX.out.at (r := w.heap.size) (a := .int .i64 k) (b := .int .i64 p) (c := .int .i64 q) (by simp); obtain ⟨⟨s0, s1, s2⟩, -⟩ := RX.out.at (r := w.heap.size + 1) (a := .slice al m1 cl) (b := .slice (some ⟨bd, od, none⟩) m1 cd) (c := .slice ax m3 cx) (by simp))
          refine hK.out _ _ (by (try dsimp only); with_reducible exact ⟨⟨r0, r1, r2⟩, ⟨s0, s1, s2⟩⟩) (fun hHeld => ?_)
          clear hK K
          try simp only [Act.put, List.getElem_toArray, List.getElem_cons_succ, List.getElem_cons_zero, List.setIfInBounds_toArray, List.set_cons_zero, List.set_cons_succ]
          refine wpAnyH_done (by kernel_rfl) ?_ _
        rotate_left 1
      rotate_left 3
      focus
        go_simp
        ((first | (obtain ⟨WX, gb, hW, hg, RXn⟩ := RX.out.boxX nilV nilV nilV 28; rw [hW]; (try rw [hg])) | (obtain ⟨WZ, gb, hW, hg, RXn⟩ := RN.out.boxX nilV nilV nilV 28; rw [hW]; (try rw [hg]); replace RXn := RXn.drew; clear hW; generalize WZ.drew = WX at RXn ⊢)); clear r0 r1 r2 s0 s1 s2; replace RX := Lib.hid RXn; clear RXn; obtain ⟨⟨r0, r1, r2⟩, -⟩ := RX.out.at (r := w.heap.size) (a := .int .i64 k) (b := .int .i64 p) (c := .int .i64 q) (by simp); obtain ⟨⟨s0, s1, s2⟩, -⟩ := RX.out.at (r := w.heap.size + 1) (a := .slice al m1 cl) (b := .slice (some ⟨bd, od, none⟩) m1 cd) (c := .slice ax m3 cx) (by simp))
        refine hK.out _ _ (by (try dsimp only); with_reducible exact ⟨⟨r0, r1, r2⟩, ⟨s0, s1, s2⟩⟩) (fun hHeld => ?_)
        clear hK K
        try simp only [Act.put, List.getElem_toArray, List.getElem_cons_succ, List.getElem_cons_zero, List.setIfInBounds_toArray, List.set_cons_zero, List.set_cons_succ]
        refine wpAnyH_ready (rs := [5]) (by kernel_rfl) (by simp) ?_
        refine AllReadyH.cons rfl (fun K hK => ?_) AllReadyH.nil
        go_simp
        ((first | (obtain ⟨WX, gl, hW, hg, RXn⟩ := RX.out.litX b; rw [hW]; (try rw [hg])) | (obtain ⟨WZ, gl, hW, hg, RXn⟩ := RN.out.litX b; rw [hW]; (try rw [hg]); replace RXn := RXn.drew; clear hW; generalize WZ.drew = WX at RXn ⊢)); clear r0 r1 r2 s0 s1 s2; replace RX := Lib.hid RXn; clear RXn; obtain ⟨⟨r0, r1, r2⟩, -⟩ := RX.out.at (r := w.heap.size) (a := .int .i64 k) (b := .int .i64 p) (c := .int .i64 q) (by simp); obtain ⟨⟨s0, s1, s2⟩, -⟩ := RX.out.at (r := w.heap.size + 1) (a := .slice al m1 cl) (b := .slice (some ⟨bd, od, none⟩) m1 cd) (c := .slice ax m3 cx) (by simp))
        refine hK.out _ _ (by (try dsimp only); with_reducible exact ⟨⟨r0, r1, r2⟩, ⟨s0, s1, s2⟩⟩) (fun hHeld => ?_)
        clear hK K
        try simp only [Act.put, List.getElem_toArray, List.getElem_cons_succ, List.getElem_cons_zero, List.setIfInBounds_toArray, List.set_cons_zero, List.set_cons_succ]
        refine wpAnyH_ready (rs := [6]) (by kernel_rfl) (by simp) ?_
        refine AllReadyH.cons rfl (fun K hK => ?_) AllReadyH.nil
        (have O1 := Lib.hid (RX.out.row (v := .slice aC nR cC) (xs := restL [b] L) (by simp) HNR.out.1.symm); have HNW := Lib.hid (news_at (w := WX) (b := gl) (off := 0) (xs := [b]) (fun i hi => by obtain ⟨bz, oz, ez, -, hcl⟩ := (RX.out.rd (v := .slice (some ⟨gl, 0, none⟩) 1 1) (xs := [b]) (by simp)).cellAt (List.getElem?_eq_getElem hi); cases ez; exact hcl)); refine step_append_lies _ rfl (.tmp 56) (.tmp 58) 26 rfl w.heap.size 3 i0 (.int .i64 0) 1 8 Try.underlying26 J0.out J1.out J2.out J3.out rfl Nat.one_pos (.slice aC nR cC) nR (ints (restL [b] L)) rfl O1.out ⟨gl, 0, none⟩ 1 1 (ints [b]) rfl rfl HNW.out (one_cells _) (by omega) (by unfold maxLen; omega) (by omega) RX.out.bel.size _ rfl ?_; intro gC capC WX hown hgrow hl _; rw [← ints_append] at hown; have h11 := (rs_front RX.out (v := .slice aC nR cC) (xs := restL [b] L) (by first | exact .inl ⟨_, rfl⟩ | exact .inr ⟨_, _, rfl⟩)).choose_spec; have h12 := h11.1.app hown (by rw [List.length_append, ← HNR.out.1]; rfl) hgrow hl; rw [HRL.out] at h12; have h13 := h12.sub (rows' := [(.slice (some ⟨gC, 0, none⟩) (nR + 1) capC, regL L [b]), (.slice aR nR cR, restL [b] L)]) (List.Sublist.cons_cons _ h11.2); clear r0 r1 r2 s0 s1 s2; replace RX := Lib.hid h13; clear hown hgrow hl h11 h12 h13 O1 HNW; obtain ⟨⟨r0, r1, r2⟩, -⟩ := RX.out.at (r := w.heap.size) (a := .int .i64 k) (b := .int .i64 p) (c := .int .i64 q) (by simp); obtain ⟨⟨s0, s1, s2⟩, -⟩ := RX.out.at (r := w.heap.size + 1) (a := .slice al m1 cl) (b := .slice (some ⟨bd, od, none⟩) m1 cd) (c := .slice ax m3 cx) (by simp))
        refine hK.out _ _ (by (try dsimp only); with_reducible exact ⟨⟨r0, r1, r2⟩, ⟨s0, s1, s2⟩⟩) (fun hHeld => ?_)
        clear hK K
        try simp only [Act.put, List.getElem_toArray, List.getElem_cons_succ, List.getElem_cons_zero, List.setIfInBounds_toArray, List.set_cons_zero, List.set_cons_succ]
        refine wpAnyH_ready (rs := [7]) (by kernel_rfl) (by simp) ?_
        refine AllReadyH.cons rfl (fun K hK => ?_) AllReadyH.nil
        go_simp
        (go_at_call 46; refine (permute_spec (B := _) (HTm.out _ RX.out.bel) (RX.out.rd (v := .slice (some ⟨gC, 0, none⟩) (nR + 1) capC) (xs := regL L [b]) (by simp)) (Nat.le_refl _) HTB.out.symm HSE.out).mono ?_; rintro e WX ⟨l', d', x', rfl, ho, hb⟩; obtain ⟨a1, n1, c1, rfl⟩ := Own.slice ho.rows.1; obtain ⟨a2, n2, c2, rfl⟩ := Own.slice ho.rows.2.1; obtain ⟨a3, n3, c3, rfl⟩ := Own.slice ho.rows.2.2; clear r0 r1 r2 s0 s1 s2; replace RX := Lib.hid (RX.out.new3 hb ho); clear ho hb; obtain ⟨⟨r0, r1, r2⟩, -⟩ := RX.out.at (r := w.heap.size) (a := .int .i64 k) (b := .int .i64 p) (c := .int .i64 q) (by simp); obtain ⟨⟨s0, s1, s2⟩, -⟩ := RX.out.at (r := w.heap.size + 1) (a := .slice al m1 cl) (b := .slice (some ⟨bd, od, none⟩) m1 cd) (c := .slice ax m3 cx) (by simp))
        go_wp2_with fail
        refine hK.out _ _ (by (try dsimp only); with_reducible exact ⟨⟨r0, r1, r2⟩, ⟨s0, s1, s2⟩⟩) (fun hHeld => ?_)
        clear hK K
        try simp only [Act.put, List.getElem_toArray, List.getElem_cons_succ, List.getElem_cons_zero, List.setIfInBounds_toArray, List.set_cons_zero, List.set_cons_succ]
        refine wpAnyH_ready (rs := [9]) (by kernel_rfl) (by simp) ?_
        refine AllReadyH.cons rfl (fun K hK => ?_) AllReadyH.nil
        (obtain ⟨⟨o0, o1, o2⟩, g0, g1, g2⟩ := RX.out.at List.mem_cons_self)
        go_simp
        (clear o0 o1 o2 g0 g1 g2 r0 r1 r2 s0 s1 s2; replace RX := Lib.hid (RX.out.set3 (.slice a1 n1 c1) (.slice a2 n2 c2) (.slice a3 n3 c3)); obtain ⟨⟨r0, r1, r2⟩, -⟩ := RX.out.at (r := w.heap.size) (a := .int .i64 k) (b := .int .i64 p) (c := .int .i64 q) (by simp); obtain ⟨⟨s0, s1, s2⟩, -⟩ := RX.out.at (r := w.heap.size + 1) (a := .slice al m1 cl) (b := .slice (some ⟨bd, od, none⟩) m1 cd) (c := .slice ax m3 cx) (by simp))
        refine hK.out _ _ (by (try dsimp only); with_reducible exact ⟨⟨r0, r1, r2⟩, ⟨s0, s1, s2⟩⟩) (fun hHeld => ?_)
        clear hK K
        try simp only [Act.put, List.getElem_toArray, List.getElem_cons_succ, List.getElem_cons_zero, List.setIfInBounds_toArray, List.set_cons_zero, List.set_cons_succ]
        refine wpAnyH_done (by kernel_rfl) ?_ _
      rotate_left 1
    rotate_left 4
    focus
      go_simp
      ((first | (obtain ⟨WX, gl, hW, hg, RXn⟩ := RX.out.litX b; rw [hW]; (try rw [hg])) | (obtain ⟨WZ, gl, hW, hg, RXn⟩ := RN.out.litX b; rw [hW]; (try rw [hg]); replace RXn := RXn.drew; clear hW; generalize WZ.drew = WX at RXn ⊢)); clear r0 r1 r2 s0 s1 s2; replace RX := Lib.hid RXn; clear RXn; obtain ⟨⟨r0, r1, r2⟩, -⟩ := RX.out.at (r := w.heap.size) (a := .int .i64 k) (b := .int .i64 p) (c := .int .i64 q) (by simp); obtain ⟨⟨s0, s1, s2⟩, -⟩ := RX.out.at (r := w.heap.size + 1) (a := .slice al m1 cl) (b := .slice (some ⟨bd, od, none⟩) m1 cd) (c := .slice ax m3 cx) (by simp))
      refine hK.out _ _ (by (try dsimp only); with_reducible exact ⟨⟨r0, r1, r2⟩, ⟨s0, s1, s2⟩⟩) (fun hHeld => ?_)
      clear hK K
      try simp only [Act.put, List.getElem_toArray, List.getElem_cons_succ, List.getElem_cons_zero, List.setIfInBounds_toArray, List.set_cons_zero, List.set_cons_succ]
      refine wpAnyH_ready (rs := [3, 8]) (by kernel_rfl) (by simp) ?_
      refine AllReadyH.cons rfl (fun K hK => ?_) (AllReadyH.cons rfl (fun K hK => ?_) AllReadyH.nil)
      focus
        go_simp
        (go_at_call 31; refine (ints_new (RX.out.rd (v := .slice aR nR cR) (xs := restL [b] L) (by simp)) (Nat.le_refl _) (by rw [← HNR.out.1]; omega)).mono ?_; rintro e WX ⟨vc, rfl, ho, hb⟩; obtain ⟨aC, cC, rfl, -⟩ := ints_form ho.rd; rw [← HNR.out.1] at ho ⊢; clear r0 r1 r2 s0 s1 s2; replace RX := Lib.hid (RX.out.new hb ho); clear ho hb; obtain ⟨⟨r0, r1, r2⟩, -⟩ := RX.out.at (r := w.heap.size) (a := .int .i64 k) (b := .int .i64 p) (c := .int .i64 q) (by simp); obtain ⟨⟨s0, s1, s2⟩, -⟩ := RX.out.at (r := w.heap.size + 1) (a := .slice al m1 cl) (b := .slice (some ⟨bd, od, none⟩) m1 cd) (c := .slice ax m3 cx) (by simp))
        go_wp2_with fail
        refine hK.out _ _ (by (try dsimp only); with_reducible exact ⟨⟨r0, r1, r2⟩, ⟨s0, s1, s2⟩⟩) (fun hHeld => ?_)
        clear hK K
        try simp only [Act.put, List.getElem_toArray, List.getElem_cons_succ, List.getElem_cons_zero, List.setIfInBounds_toArray, List.set_cons_zero, List.set_cons_succ]
        refine wpAnyH_ready (rs := [6, 8]) (by kernel_rfl) (by simp) ?_
        refine AllReadyH.cons rfl (fun K hK => ?_) (AllReadyH.cons rfl (fun K hK => ?_) AllReadyH.nil)
        focus
          (have O1 := Lib.hid (RX.out.row (v := .slice aC nR cC) (xs := restL [b] L) (by simp) HNR.out.1.symm); have HNW := Lib.hid (news_at (w := WX) (b := gl) (off := 0) (xs := [b]) (fun i hi => by obtain ⟨bz, oz, ez, -, hcl⟩ := (RX.out.rd (v := .slice (some ⟨gl, 0, none⟩) 1 1) (xs := [b]) (by simp)).cellAt (List.getElem?_eq_getElem hi); cases ez; exact hcl)); refine step_append_lies _ rfl (.tmp 56) (.tmp 58) 26 rfl w.heap.size 3 i0 (.int .i64 0) 1 8 Try.underlying26 J0.out J1.out J2.out J3.out rfl Nat.one_pos (.slice aC nR cC) nR (ints (restL [b] L)) rfl O1.out ⟨gl, 0, none⟩ 1 1 (ints [b]) rfl rfl HNW.out (one_cells _) (by omega) (by unfold maxLen; omega) (by omega) RX.out.bel.size _ rfl ?_; intro gC capC WX hown hgrow hl _; rw [← ints_append] at hown; have h11 := (rs_front RX.out (v := .slice aC nR cC) (xs := restL [b] L) (by first | exact .inl ⟨_, rfl⟩ | exact .inr ⟨_, _, rfl⟩)).choose_spec; have h12 := h11.1.app hown (by rw [List.length_append, ← HNR.out.1]; rfl) hgrow hl; rw [HRL.out] at h12; have h13 := h12.sub (rows' := [(.slice (some ⟨gC, 0, none⟩) (nR + 1) capC, regL L [b]), (.slice aR nR cR, restL [b] L)]) (List.Sublist.cons_cons _ h11.2); clear r0 r1 r2 s0 s1 s2; replace RX := Lib.hid h13; clear hown hgrow hl h11 h12 h13 O1 HNW; obtain ⟨⟨r0, r1, r2⟩, -⟩ := RX.out.at (r := w.heap.size) (a := .int .i64 k) (b := .int .i64 p) (c := .int .i64 q) (by simp); obtain ⟨⟨s0, s1, s2⟩, -⟩ := RX.out.at (r := w.heap.size + 1) (a := .slice al m1 cl) (b := .slice (some ⟨bd, od, none⟩) m1 cd) (c := .slice ax m3 cx) (by simp))
          refine hK.out _ _ (by (try dsimp only); with_reducible exact ⟨⟨r0, r1, r2⟩, ⟨s0, s1, s2⟩⟩) (fun hHeld => ?_)
          clear hK K
          try simp only [Act.put, List.getElem_toArray, List.getElem_cons_succ, List.getElem_cons_zero, List.setIfInBounds_toArray, List.set_cons_zero, List.set_cons_succ]
          refine wpAnyH_ready (rs := [7, 8]) (by kernel_rfl) (by simp) ?_
          refine AllReadyH.cons rfl (fun K hK => ?_) (AllReadyH.cons rfl (fun K hK => ?_) AllReadyH.nil)
          focus
            go_simp
            (go_at_call 46; refine (permute_spec (B := _) (HTm.out _ RX.out.bel) (RX.out.rd (v := .slice (some ⟨gC, 0, none⟩) (nR + 1) capC) (xs := regL L [b]) (by simp)) (Nat.le_refl _) HTB.out.symm HSE.out).mono ?_; rintro e WX ⟨l', d', x', rfl, ho, hb⟩; obtain ⟨a1, n1, c1, rfl⟩ := Own.slice ho.rows.1; obtain ⟨a2, n2, c2, rfl⟩ := Own.slice ho.rows.2.1; obtain ⟨a3, n3, c3, rfl⟩ := Own.slice ho.rows.2.2; clear r0 r1 r2 s0 s1 s2; replace RX := Lib.hid (RX.out.new3 hb ho); clear ho hb; obtain ⟨⟨r0, r1, r2⟩, -⟩ := RX.out.at (r := w.heap.size) (a := .int .i64 k) (b := .int .i64 p) (c := .int .i64 q) (by simp); obtain ⟨⟨s0, s1, s2⟩, -⟩ := RX.out.at (r := w.heap.size + 1) (a := .slice al m1 cl) (b := .slice (some ⟨bd, od, none⟩) m1 cd) (c := .slice ax m3 cx) (by simp))
            go_wp2_with fail
            refine hK.out _ _ (by (try dsimp only); with_reducible exact ⟨⟨r0, r1, r2⟩, ⟨s0, s1, s2⟩⟩) (fun hHeld => ?_)
            clear hK K
            try simp only [Act.put, List.getElem_toArray, List.getElem_cons_succ, List.getElem_cons_zero, List.setIfInBounds_toArray, List.set_cons_zero, List.set_cons_succ]
            refine wpAnyH_ready (rs := [8]) (by kernel_rfl) (by simp) ?_
            refine AllReadyH.cons rfl (fun K hK => ?_) AllReadyH.nil
            go_simp
            ((first | (obtain ⟨WX, gb, hW, hg, RXn⟩ := RX.out.boxX nilV nilV nilV 28; rw [hW]; (try rw [hg])) | (obtain ⟨WZ, gb, hW, hg, RXn⟩ := RN.out.boxX nilV nilV nilV 28; rw [hW]; (try rw [hg]); replace RXn := RXn.drew; clear hW; generalize WZ.drew = WX at RXn ⊢)); clear r0 r1 r2 s0 s1 s2; replace RX := Lib.hid RXn; clear RXn; obtain ⟨⟨r0, r1, r2⟩, -⟩ := RX.out.at (r := w.heap.size) (a := .int .i64 k) (b := .int .i64 p) (c := .int .i64 q) (by simp); obtain ⟨⟨s0, s1, s2⟩, -⟩ := RX.out.at (r := w.heap.size + 1) (a := .slice al m1 cl) (b := .slice (some ⟨bd, od, none⟩) m1 cd) (c := .slice ax m3 cx) (by simp))
            refine hK.out _ _ (by (try dsimp only); with_reducible exact ⟨⟨r0, r1, r2⟩, ⟨s0, s1, s2⟩⟩) (fun hHeld => ?_)
            clear hK K
            try simp only [Act.put, List.getElem_toArray, List.getElem_cons_succ, List.getElem_cons_zero, List.setIfInBounds_toArray, List.set_cons_zero, List.set_cons_succ]
            refine wpAnyH_ready (rs := [9]) (by kernel_rfl) (by simp) ?_
            refine AllReadyH.cons rfl (fun K hK => ?_) AllReadyH.nil
            (obtain ⟨⟨o0, o1, o2⟩, g0, g1, g2⟩ := RX.out.at List.mem_cons_self)
            go_simp
            (clear o0 o1 o2 g0 g1 g2 r0 r1 r2 s0 s1 s2; replace RX := Lib.hid (RX.out.set3 (.slice a1 n1 c1) (.slice a2 n2 c2) (.slice a3 n3 c3)); obtain ⟨⟨r0, r1, r2⟩, -⟩ := RX.out.at (r := w.heap.size) (a := .int .i64 k) (b := .int .i64 p) (c := .int .i64 q) (by simp); obtain ⟨⟨s0, s1, s2⟩, -⟩ := RX.out.at (r := w.heap.size + 1) (a := .slice al m1 cl) (b := .slice (some ⟨bd, od, none⟩) m1 cd) (c := .slice ax m3 cx) (by simp))
            refine hK.out _ _ (by (try dsimp only); with_reducible exact ⟨⟨r0, r1, r2⟩, ⟨s0, s1, s2⟩⟩) (fun hHeld => ?_)
            clear hK K
            try simp only [Act.put, List.getElem_toArray, List.getElem_cons_succ, List.getElem_cons_zero, List.setIfInBounds_toArray, List.set_cons_zero, List.set_cons_succ]
            refine wpAnyH_done (by kernel_rfl) ?_ _
          rotate_left 1
          focus
            go_simp
            ((first | (obtain ⟨WX, gb, hW, hg, RXn⟩ := RX.out.boxX nilV nilV nilV 28; rw [hW]; (try rw [hg])) | (obtain ⟨WZ, gb, hW, hg, RXn⟩ := RN.out.boxX nilV nilV nilV 28; rw [hW]; (try rw [hg]); replace RXn := RXn.drew; clear hW; generalize WZ.drew = WX at RXn ⊢)); clear r0 r1 r2 s0 s1 s2; replace RX := Lib.hid RXn; clear RXn; obtain ⟨⟨r0, r1, r2⟩, -⟩ := RX.out.at (r := w.heap.size) (a := .int .i64 k) (b := .int .i64 p) (c := .int .i64 q) (by simp); obtain ⟨⟨s0, s1, s2⟩, -⟩ := RX.out.at (r := w.heap.size + 1) (a := .slice al m1 cl) (b := .slice (some ⟨bd, od, none⟩) m1 cd) (c := .slice ax m3 cx) (by simp))
            refine hK.out _ _ (by (try dsimp only); with_reducible exact ⟨⟨r0, r1, r2⟩, ⟨s0, s1, s2⟩⟩) (fun hHeld => ?_)
            clear hK K
            try simp only [Act.put, List.getElem_toArray, List.getElem_cons_succ, List.getElem_cons_zero, List.setIfInBounds_toArray, List.set_cons_zero, List.set_cons_succ]
            refine wpAnyH_ready (rs := [7]) (by kernel_rfl) (by simp) ?_
            refine AllReadyH.cons rfl (fun K hK => ?_) AllReadyH.nil
            go_simp
            (go_at_call 46; refine (permute_spec (B := _) (HTm.out _ RX.out.bel) (RX.out.rd (v := .slice (some ⟨gC, 0, none⟩) (nR + 1) capC) (xs := regL L [b]) (by simp)) (Nat.le_refl _) HTB.out.symm HSE.out).mono ?_; rintro e WX ⟨l', d', x', rfl, ho, hb⟩; obtain ⟨a1, n1, c1, rfl⟩ := Own.slice ho.rows.1; obtain ⟨a2, n2, c2, rfl⟩ := Own.slice ho.rows.2.1; obtain ⟨a3, n3, c3, rfl⟩ := Own.slice ho.rows.2.2; clear r0 r1 r2 s0 s1 s2; replace RX := Lib.hid (RX.out.new3 hb ho); clear ho hb; obtain ⟨⟨r0, r1, r2⟩, -⟩ := RX.out.at (r := w.heap.size) (a := .int .i64 k) (b := .int .i64 p) (c := .int .i64 q) (by simp); obtain ⟨⟨s0, s1, s2⟩, -⟩ := RX.out.at (r := w.heap.size + 1) (a := .slice al m1 cl) (b := .slice (some ⟨bd, od, none⟩) m1 cd) (c := .slice ax m3 cx) (by simp))
            go_wp2_with fail
            refine hK.out _ _ (by (try dsimp only); with_reducible exact ⟨⟨r0, r1, r2⟩, ⟨s0, s1, s2⟩⟩) (fun hHeld => ?_)
            clear hK K
            try simp only [Act.put, List.getElem_toArray, List.getElem_cons_succ, List.getElem_cons_zero, List.setIfInBounds_toArray, List.set_cons_zero, List.set_cons_succ]
            refine wpAnyH_ready (rs := [9]) (by kernel_rfl) (by simp) ?_
            refine AllReadyH.cons rfl (fun K hK => ?_) AllReadyH.nil
            (obtain ⟨⟨o0, o1, o2⟩, g0, g1, g2⟩ := RX.out.at List.mem_cons_self)
            go_simp
            (clear o0 o1 o2 g0 g1 g2 r0 r1 r2 s0 s1 s2; replace RX := Lib.hid (RX.out.set3 (.slice a1 n1 c1) (.slice a2 n2 c2) (.slice a3 n3 c3)); obtain ⟨⟨r0, r1, r2⟩, -⟩ := RX.out.at (r := w.heap.size) (a := .int .i64 k) (b := .int .i64 p) (c := .int .i64 q) (by simp); obtain ⟨⟨s0, s1, s2⟩, -⟩ := RX.out.at (r := w.heap.size + 1) (a := .slice al m1 cl) (b := .slice (some ⟨bd, od, none⟩) m1 cd) (c := .slice ax m3 cx) (by simp))
            refine hK.out _ _ (by (try dsimp only); with_reducible exact ⟨⟨r0, r1, r2⟩, ⟨s0, s1, s2⟩⟩) (fun hHeld => ?_)
            clear hK K
            try simp only [Act.put, List.getElem_toArray, List.getElem_cons_succ, List.getElem_cons_zero, List.setIfInBounds_toArray, List.set_cons_zero, List.set_cons_succ]
            refine wpAnyH_done (by kernel_rfl) ?_ _
          rotate_left 1
        rotate_left 2
        focus
          go_simp
          ((first | (obtain ⟨WX, gb, hW, hg, RXn⟩ := RX.out.boxX nilV nilV nilV 28; rw [hW]; (try rw [hg])) | (obtain ⟨WZ, gb, hW, hg, RXn⟩ := RN.out.boxX nilV nilV nilV 28; rw [hW]; (try rw [hg]); replace RXn := RXn.drew; clear hW; generalize WZ.drew = WX at RXn ⊢)); clear r0 r1 r2 s0 s1 s2; replace RX := Lib.hid RXn; clear RXn; obtain ⟨⟨r0, r1, r2⟩, -⟩ := RX.out.at (r := w.heap.size) (a := .int .i64 k) (b := .int .i64 p) (c := .int .i64 q) (by simp); obtain ⟨⟨s0, s1, s2⟩, -⟩ := RX.out.at (r := w.heap.size + 1) (a := .slice al m1 cl) (b := .slice (some ⟨bd, od, none⟩) m1 cd) (c := .slice ax m3 cx) (by simp))
          refine hK.out _ _ (by (try dsimp only); with_reducible exact ⟨⟨r0, r1, r2⟩, ⟨s0, s1, s2⟩⟩) (fun hHeld => ?_)
          clear hK K
          try simp only [Act.put, List.getElem_toArray, List.getElem_cons_succ, List.getElem_cons_zero, List.setIfInBounds_toArray, List.set_cons_zero, List.set_cons_succ]
          refine wpAnyH_ready (rs := [6]) (by kernel_rfl) (by simp) ?_
          refine AllReadyH.cons rfl (fun K hK => ?_) AllReadyH.nil
          (have O1 := Lib.hid (RX.out.row (v := .slice aC nR cC) (xs := restL [b] L) (by simp) HNR.out.1.symm); have HNW := Lib.hid (news_at (w := WX) (b := gl) (off := 0) (xs := [b]) (fun i hi => by obtain ⟨bz, oz, ez, -, hcl⟩ := (RX.out.rd (v := .slice (some ⟨gl, 0, none⟩) 1 1) (xs := [b]) (by simp)).cellAt (List.getElem?_eq_getElem hi); cases ez; exact hcl)); refine step_append_lies _ rfl (.tmp 56) (.tmp 58) 26 rfl w.heap.size 3 i0 (.int .i64 0) 1 8 Try.underlying26 J0.out J1.out J2.out J3.out rfl Nat.one_pos (.slice aC nR cC) nR (ints (restL [b] L)) rfl O1.out ⟨gl, 0, none⟩ 1 1 (ints [b]) rfl rfl HNW.out (one_cells _) (by omega) (by unfold maxLen; omega) (by omega) RX.out.bel.size _ rfl ?_; intro gC capC WX hown hgrow hl _; rw [← ints_append] at hown; have h11 := (rs_front RX.out (v := .slice aC nR cC) (xs := restL [b] L) (by first | exact .inl ⟨_, rfl⟩ | exact .inr ⟨_, _, rfl⟩)).choose_spec; have h12 := h11.1.app hown (by rw [List.length_append, ← HNR.out.1]; rfl) hgrow hl; rw [HRL.out] at h12; have h13 := h12.sub (rows' := [(.slice (some ⟨gC, 0, none⟩) (nR + 1) capC, regL L [b]), (.slice aR nR cR, restL [b] L)]) (List.Sublist.cons_cons _ h11.2); clear r0 r1 r2 s0 s1 s2; replace RX := Lib.hid h13; clear hown hgrow hl h11 h12 h13 O1 HNW; obtain ⟨⟨r0, r1, r2⟩, -⟩ := RX.out.at (r := w.heap.size) (a := .int .i64 k) (b := .int .i64 p) (c := .int .i64 q) (by simp); obtain ⟨⟨s0, s1, s2⟩, -⟩ := RX.out.at (r := w.heap.size + 1) (a := .slice al m1 cl) (b := .slice (some ⟨bd, od, none⟩) m1 cd) (c := .slice ax m3 cx) (by simp))
          refine hK.out _ _ (by (try dsimp only); with_reducible exact ⟨⟨r0, r1, r2⟩, ⟨s0, s1, s2⟩⟩) (fun hHeld => ?_)
          clear hK K
          try simp only [Act.put, List.getElem_toArray, List.getElem_cons_succ, List.getElem_cons_zero, List.setIfInBounds_toArray, List.set_cons_zero, List.set_cons_succ]
          refine wpAnyH_ready (rs := [7]) (by kernel_rfl) (by simp) ?_
          refine AllReadyH.cons rfl (fun K hK => ?_) AllReadyH.nil
          go_simp
          (go_at_call 46; refine (permute_spec (B := _) (HTm.out _ RX.out.bel) (RX.out.rd (v := .slice (some ⟨gC, 0, none⟩) (nR + 1) capC) (xs := regL L [b]) (by simp)) (Nat.le_refl _) HTB.out.symm HSE.out).mono ?_; rintro e WX ⟨l', d', x', rfl, ho, hb⟩; obtain ⟨a1, n1, c1, rfl⟩ := Own.slice ho.rows.1; obtain ⟨a2, n2, c2, rfl⟩ := Own.slice ho.rows.2.1; obtain ⟨a3, n3, c3, rfl⟩ := Own.slice ho.rows.2.2; clear r0 r1 r2 s0 s1 s2; replace RX := Lib.hid (RX.out.new3 hb ho); clear ho hb; obtain ⟨⟨r0, r1, r2⟩, -⟩ := RX.out.at (r := w.heap.size) (a := .int .i64 k) (b := .int .i64 p) (c := .int .i64 q) (by simp); obtain ⟨⟨s0, s1, s2⟩, -⟩ := RX.out.at (r := w.heap.size + 1) (a := .slice al m1 cl) (b := .slice (some ⟨bd, od, none⟩) m1 cd) (c := .slice ax m3 cx) (by simp))
          go_wp2_with fail
          refine hK.out _ _ (by (try dsimp only); with_reducible exact ⟨⟨r0, r1, r2⟩, ⟨s0, s1, s2⟩⟩) (fun hHeld => ?_)
          clear hK K
          try simp only [Act.put, List.getElem_toArray, List.getElem_cons_succ, List.getElem_cons_zero, List.setIfInBounds_toArray, List.set_cons_zero, List.set_cons_succ]
          refine wpAnyH_ready (rs := [9]) (by kernel_rfl) (by simp) ?_
          refine AllReadyH.cons rfl (fun K hK => ?_) AllReadyH.nil
          (obtain ⟨⟨o0, o1, o2⟩, g0, g1, g2⟩ := RX.out.at List.mem_cons_self)
          go_simp
          (clear o0 o1 o2 g0 g1 g2 r0 r1 r2 s0 s1 s2; replace RX := Lib.hid (RX.out.set3 (.slice a1 n1 c1) (.slice a2 n2 c2) (.slice a3 n3 c3)); obtain ⟨⟨r0, r1, r2⟩, -⟩ := RX.out.at (r := w.heap.size) (a := .int .i64 k) (b := .int .i64 p) (c := .int .i64 q) (by simp); obtain ⟨⟨s0, s1, s2⟩, -⟩ := RX.out.at (r := w.heap.size + 1) (a := .slice al m1 cl) (b := .slice (some ⟨bd, od, none⟩) m1 cd) (c := .slice ax m3 cx) (by simp))
          refine hK.out _ _ (by (try dsimp only); with_reducible exact ⟨⟨r0, r1, r2⟩, ⟨s0, s1, s2⟩⟩) (fun hHeld => ?_)
          clear hK K
          try simp only [Act.put, List.getElem_toArray, List.getElem_cons_succ, List.getElem_cons_zero, List.setIfInBounds_toArray, List.set_cons_zero, List.set_cons_succ]
          refine wpAnyH_done (by kernel_rfl) ?_ _
        rotate_left 1
      rotate_left 3
      focus
        go_simp
        ((first | (obtain ⟨WX, gb, hW, hg, RXn⟩ := RX.out.boxX nilV nilV nilV 28; rw [hW]; (try rw [hg])) | (obtain ⟨WZ, gb, hW, hg, RXn⟩ := RN.out.boxX nilV nilV nilV 28; rw [hW]; (try rw [hg]); replace RXn := RXn.drew; clear hW; generalize WZ.drew = WX at RXn ⊢)); clear r0 r1 r2 s0 s1 s2; replace RX := Lib.hid RXn; clear RXn; obtain ⟨⟨r0, r1, r2⟩, -⟩ := RX.out.at (r := w.heap.size) (a := .int .i64 k) (b := .int .i64 p) (c := .int .i64 q) (by simp); obtain ⟨⟨s0, s1, s2⟩, -⟩ := RX.out.at (r := w.heap.size + 1) (a := .slice al m1 cl) (b := .slice (some ⟨bd, od, none⟩) m1 cd) (c := .slice ax m3 cx) (by simp))
        refine hK.out _ _ (by (try dsimp only); with_reducible exact ⟨⟨r0, r1, r2⟩, ⟨s0, s1, s2⟩⟩) (fun hHeld => ?_)
        clear hK K
        try simp only [Act.put, List.getElem_toArray, List.getElem_cons_succ, List.getElem_cons_zero, List.setIfInBounds_toArray, List.set_cons_zero, List.set_cons_succ]
        refine wpAnyH_ready (rs := [3]) (by kernel_rfl) (by simp) ?_
        refine AllReadyH.cons rfl (fun K hK => ?_) AllReadyH.nil
        go_simp
        (go_at_call 31; refine (ints_new (RX.out.rd (v := .slice aR nR cR) (xs := restL [b] L) (by simp)) (Nat.le_refl _) (by rw [← HNR.out.1]; omega)).mono ?_; rintro e WX ⟨vc, rfl, ho, hb⟩; obtain ⟨aC, cC, rfl, -⟩ := ints_form ho.rd; rw [← HNR.out.1] at ho ⊢; clear r0 r1 r2 s0 s1 s2; replace RX := Lib.hid (RX.out.new hb ho); clear ho hb; obtain ⟨⟨r0, r1, r2⟩, -⟩ := RX.out.at (r := w.heap.size) (a := .int .i64 k) (b := .int .i64 p) (c := .int .i64 q) (by simp); obtain ⟨⟨s0, s1, s2⟩, -⟩ := RX.out.at (r := w.heap.size + 1) (a := .slice al m1 cl) (b := .slice (some ⟨bd, od, none⟩) m1 cd) (c := .slice ax m3 cx) (by simp))
        go_wp2_with fail
        refine hK.out _ _ (by (try dsimp only); with_reducible exact ⟨⟨r0, r1, r2⟩, ⟨s0, s1, s2⟩⟩) (fun hHeld => ?_)
        clear hK K
        try simp only [Act.put, List.getElem_toArray, List.getElem_cons_succ, List.getElem_cons_zero, List.setIfInBounds_toArray, List.set_cons_zero, List.set_cons_succ]
        refine wpAnyH_ready (rs := [6]) (by kernel_rfl) (by simp) ?_
        refine AllReadyH.cons rfl (fun K hK => ?_) AllReadyH.nil
        (have O1 := Lib.hid (RX.out.row (v := .slice aC nR cC) (xs := restL [b] L) (by simp) HNR.out.1.symm); have HNW := Lib.hid (news_at (w := WX) (b := gl) (off := 0) (xs := [b]) (fun i hi => by obtain ⟨bz, oz, ez, -, hcl⟩ := (RX.out.rd (v := .slice (some ⟨gl, 0, none⟩) 1 1) (xs := [b]) (by simp)).cellAt (List.getElem?_eq_getElem hi); cases ez; exact hcl)); refine step_append_lies _ rfl (.tmp 56) (.tmp 58) 26 rfl w.heap.size 3 i0 (.int .i64 0) 1 8 Try.underlying26 J0.out J1.out J2.out J3.out rfl Nat.one_pos (.slice aC nR cC) nR (ints (restL [b] L)) rfl O1.out ⟨gl, 0, none⟩ 1 1 (ints [b]) rfl rfl HNW.out (one_cells _) (by omega) (by unfold maxLen; omega) (by omega) RX.out.bel.size _ rfl ?_; intro gC capC WX hown hgrow hl _; rw [← ints_append] at hown; have h11 := (rs_front RX.out (v := .slice aC nR cC) (xs := restL [b] L) (by first | exact .inl ⟨_, rfl⟩ | exact .inr ⟨_, _, rfl⟩)).choose_spec; have h12 := h11.1.app hown (by rw [List.length_append, ← HNR.out.1]; rfl) hgrow hl; rw [HRL.out] at h12; have h13 := h12.sub (rows' := [(.slice (some ⟨gC, 0, none⟩) (nR + 1) capC, regL L [b]), (.slice aR nR cR, restL [b] L)]) (List.Sublist.cons_cons _ h11.2); clear r0 r1 r2 s0 s1 s2; replace RX := Lib.hid h13; clear hown hgrow hl h11 h12 h13 O1 HNW; obtain ⟨⟨r0, r1, r2⟩, -⟩ := RX.out.at (r := w.heap.size) (a := .int .i64 k) (b := .int .i64 p) (c := .int .i64 q) (by simp); obtain ⟨⟨s0, s1, s2⟩, -⟩ := RX.out.at (r := w.heap.size + 1) (a := .slice al m1 cl) (b := .slice (some ⟨bd, od, none⟩) m1 cd) (c := .slice ax m3 cx) (by simp))
        refine hK.out _ _ (by (try dsimp only); with_reducible exact ⟨⟨r0, r1, r2⟩, ⟨s0, s1, s2⟩⟩) (fun hHeld => ?_)
        clear hK K
        try simp only [Act.put, List.getElem_toArray, List.getElem_cons_succ, List.getElem_cons_zero, List.setIfInBounds_toArray, List.set_cons_zero, List.set_cons_succ]
        refine wpAnyH_ready (rs := [7]) (by kernel_rfl) (by simp) ?_
        refine AllReadyH.cons rfl (fun K hK => ?_) AllReadyH.nil
        go_simp
        (go_at_call 46; refine (permute_spec (B := _) (HTm.out _ RX.out.bel) (RX.out.rd (v := .slice (some ⟨gC, 0, none⟩) (nR + 1) capC) (xs := regL L [b]) (by simp)) (Nat.le_refl _) HTB.out.symm HSE.out).mono ?_; rintro e WX ⟨l', d', x', rfl, ho, hb⟩; obtain ⟨a1, n1, c1, rfl⟩ := Own.slice ho.rows.1; obtain ⟨a2, n2, c2, rfl⟩ := Own.slice ho.rows.2.1; obtain ⟨a3, n3, c3, rfl⟩ := Own.slice ho.rows.2.2; clear r0 r1 r2 s0 s1 s2; replace RX := Lib.hid (RX.out.new3 hb ho); clear ho hb; obtain ⟨⟨r0, r1, r2⟩, -⟩ := RX.out.at (r := w.heap.size) (a := .int .i64 k) (b := .int .i64 p) (c := .int .i64 q) (by simp); obtain ⟨⟨s0, s1, s2⟩, -⟩ := RX.out.at (r := w.heap.size + 1) (a := .slice al m1 cl) (b := .slice (some ⟨bd, od, none⟩) m1 cd) (c := .slice ax m3 cx) (by simp))
        go_wp2_with fail
        refine hK.out _ _ (by (try dsimp only); with_reducible exact ⟨⟨r0, r1, r2⟩, ⟨s0, s1, s2⟩⟩) (fun hHeld => ?_)
        clear hK K
        try simp only [Act.put, List.getElem_toArray, List.getElem_cons_succ, List.getElem_cons_zero, List.setIfInBounds_toArray, List.set_cons_zero, List.set_cons_succ]
        refine wpAnyH_ready (rs := [9]) (by kernel_rfl) (by simp) ?_
        refine AllReadyH.cons rfl (fun K hK => ?_) AllReadyH.nil
        (obtain ⟨⟨o0, o1, o2⟩, g0, g1, g2⟩ := RX.out.at List.mem_cons_self)
        go_simp
        (clear o0 o1 o2 g0 g1 g2 r0 r1 r2 s0 s1 s2; replace RX := Lib.hid (RX.out.set3 (.slice a1 n1 c1) (.slice a2 n2 c2) (.slice a3 n3 c3)); obtain ⟨⟨r0, r1, r2⟩, -⟩ := RX.out.at (r := w.heap.size) (a := .int .i64 k) (b := .int .i64 p) (c := .int .i64 q) (by simp); obtain ⟨⟨s0, s1, s2⟩, -⟩ := RX.out.at (r := w.heap.size + 1) (a := .slice al m1 cl) (b := .slice (some ⟨bd, od, none⟩) m1 cd) (c := .slice ax m3 cx) (by simp))
        refine hK.out _ _ (by (try dsimp only); with_reducible exact ⟨⟨r0, r1, r2⟩, ⟨s0, s1, s2⟩⟩) (fun hHeld => ?_)
        clear hK K
        try simp only [Act.put, List.getElem_toArray, List.getElem_cons_succ, List.getElem_cons_zero, List.setIfInBounds_toArray, List.set_cons_zero, List.set_cons_succ]
        refine wpAnyH_done (by kernel_rfl) ?_ _
      rotate_left 1
    rotate_left 4
    focus
      go_simp
      ((first | (obtain ⟨WX, gb, hW, hg, RXn⟩ := RX.out.boxX nilV nilV nilV 28; rw [hW]; (try rw [hg])) | (obtain ⟨WZ, gb, hW, hg, RXn⟩ := RN.out.boxX nilV nilV nilV 28; rw [hW]; (try rw [hg]); replace RXn := RXn.drew; clear hW; generalize WZ.drew = WX at RXn ⊢)); clear r0 r1 r2 s0 s1 s2; replace RX := Lib.hid RXn; clear RXn; obtain ⟨⟨r0, r1, r2⟩, -⟩ := RX.out.at (r := w.heap.size) (a := .int .i64 k) (b := .int .i64 p) (c := .int .i64 q) (by simp); obtain ⟨⟨s0, s1, s2⟩, -⟩ := RX.out.at (r := w.heap.size + 1) (a := .slice al m1 cl) (b := .slice (some ⟨bd, od, none⟩) m1 cd) (c := .slice ax m3 cx) (by simp))
      refine hK.out _ _ (by (try dsimp only); with_reducible exact ⟨⟨r0, r1, r2⟩, ⟨s0, s1, s2⟩⟩) (fun hHeld => ?_)
      clear hK K
      try simp only [Act.put, List.getElem_toArray, List.getElem_cons_succ, List.getElem_cons_zero, List.setIfInBounds_toArray, List.set_cons_zero, List.set_cons_succ]
      refine wpAnyH_ready (rs := [3, 5]) (by kernel_rfl) (by simp) ?_
      refine AllReadyH.cons rfl (fun K hK => ?_) (AllReadyH.cons rfl (fun K hK => ?_) AllReadyH.nil)
      focus
        go_simp
        (go_at_call 31; refine (ints_new (RX.out.rd (v := .slice aR nR cR) (xs := restL [b] L) (by simp)) (Nat.le_refl _) (by rw [← HNR.out.1]; omega)).mono ?_; rintro e WX ⟨vc, rfl, ho, hb⟩; obtain ⟨aC, cC, rfl, -⟩ := ints_form ho.rd; rw [← HNR.out.1] at ho ⊢; clear r0 r1 r2 s0 s1 s2; replace RX := Lib.hid (RX.out.new hb ho); clear ho hb; obtain ⟨⟨r0, r1, r2⟩, -⟩ := RX.out.at (r := w.heap.size) (a := .int .i64 k) (b := .int .i64 p) (c := .int .i64 q) (by simp); obtain ⟨⟨s0, s1, s2⟩, -⟩ := RX.out.at (r := w.heap.size + 1) (a := .slice al m1 cl) (b := .slice (some ⟨bd, od, none⟩) m1 cd) (c := .slice ax m3 cx) (by simp))
        go_wp2_with fail
        refine hK.out _ _ (by (try dsimp only); with_reducible exact ⟨⟨r0, r1, r2⟩, ⟨s0, s1, s2⟩⟩) (fun hHeld => ?_)
        clear hK K
        try simp only [Act.put, List.getElem_toArray, List.getElem_cons_succ, List.getElem_cons_zero, List.setIfInBounds_toArray, List.set_cons_zero, List.set_cons_succ]
        refine wpAnyH_ready (rs := [5]) (by kernel_rfl) (by simp) ?_
        refine AllReadyH.cons rfl (fun K hK => ?_) AllReadyH.nil
        go_simp
        ((first | (obtain ⟨WX, gl, hW, hg, RXn⟩ := RX.out.litX b; rw [hW]; (try rw [hg])) | (obtain ⟨WZ, gl, hW, hg, RXn⟩ := RN.out.litX b; rw [hW]; (try rw [hg]); replace RXn := RXn.drew; clear hW; generalize WZ.drew = WX at RXn ⊢)); clear r0 r1 r2 s0 s1 s2; replace RX := Lib.hid RXn; clear RXn; obtain ⟨⟨r0, r1, r2⟩, -⟩ := RX.out.at (r := w.heap.size) (a := .int .i64 k) (b := .int .i64 p) (c := .int .i64 q) (by simp); obtain ⟨⟨s0, s1, s2⟩, -⟩ := RX.out.at (r := w.heap.size + 1) (a := .slice al m1 cl) (b := .slice (some ⟨bd, od, none⟩) m1 cd) (c := .slice ax m3 cx) (by simp))
        refine hK.out _ _ (by (try dsimp only); with_reducible exact ⟨⟨r0, r1, r2⟩, ⟨s0, s1, s2⟩⟩) (fun hHeld => ?_)
        clear hK K
        try simp only [Act.put, List.getElem_toArray, List.getElem_cons_succ, List.getElem_cons_zero, List.setIfInBounds_toArray, List.set_cons_zero, List.set_cons_succ]
        refine wpAnyH_ready (rs := [6]) (by kernel_rfl) (by simp) ?_
        refine AllReadyH.cons rfl (fun K hK => ?_) AllReadyH.nil
        (have O1 := Lib.hid (RX.out.row (v := .slice aC nR cC) (xs := restL [b] L) (by simp) HNR.out.1.symm); have HNW := Lib.hid (news_at (w := WX) (b := gl) (off := 0) (xs := [b]) (fun i hi => by obtain ⟨bz, oz, ez, -, hcl⟩ := (RX.out.rd (v := .slice (some ⟨gl, 0, none⟩) 1 1) (xs := [b]) (by simp)).cellAt (List.getElem?_eq_getElem hi); cases ez; exact hcl)); refine step_append_lies _ rfl (.tmp 56) (.tmp 58) 26 rfl w.heap.size 3 i0 (.int .i64 0) 1 8 Try.underlying26 J0.out J1.out J2.out J3.out rfl Nat.one_pos (.slice aC nR cC) nR (ints (restL [b] L)) rfl O1.out ⟨gl, 0, none⟩ 1 1 (ints [b]) rfl rfl HNW.out (one_cells _) (by omega) (by unfold maxLen; omega) (by omega) RX.out.bel.size _ rfl ?_; intro gC capC WX hown hgrow hl _; rw [← ints_append] at hown; have h11 := (rs_front RX.out (v := .slice aC nR cC) (xs := restL [b] L) (by first | exact .inl ⟨_, rfl⟩ | exact .inr ⟨_, _, rfl⟩)).choose_spec; have h12 := h11.1.app hown (by rw [List.length_append, ← HNR.out.1]; rfl) hgrow hl; rw [HRL.out] at h12; have h13 := h12.sub (rows' := [(.slice (some ⟨gC, 0, none⟩) (nR + 1) capC, regL L [b]), (.slice aR nR cR, restL [b] L)]) (List.Sublist.cons_cons _ h11.2); clear r0 r1 r2 s0 s1 s2; replace RX := Lib.hid h13; clear hown hgrow hl h11 h12 h13 O1 HNW; obtain ⟨⟨r0, r1, r2⟩, -⟩ := RX.out.at (r := w.heap.size) (a := .int .i64 k) (b := .int .i64 p) (c := .int .i64 q) (by simp); obtain ⟨⟨s0, s1, s2⟩, -⟩ := RX.out.at (r := w.heap.size + 1) (a := .slice al m1 cl) (b := .slice (some ⟨bd, od, none⟩) m1 cd) (c := .slice ax m3 cx) (by simp))
        refine hK.out _ _ (by (try dsimp only); with_reducible exact ⟨⟨r0, r1, r2⟩, ⟨s0, s1, s2⟩⟩) (fun hHeld => ?_)
        clear hK K
        try simp only [Act.put, List.getElem_toArray, List.getElem_cons_succ, List.getElem_cons_zero, List.setIfInBounds_toArray, List.set_cons_zero, List.set_cons_succ]
        refine wpAnyH_ready (rs := [7]) (by kernel_rfl) (by simp) ?_
        refine AllReadyH.cons rfl (fun K hK => ?_) AllReadyH.nil
        go_simp
        (go_at_call 46; refine (permute_spec (B := _) (HTm.out _ RX.out.bel) (RX.out.rd (v := .slice (some ⟨gC, 0, none⟩) (nR + 1) capC) (xs := regL L [b]) (by simp)) (Nat.le_refl _) HTB.out.symm HSE.out).mono ?_; rintro e WX ⟨l', d', x', rfl, ho, hb⟩; obtain ⟨a1, n1, c1, rfl⟩ := Own.slice ho.rows.1; obtain ⟨a2, n2, c2, rfl⟩ := Own.slice ho.rows.2.1; obtain ⟨a3, n3, c3, rfl⟩ := Own.slice ho.rows.2.2; clear r0 r1 r2 s0 s1 s2; replace RX := Lib.hid (RX.out.new3 hb ho); clear ho hb; obtain ⟨⟨r0, r1, r2⟩, -⟩ := RX.out.at (r := w.heap.size) (a := .int .i64 k) (b := .int .i64 p) (c := .int .i64 q) (by simp); obtain ⟨⟨s0, s1, s2⟩, -⟩ := RX.out.at (r := w.heap.size + 1) (a := .slice al m1 cl) (b := .slice (some ⟨bd, od, none⟩) m1 cd) (c := .slice ax m3 cx) (by simp))
        go_wp2_with fail
        refine hK.out _ _ (by (try dsimp only); with_reducible exact ⟨⟨r0, r1, r2⟩, ⟨s0, s1, s2⟩⟩) (fun hHeld => ?_)
        clear hK K
        try simp only [Act.put, List.getElem_toArray, List.getElem_cons_succ, List.getElem_cons_zero, List.setIfInBounds_toArray, List.set_cons_zero, List.set_cons_succ]
        refine wpAnyH_ready (rs := [9]) (by kernel_rfl) (by simp) ?_
        refine AllReadyH.cons rfl (fun K hK => ?_) AllReadyH.nil
        (obtain ⟨⟨o0, o1, o2⟩, g0, g1, g2⟩ := RX.out.at List.mem_cons_self)
        go_simp
        (clear o0 o1 o2 g0 g1 g2 r0 r1 r2 s0 s1 s2; replace RX := Lib.hid (RX.out.set3 (.slice a1 n1 c1) (.slice a2 n2 c2) (.slice a3 n3 c3)); obtain ⟨⟨r0, r1, r2⟩, -⟩ := RX.out.at (r := w.heap.size) (a := .int .i64 k) (b := .int .i64 p) (c := .int .i64 q) (by simp); obtain ⟨⟨s0, s1, s2⟩, -⟩ := RX.out.at (r := w.heap.size + 1) (a := .slice al m1 cl) (b := .slice (some ⟨bd, od, none⟩) m1 cd) (c := .slice ax m3 cx) (by simp))
        refine hK.out _ _ (by (try dsimp only); with_reducible exact ⟨⟨r0, r1, r2⟩, ⟨s0, s1, s2⟩⟩) (fun hHeld => ?_)
        clear hK K
        try simp only [Act.put, List.getElem_toArray, List.getElem_cons_succ, List.getElem_cons_zero, List.setIfInBounds_toArray, List.set_cons_zero, List.set_cons_succ]
        refine wpAnyH_done (by kernel_rfl) ?_ _
      rotate_left 1
      focus
        go_simp
        ((first | (obtain ⟨WX, gl, hW, hg, RXn⟩ := RX.out.litX b; rw [hW]; (try rw [hg])) | (obtain ⟨WZ, gl, hW, hg, RXn⟩ := RN.out.litX b; rw [hW]; (try rw [hg]); replace RXn := RXn.drew; clear hW; generalize WZ.drew = WX at RXn ⊢)); clear r0 r1 r2 s0 s1 s2; replace RX := Lib.hid RXn; clear RXn; obtain ⟨⟨r0, r1, r2⟩, -⟩ := RX.out.at (r := w.heap.size) (a := .int .i64 k) (b := .int .i64 p) (c := .int .i64 q) (by simp); obtain ⟨⟨s0, s1, s2⟩, -⟩ := RX.out.at (r := w.heap.size + 1) (a := .slice al m1 cl) (b := .slice (some ⟨bd, od, none⟩) m1 cd) (c := .slice ax m3 cx) (by simp))
        refine hK.out _ _ (by (try dsimp only); with_reducible exact ⟨⟨r0, r1, r2⟩, ⟨s0, s1, s2⟩⟩) (fun hHeld => ?_)
        clear hK K
        try simp only [Act.put, List.getElem_toArray, List.getElem_cons_succ, List.getElem_cons_zero, List.setIfInBounds_toArray, List.set_cons_zero, List.set_cons_succ]
        refine wpAnyH_ready (rs := [3]) (by kernel_rfl) (by simp) ?_
        refine AllReadyH.cons rfl (fun K hK => ?_) AllReadyH.nil
        go_simp
        (go_at_call 31; refine (ints_new (RX.out.rd (v := .slice aR nR cR) (xs := restL [b] L) (by simp)) (Nat.le_refl _) (by rw [← HNR.out.1]; omega)).mono ?_; rintro e WX ⟨vc, rfl, ho, hb⟩; obtain ⟨aC, cC, rfl, -⟩ := ints_form ho.rd; rw [← HNR.out.1] at ho ⊢; clear r0 r1 r2 s0 s1 s2; replace RX := Lib.hid (RX.out.new hb ho); clear ho hb; obtain ⟨⟨r0, r1, r2⟩, -⟩ := RX.out.at (r := w.heap.size) (a := .int .i64 k) (b := .int .i64 p) (c := .int .i64 q) (by simp); obtain ⟨⟨s0, s1, s2⟩, -⟩ := RX.out.at (r := w.heap.size + 1) (a := .slice al m1 cl) (b := .slice (some ⟨bd, od, none⟩) m1 cd) (c := .slice ax m3 cx) (by simp))
        go_wp2_with fail
        refine hK.out _ _ (by (try dsimp only); with_reducible exact ⟨⟨r0, r1, r2⟩, ⟨s0, s1, s2⟩⟩) (fun hHeld => ?_)
        clear hK K
        try simp only [Act.put, List.getElem_toArray, List.getElem_cons_succ, List.getElem_cons_zero, List.setIfInBounds_toArray, List.set_cons_zero, List.set_cons_succ]
        refine wpAnyH_ready (rs := [6]) (by kernel_rfl) (by simp) ?_
        refine AllReadyH.cons rfl (fun K hK => ?_) AllReadyH.nil
        (have O1 := Lib.hid (RX.out.row (v := .slice aC nR cC) (xs := restL [b] L) (by simp) HNR.out.1.symm); have HNW := Lib.hid (news_at (w := WX) (b := gl) (off := 0) (xs := [b]) (fun i hi => by obtain ⟨bz, oz, ez, -, hcl⟩ := (RX.out.rd (v := .slice (some ⟨gl, 0, none⟩) 1 1) (xs := [b]) (by simp)).cellAt (List.getElem?_eq_getElem hi); cases ez; exact hcl)); refine step_append_lies _ rfl (.tmp 56) (.tmp 58) 26 rfl w.heap.size 3 i0 (.int .i64 0) 1 8 Try.underlying26 J0.out J1.out J2.out J3.out rfl Nat.one_pos (.slice aC nR cC) nR (ints (restL [b] L)) rfl O1.out ⟨gl, 0, none⟩ 1 1 (ints [b]) rfl rfl HNW.out (one_cells _) (by omega) (by unfold maxLen; omega) (by omega) RX.out.bel.size _ rfl ?_; intro gC capC WX hown hgrow hl _; rw [← ints_append] at hown; have h11 := (rs_front RX.out (v := .slice aC nR cC) (xs := restL [b] L) (by first | exact .inl ⟨_, rfl⟩ | exact .inr ⟨_, _, rfl⟩)).choose_spec; have h12 := h11.1.app hown (by rw [List.length_append, ← HNR.out.1]; rfl) hgrow hl; rw [HRL.out] at h12; have h13 := h12.sub (rows' := [(.slice (some ⟨gC, 0, none⟩) (nR + 1) capC, regL L [b]), (.slice aR nR cR, restL [b] L)]) (List.Sublist.cons_cons _ h11.2); clear r0 r1 r2 s0 s1 s2; replace RX := Lib.hid h13; clear hown hgrow hl h11 h12 h13 O1 HNW; obtain ⟨⟨r0, r1, r2⟩, -⟩ := RX.out.at (r := w.heap.size) (a := .int .i64 k) (b := .int .i64 p) (c := .int .i64 q) (by simp); obtain ⟨⟨s0, s1, s2⟩, -⟩ := RX.out.at (r := w.heap.size + 1) (a := .slice al m1 cl) (b := .slice (some ⟨bd, od, none⟩) m1 cd) (c := .slice ax m3 cx) (by simp))
        refine hK.out _ _ (by (try dsimp only); with_reducible exact ⟨⟨r0, r1, r2⟩, ⟨s0, s1, s2⟩⟩) (fun hHeld => ?_)
        clear hK K
        try simp only [Act.put, List.getElem_toArray, List.getElem_cons_succ, List.getElem_cons_zero, List.setIfInBounds_toArray, List.set_cons_zero, List.set_cons_succ]
        refine wpAnyH_ready (rs := [7]) (by kernel_rfl) (by simp) ?_
        refine AllReadyH.cons rfl (fun K hK => ?_) AllReadyH.nil
        go_simp
        (go_at_call 46; refine (permute_spec (B := _) (HTm.out _ RX.out.bel) (RX.out.rd (v := .slice (some ⟨gC, 0, none⟩) (nR + 1) capC) (xs := regL L [b]) (by simp)) (Nat.le_refl _) HTB.out.symm HSE.out).mono ?_; rintro e WX ⟨l', d', x', rfl, ho, hb⟩; obtain ⟨a1, n1, c1, rfl⟩ := Own.slice ho.rows.1; obtain ⟨a2, n2, c2, rfl⟩ := Own.slice ho.rows.2.1; obtain ⟨a3, n3, c3, rfl⟩ := Own.slice ho.rows.2.2; clear r0 r1 r2 s0 s1 s2; replace RX := Lib.hid (RX.out.new3 hb ho); clear ho hb; obtain ⟨⟨r0, r1, r2⟩, -⟩ := RX.out.at (r := w.heap.size) (a := .int .i64 k) (b := .int .i64 p) (c := .int .i64 q) (by simp); obtain ⟨⟨s0, s1, s2⟩, -⟩ := RX.out.at (r := w.heap.size + 1) (a := .slice al m1 cl) (b := .slice (some ⟨bd, od, none⟩) m1 cd) (c := .slice ax m3 cx) (by simp))
        go_wp2_with fail
        refine hK.out _ _ (by (try dsimp only); with_reducible exact ⟨⟨r0, r1, r2⟩, ⟨s0, s1, s2⟩⟩) (fun hHeld => ?_)
        clear hK K
        try simp only [Act.put, List.getElem_toArray, List.getElem_cons_succ, List.getElem_cons_zero, List.setIfInBounds_toArray, List.set_cons_zero, List.set_cons_succ]
        refine wpAnyH_ready (rs := [9]) (by kernel_rfl) (by simp) ?_
        refine AllReadyH.cons rfl (fun K hK => ?_) AllReadyH.nil
        (obtain ⟨⟨o0, o1, o2⟩, g0, g1, g2⟩ := RX.out.at List.mem_cons_self)
        go_simp
        (clear o0 o1 o2 g0 g1 g2 r0 r1 r2 s0 s1 s2; replace RX := Lib.hid (RX.out.set3 (.slice a1 n1 c1) (.slice a2 n2 c2) (.slice a3 n3 c3)); obtain ⟨⟨r0, r1, r2⟩, -⟩ := RX.out.at (r := w.heap.size) (a := .int .i64 k) (b := .int .i64 p) (c := .int .i64 q) (by simp); obtain ⟨⟨s0, s1, s2⟩, -⟩ := RX.out.at (r := w.heap.size + 1) (a := .slice al m1 cl) (b := .slice (some ⟨bd, od, none⟩) m1 cd) (c := .slice ax m3 cx) (by simp))
        refine hK.out _ _ (by (try dsimp only); with_reducible exact ⟨⟨r0, r1, r2⟩, ⟨s0, s1, s2⟩⟩) (fun hHeld => ?_)
        clear hK K
        try simp only [Act.put, List.getElem_toArray, List.getElem_cons_succ, List.getElem_cons_zero, List.setIfInBounds_toArray, List.set_cons_zero, List.set_cons_succ]
        refine wpAnyH_done (by kernel_rfl) ?_ _
      rotate_left 1
    rotate_left 2
    all_goals
      clear r0 r1 r2 s0 s1 s2
      go_wp2_with fail
      go_meet
      exact ⟨gb, a1, n1, c1, a2, n2, c2, a3, n3, c3, rfl, Lib.hid (RX.out.sub (List.Sublist.cons_cons _ (List.Sublist.cons_cons _ (List.Sublist.cons_cons _ (List.Sublist.cons _ (List.Sublist.refl _))))))⟩
  case rest =>
    obtain ⟨gb, a1, n1, c1, a2, n2, c2, a3, n3, c3, rfl, R4⟩ := hcut
    clear RX RN r0 r1 r2 s0 s1 s2
    obtain ⟨bs, hbs⟩ : ∃ l, l = [(w.heap.size + 1 + 1, nilV, nilV, nilV), (w.heap.size + 1, Value.slice al m1 cl, Value.slice (some ⟨bd, od, none⟩) m1 cd, Value.slice ax m3 cx), (w.heap.size, Value.int .i64 k, Value.int .i64 p, Value.int .i64 q)] := ⟨_, rfl⟩
    have R5 : Hid (Rs w wc ((gb, .slice a1 n1 c1, .slice a2 n2 c2, .slice a3 n3 c3) :: bs) [(.slice aR nR cR, restL [b] L), (.slice a1 n1 c1, regL L [b]), (.slice a2 n2 c2, dimsVia L D (regL L [b])), (.slice a3 n3 c3, regX k q L D X [b])]) := Lib.hid (by rw [hbs]; exact R4.out.fourth)
    have HBS := Lib.hid hbs
    have hdl : (dimsVia L D (regL L [b])).length = nR + 1 := by rw [dimsVia_len]; unfold regL; rw [List.length_append, ← HNR.out.1]; rfl
    obtain ⟨hn2, hc2⟩ : n2 = nR + 1 ∧ n2 ≤ c2 := by
      have hr := R5.out.rd (v := .slice a2 n2 c2) (xs := dimsVia L D (regL L [b])) (by simp)
      rcases hr.ints_cases with ⟨h0, -⟩ | ⟨b2, o2, ca, e, -, hcc, -⟩
      · rw [h0] at hdl; simp at hdl
      · simp only [Value.slice.injEq] at e
        have h1 : n2 = nR + 1 := by rw [e.2.1, hdl]
        refine ⟨h1, ?_⟩
        rw [e.2.2, h1, ← hdl]; exact hcc
    have hle1 : nR ≤ n2 := by omega
    have hle2 : nR ≤ c2 := by omega
    have hwn : wrap64 ((n2 : Int) - 1) = (nR : Int) := by unfold wrap64; omega
    have e2 : (dimsVia L D (regL L [b])).take nR = dimsVia L D (restL [b] L) := by unfold regL; rw [dims_app]; exact List.take_left' (by rw [dimsVia_len, ← HNR.out.1])
    have HD2 := Lib.hid (And.intro hdl e2)
    have HN2 := Lib.hid hn2
    have O1 := Lib.hid (R5.out.row (v := .slice aR nR cR) (xs := restL [b] L) (by simp) HNR.out.1.symm)
    have HAW := Lib.hid (HA.out.below R5.out.bel (Nat.le_refl _))
    obtain ⟨bA, oA, rfl, HNW⟩ := rd_some HAW.out HM.out.2.2.2.1.symm (by omega)
    have HLA : Hid ((restL [b] L ++ A).length = nR + mA) := Lib.hid (by rw [List.length_append, ← HNR.out.1, ← HM.out.2.2.2.1])
    clear R4 hbs hdl e2 hn2
    obtain ⟨⟨o0, o1, o2⟩, g0, g1, g2⟩ := R5.out.at (r := gb) (a := .slice a1 n1 c1) (b := .slice a2 n2 c2) (c := .slice a3 n3 c3) (by simp)
    go_wp2_with (at_builtin; go_must (refine wpList_append_lies _ rfl _ _ 26 rfl w.heap.size 3 i0 (.int .i64 0) 1 8 Try.underlying26 J0.out J1.out J2.out J3.out rfl (by decide) _ nR (ints (restL [b] L)) rfl O1.out ⟨bA, oA, none⟩ mA cA (ints A) rfl ?d1 HNW.out (one_cells _) ?d2 ?d3 ?d4 ?d5 _ rfl ?_))
    case d1 => rw [ints_len, ← HM.out.2.2.2.1, Nat.mul_one]
    case d2 => omega
    case d3 => unfold maxLen; omega
    case d4 => omega
    case d5 => exact R5.out.bel.size
    intro gL capL w6 hown hgrow hl1 _
    rw [← ints_append] at hown
    have R6 := Lib.hid (R5.out.app hown HLA.out hgrow hl1)
    have R7 : Hid (Rs w (w6.setCell ⟨gb, 0, none⟩ (.slice (some ⟨gL, 0, none⟩) (nR + mA) capL)) ((gb, .slice (some ⟨gL, 0, none⟩) (nR + mA) capL, .slice a2 n2 c2, .slice a3 n3 c3) :: bs) [(.slice (some ⟨gL, 0, none⟩) (nR + mA) capL, restL [b] L ++ A), (.slice a1 n1 c1, regL L [b]), (.slice a2 n2 c2, dimsVia L D (regL L [b])), (.slice a3 n3 c3, regX k q L D X [b])]) := Lib.hid (R6.out.first (.slice (some ⟨gL, 0, none⟩) (nR + mA) capL))
    clear hown hgrow hl1 O1 R5 HAW HNW o0 o1 o2 g0 g1 g2
    obtain ⟨⟨o0, o1, o2⟩, g0, g1, g2⟩ := R6.out.at (r := gb) (a := .slice a1 n1 c1) (b := .slice a2 n2 c2) (c := .slice a3 n3 c3) (by simp)
    have htk := (R7.out.rd (v := .slice a2 n2 c2) (xs := dimsVia L D (regL L [b])) (by simp)).take nR (by rw [HD2.out.1]; omega)
    rw [HD2.out.2] at htk
    have HI2 := Lib.hid (ints_new htk (Nat.le_refl _) (by rw [dimsVia_len, ← HNR.out.1]; omega))
    clear htk
    go_wp2_with fail
    refine HI2.out.mono ?_
    clear o0 o1 o2 g0 g1 g2 HI2
    rintro e w8 ⟨vE, rfl, ho, hb⟩
    obtain ⟨aE, cE, rfl, -⟩ := ints_form ho.rd
    have HDE2 : Hid ((dimsVia L D (restL [b] L)).length = nR) := Lib.hid (by rw [dimsVia_len, ← HNR.out.1])
    rw [HDE2.out] at ho ⊢
    have R8 := Lib.hid (R7.out.new hb ho)
    clear ho hb R6 R7
    have O2 := Lib.hid (R8.out.row (v := .slice aE nR cE) (xs := dimsVia L D (restL [b] L)) (by simp) HDE2.out)
    have HGW := Lib.hid (HG.out.below R8.out.bel (Nat.le_refl _))
    obtain ⟨bG, oG, rfl, HNW⟩ := rd_some HGW.out HM.out.2.2.2.2.symm (by rw [← HMAG.out]; omega)
    have HLG : Hid ((dimsVia L D (restL [b] L) ++ G).length = nR + mG) := Lib.hid (by rw [List.length_append, HDE2.out, ← HM.out.2.2.2.2])
    have hmg1 : 1 ≤ mG := by have := HMAG.out; omega
    obtain ⟨⟨o0, o1, o2⟩, g0, g1, g2⟩ := R8.out.at (r := gb) (a := .slice (some ⟨gL, 0, none⟩) (nR + mA) capL) (b := .slice a2 n2 c2) (c := .slice a3 n3 c3) (by simp)
    go_wp2_with (at_builtin; go_must (refine wpList_append_lies _ rfl _ _ 26 rfl w.heap.size 3 i0 (.int .i64 0) 1 8 Try.underlying26 J0.out J1.out J2.out J3.out rfl (by decide) _ nR (ints (dimsVia L D (restL [b] L))) rfl O2.out ⟨bG, oG, none⟩ mG cG (ints G) rfl ?d1 HNW.out (one_cells _) ?d2 ?d3 ?d4 ?d5 _ rfl ?_))
    case d1 => rw [ints_len, ← HM.out.2.2.2.2, Nat.mul_one]
    case d2 => omega
    case d3 => unfold maxLen; omega
    case d4 => omega
    case d5 => exact R8.out.bel.size
    intro gE capE w9 hown hgrow hl1 _
    rw [← ints_append] at hown
    have R9 := Lib.hid (R8.out.app hown HLG.out hgrow hl1)
    have R10 : Hid (Rs w (w9.setCell ⟨gb, 1, none⟩ (.slice (some ⟨gE, 0, none⟩) (nR + mG) capE)) ((gb, .slice (some ⟨gL, 0, none⟩) (nR + mA) capL, .slice (some ⟨gE, 0, none⟩) (nR + mG) capE, .slice a3 n3 c3) :: bs) [(.slice (some ⟨gL, 0, none⟩) (nR + mA) capL, restL [b] L ++ A), (.slice (some ⟨gE, 0, none⟩) (nR + mG) capE, dimsVia L D (restL [b] L) ++ G), (.slice a3 n3 c3, regX k q L D X [b])]) := Lib.hid (by
      have h := R9.out.setB 1 (.slice (some ⟨gE, 0, none⟩) (nR + mG) capE)
      simp only [if_true, if_false, Nat.one_ne_zero, Nat.reduceEqDiff] at h
      exact (h.sub (rows' := [(.slice (some ⟨gE, 0, none⟩) (nR + mG) capE, dimsVia L D (restL [b] L) ++ G), (.slice (some ⟨gL, 0, none⟩) (nR + mA) capL, restL [b] L ++ A), (.slice a3 n3 c3, regX k q L D X [b])]) (List.Sublist.cons_cons _ (List.Sublist.cons_cons _ (List.Sublist.cons _ (List.Sublist.cons _ (List.Sublist.refl _)))))).swap)
    clear hown hgrow hl1 O2 R8 HGW HNW o0 o1 o2 g0 g1 g2
    obtain ⟨⟨o0, o1, o2⟩, g0, g1, g2⟩ := R9.out.at (r := gb) (a := .slice (some ⟨gL, 0, none⟩) (nR + mA) capL) (b := .slice a2 n2 c2) (c := .slice a3 n3 c3) (by simp)
    have HSZ := Lib.hid (size_spec (B := (w9.setCell ⟨gb, 1, none⟩ (.slice (some ⟨gE, 0, none⟩) (nR + mG) capE)).heap.size) ⟨R10.out.rd (v := .slice (some ⟨gL, 0, none⟩) (nR + mA) capL) (xs := restL [b] L ++ A) (by simp), R10.out.rd (v := .slice (some ⟨gE, 0, none⟩) (nR + mG) capE) (xs := dimsVia L D (restL [b] L) ++ G) (by simp), R10.out.rd (v := .slice a3 n3 c3) (xs := regX k q L D X [b]) (by simp)⟩ (Nat.le_refl _) ⟨by rw [HLA.out]; omega, by rw [HLG.out]; omega, regX_small HTB.out.symm HSV.out⟩)
    rw [← HS.out] at HSZ
    go_wp2_with fail
    refine HSZ.out.mono ?_
    clear o0 o1 o2 g0 g1 g2 HSZ R9
    rintro e w10 ⟨rfl, hb⟩
    have R11 := Lib.hid (R10.out.step hb)
    clear hb R10
    by_cases hs0 : 0 ≤ s
    case neg =>
      have q8 : decide (s < 0) = true := by simpa using hs0
      obtain rfl : fb = false := by rw [HFB2.out, decide_eq_false hs0]
      obtain ⟨rfl, rfl, rfl⟩ := HNO.out (by simp)
      obtain ⟨⟨t0, t1, t2⟩, f0, f1, f2⟩ := R11.out.at (r := w.heap.size + 1 + 1) (a := nilV) (b := nilV) (c := nilV) (by rw [HBS.out]; simp)
      go_wp2
      refine bodyPost_ret (v := .tuple #[tenV nilV nilV nilV, .bool false]) (by simp [results, Try.results24, go_sem, t0, t1, t2]) rfl ?_
      exact NewTen2.nils (((R11.out.bel.setCell (by simp; omega) _).setCell (by simp; omega) _).setCell (by simp; omega) _)
    case pos =>
      have q8 : decide (s < 0) = false := by simpa using hs0
      obtain rfl : fb = true := by rw [HFB2.out, decide_eq_true hs0]
      have HY3 := Lib.hid (HYES.out rfl)
      obtain ⟨⟨t0, t1, t2⟩, f0, f1, f2⟩ := R11.out.at (r := w.heap.size + 1 + 1) (a := nilV) (b := nilV) (c := nilV) (by rw [HBS.out]; simp)
      obtain ⟨⟨o0, o1, o2⟩, -⟩ := R11.out.at (r := gb) (a := .slice (some ⟨gL, 0, none⟩) (nR + mA) capL) (b := .slice (some ⟨gE, 0, none⟩) (nR + mG) capE) (c := .slice a3 n3 c3) (by simp)
      go_wp2
      refine bodyPost_ret (v := .tuple #[tenV (.slice (some ⟨gL, 0, none⟩) (nR + mA) capL) (.slice (some ⟨gE, 0, none⟩) (nR + mG) capE) (.slice a3 n3 c3), .bool true]) (by simp [results, Try.results24, go_sem, t0, t1, t2]) rfl ?_
      have h := R11.out
      rw [HBS.out] at h
      have h2 := h.swapB.set3 (.slice (some ⟨gL, 0, none⟩) (nR + mA) capL) (.slice (some ⟨gE, 0, none⟩) (nR + mG) capE) (.slice a3 n3 c3)
      rw [HY3.out.1, HY3.out.2.1, HY3.out.2.2]
      exact ⟨_, _, _, rfl, h2.ownG, h2.bel⟩
end Go.Proofs.Ytgdkllhgaikpnaa
