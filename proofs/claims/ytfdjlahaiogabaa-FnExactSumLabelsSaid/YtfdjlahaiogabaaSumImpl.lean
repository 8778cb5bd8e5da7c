
/- impl.SumLabels. -/
import Derived.Test.YtfdjlahaiogabaaPairFn
import Derived.Test.YtfdjlahaiogabaaContrSpec
import Derived.Test.YtfdjlahaiogabaaTenOkImpl
namespace Go.Proofs.Ytfdjlahaiogabaa
set_option maxRecDepth 20000
open Go.RowKit

theorem acc_congr {k p q : Int} {zf : Nat → Nat} {tf tf' : Nat → List Int} {M n : Nat} (h : ∀ m, m < n → tf m = tf' m) : accL k p q zf tf M n = accL k p q zf tf' M n := by
  unfold accL
  refine gather_congr fun o _ => ?_
  induction n with
  | zero => rfl
  | succ n ih =>
    rw [accE_succ, accE_succ, ih (fun m hm => h m (by omega)), h n (by omega)]
theorem via_own {L ix : List Int} (hn : L.Nodup) (hx : ix.length = L.length) : viaL L L ix = ix := by
  unfold viaL
  apply List.ext_getElem?
  intro i
  by_cases hi : i < L.length
  · have hm : L[i]? = some L[i] := List.getElem?_eq_getElem hi
    have hxm : ix[i]? = some (ix[i]'(by omega)) := List.getElem?_eq_getElem (by omega)
    rw [List.getElem?_map, hm, hxm]
    show some (ix.getD (L.idxOf L[i]) 0) = _
    rw [idxOf_at hn hm, getD_at hxm]
  · rw [List.getElem?_eq_none (by simpa using hi), List.getElem?_eq_none (by omega)]
/-- The product with the one is the element itself. -/
theorem sum_term {k p q : Int} {L D X : List Int} {wd N c : Nat} (hr : ringB k p q = true) (hw : widthI k q = (wd : Int)) (hF : TenF k p q L D X wd N) (hc : c < N) : termJ k p wd L D X [] [] (oneL k p q) L D c = getL wd X c := by
  have e1 : offJ L D L D c = c := by
    unfold offJ
    rw [via_own hF.ax.2.2.2.2 (by rw [idxL_len]; exact hF.ax.2.1.symm), off_idx hF.dim (by omega) (by rw [hF.pr]; omega)]
    simp
  have e2 : offJ [] [] L D c = 0 := by
    have h : offI [] (viaL [] L (idxL D (c : Int))) = 0 := rfl
    unfold offJ
    rw [h]; rfl
  have e3 : getL wd (oneL k p q) 0 = oneL k p q := by
    have h1 := (oneL_elem hr).1
    unfold getL
    rw [Nat.zero_mul, List.drop_zero, List.take_of_length_le (by omega)]
  unfold termJ
  rw [e1, e2, e3]
  exact (times_one hr (getL_elem hw hF.lX hF.wX hc)).1
set_option maxHeartbeats 600000 in
theorem sum_labels_impl {B B' : Nat} {lv dv xv kv : Value} {k p q : Int} {L D X keep : List Int} {w : World} (ha : RdT B w lv dv xv L D X) (hk : Rd B' w kv (ints keep)) (hB : B ≤ w.heap.size) (hB' : B' ≤ w.heap.size) (hn : LenT L D X) (hkl : keep.length ≤ 281474976710656) (hI : allI L) :
    Calls Try.prog 52 #[ringV k p q, tenV lv dv xv, kv] w (NewTen w (if tensorB k p q L D X = true then keepL (joinL L []) keep else []) (if tensorB k p q L D X = true then keepD (joinL L []) (joinD L D [] []) keep else []) (if tensorB k p q L D X = true then pairL k p q L D X [] [] (oneL k p q) keep else [])) := by
  have HA : Hid (RdT w.heap.size w lv dv xv L D X) := Lib.hid ⟨ha.l.mono hB, ha.d.mono hB, ha.x.mono hB⟩
  have HK : Hid (Rd w.heap.size w kv (ints keep)) := Lib.hid (hk.mono hB')
  obtain ⟨al, cl, rfl, -⟩ := ints_form ha.l
  obtain ⟨ad, cd, rfl, -⟩ := ints_form ha.d
  obtain ⟨ax, cx, rfl, -⟩ := ints_form ha.x
  obtain ⟨ak, ck, rfl, -⟩ := ints_form hk
  generalize L.length = m1 at HA ⊢
  generalize D.length = m2 at HA ⊢
  generalize X.length = m3 at HA ⊢
  obtain ⟨mk, hmk⟩ : ∃ m, m = keep.length := ⟨_, rfl⟩
  rw [← hmk] at HK ⊢
  have S0 : Hid (Rs w (((w.alloc (.cells #[.int .i64 k, .int .i64 p, .int .i64 q] 31)).alloc (.cells #[.slice al m1 cl, .slice ad m2 cd, .slice ax m3 cx] 28)).alloc (.cells #[nilV, nilV, nilV] 28)) [(w.heap.size + 1 + 1, nilV, nilV, nilV), (w.heap.size + 1, .slice al m1 cl, .slice ad m2 cd, .slice ax m3 cx), (w.heap.size, .int .i64 k, .int .i64 p, .int .i64 q)] []) := by
    have h := (((Rs.start w).box (.int .i64 k) (.int .i64 p) (.int .i64 q) 31).box (.slice al m1 cl) (.slice ad m2 cd) (.slice ax m3 cx) 28).box nilV nilV nilV 28
    simp only [World.size_alloc] at h
    exact h
  have HT1 := Lib.hid (tensor_ok_impl (k := k) (p := p) (n := q) (HA.out.below S0.out.bel (Nat.le_refl _)) S0.out.bel.size hn hI)
  obtain ⟨zl, hzl⟩ : ∃ l, l = if tensorB k p q L D X = true then keepL (joinL L []) keep else [] := ⟨_, rfl⟩
  obtain ⟨zd, hzd⟩ : ∃ l, l = if tensorB k p q L D X = true then keepD (joinL L []) (joinD L D [] []) keep else [] := ⟨_, rfl⟩
  obtain ⟨zx, hzx⟩ : ∃ l, l = if tensorB k p q L D X = true then pairL k p q L D X [] [] (oneL k p q) keep else [] := ⟨_, rfl⟩
  rw [← hzl, ← hzd, ← hzx]
  obtain ⟨t1b, ht1⟩ : ∃ z, z = tensorB k p q L D X := ⟨_, rfl⟩
  rw [← ht1] at HT1 hzl hzd hzx
  have HC : Hid (∀ W bs rs, (w.heap.size, Value.int .i64 k, Value.int .i64 p, Value.int .i64 q) ∈ bs → (w.heap.size + 1, Value.slice al m1 cl, Value.slice ad m2 cd, Value.slice ax m3 cx) ∈ bs → Rs w W bs rs → (W.cell? ⟨w.heap.size, 0, none⟩ = some (.int .i64 k) ∧ W.cell? ⟨w.heap.size, 1, none⟩ = some (.int .i64 p) ∧ W.cell? ⟨w.heap.size, 2, none⟩ = some (.int .i64 q) ∧ W.cell? ⟨w.heap.size + 1, 0, none⟩ = some (.slice al m1 cl) ∧ W.cell? ⟨w.heap.size + 1, 1, none⟩ = some (.slice ad m2 cd) ∧ W.cell? ⟨w.heap.size + 1, 2, none⟩ = some (.slice ax m3 cx)) ∧ 0 < W.heap.size ∧ w.heap.size < W.heap.size ∧ w.heap.size + 1 < W.heap.size) := Lib.hid (fun W bs rs h1 h2 h => by
    obtain ⟨⟨r0, r1, r2⟩, -⟩ := h.at h1
    obtain ⟨⟨a0, a1, a2⟩, -⟩ := h.at h2
    exact ⟨⟨r0, r1, r2, a0, a1, a2⟩, by have h3 := (h.bx _ h1).lt; have h4 := (h.bx _ h2).lt; exact ⟨Nat.lt_of_le_of_lt (Nat.zero_le _) h3, h3, h4⟩⟩)
  clear ha hk hB hB' hn hI
  obtain ⟨⟨r0, r1, r2, a0, a1, a2⟩, s0, s1, s2⟩ := HC.out _ _ _ (by simp) (by simp) S0.out
  cases t1b with
  | false =>
    simp only [Bool.false_eq_true, if_false] at hzl hzd hzx
    subst hzl hzd hzx
    clear ht1 hkl
    go_enter Try.func52, Try.ntmps52
    go_wp2_with fail
    refine HT1.out.mono ?_
    rintro e w1 ⟨rfl, hb⟩
    have S1 := Lib.hid (S0.out.step hb)
    clear hb HT1 r0 r1 r2 a0 a1 a2 s0 s1 s2 S0
    obtain ⟨⟨t0, t1, t2⟩, f0, f1, f2⟩ := S1.out.at (r := w.heap.size + 1 + 1) (a := nilV) (b := nilV) (c := nilV) (by simp)
    go_wp2
    refine bodyPost_ret (v := tenV nilV nilV nilV) (by simp [results, Try.results52, go_sem, t0, t1, t2]) rfl ?_
    exact NewTen.nils (((S1.out.bel.setCell (by show w.heap.size ≤ w.heap.size + 1 + 1; omega) _).setCell (by show w.heap.size ≤ w.heap.size + 1 + 1; omega) _).setCell (by show w.heap.size ≤ w.heap.size + 1 + 1; omega) _)
  | true =>
    simp only [if_true] at hzl hzd hzx
    have hax := tensor_axes ht1.symm
    have hrb := (tensorB_inv ht1.symm).1
    obtain ⟨wd, hw, hw1, hw6⟩ := width_pos hrb
    obtain ⟨N, hNN⟩ : ∃ N, N = (prodL D).toNat := ⟨_, rfl⟩
    have hF := TenF.of ht1.symm hw
    rw [← hNN] at hF
    have hn14 := hF.n1
    obtain ⟨ej, ed, hsz⟩ := sum_fits (keep := keep) hax (by rw [hF.pr]; omega)
    rw [ej, ed] at hzd hsz
    rw [ej] at hzl
    have hdm := dimI_map hax.2.2.2.2 hax.2.1
    have hkd := keepD_map (J := L) (d := dimI L D) keep
    rw [hdm] at hkd
    have hzb : zeroTenB k p q (keepL L keep) ((keepL L keep).map (dimI L D)) = true := by
      unfold zeroTenB
      rw [hrb, ← hkd, show decide (0 ≤ sizeI (keepL L keep) (keepD L D keep)) = true from decide_eq_true (by omega)]; rfl
    have hzx2 : accL k p q (offJ (keepL L keep) ((keepL L keep).map (dimI L D)) L D) (fun j => getL wd X j) (prodL ((keepL L keep).map (dimI L D))).toNat N = zx := by
      rw [hzx]
      unfold pairL
      rw [ej, ed, hw, Int.toNat_natCast, hkd, ← hNN]
      exact acc_congr fun m hm => (sum_term hrb hw hF hm).symm
    have hdin : ∀ n ∈ L, 1 ≤ dimI L D n ∧ dimI L D n ≤ 8 := fun n hn => hax.2.2.2.1 (dimI L D n) (by
      have h := List.mem_map_of_mem (f := dimI L D) hn
      rw [hdm] at h
      exact h)
    have hall : allI L := fun z hz => by have h1 := hax.2.2.1 z hz; unfold inI; omega
    have HX1 := Lib.hid (fun (W : World) (hb : Below w.heap.size w W) (h0 : 0 < W.heap.size) => axes_impl (HA.out.below hb (Nat.le_refl _)) hb.size h0 hax.2.1 hax.1 hax.2.2.2.1 (by rw [hF.pr]; omega))
    rw [axesL_map hax.2.2.2.2] at HX1
    have HSO := Lib.hid (fun (W : World) (B B' K : Nat) (av kv c1 c2 : Value) (ha : RdA B W av (axJ L (dimI L D) (stepI L D))) (hk : Rd B' W kv (ints keep)) (hB : B ≤ W.heap.size) (hB' : B' ≤ W.heap.size) (hK : ∀ (args : Array Value) (w : World), (callFunc K args).run Try.prog w = .ok (.enter K args) w) (hG : ∀ (j : Nat) (V : World), j < N → Below W.heap.size W V → Calls Try.prog K #[.int .i64 j, c1, c2] V (ClosF W V (getL wd X j))) => sum_over2 (F := fun j => getL wd X j) (K := K) (wd := wd) (dimI L D) (stepI L D) hrb hw hax.2.2.2.2 (by have := hax.1; omega) hall hdin (by rw [hdm]; exact hF.pr) (by omega) hkl ha hk hB hB' hK (fun j hj => getL_elem hw hF.lX hF.wX hj) hG)
    rw [hdm, hzb] at HSO
    simp only [if_true] at HSO
    rw [hzx2, ← hkd, ← hzd, ← hzl] at HSO
    have HFN := Lib.hid (fun (W V : World) (j : Nat) (hj : j < N) (hW : Below w.heap.size w W) (hV : Below W.heap.size W V) (h1 : w.heap.size < W.heap.size) (h2 : w.heap.size + 1 < W.heap.size) (hc : (W.cell? ⟨w.heap.size, 0, none⟩ = some (.int .i64 k) ∧ W.cell? ⟨w.heap.size, 1, none⟩ = some (.int .i64 p) ∧ W.cell? ⟨w.heap.size, 2, none⟩ = some (.int .i64 q) ∧ W.cell? ⟨w.heap.size + 1, 0, none⟩ = some (.slice al m1 cl) ∧ W.cell? ⟨w.heap.size + 1, 1, none⟩ = some (.slice ad m2 cd) ∧ W.cell? ⟨w.heap.size + 1, 2, none⟩ = some (.slice ax m3 cx))) => sum_fn (ba := w.heap.size + 1) (br := w.heap.size) (k := k) (p := p) (q := q) hV h2 h1 ⟨⟨hc.2.2.2.1, hc.2.2.2.2.1, hc.2.2.2.2.2⟩, ⟨hc.1, hc.2.1, hc.2.2.1⟩⟩ (HA.out.below hW (Nat.le_refl _)) hW.size hw hw1 hw6 (show j ≤ 4096 by omega) (by
      have h8 := Nat.mul_le_mul_right wd (show j + 1 ≤ N by omega)
      rw [Nat.add_mul, Nat.one_mul] at h8
      rw [hF.lX]; exact h8))
    clear ht1 hax hrb hw hF hsz hdm hkd hzb hzx2 hdin hall hzl hzd hzx hNN ej ed hkl
    go_enter Try.func52, Try.ntmps52
    go_wp2_with fail
    refine HT1.out.mono ?_
    rintro e w1 ⟨rfl, hb⟩
    have RX := Lib.hid (S0.out.step hb).drew
    have RXN := Lib.hid (S0.out.step hb)
    clear hb HT1 S0
    clear r0 r1 r2 a0 a1 a2 s0 s1 s2
    obtain ⟨⟨r0, r1, r2, a0, a1, a2⟩, s0, s1, s2⟩ := HC.out _ _ _ (by simp) (by simp) RX.out
    have HKE := HK
    go_wp2_with fail
    refine wp_region_held_drew (S := (fun W => (W.cell? ⟨w.heap.size, 0, none⟩ = some (.int .i64 k) ∧ W.cell? ⟨w.heap.size, 1, none⟩ = some (.int .i64 p) ∧ W.cell? ⟨w.heap.size, 2, none⟩ = some (.int .i64 q) ∧ W.cell? ⟨w.heap.size + 1, 0, none⟩ = some (.slice al m1 cl) ∧ W.cell? ⟨w.heap.size + 1, 1, none⟩ = some (.slice ad m2 cd) ∧ W.cell? ⟨w.heap.size + 1, 2, none⟩ = some (.slice ax m3 cx)))) (by kernel_rfl) (by (try dsimp only); first | with_reducible exact ⟨r0, r1, r2, a0, a1, a2⟩ | with_reducible exact ⟨p0, p1, p2, q0, q1, q2⟩) (fun hHeld => ?_)
    refine wpAnyH_take (i := 0) (v := ?_) rfl (by kernel_rfl) (by kernel_rfl) (by kernel_rfl) (fun _ _ _ h => h) (Or.inl ⟨by rfl, ?_⟩) (by assumption) ?_
    rotate_left
    · intro w hSw; (try dsimp only at hSw); go_simp <;> with_reducible rfl
    try simp only [Act.put, List.getElem_toArray, List.getElem_cons_zero, List.setIfInBounds_toArray, List.set_cons_zero, List.set_cons_succ]
    refine wpAnyH_take (i := 1) (v := ?_) rfl (by kernel_rfl) (by kernel_rfl) (by kernel_rfl) (fun _ _ _ h => h) (Or.inl ⟨by rfl, ?_⟩) (by assumption) ?_
    rotate_left
    · intro w hSw; (try dsimp only at hSw); go_simp <;> with_reducible rfl
    try simp only [Act.put, List.getElem_toArray, List.getElem_cons_succ, List.getElem_cons_zero, List.setIfInBounds_toArray, List.set_cons_zero, List.set_cons_succ]
    refine wpAnyH_take (i := 3) (v := ?_) rfl (by kernel_rfl) (by kernel_rfl) (by kernel_rfl) (fun _ _ _ h => h) (Or.inl ⟨by rfl, ?_⟩) (by assumption) ?_
    rotate_left
    · intro w hSw; (try dsimp only at hSw); go_simp <;> with_reducible rfl
    try simp only [Act.put, List.getElem_toArray, List.getElem_cons_succ, List.getElem_cons_zero, List.setIfInBounds_toArray, List.set_cons_zero, List.set_cons_succ]
    refine wpAnyH_take (i := 4) (v := ?_) rfl (by kernel_rfl) (by kernel_rfl) (by kernel_rfl) (fun _ _ _ h => h) (Or.inl ⟨by rfl, ?_⟩) (by assumption) ?_
    rotate_left
    · intro w hSw; (try dsimp only at hSw); go_simp <;> with_reducible rfl
    try simp only [Act.put, List.getElem_toArray, List.getElem_cons_succ, List.getElem_cons_zero, List.setIfInBounds_toArray, List.set_cons_zero, List.set_cons_succ]
    refine wpAnyH_ready (rs := [2, 9]) (by kernel_rfl) (by simp) ?_
    refine AllReadyH.cons rfl (fun K hK => ?_) (AllReadyH.cons rfl (fun K hK => ?_) AllReadyH.nil)
    focus
      go_simp
      (go_at_call 90; refine (HX1.out _ RX.out.bel s0).mono ?_; rintro e w3 ⟨vA, rfl, ho, hb⟩; have RA := Lib.hid ho.rd; replace RX := Lib.hid (RX.out.step hb); clear ho hb; clear r0 r1 r2 a0 a1 a2 s0 s1 s2; obtain ⟨⟨r0, r1, r2, a0, a1, a2⟩, s0, s1, s2⟩ := HC.out _ _ _ (by simp) (by simp) RX.out)
      go_wp2_with fail
      refine hK.out _ _ (by (try dsimp only); first | with_reducible exact ⟨r0, r1, r2, a0, a1, a2⟩ | with_reducible exact ⟨p0, p1, p2, q0, q1, q2⟩) (fun hHeld => ?_)
      clear hK K
      try simp only [Act.put, List.getElem_toArray, List.getElem_cons_succ, List.getElem_cons_zero, List.setIfInBounds_toArray, List.set_cons_zero, List.set_cons_succ]
      refine wpAnyH_ready (rs := [5, 9]) (by kernel_rfl) (by simp) ?_
      refine AllReadyH.cons rfl (fun K hK => ?_) (AllReadyH.cons rfl (fun K hK => ?_) AllReadyH.nil)
      focus
        go_simp
        (go_at_call 105; refine (HSO.out _ _ _ _ vA (.slice ak keep.length ck) (.pointer (some ⟨w.heap.size + 1, 0, none⟩)) (.pointer (some ⟨w.heap.size, 0, none⟩)) RA.out (by rw [← hmk]; exact HK.out.below RX.out.bel (Nat.le_refl _)) (by first | exact Nat.le_refl _ | simp) RX.out.bel.size (enters_of Try.func109 (by kernel_rfl) rfl) (fun j V hj hV => HFN.out _ V j hj RX.out.bel hV s1 s2 ⟨r0, r1, r2, a0, a1, a2⟩)).mono ?_; rintro e w5 ⟨u1, u2, u3, rfl, ho, hb⟩; obtain ⟨x1, n1, y1, rfl⟩ := (show Own _ _ _ u1 zl from ho.1 (u1, zl) (by simp)).slice; obtain ⟨x2, n2, y2, rfl⟩ := (show Own _ _ _ u2 zd from ho.1 (u2, zd) (by simp)).slice; obtain ⟨x3, n3, y3, rfl⟩ := (show Own _ _ _ u3 zx from ho.1 (u3, zx) (by simp)).slice; replace RX := Lib.hid (RX.out.new3 hb ho); clear ho hb; clear r0 r1 r2 a0 a1 a2 s0 s1 s2; obtain ⟨⟨r0, r1, r2, a0, a1, a2⟩, s0, s1, s2⟩ := HC.out _ _ _ (by simp) (by simp) RX.out)
        go_wp2_with fail
        refine hK.out _ _ (by (try dsimp only); first | with_reducible exact ⟨r0, r1, r2, a0, a1, a2⟩ | with_reducible exact ⟨p0, p1, p2, q0, q1, q2⟩) (fun hHeld => ?_)
        clear hK K
        try simp only [Act.put, List.getElem_toArray, List.getElem_cons_succ, List.getElem_cons_zero, List.setIfInBounds_toArray, List.set_cons_zero, List.set_cons_succ]
        refine wpAnyH_take (i := 6) (v := ?_) rfl (by kernel_rfl) (by kernel_rfl) (by kernel_rfl) (fun _ _ _ h => h) (Or.inl ⟨by rfl, ?_⟩) (by assumption) ?_
        rotate_left
        · intro w hSw; (try dsimp only at hSw); go_simp <;> with_reducible rfl
        try simp only [Act.put, List.getElem_toArray, List.getElem_cons_succ, List.getElem_cons_zero, List.setIfInBounds_toArray, List.set_cons_zero, List.set_cons_succ]
        refine wpAnyH_take (i := 7) (v := ?_) rfl (by kernel_rfl) (by kernel_rfl) (by kernel_rfl) (fun _ _ _ h => h) (Or.inl ⟨by rfl, ?_⟩) (by assumption) ?_
        rotate_left
        · intro w hSw; (try dsimp only at hSw); go_simp <;> with_reducible rfl
        try simp only [Act.put, List.getElem_toArray, List.getElem_cons_succ, List.getElem_cons_zero, List.setIfInBounds_toArray, List.set_cons_zero, List.set_cons_succ]
        refine wpAnyH_take (i := 8) (v := ?_) rfl (by kernel_rfl) (by kernel_rfl) (by kernel_rfl) (fun _ _ _ h => h) (Or.inl ⟨by rfl, ?_⟩) (by assumption) ?_
        rotate_left
        · intro w hSw; (try dsimp only at hSw); go_simp <;> with_reducible rfl
        try simp only [Act.put, List.getElem_toArray, List.getElem_cons_succ, List.getElem_cons_zero, List.setIfInBounds_toArray, List.set_cons_zero, List.set_cons_succ]
        refine wpAnyH_ready (rs := [9]) (by kernel_rfl) (by simp) ?_
        refine AllReadyH.cons rfl (fun K hK => ?_) AllReadyH.nil
        go_simp
        (have RXP := RX; (first | (have _q := RA; replace RX := Lib.hid (RX.out.box nilV nilV nilV 28); clear _q) | (replace RX := Lib.hid (RXN.out.box nilV nilV nilV 28).drew)); (first | (replace RA := Lib.hid (RA.out.below ((Below.refl _ _).alloc (Nat.le_refl _) (.cells #[nilV, nilV, nilV] 28)) (Nat.le_refl _))) | skip); clear r0 r1 r2 a0 a1 a2 s0 s1 s2; obtain ⟨⟨r0, r1, r2, a0, a1, a2⟩, s0, s1, s2⟩ := HC.out _ _ _ (by simp) (by simp) RX.out)
        refine hK.out _ _ (by (try dsimp only); first | with_reducible exact ⟨r0, r1, r2, a0, a1, a2⟩ | with_reducible exact ⟨p0, p1, p2, q0, q1, q2⟩) (fun hHeld => ?_)
        clear hK K
        try simp only [Act.put, List.getElem_toArray, List.getElem_cons_succ, List.getElem_cons_zero, List.setIfInBounds_toArray, List.set_cons_zero, List.set_cons_succ]
        refine wpAnyH_ready (rs := [10]) (by kernel_rfl) (by simp) ?_
        refine AllReadyH.cons rfl (fun K hK => ?_) AllReadyH.nil
        (obtain ⟨⟨o0, o1, o2⟩, g0, g1, g2⟩ := RX.out.at List.mem_cons_self)
        go_simp
        (clear o0 o1 o2 g0 g1 g2; replace RX := Lib.hid (RX.out.set3 (.slice x1 n1 y1) (.slice x2 n2 y2) (.slice x3 n3 y3)); have RY := Lib.hid (RXP.out.box (.slice x1 n1 y1) (.slice x2 n2 y2) (.slice x3 n3 y3) 28); clear r0 r1 r2 a0 a1 a2 s0 s1 s2; obtain ⟨⟨r0, r1, r2, a0, a1, a2⟩, s0, s1, s2⟩ := HC.out _ _ _ (by simp) (by simp) RX.out; obtain ⟨⟨p0, p1, p2, q0, q1, q2⟩, -⟩ := HC.out _ _ _ (by simp) (by simp) RY.out)
        refine hK.out _ _ (by (try dsimp only); first | with_reducible exact ⟨r0, r1, r2, a0, a1, a2⟩ | with_reducible exact ⟨p0, p1, p2, q0, q1, q2⟩) (fun hHeld => ?_)
        clear hK K
        try simp only [Act.put, List.getElem_toArray, List.getElem_cons_succ, List.getElem_cons_zero, List.setIfInBounds_toArray, List.set_cons_zero, List.set_cons_succ]
        refine wpAnyH_take (i := 11) (v := ?_) rfl (by kernel_rfl) (by kernel_rfl) (by kernel_rfl) (fun _ _ _ h => h) (Or.inl ⟨by rfl, ?_⟩) (by assumption) ?_
        rotate_left
        · intro w hSw; (try dsimp only at hSw); go_simp <;> with_reducible rfl
        try simp only [Act.put, List.getElem_toArray, List.getElem_cons_succ, List.getElem_cons_zero, List.setIfInBounds_toArray, List.set_cons_zero, List.set_cons_succ]
        refine wpAnyH_done (by kernel_rfl) ?_ _
      rotate_left 1
      focus
        go_simp
        (have RXP := RX; (first | (have _q := RA; replace RX := Lib.hid (RX.out.box nilV nilV nilV 28); clear _q) | (replace RX := Lib.hid (RXN.out.box nilV nilV nilV 28).drew)); (first | (replace RA := Lib.hid (RA.out.below ((Below.refl _ _).alloc (Nat.le_refl _) (.cells #[nilV, nilV, nilV] 28)) (Nat.le_refl _))) | skip); clear r0 r1 r2 a0 a1 a2 s0 s1 s2; obtain ⟨⟨r0, r1, r2, a0, a1, a2⟩, s0, s1, s2⟩ := HC.out _ _ _ (by simp) (by simp) RX.out)
        refine hK.out _ _ (by (try dsimp only); first | with_reducible exact ⟨r0, r1, r2, a0, a1, a2⟩ | with_reducible exact ⟨p0, p1, p2, q0, q1, q2⟩) (fun hHeld => ?_)
        clear hK K
        try simp only [Act.put, List.getElem_toArray, List.getElem_cons_succ, List.getElem_cons_zero, List.setIfInBounds_toArray, List.set_cons_zero, List.set_cons_succ]
        refine wpAnyH_ready (rs := [5]) (by kernel_rfl) (by simp) ?_
        refine AllReadyH.cons rfl (fun K hK => ?_) AllReadyH.nil
        go_simp
        (go_at_call 105; refine (HSO.out _ _ _ _ vA (.slice ak keep.length ck) (.pointer (some ⟨w.heap.size + 1, 0, none⟩)) (.pointer (some ⟨w.heap.size, 0, none⟩)) RA.out (by rw [← hmk]; exact HK.out.below RX.out.bel (Nat.le_refl _)) (by first | exact Nat.le_refl _ | simp) RX.out.bel.size (enters_of Try.func109 (by kernel_rfl) rfl) (fun j V hj hV => HFN.out _ V j hj RX.out.bel hV s1 s2 ⟨r0, r1, r2, a0, a1, a2⟩)).mono ?_; rintro e w5 ⟨u1, u2, u3, rfl, ho, hb⟩; obtain ⟨x1, n1, y1, rfl⟩ := (show Own _ _ _ u1 zl from ho.1 (u1, zl) (by simp)).slice; obtain ⟨x2, n2, y2, rfl⟩ := (show Own _ _ _ u2 zd from ho.1 (u2, zd) (by simp)).slice; obtain ⟨x3, n3, y3, rfl⟩ := (show Own _ _ _ u3 zx from ho.1 (u3, zx) (by simp)).slice; replace RX := Lib.hid (RX.out.new3 hb ho); clear ho hb; clear r0 r1 r2 a0 a1 a2 s0 s1 s2; obtain ⟨⟨r0, r1, r2, a0, a1, a2⟩, s0, s1, s2⟩ := HC.out _ _ _ (by simp) (by simp) RX.out)
        go_wp2_with fail
        refine hK.out _ _ (by (try dsimp only); first | with_reducible exact ⟨r0, r1, r2, a0, a1, a2⟩ | with_reducible exact ⟨p0, p1, p2, q0, q1, q2⟩) (fun hHeld => ?_)
        clear hK K
        try simp only [Act.put, List.getElem_toArray, List.getElem_cons_succ, List.getElem_cons_zero, List.setIfInBounds_toArray, List.set_cons_zero, List.set_cons_succ]
        refine wpAnyH_take (i := 6) (v := ?_) rfl (by kernel_rfl) (by kernel_rfl) (by kernel_rfl) (fun _ _ _ h => h) (Or.inl ⟨by rfl, ?_⟩) (by assumption) ?_
        rotate_left
        · intro w hSw; (try dsimp only at hSw); go_simp <;> with_reducible rfl
        try simp only [Act.put, List.getElem_toArray, List.getElem_cons_succ, List.getElem_cons_zero, List.setIfInBounds_toArray, List.set_cons_zero, List.set_cons_succ]
        refine wpAnyH_take (i := 7) (v := ?_) rfl (by kernel_rfl) (by kernel_rfl) (by kernel_rfl) (fun _ _ _ h => h) (Or.inl ⟨by rfl, ?_⟩) (by assumption) ?_
        rotate_left
        · intro w hSw; (try dsimp only at hSw); go_simp <;> with_reducible rfl
        try simp only [Act.put, List.getElem_toArray, List.getElem_cons_succ, List.getElem_cons_zero, List.setIfInBounds_toArray, List.set_cons_zero, List.set_cons_succ]
        refine wpAnyH_take (i := 8) (v := ?_) rfl (by kernel_rfl) (by kernel_rfl) (by kernel_rfl) (fun _ _ _ h => h) (Or.inl ⟨by rfl, ?_⟩) (by assumption) ?_
        rotate_left
        · intro w hSw; (try dsimp only at hSw); go_simp <;> with_reducible rfl
        try simp only [Act.put, List.getElem_toArray, List.getElem_cons_succ, List.getElem_cons_zero, List.setIfInBounds_toArray, List.set_cons_zero, List.set_cons_succ]
        refine wpAnyH_ready (rs := [10]) (by kernel_rfl) (by simp) ?_
        refine AllReadyH.cons rfl (fun K hK => ?_) AllReadyH.nil
        (obtain ⟨⟨o0, o1, o2⟩, g0, g1, g2⟩ := RX.out.at List.mem_cons_self)
        go_simp
        (clear o0 o1 o2 g0 g1 g2; replace RX := Lib.hid (RX.out.set3 (.slice x1 n1 y1) (.slice x2 n2 y2) (.slice x3 n3 y3)); have RY := Lib.hid (RXP.out.box (.slice x1 n1 y1) (.slice x2 n2 y2) (.slice x3 n3 y3) 28); clear r0 r1 r2 a0 a1 a2 s0 s1 s2; obtain ⟨⟨r0, r1, r2, a0, a1, a2⟩, s0, s1, s2⟩ := HC.out _ _ _ (by simp) (by simp) RX.out; obtain ⟨⟨p0, p1, p2, q0, q1, q2⟩, -⟩ := HC.out _ _ _ (by simp) (by simp) RY.out)
        refine hK.out _ _ (by (try dsimp only); first | with_reducible exact ⟨r0, r1, r2, a0, a1, a2⟩ | with_reducible exact ⟨p0, p1, p2, q0, q1, q2⟩) (fun hHeld => ?_)
        clear hK K
        try simp only [Act.put, List.getElem_toArray, List.getElem_cons_succ, List.getElem_cons_zero, List.setIfInBounds_toArray, List.set_cons_zero, List.set_cons_succ]
        refine wpAnyH_take (i := 11) (v := ?_) rfl (by kernel_rfl) (by kernel_rfl) (by kernel_rfl) (fun _ _ _ h => h) (Or.inl ⟨by rfl, ?_⟩) (by assumption) ?_
        rotate_left
        · intro w hSw; (try dsimp only at hSw); go_simp <;> with_reducible rfl
        try simp only [Act.put, List.getElem_toArray, List.getElem_cons_succ, List.getElem_cons_zero, List.setIfInBounds_toArray, List.set_cons_zero, List.set_cons_succ]
        refine wpAnyH_done (by kernel_rfl) ?_ _
      rotate_left 1
    rotate_left 2
    focus
      go_simp
      (have RXP := RX; (first | (have _q := RA; replace RX := Lib.hid (RX.out.box nilV nilV nilV 28); clear _q) | (replace RX := Lib.hid (RXN.out.box nilV nilV nilV 28).drew)); (first | (replace RA := Lib.hid (RA.out.below ((Below.refl _ _).alloc (Nat.le_refl _) (.cells #[nilV, nilV, nilV] 28)) (Nat.le_refl _))) | skip); clear r0 r1 r2 a0 a1 a2 s0 s1 s2; obtain ⟨⟨r0, r1, r2, a0, a1, a2⟩, s0, s1, s2⟩ := HC.out _ _ _ (by simp) (by simp) RX.out)
      refine hK.out _ _ (by (try dsimp only); first | with_reducible exact ⟨r0, r1, r2, a0, a1, a2⟩ | with_reducible exact ⟨p0, p1, p2, q0, q1, q2⟩) (fun hHeld => ?_)
      clear hK K
      try simp only [Act.put, List.getElem_toArray, List.getElem_cons_succ, List.getElem_cons_zero, List.setIfInBounds_toArray, List.set_cons_zero, List.set_cons_succ]
      refine wpAnyH_ready (rs := [2]) (by kernel_rfl) (by simp) ?_
      refine AllReadyH.cons rfl (fun K hK => ?_) AllReadyH.nil
      go_simp
      (go_at_call 90; refine (HX1.out _ RX.out.bel s0).mono ?_; rintro e w3 ⟨vA, rfl, ho, hb⟩; have RA := Lib.hid ho.rd; replace RX := Lib.hid (RX.out.step hb); clear ho hb; clear r0 r1 r2 a0 a1 a2 s0 s1 s2; obtain ⟨⟨r0, r1, r2, a0, a1, a2⟩, s0, s1, s2⟩ := HC.out _ _ _ (by simp) (by simp) RX.out)
      go_wp2_with fail
      refine hK.out _ _ (by (try dsimp only); first | with_reducible exact ⟨r0, r1, r2, a0, a1, a2⟩ | with_reducible exact ⟨p0, p1, p2, q0, q1, q2⟩) (fun hHeld => ?_)
      clear hK K
      try simp only [Act.put, List.getElem_toArray, List.getElem_cons_succ, List.getElem_cons_zero, List.setIfInBounds_toArray, List.set_cons_zero, List.set_cons_succ]
      refine wpAnyH_ready (rs := [5]) (by kernel_rfl) (by simp) ?_
      refine AllReadyH.cons rfl (fun K hK => ?_) AllReadyH.nil
      go_simp
      (go_at_call 105; refine (HSO.out _ _ _ _ vA (.slice ak keep.length ck) (.pointer (some ⟨w.heap.size + 1, 0, none⟩)) (.pointer (some ⟨w.heap.size, 0, none⟩)) RA.out (by rw [← hmk]; exact HK.out.below RX.out.bel (Nat.le_refl _)) (by first | exact Nat.le_refl _ | simp) RX.out.bel.size (enters_of Try.func109 (by kernel_rfl) rfl) (fun j V hj hV => HFN.out _ V j hj RX.out.bel hV s1 s2 ⟨r0, r1, r2, a0, a1, a2⟩)).mono ?_; rintro e w5 ⟨u1, u2, u3, rfl, ho, hb⟩; obtain ⟨x1, n1, y1, rfl⟩ := (show Own _ _ _ u1 zl from ho.1 (u1, zl) (by simp)).slice; obtain ⟨x2, n2, y2, rfl⟩ := (show Own _ _ _ u2 zd from ho.1 (u2, zd) (by simp)).slice; obtain ⟨x3, n3, y3, rfl⟩ := (show Own _ _ _ u3 zx from ho.1 (u3, zx) (by simp)).slice; replace RX := Lib.hid (RX.out.new3 hb ho); clear ho hb; clear r0 r1 r2 a0 a1 a2 s0 s1 s2; obtain ⟨⟨r0, r1, r2, a0, a1, a2⟩, s0, s1, s2⟩ := HC.out _ _ _ (by simp) (by simp) RX.out)
      go_wp2_with fail
      refine hK.out _ _ (by (try dsimp only); first | with_reducible exact ⟨r0, r1, r2, a0, a1, a2⟩ | with_reducible exact ⟨p0, p1, p2, q0, q1, q2⟩) (fun hHeld => ?_)
      clear hK K
      try simp only [Act.put, List.getElem_toArray, List.getElem_cons_succ, List.getElem_cons_zero, List.setIfInBounds_toArray, List.set_cons_zero, List.set_cons_succ]
      refine wpAnyH_take (i := 6) (v := ?_) rfl (by kernel_rfl) (by kernel_rfl) (by kernel_rfl) (fun _ _ _ h => h) (Or.inl ⟨by rfl, ?_⟩) (by assumption) ?_
      rotate_left
      · intro w hSw; (try dsimp only at hSw); go_simp <;> with_reducible rfl
      try simp only [Act.put, List.getElem_toArray, List.getElem_cons_succ, List.getElem_cons_zero, List.setIfInBounds_toArray, List.set_cons_zero, List.set_cons_succ]
      refine wpAnyH_take (i := 7) (v := ?_) rfl (by kernel_rfl) (by kernel_rfl) (by kernel_rfl) (fun _ _ _ h => h) (Or.inl ⟨by rfl, ?_⟩) (by assumption) ?_
      rotate_left
      · intro w hSw; (try dsimp only at hSw); go_simp <;> with_reducible rfl
      try simp only [Act.put, List.getElem_toArray, List.getElem_cons_succ, List.getElem_cons_zero, List.setIfInBounds_toArray, List.set_cons_zero, List.set_cons_succ]
      refine wpAnyH_take (i := 8) (v := ?_) rfl (by kernel_rfl) (by kernel_rfl) (by kernel_rfl) (fun _ _ _ h => h) (Or.inl ⟨by rfl, ?_⟩) (by assumption) ?_
      rotate_left
      · intro w hSw; (try dsimp only at hSw); go_simp <;> with_reducible rfl
      try simp only [Act.put, List.getElem_toArray, List.getElem_cons_succ, List.getElem_cons_zero, List.setIfInBounds_toArray, List.set_cons_zero, List.set_cons_succ]
      refine wpAnyH_ready (rs := [10]) (by kernel_rfl) (by simp) ?_
      refine AllReadyH.cons rfl (fun K hK => ?_) AllReadyH.nil
      (obtain ⟨⟨o0, o1, o2⟩, g0, g1, g2⟩ := RX.out.at List.mem_cons_self)
      go_simp
      (clear o0 o1 o2 g0 g1 g2; replace RX := Lib.hid (RX.out.set3 (.slice x1 n1 y1) (.slice x2 n2 y2) (.slice x3 n3 y3)); have RY := Lib.hid (RXP.out.box (.slice x1 n1 y1) (.slice x2 n2 y2) (.slice x3 n3 y3) 28); clear r0 r1 r2 a0 a1 a2 s0 s1 s2; obtain ⟨⟨r0, r1, r2, a0, a1, a2⟩, s0, s1, s2⟩ := HC.out _ _ _ (by simp) (by simp) RX.out; obtain ⟨⟨p0, p1, p2, q0, q1, q2⟩, -⟩ := HC.out _ _ _ (by simp) (by simp) RY.out)
      refine hK.out _ _ (by (try dsimp only); first | with_reducible exact ⟨r0, r1, r2, a0, a1, a2⟩ | with_reducible exact ⟨p0, p1, p2, q0, q1, q2⟩) (fun hHeld => ?_)
      clear hK K
      try simp only [Act.put, List.getElem_toArray, List.getElem_cons_succ, List.getElem_cons_zero, List.setIfInBounds_toArray, List.set_cons_zero, List.set_cons_succ]
      refine wpAnyH_take (i := 11) (v := ?_) rfl (by kernel_rfl) (by kernel_rfl) (by kernel_rfl) (fun _ _ _ h => h) (Or.inl ⟨by rfl, ?_⟩) (by assumption) ?_
      rotate_left
      · intro w hSw; (try dsimp only at hSw); go_simp <;> with_reducible rfl
      try simp only [Act.put, List.getElem_toArray, List.getElem_cons_succ, List.getElem_cons_zero, List.setIfInBounds_toArray, List.set_cons_zero, List.set_cons_succ]
      refine wpAnyH_done (by kernel_rfl) ?_ _
    rotate_left 1
    · clear r0 r1 r2 a0 a1 a2 s0 s1 s2 p0 p1 p2 q0 q1 q2
      obtain ⟨⟨o0, o1, o2⟩, -⟩ := RY.out.at List.mem_cons_self
      obtain ⟨⟨t0, t1, t2⟩, f0, f1, f2⟩ := RY.out.at (r := w.heap.size + 1 + 1) (a := nilV) (b := nilV) (c := nilV) (by simp)
      go_wp2
      refine bodyPost_ret (v := tenV (.slice x1 n1 y1) (.slice x2 n2 y2) (.slice x3 n3 y3)) (by simp [results, Try.results52, go_sem, t0, t1, t2]) rfl ?_
      have R9 := ((RY.out.subB (bs' := [(w.heap.size + 1 + 1, nilV, nilV, nilV)]) (List.Sublist.cons _ (List.Sublist.cons_cons _ (List.nil_sublist _)))).set3 (.slice x1 n1 y1) (.slice x2 n2 y2) (.slice x3 n3 y3))
      exact ⟨_, _, _, rfl, R9.ownG, R9.bel⟩
    · clear r0 r1 r2 a0 a1 a2 s0 s1 s2 p0 p1 p2 q0 q1 q2
      obtain ⟨⟨o0, o1, o2⟩, -⟩ := RX.out.at List.mem_cons_self
      obtain ⟨⟨t0, t1, t2⟩, f0, f1, f2⟩ := RX.out.at (r := w.heap.size + 1 + 1) (a := nilV) (b := nilV) (c := nilV) (by simp)
      go_wp2
      refine bodyPost_ret (v := tenV (.slice x1 n1 y1) (.slice x2 n2 y2) (.slice x3 n3 y3)) (by simp [results, Try.results52, go_sem, t0, t1, t2]) rfl ?_
      have R9 := ((RX.out.subB (bs' := [(w.heap.size + 1 + 1, nilV, nilV, nilV)]) (List.Sublist.cons _ (List.Sublist.cons_cons _ (List.nil_sublist _)))).set3 (.slice x1 n1 y1) (.slice x2 n2 y2) (.slice x3 n3 y3))
      exact ⟨_, _, _, rfl, R9.ownG, R9.bel⟩
    · clear r0 r1 r2 a0 a1 a2 s0 s1 s2 p0 p1 p2 q0 q1 q2
      obtain ⟨⟨o0, o1, o2⟩, -⟩ := RX.out.at List.mem_cons_self
      obtain ⟨⟨t0, t1, t2⟩, f0, f1, f2⟩ := RX.out.at (r := w.heap.size + 1 + 1) (a := nilV) (b := nilV) (c := nilV) (by simp)
      go_wp2
      refine bodyPost_ret (v := tenV (.slice x1 n1 y1) (.slice x2 n2 y2) (.slice x3 n3 y3)) (by simp [results, Try.results52, go_sem, t0, t1, t2]) rfl ?_
      have R9 := ((RX.out.subB (bs' := [(w.heap.size + 1 + 1, nilV, nilV, nilV)]) (List.Sublist.cons _ (List.Sublist.cons_cons _ (List.nil_sublist _)))).set3 (.slice x1 n1 y1) (.slice x2 n2 y2) (.slice x3 n3 y3))
      exact ⟨_, _, _, rfl, R9.ownG, R9.bel⟩
end Go.Proofs.Ytfdjlahaiogabaa
