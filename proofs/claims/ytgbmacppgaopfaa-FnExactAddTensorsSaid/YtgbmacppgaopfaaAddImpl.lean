
/- (Tensor).alignedTo. -/
import Derived.Test.YtgbmacppgaopfaaPermImpl
import Derived.Test.YtgbmacppgaopfaaElemImpl
import Derived.Test.YtgbmacppgaopfaaPermuted
import Derived.Test.YtgbmacppgaopfaaAddSpec
import Derived.Deep.RegionHeld3
import Derived.Test.YtgbmacppgaopfaaFill
namespace Go.Proofs.Ytgbmacppgaopfaa
set_option maxRecDepth 20000
open Go.RowKit

/-- The tensor has the same labels with the same dimensions. -/
noncomputable def alB (k p q : Int) (L D L' D' X' : List Int) : Bool := permB k p q L' D' X' L && (dimsVia L' D' L == D)
set_option maxHeartbeats 6400000 in
theorem aligned_impl {B B' : Nat} {lv dv xv lu du xu : Value} {k p q : Int} {L D X L' D' X' : List Int} {w : World} (ha : RdT B w lv dv xv L D X) (hb : RdT B' w lu du xu L' D' X') (hB : B ≤ w.heap.size) (hB' : B' ≤ w.heap.size) (hn' : LenT L' D' X') (hl : L.length ≤ 1099511627776) (hd : D.length ≤ 281474976710656) (hJ : allI L') (hI : allI L) :
    Calls Try.prog 143 #[tenV lu du xu, ringV k p q, tenV lv dv xv] w (NewTen2 w (if alB k p q L D L' D' X' = true then L else []) (if alB k p q L D L' D' X' = true then D else []) (if alB k p q L D L' D' X' = true then permDataL k q L' D' X' L else []) (alB k p q L D L' D' X')) := by
  have HA : Hid (RdT w.heap.size w lv dv xv L D X) := Lib.hid ⟨ha.l.mono hB, ha.d.mono hB, ha.x.mono hB⟩
  have HU : Hid (RdT w.heap.size w lu du xu L' D' X') := Lib.hid ⟨hb.l.mono hB', hb.d.mono hB', hb.x.mono hB'⟩
  obtain ⟨al, cl, rfl, -⟩ := ints_form ha.l
  obtain ⟨ad, cd, rfl, -⟩ := ints_form ha.d
  obtain ⟨ax, cx, rfl, -⟩ := ints_form ha.x
  obtain ⟨bl, kl, rfl, -⟩ := ints_form hb.l
  obtain ⟨bd, kd, rfl, -⟩ := ints_form hb.d
  obtain ⟨bx, kx, rfl, -⟩ := ints_form hb.x
  obtain ⟨m1, hm1⟩ : ∃ m, m = L.length := ⟨_, rfl⟩
  obtain ⟨m2, hm2⟩ : ∃ m, m = D.length := ⟨_, rfl⟩
  obtain ⟨m3, hm3⟩ : ∃ m, m = X.length := ⟨_, rfl⟩
  rw [← hm1, ← hm2, ← hm3] at HA ⊢
  obtain ⟨m4, hm4⟩ : ∃ m, m = L'.length := ⟨_, rfl⟩
  obtain ⟨m5, hm5⟩ : ∃ m, m = D'.length := ⟨_, rfl⟩
  obtain ⟨m6, hm6⟩ : ∃ m, m = X'.length := ⟨_, rfl⟩
  rw [← hm4, ← hm5, ← hm6] at HU ⊢
  have R0 : Hid (Rs w ((((w.alloc (.cells #[.slice bl m4 kl, .slice bd m5 kd, .slice bx m6 kx] 49)).alloc (.cells #[.int .i64 k, .int .i64 p, .int .i64 q] 30)).alloc (.cells #[.slice al m1 cl, .slice ad m2 cd, .slice ax m3 cx] 49)).alloc (.cells #[nilV, nilV, nilV] 49)) [(w.heap.size + 1 + 1 + 1, nilV, nilV, nilV), (w.heap.size + 1 + 1, .slice al m1 cl, .slice ad m2 cd, .slice ax m3 cx), (w.heap.size + 1, .int .i64 k, .int .i64 p, .int .i64 q), (w.heap.size, .slice bl m4 kl, .slice bd m5 kd, .slice bx m6 kx)] []) := by
    have h := (((((Rs.start w).box (.slice bl m4 kl) (.slice bd m5 kd) (.slice bx m6 kx) 49).box (.int .i64 k) (.int .i64 p) (.int .i64 q) 30).box (.slice al m1 cl) (.slice ad m2 cd) (.slice ax m3 cx) 49).box (nilV) (nilV) (nilV) 49)
    simp only [World.size_alloc] at h
    exact h
  have HPT := Lib.hid (permute_tensor_impl (k := k) (p := p) (q := q) (HU.out.below R0.out.bel (Nat.le_refl _)) (HA.out.l.below R0.out.bel (Nat.le_refl _)) R0.out.bel.size hn' hl hJ hI)
  obtain ⟨pb, hpb⟩ : ∃ b, b = permB k p q L' D' X' L := ⟨_, rfl⟩
  obtain ⟨fb, hfb⟩ : ∃ b, b = alB k p q L D L' D' X' := ⟨_, rfl⟩
  obtain ⟨eb, heb⟩ : ∃ b, b = (dimsVia L' D' L == D) := ⟨_, rfl⟩
  have HFB : Hid (fb = (pb && eb)) := Lib.hid (by rw [hfb, hpb, heb]; rfl)
  have HEB := Lib.hid heb
  have HD := Lib.hid hd
  have HDV : Hid ((dimsVia L' D' L).length ≤ 281474976710656) := Lib.hid (by simp [dimsVia]; omega)
  rw [← hpb] at HPT
  rw [← hfb]
  obtain ⟨pl, hpl⟩ : ∃ l, l = (if pb = true then L else []) := ⟨_, rfl⟩
  obtain ⟨pd, hpd⟩ : ∃ l, l = (if pb = true then dimsVia L' D' L else []) := ⟨_, rfl⟩
  obtain ⟨px, hpx⟩ : ∃ l, l = (if pb = true then permDataL k q L' D' X' L else []) := ⟨_, rfl⟩
  rw [← hpl, ← hpd, ← hpx] at HPT
  have HPY : Hid (pb = true → pl = L ∧ pd = dimsVia L' D' L ∧ px = permDataL k q L' D' X' L) := Lib.hid (fun h => by subst h; exact ⟨hpl, hpd, hpx⟩)
  clear hpl hpd hpx
  obtain ⟨zl, hzl⟩ : ∃ l, l = (if fb = true then L else []) := ⟨_, rfl⟩
  obtain ⟨zd, hzd⟩ : ∃ l, l = (if fb = true then D else []) := ⟨_, rfl⟩
  obtain ⟨zx, hzx⟩ : ∃ l, l = (if fb = true then permDataL k q L' D' X' L else []) := ⟨_, rfl⟩
  have HNO : Hid (fb = false → zl = [] ∧ zd = [] ∧ zx = []) := Lib.hid (fun h => by subst h; exact ⟨hzl, hzd, hzx⟩)
  have HYES : Hid (fb = true → zl = L ∧ zd = D ∧ zx = permDataL k q L' D' X' L) := Lib.hid (fun h => by subst h; exact ⟨hzl, hzd, hzx⟩)
  rw [← hzl, ← hzd, ← hzx]
  clear hzl hzd hzx
  clear ha hb hB hB' hn' hl hd hJ hm1 hm2 hm3 hm4 hm5 hm6 hpb hfb heb
  obtain ⟨⟨t0, t1, t2⟩, -⟩ := R0.out.at (r := w.heap.size) (a := .slice bl m4 kl) (b := .slice bd m5 kd) (c := .slice bx m6 kx) (by simp)
  obtain ⟨⟨r0, r1, r2⟩, -⟩ := R0.out.at (r := w.heap.size + 1) (a := .int .i64 k) (b := .int .i64 p) (c := .int .i64 q) (by simp)
  obtain ⟨⟨a0, a1, a2⟩, -⟩ := R0.out.at (r := w.heap.size + 1 + 1) (a := .slice al m1 cl) (b := .slice ad m2 cd) (c := .slice ax m3 cx) (by simp)
  obtain ⟨-, tf0, tf1, tf2⟩ := R0.out.at (r := w.heap.size) (a := .slice bl m4 kl) (b := .slice bd m5 kd) (c := .slice bx m6 kx) (by simp)
  go_enter Try.func143, Try.ntmps143
  go_wp2_with fail
  refine HPT.out.mono ?_
  clear r0 r1 r2 t0 t1 t2 a0 a1 a2 tf0 tf1 tf2 HPT
  rintro e w1 ⟨l', d', x', rfl, ho, hb⟩
  obtain ⟨a1, c1, rfl, -⟩ := ints_form ho.rows.1.rd
  obtain ⟨a2, c2, rfl, -⟩ := ints_form ho.rows.2.1.rd
  obtain ⟨a3, c3, rfl, -⟩ := ints_form ho.rows.2.2.rd
  obtain ⟨n1, hn1⟩ : ∃ m, m = pl.length := ⟨_, rfl⟩
  obtain ⟨n2, hn2⟩ : ∃ m, m = pd.length := ⟨_, rfl⟩
  obtain ⟨n3, hn3⟩ : ∃ m, m = px.length := ⟨_, rfl⟩
  rw [← hn1, ← hn2, ← hn3] at ho ⊢
  have R1 : Hid (Rs w w1 [(w.heap.size, .slice bl m4 kl, .slice bd m5 kd, .slice bx m6 kx), (w.heap.size + 1 + 1 + 1, nilV, nilV, nilV), (w.heap.size + 1 + 1, .slice al m1 cl, .slice ad m2 cd, .slice ax m3 cx), (w.heap.size + 1, .int .i64 k, .int .i64 p, .int .i64 q)] [(.slice a1 n1 c1, pl), (.slice a2 n2 c2, pd), (.slice a3 n3 c3, px)]) := Lib.hid ((R0.out.new3 hb ho).permB (List.perm_append_comm (l₁ := [_, _, _]) (l₂ := [_])))
  obtain ⟨⟨t0, t1, t2⟩, tf0, tf1, tf2⟩ := R1.out.at (r := w.heap.size) (a := .slice bl m4 kl) (b := .slice bd m5 kd) (c := .slice bx m6 kx) (by simp)
  have R2 := Lib.hid (R1.out.set3 (.slice a1 n1 c1) (.slice a2 n2 c2) (.slice a3 n3 c3))
  obtain ⟨⟨s0, s1, s2⟩, -⟩ := R2.out.at (r := w.heap.size) (a := .slice a1 n1 c1) (b := .slice a2 n2 c2) (c := .slice a3 n3 c3) (by simp)
  obtain ⟨⟨o0, o1, o2⟩, f0, f1, f2⟩ := R2.out.at (r := w.heap.size + 1 + 1 + 1) (a := nilV) (b := nilV) (c := nilV) (by simp)
  obtain ⟨⟨a0, a1', a2'⟩, -⟩ := R2.out.at (r := w.heap.size + 1 + 1) (a := .slice al m1 cl) (b := .slice ad m2 cd) (c := .slice ax m3 cx) (by simp)
  clear ho hb hn1 hn2 hn3
  cases pb with
  | false =>
    obtain rfl : fb = false := HFB.out
    obtain ⟨rfl, rfl, rfl⟩ := HNO.out (by simp)
    go_wp2
    refine bodyPost_ret (v := .tuple #[tenV nilV nilV nilV, .bool false]) (by simp [results, Try.results143, go_sem, o0, o1, o2]) rfl ?_
    exact NewTen2.nils (((R2.out.bel.setCell (by simp; omega) _).setCell (by simp; omega) _).setCell (by simp; omega) _)
  | true =>
    have HPZ := Lib.hid (HPY.out rfl)
    have HEQ := Lib.hid (equal_any (R2.out.rd (v := .slice a2 n2 c2) (xs := pd) (by simp)) (HA.out.d.below R2.out.bel (Nat.le_refl _)) (by rw [HPZ.out.2.1]; exact HDV.out) HD.out)
    rw [show (pd == D) = eb from by rw [HPZ.out.2.1, HEB.out]] at HEQ
    go_wp2_with fail
    refine HEQ.out.mono ?_
    clear HEQ s0 s1 s2 o0 o1 o2 f0 f1 f2 a0 a1' a2' t0 t1 t2 tf0 tf1 tf2
    rintro e w2 ⟨rfl, hb⟩
    have R3 := Lib.hid (R2.out.step hb)
    clear hb
    obtain ⟨⟨s0, s1, s2⟩, -⟩ := R3.out.at (r := w.heap.size) (a := .slice a1 n1 c1) (b := .slice a2 n2 c2) (c := .slice a3 n3 c3) (by simp)
    obtain ⟨⟨o0, o1, o2⟩, f0, f1, f2⟩ := R3.out.at (r := w.heap.size + 1 + 1 + 1) (a := nilV) (b := nilV) (c := nilV) (by simp)
    cases eb with
    | false =>
      obtain rfl : fb = false := HFB.out
      obtain ⟨rfl, rfl, rfl⟩ := HNO.out (by simp)
      go_wp2
      refine bodyPost_ret (v := .tuple #[tenV nilV nilV nilV, .bool false]) (by simp [results, Try.results143, go_sem, o0, o1, o2]) rfl ?_
      exact NewTen2.nils (((R3.out.bel.setCell (by simp; omega) _).setCell (by simp; omega) _).setCell (by simp; omega) _)
    | true =>
      obtain rfl : fb = true := HFB.out
      have HY3 := Lib.hid (HYES.out (by simp))
      have HDD : Hid (pd = D) := Lib.hid (by rw [HPZ.out.2.1]; exact eq_of_beq HEB.out.symm)
      go_wp2
      refine bodyPost_ret (v := .tuple #[tenV (.slice a1 n1 c1) (.slice a2 n2 c2) (.slice a3 n3 c3), .bool true]) (by simp [results, Try.results143, go_sem, o0, o1, o2]) rfl ?_
      have h2 := R3.out.swapB.set3 (.slice a1 n1 c1) (.slice a2 n2 c2) (.slice a3 n3 c3)
      rw [HDD.out, show pl = zl from HPZ.out.1.trans HY3.out.1.symm, show px = zx from HPZ.out.2.2.trans HY3.out.2.2.symm] at h2
      rw [HY3.out.2.1]
      exact ⟨_, _, _, rfl, h2.ownG, h2.bel⟩
end Go.Proofs.Ytgbmacppgaopfaa
namespace Go.Proofs.Ytgbmacppgaopfaa
set_option maxRecDepth 20000
open Go.RowKit

set_option maxHeartbeats 6400000 in
theorem comb_plus {B bc ba br bb : Nat} {lv dv xv lu du xu : Value} {k p q : Int} {L D X L' D' X' : List Int} {wd N j : Nat} {w : World} (hc : bc < w.heap.size ∧ ba < w.heap.size ∧ br < w.heap.size ∧ bb < w.heap.size) (hcells : (w.cell? ⟨bc, 0, none⟩ = some (.func (.func 109) #[ringV k p q] #[]) ∧ w.cell? ⟨ba, 0, none⟩ = some lv ∧ w.cell? ⟨ba, 1, none⟩ = some dv ∧ w.cell? ⟨ba, 2, none⟩ = some xv ∧ w.cell? ⟨br, 0, none⟩ = some (.int .i64 k) ∧ w.cell? ⟨br, 1, none⟩ = some (.int .i64 p) ∧ w.cell? ⟨br, 2, none⟩ = some (.int .i64 q) ∧ w.cell? ⟨bb, 0, none⟩ = some lu ∧ w.cell? ⟨bb, 1, none⟩ = some du ∧ w.cell? ⟨bb, 2, none⟩ = some xu)) (ha : RdT B w lv dv xv L D X) (hu : RdT B w lu du xu L' D' X') (hB : B ≤ w.heap.size) (hr : ringB k p q = true) (hw : widthI k q = (wd : Int)) (hw1 : 1 ≤ wd) (hw2 : wd ≤ 6) (hN : N ≤ 4096) (hX : X.length = N * wd) (hY : X'.length = N * wd) (wX : Within (topI k p q) X) (wY : Within (topI k p q) X') (hj : j < N) :
    Calls Try.prog 145 #[.int .i64 j, .pointer (some ⟨bc, 0, none⟩), .pointer (some ⟨ba, 0, none⟩), .pointer (some ⟨br, 0, none⟩), .pointer (some ⟨bb, 0, none⟩)] w (NewRow w (joinF k p wd X X' false j)) := by
  have hjj := Nat.mul_le_mul_right wd (show j + 1 ≤ N by omega)
  rw [Nat.add_mul, Nat.one_mul] at hjj
  have HX := Lib.hid (getL_elem hw hX wX hj)
  have HY := Lib.hid (getL_elem hw hY wY hj)
  have HR := Lib.hid hr
  have HBB := Lib.hid hB
  have HE1 := Lib.hid (fun (W : World) (hb : Below w.heap.size w W) => elem_rd (k := k) (p := p) (q := q) wd j (ha.below hb hB) (Nat.le_trans hB hb.size) hw hw1 hw2 (by omega) (by rw [hX]; exact hjj))
  have HE2 := Lib.hid (fun (W : World) (hb : Below w.heap.size w W) => elem_rd (k := k) (p := p) (q := q) wd j (hu.below hb hB) (Nat.le_trans hB hb.size) hw hw1 hw2 (by omega) (by rw [hY]; exact hjj))
  have HC : Hid (∀ W, Below w.heap.size w W → (W.cell? ⟨bc, 0, none⟩ = some (.func (.func 109) #[ringV k p q] #[]) ∧ W.cell? ⟨ba, 0, none⟩ = some lv ∧ W.cell? ⟨ba, 1, none⟩ = some dv ∧ W.cell? ⟨ba, 2, none⟩ = some xv ∧ W.cell? ⟨br, 0, none⟩ = some (.int .i64 k) ∧ W.cell? ⟨br, 1, none⟩ = some (.int .i64 p) ∧ W.cell? ⟨br, 2, none⟩ = some (.int .i64 q) ∧ W.cell? ⟨bb, 0, none⟩ = some lu ∧ W.cell? ⟨bb, 1, none⟩ = some du ∧ W.cell? ⟨bb, 2, none⟩ = some xu)) := Lib.hid (fun W hb => by
    obtain ⟨l1, l2, l3, l4⟩ := hc
    obtain ⟨c0, a0, a1, a2, r0, r1, r2, b0, b1, b2⟩ := hcells
    exact ⟨(hb.cell (p := ⟨bc, 0, none⟩) l1).trans c0, (hb.cell (p := ⟨ba, 0, none⟩) l2).trans a0, (hb.cell (p := ⟨ba, 1, none⟩) l2).trans a1, (hb.cell (p := ⟨ba, 2, none⟩) l2).trans a2, (hb.cell (p := ⟨br, 0, none⟩) l3).trans r0, (hb.cell (p := ⟨br, 1, none⟩) l3).trans r1, (hb.cell (p := ⟨br, 2, none⟩) l3).trans r2, (hb.cell (p := ⟨bb, 0, none⟩) l4).trans b0, (hb.cell (p := ⟨bb, 1, none⟩) l4).trans b1, (hb.cell (p := ⟨bb, 2, none⟩) l4).trans b2⟩)
  have HRES : Hid (joinF k p wd X X' false j = plusL k p (getL wd X j) (getL wd X' j)) := Lib.hid (by unfold joinF; simp)
  rw [HRES.out]
  obtain ⟨x, hx⟩ : ∃ x, x = getL wd X j := ⟨_, rfl⟩
  obtain ⟨y, hy⟩ : ∃ y, y = getL wd X' j := ⟨_, rfl⟩
  rw [← hx] at HX HE1 ⊢
  rw [← hy] at HY HE2 ⊢
  clear hc hcells ha hu hB hr hw hw1 hw2 hN hX hY wX wY hj hjj hx hy HRES
  have HB1 := Lib.hid ((Below.refl w.heap.size w).drew)
  obtain ⟨c0, a0, a1, a2, r0, r1, r2, b0, b1, b2⟩ := HC.out _ HB1.out
  have TK1 : True := trivial
  have TK2 : True := trivial
  go_enter Try.func145, Try.ntmps145
  go_wp2
  go_region_held3 (fun W => (W.cell? ⟨bc, 0, none⟩ = some (.func (.func 109) #[ringV k p q] #[]) ∧ W.cell? ⟨ba, 0, none⟩ = some lv ∧ W.cell? ⟨ba, 1, none⟩ = some dv ∧ W.cell? ⟨ba, 2, none⟩ = some xv ∧ W.cell? ⟨br, 0, none⟩ = some (.int .i64 k) ∧ W.cell? ⟨br, 1, none⟩ = some (.int .i64 p) ∧ W.cell? ⟨br, 2, none⟩ = some (.int .i64 q) ∧ W.cell? ⟨bb, 0, none⟩ = some lu ∧ W.cell? ⟨bb, 1, none⟩ = some du ∧ W.cell? ⟨bb, 2, none⟩ = some xu)) (exact ⟨c0, a0, a1, a2, r0, r1, r2, b0, b1, b2⟩) (first
    | (go_at_call 133; have _t := TK1; refine (HE1.out _ HB1.out).mono ?_; rintro e w2 ⟨v1, rfl, hv, hb⟩; have RX := Lib.hid hv; have HB2 := Lib.hid (HB1.out.trans (hb.mono HB1.out.size)); clear hv hb TK1 _t c0 a0 a1 a2 r0 r1 r2 b0 b1 b2; obtain ⟨c0, a0, a1, a2, r0, r1, r2, b0, b1, b2⟩ := HC.out _ HB2.out)
    | (go_at_call 133; have _t := TK2; refine (HE2.out _ HB2.out).mono ?_; rintro e w3 ⟨v2, rfl, hv, hb⟩; have RY := Lib.hid hv; have RX3 := Lib.hid (RX.out.below hb (Nat.le_trans HBB.out HB2.out.size)); have HB3 := Lib.hid (HB2.out.trans (hb.mono HB2.out.size)); clear hv hb TK2 _t c0 a0 a1 a2 r0 r1 r2 b0 b1 b2; obtain ⟨c0, a0, a1, a2, r0, r1, r2, b0, b1, b2⟩ := HC.out _ HB3.out)
    | (go_at_call 109; refine (plus_impl HR.out RX3.out RY.out (Nat.le_trans HBB.out HB3.out.size) HX.out HY.out).mono ?_; rintro e w4 ⟨v3, rfl, ho, hb⟩; have HO := Lib.hid ((OwnG.one ho).wide HB3.out.size (Nat.le_refl _) (Nat.le_refl _)).row; have HB4 := Lib.hid (HB3.out.trans (hb.mono HB3.out.size)); clear ho hb c0 a0 a1 a2 r0 r1 r2 b0 b1 b2; obtain ⟨c0, a0, a1, a2, r0, r1, r2, b0, b1, b2⟩ := HC.out _ HB4.out))
  clear c0 a0 a1 a2 r0 r1 r2 b0 b1 b2
  go_wp2
  go_ret
  exact ⟨_, rfl, HO.out, HB4.out⟩

set_option maxHeartbeats 6400000 in
theorem comb_times {B bc ba br bb : Nat} {lv dv xv lu du xu : Value} {k p q : Int} {L D X L' D' X' : List Int} {wd N j : Nat} {w : World} (hc : bc < w.heap.size ∧ ba < w.heap.size ∧ br < w.heap.size ∧ bb < w.heap.size) (hcells : (w.cell? ⟨bc, 0, none⟩ = some (.func (.func 77) #[ringV k p q] #[]) ∧ w.cell? ⟨ba, 0, none⟩ = some lv ∧ w.cell? ⟨ba, 1, none⟩ = some dv ∧ w.cell? ⟨ba, 2, none⟩ = some xv ∧ w.cell? ⟨br, 0, none⟩ = some (.int .i64 k) ∧ w.cell? ⟨br, 1, none⟩ = some (.int .i64 p) ∧ w.cell? ⟨br, 2, none⟩ = some (.int .i64 q) ∧ w.cell? ⟨bb, 0, none⟩ = some lu ∧ w.cell? ⟨bb, 1, none⟩ = some du ∧ w.cell? ⟨bb, 2, none⟩ = some xu)) (ha : RdT B w lv dv xv L D X) (hu : RdT B w lu du xu L' D' X') (hB : B ≤ w.heap.size) (hr : ringB k p q = true) (hw : widthI k q = (wd : Int)) (hw1 : 1 ≤ wd) (hw2 : wd ≤ 6) (hN : N ≤ 4096) (hX : X.length = N * wd) (hY : X'.length = N * wd) (wX : Within (topI k p q) X) (wY : Within (topI k p q) X') (hj : j < N) :
    Calls Try.prog 145 #[.int .i64 j, .pointer (some ⟨bc, 0, none⟩), .pointer (some ⟨ba, 0, none⟩), .pointer (some ⟨br, 0, none⟩), .pointer (some ⟨bb, 0, none⟩)] w (NewRow w (joinF k p wd X X' true j)) := by
  have hjj := Nat.mul_le_mul_right wd (show j + 1 ≤ N by omega)
  rw [Nat.add_mul, Nat.one_mul] at hjj
  have HX := Lib.hid (getL_elem hw hX wX hj)
  have HY := Lib.hid (getL_elem hw hY wY hj)
  have HR := Lib.hid hr
  have HBB := Lib.hid hB
  have HE1 := Lib.hid (fun (W : World) (hb : Below w.heap.size w W) => elem_rd (k := k) (p := p) (q := q) wd j (ha.below hb hB) (Nat.le_trans hB hb.size) hw hw1 hw2 (by omega) (by rw [hX]; exact hjj))
  have HE2 := Lib.hid (fun (W : World) (hb : Below w.heap.size w W) => elem_rd (k := k) (p := p) (q := q) wd j (hu.below hb hB) (Nat.le_trans hB hb.size) hw hw1 hw2 (by omega) (by rw [hY]; exact hjj))
  have HC : Hid (∀ W, Below w.heap.size w W → (W.cell? ⟨bc, 0, none⟩ = some (.func (.func 77) #[ringV k p q] #[]) ∧ W.cell? ⟨ba, 0, none⟩ = some lv ∧ W.cell? ⟨ba, 1, none⟩ = some dv ∧ W.cell? ⟨ba, 2, none⟩ = some xv ∧ W.cell? ⟨br, 0, none⟩ = some (.int .i64 k) ∧ W.cell? ⟨br, 1, none⟩ = some (.int .i64 p) ∧ W.cell? ⟨br, 2, none⟩ = some (.int .i64 q) ∧ W.cell? ⟨bb, 0, none⟩ = some lu ∧ W.cell? ⟨bb, 1, none⟩ = some du ∧ W.cell? ⟨bb, 2, none⟩ = some xu)) := Lib.hid (fun W hb => by
    obtain ⟨l1, l2, l3, l4⟩ := hc
    obtain ⟨c0, a0, a1, a2, r0, r1, r2, b0, b1, b2⟩ := hcells
    exact ⟨(hb.cell (p := ⟨bc, 0, none⟩) l1).trans c0, (hb.cell (p := ⟨ba, 0, none⟩) l2).trans a0, (hb.cell (p := ⟨ba, 1, none⟩) l2).trans a1, (hb.cell (p := ⟨ba, 2, none⟩) l2).trans a2, (hb.cell (p := ⟨br, 0, none⟩) l3).trans r0, (hb.cell (p := ⟨br, 1, none⟩) l3).trans r1, (hb.cell (p := ⟨br, 2, none⟩) l3).trans r2, (hb.cell (p := ⟨bb, 0, none⟩) l4).trans b0, (hb.cell (p := ⟨bb, 1, none⟩) l4).trans b1, (hb.cell (p := ⟨bb, 2, none⟩) l4).trans b2⟩)
  have HRES : Hid (joinF k p wd X X' true j = timesL k p (getL wd X j) (getL wd X' j)) := Lib.hid (by unfold joinF; simp)
  rw [HRES.out]
  obtain ⟨x, hx⟩ : ∃ x, x = getL wd X j := ⟨_, rfl⟩
  obtain ⟨y, hy⟩ : ∃ y, y = getL wd X' j := ⟨_, rfl⟩
  rw [← hx] at HX HE1 ⊢
  rw [← hy] at HY HE2 ⊢
  clear hc hcells ha hu hB hr hw hw1 hw2 hN hX hY wX wY hj hjj hx hy HRES
  have HB1 := Lib.hid ((Below.refl w.heap.size w).drew)
  obtain ⟨c0, a0, a1, a2, r0, r1, r2, b0, b1, b2⟩ := HC.out _ HB1.out
  have TK1 : True := trivial
  have TK2 : True := trivial
  go_enter Try.func145, Try.ntmps145
  go_wp2
  go_region_held3 (fun W => (W.cell? ⟨bc, 0, none⟩ = some (.func (.func 77) #[ringV k p q] #[]) ∧ W.cell? ⟨ba, 0, none⟩ = some lv ∧ W.cell? ⟨ba, 1, none⟩ = some dv ∧ W.cell? ⟨ba, 2, none⟩ = some xv ∧ W.cell? ⟨br, 0, none⟩ = some (.int .i64 k) ∧ W.cell? ⟨br, 1, none⟩ = some (.int .i64 p) ∧ W.cell? ⟨br, 2, none⟩ = some (.int .i64 q) ∧ W.cell? ⟨bb, 0, none⟩ = some lu ∧ W.cell? ⟨bb, 1, none⟩ = some du ∧ W.cell? ⟨bb, 2, none⟩ = some xu)) (exact ⟨c0, a0, a1, a2, r0, r1, r2, b0, b1, b2⟩) (first
    | (go_at_call 133; have _t := TK1; refine (HE1.out _ HB1.out).mono ?_; rintro e w2 ⟨v1, rfl, hv, hb⟩; have RX := Lib.hid hv; have HB2 := Lib.hid (HB1.out.trans (hb.mono HB1.out.size)); clear hv hb TK1 _t c0 a0 a1 a2 r0 r1 r2 b0 b1 b2; obtain ⟨c0, a0, a1, a2, r0, r1, r2, b0, b1, b2⟩ := HC.out _ HB2.out)
    | (go_at_call 133; have _t := TK2; refine (HE2.out _ HB2.out).mono ?_; rintro e w3 ⟨v2, rfl, hv, hb⟩; have RY := Lib.hid hv; have RX3 := Lib.hid (RX.out.below hb (Nat.le_trans HBB.out HB2.out.size)); have HB3 := Lib.hid (HB2.out.trans (hb.mono HB2.out.size)); clear hv hb TK2 _t c0 a0 a1 a2 r0 r1 r2 b0 b1 b2; obtain ⟨c0, a0, a1, a2, r0, r1, r2, b0, b1, b2⟩ := HC.out _ HB3.out)
    | (go_at_call 77; refine (times_impl HR.out RX3.out RY.out (Nat.le_trans HBB.out HB3.out.size) HX.out HY.out).mono ?_; rintro e w4 ⟨v3, rfl, ho, hb⟩; have HO := Lib.hid ((OwnG.one ho).wide HB3.out.size (Nat.le_refl _) (Nat.le_refl _)).row; have HB4 := Lib.hid (HB3.out.trans (hb.mono HB3.out.size)); clear ho hb c0 a0 a1 a2 r0 r1 r2 b0 b1 b2; obtain ⟨c0, a0, a1, a2, r0, r1, r2, b0, b1, b2⟩ := HC.out _ HB4.out))
  clear c0 a0 a1 a2 r0 r1 r2 b0 b1 b2
  go_wp2
  go_ret
  exact ⟨_, rfl, HO.out, HB4.out⟩

end Go.Proofs.Ytgbmacppgaopfaa
namespace Go.Proofs.Ytgbmacppgaopfaa
set_option maxRecDepth 20000
open Go.RowKit

theorem set_comm (L M : List Int) : setV L M = setV M L := by
  by_cases h : SetV L M
  · rw [setV_true.2 h, setV_true.2 (set_sym h)]
  · rw [setV_false h, setV_false (fun e => h (set_sym e))]
theorem beq_dec (a b : List Int) : (a == b) = decide (a = b) := by
  by_cases h : a = b <;> simp [h]
theorem fit_split (k p q : Int) (L D X L' D' X' : List Int) : fitB k p q L D X L' D' X' = (tensorB k p q L D X && (permB k p q L' D' X' L && (dimsVia L' D' L == D))) := by
  unfold fitB bothB permB
  rw [beq_dec, set_comm L L', Bool.and_assoc]
/-- The two boxes of two rows read as before. -/
theorem perm_size {k p q : Int} {L D X L' D' X' : List Int} (h : fitB k p q L D X L' D' X' = true) : (permDataL k q L' D' X' L).length = (prodL D).toNat * (widthI k q).toNat ∧ X.length = (prodL D).toNat * (widthI k q).toNat := by
  obtain ⟨hp, h2, -, -⟩ := fit_facts h
  exact ⟨h2.trans hp.lX, hp.lX⟩

set_option maxHeartbeats 6400000 in
theorem combine_plus {B B' : Nat} {lv dv xv lu du xu : Value} {k p q : Int} {L D X L' D' X' : List Int} {w : World} (ha : RdT B w lv dv xv L D X) (hb : RdT B' w lu du xu L' D' X') (hB : B ≤ w.heap.size) (hB' : B' ≤ w.heap.size) (hn : LenT L D X) (hn' : LenT L' D' X') (hI : allI L) (hJ : allI L') :
    Calls Try.prog 108 #[ringV k p q, tenV lv dv xv, tenV lu du xu, .func (.func 109) #[ringV k p q] #[]] w (NewTen2 w (if fitB k p q L D X L' D' X' = true then L else []) (if fitB k p q L D X L' D' X' = true then D else []) (if fitB k p q L D X L' D' X' = true then joinTenL k p q L D X L' D' X' false else []) (fitB k p q L D X L' D' X')) := by
  have hmf : ∀ (fn : Fn) (first cap : Array Value) (w : World), (Instr.makeFunc fn first cap).run Try.prog w = .ok (.func fn first cap) w := fun _ _ _ _ => rfl
  have HA : Hid (RdT w.heap.size w lv dv xv L D X) := Lib.hid ⟨ha.l.mono hB, ha.d.mono hB, ha.x.mono hB⟩
  have HU : Hid (RdT w.heap.size w lu du xu L' D' X') := Lib.hid ⟨hb.l.mono hB', hb.d.mono hB', hb.x.mono hB'⟩
  have HN := Lib.hid hn
  have HI := Lib.hid hI
  obtain ⟨al, cl, rfl, -⟩ := ints_form ha.l
  obtain ⟨ad, cd, rfl, -⟩ := ints_form ha.d
  obtain ⟨ax, cx, rfl, -⟩ := ints_form ha.x
  obtain ⟨bl, kl, rfl, -⟩ := ints_form hb.l
  obtain ⟨bd, kd, rfl, -⟩ := ints_form hb.d
  obtain ⟨bx, kx, rfl, -⟩ := ints_form hb.x
  obtain ⟨m1, hm1⟩ : ∃ m, m = L.length := ⟨_, rfl⟩
  obtain ⟨m2, hm2⟩ : ∃ m, m = D.length := ⟨_, rfl⟩
  obtain ⟨m3, hm3⟩ : ∃ m, m = X.length := ⟨_, rfl⟩
  obtain ⟨m4, hm4⟩ : ∃ m, m = L'.length := ⟨_, rfl⟩
  obtain ⟨m5, hm5⟩ : ∃ m, m = D'.length := ⟨_, rfl⟩
  obtain ⟨m6, hm6⟩ : ∃ m, m = X'.length := ⟨_, rfl⟩
  rw [← hm1, ← hm2, ← hm3] at HA ⊢
  rw [← hm4, ← hm5, ← hm6] at HU ⊢
  have hL12 : tensorB k p q L D X = true → L.length ≤ 12 ∧ D.length ≤ 12 := fun h => by
    have h1 := (tensorB_prod h).1
    exact ⟨h1.1, by rw [← h1.2.1]; exact h1.1⟩
  have R0 : Hid (Rs w (((((w.alloc (.cells #[.int .i64 k, .int .i64 p, .int .i64 q] 30)).alloc (.cells #[.slice al m1 cl, .slice ad m2 cd, .slice ax m3 cx] 49)).alloc (.cells #[.slice bl m4 kl, .slice bd m5 kd, .slice bx m6 kx] 49)).alloc (.cells #[.func (.func 109) #[ringV k p q] #[]] 95)).alloc (.cells #[nilV, nilV, nilV] 49)) [(w.heap.size + 1 + 1 + 1 + 1, nilV, nilV, nilV), (w.heap.size + 1 + 1, .slice bl m4 kl, .slice bd m5 kd, .slice bx m6 kx), (w.heap.size + 1, .slice al m1 cl, .slice ad m2 cd, .slice ax m3 cx), (w.heap.size, .int .i64 k, .int .i64 p, .int .i64 q)] []) := by
    have h := (((((Rs.start w).box (.int .i64 k) (.int .i64 p) (.int .i64 q) 30).box (.slice al m1 cl) (.slice ad m2 cd) (.slice ax m3 cx) 49).box (.slice bl m4 kl) (.slice bd m5 kd) (.slice bx m6 kx) 49).alloc (.cells #[.func (.func 109) #[ringV k p q] #[]] 95)).box nilV nilV nilV 49
    simp only [World.size_alloc] at h
    exact h
  have FC0 : Hid ((((((w.alloc (.cells #[.int .i64 k, .int .i64 p, .int .i64 q] 30)).alloc (.cells #[.slice al m1 cl, .slice ad m2 cd, .slice ax m3 cx] 49)).alloc (.cells #[.slice bl m4 kl, .slice bd m5 kd, .slice bx m6 kx] 49)).alloc (.cells #[.func (.func 109) #[ringV k p q] #[]] 95)).alloc (.cells #[nilV, nilV, nilV] 49)).cell? ⟨w.heap.size + 1 + 1 + 1, 0, none⟩ = some (.func (.func 109) #[ringV k p q] #[])) := by
    show _ = _
    rw [World.cell?_alloc_past _ _ _ (by simp), World.cell?_alloc_at _ _ _ _ (by simp)]; rfl
  have OKA := Lib.hid (tensor_ok_impl (k := k) (p := p) (n := q) (HA.out.below R0.out.bel (Nat.le_refl _)) R0.out.bel.size hn hI)
  have HPT := Lib.hid (fun (ht : tensorB k p q L D X = true) (w1 : World) (hb : Below w.heap.size w w1) => aligned_impl (k := k) (p := p) (q := q) (HA.out.below hb (Nat.le_refl _)) (HU.out.below hb (Nat.le_refl _)) hb.size hb.size hn' (by have := (hL12 ht).1; omega) (by have := (hL12 ht).2; omega) hJ (ax_ints (tensorB_axes ht).1))
  obtain ⟨ta, hta⟩ : ∃ b, b = tensorB k p q L D X := ⟨_, rfl⟩
  obtain ⟨pb, hpb⟩ : ∃ b, b = alB k p q L D L' D' X' := ⟨_, rfl⟩
  obtain ⟨fb, hfb⟩ : ∃ b, b = fitB k p q L D X L' D' X' := ⟨_, rfl⟩
  have HFB : Hid (fb = (ta && pb)) := Lib.hid (by rw [hfb, hta, hpb]; exact fit_split _ _ _ _ _ _ _ _ _)
  have HTA := Lib.hid hta
  have HPB := Lib.hid hpb
  have HFF := Lib.hid hfb
  have HL12 := Lib.hid hL12
  have HZ := Lib.hid (And.intro hm1 hm2)
  rw [← hta] at OKA
  rw [← hpb] at HPT
  rw [← hfb]
  obtain ⟨zl, hzl⟩ : ∃ l, l = (if fb = true then L else []) := ⟨_, rfl⟩
  obtain ⟨zd, hzd⟩ : ∃ l, l = (if fb = true then D else []) := ⟨_, rfl⟩
  obtain ⟨zx, hzx⟩ : ∃ l, l = (if fb = true then joinTenL k p q L D X L' D' X' false else []) := ⟨_, rfl⟩
  have HNO : Hid (fb = false → zl = [] ∧ zd = [] ∧ zx = []) := Lib.hid (fun h => by subst h; exact ⟨hzl, hzd, hzx⟩)
  have HYES : Hid (fb = true → zl = L ∧ zd = D ∧ zx = joinTenL k p q L D X L' D' X' false) := Lib.hid (fun h => by subst h; exact ⟨hzl, hzd, hzx⟩)
  rw [← hzl, ← hzd, ← hzx]
  clear hzl hzd hzx
  clear ha hb hB hB' hn hn' hI hJ hm1 hm2 hm3 hm4 hm5 hm6 hta hpb hfb hL12
  obtain ⟨⟨r0, r1, r2⟩, rf0, rf1, rf2⟩ := R0.out.at (r := w.heap.size) (a := .int .i64 k) (b := .int .i64 p) (c := .int .i64 q) (by simp)
  obtain ⟨⟨a0, a1, a2⟩, af0, af1, af2⟩ := R0.out.at (r := w.heap.size + 1) (a := .slice al m1 cl) (b := .slice ad m2 cd) (c := .slice ax m3 cx) (by simp)
  obtain ⟨⟨b0, b1, b2⟩, bf0, bf1, bf2⟩ := R0.out.at (r := w.heap.size + 1 + 1) (a := .slice bl m4 kl) (b := .slice bd m5 kd) (c := .slice bx m6 kx) (by simp)
  cases ta with
  | false =>
    obtain rfl : fb = false := HFB.out
    obtain ⟨rfl, rfl, rfl⟩ := HNO.out rfl
    go_enter Try.func108, Try.ntmps108
    go_wp2_with fail
    refine OKA.out.mono ?_
    clear r0 r1 r2 rf0 rf1 rf2 a0 a1 a2 af0 af1 af2 b0 b1 b2 bf0 bf1 bf2
    rintro e w1 ⟨rfl, hb⟩
    have R1 := Lib.hid (R0.out.step hb)
    clear hb
    obtain ⟨⟨t0, t1, t2⟩, f0, f1, f2⟩ := R1.out.at (r := w.heap.size + 1 + 1 + 1 + 1) (a := nilV) (b := nilV) (c := nilV) (by simp)
    go_wp2
    refine bodyPost_ret (v := .tuple #[tenV nilV nilV nilV, .bool false]) (by simp [results, Try.results108, go_sem, t0, t1, t2]) rfl ?_
    exact NewTen2.nils (((R1.out.bel.setCell (by simp; omega) _).setCell (by simp; omega) _).setCell (by simp; omega) _)
  | true =>
    have hL := (HL12.out HTA.out.symm).1
    have hD := (HL12.out HTA.out.symm).2
    have HLD := Lib.hid (And.intro hL hD)
    clear hL hD
    go_enter Try.func108, Try.ntmps108
    go_wp2_with fail
    refine OKA.out.mono ?_
    clear r0 r1 r2 rf0 rf1 rf2 a0 a1 a2 af0 af1 af2 b0 b1 b2 bf0 bf1 bf2
    rintro e w1 ⟨rfl, hb⟩
    have R1 := Lib.hid (R0.out.step hb)
    have FC1 := Lib.hid ((hb.cell (p := ⟨w.heap.size + 1 + 1 + 1, 0, none⟩) (by simp)).trans FC0.out)
    clear hb
    obtain ⟨⟨r0, r1, r2⟩, rf0, rf1, rf2⟩ := R1.out.at (r := w.heap.size) (a := .int .i64 k) (b := .int .i64 p) (c := .int .i64 q) (by simp)
    obtain ⟨⟨a0, a1, a2⟩, af0, af1, af2⟩ := R1.out.at (r := w.heap.size + 1) (a := .slice al m1 cl) (b := .slice ad m2 cd) (c := .slice ax m3 cx) (by simp)
    obtain ⟨⟨b0, b1, b2⟩, bf0, bf1, bf2⟩ := R1.out.at (r := w.heap.size + 1 + 1) (a := .slice bl m4 kl) (b := .slice bd m5 kd) (c := .slice bx m6 kx) (by simp)
    go_wp2_with fail
    refine (HPT.out HTA.out.symm _ R1.out.bel).mono ?_
    clear r0 r1 r2 rf0 rf1 rf2 a0 a1 a2 af0 af1 af2 b0 b1 b2 bf0 bf1 bf2
    obtain ⟨yl, hyl⟩ : ∃ l, l = (if pb = true then L else []) := ⟨_, rfl⟩
    obtain ⟨yd, hyd⟩ : ∃ l, l = (if pb = true then D else []) := ⟨_, rfl⟩
    obtain ⟨yx, hyx⟩ : ∃ l, l = (if pb = true then permDataL k q L' D' X' L else []) := ⟨_, rfl⟩
    rw [← hyl, ← hyd, ← hyx]
    rintro e w2 ⟨v1, v2, v3, rfl, ho, hb⟩
    have R2 := Lib.hid (R1.out.new3 hb ho)
    have lt3 := R1.out.bx (w.heap.size + 1 + 1 + 1 + 1, nilV, nilV, nilV) (by simp)
    have FC2 := Lib.hid ((hb.cell (p := ⟨w.heap.size + 1 + 1 + 1, 0, none⟩) (by have := lt3.lt; simp at this; show w.heap.size + 1 + 1 + 1 < _; omega)).trans FC1.out)
    obtain ⟨g1, j1, rfl, -⟩ := ints_form ho.rows.1.rd
    obtain ⟨g2, j2, rfl, -⟩ := ints_form ho.rows.2.1.rd
    obtain ⟨g3, j3, rfl, -⟩ := ints_form ho.rows.2.2.rd
    have HYD := Lib.hid hyd
    have HYX := Lib.hid hyx
    have HYL := Lib.hid hyl
    clear ho hb lt3 hyl hyd hyx FC1
    obtain ⟨o1, ho1⟩ : ∃ m, m = yl.length := ⟨_, rfl⟩
    obtain ⟨o2, ho2⟩ : ∃ m, m = yd.length := ⟨_, rfl⟩
    obtain ⟨o3, ho3⟩ : ∃ m, m = yx.length := ⟨_, rfl⟩
    rw [← ho1, ← ho2, ← ho3] at R2 ⊢
    have HOL := Lib.hid (And.intro ho1 (And.intro ho2 ho3))
    clear ho1 ho2 ho3
    have R3 := Lib.hid (R2.out.swapB.set3 (.slice g1 o1 j1) (.slice g2 o2 j2) (.slice g3 o3 j3))
    have FC3 : Hid ((((w2.setCell ⟨w.heap.size + 1 + 1, 0, none⟩ (.slice g1 o1 j1)).setCell ⟨w.heap.size + 1 + 1, 1, none⟩ (.slice g2 o2 j2)).setCell ⟨w.heap.size + 1 + 1, 2, none⟩ (.slice g3 o3 j3)).cell? ⟨w.heap.size + 1 + 1 + 1, 0, none⟩ = some (.func (.func 109) #[ringV k p q] #[])) := by
      show _ = _
      exact set3_far (by omega) FC2.out
    clear FC2
    obtain ⟨⟨b0, b1, b2⟩, bf0, bf1, bf2⟩ := R2.out.at (r := w.heap.size + 1 + 1) (a := .slice bl m4 kl) (b := .slice bd m5 kd) (c := .slice bx m6 kx) (by simp)
    cases pb with
    | false =>
      obtain rfl : fb = false := HFB.out
      obtain ⟨rfl, rfl, rfl⟩ := HNO.out rfl
      obtain ⟨⟨t0, t1, t2⟩, f0, f1, f2⟩ := R3.out.at (r := w.heap.size + 1 + 1 + 1 + 1) (a := nilV) (b := nilV) (c := nilV) (by simp)
      go_wp2
      refine bodyPost_ret (v := .tuple #[tenV nilV nilV nilV, .bool false]) (by simp [results, Try.results108, go_sem, t0, t1, t2]) rfl ?_
      exact NewTen2.nils (((R3.out.bel.setCell (by simp; omega) _).setCell (by simp; omega) _).setCell (by simp; omega) _)
    | true =>
      have EYD : Hid (yd = D) := Lib.hid (by rw [HYD.out]; simp)
      have EYX : Hid (yx = permDataL k q L' D' X' L) := Lib.hid (by rw [HYX.out]; simp)
      have EYL : Hid (yl = L) := Lib.hid (by rw [HYL.out]; simp)
      obtain ⟨⟨a0, a1, a2⟩, af0, af1, af2⟩ := R3.out.at (r := w.heap.size + 1) (a := .slice al m1 cl) (b := .slice ad m2 cd) (c := .slice ax m3 cx) (by simp)
      obtain ⟨w4, hw4⟩ : ∃ W, W = ((w2.setCell ⟨w.heap.size + 1 + 1, 0, none⟩ (.slice g1 o1 j1)).setCell ⟨w.heap.size + 1 + 1, 1, none⟩ (.slice g2 o2 j2)).setCell ⟨w.heap.size + 1 + 1, 2, none⟩ (.slice g3 o3 j3) := ⟨_, rfl⟩
      have HW4 := Lib.hid hw4
      have R4 := R3
      have FC4 := FC3
      rw [← hw4] at R4 FC4
      clear hw4 R3 FC3
      obtain rfl : fb = true := HFB.out
      have HY3 := Lib.hid (HYES.out (by simp))
      have HFT := HFF.out.symm
      obtain ⟨hp, -, hwx, hwy⟩ := fit_facts HFT
      obtain ⟨hy1, hx1⟩ := perm_size HFT
      rw [← EYX.out] at hwy hy1
      have hjt : joinTenL k p q L D X L' D' X' false = gatherL (joinF k p (widthI k q).toNat X yx false) (prodL D).toNat := by rw [EYX.out]; rfl
      obtain ⟨wd, hwd⟩ : ∃ n, n = (widthI k q).toNat := ⟨_, rfl⟩
      rw [← hwd] at hp hy1 hx1 hjt
      have hs := tensorB_prod HTA.out.symm
      have hrb := (tensorB_inv HTA.out.symm).1
      have HCM := Lib.hid (fun (j : Nat) (W : World) (hj : j < (prodL D).toNat) (hb : Below w4.heap.size w4 W) => comb_plus (B := w4.heap.size) (bc := w.heap.size + 1 + 1 + 1) (ba := w.heap.size + 1) (br := w.heap.size) (bb := w.heap.size + 1 + 1) (lv := .slice al m1 cl) (dv := .slice ad m2 cd) (xv := .slice ax m3 cx) (lu := .slice g1 o1 j1) (du := .slice g2 o2 j2) (xu := .slice g3 o3 j3) (k := k) (p := p) (q := q) (L := L) (D := D) (X := X) (L' := yl) (D' := yd) (X' := yx) (wd := wd) (N := (prodL D).toNat) (j := j) (w := W)
        (by have := (R4.out.bx (w.heap.size + 1 + 1 + 1 + 1, nilV, nilV, nilV) (by simp)).lt; have := hb.size; simp at *; omega)
        (by
          have hl := (R4.out.bx (w.heap.size + 1 + 1 + 1 + 1, nilV, nilV, nilV) (by simp)).lt
          have hc : ∀ {b i : Nat} {v : Value}, b < w4.heap.size → w4.cell? ⟨b, i, none⟩ = some v → W.cell? ⟨b, i, none⟩ = some v := fun hlt hc => (hb.cell (p := ⟨_, _, none⟩) hlt).trans hc
          have hA := R4.out.bx (w.heap.size + 1, .slice al m1 cl, .slice ad m2 cd, .slice ax m3 cx) (by simp)
          have hR := R4.out.bx (w.heap.size, .int .i64 k, .int .i64 p, .int .i64 q) (by simp)
          have hU := R4.out.bx (w.heap.size + 1 + 1, .slice g1 o1 j1, .slice g2 o2 j2, .slice g3 o3 j3) (by simp)
          exact ⟨hc (by simp at hl; omega) FC4.out, hc hA.lt hA.c0, hc hA.lt hA.c1, hc hA.lt hA.c2, hc hR.lt hR.c0, hc hR.lt hR.c1, hc hR.lt hR.c2, hc hU.lt hU.c0, hc hU.lt hU.c1, hc hU.lt hU.c2⟩)
        (have h := HA.out.below (R4.out.bel.trans (hb.mono R4.out.bel.size)) (Nat.le_refl _); ⟨h.l.mono R4.out.bel.size, h.d.mono R4.out.bel.size, h.x.mono R4.out.bel.size⟩)
        ⟨(R4.out.rd (v := .slice g1 o1 j1) (xs := yl) (by simp)).below hb (Nat.le_refl _), (R4.out.rd (v := .slice g2 o2 j2) (xs := yd) (by simp)).below hb (Nat.le_refl _), (R4.out.rd (v := .slice g3 o3 j3) (xs := yx) (by simp)).below hb (Nat.le_refl _)⟩
        hb.size hrb hp.hw hp.w6.1 hp.w6.2 hs.2.2 hx1 hy1 hwx hwy hj)
      have HFL := Lib.hid (filled_impl4 (k := k) (p := p) (q := q) (K := 145) (wt := wd) (F := joinF k p wd X yx false) (HA.out.below R4.out.bel (Nat.le_refl _)) R4.out.bel.size HN.out HI.out HTA.out.symm hp.w6.1 hp.w6.2 (fun _ _ => by kernel_rfl) (fun i hi => by have h1 := (joinF_elem hrb hp.hw hx1 hy1 hwx hwy false hi).1; have h2 := hp.hw; omega) (fun j W hj hb => HCM.out j W hj hb))
      have HJT := Lib.hid hjt
      clear HCM hp hwx hwy hy1 hx1 hjt hwd hs hrb HFT
      go_wp2_with fail
      rw [← HW4.out]
      refine HFL.out.mono ?_
      clear a0 a1 a2 af0 af1 af2 b0 b1 b2 bf0 bf1 bf2
      rintro e w5 ⟨l', d', x', rfl, ho, hb⟩
      have R5 := Lib.hid (R4.out.step hb)
      obtain ⟨a1, c1, rfl, -⟩ := ints_form ho.rows.1.rd
      obtain ⟨a2, c2, rfl, -⟩ := ints_form ho.rows.2.1.rd
      obtain ⟨a3, c3, rfl, -⟩ := ints_form ho.rows.2.2.rd
      have lt1 := (R4.out.bx (w.heap.size + 1 + 1 + 1 + 1, nilV, nilV, nilV) (by simp)).lt
      have hz1 := R4.out.bel.size
      obtain ⟨res, hres⟩ : ∃ l, l = gatherL (joinF k p wd X yx false) (prodL D).toNat := ⟨_, rfl⟩
      have HZR : Hid (zl = L ∧ zd = D ∧ zx = res) := Lib.hid ⟨HY3.out.1, HY3.out.2.1, by rw [HY3.out.2.2, HJT.out, hres]⟩
      rw [← hres] at ho ⊢
      obtain ⟨q1, hq1⟩ : ∃ m, m = L.length := ⟨_, rfl⟩
      obtain ⟨q2, hq2⟩ : ∃ m, m = D.length := ⟨_, rfl⟩
      obtain ⟨q3, hq3⟩ : ∃ m, m = res.length := ⟨_, rfl⟩
      rw [← hq1, ← hq2, ← hq3] at ho ⊢
      have HO := Lib.hid (ho.set3 lt1 (.slice a1 q1 c1) (.slice a2 q2 c2) (.slice a3 q3 c3))
      clear hb ho hq1 hq2 hq3 hres HFL
      obtain ⟨⟨t0, t1, t2⟩, f0, f1, f2⟩ := R5.out.at (r := w.heap.size + 1 + 1 + 1 + 1) (a := nilV) (b := nilV) (c := nilV) (by simp)
      go_wp2
      refine bodyPost_ret (v := .tuple #[tenV (.slice a1 q1 c1) (.slice a2 q2 c2) (.slice a3 q3 c3), .bool true]) (by simp [results, Try.results108, go_sem, t0, t1, t2]) rfl ?_
      rw [← HZR.out.1, ← HZR.out.2.1, ← HZR.out.2.2] at HO
      refine ⟨_, _, _, rfl, ?_, ((R5.out.bel.setCell (by simp; omega) _).setCell (by simp; omega) _).setCell (by simp; omega) _⟩
      exact HO.out.wide hz1 (by simp) (by simp)

set_option maxHeartbeats 3200000 in
theorem add_tensors_impl {B B' : Nat} {lv dv xv lu du xu : Value} {k p q : Int} {L D X L' D' X' : List Int} {w : World} (ha : RdT B w lv dv xv L D X) (hb : RdT B' w lu du xu L' D' X') (hB : B ≤ w.heap.size) (hB' : B' ≤ w.heap.size) (hn : LenT L D X) (hn' : LenT L' D' X') (hI : allI L) (hJ : allI L') :
    Calls Try.prog 55 #[ringV k p q, tenV lv dv xv, tenV lu du xu] w (NewTen2 w (if fitB k p q L D X L' D' X' = true then L else []) (if fitB k p q L D X L' D' X' = true then D else []) (if fitB k p q L D X L' D' X' = true then joinTenL k p q L D X L' D' X' false else []) (fitB k p q L D X L' D' X')) := by
  have hmf : ∀ (fn : Fn) (first cap : Array Value) (w : World), (Instr.makeFunc fn first cap).run Try.prog w = .ok (.func fn first cap) w := fun _ _ _ _ => rfl
  obtain ⟨al, cl, rfl, -⟩ := ints_form ha.l
  obtain ⟨ad, cd, rfl, -⟩ := ints_form ha.d
  obtain ⟨ax, cx, rfl, -⟩ := ints_form ha.x
  obtain ⟨bl, kl, rfl, -⟩ := ints_form hb.l
  obtain ⟨bd, kd, rfl, -⟩ := ints_form hb.d
  obtain ⟨bx, kx, rfl, -⟩ := ints_form hb.x
  have R0 : Hid (Rs w ((((w.alloc (.cells #[.int .i64 k, .int .i64 p, .int .i64 q] 30)).alloc (.cells #[.slice al L.length cl, .slice ad D.length cd, .slice ax X.length cx] 49)).alloc (.cells #[.slice bl L'.length kl, .slice bd D'.length kd, .slice bx X'.length kx] 49)).alloc (.cells #[nilV, nilV, nilV] 49)) [(w.heap.size + 1 + 1 + 1, nilV, nilV, nilV), (w.heap.size + 1 + 1, .slice bl L'.length kl, .slice bd D'.length kd, .slice bx X'.length kx), (w.heap.size + 1, .slice al L.length cl, .slice ad D.length cd, .slice ax X.length cx), (w.heap.size, .int .i64 k, .int .i64 p, .int .i64 q)] []) := by
    have h := ((((Rs.start w).box (.int .i64 k) (.int .i64 p) (.int .i64 q) 30).box (.slice al L.length cl) (.slice ad D.length cd) (.slice ax X.length cx) 49).box (.slice bl L'.length kl) (.slice bd D'.length kd) (.slice bx X'.length kx) 49).box nilV nilV nilV 49
    simp only [World.size_alloc] at h
    exact h
  have HC := Lib.hid (combine_plus (k := k) (p := p) (q := q) (ha.below R0.out.bel hB) (hb.below R0.out.bel hB') (Nat.le_trans hB R0.out.bel.size) (Nat.le_trans hB' R0.out.bel.size) hn hn' hI hJ)
  obtain ⟨yl, hyl⟩ : ∃ l, l = (if fitB k p q L D X L' D' X' = true then L else []) := ⟨_, rfl⟩
  obtain ⟨yd, hyd⟩ : ∃ l, l = (if fitB k p q L D X L' D' X' = true then D else []) := ⟨_, rfl⟩
  obtain ⟨yx, hyx⟩ : ∃ l, l = (if fitB k p q L D X L' D' X' = true then joinTenL k p q L D X L' D' X' false else []) := ⟨_, rfl⟩
  obtain ⟨fb, hfb⟩ : ∃ b, b = fitB k p q L D X L' D' X' := ⟨_, rfl⟩
  rw [← hyl, ← hyd, ← hyx, ← hfb] at HC ⊢
  obtain ⟨m1, hm1⟩ : ∃ m, m = L.length := ⟨_, rfl⟩
  obtain ⟨m2, hm2⟩ : ∃ m, m = D.length := ⟨_, rfl⟩
  obtain ⟨m3, hm3⟩ : ∃ m, m = X.length := ⟨_, rfl⟩
  obtain ⟨m4, hm4⟩ : ∃ m, m = L'.length := ⟨_, rfl⟩
  obtain ⟨m5, hm5⟩ : ∃ m, m = D'.length := ⟨_, rfl⟩
  obtain ⟨m6, hm6⟩ : ∃ m, m = X'.length := ⟨_, rfl⟩
  rw [← hm1, ← hm2, ← hm3, ← hm4, ← hm5, ← hm6] at HC R0 ⊢
  clear ha hb hB hB' hn hn' hI hJ hyl hyd hyx hfb hm1 hm2 hm3 hm4 hm5 hm6
  obtain ⟨⟨r0, r1, r2⟩, rf0, rf1, rf2⟩ := R0.out.at (r := w.heap.size) (a := .int .i64 k) (b := .int .i64 p) (c := .int .i64 q) (by simp)
  obtain ⟨⟨a0, a1, a2⟩, af0, af1, af2⟩ := R0.out.at (r := w.heap.size + 1) (a := .slice al m1 cl) (b := .slice ad m2 cd) (c := .slice ax m3 cx) (by simp)
  obtain ⟨⟨b0, b1, b2⟩, bf0, bf1, bf2⟩ := R0.out.at (r := w.heap.size + 1 + 1) (a := .slice bl m4 kl) (b := .slice bd m5 kd) (c := .slice bx m6 kx) (by simp)
  go_enter Try.func55, Try.ntmps55
  go_wp2_with fail
  refine HC.out.mono ?_
  clear r0 r1 r2 rf0 rf1 rf2 a0 a1 a2 af0 af1 af2 b0 b1 b2 bf0 bf1 bf2
  rintro e w1 ⟨v1, v2, v3, rfl, ho, hb⟩
  have R1 := Lib.hid (R0.out.step hb)
  obtain ⟨a1, c1, rfl, -⟩ := ints_form ho.rows.1.rd
  obtain ⟨a2, c2, rfl, -⟩ := ints_form ho.rows.2.1.rd
  obtain ⟨a3, c3, rfl, -⟩ := ints_form ho.rows.2.2.rd
  have lt1 := (R0.out.bx (w.heap.size + 1 + 1 + 1, nilV, nilV, nilV) (by simp)).lt
  have hz1 := R0.out.bel.size
  obtain ⟨q1, hq1⟩ : ∃ m, m = yl.length := ⟨_, rfl⟩
  obtain ⟨q2, hq2⟩ : ∃ m, m = yd.length := ⟨_, rfl⟩
  obtain ⟨q3, hq3⟩ : ∃ m, m = yx.length := ⟨_, rfl⟩
  rw [← hq1, ← hq2, ← hq3] at ho ⊢
  have HO := Lib.hid (ho.set3 lt1 (.slice a1 q1 c1) (.slice a2 q2 c2) (.slice a3 q3 c3))
  clear hb ho hq1 hq2 hq3 HC
  obtain ⟨⟨t0, t1, t2⟩, f0, f1, f2⟩ := R1.out.at (r := w.heap.size + 1 + 1 + 1) (a := nilV) (b := nilV) (c := nilV) (by simp)
  go_wp2
  refine bodyPost_ret (v := .tuple #[tenV (.slice a1 q1 c1) (.slice a2 q2 c2) (.slice a3 q3 c3), .bool fb]) (by simp [results, Try.results55, go_sem, t0, t1, t2]) rfl ?_
  exact ⟨_, _, _, rfl, HO.out.wide hz1 (by simp) (by simp), ((R1.out.bel.setCell (by simp; omega) _).setCell (by simp; omega) _).setCell (by simp; omega) _⟩

set_option maxHeartbeats 6400000 in
theorem combine_times {B B' : Nat} {lv dv xv lu du xu : Value} {k p q : Int} {L D X L' D' X' : List Int} {w : World} (ha : RdT B w lv dv xv L D X) (hb : RdT B' w lu du xu L' D' X') (hB : B ≤ w.heap.size) (hB' : B' ≤ w.heap.size) (hn : LenT L D X) (hn' : LenT L' D' X') (hI : allI L) (hJ : allI L') :
    Calls Try.prog 108 #[ringV k p q, tenV lv dv xv, tenV lu du xu, .func (.func 77) #[ringV k p q] #[]] w (NewTen2 w (if fitB k p q L D X L' D' X' = true then L else []) (if fitB k p q L D X L' D' X' = true then D else []) (if fitB k p q L D X L' D' X' = true then joinTenL k p q L D X L' D' X' true else []) (fitB k p q L D X L' D' X')) := by
  have hmf : ∀ (fn : Fn) (first cap : Array Value) (w : World), (Instr.makeFunc fn first cap).run Try.prog w = .ok (.func fn first cap) w := fun _ _ _ _ => rfl
  have HA : Hid (RdT w.heap.size w lv dv xv L D X) := Lib.hid ⟨ha.l.mono hB, ha.d.mono hB, ha.x.mono hB⟩
  have HU : Hid (RdT w.heap.size w lu du xu L' D' X') := Lib.hid ⟨hb.l.mono hB', hb.d.mono hB', hb.x.mono hB'⟩
  have HN := Lib.hid hn
  have HI := Lib.hid hI
  obtain ⟨al, cl, rfl, -⟩ := ints_form ha.l
  obtain ⟨ad, cd, rfl, -⟩ := ints_form ha.d
  obtain ⟨ax, cx, rfl, -⟩ := ints_form ha.x
  obtain ⟨bl, kl, rfl, -⟩ := ints_form hb.l
  obtain ⟨bd, kd, rfl, -⟩ := ints_form hb.d
  obtain ⟨bx, kx, rfl, -⟩ := ints_form hb.x
  obtain ⟨m1, hm1⟩ : ∃ m, m = L.length := ⟨_, rfl⟩
  obtain ⟨m2, hm2⟩ : ∃ m, m = D.length := ⟨_, rfl⟩
  obtain ⟨m3, hm3⟩ : ∃ m, m = X.length := ⟨_, rfl⟩
  obtain ⟨m4, hm4⟩ : ∃ m, m = L'.length := ⟨_, rfl⟩
  obtain ⟨m5, hm5⟩ : ∃ m, m = D'.length := ⟨_, rfl⟩
  obtain ⟨m6, hm6⟩ : ∃ m, m = X'.length := ⟨_, rfl⟩
  rw [← hm1, ← hm2, ← hm3] at HA ⊢
  rw [← hm4, ← hm5, ← hm6] at HU ⊢
  have hL12 : tensorB k p q L D X = true → L.length ≤ 12 ∧ D.length ≤ 12 := fun h => by
    have h1 := (tensorB_prod h).1
    exact ⟨h1.1, by rw [← h1.2.1]; exact h1.1⟩
  have R0 : Hid (Rs w (((((w.alloc (.cells #[.int .i64 k, .int .i64 p, .int .i64 q] 30)).alloc (.cells #[.slice al m1 cl, .slice ad m2 cd, .slice ax m3 cx] 49)).alloc (.cells #[.slice bl m4 kl, .slice bd m5 kd, .slice bx m6 kx] 49)).alloc (.cells #[.func (.func 77) #[ringV k p q] #[]] 95)).alloc (.cells #[nilV, nilV, nilV] 49)) [(w.heap.size + 1 + 1 + 1 + 1, nilV, nilV, nilV), (w.heap.size + 1 + 1, .slice bl m4 kl, .slice bd m5 kd, .slice bx m6 kx), (w.heap.size + 1, .slice al m1 cl, .slice ad m2 cd, .slice ax m3 cx), (w.heap.size, .int .i64 k, .int .i64 p, .int .i64 q)] []) := by
    have h := (((((Rs.start w).box (.int .i64 k) (.int .i64 p) (.int .i64 q) 30).box (.slice al m1 cl) (.slice ad m2 cd) (.slice ax m3 cx) 49).box (.slice bl m4 kl) (.slice bd m5 kd) (.slice bx m6 kx) 49).alloc (.cells #[.func (.func 77) #[ringV k p q] #[]] 95)).box nilV nilV nilV 49
    simp only [World.size_alloc] at h
    exact h
  have FC0 : Hid ((((((w.alloc (.cells #[.int .i64 k, .int .i64 p, .int .i64 q] 30)).alloc (.cells #[.slice al m1 cl, .slice ad m2 cd, .slice ax m3 cx] 49)).alloc (.cells #[.slice bl m4 kl, .slice bd m5 kd, .slice bx m6 kx] 49)).alloc (.cells #[.func (.func 77) #[ringV k p q] #[]] 95)).alloc (.cells #[nilV, nilV, nilV] 49)).cell? ⟨w.heap.size + 1 + 1 + 1, 0, none⟩ = some (.func (.func 77) #[ringV k p q] #[])) := by
    show _ = _
    rw [World.cell?_alloc_past _ _ _ (by simp), World.cell?_alloc_at _ _ _ _ (by simp)]; rfl
  have OKA := Lib.hid (tensor_ok_impl (k := k) (p := p) (n := q) (HA.out.below R0.out.bel (Nat.le_refl _)) R0.out.bel.size hn hI)
  have HPT := Lib.hid (fun (ht : tensorB k p q L D X = true) (w1 : World) (hb : Below w.heap.size w w1) => aligned_impl (k := k) (p := p) (q := q) (HA.out.below hb (Nat.le_refl _)) (HU.out.below hb (Nat.le_refl _)) hb.size hb.size hn' (by have := (hL12 ht).1; omega) (by have := (hL12 ht).2; omega) hJ (ax_ints (tensorB_axes ht).1))
  obtain ⟨ta, hta⟩ : ∃ b, b = tensorB k p q L D X := ⟨_, rfl⟩
  obtain ⟨pb, hpb⟩ : ∃ b, b = alB k p q L D L' D' X' := ⟨_, rfl⟩
  obtain ⟨fb, hfb⟩ : ∃ b, b = fitB k p q L D X L' D' X' := ⟨_, rfl⟩
  have HFB : Hid (fb = (ta && pb)) := Lib.hid (by rw [hfb, hta, hpb]; exact fit_split _ _ _ _ _ _ _ _ _)
  have HTA := Lib.hid hta
  have HPB := Lib.hid hpb
  have HFF := Lib.hid hfb
  have HL12 := Lib.hid hL12
  have HZ := Lib.hid (And.intro hm1 hm2)
  rw [← hta] at OKA
  rw [← hpb] at HPT
  rw [← hfb]
  obtain ⟨zl, hzl⟩ : ∃ l, l = (if fb = true then L else []) := ⟨_, rfl⟩
  obtain ⟨zd, hzd⟩ : ∃ l, l = (if fb = true then D else []) := ⟨_, rfl⟩
  obtain ⟨zx, hzx⟩ : ∃ l, l = (if fb = true then joinTenL k p q L D X L' D' X' true else []) := ⟨_, rfl⟩
  have HNO : Hid (fb = false → zl = [] ∧ zd = [] ∧ zx = []) := Lib.hid (fun h => by subst h; exact ⟨hzl, hzd, hzx⟩)
  have HYES : Hid (fb = true → zl = L ∧ zd = D ∧ zx = joinTenL k p q L D X L' D' X' true) := Lib.hid (fun h => by subst h; exact ⟨hzl, hzd, hzx⟩)
  rw [← hzl, ← hzd, ← hzx]
  clear hzl hzd hzx
  clear ha hb hB hB' hn hn' hI hJ hm1 hm2 hm3 hm4 hm5 hm6 hta hpb hfb hL12
  obtain ⟨⟨r0, r1, r2⟩, rf0, rf1, rf2⟩ := R0.out.at (r := w.heap.size) (a := .int .i64 k) (b := .int .i64 p) (c := .int .i64 q) (by simp)
  obtain ⟨⟨a0, a1, a2⟩, af0, af1, af2⟩ := R0.out.at (r := w.heap.size + 1) (a := .slice al m1 cl) (b := .slice ad m2 cd) (c := .slice ax m3 cx) (by simp)
  obtain ⟨⟨b0, b1, b2⟩, bf0, bf1, bf2⟩ := R0.out.at (r := w.heap.size + 1 + 1) (a := .slice bl m4 kl) (b := .slice bd m5 kd) (c := .slice bx m6 kx) (by simp)
  cases ta with
  | false =>
    obtain rfl : fb = false := HFB.out
    obtain ⟨rfl, rfl, rfl⟩ := HNO.out rfl
    go_enter Try.func108, Try.ntmps108
    go_wp2_with fail
    refine OKA.out.mono ?_
    clear r0 r1 r2 rf0 rf1 rf2 a0 a1 a2 af0 af1 af2 b0 b1 b2 bf0 bf1 bf2
    rintro e w1 ⟨rfl, hb⟩
    have R1 := Lib.hid (R0.out.step hb)
    clear hb
    obtain ⟨⟨t0, t1, t2⟩, f0, f1, f2⟩ := R1.out.at (r := w.heap.size + 1 + 1 + 1 + 1) (a := nilV) (b := nilV) (c := nilV) (by simp)
    go_wp2
    refine bodyPost_ret (v := .tuple #[tenV nilV nilV nilV, .bool false]) (by simp [results, Try.results108, go_sem, t0, t1, t2]) rfl ?_
    exact NewTen2.nils (((R1.out.bel.setCell (by simp; omega) _).setCell (by simp; omega) _).setCell (by simp; omega) _)
  | true =>
    have hL := (HL12.out HTA.out.symm).1
    have hD := (HL12.out HTA.out.symm).2
    have HLD := Lib.hid (And.intro hL hD)
    clear hL hD
    go_enter Try.func108, Try.ntmps108
    go_wp2_with fail
    refine OKA.out.mono ?_
    clear r0 r1 r2 rf0 rf1 rf2 a0 a1 a2 af0 af1 af2 b0 b1 b2 bf0 bf1 bf2
    rintro e w1 ⟨rfl, hb⟩
    have R1 := Lib.hid (R0.out.step hb)
    have FC1 := Lib.hid ((hb.cell (p := ⟨w.heap.size + 1 + 1 + 1, 0, none⟩) (by simp)).trans FC0.out)
    clear hb
    obtain ⟨⟨r0, r1, r2⟩, rf0, rf1, rf2⟩ := R1.out.at (r := w.heap.size) (a := .int .i64 k) (b := .int .i64 p) (c := .int .i64 q) (by simp)
    obtain ⟨⟨a0, a1, a2⟩, af0, af1, af2⟩ := R1.out.at (r := w.heap.size + 1) (a := .slice al m1 cl) (b := .slice ad m2 cd) (c := .slice ax m3 cx) (by simp)
    obtain ⟨⟨b0, b1, b2⟩, bf0, bf1, bf2⟩ := R1.out.at (r := w.heap.size + 1 + 1) (a := .slice bl m4 kl) (b := .slice bd m5 kd) (c := .slice bx m6 kx) (by simp)
    go_wp2_with fail
    refine (HPT.out HTA.out.symm _ R1.out.bel).mono ?_
    clear r0 r1 r2 rf0 rf1 rf2 a0 a1 a2 af0 af1 af2 b0 b1 b2 bf0 bf1 bf2
    obtain ⟨yl, hyl⟩ : ∃ l, l = (if pb = true then L else []) := ⟨_, rfl⟩
    obtain ⟨yd, hyd⟩ : ∃ l, l = (if pb = true then D else []) := ⟨_, rfl⟩
    obtain ⟨yx, hyx⟩ : ∃ l, l = (if pb = true then permDataL k q L' D' X' L else []) := ⟨_, rfl⟩
    rw [← hyl, ← hyd, ← hyx]
    rintro e w2 ⟨v1, v2, v3, rfl, ho, hb⟩
    have R2 := Lib.hid (R1.out.new3 hb ho)
    have lt3 := R1.out.bx (w.heap.size + 1 + 1 + 1 + 1, nilV, nilV, nilV) (by simp)
    have FC2 := Lib.hid ((hb.cell (p := ⟨w.heap.size + 1 + 1 + 1, 0, none⟩) (by have := lt3.lt; simp at this; show w.heap.size + 1 + 1 + 1 < _; omega)).trans FC1.out)
    obtain ⟨g1, j1, rfl, -⟩ := ints_form ho.rows.1.rd
    obtain ⟨g2, j2, rfl, -⟩ := ints_form ho.rows.2.1.rd
    obtain ⟨g3, j3, rfl, -⟩ := ints_form ho.rows.2.2.rd
    have HYD := Lib.hid hyd
    have HYX := Lib.hid hyx
    have HYL := Lib.hid hyl
    clear ho hb lt3 hyl hyd hyx FC1
    obtain ⟨o1, ho1⟩ : ∃ m, m = yl.length := ⟨_, rfl⟩
    obtain ⟨o2, ho2⟩ : ∃ m, m = yd.length := ⟨_, rfl⟩
    obtain ⟨o3, ho3⟩ : ∃ m, m = yx.length := ⟨_, rfl⟩
    rw [← ho1, ← ho2, ← ho3] at R2 ⊢
    have HOL := Lib.hid (And.intro ho1 (And.intro ho2 ho3))
    clear ho1 ho2 ho3
    have R3 := Lib.hid (R2.out.swapB.set3 (.slice g1 o1 j1) (.slice g2 o2 j2) (.slice g3 o3 j3))
    have FC3 : Hid ((((w2.setCell ⟨w.heap.size + 1 + 1, 0, none⟩ (.slice g1 o1 j1)).setCell ⟨w.heap.size + 1 + 1, 1, none⟩ (.slice g2 o2 j2)).setCell ⟨w.heap.size + 1 + 1, 2, none⟩ (.slice g3 o3 j3)).cell? ⟨w.heap.size + 1 + 1 + 1, 0, none⟩ = some (.func (.func 77) #[ringV k p q] #[])) := by
      show _ = _
      exact set3_far (by omega) FC2.out
    clear FC2
    obtain ⟨⟨b0, b1, b2⟩, bf0, bf1, bf2⟩ := R2.out.at (r := w.heap.size + 1 + 1) (a := .slice bl m4 kl) (b := .slice bd m5 kd) (c := .slice bx m6 kx) (by simp)
    cases pb with
    | false =>
      obtain rfl : fb = false := HFB.out
      obtain ⟨rfl, rfl, rfl⟩ := HNO.out rfl
      obtain ⟨⟨t0, t1, t2⟩, f0, f1, f2⟩ := R3.out.at (r := w.heap.size + 1 + 1 + 1 + 1) (a := nilV) (b := nilV) (c := nilV) (by simp)
      go_wp2
      refine bodyPost_ret (v := .tuple #[tenV nilV nilV nilV, .bool false]) (by simp [results, Try.results108, go_sem, t0, t1, t2]) rfl ?_
      exact NewTen2.nils (((R3.out.bel.setCell (by simp; omega) _).setCell (by simp; omega) _).setCell (by simp; omega) _)
    | true =>
      have EYD : Hid (yd = D) := Lib.hid (by rw [HYD.out]; simp)
      have EYX : Hid (yx = permDataL k q L' D' X' L) := Lib.hid (by rw [HYX.out]; simp)
      have EYL : Hid (yl = L) := Lib.hid (by rw [HYL.out]; simp)
      obtain ⟨⟨a0, a1, a2⟩, af0, af1, af2⟩ := R3.out.at (r := w.heap.size + 1) (a := .slice al m1 cl) (b := .slice ad m2 cd) (c := .slice ax m3 cx) (by simp)
      obtain ⟨w4, hw4⟩ : ∃ W, W = ((w2.setCell ⟨w.heap.size + 1 + 1, 0, none⟩ (.slice g1 o1 j1)).setCell ⟨w.heap.size + 1 + 1, 1, none⟩ (.slice g2 o2 j2)).setCell ⟨w.heap.size + 1 + 1, 2, none⟩ (.slice g3 o3 j3) := ⟨_, rfl⟩
      have HW4 := Lib.hid hw4
      have R4 := R3
      have FC4 := FC3
      rw [← hw4] at R4 FC4
      clear hw4 R3 FC3
      obtain rfl : fb = true := HFB.out
      have HY3 := Lib.hid (HYES.out (by simp))
      have HFT := HFF.out.symm
      obtain ⟨hp, -, hwx, hwy⟩ := fit_facts HFT
      obtain ⟨hy1, hx1⟩ := perm_size HFT
      rw [← EYX.out] at hwy hy1
      have hjt : joinTenL k p q L D X L' D' X' true = gatherL (joinF k p (widthI k q).toNat X yx true) (prodL D).toNat := by rw [EYX.out]; rfl
      obtain ⟨wd, hwd⟩ : ∃ n, n = (widthI k q).toNat := ⟨_, rfl⟩
      rw [← hwd] at hp hy1 hx1 hjt
      have hs := tensorB_prod HTA.out.symm
      have hrb := (tensorB_inv HTA.out.symm).1
      have HCM := Lib.hid (fun (j : Nat) (W : World) (hj : j < (prodL D).toNat) (hb : Below w4.heap.size w4 W) => comb_times (B := w4.heap.size) (bc := w.heap.size + 1 + 1 + 1) (ba := w.heap.size + 1) (br := w.heap.size) (bb := w.heap.size + 1 + 1) (lv := .slice al m1 cl) (dv := .slice ad m2 cd) (xv := .slice ax m3 cx) (lu := .slice g1 o1 j1) (du := .slice g2 o2 j2) (xu := .slice g3 o3 j3) (k := k) (p := p) (q := q) (L := L) (D := D) (X := X) (L' := yl) (D' := yd) (X' := yx) (wd := wd) (N := (prodL D).toNat) (j := j) (w := W)
        (by have := (R4.out.bx (w.heap.size + 1 + 1 + 1 + 1, nilV, nilV, nilV) (by simp)).lt; have := hb.size; simp at *; omega)
        (by
          have hl := (R4.out.bx (w.heap.size + 1 + 1 + 1 + 1, nilV, nilV, nilV) (by simp)).lt
          have hc : ∀ {b i : Nat} {v : Value}, b < w4.heap.size → w4.cell? ⟨b, i, none⟩ = some v → W.cell? ⟨b, i, none⟩ = some v := fun hlt hc => (hb.cell (p := ⟨_, _, none⟩) hlt).trans hc
          have hA := R4.out.bx (w.heap.size + 1, .slice al m1 cl, .slice ad m2 cd, .slice ax m3 cx) (by simp)
          have hR := R4.out.bx (w.heap.size, .int .i64 k, .int .i64 p, .int .i64 q) (by simp)
          have hU := R4.out.bx (w.heap.size + 1 + 1, .slice g1 o1 j1, .slice g2 o2 j2, .slice g3 o3 j3) (by simp)
          exact ⟨hc (by simp at hl; omega) FC4.out, hc hA.lt hA.c0, hc hA.lt hA.c1, hc hA.lt hA.c2, hc hR.lt hR.c0, hc hR.lt hR.c1, hc hR.lt hR.c2, hc hU.lt hU.c0, hc hU.lt hU.c1, hc hU.lt hU.c2⟩)
        (have h := HA.out.below (R4.out.bel.trans (hb.mono R4.out.bel.size)) (Nat.le_refl _); ⟨h.l.mono R4.out.bel.size, h.d.mono R4.out.bel.size, h.x.mono R4.out.bel.size⟩)
        ⟨(R4.out.rd (v := .slice g1 o1 j1) (xs := yl) (by simp)).below hb (Nat.le_refl _), (R4.out.rd (v := .slice g2 o2 j2) (xs := yd) (by simp)).below hb (Nat.le_refl _), (R4.out.rd (v := .slice g3 o3 j3) (xs := yx) (by simp)).below hb (Nat.le_refl _)⟩
        hb.size hrb hp.hw hp.w6.1 hp.w6.2 hs.2.2 hx1 hy1 hwx hwy hj)
      have HFL := Lib.hid (filled_impl4 (k := k) (p := p) (q := q) (K := 145) (wt := wd) (F := joinF k p wd X yx true) (HA.out.below R4.out.bel (Nat.le_refl _)) R4.out.bel.size HN.out HI.out HTA.out.symm hp.w6.1 hp.w6.2 (fun _ _ => by kernel_rfl) (fun i hi => by have h1 := (joinF_elem hrb hp.hw hx1 hy1 hwx hwy true hi).1; have h2 := hp.hw; omega) (fun j W hj hb => HCM.out j W hj hb))
      have HJT := Lib.hid hjt
      clear HCM hp hwx hwy hy1 hx1 hjt hwd hs hrb HFT
      go_wp2_with fail
      rw [← HW4.out]
      refine HFL.out.mono ?_
      clear a0 a1 a2 af0 af1 af2 b0 b1 b2 bf0 bf1 bf2
      rintro e w5 ⟨l', d', x', rfl, ho, hb⟩
      have R5 := Lib.hid (R4.out.step hb)
      obtain ⟨a1, c1, rfl, -⟩ := ints_form ho.rows.1.rd
      obtain ⟨a2, c2, rfl, -⟩ := ints_form ho.rows.2.1.rd
      obtain ⟨a3, c3, rfl, -⟩ := ints_form ho.rows.2.2.rd
      have lt1 := (R4.out.bx (w.heap.size + 1 + 1 + 1 + 1, nilV, nilV, nilV) (by simp)).lt
      have hz1 := R4.out.bel.size
      obtain ⟨res, hres⟩ : ∃ l, l = gatherL (joinF k p wd X yx true) (prodL D).toNat := ⟨_, rfl⟩
      have HZR : Hid (zl = L ∧ zd = D ∧ zx = res) := Lib.hid ⟨HY3.out.1, HY3.out.2.1, by rw [HY3.out.2.2, HJT.out, hres]⟩
      rw [← hres] at ho ⊢
      obtain ⟨q1, hq1⟩ : ∃ m, m = L.length := ⟨_, rfl⟩
      obtain ⟨q2, hq2⟩ : ∃ m, m = D.length := ⟨_, rfl⟩
      obtain ⟨q3, hq3⟩ : ∃ m, m = res.length := ⟨_, rfl⟩
      rw [← hq1, ← hq2, ← hq3] at ho ⊢
      have HO := Lib.hid (ho.set3 lt1 (.slice a1 q1 c1) (.slice a2 q2 c2) (.slice a3 q3 c3))
      clear hb ho hq1 hq2 hq3 hres HFL
      obtain ⟨⟨t0, t1, t2⟩, f0, f1, f2⟩ := R5.out.at (r := w.heap.size + 1 + 1 + 1 + 1) (a := nilV) (b := nilV) (c := nilV) (by simp)
      go_wp2
      refine bodyPost_ret (v := .tuple #[tenV (.slice a1 q1 c1) (.slice a2 q2 c2) (.slice a3 q3 c3), .bool true]) (by simp [results, Try.results108, go_sem, t0, t1, t2]) rfl ?_
      rw [← HZR.out.1, ← HZR.out.2.1, ← HZR.out.2.2] at HO
      refine ⟨_, _, _, rfl, ?_, ((R5.out.bel.setCell (by simp; omega) _).setCell (by simp; omega) _).setCell (by simp; omega) _⟩
      exact HO.out.wide hz1 (by simp) (by simp)

end Go.Proofs.Ytgbmacppgaopfaa
