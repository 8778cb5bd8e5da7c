
/- (Tensor).alignedTo. -/
import Derived.Test.YtceidekfcnmeaaaPermImpl
import Derived.Test.YtceidekfcnmeaaaElemImpl
import Derived.Test.YtceidekfcnmeaaaPermuted
import Derived.Test.YtceidekfcnmeaaaAddSpec
import Derived.Deep.RegionHeld3
import Derived.Test.YtceidekfcnmeaaaFill
namespace Go.Proofs.Ytceidekfcnmeaaa
set_option maxRecDepth 20000
open Go.RowKit

/-- The tensor has the same labels with the same dimensions. -/
noncomputable def alB (k p q : Int) (L D L' D' X' : List Int) : Bool := permB k p q L' D' X' L && (dimsVia L' D' L == D)
set_option maxHeartbeats 6400000 in
theorem aligned_impl {B B' : Nat} {lv dv xv lu du xu : Value} {k p q : Int} {L D X L' D' X' : List Int} {w : World} (ha : RdT B w lv dv xv L D X) (hb : RdT B' w lu du xu L' D' X') (hB : B ≤ w.heap.size) (hB' : B' ≤ w.heap.size) (hn' : LenT L' D' X') (hl : L.length ≤ 1099511627776) (hd : D.length ≤ 281474976710656) (hJ : allI L') :
    Calls Try.prog 26 #[tenV lu du xu, ringV k p q, tenV lv dv xv] w (NewTen2 w (if alB k p q L D L' D' X' = true then L else []) (if alB k p q L D L' D' X' = true then D else []) (if alB k p q L D L' D' X' = true then permDataL k q L' D' X' L else []) (alB k p q L D L' D' X')) := by
  have HA : Hid (RdT w.heap.size w lv dv xv L D X) := Lib.hid ⟨ha.l.mono hB, ha.d.mono hB, ha.x.mono hB⟩
  have HU : Hid (RdT w.heap.size w lu du xu L' D' X') := Lib.hid ⟨hb.l.mono hB', hb.d.mono hB', hb.x.mono hB'⟩
  obtain ⟨al, cl, rfl, -⟩ := ints_form ha.l
  obtain ⟨ad, cd, rfl, -⟩ := ints_form ha.d
  obtain ⟨ax, cx, rfl, -⟩ := ints_form ha.x
  obtain ⟨bl, kl, rfl, -⟩ := ints_form hb.l
  obtain ⟨bd, kd, rfl, -⟩ := ints_form hb.d
  obtain ⟨bx, kx, rfl, -⟩ := ints_form hb.x
  obtain ⟨m1, hm1⟩ : ∃ m, m = L.length := ⟨_, rfl⟩
  obtain ⟨m2, hm2⟩ : ∃ m, m = D.length := ⟨_, rfl⟩
  obtain ⟨m3, hm3⟩ : ∃ m, m = X.length := ⟨_, rfl⟩
  rw [← hm1, ← hm2, ← hm3] at HA ⊢
  obtain ⟨m4, hm4⟩ : ∃ m, m = L'.length := ⟨_, rfl⟩
  obtain ⟨m5, hm5⟩ : ∃ m, m = D'.length := ⟨_, rfl⟩
  obtain ⟨m6, hm6⟩ : ∃ m, m = X'.length := ⟨_, rfl⟩
  rw [← hm4, ← hm5, ← hm6] at HU ⊢
  have R0 : Hid (Rs w ((((w.alloc (.cells #[.slice bl m4 kl, .slice bd m5 kd, .slice bx m6 kx] 28)).alloc (.cells #[.int .i64 k, .int .i64 p, .int .i64 q] 31)).alloc (.cells #[.slice al m1 cl, .slice ad m2 cd, .slice ax m3 cx] 28)).alloc (.cells #[nilV, nilV, nilV] 28)) [(w.heap.size + 1 + 1 + 1, nilV, nilV, nilV), (w.heap.size + 1 + 1, .slice al m1 cl, .slice ad m2 cd, .slice ax m3 cx), (w.heap.size + 1, .int .i64 k, .int .i64 p, .int .i64 q), (w.heap.size, .slice bl m4 kl, .slice bd m5 kd, .slice bx m6 kx)] []) := by
    have h := (((((Rs.start w).box (.slice bl m4 kl) (.slice bd m5 kd) (.slice bx m6 kx) 28).box (.int .i64 k) (.int .i64 p) (.int .i64 q) 31).box (.slice al m1 cl) (.slice ad m2 cd) (.slice ax m3 cx) 28).box (nilV) (nilV) (nilV) 28)
    simp only [World.size_alloc] at h
    exact h
  have HPT := Lib.hid (permute_tensor_impl (k := k) (p := p) (q := q) (HU.out.below R0.out.bel (Nat.le_refl _)) (HA.out.l.below R0.out.bel (Nat.le_refl _)) R0.out.bel.size hn' hl hJ)
  obtain ⟨pb, hpb⟩ : ∃ b, b = permB k p q L' D' X' L := ⟨_, rfl⟩
  obtain ⟨fb, hfb⟩ : ∃ b, b = alB k p q L D L' D' X' := ⟨_, rfl⟩
  obtain ⟨eb, heb⟩ : ∃ b, b = (dimsVia L' D' L == D) := ⟨_, rfl⟩
  have HFB : Hid (fb = (pb && eb)) := Lib.hid (by rw [hfb, hpb, heb]; rfl)
  have HEB := Lib.hid heb
  have HD := Lib.hid hd
  have HDV : Hid ((dimsVia L' D' L).length ≤ 281474976710656) := Lib.hid (by simp [dimsVia]; omega)
  rw [← hpb] at HPT
  rw [← hfb]
  obtain ⟨pl, hpl⟩ : ∃ l, l = (if pb = true then L else []) := ⟨_, rfl⟩
  obtain ⟨pd, hpd⟩ : ∃ l, l = (if pb = true then dimsVia L' D' L else []) := ⟨_, rfl⟩
  obtain ⟨px, hpx⟩ : ∃ l, l = (if pb = true then permDataL k q L' D' X' L else []) := ⟨_, rfl⟩
  rw [← hpl, ← hpd, ← hpx] at HPT
  have HPY : Hid (pb = true → pl = L ∧ pd = dimsVia L' D' L ∧ px = permDataL k q L' D' X' L) := Lib.hid (fun h => by subst h; exact ⟨hpl, hpd, hpx⟩)
  clear hpl hpd hpx
  obtain ⟨zl, hzl⟩ : ∃ l, l = (if fb = true then L else []) := ⟨_, rfl⟩
  obtain ⟨zd, hzd⟩ : ∃ l, l = (if fb = true then D else []) := ⟨_, rfl⟩
  obtain ⟨zx, hzx⟩ : ∃ l, l = (if fb = true then permDataL k q L' D' X' L else []) := ⟨_, rfl⟩
  have HNO : Hid (fb = false → zl = [] ∧ zd = [] ∧ zx = []) := Lib.hid (fun h => by subst h; exact ⟨hzl, hzd, hzx⟩)
  have HYES : Hid (fb = true → zl = L ∧ zd = D ∧ zx = permDataL k q L' D' X' L) := Lib.hid (fun h => by subst h; exact ⟨hzl, hzd, hzx⟩)
  rw [← hzl, ← hzd, ← hzx]
  clear hzl hzd hzx
  clear ha hb hB hB' hn' hl hd hJ hm1 hm2 hm3 hm4 hm5 hm6 hpb hfb heb
  obtain ⟨⟨t0, t1, t2⟩, -⟩ := R0.out.at (r := w.heap.size) (a := .slice bl m4 kl) (b := .slice bd m5 kd) (c := .slice bx m6 kx) (by simp)
  obtain ⟨⟨r0, r1, r2⟩, -⟩ := R0.out.at (r := w.heap.size + 1) (a := .int .i64 k) (b := .int .i64 p) (c := .int .i64 q) (by simp)
  obtain ⟨⟨a0, a1, a2⟩, -⟩ := R0.out.at (r := w.heap.size + 1 + 1) (a := .slice al m1 cl) (b := .slice ad m2 cd) (c := .slice ax m3 cx) (by simp)
  obtain ⟨-, tf0, tf1, tf2⟩ := R0.out.at (r := w.heap.size) (a := .slice bl m4 kl) (b := .slice bd m5 kd) (c := .slice bx m6 kx) (by simp)
  go_enter Try.func26, Try.ntmps26
  go_wp2_with fail
  refine HPT.out.mono ?_
  clear r0 r1 r2 t0 t1 t2 a0 a1 a2 tf0 tf1 tf2 HPT
  rintro e w1 ⟨l', d', x', rfl, ho, hb⟩
  obtain ⟨a1, c1, rfl, -⟩ := ints_form ho.rows.1.rd
  obtain ⟨a2, c2, rfl, -⟩ := ints_form ho.rows.2.1.rd
  obtain ⟨a3, c3, rfl, -⟩ := ints_form ho.rows.2.2.rd
  obtain ⟨n1, hn1⟩ : ∃ m, m = pl.length := ⟨_, rfl⟩
  obtain ⟨n2, hn2⟩ : ∃ m, m = pd.length := ⟨_, rfl⟩
  obtain ⟨n3, hn3⟩ : ∃ m, m = px.length := ⟨_, rfl⟩
  rw [← hn1, ← hn2, ← hn3] at ho ⊢
  have R1 : Hid (Rs w w1 [(w.heap.size, .slice bl m4 kl, .slice bd m5 kd, .slice bx m6 kx), (w.heap.size + 1 + 1 + 1, nilV, nilV, nilV), (w.heap.size + 1 + 1, .slice al m1 cl, .slice ad m2 cd, .slice ax m3 cx), (w.heap.size + 1, .int .i64 k, .int .i64 p, .int .i64 q)] [(.slice a1 n1 c1, pl), (.slice a2 n2 c2, pd), (.slice a3 n3 c3, px)]) := Lib.hid ((R0.out.new3 hb ho).permB (List.perm_append_comm (l₁ := [_, _, _]) (l₂ := [_])))
  obtain ⟨⟨t0, t1, t2⟩, tf0, tf1, tf2⟩ := R1.out.at (r := w.heap.size) (a := .slice bl m4 kl) (b := .slice bd m5 kd) (c := .slice bx m6 kx) (by simp)
  have R2 := Lib.hid (R1.out.set3 (.slice a1 n1 c1) (.slice a2 n2 c2) (.slice a3 n3 c3))
  obtain ⟨⟨s0, s1, s2⟩, -⟩ := R2.out.at (r := w.heap.size) (a := .slice a1 n1 c1) (b := .slice a2 n2 c2) (c := .slice a3 n3 c3) (by simp)
  obtain ⟨⟨o0, o1, o2⟩, f0, f1, f2⟩ := R2.out.at (r := w.heap.size + 1 + 1 + 1) (a := nilV) (b := nilV) (c := nilV) (by simp)
  obtain ⟨⟨a0, a1', a2'⟩, -⟩ := R2.out.at (r := w.heap.size + 1 + 1) (a := .slice al m1 cl) (b := .slice ad m2 cd) (c := .slice ax m3 cx) (by simp)
  clear ho hb hn1 hn2 hn3
  cases pb with
  | false =>
    obtain rfl : fb = false := HFB.out
    obtain ⟨rfl, rfl, rfl⟩ := HNO.out (by simp)
    go_wp2
    refine bodyPost_ret (v := .tuple #[tenV nilV nilV nilV, .bool false]) (by simp [results, Try.results26, go_sem, o0, o1, o2]) rfl ?_
    exact NewTen2.nils (((R2.out.bel.setCell (by simp; omega) _).setCell (by simp; omega) _).setCell (by simp; omega) _)
  | true =>
    have HPZ := Lib.hid (HPY.out rfl)
    have HEQ := Lib.hid (equal_any (R2.out.rd (v := .slice a2 n2 c2) (xs := pd) (by simp)) (HA.out.d.below R2.out.bel (Nat.le_refl _)) (by rw [HPZ.out.2.1]; exact HDV.out) HD.out)
    rw [show (pd == D) = eb from by rw [HPZ.out.2.1, HEB.out]] at HEQ
    go_wp2_with fail
    refine HEQ.out.mono ?_
    clear HEQ s0 s1 s2 o0 o1 o2 f0 f1 f2 a0 a1' a2' t0 t1 t2 tf0 tf1 tf2
    rintro e w2 ⟨rfl, hb⟩
    have R3 := Lib.hid (R2.out.step hb)
    clear hb
    obtain ⟨⟨s0, s1, s2⟩, -⟩ := R3.out.at (r := w.heap.size) (a := .slice a1 n1 c1) (b := .slice a2 n2 c2) (c := .slice a3 n3 c3) (by simp)
    obtain ⟨⟨o0, o1, o2⟩, f0, f1, f2⟩ := R3.out.at (r := w.heap.size + 1 + 1 + 1) (a := nilV) (b := nilV) (c := nilV) (by simp)
    cases eb with
    | false =>
      obtain rfl : fb = false := HFB.out
      obtain ⟨rfl, rfl, rfl⟩ := HNO.out (by simp)
      go_wp2
      refine bodyPost_ret (v := .tuple #[tenV nilV nilV nilV, .bool false]) (by simp [results, Try.results26, go_sem, o0, o1, o2]) rfl ?_
      exact NewTen2.nils (((R3.out.bel.setCell (by simp; omega) _).setCell (by simp; omega) _).setCell (by simp; omega) _)
    | true =>
      obtain rfl : fb = true := HFB.out
      have HY3 := Lib.hid (HYES.out (by simp))
      have HDD : Hid (pd = D) := Lib.hid (by rw [HPZ.out.2.1]; exact eq_of_beq HEB.out.symm)
      go_wp2
      refine bodyPost_ret (v := .tuple #[tenV (.slice a1 n1 c1) (.slice a2 n2 c2) (.slice a3 n3 c3), .bool true]) (by simp [results, Try.results26, go_sem, o0, o1, o2]) rfl ?_
      have h2 := R3.out.swapB.set3 (.slice a1 n1 c1) (.slice a2 n2 c2) (.slice a3 n3 c3)
      rw [HDD.out, show pl = zl from HPZ.out.1.trans HY3.out.1.symm, show px = zx from HPZ.out.2.2.trans HY3.out.2.2.symm] at h2
      rw [HY3.out.2.1]
      exact ⟨_, _, _, rfl, h2.ownG, h2.bel⟩
end Go.Proofs.Ytceidekfcnmeaaa
namespace Go.Proofs.Ytceidekfcnmeaaa
set_option maxRecDepth 20000
open Go.RowKit

end Go.Proofs.Ytceidekfcnmeaaa
namespace Go.Proofs.Ytceidekfcnmeaaa
set_option maxRecDepth 20000
open Go.RowKit

theorem set_comm (L M : List Int) : setV L M = setV M L := by
  by_cases h : SetV L M
  · rw [setV_true.2 h, setV_true.2 (set_sym h)]
  · rw [setV_false h, setV_false (fun e => h (set_sym e))]
theorem beq_dec (a b : List Int) : (a == b) = decide (a = b) := by
  by_cases h : a = b <;> simp [h]
theorem fit_split (k p q : Int) (L D X L' D' X' : List Int) : fitB k p q L D X L' D' X' = (tensorB k p q L D X && (permB k p q L' D' X' L && (dimsVia L' D' L == D))) := by
  unfold fitB bothB permB
  rw [beq_dec, set_comm L L', Bool.and_assoc]
/-- The two boxes of two rows read as before. -/
theorem perm_size {k p q : Int} {L D X L' D' X' : List Int} (h : fitB k p q L D X L' D' X' = true) : (permDataL k q L' D' X' L).length = (prodL D).toNat * (widthI k q).toNat ∧ X.length = (prodL D).toNat * (widthI k q).toNat := by
  obtain ⟨hp, h2, -, -⟩ := fit_facts h
  exact ⟨h2.trans hp.lX, hp.lX⟩

end Go.Proofs.Ytceidekfcnmeaaa
