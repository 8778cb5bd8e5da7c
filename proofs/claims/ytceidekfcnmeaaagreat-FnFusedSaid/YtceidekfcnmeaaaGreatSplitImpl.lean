
/- impl.SplitLabel. -/
import Derived.Test.YtceidekfcnmeaaaGreatRegImpl
namespace Go.Proofs.YtceidekfcnmeaaaGreat
set_option maxRecDepth 20000
open Go.RowKit

theorem spl_from_m (n : Nat) (x : Value) (w : World) : (method (n + 1) 95 x "loop.example/g03211/impl.from").run Tryz.prog w = .ok (154, x) w := by kernel_rfl
theorem spl_to_m (n : Nat) (x : Value) (w : World) : (method (n + 1) 95 x "loop.example/g03211/impl.to").run Tryz.prog w = .ok (155, x) w := by kernel_rfl
theorem spl_nil (n : Nat) (x : Value) (w : World) : (nilAhead (n + 1) 95 x "loop.example/g03211/impl.to").run Tryz.prog w = .ok (some false) w := by kernel_rfl
theorem spl_from_c (x : Value) (w : World) : (callFunc 154 #[x]).run Tryz.prog w = .ok (.enter 154 #[x]) w := by kernel_rfl
theorem spl_to_c (x av : Value) (w : World) : (callFunc 155 #[x, av]).run Tryz.prog w = .ok (.enter 155 #[x, av]) w := by kernel_rfl
set_option maxHeartbeats 400000 in
theorem spl_from {mA cA mG cG : Nat} {aA aG : Option Addr} {b : Int} {w : World} :
    Calls Tryz.prog 154 #[.agg #[.int .i64 b, .slice aA mA cA, .slice aG mG cG]] w fun e w' => ∃ fv, e = .returned fv ∧ Below w.heap.size w w' ∧ Rd w'.heap.size w' fv (ints [b]) := by
  have RX := Lib.hid (((Rs.start w).alloc (.cells #[.int .i64 b, .slice aA mA cA, .slice aG mG cG] 95)).lit1 b)
  go_enter Tryz.func154, Tryz.ntmps154
  go_wp2
  go_ret
  refine ⟨_, rfl, RX.out.bel, ?_⟩
  have h := RX.out.rd (List.mem_cons_self)
  simp only [World.size_alloc] at h ⊢
  exact h
set_option maxHeartbeats 400000 in
theorem spl_to {B mA cA mG cG : Nat} {aA aG : Option Addr} {av : Value} {A G : List Int} {b : Int} {w : World} (hA : Rd B w (.slice aA mA cA) (ints A)) (hG : Rd B w (.slice aG mG cG) (ints G)) (hB : B ≤ w.heap.size) :
    Calls Tryz.prog 155 #[.agg #[.int .i64 b, .slice aA mA cA, .slice aG mG cG], av] w fun e w' => ∃ u v, e = .returned (.tuple #[u, v]) ∧ Below w.heap.size w w' ∧ Rd w'.heap.size w' u (ints A) ∧ Rd w'.heap.size w' v (ints G) := by
  have hb := ((Below.refl w.heap.size w).alloc (Nat.le_refl _) (.cells #[.int .i64 b, .slice aA mA cA, .slice aG mG cG] 95)).drew
  have H := Lib.hid (And.intro ((hA.below hb hB).mono (Nat.le_trans hB hb.size)) ((hG.below hb hB).mono (Nat.le_trans hB hb.size)))
  have HB := Lib.hid hb
  clear hA hG hB hb
  go_enter Tryz.func155, Tryz.ntmps155
  go_wp2
  go_region
  all_goals
    go_wp2
    refine bodyPost_ret (v := .tuple #[.slice aA mA cA, .slice aG mG cG]) (by simp [results, Tryz.results155, go_sem]) rfl ?_
    exact ⟨_, _, rfl, HB.out, H.out.1, H.out.2⟩
set_option maxHeartbeats 3200000 in
theorem split_label_impl {B : Nat} {lv dv xv av gv : Value} {k p q b : Int} {L D X A G : List Int} {w : World} (ha : RdT B w lv dv xv L D X) (hav : Rd B w av (ints A)) (hgv : Rd B w gv (ints G)) (hB : B ≤ w.heap.size) (hn : LenT L D X) (hmA : A.length ≤ 1048576) (hmG : G.length ≤ 1048576) (hI : allI L) (hJ : allI A) :
    Calls Tryz.prog 27 #[ringV k p q, tenV lv dv xv, .int .i64 b, av, gv] w (NewTen2 w (if regB k p q L D X [b] A G = true then restL [b] L ++ A else []) (if regB k p q L D X [b] A G = true then dimsVia L D (restL [b] L) ++ G else []) (if regB k p q L D X [b] A G = true then regX k q L D X [b] else []) (regB k p q L D X [b] A G)) := by
  have HT : Hid (RdT w.heap.size w lv dv xv L D X) := Lib.hid ⟨ha.l.mono hB, ha.d.mono hB, ha.x.mono hB⟩
  have HA : Hid (Rd w.heap.size w av (ints A)) := Lib.hid (hav.mono hB)
  have HG : Hid (Rd w.heap.size w gv (ints G)) := Lib.hid (hgv.mono hB)
  obtain ⟨al, cl, rfl, -⟩ := ints_form ha.l
  obtain ⟨ad, cd, rfl, -⟩ := ints_form ha.d
  obtain ⟨ax, cx, rfl, -⟩ := ints_form ha.x
  obtain ⟨aA, cA, rfl, -⟩ := ints_form hav
  obtain ⟨aG, cG, rfl, -⟩ := ints_form hgv
  obtain ⟨m1, hm1⟩ : ∃ m, m = L.length := ⟨_, rfl⟩
  obtain ⟨m2, hm2⟩ : ∃ m, m = D.length := ⟨_, rfl⟩
  obtain ⟨m3, hm3⟩ : ∃ m, m = X.length := ⟨_, rfl⟩
  rw [← hm1, ← hm2, ← hm3] at HT ⊢
  obtain ⟨mA, hm4⟩ : ∃ m, m = A.length := ⟨_, rfl⟩
  obtain ⟨mG, hm5⟩ : ∃ m, m = G.length := ⟨_, rfl⟩
  rw [← hm4] at HA ⊢
  rw [← hm5] at HG ⊢
  have R0 : Hid (Rs w (((w.alloc (.cells #[.int .i64 k, .int .i64 p, .int .i64 q] 24)).alloc (.cells #[.slice al m1 cl, .slice ad m2 cd, .slice ax m3 cx] 28)).alloc (.cells #[nilV, nilV, nilV] 28)) [(w.heap.size + 1 + 1, nilV, nilV, nilV), (w.heap.size + 1, .slice al m1 cl, .slice ad m2 cd, .slice ax m3 cx), (w.heap.size, .int .i64 k, .int .i64 p, .int .i64 q)] []) := by
    have h := ((((Rs.start w).box (.int .i64 k) (.int .i64 p) (.int .i64 q) 24).box (.slice al m1 cl) (.slice ad m2 cd) (.slice ax m3 cx) 28).box (nilV) (nilV) (nilV) 28)
    simp only [World.size_alloc] at h
    exact h
  have HQ := Lib.hid (regroup_any (k := k) (p := p) (q := q) (F := [b]) (A := A) (G := G) (x := .agg #[.int .i64 b, .slice aA mA cA, .slice aG mG cG]) (HT.out.below R0.out.bel (Nat.le_refl _)) R0.out.bel.size hn hI hJ (by simp) hmA hmG
    (fun n W => spl_from_m n _ W) (fun n W => spl_to_m n _ W) (fun n W => spl_nil n _ W) (fun W => spl_from_c _ W) (fun W av => spl_to_c _ av W)
    (fun W hb => spl_from)
    (fun W av hb ht hs hr => spl_to (B := w.heap.size) (HA.out.below ((R0.out.step hb).bel) (Nat.le_refl _)) (HG.out.below ((R0.out.step hb).bel) (Nat.le_refl _)) (R0.out.step hb).bel.size))
  obtain ⟨fb, hfb⟩ : ∃ x, x = regB k p q L D X [b] A G := ⟨_, rfl⟩
  rw [← hfb] at HQ ⊢
  obtain ⟨zl, hzl⟩ : ∃ l, l = (if fb = true then restL [b] L ++ A else []) := ⟨_, rfl⟩
  obtain ⟨zd, hzd⟩ : ∃ l, l = (if fb = true then dimsVia L D (restL [b] L) ++ G else []) := ⟨_, rfl⟩
  obtain ⟨zx, hzx⟩ : ∃ l, l = (if fb = true then regX k q L D X [b] else []) := ⟨_, rfl⟩
  have HNO : Hid (fb = false → zl = [] ∧ zd = [] ∧ zx = []) := Lib.hid (fun h => by subst h; exact ⟨hzl, hzd, hzx⟩)
  have HYES : Hid (fb = true → zl = restL [b] L ++ A ∧ zd = dimsVia L D (restL [b] L) ++ G ∧ zx = regX k q L D X [b]) := Lib.hid (fun h => by subst h; exact ⟨hzl, hzd, hzx⟩)
  rw [← hzl, ← hzd, ← hzx]
  clear hzl hzd hzx
  have HQ2 := HQ
  rw [show (if fb = true then restL [b] L ++ A else []) = zl from by
      cases fb with
      | true => exact (HYES.out rfl).1.symm
      | false => exact (HNO.out rfl).1.symm, show (if fb = true then dimsVia L D (restL [b] L) ++ G else []) = zd from by
      cases fb with
      | true => exact (HYES.out rfl).2.1.symm
      | false => exact (HNO.out rfl).2.1.symm, show (if fb = true then regX k q L D X [b] else []) = zx from by
      cases fb with
      | true => exact (HYES.out rfl).2.2.symm
      | false => exact (HNO.out rfl).2.2.symm] at HQ2
  clear ha hav hgv hB hn hmA hmG hI hJ hm1 hm2 hm3 hm4 hm5 hfb HQ
  obtain ⟨⟨r0, r1, r2⟩, -⟩ := R0.out.at (r := w.heap.size) (a := .int .i64 k) (b := .int .i64 p) (c := .int .i64 q) (by simp)
  obtain ⟨⟨s0, s1, s2⟩, -⟩ := R0.out.at (r := w.heap.size + 1) (a := .slice al m1 cl) (b := .slice ad m2 cd) (c := .slice ax m3 cx) (by simp)
  go_enter Tryz.func27, Tryz.ntmps27
  go_wp2_with fail
  refine HQ2.out.mono ?_
  clear r0 r1 r2 s0 s1 s2 HQ2
  rintro e w5 ⟨l', d', x', rfl, ho, hb⟩
  have R5 := Lib.hid (R0.out.step hb)
  obtain ⟨a1, c1, rfl, -⟩ := ints_form ho.rows.1.rd
  obtain ⟨a2, c2, rfl, -⟩ := ints_form ho.rows.2.1.rd
  obtain ⟨a3, c3, rfl, -⟩ := ints_form ho.rows.2.2.rd
  have lt1 := (R0.out.bx (w.heap.size + 1 + 1, nilV, nilV, nilV) (by simp)).lt
  have hz1 := R0.out.bel.size
  obtain ⟨q1, hq1⟩ : ∃ m, m = List.length (zl) := ⟨_, rfl⟩
  obtain ⟨q2, hq2⟩ : ∃ m, m = List.length (zd) := ⟨_, rfl⟩
  obtain ⟨q3, hq3⟩ : ∃ m, m = List.length (zx) := ⟨_, rfl⟩
  rw [← hq1, ← hq2, ← hq3] at ho ⊢
  have HO := Lib.hid (ho.set3 lt1 (.slice a1 q1 c1) (.slice a2 q2 c2) (.slice a3 q3 c3))
  clear hb ho hq1 hq2 hq3
  obtain ⟨⟨t0, t1, t2⟩, f0, f1, f2⟩ := R5.out.at (r := w.heap.size + 1 + 1) (a := nilV) (b := nilV) (c := nilV) (by simp)
  go_wp2
  refine bodyPost_ret (v := .tuple #[tenV (.slice a1 q1 c1) (.slice a2 q2 c2) (.slice a3 q3 c3), .bool fb]) (by simp [results, Tryz.results27, go_sem, t0, t1, t2]) rfl ?_
  refine ⟨_, _, _, rfl, ?_, ((R5.out.bel.setCell (by simp; omega) _).setCell (by simp; omega) _).setCell (by simp; omega) _⟩
  exact HO.out.wide hz1 (by simp) (by simp)
end Go.Proofs.YtceidekfcnmeaaaGreat
