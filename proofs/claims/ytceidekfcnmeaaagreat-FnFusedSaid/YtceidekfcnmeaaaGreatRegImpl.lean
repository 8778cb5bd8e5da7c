
/- impl.regroup. -/
import Derived.Test.YtceidekfcnmeaaaGreatDelFunc
import Derived.Test.YtceidekfcnmeaaaGreatRegMath
import Derived.Test.YtceidekfcnmeaaaGreatConcat
import Derived.Test.YtceidekfcnmeaaaGreatPermImpl
namespace Go.Proofs.YtceidekfcnmeaaaGreat
set_option maxRecDepth 20000
open Go.RowKit

theorem ownsRow_low {lo lo' n size : Nat} {E : TypeId} {v : Value} {xs : List Value} {w : World} (h : w.ownsRow lo E size v n xs) (hl : lo' ≤ lo) : w.ownsRow lo' E size v n xs := by
  refine ⟨h.1, ?_⟩
  rcases h.2 with h | ⟨g, cap, cur, e, h1, h2⟩
  · exact .inl h
  · exact .inr ⟨g, cap, cur, e, Nat.le_trans hl h1, h2⟩
/-- slices.DeleteFunc on a row of the call's own. -/
theorem del_any {lo mf cf gf : Nat} {v : Value} {af : Option Addr} {xs F : List Int} {w : World} (h : Own w lo w.heap.size v xs) (hm2 : xs.length ≤ 1048576) (hgf : gf < lo) (hc : w.cell? ⟨gf, 0, none⟩ = some (.slice af mf cf)) (hF : Rd lo w (.slice af mf cf) (ints F)) (hn : F.length ≤ 281474976710656) :
    Calls Tryz.prog 100 #[v, .func (.func 101) #[] #[.pointer (some ⟨gf, 0, none⟩)]] w fun e w' => ∃ v', e = .returned v' ∧ w'.ownsRow lo 3 1 v' (restL F xs).length (ints (restL F xs)) ∧ w.grownBy w' v.ownBlock ∧ v'.ownBlock = v.ownBlock := by
  rcases h.1.2 with ⟨rfl, h0⟩ | ⟨g, cap, cur, rfl, h1⟩
  · have e : xs = [] := List.length_eq_zero_iff.1 h0
    subst e
    refine (del_nil (gf := gf) (w := w)).mono ?_
    rintro e w' ⟨rfl, rfl⟩
    exact ⟨_, rfl, World.ownsRow_nil _ _ _ _, ⟨rfl, rfl, rfl, Nat.le_refl _, fun _ _ _ => rfl⟩, rfl⟩
  · refine (del_full rfl hm2 h.1 hgf hc hF hn).mono ?_
    rintro e w' ⟨n, rfl, ho, hg⟩
    have hl := ho.1
    rw [ints_len] at hl
    obtain rfl : n = (restL F xs).length := by omega
    exact ⟨_, rfl, ho, hg, rfl⟩
/-- A row is another part of its block then. -/
theorem Rs.rewrite2 {w0 wr w' : World} {bs : List BxE} {rows : List RowE} {v v' : Value} {X X' : List Int} (h : Rs w0 wr bs ((v, X) :: rows)) (hv : v'.ownBlock = v.ownBlock) (ho : w'.ownsRow w0.heap.size 3 1 v' X'.length (ints X')) (hg : wr.grownBy w' v.ownBlock) : Rs w0 w' bs ((v', X') :: rows) := by
  have hap := List.pairwise_cons.1 h.apart
  have hlo : ∀ k, v.ownBlock = some k → w0.heap.size ≤ k := fun k hk => ((h.own (v, X) (by simp)).lt k hk).1
  refine ⟨h.bel.grown hg h.bel.size hlo, fun r hr => ?_, List.pairwise_cons.2 ⟨fun r hr g hg1 => hap.1 r hr g (by rw [← hv]; exact hg1), hap.2⟩, fun b hm => (h.bx b hm).grown hg (fun k hk => ⟨fun e => h.far b hm (v, X) (by simp) (by rw [hk, e]), hlo k hk⟩), fun b hm r hr => ?_, h.dis⟩
  · rcases List.mem_cons.1 hr with rfl | hr
    · exact ho
    · exact (h.own r (by simp [hr])).kept hg (by
        cases hv2 : r.1.ownBlock with
        | none => exact .inl rfl
        | some k => exact .inr fun e => hap.1 r hr k e.symm hv2)
  · rcases List.mem_cons.1 hr with rfl | hr
    · show v'.ownBlock ≠ _
      rw [hv]; exact h.far b hm (v, X) (by simp)
    · exact h.far b hm r (by simp [hr])
/-- The list whose box a function has captured. -/
structure FOk (w W : World) (gf : Nat) (fv : Value) (F : List Int) : Prop where
  cell : W.cell? ⟨gf, 0, none⟩ = some fv
  rd : Rd W.heap.size W fv (ints F)
  lt : gf < W.heap.size
  far : w.heap.size + 1 + 1 < gf
theorem FOk.step {w W W' : World} {gf : Nat} {fv : Value} {F : List Int} (h : FOk w W gf fv F) (hb : Below W.heap.size W W') : FOk w W' gf fv F :=
  ⟨(hb.cell (p := ⟨gf, 0, none⟩) h.lt).trans h.cell, (h.rd.below hb (Nat.le_refl _)).mono hb.size, Nat.lt_of_lt_of_le h.lt hb.size, h.far⟩
theorem RdA.drop {B : Nat} {w : World} {b off m cap : Nat} {AX : List AxE} (h : RdA B w (.slice (some ⟨b, off, none⟩) m cap) AX) (j : Nat) (hj : j < AX.length) : RdA B w (.slice (some ⟨b, off + j * 3, none⟩) (m - j) (cap - j)) (AX.drop j) := by
  rcases h with ⟨rfl, -⟩ | ⟨b2, off2, ca, e, hb, hc⟩
  · simp at hj
  · cases e
    refine .inr ⟨b, off + j * 3, cap - j, by rw [List.length_drop], hb, fun i a hi => ?_⟩
    rw [List.getElem?_drop] at hi
    obtain ⟨h1, h2, h3⟩ := hc (j + i) a hi
    rw [Nat.add_mul] at h1 h2 h3
    refine ⟨by rw [Nat.add_assoc]; exact h1, ?_, ?_⟩
    · rw [show off + j * 3 + i * 3 + 1 = off + (j * 3 + i * 3) + 1 by omega]; exact h2
    · rw [show off + j * 3 + i * 3 + 2 = off + (j * 3 + i * 3) + 2 by omega]; exact h3
theorem Rs.boxB {w0 W : World} {bs : List BxE} {rows : List RowE} (h : Rs w0 W bs rows) (a b c : Value) (T : TypeId) : ∃ WX g, W.alloc (.cells #[a, b, c] T) = WX ∧ W.heap.size = g ∧ Below W.heap.size W WX ∧ Rs w0 WX ((g, a, b, c) :: bs) rows := ⟨_, _, rfl, rfl, (Below.refl _ _).alloc (Nat.le_refl _) _, h.box a b c T⟩
theorem ustep {W W' : World} {u v : Value} {A G : List Int} (h : Rd W.heap.size W u (ints A) ∧ Rd W.heap.size W v (ints G)) (hb : Below W.heap.size W W') : Rd W'.heap.size W' u (ints A) ∧ Rd W'.heap.size W' v (ints G) :=
  ⟨(h.1.below hb (Nat.le_refl _)).mono hb.size, (h.2.below hb (Nat.le_refl _)).mono hb.size⟩
set_option maxHeartbeats 16000000 in
theorem regroup_any {B K1 K2 : Nat} {ty : TypeId} {x : Value} {lv dv xv : Value} {k p q : Int} {L D X F A G : List Int} {w : World} (ha : RdT B w lv dv xv L D X) (hB : B ≤ w.heap.size) (hn : LenT L D X) (hI : allI L) (hA : allI A) (hmf : F.length ≤ 1048576) (hmA : A.length ≤ 1048576) (hmG : G.length ≤ 1048576)
    (hk1 : ∀ (n : Nat) (W : World), (method (n + 1) ty x "loop.example/g03211/impl.from").run Tryz.prog W = .ok (K1, x) W)
    (hk2 : ∀ (n : Nat) (W : World), (method (n + 1) ty x "loop.example/g03211/impl.to").run Tryz.prog W = .ok (K2, x) W)
    (hk3 : ∀ (n : Nat) (W : World), (nilAhead (n + 1) ty x "loop.example/g03211/impl.to").run Tryz.prog W = .ok (some false) W)
    (hc1 : ∀ W : World, (callFunc K1 #[x]).run Tryz.prog W = .ok (.enter K1 #[x]) W)
    (hc2 : ∀ (W : World) (av : Value), (callFunc K2 #[x, av]).run Tryz.prog W = .ok (.enter K2 #[x, av]) W)
    (hfrom : ∀ W : World, Below w.heap.size w W → Calls Tryz.prog K1 #[x] W fun e W' => ∃ fv, e = .returned fv ∧ Below W.heap.size W W' ∧ Rd W'.heap.size W' fv (ints F))
    (hto : ∀ (W : World) (av : Value), Below w.heap.size w W → tensorB k p q L D X = true → SubV L F → RdA W.heap.size W av (AxTo L D F) → Calls Tryz.prog K2 #[x, av] W fun e W' => ∃ u v, e = .returned (.tuple #[u, v]) ∧ Below W.heap.size W W' ∧ Rd W'.heap.size W' u (ints A) ∧ Rd W'.heap.size W' v (ints G)) :
    Calls Tryz.prog 68 #[ringV k p q, tenV lv dv xv, .iface ty x] w (NewTen2 w (if regB k p q L D X F A G = true then restL F L ++ A else []) (if regB k p q L D X F A G = true then dimsVia L D (restL F L) ++ G else []) (if regB k p q L D X F A G = true then regX k q L D X F else []) (regB k p q L D X F A G)) := by
  have HT : Hid (RdT w.heap.size w lv dv xv L D X) := Lib.hid ⟨ha.l.mono hB, ha.d.mono hB, ha.x.mono hB⟩
  have HFR := Lib.hid hfrom
  have HTO := Lib.hid hto
  have HN := Lib.hid hn
  have HI := Lib.hid hI
  have HAI := Lib.hid hA
  have HLN := Lib.hid (And.intro hmf (And.intro hmA hmG))
  obtain ⟨al, cl, rfl, -⟩ := ints_form ha.l
  obtain ⟨ad, cd, rfl, -⟩ := ints_form ha.d
  obtain ⟨ax, cx, rfl, -⟩ := ints_form ha.x
  obtain ⟨m1, hm1⟩ : ∃ m, m = L.length := ⟨_, rfl⟩
  obtain ⟨m2, hm2⟩ : ∃ m, m = D.length := ⟨_, rfl⟩
  obtain ⟨m3, hm3⟩ : ∃ m, m = X.length := ⟨_, rfl⟩
  obtain ⟨mf, hmm⟩ : ∃ m, m = F.length := ⟨_, rfl⟩
  rw [← hm1, ← hm2, ← hm3] at HT
  rw [← hm1, ← hm2, ← hm3]
  have HM := Lib.hid (And.intro hm1 (And.intro hm2 (And.intro hm3 hmm)))
  have R0 : Hid (Rs w (((w.alloc (.cells #[.int .i64 k, .int .i64 p, .int .i64 q] 24)).alloc (.cells #[.slice al m1 cl, .slice ad m2 cd, .slice ax m3 cx] 28)).alloc (.cells #[nilV, nilV, nilV] 28)) [(w.heap.size + 1, .slice al m1 cl, .slice ad m2 cd, .slice ax m3 cx), (w.heap.size + 1 + 1, nilV, nilV, nilV), (w.heap.size, .int .i64 k, .int .i64 p, .int .i64 q)] []) := by
    have h := ((((Rs.start w).box (.int .i64 k) (.int .i64 p) (.int .i64 q) 24).box (.slice al m1 cl) (.slice ad m2 cd) (.slice ax m3 cx) 28).box (nilV) (nilV) (nilV) 28).swapB
    simp only [World.size_alloc] at h
    exact h
  have OKA := Lib.hid (fun (w1 : World) (hb : Below w.heap.size w w1) => tensor_ok_impl (k := k) (p := p) (n := q) (HT.out.below hb (Nat.le_refl _)) hb.size hn hI)
  obtain ⟨tb, htb⟩ : ∃ x, x = tensorB k p q L D X := ⟨_, rfl⟩
  obtain ⟨sb, hsb⟩ : ∃ x, x = subB L F := ⟨_, rfl⟩
  obtain ⟨s, hs⟩ : ∃ x, x = sizeI (restL F L ++ A) (dimsVia L D (restL F L) ++ G) := ⟨_, rfl⟩
  obtain ⟨fb, hfb⟩ : ∃ x, x = regB k p q L D X F A G := ⟨_, rfl⟩
  have HFB : Hid (fb = (tb && (sb && (decide (1 ≤ F.length) && (decide (1 ≤ A.length) && decide (s = prodL D)))))) := Lib.hid (by rw [hfb, htb, hsb, hs]; rfl)
  have HTB := Lib.hid htb
  have HSB := Lib.hid hsb
  have HS := Lib.hid hs
  rw [← htb] at OKA
  rw [← hfb]
  obtain ⟨zl, hzl⟩ : ∃ l, l = (if fb = true then restL F L ++ A else []) := ⟨_, rfl⟩
  obtain ⟨zd, hzd⟩ : ∃ l, l = (if fb = true then dimsVia L D (restL F L) ++ G else []) := ⟨_, rfl⟩
  obtain ⟨zx, hzx⟩ : ∃ l, l = (if fb = true then regX k q L D X F else []) := ⟨_, rfl⟩
  have HNO : Hid (fb = false → zl = [] ∧ zd = [] ∧ zx = []) := Lib.hid (fun h => by subst h; exact ⟨hzl, hzd, hzx⟩)
  have HYES : Hid (fb = true → zl = restL F L ++ A ∧ zd = dimsVia L D (restL F L) ++ G ∧ zx = regX k q L D X F) := Lib.hid (fun h => by subst h; exact ⟨hzl, hzd, hzx⟩)
  rw [← hzl, ← hzd, ← hzx]
  clear ha hB hn hI hA hfrom hto hm1 hm2 hm3 hmm htb hsb hs hfb hzl hzd hzx
  obtain ⟨⟨r0, r1, r2⟩, -⟩ := R0.out.at (r := w.heap.size) (a := .int .i64 k) (b := .int .i64 p) (c := .int .i64 q) (by simp)
  obtain ⟨⟨s0, s1, s2⟩, -⟩ := R0.out.at (r := w.heap.size + 1) (a := .slice al m1 cl) (b := .slice ad m2 cd) (c := .slice ax m3 cx) (by simp)
  cases tb with
  | false =>
    obtain rfl : fb = false := by rw [HFB.out]; rfl
    go_enter Tryz.func68, Tryz.ntmps68
    go_wp2_with fail
    refine (OKA.out _ R0.out.bel).mono ?_
    clear r0 r1 r2 s0 s1 s2
    rintro e w1 ⟨rfl, hb⟩
    have R1 := Lib.hid (R0.out.step hb)
    clear hb
    obtain ⟨rfl, rfl, rfl⟩ := HNO.out (by simp)
    obtain ⟨⟨t0, t1, t2⟩, f0, f1, f2⟩ := R1.out.at (r := w.heap.size + 1 + 1) (a := nilV) (b := nilV) (c := nilV) (by simp)
    go_wp2
    refine bodyPost_ret (v := .tuple #[tenV nilV nilV nilV, .bool false]) (by simp [results, Tryz.results68, go_sem, t0, t1, t2]) rfl ?_
    exact NewTen2.nils (((R1.out.bel.setCell (by simp; omega) _).setCell (by simp; omega) _).setCell (by simp; omega) _)
  | true =>
  have hq1 : ∀ (n : Nat) (W : World), 0 < n → (method n ty x "loop.example/g03211/impl.from").run Tryz.prog W = .ok (K1, x) W := fun n W h => by
    obtain ⟨n', rfl⟩ : ∃ n', n = n' + 1 := ⟨n - 1, by omega⟩
    exact hk1 n' W
  have hq2 : ∀ (n : Nat) (W : World), 0 < n → (method n ty x "loop.example/g03211/impl.to").run Tryz.prog W = .ok (K2, x) W := fun n W h => by
    obtain ⟨n', rfl⟩ : ∃ n', n = n' + 1 := ⟨n - 1, by omega⟩
    exact hk2 n' W
  have hq3 : ∀ (n : Nat) (W : World), 0 < n → (nilAhead n ty x "loop.example/g03211/impl.to").run Tryz.prog W = .ok (some false) W := fun n W h => by
    obtain ⟨n', rfl⟩ : ∃ n', n = n' + 1 := ⟨n - 1, by omega⟩
    exact hk3 n' W
  clear hk1 hk2 hk3
  have FT := Lib.hid (TF.of HTB.out.symm)
  have h12 : m1 ≤ 12 := by rw [HM.out.1]; exact FT.out.ax.1
  go_enter Tryz.func68, Tryz.ntmps68
  go_wp2_with fail
  refine (OKA.out _ R0.out.bel).mono ?_
  clear r0 r1 r2 s0 s1 s2
  rintro e w1 ⟨rfl, hb⟩
  have R1 := Lib.hid (R0.out.step hb)
  clear hb R0 OKA
  go_wp2_with fail
  refine (HFR.out _ R1.out.bel).mono ?_
  rintro e w2 ⟨fv, rfl, hb, hfd⟩
  obtain ⟨af, cf, rfl, -⟩ := ints_form hfd
  rw [← HM.out.2.2.2] at hfd ⊢
  have R2 := Lib.hid (R1.out.step hb)
  have hal := (Below.refl w2.heap.size w2).alloc (Nat.le_refl _) (.cells #[.slice af mf cf] 26)
  have RA := Lib.hid (R2.out.step hal)
  have hwz : w.heap.size + 1 + 1 < w2.heap.size := (R2.out.bx (w.heap.size + 1 + 1, nilV, nilV, nilV) (by simp)).lt
  have FA : Hid (FOk w (w2.alloc (.cells #[.slice af mf cf] 26)) w2.heap.size (.slice af mf cf) F) := Lib.hid ⟨by simp [World.cell?_alloc_at], (hfd.below hal (Nat.le_refl _)).mono hal.size, by simp, hwz⟩
  have HCL := Lib.hid (clone_any (HT.out.below RA.out.bel (Nat.le_refl _)).l RA.out.bel.size (by rw [← HM.out.1]; omega))
  obtain ⟨gf, hgf⟩ : ∃ g, g = w2.heap.size := ⟨_, rfl⟩
  obtain ⟨⟨s0, s1, s2⟩, -⟩ := RA.out.at (r := w.heap.size + 1) (a := .slice al m1 cl) (b := .slice ad m2 cd) (c := .slice ax m3 cx) (by simp)
  clear hb hfd hal R1
  go_wp2_with fail
  refine HCL.out.mono ?_
  clear s0 s1 s2 HCL
  rintro e w3 ⟨vR, rfl, ho, hb⟩
  have HLL : Hid (Own w3 (w2.alloc (.cells #[.slice af mf cf] 26)).heap.size w3.heap.size vR L) := Lib.hid ho
  have R3 := Lib.hid (RA.out.new hb ho)
  have F3 := Lib.hid (FA.out.step hb)
  have hFd3 := FA.out.rd.below hb (Nat.le_refl _)
  have HDL := Lib.hid (del_any ho (by rw [← HM.out.1]; omega) (by simp) F3.out.cell hFd3 (by rw [← HM.out.2.2.2]; have := HLN.out.1; rw [← HM.out.2.2.2] at this; omega))
  have HFD3 := Lib.hid hFd3
  have hwa : w.heap.size ≤ (w2.alloc (.cells #[.slice af mf cf] 26)).heap.size := by simp; omega
  have hw23 := hb.size
  clear ho hb RA FA hFd3 R2
  go_wp2_with fail
  refine HDL.out.mono ?_
  clear HDL
  rintro e w4 ⟨vS, rfl, ho2, hg2, hob⟩
  have R4 : Hid (Rs w w4 [(w.heap.size + 1, .slice al m1 cl, .slice ad m2 cd, .slice ax m3 cx), (w.heap.size + 1 + 1, nilV, nilV, nilV), (w.heap.size, .int .i64 k, .int .i64 p, .int .i64 q)] [(vS, restL F L)]) := Lib.hid (R3.out.rewrite2 hob (ownsRow_low ho2 hwa) hg2)
  have F4 : Hid (FOk w w4 gf (.slice af mf cf) F) := Lib.hid (by
    have hlo := HLL.out.lo
    subst hgf
    refine ⟨hg2.cell F3.out.cell (fun e => ?_), ((HFD3.out.kept hg2 hw23 hlo).mono (Nat.le_trans hw23 hg2.size)), Nat.lt_of_lt_of_le F3.out.lt hg2.size, F3.out.far⟩
    have h1 : (w2.alloc (.cells #[.slice af mf cf] 26)).heap.size ≤ w2.heap.size := hlo _ e.symm
    rw [World.size_alloc] at h1
    omega)
  obtain ⟨aR, cR, rfl, -⟩ := ints_form (R4.out.rd (v := vS) (xs := restL F L) (by simp))
  obtain ⟨nR, hnR⟩ : ∃ n, n = (restL F L).length := ⟨_, rfl⟩
  have hnr4 : nR ≤ 12 := by have h1 := rest_len F L; rw [← hnR, ← HM.out.1] at h1; omega
  have HNR := Lib.hid hnR
  rw [← hnR] at R4 ⊢
  rw [← hgf]
  clear ho2 hg2 hob R3 F3 HFD3 HLL hwa hw23 hgf hnR hwz
  have hpb : permB k p q L D X (regL L F) = sb := by
    unfold permB
    rw [← HTB.out, HSB.out, Bool.true_and, Bool.eq_iff_iff, setV_true, subB_true]
    exact rest_setV FT.out.ax.2.2.2.2
  have HPT := Lib.hid (fun (W : World) (gv : Value) (hb : Below w.heap.size w W) (hg : Rd W.heap.size W gv (ints (regL L F))) => permute_tensor_impl (k := k) (p := p) (q := q) (B := W.heap.size) ⟨(HT.out.below hb (Nat.le_refl _)).l.mono hb.size, (HT.out.below hb (Nat.le_refl _)).d.mono hb.size, (HT.out.below hb (Nat.le_refl _)).x.mono hb.size⟩ hg (Nat.le_refl _) HN.out (by unfold regL; rw [List.length_append, ← HNR.out]; have := HLN.out.1; omega) HI.out)
  rw [hpb] at HPT
  obtain ⟨pl, hpl⟩ : ∃ l, l = (if sb = true then regL L F else []) := ⟨_, rfl⟩
  obtain ⟨pd, hpd⟩ : ∃ l, l = (if sb = true then dimsVia L D (regL L F) else []) := ⟨_, rfl⟩
  obtain ⟨px, hpx⟩ : ∃ l, l = (if sb = true then permDataL k q L D X (regL L F) else []) := ⟨_, rfl⟩
  rw [← hpl, ← hpd, ← hpx] at HPT
  have HPY : Hid (sb = true → pl = regL L F ∧ pd = dimsVia L D (regL L F) ∧ px = regX k q L D X F) := Lib.hid (fun h => by subst h; exact ⟨hpl, hpd, hpx⟩)
  clear hpl hpd hpx hpb
  have RN := Lib.hid R4
  have RX := Lib.hid R4.out.drew
  have FN := Lib.hid F4
  have FX := Lib.hid (F4.out.step (Below.drew (Below.refl _ _)))
  have hfar := F4.out.far
  have HRL : Hid (restL F L ++ F = regL L F) := Lib.hid rfl
  have hmf1 : mf ≤ 1048576 := by rw [HM.out.2.2.2]; exact HLN.out.1
  clear R4 F4
  obtain ⟨⟨r0, r1, r2⟩, -⟩ := RX.out.at (r := w.heap.size) (a := .int .i64 k) (b := .int .i64 p) (c := .int .i64 q) (by simp)
  obtain ⟨⟨s0, s1, s2⟩, -⟩ := RX.out.at (r := w.heap.size + 1) (a := .slice al m1 cl) (b := .slice ad m2 cd) (c := .slice ax m3 cx) (by simp)
  have u0 := FX.out.cell
  go_upto_region 5 with fail
  go_cut [10] (fun o wx => ∃ (p1 : Option Addr) (h1 e1 : Nat) (p2 : Option Addr) (h2 e2 : Nat) (p3 : Option Addr) (h3 e3 : Nat), o = .bool sb ∧ gf < wx.heap.size ∧ Hid (wx.cell? ⟨gf, 0, none⟩ = some (.slice af mf cf)) ∧ Hid (Rs w wx [(w.heap.size + 1, .slice p1 h1 e1, .slice p2 h2 e2, .slice p3 h3 e3), (w.heap.size + 1 + 1, nilV, nilV, nilV), (w.heap.size, .int .i64 k, .int .i64 p, .int .i64 q)] [(.slice p1 h1 e1, pl), (.slice p2 h2 e2, pd), (.slice p3 h3 e3, px), (.slice aR nR cR, restL F L)]))
  case first =>
    refine wp_region_held_drew (S := (fun w' => (w'.cell? ⟨w.heap.size, 0, none⟩ = some (.int .i64 k) ∧ w'.cell? ⟨w.heap.size, 1, none⟩ = some (.int .i64 p) ∧ w'.cell? ⟨w.heap.size, 2, none⟩ = some (.int .i64 q)) ∧ w'.cell? ⟨gf, 0, none⟩ = some (.slice af mf cf))) (by kernel_rfl) (by (try dsimp only); with_reducible exact ⟨⟨r0, r1, r2⟩, u0⟩) (fun hHeld => ?_)
    refine wpAnyH_take (i := 0) (v := ?_) rfl (by kernel_rfl) (by kernel_rfl) (by kernel_rfl) (fun _ _ _ h => h) (Or.inl ⟨by rfl, ?_⟩) (by assumption) ?_
    rotate_left
    · intro w hSw; (try dsimp only at hSw); go_simp <;> with_reducible rfl
    try simp only [Act.put, List.getElem_toArray, List.getElem_cons_zero, List.setIfInBounds_toArray, List.set_cons_zero, List.set_cons_succ]
    refine wpAnyH_take (i := 2) (v := ?_) rfl (by kernel_rfl) (by kernel_rfl) (by kernel_rfl) (fun _ _ _ h => h) (Or.inl ⟨by rfl, ?_⟩) (by assumption) ?_
    rotate_left
    · intro w hSw; (try dsimp only at hSw); go_simp <;> with_reducible rfl
    try simp only [Act.put, List.getElem_toArray, List.getElem_cons_succ, List.getElem_cons_zero, List.setIfInBounds_toArray, List.set_cons_zero, List.set_cons_succ]
    refine wpAnyH_take (i := 3) (v := ?_) rfl (by kernel_rfl) (by kernel_rfl) (by kernel_rfl) (fun _ _ _ h => h) (Or.inl ⟨by rfl, ?_⟩) (by assumption) ?_
    rotate_left
    · intro w hSw; (try dsimp only at hSw); go_simp <;> with_reducible rfl
    try simp only [Act.put, List.getElem_toArray, List.getElem_cons_succ, List.getElem_cons_zero, List.setIfInBounds_toArray, List.set_cons_zero, List.set_cons_succ]
    refine wpAnyH_ready (rs := [1, 4]) (by kernel_rfl) (by simp) ?_
    refine AllReadyH.cons rfl (fun K hK => ?_) (AllReadyH.cons rfl (fun K hK => ?_) AllReadyH.nil)
    focus
      go_simp
      refine hK.out _ _ (by (try dsimp only); with_reducible exact ⟨⟨r0, r1, r2⟩, u0⟩) (fun hHeld => ?_)
      clear hK K
      try simp only [Act.put, List.getElem_toArray, List.getElem_cons_succ, List.getElem_cons_zero, List.setIfInBounds_toArray, List.set_cons_zero, List.set_cons_succ]
      refine wpAnyH_ready (rs := [4]) (by kernel_rfl) (by simp) ?_
      refine AllReadyH.cons rfl (fun K hK => ?_) AllReadyH.nil
      go_simp
      ((first | (obtain ⟨WX, gl, hW, hg, hbX, RXn, TW⟩ := RX.out.listX (RX.out.rd (v := .slice aR nR cR) (xs := restL F L) (by simp)) FX.out.rd; rw [hW]; (try rw [hg]); replace FX := Lib.hid (FX.out.step hbX)) | (obtain ⟨WZ, gl, hW, hg, hbX, RXn, TWz⟩ := RN.out.out.listX (RN.out.out.rd (v := .slice aR nR cR) (xs := restL F L) (by simp)) FN.out.out.rd; rw [hW]; (try rw [hg]); replace RXn := RXn.drew; have FZ := (FN.out.out.step hbX).step (Below.drew (Below.refl _ _)); have TW := TWz.below (Below.drew (Below.refl _ _)); clear hW hbX TWz; generalize WZ.drew = WX at RXn FZ TW ⊢; replace FX := Lib.hid FZ)); have HTW := Lib.hid TW; clear TW r0 r1 r2 s0 s1 s2 u0; replace RX := Lib.hid RXn; clear RXn; obtain ⟨⟨r0, r1, r2⟩, -⟩ := RX.out.at (r := w.heap.size) (a := .int .i64 k) (b := .int .i64 p) (c := .int .i64 q) (by simp); obtain ⟨⟨s0, s1, s2⟩, -⟩ := RX.out.at (r := w.heap.size + 1) (a := .slice al m1 cl) (b := .slice ad m2 cd) (c := .slice ax m3 cx) (by simp); have u0 := FX.out.cell)
      refine hK.out _ _ (by (try dsimp only); with_reducible exact ⟨⟨r0, r1, r2⟩, u0⟩) (fun hHeld => ?_)
      clear hK K
      try simp only [Act.put, List.getElem_toArray, List.getElem_cons_succ, List.getElem_cons_zero, List.setIfInBounds_toArray, List.set_cons_zero, List.set_cons_succ]
      refine wpAnyH_ready (rs := [5]) (by kernel_rfl) (by simp) ?_
      refine AllReadyH.cons rfl (fun K hK => ?_) AllReadyH.nil
      go_simp
      (go_at_call 43; refine (concat_two HTW.out (Nat.le_refl _) (by rw [← HNR.out, ← HM.out.2.2.2]; omega)).mono ?_; rw [HRL.out]; rintro e WX ⟨vC, rfl, ho, hb⟩; replace FX := Lib.hid (FX.out.step hb); clear r0 r1 r2 s0 s1 s2 u0; replace RX := Lib.hid (RX.out.new hb ho); clear ho hb; obtain ⟨⟨r0, r1, r2⟩, -⟩ := RX.out.at (r := w.heap.size) (a := .int .i64 k) (b := .int .i64 p) (c := .int .i64 q) (by simp); obtain ⟨⟨s0, s1, s2⟩, -⟩ := RX.out.at (r := w.heap.size + 1) (a := .slice al m1 cl) (b := .slice ad m2 cd) (c := .slice ax m3 cx) (by simp); have u0 := FX.out.cell)
      go_wp2_with fail
      refine hK.out _ _ (by (try dsimp only); with_reducible exact ⟨⟨r0, r1, r2⟩, u0⟩) (fun hHeld => ?_)
      clear hK K
      try simp only [Act.put, List.getElem_toArray, List.getElem_cons_succ, List.getElem_cons_zero, List.setIfInBounds_toArray, List.set_cons_zero, List.set_cons_succ]
      refine wpAnyH_ready (rs := [6]) (by kernel_rfl) (by simp) ?_
      refine AllReadyH.cons rfl (fun K hK => ?_) AllReadyH.nil
      go_simp
      (go_at_call 83; refine (HPT.out _ vC RX.out.bel (RX.out.rd (v := vC) (xs := regL L F) (by simp))).mono ?_; rintro e WX ⟨l', d', x', rfl, ho, hb⟩; obtain ⟨p1, h1, e1, rfl⟩ := Own.slice ho.rows.1; obtain ⟨p2, h2, e2, rfl⟩ := Own.slice ho.rows.2.1; obtain ⟨p3, h3, e3, rfl⟩ := Own.slice ho.rows.2.2; replace FX := Lib.hid (FX.out.step hb); clear r0 r1 r2 s0 s1 s2 u0; replace RX := Lib.hid (RX.out.new3 hb ho); clear ho hb; obtain ⟨⟨r0, r1, r2⟩, -⟩ := RX.out.at (r := w.heap.size) (a := .int .i64 k) (b := .int .i64 p) (c := .int .i64 q) (by simp); obtain ⟨⟨s0, s1, s2⟩, -⟩ := RX.out.at (r := w.heap.size + 1) (a := .slice al m1 cl) (b := .slice ad m2 cd) (c := .slice ax m3 cx) (by simp); have u0 := FX.out.cell)
      go_wp2_with fail
      refine hK.out _ _ (by (try dsimp only); with_reducible exact ⟨⟨r0, r1, r2⟩, u0⟩) (fun hHeld => ?_)
      clear hK K
      try simp only [Act.put, List.getElem_toArray, List.getElem_cons_succ, List.getElem_cons_zero, List.setIfInBounds_toArray, List.set_cons_zero, List.set_cons_succ]
      refine wpAnyH_take (i := 7) (v := ?_) rfl (by kernel_rfl) (by kernel_rfl) (by kernel_rfl) (fun _ _ _ h => h) (Or.inl ⟨by rfl, ?_⟩) (by assumption) ?_
      rotate_left
      · intro w hSw; (try dsimp only at hSw); go_simp <;> with_reducible rfl
      try simp only [Act.put, List.getElem_toArray, List.getElem_cons_succ, List.getElem_cons_zero, List.setIfInBounds_toArray, List.set_cons_zero, List.set_cons_succ]
      refine wpAnyH_take (i := 8) (v := ?_) rfl (by kernel_rfl) (by kernel_rfl) (by kernel_rfl) (fun _ _ _ h => h) (Or.inl ⟨by rfl, ?_⟩) (by assumption) ?_
      rotate_left
      · intro w hSw; (try dsimp only at hSw); go_simp <;> with_reducible rfl
      try simp only [Act.put, List.getElem_toArray, List.getElem_cons_succ, List.getElem_cons_zero, List.setIfInBounds_toArray, List.set_cons_zero, List.set_cons_succ]
      refine wpAnyH_take (i := 9) (v := ?_) rfl (by kernel_rfl) (by kernel_rfl) (by kernel_rfl) (fun _ _ _ h => h) (Or.inl ⟨by rfl, ?_⟩) (by assumption) ?_
      rotate_left
      · intro w hSw; (try dsimp only at hSw); go_simp <;> with_reducible rfl
      try simp only [Act.put, List.getElem_toArray, List.getElem_cons_succ, List.getElem_cons_zero, List.setIfInBounds_toArray, List.set_cons_zero, List.set_cons_succ]
      refine wpAnyH_ready (rs := [10]) (by kernel_rfl) (by simp) ?_
      refine AllReadyH.cons rfl (fun K hK => ?_) AllReadyH.nil
      (obtain ⟨⟨o0, o1, o2⟩, g0, g1, g2⟩ := RX.out.at List.mem_cons_self)
      go_simp
      (clear o0 o1 o2 g0 g1 g2 r0 r1 r2 s0 s1 s2; have u0 := set3_far (a := .slice p1 h1 e1) (b := .slice p2 h2 e2) (c := .slice p3 h3 e3) (show gf ≠ w.heap.size + 1 by omega) u0; replace RX := Lib.hid (RX.out.set3 (.slice p1 h1 e1) (.slice p2 h2 e2) (.slice p3 h3 e3)); obtain ⟨⟨r0, r1, r2⟩, -⟩ := RX.out.at (r := w.heap.size) (a := .int .i64 k) (b := .int .i64 p) (c := .int .i64 q) (by simp))
      refine hK.out _ _ (by (try dsimp only); with_reducible exact ⟨⟨r0, r1, r2⟩, u0⟩) (fun hHeld => ?_)
      clear hK K
      try simp only [Act.put, List.getElem_toArray, List.getElem_cons_succ, List.getElem_cons_zero, List.setIfInBounds_toArray, List.set_cons_zero, List.set_cons_succ]
      refine wpAnyH_take (i := 11) (v := ?_) rfl (by kernel_rfl) (by kernel_rfl) (by kernel_rfl) (fun _ _ _ h => h) (Or.inl ⟨by rfl, ?_⟩) (by assumption) ?_
      rotate_left
      · intro w hSw; (try dsimp only at hSw); go_simp <;> with_reducible rfl
      try simp only [Act.put, List.getElem_toArray, List.getElem_cons_succ, List.getElem_cons_zero, List.setIfInBounds_toArray, List.set_cons_zero, List.set_cons_succ]
      refine wpAnyH_done (by kernel_rfl) ?_ _
    rotate_left 1
    focus
      go_simp
      ((first | (obtain ⟨WX, gl, hW, hg, hbX, RXn, TW⟩ := RX.out.listX (RX.out.rd (v := .slice aR nR cR) (xs := restL F L) (by simp)) FX.out.rd; rw [hW]; (try rw [hg]); replace FX := Lib.hid (FX.out.step hbX)) | (obtain ⟨WZ, gl, hW, hg, hbX, RXn, TWz⟩ := RN.out.out.listX (RN.out.out.rd (v := .slice aR nR cR) (xs := restL F L) (by simp)) FN.out.out.rd; rw [hW]; (try rw [hg]); replace RXn := RXn.drew; have FZ := (FN.out.out.step hbX).step (Below.drew (Below.refl _ _)); have TW := TWz.below (Below.drew (Below.refl _ _)); clear hW hbX TWz; generalize WZ.drew = WX at RXn FZ TW ⊢; replace FX := Lib.hid FZ)); have HTW := Lib.hid TW; clear TW r0 r1 r2 s0 s1 s2 u0; replace RX := Lib.hid RXn; clear RXn; obtain ⟨⟨r0, r1, r2⟩, -⟩ := RX.out.at (r := w.heap.size) (a := .int .i64 k) (b := .int .i64 p) (c := .int .i64 q) (by simp); obtain ⟨⟨s0, s1, s2⟩, -⟩ := RX.out.at (r := w.heap.size + 1) (a := .slice al m1 cl) (b := .slice ad m2 cd) (c := .slice ax m3 cx) (by simp); have u0 := FX.out.cell)
      refine hK.out _ _ (by (try dsimp only); with_reducible exact ⟨⟨r0, r1, r2⟩, u0⟩) (fun hHeld => ?_)
      clear hK K
      try simp only [Act.put, List.getElem_toArray, List.getElem_cons_succ, List.getElem_cons_zero, List.setIfInBounds_toArray, List.set_cons_zero, List.set_cons_succ]
      refine wpAnyH_ready (rs := [1, 5]) (by kernel_rfl) (by simp) ?_
      refine AllReadyH.cons rfl (fun K hK => ?_) (AllReadyH.cons rfl (fun K hK => ?_) AllReadyH.nil)
      focus
        go_simp
        refine hK.out _ _ (by (try dsimp only); with_reducible exact ⟨⟨r0, r1, r2⟩, u0⟩) (fun hHeld => ?_)
        clear hK K
        try simp only [Act.put, List.getElem_toArray, List.getElem_cons_succ, List.getElem_cons_zero, List.setIfInBounds_toArray, List.set_cons_zero, List.set_cons_succ]
        refine wpAnyH_ready (rs := [5]) (by kernel_rfl) (by simp) ?_
        refine AllReadyH.cons rfl (fun K hK => ?_) AllReadyH.nil
        go_simp
        (go_at_call 43; refine (concat_two HTW.out (Nat.le_refl _) (by rw [← HNR.out, ← HM.out.2.2.2]; omega)).mono ?_; rw [HRL.out]; rintro e WX ⟨vC, rfl, ho, hb⟩; replace FX := Lib.hid (FX.out.step hb); clear r0 r1 r2 s0 s1 s2 u0; replace RX := Lib.hid (RX.out.new hb ho); clear ho hb; obtain ⟨⟨r0, r1, r2⟩, -⟩ := RX.out.at (r := w.heap.size) (a := .int .i64 k) (b := .int .i64 p) (c := .int .i64 q) (by simp); obtain ⟨⟨s0, s1, s2⟩, -⟩ := RX.out.at (r := w.heap.size + 1) (a := .slice al m1 cl) (b := .slice ad m2 cd) (c := .slice ax m3 cx) (by simp); have u0 := FX.out.cell)
        go_wp2_with fail
        refine hK.out _ _ (by (try dsimp only); with_reducible exact ⟨⟨r0, r1, r2⟩, u0⟩) (fun hHeld => ?_)
        clear hK K
        try simp only [Act.put, List.getElem_toArray, List.getElem_cons_succ, List.getElem_cons_zero, List.setIfInBounds_toArray, List.set_cons_zero, List.set_cons_succ]
        refine wpAnyH_ready (rs := [6]) (by kernel_rfl) (by simp) ?_
        refine AllReadyH.cons rfl (fun K hK => ?_) AllReadyH.nil
        go_simp
        (go_at_call 83; refine (HPT.out _ vC RX.out.bel (RX.out.rd (v := vC) (xs := regL L F) (by simp))).mono ?_; rintro e WX ⟨l', d', x', rfl, ho, hb⟩; obtain ⟨p1, h1, e1, rfl⟩ := Own.slice ho.rows.1; obtain ⟨p2, h2, e2, rfl⟩ := Own.slice ho.rows.2.1; obtain ⟨p3, h3, e3, rfl⟩ := Own.slice ho.rows.2.2; replace FX := Lib.hid (FX.out.step hb); clear r0 r1 r2 s0 s1 s2 u0; replace RX := Lib.hid (RX.out.new3 hb ho); clear ho hb; obtain ⟨⟨r0, r1, r2⟩, -⟩ := RX.out.at (r := w.heap.size) (a := .int .i64 k) (b := .int .i64 p) (c := .int .i64 q) (by simp); obtain ⟨⟨s0, s1, s2⟩, -⟩ := RX.out.at (r := w.heap.size + 1) (a := .slice al m1 cl) (b := .slice ad m2 cd) (c := .slice ax m3 cx) (by simp); have u0 := FX.out.cell)
        go_wp2_with fail
        refine hK.out _ _ (by (try dsimp only); with_reducible exact ⟨⟨r0, r1, r2⟩, u0⟩) (fun hHeld => ?_)
        clear hK K
        try simp only [Act.put, List.getElem_toArray, List.getElem_cons_succ, List.getElem_cons_zero, List.setIfInBounds_toArray, List.set_cons_zero, List.set_cons_succ]
        refine wpAnyH_take (i := 7) (v := ?_) rfl (by kernel_rfl) (by kernel_rfl) (by kernel_rfl) (fun _ _ _ h => h) (Or.inl ⟨by rfl, ?_⟩) (by assumption) ?_
        rotate_left
        · intro w hSw; (try dsimp only at hSw); go_simp <;> with_reducible rfl
        try simp only [Act.put, List.getElem_toArray, List.getElem_cons_succ, List.getElem_cons_zero, List.setIfInBounds_toArray, List.set_cons_zero, List.set_cons_succ]
        refine wpAnyH_take (i := 8) (v := ?_) rfl (by kernel_rfl) (by kernel_rfl) (by kernel_rfl) (fun _ _ _ h => h) (Or.inl ⟨by rfl, ?_⟩) (by assumption) ?_
        rotate_left
        · intro w hSw; (try dsimp only at hSw); go_simp <;> with_reducible rfl
        try simp only [Act.put, List.getElem_toArray, List.getElem_cons_succ, List.getElem_cons_zero, List.setIfInBounds_toArray, List.set_cons_zero, List.set_cons_succ]
        refine wpAnyH_take (i := 9) (v := ?_) rfl (by kernel_rfl) (by kernel_rfl) (by kernel_rfl) (fun _ _ _ h => h) (Or.inl ⟨by rfl, ?_⟩) (by assumption) ?_
        rotate_left
        · intro w hSw; (try dsimp only at hSw); go_simp <;> with_reducible rfl
        try simp only [Act.put, List.getElem_toArray, List.getElem_cons_succ, List.getElem_cons_zero, List.setIfInBounds_toArray, List.set_cons_zero, List.set_cons_succ]
        refine wpAnyH_ready (rs := [10]) (by kernel_rfl) (by simp) ?_
        refine AllReadyH.cons rfl (fun K hK => ?_) AllReadyH.nil
        (obtain ⟨⟨o0, o1, o2⟩, g0, g1, g2⟩ := RX.out.at List.mem_cons_self)
        go_simp
        (clear o0 o1 o2 g0 g1 g2 r0 r1 r2 s0 s1 s2; have u0 := set3_far (a := .slice p1 h1 e1) (b := .slice p2 h2 e2) (c := .slice p3 h3 e3) (show gf ≠ w.heap.size + 1 by omega) u0; replace RX := Lib.hid (RX.out.set3 (.slice p1 h1 e1) (.slice p2 h2 e2) (.slice p3 h3 e3)); obtain ⟨⟨r0, r1, r2⟩, -⟩ := RX.out.at (r := w.heap.size) (a := .int .i64 k) (b := .int .i64 p) (c := .int .i64 q) (by simp))
        refine hK.out _ _ (by (try dsimp only); with_reducible exact ⟨⟨r0, r1, r2⟩, u0⟩) (fun hHeld => ?_)
        clear hK K
        try simp only [Act.put, List.getElem_toArray, List.getElem_cons_succ, List.getElem_cons_zero, List.setIfInBounds_toArray, List.set_cons_zero, List.set_cons_succ]
        refine wpAnyH_take (i := 11) (v := ?_) rfl (by kernel_rfl) (by kernel_rfl) (by kernel_rfl) (fun _ _ _ h => h) (Or.inl ⟨by rfl, ?_⟩) (by assumption) ?_
        rotate_left
        · intro w hSw; (try dsimp only at hSw); go_simp <;> with_reducible rfl
        try simp only [Act.put, List.getElem_toArray, List.getElem_cons_succ, List.getElem_cons_zero, List.setIfInBounds_toArray, List.set_cons_zero, List.set_cons_succ]
        refine wpAnyH_done (by kernel_rfl) ?_ _
      rotate_left 1
      focus
        go_simp
        (go_at_call 43; refine (concat_two HTW.out (Nat.le_refl _) (by rw [← HNR.out, ← HM.out.2.2.2]; omega)).mono ?_; rw [HRL.out]; rintro e WX ⟨vC, rfl, ho, hb⟩; replace FX := Lib.hid (FX.out.step hb); clear r0 r1 r2 s0 s1 s2 u0; replace RX := Lib.hid (RX.out.new hb ho); clear ho hb; obtain ⟨⟨r0, r1, r2⟩, -⟩ := RX.out.at (r := w.heap.size) (a := .int .i64 k) (b := .int .i64 p) (c := .int .i64 q) (by simp); obtain ⟨⟨s0, s1, s2⟩, -⟩ := RX.out.at (r := w.heap.size + 1) (a := .slice al m1 cl) (b := .slice ad m2 cd) (c := .slice ax m3 cx) (by simp); have u0 := FX.out.cell)
        go_wp2_with fail
        refine hK.out _ _ (by (try dsimp only); with_reducible exact ⟨⟨r0, r1, r2⟩, u0⟩) (fun hHeld => ?_)
        clear hK K
        try simp only [Act.put, List.getElem_toArray, List.getElem_cons_succ, List.getElem_cons_zero, List.setIfInBounds_toArray, List.set_cons_zero, List.set_cons_succ]
        refine wpAnyH_ready (rs := [1]) (by kernel_rfl) (by simp) ?_
        refine AllReadyH.cons rfl (fun K hK => ?_) AllReadyH.nil
        go_simp
        refine hK.out _ _ (by (try dsimp only); with_reducible exact ⟨⟨r0, r1, r2⟩, u0⟩) (fun hHeld => ?_)
        clear hK K
        try simp only [Act.put, List.getElem_toArray, List.getElem_cons_succ, List.getElem_cons_zero, List.setIfInBounds_toArray, List.set_cons_zero, List.set_cons_succ]
        refine wpAnyH_ready (rs := [6]) (by kernel_rfl) (by simp) ?_
        refine AllReadyH.cons rfl (fun K hK => ?_) AllReadyH.nil
        go_simp
        (go_at_call 83; refine (HPT.out _ vC RX.out.bel (RX.out.rd (v := vC) (xs := regL L F) (by simp))).mono ?_; rintro e WX ⟨l', d', x', rfl, ho, hb⟩; obtain ⟨p1, h1, e1, rfl⟩ := Own.slice ho.rows.1; obtain ⟨p2, h2, e2, rfl⟩ := Own.slice ho.rows.2.1; obtain ⟨p3, h3, e3, rfl⟩ := Own.slice ho.rows.2.2; replace FX := Lib.hid (FX.out.step hb); clear r0 r1 r2 s0 s1 s2 u0; replace RX := Lib.hid (RX.out.new3 hb ho); clear ho hb; obtain ⟨⟨r0, r1, r2⟩, -⟩ := RX.out.at (r := w.heap.size) (a := .int .i64 k) (b := .int .i64 p) (c := .int .i64 q) (by simp); obtain ⟨⟨s0, s1, s2⟩, -⟩ := RX.out.at (r := w.heap.size + 1) (a := .slice al m1 cl) (b := .slice ad m2 cd) (c := .slice ax m3 cx) (by simp); have u0 := FX.out.cell)
        go_wp2_with fail
        refine hK.out _ _ (by (try dsimp only); with_reducible exact ⟨⟨r0, r1, r2⟩, u0⟩) (fun hHeld => ?_)
        clear hK K
        try simp only [Act.put, List.getElem_toArray, List.getElem_cons_succ, List.getElem_cons_zero, List.setIfInBounds_toArray, List.set_cons_zero, List.set_cons_succ]
        refine wpAnyH_take (i := 7) (v := ?_) rfl (by kernel_rfl) (by kernel_rfl) (by kernel_rfl) (fun _ _ _ h => h) (Or.inl ⟨by rfl, ?_⟩) (by assumption) ?_
        rotate_left
        · intro w hSw; (try dsimp only at hSw); go_simp <;> with_reducible rfl
        try simp only [Act.put, List.getElem_toArray, List.getElem_cons_succ, List.getElem_cons_zero, List.setIfInBounds_toArray, List.set_cons_zero, List.set_cons_succ]
        refine wpAnyH_take (i := 8) (v := ?_) rfl (by kernel_rfl) (by kernel_rfl) (by kernel_rfl) (fun _ _ _ h => h) (Or.inl ⟨by rfl, ?_⟩) (by assumption) ?_
        rotate_left
        · intro w hSw; (try dsimp only at hSw); go_simp <;> with_reducible rfl
        try simp only [Act.put, List.getElem_toArray, List.getElem_cons_succ, List.getElem_cons_zero, List.setIfInBounds_toArray, List.set_cons_zero, List.set_cons_succ]
        refine wpAnyH_take (i := 9) (v := ?_) rfl (by kernel_rfl) (by kernel_rfl) (by kernel_rfl) (fun _ _ _ h => h) (Or.inl ⟨by rfl, ?_⟩) (by assumption) ?_
        rotate_left
        · intro w hSw; (try dsimp only at hSw); go_simp <;> with_reducible rfl
        try simp only [Act.put, List.getElem_toArray, List.getElem_cons_succ, List.getElem_cons_zero, List.setIfInBounds_toArray, List.set_cons_zero, List.set_cons_succ]
        refine wpAnyH_ready (rs := [10]) (by kernel_rfl) (by simp) ?_
        refine AllReadyH.cons rfl (fun K hK => ?_) AllReadyH.nil
        (obtain ⟨⟨o0, o1, o2⟩, g0, g1, g2⟩ := RX.out.at List.mem_cons_self)
        go_simp
        (clear o0 o1 o2 g0 g1 g2 r0 r1 r2 s0 s1 s2; have u0 := set3_far (a := .slice p1 h1 e1) (b := .slice p2 h2 e2) (c := .slice p3 h3 e3) (show gf ≠ w.heap.size + 1 by omega) u0; replace RX := Lib.hid (RX.out.set3 (.slice p1 h1 e1) (.slice p2 h2 e2) (.slice p3 h3 e3)); obtain ⟨⟨r0, r1, r2⟩, -⟩ := RX.out.at (r := w.heap.size) (a := .int .i64 k) (b := .int .i64 p) (c := .int .i64 q) (by simp))
        refine hK.out _ _ (by (try dsimp only); with_reducible exact ⟨⟨r0, r1, r2⟩, u0⟩) (fun hHeld => ?_)
        clear hK K
        try simp only [Act.put, List.getElem_toArray, List.getElem_cons_succ, List.getElem_cons_zero, List.setIfInBounds_toArray, List.set_cons_zero, List.set_cons_succ]
        refine wpAnyH_take (i := 11) (v := ?_) rfl (by kernel_rfl) (by kernel_rfl) (by kernel_rfl) (fun _ _ _ h => h) (Or.inl ⟨by rfl, ?_⟩) (by assumption) ?_
        rotate_left
        · intro w hSw; (try dsimp only at hSw); go_simp <;> with_reducible rfl
        try simp only [Act.put, List.getElem_toArray, List.getElem_cons_succ, List.getElem_cons_zero, List.setIfInBounds_toArray, List.set_cons_zero, List.set_cons_succ]
        refine wpAnyH_done (by kernel_rfl) ?_ _
      rotate_left 1
    rotate_left 2
    all_goals
      clear r0 r1 r2
      have flt : gf < (((WX.setCell ⟨w.heap.size + 1, 0, none⟩ (.slice p1 h1 e1)).setCell ⟨w.heap.size + 1, 1, none⟩ (.slice p2 h2 e2)).setCell ⟨w.heap.size + 1, 2, none⟩ (.slice p3 h3 e3)).heap.size := by simp; exact FX.out.lt
      go_wp2_with fail
      go_meet
      exact ⟨p1, h1, e1, p2, h2, e2, p3, h3, e3, rfl, flt, Lib.hid u0, Lib.hid (RX.out.sub (List.Sublist.cons_cons _ (List.Sublist.cons_cons _ (List.Sublist.cons_cons _ (List.Sublist.cons _ (List.Sublist.refl _))))))⟩
  case rest =>
    obtain ⟨p1, h1, e1, p2, h2, e2, p3, h3, e3, rfl, flt, U0, R5⟩ := hcut
    have u0 := U0.out
    clear U0 RX RN FX FN HPT r0 r1 r2 s0 s1 s2
    cases sb with
    | false =>
      obtain rfl : fb = false := by rw [HFB.out]; rfl
      obtain ⟨rfl, rfl, rfl⟩ := HNO.out (by simp)
      obtain ⟨⟨t0, t1, t2⟩, f0, f1, f2⟩ := R5.out.at (r := w.heap.size + 1 + 1) (a := nilV) (b := nilV) (c := nilV) (by simp)
      go_wp2
      refine bodyPost_ret (v := .tuple #[tenV nilV nilV nilV, .bool false]) (by simp [results, Tryz.results68, go_sem, t0, t1, t2]) rfl ?_
      exact NewTen2.nils (((R5.out.bel.setCell (by simp; omega) _).setCell (by simp; omega) _).setCell (by simp; omega) _)
    | true =>
      obtain ⟨rfl, rfl, rfl⟩ := HPY.out rfl
      have HSV := Lib.hid (subB_true.1 HSB.out.symm)
      have hP := PF.of HTB.out.symm ((rest_setV FT.out.ax.2.2.2.2).2 HSV.out)
      have hrl : (regL L F).length = nR + mf := by unfold regL; rw [List.length_append, ← HNR.out, ← HM.out.2.2.2]
      have hmr : nR + mf = m1 := by rw [← hrl, hP.lG, HM.out.1]
      have hdl : (dimsVia L D (regL L F)).length = nR + mf := by rw [dimsVia_len, hrl]
      obtain ⟨mm, hmm⟩ : ∃ mm, mm = nR + mf := ⟨_, rfl⟩
      obtain ⟨hn1, hn2, hn3⟩ : h1 = mm ∧ h2 = mm ∧ h3 = (regX k q L D X F).length := by
        obtain ⟨_, _, g1, -⟩ := ints_form (R5.out.rd (v := .slice p1 h1 e1) (xs := regL L F) (by simp))
        obtain ⟨_, _, g2, -⟩ := ints_form (R5.out.rd (v := .slice p2 h2 e2) (xs := dimsVia L D (regL L F)) (by simp))
        obtain ⟨_, _, g3, -⟩ := ints_form (R5.out.rd (v := .slice p3 h3 e3) (xs := regX k q L D X F) (by simp))
        simp only [Value.slice.injEq] at g1 g2 g3
        exact ⟨by rw [g1.2.1, hrl, hmm], by rw [g2.2.1, hdl, hmm], g3.2.1⟩
      subst hn1
      have hn2' := hn2.symm
      clear hn2
      subst hn2'
      have HN3 := Lib.hid hn3
      have HMM : Hid (h1 = nR + mf ∧ h1 = m1) := Lib.hid ⟨hmm, by rw [hmm, hmr]⟩
      have hm12 : h1 ≤ 12 := by omega
      have HAX := Lib.hid (fun (W : World) (h : RdT W.heap.size W (.slice p1 h1 e1) (.slice p2 h1 e2) (.slice p3 h3 e3) (regL L F) (dimsVia L D (regL L F)) (regX k q L D X F)) (h0 : 0 < W.heap.size) => axes_made h (Nat.le_refl _) h0 (by rw [hrl, hdl]) (by rw [hrl]; omega) hP.dims.1 (by rw [hP.dims.2.1]; have := hP.n1; omega))
      have HLA : Hid ((axesL (regL L F) (dimsVia L D (regL L F))).length = h1) := Lib.hid (by rw [axesL_len, hrl, hmm])
      have HPF := Lib.hid hP
      have HRD := Lib.hid (And.intro hrl hdl)
      have hle : nR ≤ h1 := by omega
      clear hP hrl hmr hdl hmm hn3
      have RX := R5
      clear R5
      obtain ⟨⟨s0, s1, s2⟩, -⟩ := RX.out.at (r := w.heap.size + 1) (a := .slice p1 h1 e1) (b := .slice p2 h1 e2) (c := .slice p3 h3 e3) (by simp)
      by_cases hf0 : mf = 0
      · obtain rfl : mf = 0 := hf0
        obtain rfl : h1 = nR := by rw [HMM.out.1, Nat.add_zero]
        obtain rfl : fb = false := by rw [HFB.out, decide_eq_false (show ¬ 1 ≤ F.length by rw [← HM.out.2.2.2]; omega)]; simp
        have HAZ : Hid (AxTo L D F = []) := Lib.hid (by unfold AxTo; exact List.drop_of_length_le (by rw [HLA.out, ← HNR.out]; exact Nat.le_refl _))
        replace RX := Lib.hid RX.out.drew
        clear s0 s1 s2
        obtain ⟨⟨s0, s1, s2⟩, -⟩ := RX.out.at (r := w.heap.size + 1) (a := .slice p1 h1 e1) (b := .slice p2 h1 e2) (c := .slice p3 h3 e3) (by simp)
        replace u0 : wc.drew.cell? ⟨gf, 0, none⟩ = some (.slice af 0 cf) := u0
        replace flt : gf < wc.drew.heap.size := flt
        go_wp2
        refine wp_region_held_drew (S := (fun w' => (w'.cell? ⟨w.heap.size + 1, 0, none⟩ = some (.slice p1 h1 e1) ∧ w'.cell? ⟨w.heap.size + 1, 1, none⟩ = some (.slice p2 h1 e2) ∧ w'.cell? ⟨w.heap.size + 1, 2, none⟩ = some (.slice p3 h3 e3)))) (by kernel_rfl) (by (try dsimp only); with_reducible exact ⟨s0, s1, s2⟩) (fun hHeld => ?_)
        refine wpAnyH_take (i := 0) (v := ?_) rfl (by kernel_rfl) (by kernel_rfl) (by kernel_rfl) (fun _ _ _ h => h) (Or.inl ⟨by rfl, ?_⟩) (by assumption) ?_
        rotate_left
        · intro w hSw; (try dsimp only at hSw); go_simp <;> with_reducible rfl
        try simp only [Act.put, List.getElem_toArray, List.getElem_cons_zero, List.setIfInBounds_toArray, List.set_cons_zero, List.set_cons_succ]
        refine wpAnyH_take (i := 1) (v := ?_) rfl (by kernel_rfl) (by kernel_rfl) (by kernel_rfl) (fun _ _ _ h => h) (Or.inl ⟨by rfl, ?_⟩) (by assumption) ?_
        rotate_left
        · intro w hSw; (try dsimp only at hSw); go_simp <;> with_reducible rfl
        try simp only [Act.put, List.getElem_toArray, List.getElem_cons_succ, List.getElem_cons_zero, List.setIfInBounds_toArray, List.set_cons_zero, List.set_cons_succ]
        refine wpAnyH_take (i := 3) (v := ?_) rfl (by kernel_rfl) (by kernel_rfl) (by kernel_rfl) (fun _ _ _ h => h) (Or.inl ⟨by rfl, ?_⟩) (by assumption) ?_
        rotate_left
        · intro w hSw; (try dsimp only at hSw); go_simp <;> with_reducible rfl
        try simp only [Act.put, List.getElem_toArray, List.getElem_cons_succ, List.getElem_cons_zero, List.setIfInBounds_toArray, List.set_cons_zero, List.set_cons_succ]
        refine wpAnyH_take (i := 4) (v := ?_) rfl (by kernel_rfl) (by kernel_rfl) (by kernel_rfl) (fun _ _ _ h => h) (Or.inl ⟨by rfl, ?_⟩) (by assumption) ?_
        rotate_left
        · intro w hSw; (try dsimp only at hSw); go_simp <;> with_reducible rfl
        try simp only [Act.put, List.getElem_toArray, List.getElem_cons_succ, List.getElem_cons_zero, List.setIfInBounds_toArray, List.set_cons_zero, List.set_cons_succ]
        refine wpAnyH_take (i := 6) (v := ?_) rfl (by kernel_rfl) (by kernel_rfl) (by kernel_rfl) (fun _ _ _ h => h) (Or.inl ⟨by rfl, ?_⟩) (by assumption) ?_
        rotate_left
        · intro w hSw; (try dsimp only at hSw); go_simp <;> with_reducible rfl
        try simp only [Act.put, List.getElem_toArray, List.getElem_cons_succ, List.getElem_cons_zero, List.setIfInBounds_toArray, List.set_cons_zero, List.set_cons_succ]
        refine wpAnyH_take (i := 7) (v := ?_) rfl (by kernel_rfl) (by kernel_rfl) (by kernel_rfl) (fun _ _ _ h => h) (Or.inl ⟨by rfl, ?_⟩) (by assumption) ?_
        rotate_left
        · intro w hSw; (try dsimp only at hSw); go_simp <;> with_reducible rfl
        try simp only [Act.put, List.getElem_toArray, List.getElem_cons_succ, List.getElem_cons_zero, List.setIfInBounds_toArray, List.set_cons_zero, List.set_cons_succ]
        refine wpAnyH_take (i := 8) (v := ?_) rfl (by kernel_rfl) (by kernel_rfl) (by kernel_rfl) (fun _ _ _ h => h) (Or.inl ⟨by rfl, ?_⟩) (by assumption) ?_
        rotate_left
        · intro w hSw; (try dsimp only at hSw); go_simp <;> with_reducible rfl
        try simp only [Act.put, List.getElem_toArray, List.getElem_cons_succ, List.getElem_cons_zero, List.setIfInBounds_toArray, List.set_cons_zero, List.set_cons_succ]
        refine wpAnyH_ready (rs := [2]) (by kernel_rfl) (by simp) ?_
        refine AllReadyH.cons rfl (fun K hK => ?_) AllReadyH.nil
        go_simp
        (go_at_call 50; refine (HAX.out _ ⟨RX.out.rd (v := .slice p1 h1 e1) (by simp), RX.out.rd (v := .slice p2 h1 e2) (by simp), RX.out.rd (v := .slice p3 h3 e3) (by simp)⟩ (Nat.lt_of_le_of_lt (Nat.zero_le _) flt)).mono ?_; rintro e WX ⟨ga, rfl, ho, hb⟩; have RA := Lib.hid (OwnA.rd ho); rw [HLA.out] at RA ⊢; replace u0 := (hb.cell (p := ⟨gf, 0, none⟩) flt).trans u0; replace flt := Nat.lt_of_lt_of_le flt hb.size; clear s0 s1 s2; replace RX := Lib.hid (RX.out.step hb); clear ho hb; obtain ⟨⟨s0, s1, s2⟩, -⟩ := RX.out.at (r := w.heap.size + 1) (a := .slice p1 h1 e1) (b := .slice p2 h1 e2) (c := .slice p3 h3 e3) (by simp))
        go_wp2_with fail
        refine hK.out _ _ (by (try dsimp only); with_reducible exact ⟨s0, s1, s2⟩) (fun hHeld => ?_)
        clear hK K
        try simp only [Act.put, List.getElem_toArray, List.getElem_cons_succ, List.getElem_cons_zero, List.setIfInBounds_toArray, List.set_cons_zero, List.set_cons_succ]
        refine wpAnyH_take (i := 5) (v := ?_) rfl (by kernel_rfl) (by kernel_rfl) (by kernel_rfl) (fun _ _ _ h => h) (Or.inl ⟨by rfl, ?_⟩) (by assumption) ?_
        rotate_left
        · intro w hSw; (try dsimp only at hSw); go_simp <;> with_reducible rfl
        try simp only [Act.put, List.getElem_toArray, List.getElem_cons_succ, List.getElem_cons_zero, List.setIfInBounds_toArray, List.set_cons_zero, List.set_cons_succ]
        refine wpAnyH_ready (rs := [9]) (by kernel_rfl) (by simp) ?_
        refine AllReadyH.cons rfl (fun K hK => ?_) AllReadyH.nil
        go_simp
        (refine (HTO.out _ _ RX.out.bel HTB.out.symm HSV.out (.inl ⟨HAZ.out, _, _, rfl⟩)).mono ?_; rintro e WX ⟨u, v, rfl, hb, hu, hv⟩; replace u0 := (hb.cell (p := ⟨gf, 0, none⟩) flt).trans u0; replace flt := Nat.lt_of_lt_of_le flt hb.size; clear s0 s1 s2; replace RX := Lib.hid (RX.out.step hb); clear hb; obtain ⟨⟨s0, s1, s2⟩, -⟩ := RX.out.at (r := w.heap.size + 1) (a := .slice p1 h1 e1) (b := .slice p2 h1 e2) (c := .slice p3 h3 e3) (by simp))
        go_wp2_with fail
        refine hK.out _ _ (by (try dsimp only); with_reducible exact ⟨s0, s1, s2⟩) (fun hHeld => ?_)
        clear hK K
        try simp only [Act.put, List.getElem_toArray, List.getElem_cons_succ, List.getElem_cons_zero, List.setIfInBounds_toArray, List.set_cons_zero, List.set_cons_succ]
        refine wpAnyH_take (i := 10) (v := ?_) rfl (by kernel_rfl) (by kernel_rfl) (by kernel_rfl) (fun _ _ _ h => h) (Or.inl ⟨by rfl, ?_⟩) (by assumption) ?_
        rotate_left
        · intro w hSw; (try dsimp only at hSw); go_simp <;> with_reducible rfl
        try simp only [Act.put, List.getElem_toArray, List.getElem_cons_succ, List.getElem_cons_zero, List.setIfInBounds_toArray, List.set_cons_zero, List.set_cons_succ]
        refine wpAnyH_take (i := 11) (v := ?_) rfl (by kernel_rfl) (by kernel_rfl) (by kernel_rfl) (fun _ _ _ h => h) (Or.inl ⟨by rfl, ?_⟩) (by assumption) ?_
        rotate_left
        · intro w hSw; (try dsimp only at hSw); go_simp <;> with_reducible rfl
        try simp only [Act.put, List.getElem_toArray, List.getElem_cons_succ, List.getElem_cons_zero, List.setIfInBounds_toArray, List.set_cons_zero, List.set_cons_succ]
        refine wpAnyH_take (i := 12) (v := ?_) rfl (by kernel_rfl) (by kernel_rfl) (by kernel_rfl) (fun _ _ _ h => h) (Or.inl ⟨by rfl, ?_⟩) (by assumption) ?_
        rotate_left
        · intro w hSw; (try dsimp only at hSw); go_simp <;> with_reducible rfl
        try simp only [Act.put, List.getElem_toArray, List.getElem_cons_succ, List.getElem_cons_zero, List.setIfInBounds_toArray, List.set_cons_zero, List.set_cons_succ]
        refine wpAnyH_take (i := 13) (v := ?_) rfl (by kernel_rfl) (by kernel_rfl) (by kernel_rfl) (fun _ _ _ h => h) (Or.inl ⟨by rfl, ?_⟩) (by assumption) ?_
        rotate_left
        · intro w hSw; (try dsimp only at hSw); go_simp <;> with_reducible rfl
        try simp only [Act.put, List.getElem_toArray, List.getElem_cons_succ, List.getElem_cons_zero, List.setIfInBounds_toArray, List.set_cons_zero, List.set_cons_succ]
        refine wpAnyH_take (i := 14) (v := ?_) rfl (by kernel_rfl) (by kernel_rfl) (by kernel_rfl) (fun _ _ _ h => h) (Or.inl ⟨by rfl, ?_⟩) (by assumption) ?_
        rotate_left
        · intro w hSw; (try dsimp only at hSw); go_simp <;> with_reducible rfl
        try simp only [Act.put, List.getElem_toArray, List.getElem_cons_succ, List.getElem_cons_zero, List.setIfInBounds_toArray, List.set_cons_zero, List.set_cons_succ]
        refine wpAnyH_done (by kernel_rfl) ?_ _
        clear s0 s1 s2
        obtain ⟨rfl, rfl, rfl⟩ := HNO.out (by simp)
        obtain ⟨⟨t0, t1, t2⟩, f0, f1, f2⟩ := RX.out.at (r := w.heap.size + 1 + 1) (a := nilV) (b := nilV) (c := nilV) (by simp)
        go_wp2
        refine bodyPost_ret (v := .tuple #[tenV nilV nilV nilV, .bool false]) (by simp [results, Tryz.results68, go_sem, t0, t1, t2]) rfl ?_
        exact NewTen2.nils (((RX.out.bel.setCell (by simp; omega) _).setCell (by simp; omega) _).setCell (by simp; omega) _)
      · have hf1 : 1 ≤ mf := by omega
        have hne1 : ¬ h1 = nR := by have := HMM.out.1; omega
        have hne2 : ¬ nR = h1 := by omega
        have HAD : Hid (AxTo L D F = (axesL (regL L F) (dimsVia L D (regL L F))).drop nR) := Lib.hid (by unfold AxTo; rw [← HNR.out])
        obtain ⟨mA, hmA⟩ : ∃ m, m = A.length := ⟨_, rfl⟩
        obtain ⟨mG, hmG⟩ : ∃ m, m = G.length := ⟨_, rfl⟩
        have HAG := Lib.hid (And.intro hmA hmG)
        have q5 : ((mf : Int) == 0) = false := by simp; omega
        clear hmA hmG
        replace RX := Lib.hid RX.out.drew
        clear s0 s1 s2
        obtain ⟨⟨s0, s1, s2⟩, -⟩ := RX.out.at (r := w.heap.size + 1) (a := .slice p1 h1 e1) (b := .slice p2 h1 e2) (c := .slice p3 h3 e3) (by simp)
        replace u0 : wc.drew.cell? ⟨gf, 0, none⟩ = some (.slice af mf cf) := u0
        replace flt : gf < wc.drew.heap.size := flt
        go_wp2
        refine wp_region_held_drew (S := (fun w' => (w'.cell? ⟨w.heap.size + 1, 0, none⟩ = some (.slice p1 h1 e1) ∧ w'.cell? ⟨w.heap.size + 1, 1, none⟩ = some (.slice p2 h1 e2) ∧ w'.cell? ⟨w.heap.size + 1, 2, none⟩ = some (.slice p3 h3 e3)))) (by kernel_rfl) (by (try dsimp only); with_reducible exact ⟨s0, s1, s2⟩) (fun hHeld => ?_)
        refine wpAnyH_take (i := 0) (v := ?_) rfl (by kernel_rfl) (by kernel_rfl) (by kernel_rfl) (fun _ _ _ h => h) (Or.inl ⟨by rfl, ?_⟩) (by assumption) ?_
        rotate_left
        · intro w hSw; (try dsimp only at hSw); go_simp <;> with_reducible rfl
        try simp only [Act.put, List.getElem_toArray, List.getElem_cons_zero, List.setIfInBounds_toArray, List.set_cons_zero, List.set_cons_succ]
        refine wpAnyH_take (i := 1) (v := ?_) rfl (by kernel_rfl) (by kernel_rfl) (by kernel_rfl) (fun _ _ _ h => h) (Or.inl ⟨by rfl, ?_⟩) (by assumption) ?_
        rotate_left
        · intro w hSw; (try dsimp only at hSw); go_simp <;> with_reducible rfl
        try simp only [Act.put, List.getElem_toArray, List.getElem_cons_succ, List.getElem_cons_zero, List.setIfInBounds_toArray, List.set_cons_zero, List.set_cons_succ]
        refine wpAnyH_take (i := 3) (v := ?_) rfl (by kernel_rfl) (by kernel_rfl) (by kernel_rfl) (fun _ _ _ h => h) (Or.inl ⟨by rfl, ?_⟩) (by assumption) ?_
        rotate_left
        · intro w hSw; (try dsimp only at hSw); go_simp <;> with_reducible rfl
        try simp only [Act.put, List.getElem_toArray, List.getElem_cons_succ, List.getElem_cons_zero, List.setIfInBounds_toArray, List.set_cons_zero, List.set_cons_succ]
        refine wpAnyH_take (i := 4) (v := ?_) rfl (by kernel_rfl) (by kernel_rfl) (by kernel_rfl) (fun _ _ _ h => h) (Or.inl ⟨by rfl, ?_⟩) (by assumption) ?_
        rotate_left
        · intro w hSw; (try dsimp only at hSw); go_simp <;> with_reducible rfl
        try simp only [Act.put, List.getElem_toArray, List.getElem_cons_succ, List.getElem_cons_zero, List.setIfInBounds_toArray, List.set_cons_zero, List.set_cons_succ]
        refine wpAnyH_take (i := 6) (v := ?_) rfl (by kernel_rfl) (by kernel_rfl) (by kernel_rfl) (fun _ _ _ h => h) (Or.inl ⟨by rfl, ?_⟩) (by assumption) ?_
        rotate_left
        · intro w hSw; (try dsimp only at hSw); go_simp <;> with_reducible rfl
        try simp only [Act.put, List.getElem_toArray, List.getElem_cons_succ, List.getElem_cons_zero, List.setIfInBounds_toArray, List.set_cons_zero, List.set_cons_succ]
        refine wpAnyH_take (i := 7) (v := ?_) rfl (by kernel_rfl) (by kernel_rfl) (by kernel_rfl) (fun _ _ _ h => h) (Or.inl ⟨by rfl, ?_⟩) (by assumption) ?_
        rotate_left
        · intro w hSw; (try dsimp only at hSw); go_simp <;> with_reducible rfl
        try simp only [Act.put, List.getElem_toArray, List.getElem_cons_succ, List.getElem_cons_zero, List.setIfInBounds_toArray, List.set_cons_zero, List.set_cons_succ]
        refine wpAnyH_take (i := 8) (v := ?_) rfl (by kernel_rfl) (by kernel_rfl) (by kernel_rfl) (fun _ _ _ h => h) (Or.inl ⟨by rfl, ?_⟩) (by assumption) ?_
        rotate_left
        · intro w hSw; (try dsimp only at hSw); go_simp <;> with_reducible rfl
        try simp only [Act.put, List.getElem_toArray, List.getElem_cons_succ, List.getElem_cons_zero, List.setIfInBounds_toArray, List.set_cons_zero, List.set_cons_succ]
        refine wpAnyH_ready (rs := [2]) (by kernel_rfl) (by simp) ?_
        refine AllReadyH.cons rfl (fun K hK => ?_) AllReadyH.nil
        go_simp
        (go_at_call 50; refine (HAX.out _ ⟨RX.out.rd (v := .slice p1 h1 e1) (by simp), RX.out.rd (v := .slice p2 h1 e2) (by simp), RX.out.rd (v := .slice p3 h3 e3) (by simp)⟩ (Nat.lt_of_le_of_lt (Nat.zero_le _) flt)).mono ?_; rintro e WX ⟨ga, rfl, ho, hb⟩; have RA0 := Lib.hid ((OwnA.rd ho).drop nR (by rw [HLA.out]; omega)); rw [HLA.out, Nat.zero_add] at RA0; rw [HLA.out]; replace u0 := (hb.cell (p := ⟨gf, 0, none⟩) flt).trans u0; replace flt := Nat.lt_of_lt_of_le flt hb.size; clear s0 s1 s2; replace RX := Lib.hid (RX.out.step hb); clear ho hb; obtain ⟨⟨s0, s1, s2⟩, -⟩ := RX.out.at (r := w.heap.size + 1) (a := .slice p1 h1 e1) (b := .slice p2 h1 e2) (c := .slice p3 h3 e3) (by simp))
        go_wp2_with fail
        refine hK.out _ _ (by (try dsimp only); with_reducible exact ⟨s0, s1, s2⟩) (fun hHeld => ?_)
        clear hK K
        try simp only [Act.put, List.getElem_toArray, List.getElem_cons_succ, List.getElem_cons_zero, List.setIfInBounds_toArray, List.set_cons_zero, List.set_cons_succ]
        refine wpAnyH_take (i := 5) (v := ?_) rfl (by kernel_rfl) (by kernel_rfl) (by kernel_rfl) (fun _ _ _ h => h) (Or.inl ⟨by rfl, ?_⟩) (by assumption) ?_
        rotate_left
        · intro w hSw; (try dsimp only at hSw); go_simp <;> with_reducible rfl
        try simp only [Act.put, List.getElem_toArray, List.getElem_cons_succ, List.getElem_cons_zero, List.setIfInBounds_toArray, List.set_cons_zero, List.set_cons_succ]
        refine wpAnyH_ready (rs := [9]) (by kernel_rfl) (by simp) ?_
        refine AllReadyH.cons rfl (fun K hK => ?_) AllReadyH.nil
        go_simp
        (refine (HTO.out _ _ RX.out.bel HTB.out.symm HSV.out (by rw [HAD.out]; exact RA0.out)).mono ?_; rintro e WX ⟨u, v, rfl, hb, hu, hv⟩; obtain ⟨au, cu, rfl, -⟩ := ints_form hu; obtain ⟨av, cv, rfl, -⟩ := ints_form hv; rw [← HAG.out.1] at hu ⊢; rw [← HAG.out.2] at hv ⊢; replace u0 := (hb.cell (p := ⟨gf, 0, none⟩) flt).trans u0; replace flt := Nat.lt_of_lt_of_le flt hb.size; clear s0 s1 s2; replace RX := Lib.hid (RX.out.step hb); clear hb RA0; have UX := Lib.hid (And.intro hu hv); clear hu hv; obtain ⟨⟨s0, s1, s2⟩, -⟩ := RX.out.at (r := w.heap.size + 1) (a := .slice p1 h1 e1) (b := .slice p2 h1 e2) (c := .slice p3 h3 e3) (by simp))
        go_wp2_with fail
        refine hK.out _ _ (by (try dsimp only); with_reducible exact ⟨s0, s1, s2⟩) (fun hHeld => ?_)
        clear hK K
        try simp only [Act.put, List.getElem_toArray, List.getElem_cons_succ, List.getElem_cons_zero, List.setIfInBounds_toArray, List.set_cons_zero, List.set_cons_succ]
        refine wpAnyH_take (i := 10) (v := ?_) rfl (by kernel_rfl) (by kernel_rfl) (by kernel_rfl) (fun _ _ _ h => h) (Or.inl ⟨by rfl, ?_⟩) (by assumption) ?_
        rotate_left
        · intro w hSw; (try dsimp only at hSw); go_simp <;> with_reducible rfl
        try simp only [Act.put, List.getElem_toArray, List.getElem_cons_succ, List.getElem_cons_zero, List.setIfInBounds_toArray, List.set_cons_zero, List.set_cons_succ]
        refine wpAnyH_take (i := 11) (v := ?_) rfl (by kernel_rfl) (by kernel_rfl) (by kernel_rfl) (fun _ _ _ h => h) (Or.inl ⟨by rfl, ?_⟩) (by assumption) ?_
        rotate_left
        · intro w hSw; (try dsimp only at hSw); go_simp <;> with_reducible rfl
        try simp only [Act.put, List.getElem_toArray, List.getElem_cons_succ, List.getElem_cons_zero, List.setIfInBounds_toArray, List.set_cons_zero, List.set_cons_succ]
        refine wpAnyH_take (i := 12) (v := ?_) rfl (by kernel_rfl) (by kernel_rfl) (by kernel_rfl) (fun _ _ _ h => h) (Or.inl ⟨by rfl, ?_⟩) (by assumption) ?_
        rotate_left
        · intro w hSw; (try dsimp only at hSw); go_simp <;> with_reducible rfl
        try simp only [Act.put, List.getElem_toArray, List.getElem_cons_succ, List.getElem_cons_zero, List.setIfInBounds_toArray, List.set_cons_zero, List.set_cons_succ]
        refine wpAnyH_take (i := 13) (v := ?_) rfl (by kernel_rfl) (by kernel_rfl) (by kernel_rfl) (fun _ _ _ h => h) (Or.inl ⟨by rfl, ?_⟩) (by assumption) ?_
        rotate_left
        · intro w hSw; (try dsimp only at hSw); go_simp <;> with_reducible rfl
        try simp only [Act.put, List.getElem_toArray, List.getElem_cons_succ, List.getElem_cons_zero, List.setIfInBounds_toArray, List.set_cons_zero, List.set_cons_succ]
        refine wpAnyH_take (i := 14) (v := ?_) rfl (by kernel_rfl) (by kernel_rfl) (by kernel_rfl) (fun _ _ _ h => h) (Or.inl ⟨by rfl, ?_⟩) (by assumption) ?_
        rotate_left
        · intro w hSw; (try dsimp only at hSw); go_simp <;> with_reducible rfl
        try simp only [Act.put, List.getElem_toArray, List.getElem_cons_succ, List.getElem_cons_zero, List.setIfInBounds_toArray, List.set_cons_zero, List.set_cons_succ]
        refine wpAnyH_done (by kernel_rfl) ?_ _
        by_cases hA0 : mA = 0
        · have q6 : ((mA : Int) == 0) = true := by simp; omega
          obtain rfl : fb = false := by rw [HFB.out, decide_eq_false (show ¬ 1 ≤ A.length by rw [← HAG.out.1]; omega)]; simp
          clear s0 s1 s2
          obtain ⟨rfl, rfl, rfl⟩ := HNO.out (by simp)
          obtain ⟨⟨t0, t1, t2⟩, f0, f1, f2⟩ := RX.out.at (r := w.heap.size + 1 + 1) (a := nilV) (b := nilV) (c := nilV) (by simp)
          go_wp2
          refine bodyPost_ret (v := .tuple #[tenV nilV nilV nilV, .bool false]) (by simp [results, Tryz.results68, go_sem, t0, t1, t2]) rfl ?_
          exact NewTen2.nils (((RX.out.bel.setCell (by simp; omega) _).setCell (by simp; omega) _).setCell (by simp; omega) _)
        have q6 : ((mA : Int) == 0) = false := by simp; omega
        have he2 : nR ≤ e2 := by
          have h := (RX.out.own (.slice p2 h1 e2, dimsVia L D (regL L F)) (by simp)).2
          rcases h with ⟨-, e⟩ | ⟨g, cap, cur, e, -, -, h2, -⟩
          · have := HRD.out.2; rw [e] at this; omega
          · simp only [Value.slice.injEq] at e
            have h3 : (dimsVia L D (regL L F)).length ≤ cap := h2
            rw [e.2.2]; have := HRD.out.2; omega
        have HDT : Hid ((dimsVia L D (regL L F)).take nR = dimsVia L D (restL F L)) := Lib.hid (by unfold regL; rw [dims_app]; exact List.take_left' (by rw [dimsVia_len, ← HNR.out]))
        have RN := RX
        have UN := UX
        clear s0 s1 s2
        go_upto_region 11 with fail
        go_cut [13] (fun bp wx => ∃ (gb : Nat) (a4 : Option Addr) (n4 c4 : Nat) (a5 : Option Addr) (n5 c5 : Nat), bp = .pointer (some ⟨gb, 0, none⟩) ∧ Hid (Rs w wx [(gb, .slice a4 n4 c4, .slice a5 n5 c5, .slice p3 h3 e3), (w.heap.size + 1, .slice p1 h1 e1, .slice p2 h1 e2, .slice p3 h3 e3), (w.heap.size + 1 + 1, nilV, nilV, nilV), (w.heap.size, .int .i64 k, .int .i64 p, .int .i64 q)] [(.slice a4 n4 c4, restL F L ++ A), (.slice a5 n5 c5, dimsVia L D (restL F L) ++ G), (.slice p1 h1 e1, regL L F), (.slice p2 h1 e2, dimsVia L D (regL L F)), (.slice p3 h3 e3, regX k q L D X F)]))
        case first =>
          replace RX := Lib.hid RX.out.drew
          replace UX := Lib.hid (ustep UX.out (Below.drew (Below.refl _ _)))
          obtain ⟨⟨s0, s1, s2⟩, -⟩ := RX.out.at (r := w.heap.size + 1) (a := .slice p1 h1 e1) (b := .slice p2 h1 e2) (c := .slice p3 h3 e3) (by simp)
          refine wp_region_held_drew (S := (fun w' => (w'.cell? ⟨w.heap.size + 1, 0, none⟩ = some (.slice p1 h1 e1) ∧ w'.cell? ⟨w.heap.size + 1, 1, none⟩ = some (.slice p2 h1 e2) ∧ w'.cell? ⟨w.heap.size + 1, 2, none⟩ = some (.slice p3 h3 e3)))) (by kernel_rfl) (by (try dsimp only); with_reducible exact ⟨s0, s1, s2⟩) (fun hHeld => ?_)
          refine wpAnyH_take (i := 0) (v := ?_) rfl (by kernel_rfl) (by kernel_rfl) (by kernel_rfl) (fun _ _ _ h => h) (Or.inl ⟨by rfl, ?_⟩) (by assumption) ?_
          rotate_left
          · intro w hSw; (try dsimp only at hSw); go_simp <;> with_reducible rfl
          try simp only [Act.put, List.getElem_toArray, List.getElem_cons_zero, List.setIfInBounds_toArray, List.set_cons_zero, List.set_cons_succ]
          refine wpAnyH_take (i := 1) (v := ?_) rfl (by kernel_rfl) (by kernel_rfl) (by kernel_rfl) (fun _ _ _ h => h) (Or.inl ⟨by rfl, ?_⟩) (by assumption) ?_
          rotate_left
          · intro w hSw; (try dsimp only at hSw); go_simp <;> with_reducible rfl
          try simp only [Act.put, List.getElem_toArray, List.getElem_cons_succ, List.getElem_cons_zero, List.setIfInBounds_toArray, List.set_cons_zero, List.set_cons_succ]
          refine wpAnyH_take (i := 4) (v := ?_) rfl (by kernel_rfl) (by kernel_rfl) (by kernel_rfl) (fun _ _ _ h => h) (Or.inl ⟨by rfl, ?_⟩) (by assumption) ?_
          rotate_left
          · intro w hSw; (try dsimp only at hSw); go_simp <;> with_reducible rfl
          try simp only [Act.put, List.getElem_toArray, List.getElem_cons_succ, List.getElem_cons_zero, List.setIfInBounds_toArray, List.set_cons_zero, List.set_cons_succ]
          refine wpAnyH_take (i := 5) (v := ?_) rfl (by kernel_rfl) (by kernel_rfl) (by kernel_rfl) (fun _ _ _ h => h) (Or.inl ⟨by rfl, ?_⟩) (by assumption) ?_
          rotate_left
          · intro w hSw; (try dsimp only at hSw); go_simp <;> with_reducible rfl
          try simp only [Act.put, List.getElem_toArray, List.getElem_cons_succ, List.getElem_cons_zero, List.setIfInBounds_toArray, List.set_cons_zero, List.set_cons_succ]
          refine wpAnyH_take (i := 6) (v := ?_) rfl (by kernel_rfl) (by kernel_rfl) (by kernel_rfl) (fun _ _ _ h => h) (Or.inl ⟨by rfl, ?_⟩) (by assumption) ?_
          rotate_left
          · intro w hSw; (try dsimp only at hSw); go_simp <;> with_reducible rfl
          try simp only [Act.put, List.getElem_toArray, List.getElem_cons_succ, List.getElem_cons_zero, List.setIfInBounds_toArray, List.set_cons_zero, List.set_cons_succ]
          refine wpAnyH_take (i := 7) (v := ?_) rfl (by kernel_rfl) (by kernel_rfl) (by kernel_rfl) (fun _ _ _ h => h) (Or.inl ⟨by rfl, ?_⟩) (by assumption) ?_
          rotate_left
          · intro w hSw; (try dsimp only at hSw); go_simp <;> with_reducible rfl
          try simp only [Act.put, List.getElem_toArray, List.getElem_cons_succ, List.getElem_cons_zero, List.setIfInBounds_toArray, List.set_cons_zero, List.set_cons_succ]
          refine wpAnyH_take (i := 8) (v := ?_) rfl (by kernel_rfl) (by kernel_rfl) (by kernel_rfl) (fun _ _ _ h => h) (Or.inl ⟨by rfl, ?_⟩) (by assumption) ?_
          rotate_left
          · intro w hSw; (try dsimp only at hSw); go_simp <;> with_reducible rfl
          try simp only [Act.put, List.getElem_toArray, List.getElem_cons_succ, List.getElem_cons_zero, List.setIfInBounds_toArray, List.set_cons_zero, List.set_cons_succ]
          refine wpAnyH_take (i := 9) (v := ?_) rfl (by kernel_rfl) (by kernel_rfl) (by kernel_rfl) (fun _ _ _ h => h) (Or.inl ⟨by rfl, ?_⟩) (by assumption) ?_
          rotate_left
          · intro w hSw; (try dsimp only at hSw); go_simp <;> with_reducible rfl
          try simp only [Act.put, List.getElem_toArray, List.getElem_cons_succ, List.getElem_cons_zero, List.setIfInBounds_toArray, List.set_cons_zero, List.set_cons_succ]
          refine wpAnyH_take (i := 12) (v := ?_) rfl (by kernel_rfl) (by kernel_rfl) (by kernel_rfl) (fun _ _ _ h => h) (Or.inl ⟨by rfl, ?_⟩) (by assumption) ?_
          rotate_left
          · intro w hSw; (try dsimp only at hSw); go_simp <;> with_reducible rfl
          try simp only [Act.put, List.getElem_toArray, List.getElem_cons_succ, List.getElem_cons_zero, List.setIfInBounds_toArray, List.set_cons_zero, List.set_cons_succ]
          refine wpAnyH_take (i := 13) (v := ?_) rfl (by kernel_rfl) (by kernel_rfl) (by kernel_rfl) (fun _ _ _ h => h) (Or.inl ⟨by rfl, ?_⟩) (by assumption) ?_
          rotate_left
          · intro w hSw; (try dsimp only at hSw); go_simp <;> with_reducible rfl
          try simp only [Act.put, List.getElem_toArray, List.getElem_cons_succ, List.getElem_cons_zero, List.setIfInBounds_toArray, List.set_cons_zero, List.set_cons_succ]
          refine wpAnyH_ready (rs := [2, 10, 15]) (by kernel_rfl) (by simp) ?_
          refine AllReadyH.cons rfl (fun K hK => ?_) (AllReadyH.cons rfl (fun K hK => ?_) (AllReadyH.cons rfl (fun K hK => ?_) AllReadyH.nil))
          focus
            go_simp
            ((first | (obtain ⟨WX, gl, hW, hg, hbX, RXn, TW⟩ := RX.out.listX (RX.out.rd (v := .slice aR nR cR) (xs := restL F L) (by simp)) UX.out.1; rw [hW]; (try rw [hg]); (try (replace T2 := Lib.hid (T2.out.below hbX))); have T1 := Lib.hid TW; clear TW; replace UX := Lib.hid (ustep UX.out hbX); clear hbX hW) | (obtain ⟨WZ, gl, hW, hg, hbX, RXn, TW⟩ := RN.out.listX (RN.out.rd (v := .slice aR nR cR) (xs := restL F L) (by simp)) UN.out.1; rw [hW]; (try rw [hg]); replace RXn := RXn.drew; have FZ := ustep (ustep UN.out hbX) (Below.drew (Below.refl _ _)); have TZ := TW.below (Below.drew (Below.refl _ _)); clear hW hbX TW; generalize WZ.drew = WX at RXn FZ TZ ⊢; have T1 := Lib.hid TZ; replace UX := Lib.hid FZ; clear TZ FZ) | (obtain ⟨WX, gl, hW, hg, hbX, RXn, TW⟩ := RX.out.listX (by have h := (RX.out.rd (v := .slice p2 h1 e2) (xs := dimsVia L D (regL L F)) (by simp)).take nR (by rw [HRD.out.2]; omega); rw [HDT.out] at h; exact h) UX.out.2; rw [hW]; (try rw [hg]); (try (replace T1 := Lib.hid (T1.out.below hbX))); have T2 := Lib.hid TW; clear TW; replace UX := Lib.hid (ustep UX.out hbX); clear hbX hW) | (obtain ⟨WZ, gl, hW, hg, hbX, RXn, TW⟩ := RN.out.listX (by have h := (RN.out.rd (v := .slice p2 h1 e2) (xs := dimsVia L D (regL L F)) (by simp)).take nR (by rw [HRD.out.2]; omega); rw [HDT.out] at h; exact h) UN.out.2; rw [hW]; (try rw [hg]); replace RXn := RXn.drew; have FZ := ustep (ustep UN.out hbX) (Below.drew (Below.refl _ _)); have TZ := TW.below (Below.drew (Below.refl _ _)); clear hW hbX TW; generalize WZ.drew = WX at RXn FZ TZ ⊢; have T2 := Lib.hid TZ; replace UX := Lib.hid FZ; clear TZ FZ)); clear s0 s1 s2; replace RX := Lib.hid RXn; clear RXn; obtain ⟨⟨s0, s1, s2⟩, -⟩ := RX.out.at (r := w.heap.size + 1) (a := .slice p1 h1 e1) (b := .slice p2 h1 e2) (c := .slice p3 h3 e3) (by simp))
            refine hK.out _ _ (by (try dsimp only); with_reducible exact ⟨s0, s1, s2⟩) (fun hHeld => ?_)
            clear hK K
            try simp only [Act.put, List.getElem_toArray, List.getElem_cons_succ, List.getElem_cons_zero, List.setIfInBounds_toArray, List.set_cons_zero, List.set_cons_succ]
            refine wpAnyH_ready (rs := [3, 10, 15]) (by kernel_rfl) (by simp) ?_
            refine AllReadyH.cons rfl (fun K hK => ?_) (AllReadyH.cons rfl (fun K hK => ?_) (AllReadyH.cons rfl (fun K hK => ?_) AllReadyH.nil))
            focus
              go_simp
              (go_at_call 43; (first | (refine (concat_two T1.out (Nat.le_refl _) (by have h1 := HNR.out; have h2 := HLN.out; omega)).mono ?_; rintro e WX ⟨vq, rfl, ho, hb⟩; obtain ⟨a4, n4, c4, rfl⟩ := Own.slice ho; clear T1; (try (replace T2 := Lib.hid (T2.out.below hb))); replace UX := Lib.hid (ustep UX.out hb); clear s0 s1 s2; replace RX := Lib.hid (RX.out.new hb ho); clear ho hb) | (refine (concat_two T2.out (Nat.le_refl _) (by rw [dimsVia_len]; have h1 := HNR.out; have h2 := HLN.out; omega)).mono ?_; rintro e WX ⟨vq, rfl, ho, hb⟩; obtain ⟨a5, n5, c5, rfl⟩ := Own.slice ho; clear T2; (try (replace T1 := Lib.hid (T1.out.below hb))); replace UX := Lib.hid (ustep UX.out hb); clear s0 s1 s2; replace RX := Lib.hid (RX.out.new hb ho); clear ho hb)); obtain ⟨⟨s0, s1, s2⟩, -⟩ := RX.out.at (r := w.heap.size + 1) (a := .slice p1 h1 e1) (b := .slice p2 h1 e2) (c := .slice p3 h3 e3) (by simp))
              go_wp2_with fail
              refine hK.out _ _ (by (try dsimp only); with_reducible exact ⟨s0, s1, s2⟩) (fun hHeld => ?_)
              clear hK K
              try simp only [Act.put, List.getElem_toArray, List.getElem_cons_succ, List.getElem_cons_zero, List.setIfInBounds_toArray, List.set_cons_zero, List.set_cons_succ]
              refine wpAnyH_ready (rs := [10, 15]) (by kernel_rfl) (by simp) ?_
              refine AllReadyH.cons rfl (fun K hK => ?_) (AllReadyH.cons rfl (fun K hK => ?_) AllReadyH.nil)
              focus
                go_simp
                ((first | (obtain ⟨WX, gl, hW, hg, hbX, RXn, TW⟩ := RX.out.listX (RX.out.rd (v := .slice aR nR cR) (xs := restL F L) (by simp)) UX.out.1; rw [hW]; (try rw [hg]); (try (replace T2 := Lib.hid (T2.out.below hbX))); have T1 := Lib.hid TW; clear TW; replace UX := Lib.hid (ustep UX.out hbX); clear hbX hW) | (obtain ⟨WZ, gl, hW, hg, hbX, RXn, TW⟩ := RN.out.listX (RN.out.rd (v := .slice aR nR cR) (xs := restL F L) (by simp)) UN.out.1; rw [hW]; (try rw [hg]); replace RXn := RXn.drew; have FZ := ustep (ustep UN.out hbX) (Below.drew (Below.refl _ _)); have TZ := TW.below (Below.drew (Below.refl _ _)); clear hW hbX TW; generalize WZ.drew = WX at RXn FZ TZ ⊢; have T1 := Lib.hid TZ; replace UX := Lib.hid FZ; clear TZ FZ) | (obtain ⟨WX, gl, hW, hg, hbX, RXn, TW⟩ := RX.out.listX (by have h := (RX.out.rd (v := .slice p2 h1 e2) (xs := dimsVia L D (regL L F)) (by simp)).take nR (by rw [HRD.out.2]; omega); rw [HDT.out] at h; exact h) UX.out.2; rw [hW]; (try rw [hg]); (try (replace T1 := Lib.hid (T1.out.below hbX))); have T2 := Lib.hid TW; clear TW; replace UX := Lib.hid (ustep UX.out hbX); clear hbX hW) | (obtain ⟨WZ, gl, hW, hg, hbX, RXn, TW⟩ := RN.out.listX (by have h := (RN.out.rd (v := .slice p2 h1 e2) (xs := dimsVia L D (regL L F)) (by simp)).take nR (by rw [HRD.out.2]; omega); rw [HDT.out] at h; exact h) UN.out.2; rw [hW]; (try rw [hg]); replace RXn := RXn.drew; have FZ := ustep (ustep UN.out hbX) (Below.drew (Below.refl _ _)); have TZ := TW.below (Below.drew (Below.refl _ _)); clear hW hbX TW; generalize WZ.drew = WX at RXn FZ TZ ⊢; have T2 := Lib.hid TZ; replace UX := Lib.hid FZ; clear TZ FZ)); clear s0 s1 s2; replace RX := Lib.hid RXn; clear RXn; obtain ⟨⟨s0, s1, s2⟩, -⟩ := RX.out.at (r := w.heap.size + 1) (a := .slice p1 h1 e1) (b := .slice p2 h1 e2) (c := .slice p3 h3 e3) (by simp))
                refine hK.out _ _ (by (try dsimp only); with_reducible exact ⟨s0, s1, s2⟩) (fun hHeld => ?_)
                clear hK K
                try simp only [Act.put, List.getElem_toArray, List.getElem_cons_succ, List.getElem_cons_zero, List.setIfInBounds_toArray, List.set_cons_zero, List.set_cons_succ]
                refine wpAnyH_ready (rs := [11, 15]) (by kernel_rfl) (by simp) ?_
                refine AllReadyH.cons rfl (fun K hK => ?_) (AllReadyH.cons rfl (fun K hK => ?_) AllReadyH.nil)
                focus
                  go_simp
                  (go_at_call 43; (first | (refine (concat_two T1.out (Nat.le_refl _) (by have h1 := HNR.out; have h2 := HLN.out; omega)).mono ?_; rintro e WX ⟨vq, rfl, ho, hb⟩; obtain ⟨a4, n4, c4, rfl⟩ := Own.slice ho; clear T1; (try (replace T2 := Lib.hid (T2.out.below hb))); replace UX := Lib.hid (ustep UX.out hb); clear s0 s1 s2; replace RX := Lib.hid (RX.out.new hb ho); clear ho hb) | (refine (concat_two T2.out (Nat.le_refl _) (by rw [dimsVia_len]; have h1 := HNR.out; have h2 := HLN.out; omega)).mono ?_; rintro e WX ⟨vq, rfl, ho, hb⟩; obtain ⟨a5, n5, c5, rfl⟩ := Own.slice ho; clear T2; (try (replace T1 := Lib.hid (T1.out.below hb))); replace UX := Lib.hid (ustep UX.out hb); clear s0 s1 s2; replace RX := Lib.hid (RX.out.new hb ho); clear ho hb)); obtain ⟨⟨s0, s1, s2⟩, -⟩ := RX.out.at (r := w.heap.size + 1) (a := .slice p1 h1 e1) (b := .slice p2 h1 e2) (c := .slice p3 h3 e3) (by simp))
                  go_wp2_with fail
                  refine hK.out _ _ (by (try dsimp only); with_reducible exact ⟨s0, s1, s2⟩) (fun hHeld => ?_)
                  clear hK K
                  try simp only [Act.put, List.getElem_toArray, List.getElem_cons_succ, List.getElem_cons_zero, List.setIfInBounds_toArray, List.set_cons_zero, List.set_cons_succ]
                  refine wpAnyH_take (i := 14) (v := ?_) rfl (by kernel_rfl) (by kernel_rfl) (by kernel_rfl) (fun _ _ _ h => h) (Or.inl ⟨by rfl, ?_⟩) (by assumption) ?_
                  rotate_left
                  · intro w hSw; (try dsimp only at hSw); go_simp <;> with_reducible rfl
                  try simp only [Act.put, List.getElem_toArray, List.getElem_cons_succ, List.getElem_cons_zero, List.setIfInBounds_toArray, List.set_cons_zero, List.set_cons_succ]
                  refine wpAnyH_ready (rs := [15]) (by kernel_rfl) (by simp) ?_
                  refine AllReadyH.cons rfl (fun K hK => ?_) AllReadyH.nil
                  go_simp
                  ((first | (obtain ⟨WX, gb, hW, hg, hbX, RXn⟩ := RX.out.boxB nilV nilV nilV 28; rw [hW]; (try rw [hg]); (try (replace T1 := Lib.hid (T1.out.below hbX))); (try (replace T2 := Lib.hid (T2.out.below hbX))); replace UX := Lib.hid (ustep UX.out hbX); clear hbX hW) | (obtain ⟨WZ, gb, hW, hg, hbX, RXn⟩ := RN.out.boxB nilV nilV nilV 28; rw [hW]; (try rw [hg]); replace RXn := RXn.drew; have FZ := ustep (ustep UN.out hbX) (Below.drew (Below.refl _ _)); clear hW hbX; generalize WZ.drew = WX at RXn FZ ⊢; replace UX := Lib.hid FZ; clear FZ)); clear s0 s1 s2; replace RX := Lib.hid RXn; clear RXn; obtain ⟨⟨s0, s1, s2⟩, -⟩ := RX.out.at (r := w.heap.size + 1) (a := .slice p1 h1 e1) (b := .slice p2 h1 e2) (c := .slice p3 h3 e3) (by simp))
                  refine hK.out _ _ (by (try dsimp only); with_reducible exact ⟨s0, s1, s2⟩) (fun hHeld => ?_)
                  clear hK K
                  try simp only [Act.put, List.getElem_toArray, List.getElem_cons_succ, List.getElem_cons_zero, List.setIfInBounds_toArray, List.set_cons_zero, List.set_cons_succ]
                  refine wpAnyH_ready (rs := [16]) (by kernel_rfl) (by simp) ?_
                  refine AllReadyH.cons rfl (fun K hK => ?_) AllReadyH.nil
                  (obtain ⟨⟨o0, o1, o2⟩, g0, g1, g2⟩ := RX.out.at List.mem_cons_self)
                  go_simp
                  (clear o0 o1 o2 g0 g1 g2 s0 s1 s2; replace RX := Lib.hid (RX.out.set3 (.slice a4 n4 c4) (.slice a5 n5 c5) (.slice p3 h3 e3)); obtain ⟨⟨s0, s1, s2⟩, -⟩ := RX.out.at (r := w.heap.size + 1) (a := .slice p1 h1 e1) (b := .slice p2 h1 e2) (c := .slice p3 h3 e3) (by simp))
                  refine hK.out _ _ (by (try dsimp only); with_reducible exact ⟨s0, s1, s2⟩) (fun hHeld => ?_)
                  clear hK K
                  try simp only [Act.put, List.getElem_toArray, List.getElem_cons_succ, List.getElem_cons_zero, List.setIfInBounds_toArray, List.set_cons_zero, List.set_cons_succ]
                  refine wpAnyH_done (by kernel_rfl) ?_ _
                rotate_left 1
                focus
                  go_simp
                  ((first | (obtain ⟨WX, gb, hW, hg, hbX, RXn⟩ := RX.out.boxB nilV nilV nilV 28; rw [hW]; (try rw [hg]); (try (replace T1 := Lib.hid (T1.out.below hbX))); (try (replace T2 := Lib.hid (T2.out.below hbX))); replace UX := Lib.hid (ustep UX.out hbX); clear hbX hW) | (obtain ⟨WZ, gb, hW, hg, hbX, RXn⟩ := RN.out.boxB nilV nilV nilV 28; rw [hW]; (try rw [hg]); replace RXn := RXn.drew; have FZ := ustep (ustep UN.out hbX) (Below.drew (Below.refl _ _)); clear hW hbX; generalize WZ.drew = WX at RXn FZ ⊢; replace UX := Lib.hid FZ; clear FZ)); clear s0 s1 s2; replace RX := Lib.hid RXn; clear RXn; obtain ⟨⟨s0, s1, s2⟩, -⟩ := RX.out.at (r := w.heap.size + 1) (a := .slice p1 h1 e1) (b := .slice p2 h1 e2) (c := .slice p3 h3 e3) (by simp))
                  refine hK.out _ _ (by (try dsimp only); with_reducible exact ⟨s0, s1, s2⟩) (fun hHeld => ?_)
                  clear hK K
                  try simp only [Act.put, List.getElem_toArray, List.getElem_cons_succ, List.getElem_cons_zero, List.setIfInBounds_toArray, List.set_cons_zero, List.set_cons_succ]
                  refine wpAnyH_ready (rs := [11]) (by kernel_rfl) (by simp) ?_
                  refine AllReadyH.cons rfl (fun K hK => ?_) AllReadyH.nil
                  go_simp
                  (go_at_call 43; (first | (refine (concat_two T1.out (Nat.le_refl _) (by have h1 := HNR.out; have h2 := HLN.out; omega)).mono ?_; rintro e WX ⟨vq, rfl, ho, hb⟩; obtain ⟨a4, n4, c4, rfl⟩ := Own.slice ho; clear T1; (try (replace T2 := Lib.hid (T2.out.below hb))); replace UX := Lib.hid (ustep UX.out hb); clear s0 s1 s2; replace RX := Lib.hid (RX.out.new hb ho); clear ho hb) | (refine (concat_two T2.out (Nat.le_refl _) (by rw [dimsVia_len]; have h1 := HNR.out; have h2 := HLN.out; omega)).mono ?_; rintro e WX ⟨vq, rfl, ho, hb⟩; obtain ⟨a5, n5, c5, rfl⟩ := Own.slice ho; clear T2; (try (replace T1 := Lib.hid (T1.out.below hb))); replace UX := Lib.hid (ustep UX.out hb); clear s0 s1 s2; replace RX := Lib.hid (RX.out.new hb ho); clear ho hb)); obtain ⟨⟨s0, s1, s2⟩, -⟩ := RX.out.at (r := w.heap.size + 1) (a := .slice p1 h1 e1) (b := .slice p2 h1 e2) (c := .slice p3 h3 e3) (by simp))
                  go_wp2_with fail
                  refine hK.out _ _ (by (try dsimp only); with_reducible exact ⟨s0, s1, s2⟩) (fun hHeld => ?_)
                  clear hK K
                  try simp only [Act.put, List.getElem_toArray, List.getElem_cons_succ, List.getElem_cons_zero, List.setIfInBounds_toArray, List.set_cons_zero, List.set_cons_succ]
                  refine wpAnyH_take (i := 14) (v := ?_) rfl (by kernel_rfl) (by kernel_rfl) (by kernel_rfl) (fun _ _ _ h => h) (Or.inl ⟨by rfl, ?_⟩) (by assumption) ?_
                  rotate_left
                  · intro w hSw; (try dsimp only at hSw); go_simp <;> with_reducible rfl
                  try simp only [Act.put, List.getElem_toArray, List.getElem_cons_succ, List.getElem_cons_zero, List.setIfInBounds_toArray, List.set_cons_zero, List.set_cons_succ]
                  refine wpAnyH_ready (rs := [16]) (by kernel_rfl) (by simp) ?_
                  refine AllReadyH.cons rfl (fun K hK => ?_) AllReadyH.nil
                  (obtain ⟨⟨o0, o1, o2⟩, g0, g1, g2⟩ := RX.out.at List.mem_cons_self)
                  go_simp
                  (clear o0 o1 o2 g0 g1 g2 s0 s1 s2; replace RX := Lib.hid (RX.out.set3 (.slice a4 n4 c4) (.slice a5 n5 c5) (.slice p3 h3 e3)); obtain ⟨⟨s0, s1, s2⟩, -⟩ := RX.out.at (r := w.heap.size + 1) (a := .slice p1 h1 e1) (b := .slice p2 h1 e2) (c := .slice p3 h3 e3) (by simp))
                  refine hK.out _ _ (by (try dsimp only); with_reducible exact ⟨s0, s1, s2⟩) (fun hHeld => ?_)
                  clear hK K
                  try simp only [Act.put, List.getElem_toArray, List.getElem_cons_succ, List.getElem_cons_zero, List.setIfInBounds_toArray, List.set_cons_zero, List.set_cons_succ]
                  refine wpAnyH_done (by kernel_rfl) ?_ _
                rotate_left 1
              rotate_left 2
              focus
                go_simp
                ((first | (obtain ⟨WX, gb, hW, hg, hbX, RXn⟩ := RX.out.boxB nilV nilV nilV 28; rw [hW]; (try rw [hg]); (try (replace T1 := Lib.hid (T1.out.below hbX))); (try (replace T2 := Lib.hid (T2.out.below hbX))); replace UX := Lib.hid (ustep UX.out hbX); clear hbX hW) | (obtain ⟨WZ, gb, hW, hg, hbX, RXn⟩ := RN.out.boxB nilV nilV nilV 28; rw [hW]; (try rw [hg]); replace RXn := RXn.drew; have FZ := ustep (ustep UN.out hbX) (Below.drew (Below.refl _ _)); clear hW hbX; generalize WZ.drew = WX at RXn FZ ⊢; replace UX := Lib.hid FZ; clear FZ)); clear s0 s1 s2; replace RX := Lib.hid RXn; clear RXn; obtain ⟨⟨s0, s1, s2⟩, -⟩ := RX.out.at (r := w.heap.size + 1) (a := .slice p1 h1 e1) (b := .slice p2 h1 e2) (c := .slice p3 h3 e3) (by simp))
                refine hK.out _ _ (by (try dsimp only); with_reducible exact ⟨s0, s1, s2⟩) (fun hHeld => ?_)
                clear hK K
                try simp only [Act.put, List.getElem_toArray, List.getElem_cons_succ, List.getElem_cons_zero, List.setIfInBounds_toArray, List.set_cons_zero, List.set_cons_succ]
                refine wpAnyH_ready (rs := [10]) (by kernel_rfl) (by simp) ?_
                refine AllReadyH.cons rfl (fun K hK => ?_) AllReadyH.nil
                go_simp
                ((first | (obtain ⟨WX, gl, hW, hg, hbX, RXn, TW⟩ := RX.out.listX (RX.out.rd (v := .slice aR nR cR) (xs := restL F L) (by simp)) UX.out.1; rw [hW]; (try rw [hg]); (try (replace T2 := Lib.hid (T2.out.below hbX))); have T1 := Lib.hid TW; clear TW; replace UX := Lib.hid (ustep UX.out hbX); clear hbX hW) | (obtain ⟨WZ, gl, hW, hg, hbX, RXn, TW⟩ := RN.out.listX (RN.out.rd (v := .slice aR nR cR) (xs := restL F L) (by simp)) UN.out.1; rw [hW]; (try rw [hg]); replace RXn := RXn.drew; have FZ := ustep (ustep UN.out hbX) (Below.drew (Below.refl _ _)); have TZ := TW.below (Below.drew (Below.refl _ _)); clear hW hbX TW; generalize WZ.drew = WX at RXn FZ TZ ⊢; have T1 := Lib.hid TZ; replace UX := Lib.hid FZ; clear TZ FZ) | (obtain ⟨WX, gl, hW, hg, hbX, RXn, TW⟩ := RX.out.listX (by have h := (RX.out.rd (v := .slice p2 h1 e2) (xs := dimsVia L D (regL L F)) (by simp)).take nR (by rw [HRD.out.2]; omega); rw [HDT.out] at h; exact h) UX.out.2; rw [hW]; (try rw [hg]); (try (replace T1 := Lib.hid (T1.out.below hbX))); have T2 := Lib.hid TW; clear TW; replace UX := Lib.hid (ustep UX.out hbX); clear hbX hW) | (obtain ⟨WZ, gl, hW, hg, hbX, RXn, TW⟩ := RN.out.listX (by have h := (RN.out.rd (v := .slice p2 h1 e2) (xs := dimsVia L D (regL L F)) (by simp)).take nR (by rw [HRD.out.2]; omega); rw [HDT.out] at h; exact h) UN.out.2; rw [hW]; (try rw [hg]); replace RXn := RXn.drew; have FZ := ustep (ustep UN.out hbX) (Below.drew (Below.refl _ _)); have TZ := TW.below (Below.drew (Below.refl _ _)); clear hW hbX TW; generalize WZ.drew = WX at RXn FZ TZ ⊢; have T2 := Lib.hid TZ; replace UX := Lib.hid FZ; clear TZ FZ)); clear s0 s1 s2; replace RX := Lib.hid RXn; clear RXn; obtain ⟨⟨s0, s1, s2⟩, -⟩ := RX.out.at (r := w.heap.size + 1) (a := .slice p1 h1 e1) (b := .slice p2 h1 e2) (c := .slice p3 h3 e3) (by simp))
                refine hK.out _ _ (by (try dsimp only); with_reducible exact ⟨s0, s1, s2⟩) (fun hHeld => ?_)
                clear hK K
                try simp only [Act.put, List.getElem_toArray, List.getElem_cons_succ, List.getElem_cons_zero, List.setIfInBounds_toArray, List.set_cons_zero, List.set_cons_succ]
                refine wpAnyH_ready (rs := [11]) (by kernel_rfl) (by simp) ?_
                refine AllReadyH.cons rfl (fun K hK => ?_) AllReadyH.nil
                go_simp
                (go_at_call 43; (first | (refine (concat_two T1.out (Nat.le_refl _) (by have h1 := HNR.out; have h2 := HLN.out; omega)).mono ?_; rintro e WX ⟨vq, rfl, ho, hb⟩; obtain ⟨a4, n4, c4, rfl⟩ := Own.slice ho; clear T1; (try (replace T2 := Lib.hid (T2.out.below hb))); replace UX := Lib.hid (ustep UX.out hb); clear s0 s1 s2; replace RX := Lib.hid (RX.out.new hb ho); clear ho hb) | (refine (concat_two T2.out (Nat.le_refl _) (by rw [dimsVia_len]; have h1 := HNR.out; have h2 := HLN.out; omega)).mono ?_; rintro e WX ⟨vq, rfl, ho, hb⟩; obtain ⟨a5, n5, c5, rfl⟩ := Own.slice ho; clear T2; (try (replace T1 := Lib.hid (T1.out.below hb))); replace UX := Lib.hid (ustep UX.out hb); clear s0 s1 s2; replace RX := Lib.hid (RX.out.new hb ho); clear ho hb)); obtain ⟨⟨s0, s1, s2⟩, -⟩ := RX.out.at (r := w.heap.size + 1) (a := .slice p1 h1 e1) (b := .slice p2 h1 e2) (c := .slice p3 h3 e3) (by simp))
                go_wp2_with fail
                refine hK.out _ _ (by (try dsimp only); with_reducible exact ⟨s0, s1, s2⟩) (fun hHeld => ?_)
                clear hK K
                try simp only [Act.put, List.getElem_toArray, List.getElem_cons_succ, List.getElem_cons_zero, List.setIfInBounds_toArray, List.set_cons_zero, List.set_cons_succ]
                refine wpAnyH_take (i := 14) (v := ?_) rfl (by kernel_rfl) (by kernel_rfl) (by kernel_rfl) (fun _ _ _ h => h) (Or.inl ⟨by rfl, ?_⟩) (by assumption) ?_
                rotate_left
                · intro w hSw; (try dsimp only at hSw); go_simp <;> with_reducible rfl
                try simp only [Act.put, List.getElem_toArray, List.getElem_cons_succ, List.getElem_cons_zero, List.setIfInBounds_toArray, List.set_cons_zero, List.set_cons_succ]
                refine wpAnyH_ready (rs := [16]) (by kernel_rfl) (by simp) ?_
                refine AllReadyH.cons rfl (fun K hK => ?_) AllReadyH.nil
                (obtain ⟨⟨o0, o1, o2⟩, g0, g1, g2⟩ := RX.out.at List.mem_cons_self)
                go_simp
                (clear o0 o1 o2 g0 g1 g2 s0 s1 s2; replace RX := Lib.hid (RX.out.set3 (.slice a4 n4 c4) (.slice a5 n5 c5) (.slice p3 h3 e3)); obtain ⟨⟨s0, s1, s2⟩, -⟩ := RX.out.at (r := w.heap.size + 1) (a := .slice p1 h1 e1) (b := .slice p2 h1 e2) (c := .slice p3 h3 e3) (by simp))
                refine hK.out _ _ (by (try dsimp only); with_reducible exact ⟨s0, s1, s2⟩) (fun hHeld => ?_)
                clear hK K
                try simp only [Act.put, List.getElem_toArray, List.getElem_cons_succ, List.getElem_cons_zero, List.setIfInBounds_toArray, List.set_cons_zero, List.set_cons_succ]
                refine wpAnyH_done (by kernel_rfl) ?_ _
              rotate_left 1
            rotate_left 3
            focus
              go_simp
              ((first | (obtain ⟨WX, gl, hW, hg, hbX, RXn, TW⟩ := RX.out.listX (RX.out.rd (v := .slice aR nR cR) (xs := restL F L) (by simp)) UX.out.1; rw [hW]; (try rw [hg]); (try (replace T2 := Lib.hid (T2.out.below hbX))); have T1 := Lib.hid TW; clear TW; replace UX := Lib.hid (ustep UX.out hbX); clear hbX hW) | (obtain ⟨WZ, gl, hW, hg, hbX, RXn, TW⟩ := RN.out.listX (RN.out.rd (v := .slice aR nR cR) (xs := restL F L) (by simp)) UN.out.1; rw [hW]; (try rw [hg]); replace RXn := RXn.drew; have FZ := ustep (ustep UN.out hbX) (Below.drew (Below.refl _ _)); have TZ := TW.below (Below.drew (Below.refl _ _)); clear hW hbX TW; generalize WZ.drew = WX at RXn FZ TZ ⊢; have T1 := Lib.hid TZ; replace UX := Lib.hid FZ; clear TZ FZ) | (obtain ⟨WX, gl, hW, hg, hbX, RXn, TW⟩ := RX.out.listX (by have h := (RX.out.rd (v := .slice p2 h1 e2) (xs := dimsVia L D (regL L F)) (by simp)).take nR (by rw [HRD.out.2]; omega); rw [HDT.out] at h; exact h) UX.out.2; rw [hW]; (try rw [hg]); (try (replace T1 := Lib.hid (T1.out.below hbX))); have T2 := Lib.hid TW; clear TW; replace UX := Lib.hid (ustep UX.out hbX); clear hbX hW) | (obtain ⟨WZ, gl, hW, hg, hbX, RXn, TW⟩ := RN.out.listX (by have h := (RN.out.rd (v := .slice p2 h1 e2) (xs := dimsVia L D (regL L F)) (by simp)).take nR (by rw [HRD.out.2]; omega); rw [HDT.out] at h; exact h) UN.out.2; rw [hW]; (try rw [hg]); replace RXn := RXn.drew; have FZ := ustep (ustep UN.out hbX) (Below.drew (Below.refl _ _)); have TZ := TW.below (Below.drew (Below.refl _ _)); clear hW hbX TW; generalize WZ.drew = WX at RXn FZ TZ ⊢; have T2 := Lib.hid TZ; replace UX := Lib.hid FZ; clear TZ FZ)); clear s0 s1 s2; replace RX := Lib.hid RXn; clear RXn; obtain ⟨⟨s0, s1, s2⟩, -⟩ := RX.out.at (r := w.heap.size + 1) (a := .slice p1 h1 e1) (b := .slice p2 h1 e2) (c := .slice p3 h3 e3) (by simp))
              refine hK.out _ _ (by (try dsimp only); with_reducible exact ⟨s0, s1, s2⟩) (fun hHeld => ?_)
              clear hK K
              try simp only [Act.put, List.getElem_toArray, List.getElem_cons_succ, List.getElem_cons_zero, List.setIfInBounds_toArray, List.set_cons_zero, List.set_cons_succ]
              refine wpAnyH_ready (rs := [3, 15]) (by kernel_rfl) (by simp) ?_
              refine AllReadyH.cons rfl (fun K hK => ?_) (AllReadyH.cons rfl (fun K hK => ?_) AllReadyH.nil)
              focus
                go_simp
                (go_at_call 43; (first | (refine (concat_two T1.out (Nat.le_refl _) (by have h1 := HNR.out; have h2 := HLN.out; omega)).mono ?_; rintro e WX ⟨vq, rfl, ho, hb⟩; obtain ⟨a4, n4, c4, rfl⟩ := Own.slice ho; clear T1; (try (replace T2 := Lib.hid (T2.out.below hb))); replace UX := Lib.hid (ustep UX.out hb); clear s0 s1 s2; replace RX := Lib.hid (RX.out.new hb ho); clear ho hb) | (refine (concat_two T2.out (Nat.le_refl _) (by rw [dimsVia_len]; have h1 := HNR.out; have h2 := HLN.out; omega)).mono ?_; rintro e WX ⟨vq, rfl, ho, hb⟩; obtain ⟨a5, n5, c5, rfl⟩ := Own.slice ho; clear T2; (try (replace T1 := Lib.hid (T1.out.below hb))); replace UX := Lib.hid (ustep UX.out hb); clear s0 s1 s2; replace RX := Lib.hid (RX.out.new hb ho); clear ho hb)); obtain ⟨⟨s0, s1, s2⟩, -⟩ := RX.out.at (r := w.heap.size + 1) (a := .slice p1 h1 e1) (b := .slice p2 h1 e2) (c := .slice p3 h3 e3) (by simp))
                go_wp2_with fail
                refine hK.out _ _ (by (try dsimp only); with_reducible exact ⟨s0, s1, s2⟩) (fun hHeld => ?_)
                clear hK K
                try simp only [Act.put, List.getElem_toArray, List.getElem_cons_succ, List.getElem_cons_zero, List.setIfInBounds_toArray, List.set_cons_zero, List.set_cons_succ]
                refine wpAnyH_ready (rs := [11, 15]) (by kernel_rfl) (by simp) ?_
                refine AllReadyH.cons rfl (fun K hK => ?_) (AllReadyH.cons rfl (fun K hK => ?_) AllReadyH.nil)
                focus
                  go_simp
                  (go_at_call 43; (first | (refine (concat_two T1.out (Nat.le_refl _) (by have h1 := HNR.out; have h2 := HLN.out; omega)).mono ?_; rintro e WX ⟨vq, rfl, ho, hb⟩; obtain ⟨a4, n4, c4, rfl⟩ := Own.slice ho; clear T1; (try (replace T2 := Lib.hid (T2.out.below hb))); replace UX := Lib.hid (ustep UX.out hb); clear s0 s1 s2; replace RX := Lib.hid (RX.out.new hb ho); clear ho hb) | (refine (concat_two T2.out (Nat.le_refl _) (by rw [dimsVia_len]; have h1 := HNR.out; have h2 := HLN.out; omega)).mono ?_; rintro e WX ⟨vq, rfl, ho, hb⟩; obtain ⟨a5, n5, c5, rfl⟩ := Own.slice ho; clear T2; (try (replace T1 := Lib.hid (T1.out.below hb))); replace UX := Lib.hid (ustep UX.out hb); clear s0 s1 s2; replace RX := Lib.hid (RX.out.new hb ho); clear ho hb)); obtain ⟨⟨s0, s1, s2⟩, -⟩ := RX.out.at (r := w.heap.size + 1) (a := .slice p1 h1 e1) (b := .slice p2 h1 e2) (c := .slice p3 h3 e3) (by simp))
                  go_wp2_with fail
                  refine hK.out _ _ (by (try dsimp only); with_reducible exact ⟨s0, s1, s2⟩) (fun hHeld => ?_)
                  clear hK K
                  try simp only [Act.put, List.getElem_toArray, List.getElem_cons_succ, List.getElem_cons_zero, List.setIfInBounds_toArray, List.set_cons_zero, List.set_cons_succ]
                  refine wpAnyH_take (i := 14) (v := ?_) rfl (by kernel_rfl) (by kernel_rfl) (by kernel_rfl) (fun _ _ _ h => h) (Or.inl ⟨by rfl, ?_⟩) (by assumption) ?_
                  rotate_left
                  · intro w hSw; (try dsimp only at hSw); go_simp <;> with_reducible rfl
                  try simp only [Act.put, List.getElem_toArray, List.getElem_cons_succ, List.getElem_cons_zero, List.setIfInBounds_toArray, List.set_cons_zero, List.set_cons_succ]
                  refine wpAnyH_ready (rs := [15]) (by kernel_rfl) (by simp) ?_
                  refine AllReadyH.cons rfl (fun K hK => ?_) AllReadyH.nil
                  go_simp
                  ((first | (obtain ⟨WX, gb, hW, hg, hbX, RXn⟩ := RX.out.boxB nilV nilV nilV 28; rw [hW]; (try rw [hg]); (try (replace T1 := Lib.hid (T1.out.below hbX))); (try (replace T2 := Lib.hid (T2.out.below hbX))); replace UX := Lib.hid (ustep UX.out hbX); clear hbX hW) | (obtain ⟨WZ, gb, hW, hg, hbX, RXn⟩ := RN.out.boxB nilV nilV nilV 28; rw [hW]; (try rw [hg]); replace RXn := RXn.drew; have FZ := ustep (ustep UN.out hbX) (Below.drew (Below.refl _ _)); clear hW hbX; generalize WZ.drew = WX at RXn FZ ⊢; replace UX := Lib.hid FZ; clear FZ)); clear s0 s1 s2; replace RX := Lib.hid RXn; clear RXn; obtain ⟨⟨s0, s1, s2⟩, -⟩ := RX.out.at (r := w.heap.size + 1) (a := .slice p1 h1 e1) (b := .slice p2 h1 e2) (c := .slice p3 h3 e3) (by simp))
                  refine hK.out _ _ (by (try dsimp only); with_reducible exact ⟨s0, s1, s2⟩) (fun hHeld => ?_)
                  clear hK K
                  try simp only [Act.put, List.getElem_toArray, List.getElem_cons_succ, List.getElem_cons_zero, List.setIfInBounds_toArray, List.set_cons_zero, List.set_cons_succ]
                  refine wpAnyH_ready (rs := [16]) (by kernel_rfl) (by simp) ?_
                  refine AllReadyH.cons rfl (fun K hK => ?_) AllReadyH.nil
                  (obtain ⟨⟨o0, o1, o2⟩, g0, g1, g2⟩ := RX.out.at List.mem_cons_self)
                  go_simp
                  (clear o0 o1 o2 g0 g1 g2 s0 s1 s2; replace RX := Lib.hid (RX.out.set3 (.slice a4 n4 c4) (.slice a5 n5 c5) (.slice p3 h3 e3)); obtain ⟨⟨s0, s1, s2⟩, -⟩ := RX.out.at (r := w.heap.size + 1) (a := .slice p1 h1 e1) (b := .slice p2 h1 e2) (c := .slice p3 h3 e3) (by simp))
                  refine hK.out _ _ (by (try dsimp only); with_reducible exact ⟨s0, s1, s2⟩) (fun hHeld => ?_)
                  clear hK K
                  try simp only [Act.put, List.getElem_toArray, List.getElem_cons_succ, List.getElem_cons_zero, List.setIfInBounds_toArray, List.set_cons_zero, List.set_cons_succ]
                  refine wpAnyH_done (by kernel_rfl) ?_ _
                rotate_left 1
                focus
                  go_simp
                  ((first | (obtain ⟨WX, gb, hW, hg, hbX, RXn⟩ := RX.out.boxB nilV nilV nilV 28; rw [hW]; (try rw [hg]); (try (replace T1 := Lib.hid (T1.out.below hbX))); (try (replace T2 := Lib.hid (T2.out.below hbX))); replace UX := Lib.hid (ustep UX.out hbX); clear hbX hW) | (obtain ⟨WZ, gb, hW, hg, hbX, RXn⟩ := RN.out.boxB nilV nilV nilV 28; rw [hW]; (try rw [hg]); replace RXn := RXn.drew; have FZ := ustep (ustep UN.out hbX) (Below.drew (Below.refl _ _)); clear hW hbX; generalize WZ.drew = WX at RXn FZ ⊢; replace UX := Lib.hid FZ; clear FZ)); clear s0 s1 s2; replace RX := Lib.hid RXn; clear RXn; obtain ⟨⟨s0, s1, s2⟩, -⟩ := RX.out.at (r := w.heap.size + 1) (a := .slice p1 h1 e1) (b := .slice p2 h1 e2) (c := .slice p3 h3 e3) (by simp))
                  refine hK.out _ _ (by (try dsimp only); with_reducible exact ⟨s0, s1, s2⟩) (fun hHeld => ?_)
                  clear hK K
                  try simp only [Act.put, List.getElem_toArray, List.getElem_cons_succ, List.getElem_cons_zero, List.setIfInBounds_toArray, List.set_cons_zero, List.set_cons_succ]
                  refine wpAnyH_ready (rs := [11]) (by kernel_rfl) (by simp) ?_
                  refine AllReadyH.cons rfl (fun K hK => ?_) AllReadyH.nil
                  go_simp
                  (go_at_call 43; (first | (refine (concat_two T1.out (Nat.le_refl _) (by have h1 := HNR.out; have h2 := HLN.out; omega)).mono ?_; rintro e WX ⟨vq, rfl, ho, hb⟩; obtain ⟨a4, n4, c4, rfl⟩ := Own.slice ho; clear T1; (try (replace T2 := Lib.hid (T2.out.below hb))); replace UX := Lib.hid (ustep UX.out hb); clear s0 s1 s2; replace RX := Lib.hid (RX.out.new hb ho); clear ho hb) | (refine (concat_two T2.out (Nat.le_refl _) (by rw [dimsVia_len]; have h1 := HNR.out; have h2 := HLN.out; omega)).mono ?_; rintro e WX ⟨vq, rfl, ho, hb⟩; obtain ⟨a5, n5, c5, rfl⟩ := Own.slice ho; clear T2; (try (replace T1 := Lib.hid (T1.out.below hb))); replace UX := Lib.hid (ustep UX.out hb); clear s0 s1 s2; replace RX := Lib.hid (RX.out.new hb ho); clear ho hb)); obtain ⟨⟨s0, s1, s2⟩, -⟩ := RX.out.at (r := w.heap.size + 1) (a := .slice p1 h1 e1) (b := .slice p2 h1 e2) (c := .slice p3 h3 e3) (by simp))
                  go_wp2_with fail
                  refine hK.out _ _ (by (try dsimp only); with_reducible exact ⟨s0, s1, s2⟩) (fun hHeld => ?_)
                  clear hK K
                  try simp only [Act.put, List.getElem_toArray, List.getElem_cons_succ, List.getElem_cons_zero, List.setIfInBounds_toArray, List.set_cons_zero, List.set_cons_succ]
                  refine wpAnyH_take (i := 14) (v := ?_) rfl (by kernel_rfl) (by kernel_rfl) (by kernel_rfl) (fun _ _ _ h => h) (Or.inl ⟨by rfl, ?_⟩) (by assumption) ?_
                  rotate_left
                  · intro w hSw; (try dsimp only at hSw); go_simp <;> with_reducible rfl
                  try simp only [Act.put, List.getElem_toArray, List.getElem_cons_succ, List.getElem_cons_zero, List.setIfInBounds_toArray, List.set_cons_zero, List.set_cons_succ]
                  refine wpAnyH_ready (rs := [16]) (by kernel_rfl) (by simp) ?_
                  refine AllReadyH.cons rfl (fun K hK => ?_) AllReadyH.nil
                  (obtain ⟨⟨o0, o1, o2⟩, g0, g1, g2⟩ := RX.out.at List.mem_cons_self)
                  go_simp
                  (clear o0 o1 o2 g0 g1 g2 s0 s1 s2; replace RX := Lib.hid (RX.out.set3 (.slice a4 n4 c4) (.slice a5 n5 c5) (.slice p3 h3 e3)); obtain ⟨⟨s0, s1, s2⟩, -⟩ := RX.out.at (r := w.heap.size + 1) (a := .slice p1 h1 e1) (b := .slice p2 h1 e2) (c := .slice p3 h3 e3) (by simp))
                  refine hK.out _ _ (by (try dsimp only); with_reducible exact ⟨s0, s1, s2⟩) (fun hHeld => ?_)
                  clear hK K
                  try simp only [Act.put, List.getElem_toArray, List.getElem_cons_succ, List.getElem_cons_zero, List.setIfInBounds_toArray, List.set_cons_zero, List.set_cons_succ]
                  refine wpAnyH_done (by kernel_rfl) ?_ _
                rotate_left 1
              rotate_left 2
              focus
                go_simp
                ((first | (obtain ⟨WX, gb, hW, hg, hbX, RXn⟩ := RX.out.boxB nilV nilV nilV 28; rw [hW]; (try rw [hg]); (try (replace T1 := Lib.hid (T1.out.below hbX))); (try (replace T2 := Lib.hid (T2.out.below hbX))); replace UX := Lib.hid (ustep UX.out hbX); clear hbX hW) | (obtain ⟨WZ, gb, hW, hg, hbX, RXn⟩ := RN.out.boxB nilV nilV nilV 28; rw [hW]; (try rw [hg]); replace RXn := RXn.drew; have FZ := ustep (ustep UN.out hbX) (Below.drew (Below.refl _ _)); clear hW hbX; generalize WZ.drew = WX at RXn FZ ⊢; replace UX := Lib.hid FZ; clear FZ)); clear s0 s1 s2; replace RX := Lib.hid RXn; clear RXn; obtain ⟨⟨s0, s1, s2⟩, -⟩ := RX.out.at (r := w.heap.size + 1) (a := .slice p1 h1 e1) (b := .slice p2 h1 e2) (c := .slice p3 h3 e3) (by simp))
                refine hK.out _ _ (by (try dsimp only); with_reducible exact ⟨s0, s1, s2⟩) (fun hHeld => ?_)
                clear hK K
                try simp only [Act.put, List.getElem_toArray, List.getElem_cons_succ, List.getElem_cons_zero, List.setIfInBounds_toArray, List.set_cons_zero, List.set_cons_succ]
                refine wpAnyH_ready (rs := [3]) (by kernel_rfl) (by simp) ?_
                refine AllReadyH.cons rfl (fun K hK => ?_) AllReadyH.nil
                go_simp
                (go_at_call 43; (first | (refine (concat_two T1.out (Nat.le_refl _) (by have h1 := HNR.out; have h2 := HLN.out; omega)).mono ?_; rintro e WX ⟨vq, rfl, ho, hb⟩; obtain ⟨a4, n4, c4, rfl⟩ := Own.slice ho; clear T1; (try (replace T2 := Lib.hid (T2.out.below hb))); replace UX := Lib.hid (ustep UX.out hb); clear s0 s1 s2; replace RX := Lib.hid (RX.out.new hb ho); clear ho hb) | (refine (concat_two T2.out (Nat.le_refl _) (by rw [dimsVia_len]; have h1 := HNR.out; have h2 := HLN.out; omega)).mono ?_; rintro e WX ⟨vq, rfl, ho, hb⟩; obtain ⟨a5, n5, c5, rfl⟩ := Own.slice ho; clear T2; (try (replace T1 := Lib.hid (T1.out.below hb))); replace UX := Lib.hid (ustep UX.out hb); clear s0 s1 s2; replace RX := Lib.hid (RX.out.new hb ho); clear ho hb)); obtain ⟨⟨s0, s1, s2⟩, -⟩ := RX.out.at (r := w.heap.size + 1) (a := .slice p1 h1 e1) (b := .slice p2 h1 e2) (c := .slice p3 h3 e3) (by simp))
                go_wp2_with fail
                refine hK.out _ _ (by (try dsimp only); with_reducible exact ⟨s0, s1, s2⟩) (fun hHeld => ?_)
                clear hK K
                try simp only [Act.put, List.getElem_toArray, List.getElem_cons_succ, List.getElem_cons_zero, List.setIfInBounds_toArray, List.set_cons_zero, List.set_cons_succ]
                refine wpAnyH_ready (rs := [11]) (by kernel_rfl) (by simp) ?_
                refine AllReadyH.cons rfl (fun K hK => ?_) AllReadyH.nil
                go_simp
                (go_at_call 43; (first | (refine (concat_two T1.out (Nat.le_refl _) (by have h1 := HNR.out; have h2 := HLN.out; omega)).mono ?_; rintro e WX ⟨vq, rfl, ho, hb⟩; obtain ⟨a4, n4, c4, rfl⟩ := Own.slice ho; clear T1; (try (replace T2 := Lib.hid (T2.out.below hb))); replace UX := Lib.hid (ustep UX.out hb); clear s0 s1 s2; replace RX := Lib.hid (RX.out.new hb ho); clear ho hb) | (refine (concat_two T2.out (Nat.le_refl _) (by rw [dimsVia_len]; have h1 := HNR.out; have h2 := HLN.out; omega)).mono ?_; rintro e WX ⟨vq, rfl, ho, hb⟩; obtain ⟨a5, n5, c5, rfl⟩ := Own.slice ho; clear T2; (try (replace T1 := Lib.hid (T1.out.below hb))); replace UX := Lib.hid (ustep UX.out hb); clear s0 s1 s2; replace RX := Lib.hid (RX.out.new hb ho); clear ho hb)); obtain ⟨⟨s0, s1, s2⟩, -⟩ := RX.out.at (r := w.heap.size + 1) (a := .slice p1 h1 e1) (b := .slice p2 h1 e2) (c := .slice p3 h3 e3) (by simp))
                go_wp2_with fail
                refine hK.out _ _ (by (try dsimp only); with_reducible exact ⟨s0, s1, s2⟩) (fun hHeld => ?_)
                clear hK K
                try simp only [Act.put, List.getElem_toArray, List.getElem_cons_succ, List.getElem_cons_zero, List.setIfInBounds_toArray, List.set_cons_zero, List.set_cons_succ]
                refine wpAnyH_take (i := 14) (v := ?_) rfl (by kernel_rfl) (by kernel_rfl) (by kernel_rfl) (fun _ _ _ h => h) (Or.inl ⟨by rfl, ?_⟩) (by assumption) ?_
                rotate_left
                · intro w hSw; (try dsimp only at hSw); go_simp <;> with_reducible rfl
                try simp only [Act.put, List.getElem_toArray, List.getElem_cons_succ, List.getElem_cons_zero, List.setIfInBounds_toArray, List.set_cons_zero, List.set_cons_succ]
                refine wpAnyH_ready (rs := [16]) (by kernel_rfl) (by simp) ?_
                refine AllReadyH.cons rfl (fun K hK => ?_) AllReadyH.nil
                (obtain ⟨⟨o0, o1, o2⟩, g0, g1, g2⟩ := RX.out.at List.mem_cons_self)
                go_simp
                (clear o0 o1 o2 g0 g1 g2 s0 s1 s2; replace RX := Lib.hid (RX.out.set3 (.slice a4 n4 c4) (.slice a5 n5 c5) (.slice p3 h3 e3)); obtain ⟨⟨s0, s1, s2⟩, -⟩ := RX.out.at (r := w.heap.size + 1) (a := .slice p1 h1 e1) (b := .slice p2 h1 e2) (c := .slice p3 h3 e3) (by simp))
                refine hK.out _ _ (by (try dsimp only); with_reducible exact ⟨s0, s1, s2⟩) (fun hHeld => ?_)
                clear hK K
                try simp only [Act.put, List.getElem_toArray, List.getElem_cons_succ, List.getElem_cons_zero, List.setIfInBounds_toArray, List.set_cons_zero, List.set_cons_succ]
                refine wpAnyH_done (by kernel_rfl) ?_ _
              rotate_left 1
            rotate_left 3
            focus
              go_simp
              ((first | (obtain ⟨WX, gb, hW, hg, hbX, RXn⟩ := RX.out.boxB nilV nilV nilV 28; rw [hW]; (try rw [hg]); (try (replace T1 := Lib.hid (T1.out.below hbX))); (try (replace T2 := Lib.hid (T2.out.below hbX))); replace UX := Lib.hid (ustep UX.out hbX); clear hbX hW) | (obtain ⟨WZ, gb, hW, hg, hbX, RXn⟩ := RN.out.boxB nilV nilV nilV 28; rw [hW]; (try rw [hg]); replace RXn := RXn.drew; have FZ := ustep (ustep UN.out hbX) (Below.drew (Below.refl _ _)); clear hW hbX; generalize WZ.drew = WX at RXn FZ ⊢; replace UX := Lib.hid FZ; clear FZ)); clear s0 s1 s2; replace RX := Lib.hid RXn; clear RXn; obtain ⟨⟨s0, s1, s2⟩, -⟩ := RX.out.at (r := w.heap.size + 1) (a := .slice p1 h1 e1) (b := .slice p2 h1 e2) (c := .slice p3 h3 e3) (by simp))
              refine hK.out _ _ (by (try dsimp only); with_reducible exact ⟨s0, s1, s2⟩) (fun hHeld => ?_)
              clear hK K
              try simp only [Act.put, List.getElem_toArray, List.getElem_cons_succ, List.getElem_cons_zero, List.setIfInBounds_toArray, List.set_cons_zero, List.set_cons_succ]
              refine wpAnyH_ready (rs := [3, 10]) (by kernel_rfl) (by simp) ?_
              refine AllReadyH.cons rfl (fun K hK => ?_) (AllReadyH.cons rfl (fun K hK => ?_) AllReadyH.nil)
              focus
                go_simp
                (go_at_call 43; (first | (refine (concat_two T1.out (Nat.le_refl _) (by have h1 := HNR.out; have h2 := HLN.out; omega)).mono ?_; rintro e WX ⟨vq, rfl, ho, hb⟩; obtain ⟨a4, n4, c4, rfl⟩ := Own.slice ho; clear T1; (try (replace T2 := Lib.hid (T2.out.below hb))); replace UX := Lib.hid (ustep UX.out hb); clear s0 s1 s2; replace RX := Lib.hid (RX.out.new hb ho); clear ho hb) | (refine (concat_two T2.out (Nat.le_refl _) (by rw [dimsVia_len]; have h1 := HNR.out; have h2 := HLN.out; omega)).mono ?_; rintro e WX ⟨vq, rfl, ho, hb⟩; obtain ⟨a5, n5, c5, rfl⟩ := Own.slice ho; clear T2; (try (replace T1 := Lib.hid (T1.out.below hb))); replace UX := Lib.hid (ustep UX.out hb); clear s0 s1 s2; replace RX := Lib.hid (RX.out.new hb ho); clear ho hb)); obtain ⟨⟨s0, s1, s2⟩, -⟩ := RX.out.at (r := w.heap.size + 1) (a := .slice p1 h1 e1) (b := .slice p2 h1 e2) (c := .slice p3 h3 e3) (by simp))
                go_wp2_with fail
                refine hK.out _ _ (by (try dsimp only); with_reducible exact ⟨s0, s1, s2⟩) (fun hHeld => ?_)
                clear hK K
                try simp only [Act.put, List.getElem_toArray, List.getElem_cons_succ, List.getElem_cons_zero, List.setIfInBounds_toArray, List.set_cons_zero, List.set_cons_succ]
                refine wpAnyH_ready (rs := [10]) (by kernel_rfl) (by simp) ?_
                refine AllReadyH.cons rfl (fun K hK => ?_) AllReadyH.nil
                go_simp
                ((first | (obtain ⟨WX, gl, hW, hg, hbX, RXn, TW⟩ := RX.out.listX (RX.out.rd (v := .slice aR nR cR) (xs := restL F L) (by simp)) UX.out.1; rw [hW]; (try rw [hg]); (try (replace T2 := Lib.hid (T2.out.below hbX))); have T1 := Lib.hid TW; clear TW; replace UX := Lib.hid (ustep UX.out hbX); clear hbX hW) | (obtain ⟨WZ, gl, hW, hg, hbX, RXn, TW⟩ := RN.out.listX (RN.out.rd (v := .slice aR nR cR) (xs := restL F L) (by simp)) UN.out.1; rw [hW]; (try rw [hg]); replace RXn := RXn.drew; have FZ := ustep (ustep UN.out hbX) (Below.drew (Below.refl _ _)); have TZ := TW.below (Below.drew (Below.refl _ _)); clear hW hbX TW; generalize WZ.drew = WX at RXn FZ TZ ⊢; have T1 := Lib.hid TZ; replace UX := Lib.hid FZ; clear TZ FZ) | (obtain ⟨WX, gl, hW, hg, hbX, RXn, TW⟩ := RX.out.listX (by have h := (RX.out.rd (v := .slice p2 h1 e2) (xs := dimsVia L D (regL L F)) (by simp)).take nR (by rw [HRD.out.2]; omega); rw [HDT.out] at h; exact h) UX.out.2; rw [hW]; (try rw [hg]); (try (replace T1 := Lib.hid (T1.out.below hbX))); have T2 := Lib.hid TW; clear TW; replace UX := Lib.hid (ustep UX.out hbX); clear hbX hW) | (obtain ⟨WZ, gl, hW, hg, hbX, RXn, TW⟩ := RN.out.listX (by have h := (RN.out.rd (v := .slice p2 h1 e2) (xs := dimsVia L D (regL L F)) (by simp)).take nR (by rw [HRD.out.2]; omega); rw [HDT.out] at h; exact h) UN.out.2; rw [hW]; (try rw [hg]); replace RXn := RXn.drew; have FZ := ustep (ustep UN.out hbX) (Below.drew (Below.refl _ _)); have TZ := TW.below (Below.drew (Below.refl _ _)); clear hW hbX TW; generalize WZ.drew = WX at RXn FZ TZ ⊢; have T2 := Lib.hid TZ; replace UX := Lib.hid FZ; clear TZ FZ)); clear s0 s1 s2; replace RX := Lib.hid RXn; clear RXn; obtain ⟨⟨s0, s1, s2⟩, -⟩ := RX.out.at (r := w.heap.size + 1) (a := .slice p1 h1 e1) (b := .slice p2 h1 e2) (c := .slice p3 h3 e3) (by simp))
                refine hK.out _ _ (by (try dsimp only); with_reducible exact ⟨s0, s1, s2⟩) (fun hHeld => ?_)
                clear hK K
                try simp only [Act.put, List.getElem_toArray, List.getElem_cons_succ, List.getElem_cons_zero, List.setIfInBounds_toArray, List.set_cons_zero, List.set_cons_succ]
                refine wpAnyH_ready (rs := [11]) (by kernel_rfl) (by simp) ?_
                refine AllReadyH.cons rfl (fun K hK => ?_) AllReadyH.nil
                go_simp
                (go_at_call 43; (first | (refine (concat_two T1.out (Nat.le_refl _) (by have h1 := HNR.out; have h2 := HLN.out; omega)).mono ?_; rintro e WX ⟨vq, rfl, ho, hb⟩; obtain ⟨a4, n4, c4, rfl⟩ := Own.slice ho; clear T1; (try (replace T2 := Lib.hid (T2.out.below hb))); replace UX := Lib.hid (ustep UX.out hb); clear s0 s1 s2; replace RX := Lib.hid (RX.out.new hb ho); clear ho hb) | (refine (concat_two T2.out (Nat.le_refl _) (by rw [dimsVia_len]; have h1 := HNR.out; have h2 := HLN.out; omega)).mono ?_; rintro e WX ⟨vq, rfl, ho, hb⟩; obtain ⟨a5, n5, c5, rfl⟩ := Own.slice ho; clear T2; (try (replace T1 := Lib.hid (T1.out.below hb))); replace UX := Lib.hid (ustep UX.out hb); clear s0 s1 s2; replace RX := Lib.hid (RX.out.new hb ho); clear ho hb)); obtain ⟨⟨s0, s1, s2⟩, -⟩ := RX.out.at (r := w.heap.size + 1) (a := .slice p1 h1 e1) (b := .slice p2 h1 e2) (c := .slice p3 h3 e3) (by simp))
                go_wp2_with fail
                refine hK.out _ _ (by (try dsimp only); with_reducible exact ⟨s0, s1, s2⟩) (fun hHeld => ?_)
                clear hK K
                try simp only [Act.put, List.getElem_toArray, List.getElem_cons_succ, List.getElem_cons_zero, List.setIfInBounds_toArray, List.set_cons_zero, List.set_cons_succ]
                refine wpAnyH_take (i := 14) (v := ?_) rfl (by kernel_rfl) (by kernel_rfl) (by kernel_rfl) (fun _ _ _ h => h) (Or.inl ⟨by rfl, ?_⟩) (by assumption) ?_
                rotate_left
                · intro w hSw; (try dsimp only at hSw); go_simp <;> with_reducible rfl
                try simp only [Act.put, List.getElem_toArray, List.getElem_cons_succ, List.getElem_cons_zero, List.setIfInBounds_toArray, List.set_cons_zero, List.set_cons_succ]
                refine wpAnyH_ready (rs := [16]) (by kernel_rfl) (by simp) ?_
                refine AllReadyH.cons rfl (fun K hK => ?_) AllReadyH.nil
                (obtain ⟨⟨o0, o1, o2⟩, g0, g1, g2⟩ := RX.out.at List.mem_cons_self)
                go_simp
                (clear o0 o1 o2 g0 g1 g2 s0 s1 s2; replace RX := Lib.hid (RX.out.set3 (.slice a4 n4 c4) (.slice a5 n5 c5) (.slice p3 h3 e3)); obtain ⟨⟨s0, s1, s2⟩, -⟩ := RX.out.at (r := w.heap.size + 1) (a := .slice p1 h1 e1) (b := .slice p2 h1 e2) (c := .slice p3 h3 e3) (by simp))
                refine hK.out _ _ (by (try dsimp only); with_reducible exact ⟨s0, s1, s2⟩) (fun hHeld => ?_)
                clear hK K
                try simp only [Act.put, List.getElem_toArray, List.getElem_cons_succ, List.getElem_cons_zero, List.setIfInBounds_toArray, List.set_cons_zero, List.set_cons_succ]
                refine wpAnyH_done (by kernel_rfl) ?_ _
              rotate_left 1
              focus
                go_simp
                ((first | (obtain ⟨WX, gl, hW, hg, hbX, RXn, TW⟩ := RX.out.listX (RX.out.rd (v := .slice aR nR cR) (xs := restL F L) (by simp)) UX.out.1; rw [hW]; (try rw [hg]); (try (replace T2 := Lib.hid (T2.out.below hbX))); have T1 := Lib.hid TW; clear TW; replace UX := Lib.hid (ustep UX.out hbX); clear hbX hW) | (obtain ⟨WZ, gl, hW, hg, hbX, RXn, TW⟩ := RN.out.listX (RN.out.rd (v := .slice aR nR cR) (xs := restL F L) (by simp)) UN.out.1; rw [hW]; (try rw [hg]); replace RXn := RXn.drew; have FZ := ustep (ustep UN.out hbX) (Below.drew (Below.refl _ _)); have TZ := TW.below (Below.drew (Below.refl _ _)); clear hW hbX TW; generalize WZ.drew = WX at RXn FZ TZ ⊢; have T1 := Lib.hid TZ; replace UX := Lib.hid FZ; clear TZ FZ) | (obtain ⟨WX, gl, hW, hg, hbX, RXn, TW⟩ := RX.out.listX (by have h := (RX.out.rd (v := .slice p2 h1 e2) (xs := dimsVia L D (regL L F)) (by simp)).take nR (by rw [HRD.out.2]; omega); rw [HDT.out] at h; exact h) UX.out.2; rw [hW]; (try rw [hg]); (try (replace T1 := Lib.hid (T1.out.below hbX))); have T2 := Lib.hid TW; clear TW; replace UX := Lib.hid (ustep UX.out hbX); clear hbX hW) | (obtain ⟨WZ, gl, hW, hg, hbX, RXn, TW⟩ := RN.out.listX (by have h := (RN.out.rd (v := .slice p2 h1 e2) (xs := dimsVia L D (regL L F)) (by simp)).take nR (by rw [HRD.out.2]; omega); rw [HDT.out] at h; exact h) UN.out.2; rw [hW]; (try rw [hg]); replace RXn := RXn.drew; have FZ := ustep (ustep UN.out hbX) (Below.drew (Below.refl _ _)); have TZ := TW.below (Below.drew (Below.refl _ _)); clear hW hbX TW; generalize WZ.drew = WX at RXn FZ TZ ⊢; have T2 := Lib.hid TZ; replace UX := Lib.hid FZ; clear TZ FZ)); clear s0 s1 s2; replace RX := Lib.hid RXn; clear RXn; obtain ⟨⟨s0, s1, s2⟩, -⟩ := RX.out.at (r := w.heap.size + 1) (a := .slice p1 h1 e1) (b := .slice p2 h1 e2) (c := .slice p3 h3 e3) (by simp))
                refine hK.out _ _ (by (try dsimp only); with_reducible exact ⟨s0, s1, s2⟩) (fun hHeld => ?_)
                clear hK K
                try simp only [Act.put, List.getElem_toArray, List.getElem_cons_succ, List.getElem_cons_zero, List.setIfInBounds_toArray, List.set_cons_zero, List.set_cons_succ]
                refine wpAnyH_ready (rs := [3]) (by kernel_rfl) (by simp) ?_
                refine AllReadyH.cons rfl (fun K hK => ?_) AllReadyH.nil
                go_simp
                (go_at_call 43; (first | (refine (concat_two T1.out (Nat.le_refl _) (by have h1 := HNR.out; have h2 := HLN.out; omega)).mono ?_; rintro e WX ⟨vq, rfl, ho, hb⟩; obtain ⟨a4, n4, c4, rfl⟩ := Own.slice ho; clear T1; (try (replace T2 := Lib.hid (T2.out.below hb))); replace UX := Lib.hid (ustep UX.out hb); clear s0 s1 s2; replace RX := Lib.hid (RX.out.new hb ho); clear ho hb) | (refine (concat_two T2.out (Nat.le_refl _) (by rw [dimsVia_len]; have h1 := HNR.out; have h2 := HLN.out; omega)).mono ?_; rintro e WX ⟨vq, rfl, ho, hb⟩; obtain ⟨a5, n5, c5, rfl⟩ := Own.slice ho; clear T2; (try (replace T1 := Lib.hid (T1.out.below hb))); replace UX := Lib.hid (ustep UX.out hb); clear s0 s1 s2; replace RX := Lib.hid (RX.out.new hb ho); clear ho hb)); obtain ⟨⟨s0, s1, s2⟩, -⟩ := RX.out.at (r := w.heap.size + 1) (a := .slice p1 h1 e1) (b := .slice p2 h1 e2) (c := .slice p3 h3 e3) (by simp))
                go_wp2_with fail
                refine hK.out _ _ (by (try dsimp only); with_reducible exact ⟨s0, s1, s2⟩) (fun hHeld => ?_)
                clear hK K
                try simp only [Act.put, List.getElem_toArray, List.getElem_cons_succ, List.getElem_cons_zero, List.setIfInBounds_toArray, List.set_cons_zero, List.set_cons_succ]
                refine wpAnyH_ready (rs := [11]) (by kernel_rfl) (by simp) ?_
                refine AllReadyH.cons rfl (fun K hK => ?_) AllReadyH.nil
                go_simp
                (go_at_call 43; (first | (refine (concat_two T1.out (Nat.le_refl _) (by have h1 := HNR.out; have h2 := HLN.out; omega)).mono ?_; rintro e WX ⟨vq, rfl, ho, hb⟩; obtain ⟨a4, n4, c4, rfl⟩ := Own.slice ho; clear T1; (try (replace T2 := Lib.hid (T2.out.below hb))); replace UX := Lib.hid (ustep UX.out hb); clear s0 s1 s2; replace RX := Lib.hid (RX.out.new hb ho); clear ho hb) | (refine (concat_two T2.out (Nat.le_refl _) (by rw [dimsVia_len]; have h1 := HNR.out; have h2 := HLN.out; omega)).mono ?_; rintro e WX ⟨vq, rfl, ho, hb⟩; obtain ⟨a5, n5, c5, rfl⟩ := Own.slice ho; clear T2; (try (replace T1 := Lib.hid (T1.out.below hb))); replace UX := Lib.hid (ustep UX.out hb); clear s0 s1 s2; replace RX := Lib.hid (RX.out.new hb ho); clear ho hb)); obtain ⟨⟨s0, s1, s2⟩, -⟩ := RX.out.at (r := w.heap.size + 1) (a := .slice p1 h1 e1) (b := .slice p2 h1 e2) (c := .slice p3 h3 e3) (by simp))
                go_wp2_with fail
                refine hK.out _ _ (by (try dsimp only); with_reducible exact ⟨s0, s1, s2⟩) (fun hHeld => ?_)
                clear hK K
                try simp only [Act.put, List.getElem_toArray, List.getElem_cons_succ, List.getElem_cons_zero, List.setIfInBounds_toArray, List.set_cons_zero, List.set_cons_succ]
                refine wpAnyH_take (i := 14) (v := ?_) rfl (by kernel_rfl) (by kernel_rfl) (by kernel_rfl) (fun _ _ _ h => h) (Or.inl ⟨by rfl, ?_⟩) (by assumption) ?_
                rotate_left
                · intro w hSw; (try dsimp only at hSw); go_simp <;> with_reducible rfl
                try simp only [Act.put, List.getElem_toArray, List.getElem_cons_succ, List.getElem_cons_zero, List.setIfInBounds_toArray, List.set_cons_zero, List.set_cons_succ]
                refine wpAnyH_ready (rs := [16]) (by kernel_rfl) (by simp) ?_
                refine AllReadyH.cons rfl (fun K hK => ?_) AllReadyH.nil
                (obtain ⟨⟨o0, o1, o2⟩, g0, g1, g2⟩ := RX.out.at List.mem_cons_self)
                go_simp
                (clear o0 o1 o2 g0 g1 g2 s0 s1 s2; replace RX := Lib.hid (RX.out.set3 (.slice a4 n4 c4) (.slice a5 n5 c5) (.slice p3 h3 e3)); obtain ⟨⟨s0, s1, s2⟩, -⟩ := RX.out.at (r := w.heap.size + 1) (a := .slice p1 h1 e1) (b := .slice p2 h1 e2) (c := .slice p3 h3 e3) (by simp))
                refine hK.out _ _ (by (try dsimp only); with_reducible exact ⟨s0, s1, s2⟩) (fun hHeld => ?_)
                clear hK K
                try simp only [Act.put, List.getElem_toArray, List.getElem_cons_succ, List.getElem_cons_zero, List.setIfInBounds_toArray, List.set_cons_zero, List.set_cons_succ]
                refine wpAnyH_done (by kernel_rfl) ?_ _
              rotate_left 1
            rotate_left 2
          rotate_left 8
          focus
            go_simp
            ((first | (obtain ⟨WX, gl, hW, hg, hbX, RXn, TW⟩ := RX.out.listX (RX.out.rd (v := .slice aR nR cR) (xs := restL F L) (by simp)) UX.out.1; rw [hW]; (try rw [hg]); (try (replace T2 := Lib.hid (T2.out.below hbX))); have T1 := Lib.hid TW; clear TW; replace UX := Lib.hid (ustep UX.out hbX); clear hbX hW) | (obtain ⟨WZ, gl, hW, hg, hbX, RXn, TW⟩ := RN.out.listX (RN.out.rd (v := .slice aR nR cR) (xs := restL F L) (by simp)) UN.out.1; rw [hW]; (try rw [hg]); replace RXn := RXn.drew; have FZ := ustep (ustep UN.out hbX) (Below.drew (Below.refl _ _)); have TZ := TW.below (Below.drew (Below.refl _ _)); clear hW hbX TW; generalize WZ.drew = WX at RXn FZ TZ ⊢; have T1 := Lib.hid TZ; replace UX := Lib.hid FZ; clear TZ FZ) | (obtain ⟨WX, gl, hW, hg, hbX, RXn, TW⟩ := RX.out.listX (by have h := (RX.out.rd (v := .slice p2 h1 e2) (xs := dimsVia L D (regL L F)) (by simp)).take nR (by rw [HRD.out.2]; omega); rw [HDT.out] at h; exact h) UX.out.2; rw [hW]; (try rw [hg]); (try (replace T1 := Lib.hid (T1.out.below hbX))); have T2 := Lib.hid TW; clear TW; replace UX := Lib.hid (ustep UX.out hbX); clear hbX hW) | (obtain ⟨WZ, gl, hW, hg, hbX, RXn, TW⟩ := RN.out.listX (by have h := (RN.out.rd (v := .slice p2 h1 e2) (xs := dimsVia L D (regL L F)) (by simp)).take nR (by rw [HRD.out.2]; omega); rw [HDT.out] at h; exact h) UN.out.2; rw [hW]; (try rw [hg]); replace RXn := RXn.drew; have FZ := ustep (ustep UN.out hbX) (Below.drew (Below.refl _ _)); have TZ := TW.below (Below.drew (Below.refl _ _)); clear hW hbX TW; generalize WZ.drew = WX at RXn FZ TZ ⊢; have T2 := Lib.hid TZ; replace UX := Lib.hid FZ; clear TZ FZ)); clear s0 s1 s2; replace RX := Lib.hid RXn; clear RXn; obtain ⟨⟨s0, s1, s2⟩, -⟩ := RX.out.at (r := w.heap.size + 1) (a := .slice p1 h1 e1) (b := .slice p2 h1 e2) (c := .slice p3 h3 e3) (by simp))
            refine hK.out _ _ (by (try dsimp only); with_reducible exact ⟨s0, s1, s2⟩) (fun hHeld => ?_)
            clear hK K
            try simp only [Act.put, List.getElem_toArray, List.getElem_cons_succ, List.getElem_cons_zero, List.setIfInBounds_toArray, List.set_cons_zero, List.set_cons_succ]
            refine wpAnyH_ready (rs := [2, 15]) (by kernel_rfl) (by simp) ?_
            refine AllReadyH.cons rfl (fun K hK => ?_) (AllReadyH.cons rfl (fun K hK => ?_) AllReadyH.nil)
            focus
              go_simp
              ((first | (obtain ⟨WX, gl, hW, hg, hbX, RXn, TW⟩ := RX.out.listX (RX.out.rd (v := .slice aR nR cR) (xs := restL F L) (by simp)) UX.out.1; rw [hW]; (try rw [hg]); (try (replace T2 := Lib.hid (T2.out.below hbX))); have T1 := Lib.hid TW; clear TW; replace UX := Lib.hid (ustep UX.out hbX); clear hbX hW) | (obtain ⟨WZ, gl, hW, hg, hbX, RXn, TW⟩ := RN.out.listX (RN.out.rd (v := .slice aR nR cR) (xs := restL F L) (by simp)) UN.out.1; rw [hW]; (try rw [hg]); replace RXn := RXn.drew; have FZ := ustep (ustep UN.out hbX) (Below.drew (Below.refl _ _)); have TZ := TW.below (Below.drew (Below.refl _ _)); clear hW hbX TW; generalize WZ.drew = WX at RXn FZ TZ ⊢; have T1 := Lib.hid TZ; replace UX := Lib.hid FZ; clear TZ FZ) | (obtain ⟨WX, gl, hW, hg, hbX, RXn, TW⟩ := RX.out.listX (by have h := (RX.out.rd (v := .slice p2 h1 e2) (xs := dimsVia L D (regL L F)) (by simp)).take nR (by rw [HRD.out.2]; omega); rw [HDT.out] at h; exact h) UX.out.2; rw [hW]; (try rw [hg]); (try (replace T1 := Lib.hid (T1.out.below hbX))); have T2 := Lib.hid TW; clear TW; replace UX := Lib.hid (ustep UX.out hbX); clear hbX hW) | (obtain ⟨WZ, gl, hW, hg, hbX, RXn, TW⟩ := RN.out.listX (by have h := (RN.out.rd (v := .slice p2 h1 e2) (xs := dimsVia L D (regL L F)) (by simp)).take nR (by rw [HRD.out.2]; omega); rw [HDT.out] at h; exact h) UN.out.2; rw [hW]; (try rw [hg]); replace RXn := RXn.drew; have FZ := ustep (ustep UN.out hbX) (Below.drew (Below.refl _ _)); have TZ := TW.below (Below.drew (Below.refl _ _)); clear hW hbX TW; generalize WZ.drew = WX at RXn FZ TZ ⊢; have T2 := Lib.hid TZ; replace UX := Lib.hid FZ; clear TZ FZ)); clear s0 s1 s2; replace RX := Lib.hid RXn; clear RXn; obtain ⟨⟨s0, s1, s2⟩, -⟩ := RX.out.at (r := w.heap.size + 1) (a := .slice p1 h1 e1) (b := .slice p2 h1 e2) (c := .slice p3 h3 e3) (by simp))
              refine hK.out _ _ (by (try dsimp only); with_reducible exact ⟨s0, s1, s2⟩) (fun hHeld => ?_)
              clear hK K
              try simp only [Act.put, List.getElem_toArray, List.getElem_cons_succ, List.getElem_cons_zero, List.setIfInBounds_toArray, List.set_cons_zero, List.set_cons_succ]
              refine wpAnyH_ready (rs := [3, 15]) (by kernel_rfl) (by simp) ?_
              refine AllReadyH.cons rfl (fun K hK => ?_) (AllReadyH.cons rfl (fun K hK => ?_) AllReadyH.nil)
              focus
                go_simp
                (go_at_call 43; (first | (refine (concat_two T1.out (Nat.le_refl _) (by have h1 := HNR.out; have h2 := HLN.out; omega)).mono ?_; rintro e WX ⟨vq, rfl, ho, hb⟩; obtain ⟨a4, n4, c4, rfl⟩ := Own.slice ho; clear T1; (try (replace T2 := Lib.hid (T2.out.below hb))); replace UX := Lib.hid (ustep UX.out hb); clear s0 s1 s2; replace RX := Lib.hid (RX.out.new hb ho); clear ho hb) | (refine (concat_two T2.out (Nat.le_refl _) (by rw [dimsVia_len]; have h1 := HNR.out; have h2 := HLN.out; omega)).mono ?_; rintro e WX ⟨vq, rfl, ho, hb⟩; obtain ⟨a5, n5, c5, rfl⟩ := Own.slice ho; clear T2; (try (replace T1 := Lib.hid (T1.out.below hb))); replace UX := Lib.hid (ustep UX.out hb); clear s0 s1 s2; replace RX := Lib.hid (RX.out.new hb ho); clear ho hb)); obtain ⟨⟨s0, s1, s2⟩, -⟩ := RX.out.at (r := w.heap.size + 1) (a := .slice p1 h1 e1) (b := .slice p2 h1 e2) (c := .slice p3 h3 e3) (by simp))
                go_wp2_with fail
                refine hK.out _ _ (by (try dsimp only); with_reducible exact ⟨s0, s1, s2⟩) (fun hHeld => ?_)
                clear hK K
                try simp only [Act.put, List.getElem_toArray, List.getElem_cons_succ, List.getElem_cons_zero, List.setIfInBounds_toArray, List.set_cons_zero, List.set_cons_succ]
                refine wpAnyH_ready (rs := [11, 15]) (by kernel_rfl) (by simp) ?_
                refine AllReadyH.cons rfl (fun K hK => ?_) (AllReadyH.cons rfl (fun K hK => ?_) AllReadyH.nil)
                focus
                  go_simp
                  (go_at_call 43; (first | (refine (concat_two T1.out (Nat.le_refl _) (by have h1 := HNR.out; have h2 := HLN.out; omega)).mono ?_; rintro e WX ⟨vq, rfl, ho, hb⟩; obtain ⟨a4, n4, c4, rfl⟩ := Own.slice ho; clear T1; (try (replace T2 := Lib.hid (T2.out.below hb))); replace UX := Lib.hid (ustep UX.out hb); clear s0 s1 s2; replace RX := Lib.hid (RX.out.new hb ho); clear ho hb) | (refine (concat_two T2.out (Nat.le_refl _) (by rw [dimsVia_len]; have h1 := HNR.out; have h2 := HLN.out; omega)).mono ?_; rintro e WX ⟨vq, rfl, ho, hb⟩; obtain ⟨a5, n5, c5, rfl⟩ := Own.slice ho; clear T2; (try (replace T1 := Lib.hid (T1.out.below hb))); replace UX := Lib.hid (ustep UX.out hb); clear s0 s1 s2; replace RX := Lib.hid (RX.out.new hb ho); clear ho hb)); obtain ⟨⟨s0, s1, s2⟩, -⟩ := RX.out.at (r := w.heap.size + 1) (a := .slice p1 h1 e1) (b := .slice p2 h1 e2) (c := .slice p3 h3 e3) (by simp))
                  go_wp2_with fail
                  refine hK.out _ _ (by (try dsimp only); with_reducible exact ⟨s0, s1, s2⟩) (fun hHeld => ?_)
                  clear hK K
                  try simp only [Act.put, List.getElem_toArray, List.getElem_cons_succ, List.getElem_cons_zero, List.setIfInBounds_toArray, List.set_cons_zero, List.set_cons_succ]
                  refine wpAnyH_take (i := 14) (v := ?_) rfl (by kernel_rfl) (by kernel_rfl) (by kernel_rfl) (fun _ _ _ h => h) (Or.inl ⟨by rfl, ?_⟩) (by assumption) ?_
                  rotate_left
                  · intro w hSw; (try dsimp only at hSw); go_simp <;> with_reducible rfl
                  try simp only [Act.put, List.getElem_toArray, List.getElem_cons_succ, List.getElem_cons_zero, List.setIfInBounds_toArray, List.set_cons_zero, List.set_cons_succ]
                  refine wpAnyH_ready (rs := [15]) (by kernel_rfl) (by simp) ?_
                  refine AllReadyH.cons rfl (fun K hK => ?_) AllReadyH.nil
                  go_simp
                  ((first | (obtain ⟨WX, gb, hW, hg, hbX, RXn⟩ := RX.out.boxB nilV nilV nilV 28; rw [hW]; (try rw [hg]); (try (replace T1 := Lib.hid (T1.out.below hbX))); (try (replace T2 := Lib.hid (T2.out.below hbX))); replace UX := Lib.hid (ustep UX.out hbX); clear hbX hW) | (obtain ⟨WZ, gb, hW, hg, hbX, RXn⟩ := RN.out.boxB nilV nilV nilV 28; rw [hW]; (try rw [hg]); replace RXn := RXn.drew; have FZ := ustep (ustep UN.out hbX) (Below.drew (Below.refl _ _)); clear hW hbX; generalize WZ.drew = WX at RXn FZ ⊢; replace UX := Lib.hid FZ; clear FZ)); clear s0 s1 s2; replace RX := Lib.hid RXn; clear RXn; obtain ⟨⟨s0, s1, s2⟩, -⟩ := RX.out.at (r := w.heap.size + 1) (a := .slice p1 h1 e1) (b := .slice p2 h1 e2) (c := .slice p3 h3 e3) (by simp))
                  refine hK.out _ _ (by (try dsimp only); with_reducible exact ⟨s0, s1, s2⟩) (fun hHeld => ?_)
                  clear hK K
                  try simp only [Act.put, List.getElem_toArray, List.getElem_cons_succ, List.getElem_cons_zero, List.setIfInBounds_toArray, List.set_cons_zero, List.set_cons_succ]
                  refine wpAnyH_ready (rs := [16]) (by kernel_rfl) (by simp) ?_
                  refine AllReadyH.cons rfl (fun K hK => ?_) AllReadyH.nil
                  (obtain ⟨⟨o0, o1, o2⟩, g0, g1, g2⟩ := RX.out.at List.mem_cons_self)
                  go_simp
                  (clear o0 o1 o2 g0 g1 g2 s0 s1 s2; replace RX := Lib.hid (RX.out.set3 (.slice a4 n4 c4) (.slice a5 n5 c5) (.slice p3 h3 e3)); obtain ⟨⟨s0, s1, s2⟩, -⟩ := RX.out.at (r := w.heap.size + 1) (a := .slice p1 h1 e1) (b := .slice p2 h1 e2) (c := .slice p3 h3 e3) (by simp))
                  refine hK.out _ _ (by (try dsimp only); with_reducible exact ⟨s0, s1, s2⟩) (fun hHeld => ?_)
                  clear hK K
                  try simp only [Act.put, List.getElem_toArray, List.getElem_cons_succ, List.getElem_cons_zero, List.setIfInBounds_toArray, List.set_cons_zero, List.set_cons_succ]
                  refine wpAnyH_done (by kernel_rfl) ?_ _
                rotate_left 1
                focus
                  go_simp
                  ((first | (obtain ⟨WX, gb, hW, hg, hbX, RXn⟩ := RX.out.boxB nilV nilV nilV 28; rw [hW]; (try rw [hg]); (try (replace T1 := Lib.hid (T1.out.below hbX))); (try (replace T2 := Lib.hid (T2.out.below hbX))); replace UX := Lib.hid (ustep UX.out hbX); clear hbX hW) | (obtain ⟨WZ, gb, hW, hg, hbX, RXn⟩ := RN.out.boxB nilV nilV nilV 28; rw [hW]; (try rw [hg]); replace RXn := RXn.drew; have FZ := ustep (ustep UN.out hbX) (Below.drew (Below.refl _ _)); clear hW hbX; generalize WZ.drew = WX at RXn FZ ⊢; replace UX := Lib.hid FZ; clear FZ)); clear s0 s1 s2; replace RX := Lib.hid RXn; clear RXn; obtain ⟨⟨s0, s1, s2⟩, -⟩ := RX.out.at (r := w.heap.size + 1) (a := .slice p1 h1 e1) (b := .slice p2 h1 e2) (c := .slice p3 h3 e3) (by simp))
                  refine hK.out _ _ (by (try dsimp only); with_reducible exact ⟨s0, s1, s2⟩) (fun hHeld => ?_)
                  clear hK K
                  try simp only [Act.put, List.getElem_toArray, List.getElem_cons_succ, List.getElem_cons_zero, List.setIfInBounds_toArray, List.set_cons_zero, List.set_cons_succ]
                  refine wpAnyH_ready (rs := [11]) (by kernel_rfl) (by simp) ?_
                  refine AllReadyH.cons rfl (fun K hK => ?_) AllReadyH.nil
                  go_simp
                  (go_at_call 43; (first | (refine (concat_two T1.out (Nat.le_refl _) (by have h1 := HNR.out; have h2 := HLN.out; omega)).mono ?_; rintro e WX ⟨vq, rfl, ho, hb⟩; obtain ⟨a4, n4, c4, rfl⟩ := Own.slice ho; clear T1; (try (replace T2 := Lib.hid (T2.out.below hb))); replace UX := Lib.hid (ustep UX.out hb); clear s0 s1 s2; replace RX := Lib.hid (RX.out.new hb ho); clear ho hb) | (refine (concat_two T2.out (Nat.le_refl _) (by rw [dimsVia_len]; have h1 := HNR.out; have h2 := HLN.out; omega)).mono ?_; rintro e WX ⟨vq, rfl, ho, hb⟩; obtain ⟨a5, n5, c5, rfl⟩ := Own.slice ho; clear T2; (try (replace T1 := Lib.hid (T1.out.below hb))); replace UX := Lib.hid (ustep UX.out hb); clear s0 s1 s2; replace RX := Lib.hid (RX.out.new hb ho); clear ho hb)); obtain ⟨⟨s0, s1, s2⟩, -⟩ := RX.out.at (r := w.heap.size + 1) (a := .slice p1 h1 e1) (b := .slice p2 h1 e2) (c := .slice p3 h3 e3) (by simp))
                  go_wp2_with fail
                  refine hK.out _ _ (by (try dsimp only); with_reducible exact ⟨s0, s1, s2⟩) (fun hHeld => ?_)
                  clear hK K
                  try simp only [Act.put, List.getElem_toArray, List.getElem_cons_succ, List.getElem_cons_zero, List.setIfInBounds_toArray, List.set_cons_zero, List.set_cons_succ]
                  refine wpAnyH_take (i := 14) (v := ?_) rfl (by kernel_rfl) (by kernel_rfl) (by kernel_rfl) (fun _ _ _ h => h) (Or.inl ⟨by rfl, ?_⟩) (by assumption) ?_
                  rotate_left
                  · intro w hSw; (try dsimp only at hSw); go_simp <;> with_reducible rfl
                  try simp only [Act.put, List.getElem_toArray, List.getElem_cons_succ, List.getElem_cons_zero, List.setIfInBounds_toArray, List.set_cons_zero, List.set_cons_succ]
                  refine wpAnyH_ready (rs := [16]) (by kernel_rfl) (by simp) ?_
                  refine AllReadyH.cons rfl (fun K hK => ?_) AllReadyH.nil
                  (obtain ⟨⟨o0, o1, o2⟩, g0, g1, g2⟩ := RX.out.at List.mem_cons_self)
                  go_simp
                  (clear o0 o1 o2 g0 g1 g2 s0 s1 s2; replace RX := Lib.hid (RX.out.set3 (.slice a4 n4 c4) (.slice a5 n5 c5) (.slice p3 h3 e3)); obtain ⟨⟨s0, s1, s2⟩, -⟩ := RX.out.at (r := w.heap.size + 1) (a := .slice p1 h1 e1) (b := .slice p2 h1 e2) (c := .slice p3 h3 e3) (by simp))
                  refine hK.out _ _ (by (try dsimp only); with_reducible exact ⟨s0, s1, s2⟩) (fun hHeld => ?_)
                  clear hK K
                  try simp only [Act.put, List.getElem_toArray, List.getElem_cons_succ, List.getElem_cons_zero, List.setIfInBounds_toArray, List.set_cons_zero, List.set_cons_succ]
                  refine wpAnyH_done (by kernel_rfl) ?_ _
                rotate_left 1
              rotate_left 2
              focus
                go_simp
                ((first | (obtain ⟨WX, gb, hW, hg, hbX, RXn⟩ := RX.out.boxB nilV nilV nilV 28; rw [hW]; (try rw [hg]); (try (replace T1 := Lib.hid (T1.out.below hbX))); (try (replace T2 := Lib.hid (T2.out.below hbX))); replace UX := Lib.hid (ustep UX.out hbX); clear hbX hW) | (obtain ⟨WZ, gb, hW, hg, hbX, RXn⟩ := RN.out.boxB nilV nilV nilV 28; rw [hW]; (try rw [hg]); replace RXn := RXn.drew; have FZ := ustep (ustep UN.out hbX) (Below.drew (Below.refl _ _)); clear hW hbX; generalize WZ.drew = WX at RXn FZ ⊢; replace UX := Lib.hid FZ; clear FZ)); clear s0 s1 s2; replace RX := Lib.hid RXn; clear RXn; obtain ⟨⟨s0, s1, s2⟩, -⟩ := RX.out.at (r := w.heap.size + 1) (a := .slice p1 h1 e1) (b := .slice p2 h1 e2) (c := .slice p3 h3 e3) (by simp))
                refine hK.out _ _ (by (try dsimp only); with_reducible exact ⟨s0, s1, s2⟩) (fun hHeld => ?_)
                clear hK K
                try simp only [Act.put, List.getElem_toArray, List.getElem_cons_succ, List.getElem_cons_zero, List.setIfInBounds_toArray, List.set_cons_zero, List.set_cons_succ]
                refine wpAnyH_ready (rs := [3]) (by kernel_rfl) (by simp) ?_
                refine AllReadyH.cons rfl (fun K hK => ?_) AllReadyH.nil
                go_simp
                (go_at_call 43; (first | (refine (concat_two T1.out (Nat.le_refl _) (by have h1 := HNR.out; have h2 := HLN.out; omega)).mono ?_; rintro e WX ⟨vq, rfl, ho, hb⟩; obtain ⟨a4, n4, c4, rfl⟩ := Own.slice ho; clear T1; (try (replace T2 := Lib.hid (T2.out.below hb))); replace UX := Lib.hid (ustep UX.out hb); clear s0 s1 s2; replace RX := Lib.hid (RX.out.new hb ho); clear ho hb) | (refine (concat_two T2.out (Nat.le_refl _) (by rw [dimsVia_len]; have h1 := HNR.out; have h2 := HLN.out; omega)).mono ?_; rintro e WX ⟨vq, rfl, ho, hb⟩; obtain ⟨a5, n5, c5, rfl⟩ := Own.slice ho; clear T2; (try (replace T1 := Lib.hid (T1.out.below hb))); replace UX := Lib.hid (ustep UX.out hb); clear s0 s1 s2; replace RX := Lib.hid (RX.out.new hb ho); clear ho hb)); obtain ⟨⟨s0, s1, s2⟩, -⟩ := RX.out.at (r := w.heap.size + 1) (a := .slice p1 h1 e1) (b := .slice p2 h1 e2) (c := .slice p3 h3 e3) (by simp))
                go_wp2_with fail
                refine hK.out _ _ (by (try dsimp only); with_reducible exact ⟨s0, s1, s2⟩) (fun hHeld => ?_)
                clear hK K
                try simp only [Act.put, List.getElem_toArray, List.getElem_cons_succ, List.getElem_cons_zero, List.setIfInBounds_toArray, List.set_cons_zero, List.set_cons_succ]
                refine wpAnyH_ready (rs := [11]) (by kernel_rfl) (by simp) ?_
                refine AllReadyH.cons rfl (fun K hK => ?_) AllReadyH.nil
                go_simp
                (go_at_call 43; (first | (refine (concat_two T1.out (Nat.le_refl _) (by have h1 := HNR.out; have h2 := HLN.out; omega)).mono ?_; rintro e WX ⟨vq, rfl, ho, hb⟩; obtain ⟨a4, n4, c4, rfl⟩ := Own.slice ho; clear T1; (try (replace T2 := Lib.hid (T2.out.below hb))); replace UX := Lib.hid (ustep UX.out hb); clear s0 s1 s2; replace RX := Lib.hid (RX.out.new hb ho); clear ho hb) | (refine (concat_two T2.out (Nat.le_refl _) (by rw [dimsVia_len]; have h1 := HNR.out; have h2 := HLN.out; omega)).mono ?_; rintro e WX ⟨vq, rfl, ho, hb⟩; obtain ⟨a5, n5, c5, rfl⟩ := Own.slice ho; clear T2; (try (replace T1 := Lib.hid (T1.out.below hb))); replace UX := Lib.hid (ustep UX.out hb); clear s0 s1 s2; replace RX := Lib.hid (RX.out.new hb ho); clear ho hb)); obtain ⟨⟨s0, s1, s2⟩, -⟩ := RX.out.at (r := w.heap.size + 1) (a := .slice p1 h1 e1) (b := .slice p2 h1 e2) (c := .slice p3 h3 e3) (by simp))
                go_wp2_with fail
                refine hK.out _ _ (by (try dsimp only); with_reducible exact ⟨s0, s1, s2⟩) (fun hHeld => ?_)
                clear hK K
                try simp only [Act.put, List.getElem_toArray, List.getElem_cons_succ, List.getElem_cons_zero, List.setIfInBounds_toArray, List.set_cons_zero, List.set_cons_succ]
                refine wpAnyH_take (i := 14) (v := ?_) rfl (by kernel_rfl) (by kernel_rfl) (by kernel_rfl) (fun _ _ _ h => h) (Or.inl ⟨by rfl, ?_⟩) (by assumption) ?_
                rotate_left
                · intro w hSw; (try dsimp only at hSw); go_simp <;> with_reducible rfl
                try simp only [Act.put, List.getElem_toArray, List.getElem_cons_succ, List.getElem_cons_zero, List.setIfInBounds_toArray, List.set_cons_zero, List.set_cons_succ]
                refine wpAnyH_ready (rs := [16]) (by kernel_rfl) (by simp) ?_
                refine AllReadyH.cons rfl (fun K hK => ?_) AllReadyH.nil
                (obtain ⟨⟨o0, o1, o2⟩, g0, g1, g2⟩ := RX.out.at List.mem_cons_self)
                go_simp
                (clear o0 o1 o2 g0 g1 g2 s0 s1 s2; replace RX := Lib.hid (RX.out.set3 (.slice a4 n4 c4) (.slice a5 n5 c5) (.slice p3 h3 e3)); obtain ⟨⟨s0, s1, s2⟩, -⟩ := RX.out.at (r := w.heap.size + 1) (a := .slice p1 h1 e1) (b := .slice p2 h1 e2) (c := .slice p3 h3 e3) (by simp))
                refine hK.out _ _ (by (try dsimp only); with_reducible exact ⟨s0, s1, s2⟩) (fun hHeld => ?_)
                clear hK K
                try simp only [Act.put, List.getElem_toArray, List.getElem_cons_succ, List.getElem_cons_zero, List.setIfInBounds_toArray, List.set_cons_zero, List.set_cons_succ]
                refine wpAnyH_done (by kernel_rfl) ?_ _
              rotate_left 1
            rotate_left 3
            focus
              go_simp
              ((first | (obtain ⟨WX, gb, hW, hg, hbX, RXn⟩ := RX.out.boxB nilV nilV nilV 28; rw [hW]; (try rw [hg]); (try (replace T1 := Lib.hid (T1.out.below hbX))); (try (replace T2 := Lib.hid (T2.out.below hbX))); replace UX := Lib.hid (ustep UX.out hbX); clear hbX hW) | (obtain ⟨WZ, gb, hW, hg, hbX, RXn⟩ := RN.out.boxB nilV nilV nilV 28; rw [hW]; (try rw [hg]); replace RXn := RXn.drew; have FZ := ustep (ustep UN.out hbX) (Below.drew (Below.refl _ _)); clear hW hbX; generalize WZ.drew = WX at RXn FZ ⊢; replace UX := Lib.hid FZ; clear FZ)); clear s0 s1 s2; replace RX := Lib.hid RXn; clear RXn; obtain ⟨⟨s0, s1, s2⟩, -⟩ := RX.out.at (r := w.heap.size + 1) (a := .slice p1 h1 e1) (b := .slice p2 h1 e2) (c := .slice p3 h3 e3) (by simp))
              refine hK.out _ _ (by (try dsimp only); with_reducible exact ⟨s0, s1, s2⟩) (fun hHeld => ?_)
              clear hK K
              try simp only [Act.put, List.getElem_toArray, List.getElem_cons_succ, List.getElem_cons_zero, List.setIfInBounds_toArray, List.set_cons_zero, List.set_cons_succ]
              refine wpAnyH_ready (rs := [2]) (by kernel_rfl) (by simp) ?_
              refine AllReadyH.cons rfl (fun K hK => ?_) AllReadyH.nil
              go_simp
              ((first | (obtain ⟨WX, gl, hW, hg, hbX, RXn, TW⟩ := RX.out.listX (RX.out.rd (v := .slice aR nR cR) (xs := restL F L) (by simp)) UX.out.1; rw [hW]; (try rw [hg]); (try (replace T2 := Lib.hid (T2.out.below hbX))); have T1 := Lib.hid TW; clear TW; replace UX := Lib.hid (ustep UX.out hbX); clear hbX hW) | (obtain ⟨WZ, gl, hW, hg, hbX, RXn, TW⟩ := RN.out.listX (RN.out.rd (v := .slice aR nR cR) (xs := restL F L) (by simp)) UN.out.1; rw [hW]; (try rw [hg]); replace RXn := RXn.drew; have FZ := ustep (ustep UN.out hbX) (Below.drew (Below.refl _ _)); have TZ := TW.below (Below.drew (Below.refl _ _)); clear hW hbX TW; generalize WZ.drew = WX at RXn FZ TZ ⊢; have T1 := Lib.hid TZ; replace UX := Lib.hid FZ; clear TZ FZ) | (obtain ⟨WX, gl, hW, hg, hbX, RXn, TW⟩ := RX.out.listX (by have h := (RX.out.rd (v := .slice p2 h1 e2) (xs := dimsVia L D (regL L F)) (by simp)).take nR (by rw [HRD.out.2]; omega); rw [HDT.out] at h; exact h) UX.out.2; rw [hW]; (try rw [hg]); (try (replace T1 := Lib.hid (T1.out.below hbX))); have T2 := Lib.hid TW; clear TW; replace UX := Lib.hid (ustep UX.out hbX); clear hbX hW) | (obtain ⟨WZ, gl, hW, hg, hbX, RXn, TW⟩ := RN.out.listX (by have h := (RN.out.rd (v := .slice p2 h1 e2) (xs := dimsVia L D (regL L F)) (by simp)).take nR (by rw [HRD.out.2]; omega); rw [HDT.out] at h; exact h) UN.out.2; rw [hW]; (try rw [hg]); replace RXn := RXn.drew; have FZ := ustep (ustep UN.out hbX) (Below.drew (Below.refl _ _)); have TZ := TW.below (Below.drew (Below.refl _ _)); clear hW hbX TW; generalize WZ.drew = WX at RXn FZ TZ ⊢; have T2 := Lib.hid TZ; replace UX := Lib.hid FZ; clear TZ FZ)); clear s0 s1 s2; replace RX := Lib.hid RXn; clear RXn; obtain ⟨⟨s0, s1, s2⟩, -⟩ := RX.out.at (r := w.heap.size + 1) (a := .slice p1 h1 e1) (b := .slice p2 h1 e2) (c := .slice p3 h3 e3) (by simp))
              refine hK.out _ _ (by (try dsimp only); with_reducible exact ⟨s0, s1, s2⟩) (fun hHeld => ?_)
              clear hK K
              try simp only [Act.put, List.getElem_toArray, List.getElem_cons_succ, List.getElem_cons_zero, List.setIfInBounds_toArray, List.set_cons_zero, List.set_cons_succ]
              refine wpAnyH_ready (rs := [3]) (by kernel_rfl) (by simp) ?_
              refine AllReadyH.cons rfl (fun K hK => ?_) AllReadyH.nil
              go_simp
              (go_at_call 43; (first | (refine (concat_two T1.out (Nat.le_refl _) (by have h1 := HNR.out; have h2 := HLN.out; omega)).mono ?_; rintro e WX ⟨vq, rfl, ho, hb⟩; obtain ⟨a4, n4, c4, rfl⟩ := Own.slice ho; clear T1; (try (replace T2 := Lib.hid (T2.out.below hb))); replace UX := Lib.hid (ustep UX.out hb); clear s0 s1 s2; replace RX := Lib.hid (RX.out.new hb ho); clear ho hb) | (refine (concat_two T2.out (Nat.le_refl _) (by rw [dimsVia_len]; have h1 := HNR.out; have h2 := HLN.out; omega)).mono ?_; rintro e WX ⟨vq, rfl, ho, hb⟩; obtain ⟨a5, n5, c5, rfl⟩ := Own.slice ho; clear T2; (try (replace T1 := Lib.hid (T1.out.below hb))); replace UX := Lib.hid (ustep UX.out hb); clear s0 s1 s2; replace RX := Lib.hid (RX.out.new hb ho); clear ho hb)); obtain ⟨⟨s0, s1, s2⟩, -⟩ := RX.out.at (r := w.heap.size + 1) (a := .slice p1 h1 e1) (b := .slice p2 h1 e2) (c := .slice p3 h3 e3) (by simp))
              go_wp2_with fail
              refine hK.out _ _ (by (try dsimp only); with_reducible exact ⟨s0, s1, s2⟩) (fun hHeld => ?_)
              clear hK K
              try simp only [Act.put, List.getElem_toArray, List.getElem_cons_succ, List.getElem_cons_zero, List.setIfInBounds_toArray, List.set_cons_zero, List.set_cons_succ]
              refine wpAnyH_ready (rs := [11]) (by kernel_rfl) (by simp) ?_
              refine AllReadyH.cons rfl (fun K hK => ?_) AllReadyH.nil
              go_simp
              (go_at_call 43; (first | (refine (concat_two T1.out (Nat.le_refl _) (by have h1 := HNR.out; have h2 := HLN.out; omega)).mono ?_; rintro e WX ⟨vq, rfl, ho, hb⟩; obtain ⟨a4, n4, c4, rfl⟩ := Own.slice ho; clear T1; (try (replace T2 := Lib.hid (T2.out.below hb))); replace UX := Lib.hid (ustep UX.out hb); clear s0 s1 s2; replace RX := Lib.hid (RX.out.new hb ho); clear ho hb) | (refine (concat_two T2.out (Nat.le_refl _) (by rw [dimsVia_len]; have h1 := HNR.out; have h2 := HLN.out; omega)).mono ?_; rintro e WX ⟨vq, rfl, ho, hb⟩; obtain ⟨a5, n5, c5, rfl⟩ := Own.slice ho; clear T2; (try (replace T1 := Lib.hid (T1.out.below hb))); replace UX := Lib.hid (ustep UX.out hb); clear s0 s1 s2; replace RX := Lib.hid (RX.out.new hb ho); clear ho hb)); obtain ⟨⟨s0, s1, s2⟩, -⟩ := RX.out.at (r := w.heap.size + 1) (a := .slice p1 h1 e1) (b := .slice p2 h1 e2) (c := .slice p3 h3 e3) (by simp))
              go_wp2_with fail
              refine hK.out _ _ (by (try dsimp only); with_reducible exact ⟨s0, s1, s2⟩) (fun hHeld => ?_)
              clear hK K
              try simp only [Act.put, List.getElem_toArray, List.getElem_cons_succ, List.getElem_cons_zero, List.setIfInBounds_toArray, List.set_cons_zero, List.set_cons_succ]
              refine wpAnyH_take (i := 14) (v := ?_) rfl (by kernel_rfl) (by kernel_rfl) (by kernel_rfl) (fun _ _ _ h => h) (Or.inl ⟨by rfl, ?_⟩) (by assumption) ?_
              rotate_left
              · intro w hSw; (try dsimp only at hSw); go_simp <;> with_reducible rfl
              try simp only [Act.put, List.getElem_toArray, List.getElem_cons_succ, List.getElem_cons_zero, List.setIfInBounds_toArray, List.set_cons_zero, List.set_cons_succ]
              refine wpAnyH_ready (rs := [16]) (by kernel_rfl) (by simp) ?_
              refine AllReadyH.cons rfl (fun K hK => ?_) AllReadyH.nil
              (obtain ⟨⟨o0, o1, o2⟩, g0, g1, g2⟩ := RX.out.at List.mem_cons_self)
              go_simp
              (clear o0 o1 o2 g0 g1 g2 s0 s1 s2; replace RX := Lib.hid (RX.out.set3 (.slice a4 n4 c4) (.slice a5 n5 c5) (.slice p3 h3 e3)); obtain ⟨⟨s0, s1, s2⟩, -⟩ := RX.out.at (r := w.heap.size + 1) (a := .slice p1 h1 e1) (b := .slice p2 h1 e2) (c := .slice p3 h3 e3) (by simp))
              refine hK.out _ _ (by (try dsimp only); with_reducible exact ⟨s0, s1, s2⟩) (fun hHeld => ?_)
              clear hK K
              try simp only [Act.put, List.getElem_toArray, List.getElem_cons_succ, List.getElem_cons_zero, List.setIfInBounds_toArray, List.set_cons_zero, List.set_cons_succ]
              refine wpAnyH_done (by kernel_rfl) ?_ _
            rotate_left 1
          rotate_left 4
          focus
            go_simp
            ((first | (obtain ⟨WX, gb, hW, hg, hbX, RXn⟩ := RX.out.boxB nilV nilV nilV 28; rw [hW]; (try rw [hg]); (try (replace T1 := Lib.hid (T1.out.below hbX))); (try (replace T2 := Lib.hid (T2.out.below hbX))); replace UX := Lib.hid (ustep UX.out hbX); clear hbX hW) | (obtain ⟨WZ, gb, hW, hg, hbX, RXn⟩ := RN.out.boxB nilV nilV nilV 28; rw [hW]; (try rw [hg]); replace RXn := RXn.drew; have FZ := ustep (ustep UN.out hbX) (Below.drew (Below.refl _ _)); clear hW hbX; generalize WZ.drew = WX at RXn FZ ⊢; replace UX := Lib.hid FZ; clear FZ)); clear s0 s1 s2; replace RX := Lib.hid RXn; clear RXn; obtain ⟨⟨s0, s1, s2⟩, -⟩ := RX.out.at (r := w.heap.size + 1) (a := .slice p1 h1 e1) (b := .slice p2 h1 e2) (c := .slice p3 h3 e3) (by simp))
            refine hK.out _ _ (by (try dsimp only); with_reducible exact ⟨s0, s1, s2⟩) (fun hHeld => ?_)
            clear hK K
            try simp only [Act.put, List.getElem_toArray, List.getElem_cons_succ, List.getElem_cons_zero, List.setIfInBounds_toArray, List.set_cons_zero, List.set_cons_succ]
            refine wpAnyH_ready (rs := [2, 10]) (by kernel_rfl) (by simp) ?_
            refine AllReadyH.cons rfl (fun K hK => ?_) (AllReadyH.cons rfl (fun K hK => ?_) AllReadyH.nil)
            focus
              go_simp
              ((first | (obtain ⟨WX, gl, hW, hg, hbX, RXn, TW⟩ := RX.out.listX (RX.out.rd (v := .slice aR nR cR) (xs := restL F L) (by simp)) UX.out.1; rw [hW]; (try rw [hg]); (try (replace T2 := Lib.hid (T2.out.below hbX))); have T1 := Lib.hid TW; clear TW; replace UX := Lib.hid (ustep UX.out hbX); clear hbX hW) | (obtain ⟨WZ, gl, hW, hg, hbX, RXn, TW⟩ := RN.out.listX (RN.out.rd (v := .slice aR nR cR) (xs := restL F L) (by simp)) UN.out.1; rw [hW]; (try rw [hg]); replace RXn := RXn.drew; have FZ := ustep (ustep UN.out hbX) (Below.drew (Below.refl _ _)); have TZ := TW.below (Below.drew (Below.refl _ _)); clear hW hbX TW; generalize WZ.drew = WX at RXn FZ TZ ⊢; have T1 := Lib.hid TZ; replace UX := Lib.hid FZ; clear TZ FZ) | (obtain ⟨WX, gl, hW, hg, hbX, RXn, TW⟩ := RX.out.listX (by have h := (RX.out.rd (v := .slice p2 h1 e2) (xs := dimsVia L D (regL L F)) (by simp)).take nR (by rw [HRD.out.2]; omega); rw [HDT.out] at h; exact h) UX.out.2; rw [hW]; (try rw [hg]); (try (replace T1 := Lib.hid (T1.out.below hbX))); have T2 := Lib.hid TW; clear TW; replace UX := Lib.hid (ustep UX.out hbX); clear hbX hW) | (obtain ⟨WZ, gl, hW, hg, hbX, RXn, TW⟩ := RN.out.listX (by have h := (RN.out.rd (v := .slice p2 h1 e2) (xs := dimsVia L D (regL L F)) (by simp)).take nR (by rw [HRD.out.2]; omega); rw [HDT.out] at h; exact h) UN.out.2; rw [hW]; (try rw [hg]); replace RXn := RXn.drew; have FZ := ustep (ustep UN.out hbX) (Below.drew (Below.refl _ _)); have TZ := TW.below (Below.drew (Below.refl _ _)); clear hW hbX TW; generalize WZ.drew = WX at RXn FZ TZ ⊢; have T2 := Lib.hid TZ; replace UX := Lib.hid FZ; clear TZ FZ)); clear s0 s1 s2; replace RX := Lib.hid RXn; clear RXn; obtain ⟨⟨s0, s1, s2⟩, -⟩ := RX.out.at (r := w.heap.size + 1) (a := .slice p1 h1 e1) (b := .slice p2 h1 e2) (c := .slice p3 h3 e3) (by simp))
              refine hK.out _ _ (by (try dsimp only); with_reducible exact ⟨s0, s1, s2⟩) (fun hHeld => ?_)
              clear hK K
              try simp only [Act.put, List.getElem_toArray, List.getElem_cons_succ, List.getElem_cons_zero, List.setIfInBounds_toArray, List.set_cons_zero, List.set_cons_succ]
              refine wpAnyH_ready (rs := [3, 10]) (by kernel_rfl) (by simp) ?_
              refine AllReadyH.cons rfl (fun K hK => ?_) (AllReadyH.cons rfl (fun K hK => ?_) AllReadyH.nil)
              focus
                go_simp
                (go_at_call 43; (first | (refine (concat_two T1.out (Nat.le_refl _) (by have h1 := HNR.out; have h2 := HLN.out; omega)).mono ?_; rintro e WX ⟨vq, rfl, ho, hb⟩; obtain ⟨a4, n4, c4, rfl⟩ := Own.slice ho; clear T1; (try (replace T2 := Lib.hid (T2.out.below hb))); replace UX := Lib.hid (ustep UX.out hb); clear s0 s1 s2; replace RX := Lib.hid (RX.out.new hb ho); clear ho hb) | (refine (concat_two T2.out (Nat.le_refl _) (by rw [dimsVia_len]; have h1 := HNR.out; have h2 := HLN.out; omega)).mono ?_; rintro e WX ⟨vq, rfl, ho, hb⟩; obtain ⟨a5, n5, c5, rfl⟩ := Own.slice ho; clear T2; (try (replace T1 := Lib.hid (T1.out.below hb))); replace UX := Lib.hid (ustep UX.out hb); clear s0 s1 s2; replace RX := Lib.hid (RX.out.new hb ho); clear ho hb)); obtain ⟨⟨s0, s1, s2⟩, -⟩ := RX.out.at (r := w.heap.size + 1) (a := .slice p1 h1 e1) (b := .slice p2 h1 e2) (c := .slice p3 h3 e3) (by simp))
                go_wp2_with fail
                refine hK.out _ _ (by (try dsimp only); with_reducible exact ⟨s0, s1, s2⟩) (fun hHeld => ?_)
                clear hK K
                try simp only [Act.put, List.getElem_toArray, List.getElem_cons_succ, List.getElem_cons_zero, List.setIfInBounds_toArray, List.set_cons_zero, List.set_cons_succ]
                refine wpAnyH_ready (rs := [10]) (by kernel_rfl) (by simp) ?_
                refine AllReadyH.cons rfl (fun K hK => ?_) AllReadyH.nil
                go_simp
                ((first | (obtain ⟨WX, gl, hW, hg, hbX, RXn, TW⟩ := RX.out.listX (RX.out.rd (v := .slice aR nR cR) (xs := restL F L) (by simp)) UX.out.1; rw [hW]; (try rw [hg]); (try (replace T2 := Lib.hid (T2.out.below hbX))); have T1 := Lib.hid TW; clear TW; replace UX := Lib.hid (ustep UX.out hbX); clear hbX hW) | (obtain ⟨WZ, gl, hW, hg, hbX, RXn, TW⟩ := RN.out.listX (RN.out.rd (v := .slice aR nR cR) (xs := restL F L) (by simp)) UN.out.1; rw [hW]; (try rw [hg]); replace RXn := RXn.drew; have FZ := ustep (ustep UN.out hbX) (Below.drew (Below.refl _ _)); have TZ := TW.below (Below.drew (Below.refl _ _)); clear hW hbX TW; generalize WZ.drew = WX at RXn FZ TZ ⊢; have T1 := Lib.hid TZ; replace UX := Lib.hid FZ; clear TZ FZ) | (obtain ⟨WX, gl, hW, hg, hbX, RXn, TW⟩ := RX.out.listX (by have h := (RX.out.rd (v := .slice p2 h1 e2) (xs := dimsVia L D (regL L F)) (by simp)).take nR (by rw [HRD.out.2]; omega); rw [HDT.out] at h; exact h) UX.out.2; rw [hW]; (try rw [hg]); (try (replace T1 := Lib.hid (T1.out.below hbX))); have T2 := Lib.hid TW; clear TW; replace UX := Lib.hid (ustep UX.out hbX); clear hbX hW) | (obtain ⟨WZ, gl, hW, hg, hbX, RXn, TW⟩ := RN.out.listX (by have h := (RN.out.rd (v := .slice p2 h1 e2) (xs := dimsVia L D (regL L F)) (by simp)).take nR (by rw [HRD.out.2]; omega); rw [HDT.out] at h; exact h) UN.out.2; rw [hW]; (try rw [hg]); replace RXn := RXn.drew; have FZ := ustep (ustep UN.out hbX) (Below.drew (Below.refl _ _)); have TZ := TW.below (Below.drew (Below.refl _ _)); clear hW hbX TW; generalize WZ.drew = WX at RXn FZ TZ ⊢; have T2 := Lib.hid TZ; replace UX := Lib.hid FZ; clear TZ FZ)); clear s0 s1 s2; replace RX := Lib.hid RXn; clear RXn; obtain ⟨⟨s0, s1, s2⟩, -⟩ := RX.out.at (r := w.heap.size + 1) (a := .slice p1 h1 e1) (b := .slice p2 h1 e2) (c := .slice p3 h3 e3) (by simp))
                refine hK.out _ _ (by (try dsimp only); with_reducible exact ⟨s0, s1, s2⟩) (fun hHeld => ?_)
                clear hK K
                try simp only [Act.put, List.getElem_toArray, List.getElem_cons_succ, List.getElem_cons_zero, List.setIfInBounds_toArray, List.set_cons_zero, List.set_cons_succ]
                refine wpAnyH_ready (rs := [11]) (by kernel_rfl) (by simp) ?_
                refine AllReadyH.cons rfl (fun K hK => ?_) AllReadyH.nil
                go_simp
                (go_at_call 43; (first | (refine (concat_two T1.out (Nat.le_refl _) (by have h1 := HNR.out; have h2 := HLN.out; omega)).mono ?_; rintro e WX ⟨vq, rfl, ho, hb⟩; obtain ⟨a4, n4, c4, rfl⟩ := Own.slice ho; clear T1; (try (replace T2 := Lib.hid (T2.out.below hb))); replace UX := Lib.hid (ustep UX.out hb); clear s0 s1 s2; replace RX := Lib.hid (RX.out.new hb ho); clear ho hb) | (refine (concat_two T2.out (Nat.le_refl _) (by rw [dimsVia_len]; have h1 := HNR.out; have h2 := HLN.out; omega)).mono ?_; rintro e WX ⟨vq, rfl, ho, hb⟩; obtain ⟨a5, n5, c5, rfl⟩ := Own.slice ho; clear T2; (try (replace T1 := Lib.hid (T1.out.below hb))); replace UX := Lib.hid (ustep UX.out hb); clear s0 s1 s2; replace RX := Lib.hid (RX.out.new hb ho); clear ho hb)); obtain ⟨⟨s0, s1, s2⟩, -⟩ := RX.out.at (r := w.heap.size + 1) (a := .slice p1 h1 e1) (b := .slice p2 h1 e2) (c := .slice p3 h3 e3) (by simp))
                go_wp2_with fail
                refine hK.out _ _ (by (try dsimp only); with_reducible exact ⟨s0, s1, s2⟩) (fun hHeld => ?_)
                clear hK K
                try simp only [Act.put, List.getElem_toArray, List.getElem_cons_succ, List.getElem_cons_zero, List.setIfInBounds_toArray, List.set_cons_zero, List.set_cons_succ]
                refine wpAnyH_take (i := 14) (v := ?_) rfl (by kernel_rfl) (by kernel_rfl) (by kernel_rfl) (fun _ _ _ h => h) (Or.inl ⟨by rfl, ?_⟩) (by assumption) ?_
                rotate_left
                · intro w hSw; (try dsimp only at hSw); go_simp <;> with_reducible rfl
                try simp only [Act.put, List.getElem_toArray, List.getElem_cons_succ, List.getElem_cons_zero, List.setIfInBounds_toArray, List.set_cons_zero, List.set_cons_succ]
                refine wpAnyH_ready (rs := [16]) (by kernel_rfl) (by simp) ?_
                refine AllReadyH.cons rfl (fun K hK => ?_) AllReadyH.nil
                (obtain ⟨⟨o0, o1, o2⟩, g0, g1, g2⟩ := RX.out.at List.mem_cons_self)
                go_simp
                (clear o0 o1 o2 g0 g1 g2 s0 s1 s2; replace RX := Lib.hid (RX.out.set3 (.slice a4 n4 c4) (.slice a5 n5 c5) (.slice p3 h3 e3)); obtain ⟨⟨s0, s1, s2⟩, -⟩ := RX.out.at (r := w.heap.size + 1) (a := .slice p1 h1 e1) (b := .slice p2 h1 e2) (c := .slice p3 h3 e3) (by simp))
                refine hK.out _ _ (by (try dsimp only); with_reducible exact ⟨s0, s1, s2⟩) (fun hHeld => ?_)
                clear hK K
                try simp only [Act.put, List.getElem_toArray, List.getElem_cons_succ, List.getElem_cons_zero, List.setIfInBounds_toArray, List.set_cons_zero, List.set_cons_succ]
                refine wpAnyH_done (by kernel_rfl) ?_ _
              rotate_left 1
              focus
                go_simp
                ((first | (obtain ⟨WX, gl, hW, hg, hbX, RXn, TW⟩ := RX.out.listX (RX.out.rd (v := .slice aR nR cR) (xs := restL F L) (by simp)) UX.out.1; rw [hW]; (try rw [hg]); (try (replace T2 := Lib.hid (T2.out.below hbX))); have T1 := Lib.hid TW; clear TW; replace UX := Lib.hid (ustep UX.out hbX); clear hbX hW) | (obtain ⟨WZ, gl, hW, hg, hbX, RXn, TW⟩ := RN.out.listX (RN.out.rd (v := .slice aR nR cR) (xs := restL F L) (by simp)) UN.out.1; rw [hW]; (try rw [hg]); replace RXn := RXn.drew; have FZ := ustep (ustep UN.out hbX) (Below.drew (Below.refl _ _)); have TZ := TW.below (Below.drew (Below.refl _ _)); clear hW hbX TW; generalize WZ.drew = WX at RXn FZ TZ ⊢; have T1 := Lib.hid TZ; replace UX := Lib.hid FZ; clear TZ FZ) | (obtain ⟨WX, gl, hW, hg, hbX, RXn, TW⟩ := RX.out.listX (by have h := (RX.out.rd (v := .slice p2 h1 e2) (xs := dimsVia L D (regL L F)) (by simp)).take nR (by rw [HRD.out.2]; omega); rw [HDT.out] at h; exact h) UX.out.2; rw [hW]; (try rw [hg]); (try (replace T1 := Lib.hid (T1.out.below hbX))); have T2 := Lib.hid TW; clear TW; replace UX := Lib.hid (ustep UX.out hbX); clear hbX hW) | (obtain ⟨WZ, gl, hW, hg, hbX, RXn, TW⟩ := RN.out.listX (by have h := (RN.out.rd (v := .slice p2 h1 e2) (xs := dimsVia L D (regL L F)) (by simp)).take nR (by rw [HRD.out.2]; omega); rw [HDT.out] at h; exact h) UN.out.2; rw [hW]; (try rw [hg]); replace RXn := RXn.drew; have FZ := ustep (ustep UN.out hbX) (Below.drew (Below.refl _ _)); have TZ := TW.below (Below.drew (Below.refl _ _)); clear hW hbX TW; generalize WZ.drew = WX at RXn FZ TZ ⊢; have T2 := Lib.hid TZ; replace UX := Lib.hid FZ; clear TZ FZ)); clear s0 s1 s2; replace RX := Lib.hid RXn; clear RXn; obtain ⟨⟨s0, s1, s2⟩, -⟩ := RX.out.at (r := w.heap.size + 1) (a := .slice p1 h1 e1) (b := .slice p2 h1 e2) (c := .slice p3 h3 e3) (by simp))
                refine hK.out _ _ (by (try dsimp only); with_reducible exact ⟨s0, s1, s2⟩) (fun hHeld => ?_)
                clear hK K
                try simp only [Act.put, List.getElem_toArray, List.getElem_cons_succ, List.getElem_cons_zero, List.setIfInBounds_toArray, List.set_cons_zero, List.set_cons_succ]
                refine wpAnyH_ready (rs := [3]) (by kernel_rfl) (by simp) ?_
                refine AllReadyH.cons rfl (fun K hK => ?_) AllReadyH.nil
                go_simp
                (go_at_call 43; (first | (refine (concat_two T1.out (Nat.le_refl _) (by have h1 := HNR.out; have h2 := HLN.out; omega)).mono ?_; rintro e WX ⟨vq, rfl, ho, hb⟩; obtain ⟨a4, n4, c4, rfl⟩ := Own.slice ho; clear T1; (try (replace T2 := Lib.hid (T2.out.below hb))); replace UX := Lib.hid (ustep UX.out hb); clear s0 s1 s2; replace RX := Lib.hid (RX.out.new hb ho); clear ho hb) | (refine (concat_two T2.out (Nat.le_refl _) (by rw [dimsVia_len]; have h1 := HNR.out; have h2 := HLN.out; omega)).mono ?_; rintro e WX ⟨vq, rfl, ho, hb⟩; obtain ⟨a5, n5, c5, rfl⟩ := Own.slice ho; clear T2; (try (replace T1 := Lib.hid (T1.out.below hb))); replace UX := Lib.hid (ustep UX.out hb); clear s0 s1 s2; replace RX := Lib.hid (RX.out.new hb ho); clear ho hb)); obtain ⟨⟨s0, s1, s2⟩, -⟩ := RX.out.at (r := w.heap.size + 1) (a := .slice p1 h1 e1) (b := .slice p2 h1 e2) (c := .slice p3 h3 e3) (by simp))
                go_wp2_with fail
                refine hK.out _ _ (by (try dsimp only); with_reducible exact ⟨s0, s1, s2⟩) (fun hHeld => ?_)
                clear hK K
                try simp only [Act.put, List.getElem_toArray, List.getElem_cons_succ, List.getElem_cons_zero, List.setIfInBounds_toArray, List.set_cons_zero, List.set_cons_succ]
                refine wpAnyH_ready (rs := [11]) (by kernel_rfl) (by simp) ?_
                refine AllReadyH.cons rfl (fun K hK => ?_) AllReadyH.nil
                go_simp
                (go_at_call 43; (first | (refine (concat_two T1.out (Nat.le_refl _) (by have h1 := HNR.out; have h2 := HLN.out; omega)).mono ?_; rintro e WX ⟨vq, rfl, ho, hb⟩; obtain ⟨a4, n4, c4, rfl⟩ := Own.slice ho; clear T1; (try (replace T2 := Lib.hid (T2.out.below hb))); replace UX := Lib.hid (ustep UX.out hb); clear s0 s1 s2; replace RX := Lib.hid (RX.out.new hb ho); clear ho hb) | (refine (concat_two T2.out (Nat.le_refl _) (by rw [dimsVia_len]; have h1 := HNR.out; have h2 := HLN.out; omega)).mono ?_; rintro e WX ⟨vq, rfl, ho, hb⟩; obtain ⟨a5, n5, c5, rfl⟩ := Own.slice ho; clear T2; (try (replace T1 := Lib.hid (T1.out.below hb))); replace UX := Lib.hid (ustep UX.out hb); clear s0 s1 s2; replace RX := Lib.hid (RX.out.new hb ho); clear ho hb)); obtain ⟨⟨s0, s1, s2⟩, -⟩ := RX.out.at (r := w.heap.size + 1) (a := .slice p1 h1 e1) (b := .slice p2 h1 e2) (c := .slice p3 h3 e3) (by simp))
                go_wp2_with fail
                refine hK.out _ _ (by (try dsimp only); with_reducible exact ⟨s0, s1, s2⟩) (fun hHeld => ?_)
                clear hK K
                try simp only [Act.put, List.getElem_toArray, List.getElem_cons_succ, List.getElem_cons_zero, List.setIfInBounds_toArray, List.set_cons_zero, List.set_cons_succ]
                refine wpAnyH_take (i := 14) (v := ?_) rfl (by kernel_rfl) (by kernel_rfl) (by kernel_rfl) (fun _ _ _ h => h) (Or.inl ⟨by rfl, ?_⟩) (by assumption) ?_
                rotate_left
                · intro w hSw; (try dsimp only at hSw); go_simp <;> with_reducible rfl
                try simp only [Act.put, List.getElem_toArray, List.getElem_cons_succ, List.getElem_cons_zero, List.setIfInBounds_toArray, List.set_cons_zero, List.set_cons_succ]
                refine wpAnyH_ready (rs := [16]) (by kernel_rfl) (by simp) ?_
                refine AllReadyH.cons rfl (fun K hK => ?_) AllReadyH.nil
                (obtain ⟨⟨o0, o1, o2⟩, g0, g1, g2⟩ := RX.out.at List.mem_cons_self)
                go_simp
                (clear o0 o1 o2 g0 g1 g2 s0 s1 s2; replace RX := Lib.hid (RX.out.set3 (.slice a4 n4 c4) (.slice a5 n5 c5) (.slice p3 h3 e3)); obtain ⟨⟨s0, s1, s2⟩, -⟩ := RX.out.at (r := w.heap.size + 1) (a := .slice p1 h1 e1) (b := .slice p2 h1 e2) (c := .slice p3 h3 e3) (by simp))
                refine hK.out _ _ (by (try dsimp only); with_reducible exact ⟨s0, s1, s2⟩) (fun hHeld => ?_)
                clear hK K
                try simp only [Act.put, List.getElem_toArray, List.getElem_cons_succ, List.getElem_cons_zero, List.setIfInBounds_toArray, List.set_cons_zero, List.set_cons_succ]
                refine wpAnyH_done (by kernel_rfl) ?_ _
              rotate_left 1
            rotate_left 2
            focus
              go_simp
              ((first | (obtain ⟨WX, gl, hW, hg, hbX, RXn, TW⟩ := RX.out.listX (RX.out.rd (v := .slice aR nR cR) (xs := restL F L) (by simp)) UX.out.1; rw [hW]; (try rw [hg]); (try (replace T2 := Lib.hid (T2.out.below hbX))); have T1 := Lib.hid TW; clear TW; replace UX := Lib.hid (ustep UX.out hbX); clear hbX hW) | (obtain ⟨WZ, gl, hW, hg, hbX, RXn, TW⟩ := RN.out.listX (RN.out.rd (v := .slice aR nR cR) (xs := restL F L) (by simp)) UN.out.1; rw [hW]; (try rw [hg]); replace RXn := RXn.drew; have FZ := ustep (ustep UN.out hbX) (Below.drew (Below.refl _ _)); have TZ := TW.below (Below.drew (Below.refl _ _)); clear hW hbX TW; generalize WZ.drew = WX at RXn FZ TZ ⊢; have T1 := Lib.hid TZ; replace UX := Lib.hid FZ; clear TZ FZ) | (obtain ⟨WX, gl, hW, hg, hbX, RXn, TW⟩ := RX.out.listX (by have h := (RX.out.rd (v := .slice p2 h1 e2) (xs := dimsVia L D (regL L F)) (by simp)).take nR (by rw [HRD.out.2]; omega); rw [HDT.out] at h; exact h) UX.out.2; rw [hW]; (try rw [hg]); (try (replace T1 := Lib.hid (T1.out.below hbX))); have T2 := Lib.hid TW; clear TW; replace UX := Lib.hid (ustep UX.out hbX); clear hbX hW) | (obtain ⟨WZ, gl, hW, hg, hbX, RXn, TW⟩ := RN.out.listX (by have h := (RN.out.rd (v := .slice p2 h1 e2) (xs := dimsVia L D (regL L F)) (by simp)).take nR (by rw [HRD.out.2]; omega); rw [HDT.out] at h; exact h) UN.out.2; rw [hW]; (try rw [hg]); replace RXn := RXn.drew; have FZ := ustep (ustep UN.out hbX) (Below.drew (Below.refl _ _)); have TZ := TW.below (Below.drew (Below.refl _ _)); clear hW hbX TW; generalize WZ.drew = WX at RXn FZ TZ ⊢; have T2 := Lib.hid TZ; replace UX := Lib.hid FZ; clear TZ FZ)); clear s0 s1 s2; replace RX := Lib.hid RXn; clear RXn; obtain ⟨⟨s0, s1, s2⟩, -⟩ := RX.out.at (r := w.heap.size + 1) (a := .slice p1 h1 e1) (b := .slice p2 h1 e2) (c := .slice p3 h3 e3) (by simp))
              refine hK.out _ _ (by (try dsimp only); with_reducible exact ⟨s0, s1, s2⟩) (fun hHeld => ?_)
              clear hK K
              try simp only [Act.put, List.getElem_toArray, List.getElem_cons_succ, List.getElem_cons_zero, List.setIfInBounds_toArray, List.set_cons_zero, List.set_cons_succ]
              refine wpAnyH_ready (rs := [2]) (by kernel_rfl) (by simp) ?_
              refine AllReadyH.cons rfl (fun K hK => ?_) AllReadyH.nil
              go_simp
              ((first | (obtain ⟨WX, gl, hW, hg, hbX, RXn, TW⟩ := RX.out.listX (RX.out.rd (v := .slice aR nR cR) (xs := restL F L) (by simp)) UX.out.1; rw [hW]; (try rw [hg]); (try (replace T2 := Lib.hid (T2.out.below hbX))); have T1 := Lib.hid TW; clear TW; replace UX := Lib.hid (ustep UX.out hbX); clear hbX hW) | (obtain ⟨WZ, gl, hW, hg, hbX, RXn, TW⟩ := RN.out.listX (RN.out.rd (v := .slice aR nR cR) (xs := restL F L) (by simp)) UN.out.1; rw [hW]; (try rw [hg]); replace RXn := RXn.drew; have FZ := ustep (ustep UN.out hbX) (Below.drew (Below.refl _ _)); have TZ := TW.below (Below.drew (Below.refl _ _)); clear hW hbX TW; generalize WZ.drew = WX at RXn FZ TZ ⊢; have T1 := Lib.hid TZ; replace UX := Lib.hid FZ; clear TZ FZ) | (obtain ⟨WX, gl, hW, hg, hbX, RXn, TW⟩ := RX.out.listX (by have h := (RX.out.rd (v := .slice p2 h1 e2) (xs := dimsVia L D (regL L F)) (by simp)).take nR (by rw [HRD.out.2]; omega); rw [HDT.out] at h; exact h) UX.out.2; rw [hW]; (try rw [hg]); (try (replace T1 := Lib.hid (T1.out.below hbX))); have T2 := Lib.hid TW; clear TW; replace UX := Lib.hid (ustep UX.out hbX); clear hbX hW) | (obtain ⟨WZ, gl, hW, hg, hbX, RXn, TW⟩ := RN.out.listX (by have h := (RN.out.rd (v := .slice p2 h1 e2) (xs := dimsVia L D (regL L F)) (by simp)).take nR (by rw [HRD.out.2]; omega); rw [HDT.out] at h; exact h) UN.out.2; rw [hW]; (try rw [hg]); replace RXn := RXn.drew; have FZ := ustep (ustep UN.out hbX) (Below.drew (Below.refl _ _)); have TZ := TW.below (Below.drew (Below.refl _ _)); clear hW hbX TW; generalize WZ.drew = WX at RXn FZ TZ ⊢; have T2 := Lib.hid TZ; replace UX := Lib.hid FZ; clear TZ FZ)); clear s0 s1 s2; replace RX := Lib.hid RXn; clear RXn; obtain ⟨⟨s0, s1, s2⟩, -⟩ := RX.out.at (r := w.heap.size + 1) (a := .slice p1 h1 e1) (b := .slice p2 h1 e2) (c := .slice p3 h3 e3) (by simp))
              refine hK.out _ _ (by (try dsimp only); with_reducible exact ⟨s0, s1, s2⟩) (fun hHeld => ?_)
              clear hK K
              try simp only [Act.put, List.getElem_toArray, List.getElem_cons_succ, List.getElem_cons_zero, List.setIfInBounds_toArray, List.set_cons_zero, List.set_cons_succ]
              refine wpAnyH_ready (rs := [3]) (by kernel_rfl) (by simp) ?_
              refine AllReadyH.cons rfl (fun K hK => ?_) AllReadyH.nil
              go_simp
              (go_at_call 43; (first | (refine (concat_two T1.out (Nat.le_refl _) (by have h1 := HNR.out; have h2 := HLN.out; omega)).mono ?_; rintro e WX ⟨vq, rfl, ho, hb⟩; obtain ⟨a4, n4, c4, rfl⟩ := Own.slice ho; clear T1; (try (replace T2 := Lib.hid (T2.out.below hb))); replace UX := Lib.hid (ustep UX.out hb); clear s0 s1 s2; replace RX := Lib.hid (RX.out.new hb ho); clear ho hb) | (refine (concat_two T2.out (Nat.le_refl _) (by rw [dimsVia_len]; have h1 := HNR.out; have h2 := HLN.out; omega)).mono ?_; rintro e WX ⟨vq, rfl, ho, hb⟩; obtain ⟨a5, n5, c5, rfl⟩ := Own.slice ho; clear T2; (try (replace T1 := Lib.hid (T1.out.below hb))); replace UX := Lib.hid (ustep UX.out hb); clear s0 s1 s2; replace RX := Lib.hid (RX.out.new hb ho); clear ho hb)); obtain ⟨⟨s0, s1, s2⟩, -⟩ := RX.out.at (r := w.heap.size + 1) (a := .slice p1 h1 e1) (b := .slice p2 h1 e2) (c := .slice p3 h3 e3) (by simp))
              go_wp2_with fail
              refine hK.out _ _ (by (try dsimp only); with_reducible exact ⟨s0, s1, s2⟩) (fun hHeld => ?_)
              clear hK K
              try simp only [Act.put, List.getElem_toArray, List.getElem_cons_succ, List.getElem_cons_zero, List.setIfInBounds_toArray, List.set_cons_zero, List.set_cons_succ]
              refine wpAnyH_ready (rs := [11]) (by kernel_rfl) (by simp) ?_
              refine AllReadyH.cons rfl (fun K hK => ?_) AllReadyH.nil
              go_simp
              (go_at_call 43; (first | (refine (concat_two T1.out (Nat.le_refl _) (by have h1 := HNR.out; have h2 := HLN.out; omega)).mono ?_; rintro e WX ⟨vq, rfl, ho, hb⟩; obtain ⟨a4, n4, c4, rfl⟩ := Own.slice ho; clear T1; (try (replace T2 := Lib.hid (T2.out.below hb))); replace UX := Lib.hid (ustep UX.out hb); clear s0 s1 s2; replace RX := Lib.hid (RX.out.new hb ho); clear ho hb) | (refine (concat_two T2.out (Nat.le_refl _) (by rw [dimsVia_len]; have h1 := HNR.out; have h2 := HLN.out; omega)).mono ?_; rintro e WX ⟨vq, rfl, ho, hb⟩; obtain ⟨a5, n5, c5, rfl⟩ := Own.slice ho; clear T2; (try (replace T1 := Lib.hid (T1.out.below hb))); replace UX := Lib.hid (ustep UX.out hb); clear s0 s1 s2; replace RX := Lib.hid (RX.out.new hb ho); clear ho hb)); obtain ⟨⟨s0, s1, s2⟩, -⟩ := RX.out.at (r := w.heap.size + 1) (a := .slice p1 h1 e1) (b := .slice p2 h1 e2) (c := .slice p3 h3 e3) (by simp))
              go_wp2_with fail
              refine hK.out _ _ (by (try dsimp only); with_reducible exact ⟨s0, s1, s2⟩) (fun hHeld => ?_)
              clear hK K
              try simp only [Act.put, List.getElem_toArray, List.getElem_cons_succ, List.getElem_cons_zero, List.setIfInBounds_toArray, List.set_cons_zero, List.set_cons_succ]
              refine wpAnyH_take (i := 14) (v := ?_) rfl (by kernel_rfl) (by kernel_rfl) (by kernel_rfl) (fun _ _ _ h => h) (Or.inl ⟨by rfl, ?_⟩) (by assumption) ?_
              rotate_left
              · intro w hSw; (try dsimp only at hSw); go_simp <;> with_reducible rfl
              try simp only [Act.put, List.getElem_toArray, List.getElem_cons_succ, List.getElem_cons_zero, List.setIfInBounds_toArray, List.set_cons_zero, List.set_cons_succ]
              refine wpAnyH_ready (rs := [16]) (by kernel_rfl) (by simp) ?_
              refine AllReadyH.cons rfl (fun K hK => ?_) AllReadyH.nil
              (obtain ⟨⟨o0, o1, o2⟩, g0, g1, g2⟩ := RX.out.at List.mem_cons_self)
              go_simp
              (clear o0 o1 o2 g0 g1 g2 s0 s1 s2; replace RX := Lib.hid (RX.out.set3 (.slice a4 n4 c4) (.slice a5 n5 c5) (.slice p3 h3 e3)); obtain ⟨⟨s0, s1, s2⟩, -⟩ := RX.out.at (r := w.heap.size + 1) (a := .slice p1 h1 e1) (b := .slice p2 h1 e2) (c := .slice p3 h3 e3) (by simp))
              refine hK.out _ _ (by (try dsimp only); with_reducible exact ⟨s0, s1, s2⟩) (fun hHeld => ?_)
              clear hK K
              try simp only [Act.put, List.getElem_toArray, List.getElem_cons_succ, List.getElem_cons_zero, List.setIfInBounds_toArray, List.set_cons_zero, List.set_cons_succ]
              refine wpAnyH_done (by kernel_rfl) ?_ _
            rotate_left 1
          rotate_left 3
          all_goals
            clear s0 s1 s2
            go_wp2_with fail
            go_meet
            exact ⟨gb, a4, n4, c4, a5, n5, c5, rfl, Lib.hid (by first | exact RX.out.sub (List.Sublist.cons_cons _ (List.Sublist.cons_cons _ (List.Sublist.cons_cons _ (List.Sublist.cons_cons _ (List.Sublist.cons_cons _ (List.nil_sublist _)))))) | exact RX.out.swap.sub (List.Sublist.cons_cons _ (List.Sublist.cons_cons _ (List.Sublist.cons_cons _ (List.Sublist.cons_cons _ (List.Sublist.cons_cons _ (List.nil_sublist _)))))))⟩
        case rest =>
          obtain ⟨gb, a4, n4, c4, a5, n5, c5, rfl, R7⟩ := hcut
          clear RX RN UX UN
          obtain ⟨PD, hPD⟩ : ∃ n, n = prodL D := ⟨_, rfl⟩
          have HPD := Lib.hid hPD
          have HS1 := Lib.hid (fun (W : World) (h : RdT W.heap.size W (.slice a4 n4 c4) (.slice a5 n5 c5) (.slice p3 h3 e3) (restL F L ++ A) (dimsVia L D (restL F L) ++ G) (regX k q L D X F)) => size_impl h (Nat.le_refl _) ⟨by rw [List.length_append]; have g1 := HNR.out; have g2 := HLN.out; omega, by rw [List.length_append, dimsVia_len]; have g1 := HNR.out; have g2 := HLN.out; omega, regX_small HTB.out.symm HSV.out⟩ (fun x hx => by
            rcases List.mem_append.1 hx with h1 | h1
            · exact HI.out x (rest_sub h1).1
            · exact HAI.out x h1))
          have HS2 := Lib.hid (fun (W : World) (h : RdT W.heap.size W (.slice p1 h1 e1) (.slice p2 h1 e2) (.slice p3 h3 e3) (regL L F) (dimsVia L D (regL L F)) (regX k q L D X F)) => size_impl h (Nat.le_refl _) ⟨by rw [HRD.out.1]; omega, by rw [HRD.out.2]; omega, regX_small HTB.out.symm HSV.out⟩ (fun x hx => HI.out x (HPF.out.pm.subset hx)))
          have hsz : sizeI (regL L F) (dimsVia L D (regL L F)) = PD := by
            have hp := HPF.out
            have hm9 := HMM.out.1
            have g1 := hp.dims.2.1
            have g2 := hp.pD
            have g3 := hp.n1
            rw [sizeI_of ⟨by rw [HRD.out.1]; omega, by rw [HRD.out.1, HRD.out.2], fun x hx => FT.out.ax.2.2.1 x (hp.pm.subset hx), hp.dims.1, hp.pm.symm.nodup FT.out.ax.2.2.2.2⟩ (by rw [g1]; omega)]
            exact g1.trans (g2.symm.trans hPD.symm)
          rw [← HS.out] at HS1
          rw [hsz] at HS2
          rw [← hPD] at HFB
          clear hPD hsz
          have RX := Lib.hid R7.out.drew
          clear R7
          obtain ⟨⟨o0, o1, o2⟩, -⟩ := RX.out.at (r := gb) (a := .slice a4 n4 c4) (b := .slice a5 n5 c5) (c := .slice p3 h3 e3) (by simp)
          obtain ⟨⟨s0, s1, s2⟩, -⟩ := RX.out.at (r := w.heap.size + 1) (a := .slice p1 h1 e1) (b := .slice p2 h1 e2) (c := .slice p3 h3 e3) (by simp)
          go_wp2
          refine wp_region_held_drew (S := (fun w' => (w'.cell? ⟨gb, 0, none⟩ = some (.slice a4 n4 c4) ∧ w'.cell? ⟨gb, 1, none⟩ = some (.slice a5 n5 c5) ∧ w'.cell? ⟨gb, 2, none⟩ = some (.slice p3 h3 e3)) ∧ (w'.cell? ⟨w.heap.size + 1, 0, none⟩ = some (.slice p1 h1 e1) ∧ w'.cell? ⟨w.heap.size + 1, 1, none⟩ = some (.slice p2 h1 e2) ∧ w'.cell? ⟨w.heap.size + 1, 2, none⟩ = some (.slice p3 h3 e3)))) (by kernel_rfl) (by (try dsimp only); with_reducible exact ⟨⟨o0, o1, o2⟩, ⟨s0, s1, s2⟩⟩) (fun hHeld => ?_)
          refine wpAnyH_take (i := 0) (v := ?_) rfl (by kernel_rfl) (by kernel_rfl) (by kernel_rfl) (fun _ _ _ h => h) (Or.inl ⟨by rfl, ?_⟩) (by assumption) ?_
          rotate_left
          · intro w hSw; (try dsimp only at hSw); go_simp <;> with_reducible rfl
          try simp only [Act.put, List.getElem_toArray, List.getElem_cons_zero, List.setIfInBounds_toArray, List.set_cons_zero, List.set_cons_succ]
          refine wpAnyH_take (i := 2) (v := ?_) rfl (by kernel_rfl) (by kernel_rfl) (by kernel_rfl) (fun _ _ _ h => h) (Or.inl ⟨by rfl, ?_⟩) (by assumption) ?_
          rotate_left
          · intro w hSw; (try dsimp only at hSw); go_simp <;> with_reducible rfl
          try simp only [Act.put, List.getElem_toArray, List.getElem_cons_succ, List.getElem_cons_zero, List.setIfInBounds_toArray, List.set_cons_zero, List.set_cons_succ]
          refine wpAnyH_ready (rs := [1]) (by kernel_rfl) (by simp) ?_
          refine AllReadyH.cons rfl (fun K hK => ?_) AllReadyH.nil
          go_simp
          (go_at_call 28; (first | (with_reducible refine (HS1.out _ ⟨RX.out.rd (v := .slice a4 n4 c4) (by simp), RX.out.rd (v := .slice a5 n5 c5) (by simp), RX.out.rd (v := .slice p3 h3 e3) (by simp)⟩).mono ?_) | (with_reducible refine (HS2.out _ ⟨RX.out.rd (v := .slice p1 h1 e1) (by simp), RX.out.rd (v := .slice p2 h1 e2) (by simp), RX.out.rd (v := .slice p3 h3 e3) (by simp)⟩).mono ?_)); rintro e WX ⟨rfl, hb⟩; replace RX := Lib.hid (RX.out.step hb); clear hb o0 o1 o2 s0 s1 s2; obtain ⟨⟨o0, o1, o2⟩, -⟩ := RX.out.at (r := gb) (a := .slice a4 n4 c4) (b := .slice a5 n5 c5) (c := .slice p3 h3 e3) (by simp); obtain ⟨⟨s0, s1, s2⟩, -⟩ := RX.out.at (r := w.heap.size + 1) (a := .slice p1 h1 e1) (b := .slice p2 h1 e2) (c := .slice p3 h3 e3) (by simp))
          go_wp2_with fail
          refine hK.out _ _ (by (try dsimp only); with_reducible exact ⟨⟨o0, o1, o2⟩, ⟨s0, s1, s2⟩⟩) (fun hHeld => ?_)
          clear hK K
          try simp only [Act.put, List.getElem_toArray, List.getElem_cons_succ, List.getElem_cons_zero, List.setIfInBounds_toArray, List.set_cons_zero, List.set_cons_succ]
          refine wpAnyH_ready (rs := [3]) (by kernel_rfl) (by simp) ?_
          refine AllReadyH.cons rfl (fun K hK => ?_) AllReadyH.nil
          go_simp
          (go_at_call 28; (first | (with_reducible refine (HS1.out _ ⟨RX.out.rd (v := .slice a4 n4 c4) (by simp), RX.out.rd (v := .slice a5 n5 c5) (by simp), RX.out.rd (v := .slice p3 h3 e3) (by simp)⟩).mono ?_) | (with_reducible refine (HS2.out _ ⟨RX.out.rd (v := .slice p1 h1 e1) (by simp), RX.out.rd (v := .slice p2 h1 e2) (by simp), RX.out.rd (v := .slice p3 h3 e3) (by simp)⟩).mono ?_)); rintro e WX ⟨rfl, hb⟩; replace RX := Lib.hid (RX.out.step hb); clear hb o0 o1 o2 s0 s1 s2; obtain ⟨⟨o0, o1, o2⟩, -⟩ := RX.out.at (r := gb) (a := .slice a4 n4 c4) (b := .slice a5 n5 c5) (c := .slice p3 h3 e3) (by simp); obtain ⟨⟨s0, s1, s2⟩, -⟩ := RX.out.at (r := w.heap.size + 1) (a := .slice p1 h1 e1) (b := .slice p2 h1 e2) (c := .slice p3 h3 e3) (by simp))
          go_wp2_with fail
          refine hK.out _ _ (by (try dsimp only); with_reducible exact ⟨⟨o0, o1, o2⟩, ⟨s0, s1, s2⟩⟩) (fun hHeld => ?_)
          clear hK K
          try simp only [Act.put, List.getElem_toArray, List.getElem_cons_succ, List.getElem_cons_zero, List.setIfInBounds_toArray, List.set_cons_zero, List.set_cons_succ]
          refine wpAnyH_take (i := 4) (v := ?_) rfl (by kernel_rfl) (by kernel_rfl) (by kernel_rfl) (fun _ _ _ h => h) (Or.inl ⟨by rfl, ?_⟩) (by assumption) ?_
          rotate_left
          · intro w hSw; (try dsimp only at hSw); go_simp <;> with_reducible rfl
          try simp only [Act.put, List.getElem_toArray, List.getElem_cons_succ, List.getElem_cons_zero, List.setIfInBounds_toArray, List.set_cons_zero, List.set_cons_succ]
          refine wpAnyH_done (by kernel_rfl) ?_ _
          all_goals
            clear o0 o1 o2 s0 s1 s2
            by_cases hsp : s = PD
            · have q7 : (s == PD) = true := by simpa using hsp
              have q8 : (s != PD) = false := by simpa using hsp
              obtain rfl : fb = true := by rw [HFB.out, decide_eq_true hsp, decide_eq_true (show 1 ≤ F.length by rw [← HM.out.2.2.2]; omega), decide_eq_true (show 1 ≤ A.length by rw [← HAG.out.1]; omega)]; rfl
              have HY3 := Lib.hid (HYES.out rfl)
              clear hsp
              obtain ⟨⟨t0, t1, t2⟩, f0, f1, f2⟩ := RX.out.at (r := w.heap.size + 1 + 1) (a := nilV) (b := nilV) (c := nilV) (by simp)
              obtain ⟨⟨o0, o1, o2⟩, -⟩ := RX.out.at (r := gb) (a := .slice a4 n4 c4) (b := .slice a5 n5 c5) (c := .slice p3 h3 e3) (by simp)
              go_wp2
              refine bodyPost_ret (v := .tuple #[tenV (.slice a4 n4 c4) (.slice a5 n5 c5) (.slice p3 h3 e3), .bool true]) (by simp [results, Tryz.results68, go_sem, t0, t1, t2]) rfl ?_
              have h := (RX.out.thirdB.set3 (.slice a4 n4 c4) (.slice a5 n5 c5) (.slice p3 h3 e3)).sub (rows' := [(.slice a4 n4 c4, restL F L ++ A), (.slice a5 n5 c5, dimsVia L D (restL F L) ++ G), (.slice p3 h3 e3, regX k q L D X F)]) (List.Sublist.cons_cons _ (List.Sublist.cons_cons _ (List.Sublist.cons _ (List.Sublist.cons _ (List.Sublist.refl _)))))
              rw [HY3.out.1, HY3.out.2.1, HY3.out.2.2]
              exact ⟨_, _, _, rfl, h.ownG, h.bel⟩
            · have q7 : (s == PD) = false := by simpa using hsp
              have q8 : (s != PD) = true := by simpa using hsp
              obtain rfl : fb = false := by rw [HFB.out, decide_eq_false hsp]; simp
              clear hsp
              obtain ⟨rfl, rfl, rfl⟩ := HNO.out (by simp)
              obtain ⟨⟨t0, t1, t2⟩, f0, f1, f2⟩ := RX.out.at (r := w.heap.size + 1 + 1) (a := nilV) (b := nilV) (c := nilV) (by simp)
              go_wp2
              refine bodyPost_ret (v := .tuple #[tenV nilV nilV nilV, .bool false]) (by simp [results, Tryz.results68, go_sem, t0, t1, t2]) rfl ?_
              exact NewTen2.nils (((RX.out.bel.setCell (by simp; omega) _).setCell (by simp; omega) _).setCell (by simp; omega) _)
end Go.Proofs.YtceidekfcnmeaaaGreat
