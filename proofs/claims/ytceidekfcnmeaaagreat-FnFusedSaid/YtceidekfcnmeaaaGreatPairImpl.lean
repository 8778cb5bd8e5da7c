
/- impl.sumOver, for function values of any number; impl.indexCount. -/
import Derived.Test.YtceidekfcnmeaaaGreatCountA
import Derived.Test.YtceidekfcnmeaaaGreatJoinImpl
import Derived.Test.YtceidekfcnmeaaaGreatZeroImpl
import Derived.Deep.RegionHeld3
import Derived.Test.YtceidekfcnmeaaaGreatPermuted
import Derived.Test.YtceidekfcnmeaaaGreatTimesOne
import Derived.Test.YtceidekfcnmeaaaGreatPairMath
import Derived.Test.YtceidekfcnmeaaaGreatTenOkImpl
namespace Go.Proofs.YtceidekfcnmeaaaGreat
set_option maxRecDepth 20000
open Go.RowKit

theorem sizeI_ax {L D : List Int} (h : ¬ sizeI L D < 0) : AxesV L D ∧ 1 ≤ prodL D ∧ prodL D ≤ 4096 := by
  rcases sizeI_cases L D with ⟨h1, -⟩ | ⟨h1, h2, h3, h4⟩
  · omega
  · exact ⟨h2, h3, h4⟩
/-- What sumOver asks of a function value: an element in a row that is no row of the call's own of before. -/
def ClosF (w W : World) (xs : List Int) (e : Ending) (w' : World) : Prop :=
  (∃ b off cap, e = .returned (.slice (some ⟨b, off, none⟩) xs.length cap) ∧ (b < w.heap.size ∨ W.heap.size ≤ b) ∧ b < w'.heap.size ∧ ∀ i (h : i < xs.length), w'.cell? ⟨b, off + i, none⟩ = some (.int .i64 xs[i])) ∧ Below W.heap.size W w'
theorem ClosF.new {w W w' : World} {xs : List Int} {e : Ending} (h : NewRow W xs e w') (h0 : 0 < xs.length) : ClosF w W xs e w' := by
  obtain ⟨v, rfl, ho, hb⟩ := h
  obtain ⟨a, c, rfl, -⟩ := ints_form ho.rd
  obtain ⟨g, rfl, hlo, hhi, hc, -⟩ := ho.slot rfl h0
  exact ⟨⟨g, 0, c, rfl, .inr hlo, hhi, fun i hi => by rw [Nat.zero_add]; exact hc i _ (List.getElem?_eq_getElem hi)⟩, hb⟩
theorem ClosF.rd {B : Nat} {w W w' : World} {v : Value} {xs : List Int} (h : Rd B w' v (ints xs)) (hB : B ≤ w.heap.size) (hb : Below W.heap.size W w') (hw : w.heap.size ≤ W.heap.size) (h0 : 0 < xs.length) : ClosF w W xs (.returned v) w' := by
  rcases h.ints_cases with ⟨rfl, -⟩ | ⟨b, off, cap, rfl, hlt, -, hc⟩
  · simp at h0
  · exact ⟨⟨b, off, cap, rfl, .inl (Nat.lt_of_lt_of_le hlt hB), Nat.lt_of_lt_of_le hlt (Nat.le_trans hB (Nat.le_trans hw hb.size)), hc⟩, hb⟩
theorem accL_start (k p q : Int) (zf : Nat → Nat) (tf : Nat → List Int) (M : Nat) : repL (zeroL k p q) M = accL k p q zf tf M 0 := by
  show _ = gatherL (fun _ => zeroL k p q) M
  induction M with
  | zero => rfl
  | succ M ih => rw [repL_succ, ih, gather_succ]
theorem acc_small {k p q : Int} {zf : Nat → Nat} {tf : Nat → List Int} {M N n o wd : Nat} (hr : ringB k p q = true) (hw : widthI k q = (wd : Int)) (ht : ∀ m, m < N → ElemV k p q (tf m)) (hn : n ≤ N) (ho : o < M) {j : Nat} {a : Int} (hj : j < wd) (ha : (accL k p q zf tf M n)[o * wd + j]? = some a) : 0 ≤ a ∧ a ≤ 1048576 := by
  have h1 := acc_get (zf := zf) hr hw ht hn ho
  have h2 := accE_elem (zf := zf) hr ht n hn o
  have h3 : (getL wd (accL k p q zf tf M n) o)[j]? = some a := by
    unfold getL
    rw [List.getElem?_take_of_lt hj, List.getElem?_drop]; exact ha
  rw [h1] at h3
  have h4 := h2.2 a (List.mem_of_getElem? h3)
  have h5 := ring_top hr
  omega
theorem keep_snoc {J keep : List Int} {d : Int → Int} {j : Nat} {n : Int} (h : J[j]? = some n) (hn : n ∈ keep) : (keepL (J.take j) keep).map d ++ [d n] = (keepL (J.take (j + 1)) keep).map d := by
  rw [keep_yes h hn]; simp

theorem own_cap {w : World} {lo g n cap : Nat} {xs : List Value} (h : w.ownsRow lo 3 1 (.slice (some ⟨g, 0, none⟩) n cap) n xs) : n ≤ cap := by
  rcases h.2 with ⟨e, -⟩ | ⟨g', cap', cur, e, -, -, h1, h2, h3, h4⟩
  · cases e
  · cases e
    omega

set_option maxHeartbeats 1600000 in
theorem sum_over_full5 {B B' m mk ca ck K wd N : Nat} {z1 z2 z3 z4 z5 : Value} {k p q : Int} {J keep : List Int} (dJ sJ : Int → Int) {aa ak : Option Addr} {F : Nat → List Int} {w : World}
    (hr : ringB k p q = true) (hw : widthI k q = (wd : Int)) (hn : J.Nodup) (hm : J.length = m) (h24 : m ≤ 24) (hI : allI J) (hd : ∀ n ∈ J, 1 ≤ dJ n ∧ dJ n ≤ 8) (hP : prodL (J.map dJ) = (N : Int)) (hN : N ≤ 65536) (hkl : keep.length = mk) (hkb : mk ≤ 281474976710656)
    (ha : RdA B w (.slice aa m ca) (axJ J dJ sJ)) (hk : Rd B' w (.slice ak mk ck) (ints keep)) (hB : B ≤ w.heap.size) (hB' : B' ≤ w.heap.size)
    (hK : ∀ (args : Array Value) (w : World), (callFunc K args).run Tryz.prog w = .ok (.enter K args) w) (hF : ∀ j, j < N → ElemV k p q (F j)) (hG : ∀ (j : Nat) (W : World), j < N → Below w.heap.size w W → Calls Tryz.prog K #[.int .i64 j, z1, z2, z3, z4, z5] W (ClosF w W (F j))) :
    Calls Tryz.prog 52 #[ringV k p q, .slice aa m ca, .slice ak mk ck, .func (.func K) #[] #[z1, z2, z3, z4, z5]] w (NewTen2 w (if zeroTenB k p q (keepL J keep) ((keepL J keep).map dJ) = true then keepL J keep else []) (if zeroTenB k p q (keepL J keep) ((keepL J keep).map dJ) = true then (keepL J keep).map dJ else []) (if zeroTenB k p q (keepL J keep) ((keepL J keep).map dJ) = true then accL k p q (offJ (keepL J keep) ((keepL J keep).map dJ) J (J.map dJ)) F (prodL ((keepL J keep).map dJ)).toNat N else []) (zeroTenB k p q (keepL J keep) ((keepL J keep).map dJ))) := by
  have HRG := Lib.hid hr
  have HW := Lib.hid hw
  have HND := Lib.hid hn
  have L1 := Lib.hid hm
  have HI := Lib.hid hI
  have HD := Lib.hid hd
  have HPN := Lib.hid hP
  have HKL := Lib.hid (And.intro hkl hkb)
  have HA := Lib.hid (ha.mono hB)
  have HK := Lib.hid (hk.mono hB')
  have HF := Lib.hid hF
  have HG := Lib.hid hG
  obtain ⟨hw1, hw6⟩ : 1 ≤ wd ∧ wd ≤ 6 := by have h1 := ring_width hr; rw [hw] at h1; omega
  obtain ⟨Kl, hKl⟩ : ∃ l, l = keepL J keep := ⟨_, rfl⟩
  obtain ⟨KD, hKD⟩ : ∃ l, l = (keepL J keep).map dJ := ⟨_, rfl⟩
  rw [← hKD]
  rw [← hKl] at hKD ⊢
  obtain ⟨zb, hzb⟩ : ∃ b, b = zeroTenB k p q Kl KD := ⟨_, rfl⟩
  rw [← hzb]
  obtain ⟨JD, hJD⟩ : ∃ l, l = J.map dJ := ⟨_, rfl⟩
  rw [← hJD]
  obtain ⟨zf, hzf⟩ : ∃ f, f = offJ Kl KD J JD := ⟨_, rfl⟩
  rw [← hzf]
  obtain ⟨M, hM⟩ : ∃ M, M = (prodL KD).toNat := ⟨_, rfl⟩
  rw [← hM]
  obtain ⟨tL, htL⟩ : ∃ l, l = if zb = true then Kl else [] := ⟨_, rfl⟩
  obtain ⟨tD, htD⟩ : ∃ l, l = if zb = true then KD else [] := ⟨_, rfl⟩
  obtain ⟨tX, htX⟩ : ∃ l, l = if zb = true then accL k p q zf F M N else [] := ⟨_, rfl⟩
  rw [← htL, ← htD, ← htX]
  have EKl := Lib.hid hKl
  have EKD := Lib.hid hKD
  have EZB := Lib.hid hzb
  have EJD := Lib.hid hJD
  have EZF := Lib.hid hzf
  have EM := Lib.hid hM
  have TL := Lib.hid htL
  have TD := Lib.hid htD
  have TX := Lib.hid htX
  obtain ⟨i0, hi, hz0, hz1, hz2⟩ := info_parts infoInt
  have J0 := Lib.hid hi
  have J1 := Lib.hid hz0
  have J2 := Lib.hid hz1
  have J3 := Lib.hid hz2
  have S0 : Hid (Rs w ((w.alloc (.cells #[.int .i64 k, .int .i64 p, .int .i64 q] 24)).alloc (.cells #[nilV, nilV, nilV] 28)) [(w.heap.size + 1, nilV, nilV, nilV), (w.heap.size, .int .i64 k, .int .i64 p, .int .i64 q)] [(nilV, keepL (J.take 0) keep), (nilV, (keepL (J.take 0) keep).map dJ)]) := by
    have h := (((Rs.start w).box (.int .i64 k) (.int .i64 p) (.int .i64 q) 24).box nilV nilV nilV 28).nil.nil
    simp only [World.size_alloc] at h
    exact h
  generalize hbs : [(w.heap.size + 1, nilV, nilV, nilV), (w.heap.size, Value.int .i64 k, Value.int .i64 p, Value.int .i64 q)] = bs at S0
  have HBS := Lib.hid hbs
  clear hr hw hn hm hI hd hP hkl ha hk hB hB' hF hG hKl hKD hzb hJD hzf hM htL htD htX hi hz0 hz1 hz2 hbs
  go_enter Tryz.func52, Tryz.ntmps52
  go_wp2
  go_loopw [10, 11, 23] (fun u v i wr => ∃ (j n1 e1 e2 : Nat) (ga gb : Option Addr), j ≤ m ∧ i = .int .i64 j ∧ u = .slice ga n1 e1 ∧ v = .slice gb n1 e2 ∧ n1 ≤ j ∧ Hid (n1 = (keepL (J.take j) keep).length) ∧ Hid (Rs w wr bs [(.slice ga n1 e1, keepL (J.take j) keep), (.slice gb n1 e2, (keepL (J.take j) keep).map dJ)])) (fun _ _ i _ => m - (intOf i).toNat)
  case atStart => exact ⟨0, 0, 0, 0, none, none, by omega, rfl, rfl, rfl, by omega, Lib.hid rfl, S0⟩
  case round =>
    clear S0
    obtain ⟨j, n1, c1, c2, ga, gb, hj, rfl, rfl, rfl, hn1, HN1, HR⟩ := hrel
    by_cases hlt : j < m
    · obtain ⟨n, X1⟩ : ∃ n, Hid (J[j]? = some n) := ⟨_, List.getElem?_eq_getElem (by rw [L1.out]; exact hlt)⟩
      obtain ⟨b, off, rfl, -, e1, e2, e3⟩ := (HA.out.below HR.out.bel (Nat.le_refl _)).at (i := j) (a := (n, dJ n, sJ n)) (by unfold axJ; rw [List.getElem?_map, X1.out]; rfl)
      dsimp only at e1 e2 e3
      obtain ⟨d, hd⟩ : ∃ d, d = dJ n := ⟨_, rfl⟩
      obtain ⟨s, hs⟩ : ∃ s, s = sJ n := ⟨_, rfl⟩
      rw [← hd] at e2
      rw [← hs] at e3
      have HDN := Lib.hid hd
      have R1 := Lib.hid (HR.out.box (.int .i64 n) (.int .i64 d) (.int .i64 s) 77)
      obtain ⟨⟨o0, o1, -⟩, -⟩ := R1.out.at (r := wr.heap.size) (a := .int .i64 n) (b := .int .i64 d) (c := .int .i64 s) (by simp)
      have HC := Lib.hid (contains_any n (HK.out.below R1.out.bel (Nat.le_refl _)) (by rw [HKL.out.1]; exact HKL.out.2))
      clear hd hs
      by_cases hin : n ∈ keep
      · rw [decide_eq_true hin] at HC
        have KY := Lib.hid (keep_yes X1.out hin)
        have KD2 : Hid ((keepL (J.take j) keep).map dJ ++ [d] = (keepL (J.take (j + 1)) keep).map dJ) := Lib.hid (by rw [HDN.out]; exact keep_snoc X1.out hin)
        have HN2 : Hid (n1 + 1 = (keepL (J.take (j + 1)) keep).length) := Lib.hid (by rw [KY.out, List.length_append, ← HN1.out]; rfl)
        have HDL : Hid (((keepL (J.take j) keep).map dJ).length = n1) := Lib.hid (by rw [List.length_map, HN1.out])
        have A1 := Lib.hid (R1.out.alloc (.cells #[.int .i64 n] 3))
        have O1 := Lib.hid (A1.out.row (List.mem_cons_self) HN1.out.symm : World.ownsRow _ w.heap.size 3 1 (.slice ga n1 c1) n1 (ints (keepL (J.take j) keep)))
        clear hin
        go_wp2_with fail
        refine HC.out.mono ?_
        rintro e w1 ⟨rfl, rfl⟩
        go_wp2_with (at_builtin; go_must (refine wpList_append_lies _ rfl _ _ 26 rfl w.heap.size 3 i0 (.int .i64 0) 1 8 Tryz.underlying26 J0.out J1.out J2.out J3.out rfl (by decide) _ n1 (ints (keepL (J.take j) keep)) rfl O1.out ⟨wr.heap.size + 1, 0, none⟩ 1 1 [.int .i64 n] rfl rfl (cell_one_at _ _ (by simp)) ?c2 (by decide) ?c3 ?c4 ?c5 _ rfl ?_))
        case c2 => first | rfl | (intro u hu; simp at hu; subst hu; rfl)
        case c3 => unfold maxLen; omega
        case c4 => omega
        case c5 => exact A1.out.bel.size
        intro g1 cap1 w2 hown hgrow hl1 _
        have R2 := Lib.hid (A1.out.app1 HN1.out.symm hown hgrow (by simp only [World.size_alloc] at hl1 ⊢; exact hl1))
        rw [← KY.out] at R2
        clear o0 o1
        obtain ⟨⟨-, o1, -⟩, -⟩ := R2.out.at (r := wr.heap.size) (a := .int .i64 n) (b := .int .i64 d) (c := .int .i64 s) (by simp)
        have A2 := Lib.hid (R2.out.swap.alloc (.cells #[.int .i64 d] 3))
        have O2 := Lib.hid (A2.out.row (List.mem_cons_self) HDL.out : World.ownsRow _ w.heap.size 3 1 (.slice gb n1 c2) n1 (ints ((keepL (J.take j) keep).map dJ)))
        clear hown hgrow hl1 O1 A1 R1 HR HC e1 e2 e3
        go_wp2_with (at_builtin; go_must (refine wpList_append_lies _ rfl _ _ 26 rfl w.heap.size 3 i0 (.int .i64 0) 1 8 Tryz.underlying26 J0.out J1.out J2.out J3.out rfl (by decide) _ n1 (ints ((keepL (J.take j) keep).map dJ)) rfl O2.out ⟨w2.heap.size, 0, none⟩ 1 1 [.int .i64 d] rfl rfl (cell_one_at _ _ rfl) ?c2 (by decide) ?c3 ?c4 ?c5 _ rfl ?_))
        case c2 => first | rfl | (intro u hu; simp at hu; subst hu; rfl)
        case c3 => unfold maxLen; omega
        case c4 => omega
        case c5 => exact A2.out.bel.size
        intro g2 cap2 w3 hown hgrow hl1 _
        have R3 := Lib.hid (A2.out.app1 HDL.out hown hgrow (by simp only [World.size_alloc] at hl1 ⊢; exact hl1))
        rw [KD2.out] at R3
        have R4 := Lib.hid (R3.out.swap.subB (bs' := bs) (List.Sublist.cons _ (List.Sublist.refl _)))
        clear hown hgrow hl1 O2 A2 R2 R3 o1
        go_wp2
        go_roundw
        case rel => exact ⟨j + 1, n1 + 1, cap1, cap2, some ⟨g1, 0, none⟩, some ⟨g2, 0, none⟩, by omega, by go_num, rfl, rfl, by omega, HN2, R4⟩
        case measure => simp [intOf]; omega
      · rw [decide_eq_false hin] at HC
        have KN := Lib.hid (keep_no X1.out hin)
        have R4 := Lib.hid (R1.out.subB (bs' := bs) (List.Sublist.cons _ (List.Sublist.refl _)))
        rw [← KN.out] at HN1 R4
        clear hin
        go_wp2_with fail
        refine HC.out.mono ?_
        rintro e w1 ⟨rfl, rfl⟩
        clear HC R1 HR o0 o1 e1 e2 e3
        go_wp2
        go_roundw
        case rel => exact ⟨j + 1, n1, c1, c2, ga, gb, by omega, by go_num, rfl, rfl, by omega, HN1, R4⟩
        case measure => simp [intOf]; omega
    · obtain rfl : j = m := by omega
      have E1 : Hid (J.take j = J) := Lib.hid (List.take_of_length_le (by rw [L1.out]; exact Nat.le_refl _))
      rw [E1.out, ← EKl.out, ← EKD.out] at HR
      rw [E1.out, ← EKl.out] at HN1
      have HLD : Hid (KD.length = n1) := Lib.hid (by rw [EKD.out, List.length_map, HN1.out])
      have HZ := Lib.hid (zero_tensor_impl (k := k) (p := p) (q := q) (HR.out.rd (v := .slice ga n1 c1) (xs := Kl) (by simp)) (HR.out.rd (v := .slice gb n1 c2) (xs := KD) (by simp)) (Nat.le_refl _) (by rw [← HN1.out]; omega) (by rw [HLD.out]; omega) (fun z hz => HI.out z (by rw [EKl.out] at hz; exact keep_sub z hz)))
      rw [← EZB.out] at HZ
      obtain ⟨⟨r0, r1, r2⟩, -⟩ := HR.out.at (r := w.heap.size) (a := .int .i64 k) (b := .int .i64 p) (c := .int .i64 q) (by rw [← HBS.out]; simp)
      cases zb with
      | false =>
        simp only [Bool.false_eq_true, if_false] at HZ
        obtain rfl : tL = [] := by rw [TL.out]; simp
        obtain rfl : tD = [] := by rw [TD.out]; simp
        obtain rfl : tX = [] := by rw [TX.out]; simp
        go_wp2_with fail
        refine HZ.out.mono ?_
        rintro e w4 ⟨u1, u2, u3, rfl, ho, hb⟩
        obtain ⟨a1, n1', d1, rfl⟩ := (show Own _ _ _ u1 [] from ho.1 (u1, []) (by simp)).slice
        obtain ⟨a2, n2', d2, rfl⟩ := (show Own _ _ _ u2 [] from ho.1 (u2, []) (by simp)).slice
        obtain ⟨a3, n3', d3, rfl⟩ := (show Own _ _ _ u3 [] from ho.1 (u3, []) (by simp)).slice
        have R5 := Lib.hid ((HR.out.step hb).alloc (.cells #[.slice a1 n1' d1, .slice a2 n2' d2, .slice a3 n3' d3] 28))
        obtain ⟨⟨t0, t1, t2⟩, f0, f1, f2⟩ := R5.out.at (r := w.heap.size + 1) (a := nilV) (b := nilV) (c := nilV) (by rw [← HBS.out]; simp)
        clear ho hb HZ HR r0 r1 r2
        go_wp2
        refine bodyPost_ret (v := .tuple #[tenV nilV nilV nilV, .bool false]) (by simp [results, Tryz.results52, go_sem, t0, t1, t2]) rfl ?_
        exact NewTen2.nils (((R5.out.bel.setCell (by show w.heap.size ≤ w.heap.size + 1; omega) _).setCell (by show w.heap.size ≤ w.heap.size + 1; omega) _).setCell (by show w.heap.size ≤ w.heap.size + 1; omega) _)
      | true =>
        simp only [if_true] at HZ
        obtain rfl : tL = Kl := by rw [TL.out]; simp
        obtain rfl : tD = KD := by rw [TD.out]; simp
        obtain rfl : tX = accL k p q zf F M N := by rw [TX.out]; simp
        have hsz : ¬ sizeI tL tD < 0 := by
          have h := EZB.out
          unfold zeroTenB at h
          rw [HRG.out] at h
          simp only [Bool.true_and] at h
          have h2 : 0 ≤ sizeI tL tD := of_decide_eq_true h.symm
          omega
        obtain ⟨hax, hp1, hp2⟩ := sizeI_ax hsz
        have HAX := Lib.hid hax
        have HMP : Hid (prodL tD = (M : Int) ∧ 1 ≤ M ∧ M ≤ 4096) := Lib.hid (by rw [EM.out]; omega)
        have hMb : M ≤ 4096 := HMP.out.2.2
        have HSUB : Hid (∀ n ∈ tL, n ∈ J) := Lib.hid (fun n h => keep_sub n (by rw [EKl.out] at h; exact h))
        have HSX : Hid (SubAx tL tD J JD) := Lib.hid (by
          have h := SubAx.keep (JD := JD) keep HND.out
          rw [EJD.out, keepD_map, ← EKl.out, ← EKD.out, ← EJD.out] at h
          exact h)
        have HJ1 : Hid (∀ x ∈ JD, 1 ≤ x) := Lib.hid (fun x hx => by rw [EJD.out] at hx; obtain ⟨n, hn, rfl⟩ := List.mem_map.1 hx; exact (HD.out n hn).1)
        have HJL : Hid (J.length = JD.length) := Lib.hid (by rw [EJD.out]; simp)
        have HZF : Hid (∀ c, zf c < M) := Lib.hid (fun c => by
          have h := (HSX.out.off HJL.out (fun d hd => (HAX.out.2.2.2.1 d hd).1) HJ1.out HND.out c).2
          rw [← EZF.out, HMP.out.1] at h
          omega)
        have HOFF : Hid (offsA (axJ J dJ (stepI tL tD)) = (List.range N).map fun c : Nat => (zf c : Int)) := Lib.hid (by
          have h := offs_steps HSX.out EJD.out.symm HND.out (fun d hd => (HAX.out.2.2.2.1 d hd).1) HJ1.out
          rw [← EZF.out, EJD.out, HPN.out, Int.toNat_natCast] at h
          exact h)
        obtain ⟨OF, hOF⟩ : ∃ l, l = (List.range N).map fun c : Nat => (zf c : Int) := ⟨_, rfl⟩
        rw [← hOF] at HOFF
        have HOL : Hid (OF.length = N) := Lib.hid (by rw [hOF]; simp)
        have HOA : Hid (∀ c, c < N → OF[c]? = some (zf c : Int)) := Lib.hid (fun c hc => by rw [hOF, List.getElem?_map, List.getElem?_range hc]; rfl)
        have HPA : Hid (PA (axJ J dJ (stepI tL tD))) := Lib.hid (axJ_pa (by rw [L1.out]; exact h24) HD.out (fun n _ => by
          have h := stepI_small (L := tL) (fun d hd => (HAX.out.2.2.2.1 d hd).1) (by rw [HMP.out.1]; omega) n
          omega) (by rw [HPN.out]; omega))
        have HEL : Hid (∀ c, c ≤ N → (accL k p q zf F M c).length = M * wd) := Lib.hid (fun c hc => acc_len HRG.out HW.out HF.out hc)
        have HZ0 : Hid (zeroTenL k p q tD = accL k p q zf F M 0) := Lib.hid (by unfold zeroTenL; rw [← EM.out]; exact accL_start _ _ _ _ _ _)
        rw [HZ0.out] at HZ
        clear hsz hax hp1 hp2 hOF
        go_wp2_with fail
        refine HZ.out.mono ?_
        rintro e w4 ⟨u1, u2, u3, rfl, ho, hb⟩
        obtain ⟨a1, n1', d1, rfl⟩ := (show Own _ _ _ u1 tL from ho.1 (u1, tL) (by simp)).slice
        obtain ⟨a2, n2', d2, rfl⟩ := (show Own _ _ _ u2 tD from ho.1 (u2, tD) (by simp)).slice
        obtain ⟨a3, cx, rfl, -⟩ := ints_form (show Own _ _ _ u3 (accL k p q zf F M 0) from ho.1 (u3, accL k p q zf F M 0) (by simp)).rd
        obtain ⟨mx, hmx⟩ : ∃ m, m = M * wd := ⟨_, rfl⟩
        have hmxb : mx ≤ 24576 := by rw [hmx]; exact Nat.mul_le_mul hMb hw6
        have HMX := Lib.hid hmx
        have HEL2 : Hid (∀ c, c ≤ N → (accL k p q zf F M c).length = mx) := Lib.hid (fun c hc => by rw [HEL.out c hc, hmx])
        rw [HEL2.out 0 (Nat.zero_le _)] at ho ⊢
        have R4 := Lib.hid ((HR.out.new3 hb ho).sub (rows' := [(.slice a1 n1' d1, tL), (.slice a2 n2' d2, tD), (.slice a3 mx cx, accL k p q zf F M 0)]) (List.Sublist.cons_cons _ (List.Sublist.cons_cons _ (List.Sublist.cons_cons _ (List.nil_sublist _)))))
        have R5 := Lib.hid (R4.out.box (.slice a1 n1' d1) (.slice a2 n2' d2) (.slice a3 mx cx) 28)
        have HAC := Lib.hid (axes_impl (B := w4.heap.size + 1) (w := w4.alloc (.cells #[.slice a1 n1' d1, .slice a2 n2' d2, .slice a3 mx cx] 28)) (L := tL) (D := tD) (X := accL k p q zf F M 0) ⟨(R5.out.rd (v := .slice a1 n1' d1) (xs := tL) (by simp)).mono (by simp), (R5.out.rd (v := .slice a2 n2' d2) (xs := tD) (by simp)).mono (by simp), (R5.out.rd (v := .slice a3 mx cx) (xs := accL k p q zf F M 0) (by simp)).mono (by simp)⟩ (by simp) (by simp) HAX.out.2.1 HAX.out.1 HAX.out.2.2.2.1 (by rw [HMP.out.1]; omega))
        rw [axesL_map HAX.out.2.2.2.2] at HAC
        obtain ⟨⟨t0, t1, t2⟩, -⟩ := R5.out.at (r := w4.heap.size) (a := .slice a1 n1' d1) (b := .slice a2 n2' d2) (c := .slice a3 mx cx) (by simp)
        clear ho hb HZ HR R4 hmx r0 r1 r2
        go_wp2_with fail
        refine HAC.out.mono ?_
        rintro e w6 ⟨vX, rfl, ho, hb⟩
        have R6 := Lib.hid (R5.out.step hb)
        have HJN := Lib.hid (join_axes_impl dJ sJ (dimI tL tD) (stepI tL tD) HND.out HAX.out.2.2.2.2 (by rw [L1.out]; exact h24) (by have := HAX.out.1; omega) (HA.out.below R6.out.bel (Nat.le_refl _)) ho.rd R6.out.bel.size (Nat.le_refl _))
        have HJK := axS_keep (dJ := dJ) HSUB.out
        rw [← EKD.out] at HJK
        have HJ2 := Lib.hid HJK
        clear ho hb HAC R5 HJK t0 t1 t2
        go_wp2_with fail
        refine HJN.out.mono ?_
        rintro e w7 (⟨-, vF, vS, rfl, hoF, hoS, hb⟩ | ⟨hno, -, -⟩)
        rotate_left
        · exact absurd HJ2.out.1 hno
        rw [HJ2.out.2] at hoS
        have R7 := Lib.hid (R6.out.step hb)
        have HOI := Lib.hid (offsets_impl HPA.out hoS.rd (Nat.le_refl _))
        rw [HOFF.out] at HOI
        clear hoF hoS hb HJN R6
        go_wp2_with fail
        refine HOI.out.mono ?_
        rintro e w8 ⟨vO, rfl, ho, hb⟩
        obtain ⟨aO, cO, rfl, -⟩ := ints_form ho.rd
        have R8 := Lib.hid ((R7.out.new hb ho).perm (rows' := [(.slice a3 mx cx, accL k p q zf F M 0), (.slice aO OF.length cO, OF), (.slice a1 n1' d1, tL), (.slice a2 n2' d2, tD)]) (List.Perm.trans (List.Perm.cons _ (List.Perm.trans (List.Perm.cons _ (List.Perm.swap _ _ _)) (List.Perm.swap _ _ _))) (List.Perm.swap _ _ _)))
        rw [HOL.out] at R8 ⊢
        clear ho hb HOI R7
        go_wp2
        go_loopw [63] (fun i wr => ∃ c : Nat, c ≤ N ∧ i = .int .i64 c ∧ Hid (Rs w wr ((w4.heap.size, .slice a1 n1' d1, .slice a2 n2' d2, .slice a3 mx cx) :: bs) [(.slice a3 mx cx, accL k p q zf F M c), (.slice aO N cO, OF), (.slice a1 n1' d1, tL), (.slice a2 n2' d2, tD)])) (fun i _ => N - (intOf i).toNat)
        case atStart => exact ⟨0, by omega, rfl, R8⟩
        case round =>
          clear R8
          obtain ⟨c, hc, rfl, HR⟩ := hrel
          by_cases hlt : c < N
          · have HCN := Lib.hid hlt
            obtain ⟨gO, rfl, -, -, hcO, -⟩ := (HR.out.own1 (v := .slice aO N cO) (xs := OF) (by simp)).slot HOL.out (by omega)
            have e1 := hcO c (zf c : Int) (HOA.out c hlt)
            have hz := HZF.out c
            have hmz : 0 < mx := by rw [HMX.out]; exact Nat.mul_pos (by omega) (by omega)
            obtain ⟨gX, rfl, hgl, hgh, -, -⟩ := (HR.out.own1 (v := .slice a3 mx cx) (xs := accL k p q zf F M c) (by simp)).slot (HEL2.out c hc) hmz
            have hcx : mx ≤ cx := own_cap (HR.out.row (v := .slice (some ⟨gX, 0, none⟩) mx cx) (xs := accL k p q zf F M c) (by simp) (HEL2.out c hc))
            obtain ⟨zo, hzo⟩ : ∃ z, z = zf c := ⟨_, rfl⟩
            have h8 := Nat.mul_le_mul_right wd (show zo + 1 ≤ M by omega)
            rw [Nat.add_mul, Nat.one_mul, ← HMX.out] at h8
            have hzM : zo ≤ 4096 := by omega
            rw [← hzo] at e1
            have HEF := Lib.hid (HF.out c hlt)
            have HFL : Hid ((F c).length = wd) := Lib.hid (by have h1 := HEF.out.1; have h2 := HW.out; omega)
            have hta := (ring_top HRG.out).2
            have HAE : Hid (∀ j a, j < wd → (accL k p q zf F M c)[zo * wd + j]? = some a → 0 ≤ a ∧ a ≤ 1048576) := Lib.hid (fun j a hj ha => acc_small HRG.out HW.out HF.out hc (by rw [hzo]; exact hz) hj ha)
            have HAS : Hid (addAt k p (accL k p q zf F M c) (zo * wd) (F c) wd = accL k p q zf F M (c + 1)) := Lib.hid (by
              rw [hzo]
              exact acc_add HRG.out HW.out HF.out hlt hz)
            have HEX : Hid (Within 1048576 (F c)) := Lib.hid (fun x hx => by have h := HEF.out.2 x hx; omega)
            obtain ⟨⟨r0, r1, r2⟩, -⟩ := HR.out.at (r := w.heap.size) (a := .int .i64 k) (b := .int .i64 p) (c := .int .i64 q) (by rw [← HBS.out]; simp)
            obtain ⟨⟨t0, t1, t2⟩, -⟩ := HR.out.at (r := w4.heap.size) (a := .slice a1 n1' d1) (b := .slice a2 n2' d2) (c := .slice (some ⟨gX, 0, none⟩) mx cx) (by simp)
            have Q0 := Lib.hid HR.out.drew
            have HML : Hid ((accL k p q zf F M c).length = mx) := Lib.hid (HEL2.out c hc)
            clear hcO hz hmz hzo hta HR
            go_wp2_with fail
            refine wp_region_held_drew (S := (fun w' => w'.cell? ⟨w.heap.size, 0, none⟩ = some (.int .i64 k) ∧ w'.cell? ⟨w.heap.size, 1, none⟩ = some (.int .i64 p) ∧ w'.cell? ⟨w.heap.size, 2, none⟩ = some (.int .i64 q) ∧ w'.cell? ⟨w4.heap.size, 0, none⟩ = some (.slice a1 n1' d1) ∧ w'.cell? ⟨w4.heap.size, 1, none⟩ = some (.slice a2 n2' d2) ∧ w'.cell? ⟨w4.heap.size, 2, none⟩ = some (.slice (some ⟨gX, 0, none⟩) mx cx))) (by kernel_rfl) (by (try dsimp only); exact ⟨r0, r1, r2, t0, t1, t2⟩) (fun hHeld => ?_)
            refine wpAnyH_take (i := 0) (v := ?_) rfl (by kernel_rfl) (by kernel_rfl) (by kernel_rfl) (fun _ _ _ h => h) (Or.inl ⟨by rfl, ?_⟩) (by assumption) ?_
            rotate_left
            · intro w hSw; (try dsimp only at hSw); go_simp <;> with_reducible rfl
            try simp only [Act.put, List.getElem_toArray, List.getElem_cons_zero, List.setIfInBounds_toArray, List.set_cons_zero, List.set_cons_succ]
            refine wpAnyH_take (i := 1) (v := ?_) rfl (by kernel_rfl) (by kernel_rfl) (by kernel_rfl) (fun _ _ _ h => h) (Or.inl ⟨by rfl, ?_⟩) (by assumption) ?_
            rotate_left
            · intro w hSw; (try dsimp only at hSw); go_simp <;> with_reducible rfl
            try simp only [Act.put, List.getElem_toArray, List.getElem_cons_succ, List.getElem_cons_zero, List.setIfInBounds_toArray, List.set_cons_zero, List.set_cons_succ]
            refine wpAnyH_take (i := 2) (v := ?_) rfl (by kernel_rfl) (by kernel_rfl) (by kernel_rfl) (fun _ _ _ h => h) (Or.inl ⟨by rfl, ?_⟩) (by assumption) ?_
            rotate_left
            · intro w hSw; (try dsimp only at hSw); go_simp <;> with_reducible rfl
            try simp only [Act.put, List.getElem_toArray, List.getElem_cons_succ, List.getElem_cons_zero, List.setIfInBounds_toArray, List.set_cons_zero, List.set_cons_succ]
            refine wpAnyH_take (i := 3) (v := ?_) rfl (by kernel_rfl) (by kernel_rfl) (by kernel_rfl) (fun _ _ _ h => h) (Or.inl ⟨by rfl, ?_⟩) (by assumption) ?_
            rotate_left
            · intro w hSw; (try dsimp only at hSw); go_simp <;> with_reducible rfl
            try simp only [Act.put, List.getElem_toArray, List.getElem_cons_succ, List.getElem_cons_zero, List.setIfInBounds_toArray, List.set_cons_zero, List.set_cons_succ]
            refine wpAnyH_take (i := 5) (v := ?_) rfl (by kernel_rfl) (by kernel_rfl) (by kernel_rfl) (fun _ _ _ h => h) (Or.inl ⟨by rfl, ?_⟩) (by assumption) ?_
            rotate_left
            · intro w hSw; (try dsimp only at hSw); go_simp <;> with_reducible rfl
            try simp only [Act.put, List.getElem_toArray, List.getElem_cons_succ, List.getElem_cons_zero, List.setIfInBounds_toArray, List.set_cons_zero, List.set_cons_succ]
            refine wpAnyH_take (i := 6) (v := ?_) rfl (by kernel_rfl) (by kernel_rfl) (by kernel_rfl) (fun _ _ _ h => h) (Or.inl ⟨by rfl, ?_⟩) (by assumption) ?_
            rotate_left
            · intro w hSw; (try dsimp only at hSw); go_simp <;> with_reducible rfl
            try simp only [Act.put, List.getElem_toArray, List.getElem_cons_succ, List.getElem_cons_zero, List.setIfInBounds_toArray, List.set_cons_zero, List.set_cons_succ]
            refine wpAnyH_ready (rs := [4]) (by kernel_rfl) (by simp) ?_
            refine AllReadyH.cons rfl (fun K hK => ?_) AllReadyH.nil
            go_simp
            (go_at_call 47; refine (elem_part (b := gX) (off := 0) (cx := cx) (mx := mx) wd zo HW.out hw1 hw6 hzM h8 hcx).mono ?_; rintro e w9 ⟨rfl, hb⟩; have Q1 := Lib.hid (Q0.out.step hb); have hg9 : gX < w9.heap.size := Nat.lt_of_lt_of_le hgh hb.size; clear hb; clear r0 r1 r2 t0 t1 t2; obtain ⟨⟨r0, r1, r2⟩, -⟩ := Q1.out.at (r := w.heap.size) (a := .int .i64 k) (b := .int .i64 p) (c := .int .i64 q) (by rw [← HBS.out]; simp); obtain ⟨⟨t0, t1, t2⟩, -⟩ := Q1.out.at (r := w4.heap.size) (a := .slice a1 n1' d1) (b := .slice a2 n2' d2) (c := .slice (some ⟨gX, 0, none⟩) mx cx) (by simp))
            go_wp2_with fail
            refine hK.out _ _ (by (try dsimp only); exact ⟨r0, r1, r2, t0, t1, t2⟩) (fun hHeld => ?_)
            clear hK K
            try simp only [Act.put, List.getElem_toArray, List.getElem_cons_succ, List.getElem_cons_zero, List.setIfInBounds_toArray, List.set_cons_zero, List.set_cons_succ]
            refine wpAnyH_ready (rs := [7]) (by kernel_rfl) (by simp) ?_
            refine AllReadyH.cons rfl (fun K hK => ?_) AllReadyH.nil
            go_simp
            (refine (HG.out c w9 HCN.out Q1.out.bel).mono ?_; rintro e w10 ⟨⟨bF, oF, cF, rfl, hbF, hbl, hcF⟩, hb⟩; have Q2 := Lib.hid (Q1.out.step hb); have hgn : bF ≠ gX := (by omega); have HCF := Lib.hid hcF; have hg10 : gX < w10.heap.size := Nat.lt_of_lt_of_le hg9 hb.size; clear hb hbF hcF; rw [HFL.out]; clear r0 r1 r2 t0 t1 t2; obtain ⟨⟨r0, r1, r2⟩, -⟩ := Q2.out.at (r := w.heap.size) (a := .int .i64 k) (b := .int .i64 p) (c := .int .i64 q) (by rw [← HBS.out]; simp); obtain ⟨⟨t0, t1, t2⟩, -⟩ := Q2.out.at (r := w4.heap.size) (a := .slice a1 n1' d1) (b := .slice a2 n2' d2) (c := .slice (some ⟨gX, 0, none⟩) mx cx) (by simp))
            go_wp2_with fail
            refine hK.out _ _ (by (try dsimp only); exact ⟨r0, r1, r2, t0, t1, t2⟩) (fun hHeld => ?_)
            clear hK K
            try simp only [Act.put, List.getElem_toArray, List.getElem_cons_succ, List.getElem_cons_zero, List.setIfInBounds_toArray, List.set_cons_zero, List.set_cons_succ]
            refine wpAnyH_ready (rs := [8]) (by kernel_rfl) (by simp) ?_
            refine AllReadyH.cons rfl (fun K hK => ?_) AllReadyH.nil
            go_simp
            (go_at_call 81; refine (add_to_full (lo := w.heap.size) (g := gX) (m := mx) (cap := cx) HRG.out HML.out HFL.out hw6 h8 (by omega) (Q2.out.row (v := .slice (some ⟨gX, 0, none⟩) mx cx) (xs := accL k p q zf F M c) (by simp) HML.out) hg10 HAE.out HEX.out hbl hgn HCF.out).mono ?_; rw [HAS.out]; rintro e w11 ⟨rfl, ho, hg⟩; have Q3 := Lib.hid (Q2.out.rewrite (X' := accL k p q zf F M (c + 1)) (by rw [HEL2.out (c + 1) (by have := HCN.out; omega)]; exact ho) hg); clear ho hg; clear r0 r1 r2 t0 t1 t2; obtain ⟨⟨r0, r1, r2⟩, -⟩ := Q3.out.at (r := w.heap.size) (a := .int .i64 k) (b := .int .i64 p) (c := .int .i64 q) (by rw [← HBS.out]; simp); obtain ⟨⟨t0, t1, t2⟩, -⟩ := Q3.out.at (r := w4.heap.size) (a := .slice a1 n1' d1) (b := .slice a2 n2' d2) (c := .slice (some ⟨gX, 0, none⟩) mx cx) (by simp))
            go_wp2_with fail
            refine hK.out _ _ (by (try dsimp only); exact ⟨r0, r1, r2, t0, t1, t2⟩) (fun hHeld => ?_)
            clear hK K
            try simp only [Act.put, List.getElem_toArray, List.getElem_cons_succ, List.getElem_cons_zero, List.setIfInBounds_toArray, List.set_cons_zero, List.set_cons_succ]
            refine wpAnyH_done (by kernel_rfl) ?_ _
            clear r0 r1 r2 t0 t1 t2 Q0 Q1 Q2 HML HAE HAS
            go_wp2
            go_roundw
            case rel => exact ⟨c + 1, by omega, by go_num, Q3⟩
            case measure => simp [intOf]; omega
          · obtain rfl : c = N := by omega
            obtain ⟨⟨t0, t1, t2⟩, -⟩ := HR.out.at (r := w4.heap.size) (a := .slice a1 n1' d1) (b := .slice a2 n2' d2) (c := .slice a3 mx cx) (by simp)
            obtain ⟨⟨o0, o1, o2⟩, f0, f1, f2⟩ := HR.out.at (r := w.heap.size + 1) (a := nilV) (b := nilV) (c := nilV) (by rw [← HBS.out]; simp)
            have h1 : Rs w wr [(w.heap.size + 1, nilV, nilV, nilV)] [(.slice a1 n1' d1, tL), (.slice a2 n2' d2, tD), (.slice a3 mx cx, accL k p q zf F M c)] := ((HR.out.sub (rows' := [(.slice a3 mx cx, accL k p q zf F M c), (.slice a1 n1' d1, tL), (.slice a2 n2' d2, tD)]) (List.Sublist.cons_cons _ (List.Sublist.cons _ (List.Sublist.refl _)))).perm (List.Perm.trans (List.Perm.swap _ _ _) (List.Perm.cons _ (List.Perm.swap _ _ _)))).subB (List.Sublist.cons _ (by rw [← HBS.out]; exact List.Sublist.cons_cons _ (List.nil_sublist _)))
            have HFI := Lib.hid h1
            clear h1 HR
            go_wp2
            refine bodyPost_ret (v := .tuple #[tenV (.slice a1 n1' d1) (.slice a2 n2' d2) (.slice a3 mx cx), .bool true]) (by simp [results, Tryz.results52, go_sem, o0, o1, o2]) rfl ?_
            have R9 := HFI.out.set3 (.slice a1 n1' d1) (.slice a2 n2' d2) (.slice a3 mx cx)
            exact ⟨_, _, _, rfl, R9.ownG, R9.bel⟩
/-- sumOver, over a function value with 5 captured variables. -/
theorem sum_over5 {B B' K wd N : Nat} {av kv z1 z2 z3 z4 z5 : Value} {k p q : Int} {J keep : List Int} (dJ sJ : Int → Int) {F : Nat → List Int} {w : World}
    (hr : ringB k p q = true) (hw : widthI k q = (wd : Int)) (hn : J.Nodup) (h24 : J.length ≤ 24) (hI : allI J) (hd : ∀ n ∈ J, 1 ≤ dJ n ∧ dJ n ≤ 8) (hP : prodL (J.map dJ) = (N : Int)) (hN : N ≤ 65536) (hkb : keep.length ≤ 281474976710656)
    (ha : RdA B w av (axJ J dJ sJ)) (hk : Rd B' w kv (ints keep)) (hB : B ≤ w.heap.size) (hB' : B' ≤ w.heap.size)
    (hK : ∀ (args : Array Value) (w : World), (callFunc K args).run Tryz.prog w = .ok (.enter K args) w) (hF : ∀ j, j < N → ElemV k p q (F j)) (hG : ∀ (j : Nat) (W : World), j < N → Below w.heap.size w W → Calls Tryz.prog K #[.int .i64 j, z1, z2, z3, z4, z5] W (ClosF w W (F j))) :
    Calls Tryz.prog 52 #[ringV k p q, av, kv, .func (.func K) #[] #[z1, z2, z3, z4, z5]] w (NewTen2 w (if zeroTenB k p q (keepL J keep) ((keepL J keep).map dJ) = true then keepL J keep else []) (if zeroTenB k p q (keepL J keep) ((keepL J keep).map dJ) = true then (keepL J keep).map dJ else []) (if zeroTenB k p q (keepL J keep) ((keepL J keep).map dJ) = true then accL k p q (offJ (keepL J keep) ((keepL J keep).map dJ) J (J.map dJ)) F (prodL ((keepL J keep).map dJ)).toNat N else []) (zeroTenB k p q (keepL J keep) ((keepL J keep).map dJ))) := by
  obtain ⟨aa, ca, rfl⟩ := ha.form
  obtain ⟨ak, ck, rfl, -⟩ := ints_form hk
  rw [axJ_len] at ha ⊢
  exact sum_over_full5 dJ sJ hr hw hn rfl h24 hI hd hP hN rfl hkb ha hk hB hB' hK hF hG
end Go.Proofs.YtceidekfcnmeaaaGreat
namespace Go.Proofs.YtceidekfcnmeaaaGreat
set_option maxRecDepth 20000
open Go.RowKit

theorem join_ten_yes {B B' : Nat} {u v : Value} {L D L' D' : List Int} {w : World} (hax : AxesV L D) (hax' : AxesV L' D') (hf : FitV L D L' D') (ha : RdA B w u (axesL L D)) (hb : RdA B' w v (axesL L' D')) (hB : B ≤ w.heap.size) (hB' : B' ≤ w.heap.size) :
    Calls Tryz.prog 55 #[u, v] w fun e w' => ∃ x y, e = .returned (.tuple #[x, y, .bool true]) ∧ OwnA w' w.heap.size w'.heap.size x (axJ (joinL L L') (dimJ L D L' D') (stepI L D)) ∧ OwnA w' w.heap.size w'.heap.size y (axJ (joinL L L') (dimJ L D L' D') (stepI L' D')) ∧ Below w.heap.size w w' := by
  have hff := (fitF_fit (D := D) (D' := D') hax'.2.2.2.2).2 hf
  rw [axesL_map hax.2.2.2.2] at ha
  rw [axesL_map hax'.2.2.2.2] at hb
  refine (join_axes_impl (dimI L D) (stepI L D) (dimI L' D') (stepI L' D') hax.2.2.2.2 hax'.2.2.2.2 (by have := hax.1; omega) (by have := hax'.1; omega) ha hb hB hB').mono ?_
  rintro e w' (⟨-, x, y, rfl, h1, h2, h3⟩ | ⟨hn, -, -⟩)
  · rw [axF_axJ] at h1
    rw [axS_axJ hff] at h2
    exact ⟨x, y, rfl, h1, h2, h3⟩
  · exact absurd hff hn
theorem join_ten_no {B B' : Nat} {u v : Value} {L D L' D' : List Int} {w : World} (hax : AxesV L D) (hax' : AxesV L' D') (hf : ¬ FitV L D L' D') (ha : RdA B w u (axesL L D)) (hb : RdA B' w v (axesL L' D')) (hB : B ≤ w.heap.size) (hB' : B' ≤ w.heap.size) :
    Calls Tryz.prog 55 #[u, v] w fun e w' => e = .returned (.tuple #[nilV, nilV, .bool false]) ∧ Below w.heap.size w w' := by
  have hff := fun h => hf ((fitF_fit (D := D) (D' := D') hax'.2.2.2.2).1 h)
  rw [axesL_map hax.2.2.2.2] at ha
  rw [axesL_map hax'.2.2.2.2] at hb
  refine (join_axes_impl (dimI L D) (stepI L D) (dimI L' D') (stepI L' D') hax.2.2.2.2 hax'.2.2.2.2 (by have := hax.1; omega) (by have := hax'.1; omega) ha hb hB hB').mono ?_
  rintro e w' (⟨hy, -⟩ | ⟨-, rfl, h3⟩)
  · exact absurd hy hff
  · exact ⟨rfl, h3⟩
theorem dimJ_in {L D L' D' : List Int} (hax : AxesV L D) (hax' : AxesV L' D') : ∀ n ∈ joinL L L', 1 ≤ dimJ L D L' D' n ∧ dimJ L D L' D' n ≤ 8 := fun n hn => by
  have h := joinD_map (D := D) (L' := L') (D' := D') hax.2.2.2.2 hax.2.1
  have hm : dimJ L D L' D' n ∈ joinD L D L' D' := by rw [← h]; exact List.mem_map_of_mem hn
  exact joinD_in hax'.2.1 hax.2.2.2.1 hax'.2.2.2.1 _ hm
theorem prod_sub {A C : List Int} (h : A.Sublist C) (h1 : ∀ d ∈ C, 1 ≤ d) : prodL A ≤ prodL C := by
  induction h with
  | slnil => exact Int.le_refl _
  | cons a hs ih =>
    rename_i l1 l2
    rw [prodL_cons]
    have h2 := ih (fun d hd => h1 d (List.mem_cons_of_mem _ hd))
    have h3 := h1 a (by simp)
    have h4 := prodL_pos (D := l2) (fun d hd => h1 d (List.mem_cons_of_mem _ hd))
    have h5 := Int.mul_le_mul_of_nonneg_right h3 (show 0 ≤ prodL l2 by omega)
    omega
  | cons_cons a hs ih =>
    rw [prodL_cons, prodL_cons]
    have h2 := ih (fun d hd => h1 d (List.mem_cons_of_mem _ hd))
    have h3 := h1 a (by simp)
    exact Int.mul_le_mul_of_nonneg_left h2 (by omega)
theorem join_prod {L D L' D' : List Int} (hax : AxesV L D) (hax' : AxesV L' D') (hp : 1 ≤ prodL D ∧ prodL D ≤ 4096) (hp' : prodL D' ≤ 4096) : 1 ≤ prodL (joinD L D L' D') ∧ prodL (joinD L D L' D') ≤ 16777216 := by
  have h0 := prodL_pos (D := joinD L D L' D') (fun d hd => (joinD_in hax'.2.1 hax.2.2.2.1 hax'.2.2.2.1 d hd).1)
  refine ⟨h0, ?_⟩
  have h1 : (dimsVia L' D' (restL L L')).Sublist D' := by
    have h2 := (List.filter_sublist (p := fun n => decide (n ∉ L)) (l := L')).map (dimI L' D')
    rw [dimI_map hax'.2.2.2.2 hax'.2.1] at h2
    exact h2
  have h3 := prod_sub h1 (fun d hd => (hax'.2.2.2.1 d hd).1)
  have h4 := prodL_pos (D := dimsVia L' D' (restL L L')) (fun d hd => (hax'.2.2.2.1 d (h1.subset hd)).1)
  unfold joinD
  rw [prodL_app]
  exact Int.le_trans (Int.mul_le_mul hp.2 (show _ ≤ 4096 by omega) (by omega) (by omega)) (by omega)
theorem joinA_pa {L D L' D' : List Int} {L1 D1 : List Int} (hax : AxesV L D) (hax' : AxesV L' D') (hD : ∀ d ∈ D1, 1 ≤ d) (hP1 : prodL D1 ≤ 4096) (hP : prodL (joinD L D L' D') ≤ 65536) : PA (axJ (joinL L L') (dimJ L D L' D') (stepI L1 D1)) :=
  axJ_pa (by have h1 := join_len L L'; have h2 := hax.1; have h3 := hax'.1; omega) (dimJ_in hax hax') (fun n _ => by have h := stepI_small (L := L1) hD hP1 n; omega) (by rw [joinD_map hax.2.2.2.2 hax.2.1]; exact hP)

set_option maxHeartbeats 6400000 in
theorem pair_fn {B br ba bi bb bj gi gj ni nj ci cj : Nat} {lv dv xv lu du xu : Value} {k p q : Int} {L D X L' D' X' : List Int} {wd N N' j oa ob : Nat} {w W : World} (hb : Below w.heap.size w W)
    (hc : br < w.heap.size ∧ ba < w.heap.size ∧ bi < w.heap.size ∧ bb < w.heap.size ∧ bj < w.heap.size ∧ gi < w.heap.size ∧ gj < w.heap.size)
    (hcells : (w.cell? ⟨br, 0, none⟩ = some (.int .i64 k) ∧ w.cell? ⟨br, 1, none⟩ = some (.int .i64 p) ∧ w.cell? ⟨br, 2, none⟩ = some (.int .i64 q) ∧ w.cell? ⟨ba, 0, none⟩ = some lv ∧ w.cell? ⟨ba, 1, none⟩ = some dv ∧ w.cell? ⟨ba, 2, none⟩ = some xv ∧ w.cell? ⟨bb, 0, none⟩ = some lu ∧ w.cell? ⟨bb, 1, none⟩ = some du ∧ w.cell? ⟨bb, 2, none⟩ = some xu ∧ w.cell? ⟨bi, 0, none⟩ = some (.slice (some ⟨gi, 0, none⟩) ni ci) ∧ w.cell? ⟨bj, 0, none⟩ = some (.slice (some ⟨gj, 0, none⟩) nj cj) ∧ w.cell? ⟨gi, j, none⟩ = some (.int .i64 oa) ∧ w.cell? ⟨gj, j, none⟩ = some (.int .i64 ob)))
    (hji : j < ni) (hjj : j < nj) (ha : RdT B w lv dv xv L D X) (hu : RdT B w lu du xu L' D' X') (hB : B ≤ w.heap.size) (hr : ringB k p q = true) (hw : widthI k q = (wd : Int)) (hw1 : 1 ≤ wd) (hw2 : wd ≤ 6) (hN : N ≤ 4096) (hN' : N' ≤ 4096) (hX : X.length = N * wd) (hY : X'.length = N' * wd) (wX : Within (topI k p q) X) (wY : Within (topI k p q) X') (hoa : oa < N) (hob : ob < N') :
    Calls Tryz.prog 58 #[.int .i64 j, .pointer (some ⟨br, 0, none⟩), .pointer (some ⟨ba, 0, none⟩), .pointer (some ⟨bi, 0, none⟩), .pointer (some ⟨bb, 0, none⟩), .pointer (some ⟨bj, 0, none⟩)] W (NewRow W (timesL k p (getL wd X oa) (getL wd X' ob))) := by
  have hja := Nat.mul_le_mul_right wd (show oa + 1 ≤ N by omega)
  rw [Nat.add_mul, Nat.one_mul] at hja
  have hjb := Nat.mul_le_mul_right wd (show ob + 1 ≤ N' by omega)
  rw [Nat.add_mul, Nat.one_mul] at hjb
  have HX := Lib.hid (getL_elem hw hX wX hoa)
  have HY := Lib.hid (getL_elem hw hY wY hob)
  have HR := Lib.hid hr
  have HTR : ∀ V, Below W.heap.size W V → Below w.heap.size w V := fun V hV => hb.trans (hV.mono hb.size)
  have HBB := Lib.hid (Nat.le_trans hB hb.size)
  have HE1 := Lib.hid (fun (V : World) (hV : Below W.heap.size W V) => elem_rd (k := k) (p := p) (q := q) wd oa (ha.below (HTR V hV) hB) (Nat.le_trans hB (HTR V hV).size) hw hw1 hw2 (by omega) (by rw [hX]; exact hja))
  have HE2 := Lib.hid (fun (V : World) (hV : Below W.heap.size W V) => elem_rd (k := k) (p := p) (q := q) wd ob (hu.below (HTR V hV) hB) (Nat.le_trans hB (HTR V hV).size) hw hw1 hw2 (by omega) (by rw [hY]; exact hjb))
  have HC : Hid (∀ V, Below W.heap.size W V → (V.cell? ⟨br, 0, none⟩ = some (.int .i64 k) ∧ V.cell? ⟨br, 1, none⟩ = some (.int .i64 p) ∧ V.cell? ⟨br, 2, none⟩ = some (.int .i64 q) ∧ V.cell? ⟨ba, 0, none⟩ = some lv ∧ V.cell? ⟨ba, 1, none⟩ = some dv ∧ V.cell? ⟨ba, 2, none⟩ = some xv ∧ V.cell? ⟨bb, 0, none⟩ = some lu ∧ V.cell? ⟨bb, 1, none⟩ = some du ∧ V.cell? ⟨bb, 2, none⟩ = some xu ∧ V.cell? ⟨bi, 0, none⟩ = some (.slice (some ⟨gi, 0, none⟩) ni ci) ∧ V.cell? ⟨bj, 0, none⟩ = some (.slice (some ⟨gj, 0, none⟩) nj cj) ∧ V.cell? ⟨gi, j, none⟩ = some (.int .i64 oa) ∧ V.cell? ⟨gj, j, none⟩ = some (.int .i64 ob))) := Lib.hid (fun V hV => by
    have hb := HTR V hV
    obtain ⟨l1, l2, l3, l4, l5, l6, l7⟩ := hc
    obtain ⟨r0, r1, r2, a0, a1, a2, b0, b1, b2, i0, j0, x0, y0⟩ := hcells
    exact ⟨(hb.cell (p := ⟨br, 0, none⟩) l1).trans r0, (hb.cell (p := ⟨br, 1, none⟩) l1).trans r1, (hb.cell (p := ⟨br, 2, none⟩) l1).trans r2, (hb.cell (p := ⟨ba, 0, none⟩) l2).trans a0, (hb.cell (p := ⟨ba, 1, none⟩) l2).trans a1, (hb.cell (p := ⟨ba, 2, none⟩) l2).trans a2, (hb.cell (p := ⟨bb, 0, none⟩) l4).trans b0, (hb.cell (p := ⟨bb, 1, none⟩) l4).trans b1, (hb.cell (p := ⟨bb, 2, none⟩) l4).trans b2, (hb.cell (p := ⟨bi, 0, none⟩) l3).trans i0, (hb.cell (p := ⟨bj, 0, none⟩) l5).trans j0, (hb.cell (p := ⟨gi, j, none⟩) l6).trans x0, (hb.cell (p := ⟨gj, j, none⟩) l7).trans y0⟩)
  obtain ⟨E1, hx⟩ : ∃ l, l = getL wd X oa := ⟨_, rfl⟩
  obtain ⟨E2, hy⟩ : ∃ l, l = getL wd X' ob := ⟨_, rfl⟩
  rw [← hx] at HX HE1 ⊢
  rw [← hy] at HY HE2 ⊢
  clear hc hcells ha hu hB hr hw hw1 hw2 hN hN' hX hY wX wY hoa hob hja hjb hx hy hb HTR
  have HB1 := Lib.hid ((Below.refl W.heap.size W).drew)
  obtain ⟨r0, r1, r2, a0, a1, a2, b0, b1, b2, i0, j0, x0, y0⟩ := HC.out _ HB1.out
  have TK1 : True := trivial
  have TK2 : True := trivial
  go_enter Tryz.func58, Tryz.ntmps58
  go_wp2
  go_region_held3 (fun W => (W.cell? ⟨br, 0, none⟩ = some (.int .i64 k) ∧ W.cell? ⟨br, 1, none⟩ = some (.int .i64 p) ∧ W.cell? ⟨br, 2, none⟩ = some (.int .i64 q) ∧ W.cell? ⟨ba, 0, none⟩ = some lv ∧ W.cell? ⟨ba, 1, none⟩ = some dv ∧ W.cell? ⟨ba, 2, none⟩ = some xv ∧ W.cell? ⟨bb, 0, none⟩ = some lu ∧ W.cell? ⟨bb, 1, none⟩ = some du ∧ W.cell? ⟨bb, 2, none⟩ = some xu ∧ W.cell? ⟨bi, 0, none⟩ = some (.slice (some ⟨gi, 0, none⟩) ni ci) ∧ W.cell? ⟨bj, 0, none⟩ = some (.slice (some ⟨gj, 0, none⟩) nj cj) ∧ W.cell? ⟨gi, j, none⟩ = some (.int .i64 oa) ∧ W.cell? ⟨gj, j, none⟩ = some (.int .i64 ob))) (exact ⟨r0, r1, r2, a0, a1, a2, b0, b1, b2, i0, j0, x0, y0⟩) (first
    | (go_at_call 47; have _t := TK1; refine (HE1.out _ HB1.out).mono ?_; rintro e w2 ⟨v1, rfl, hv, hb⟩; have RX := Lib.hid hv; have HB2 := Lib.hid (HB1.out.trans (hb.mono HB1.out.size)); clear hv hb TK1 _t r0 r1 r2 a0 a1 a2 b0 b1 b2 i0 j0 x0 y0; obtain ⟨r0, r1, r2, a0, a1, a2, b0, b1, b2, i0, j0, x0, y0⟩ := HC.out _ HB2.out)
    | (go_at_call 47; have _t := TK2; refine (HE2.out _ HB2.out).mono ?_; rintro e w3 ⟨v2, rfl, hv, hb⟩; have RY := Lib.hid hv; have RX3 := Lib.hid (RX.out.below hb (Nat.le_trans HBB.out HB2.out.size)); have HB3 := Lib.hid (HB2.out.trans (hb.mono HB2.out.size)); clear hv hb TK2 _t r0 r1 r2 a0 a1 a2 b0 b1 b2 i0 j0 x0 y0; obtain ⟨r0, r1, r2, a0, a1, a2, b0, b1, b2, i0, j0, x0, y0⟩ := HC.out _ HB3.out)
    | (go_at_call 59; refine (times_impl HR.out RX3.out RY.out (Nat.le_trans HBB.out HB3.out.size) HX.out HY.out).mono ?_; rintro e w4 ⟨v3, rfl, ho, hb⟩; have HO := Lib.hid ((OwnG.one ho).wide HB3.out.size (Nat.le_refl _) (Nat.le_refl _)).row; have HB4 := Lib.hid (HB3.out.trans (hb.mono HB3.out.size)); clear ho hb r0 r1 r2 a0 a1 a2 b0 b1 b2 i0 j0 x0 y0; obtain ⟨r0, r1, r2, a0, a1, a2, b0, b1, b2, i0, j0, x0, y0⟩ := HC.out _ HB4.out))
  clear r0 r1 r2 a0 a1 a2 b0 b1 b2 i0 j0 x0 y0
  go_wp2
  go_ret
  exact ⟨_, rfl, HO.out, HB4.out⟩

end Go.Proofs.YtceidekfcnmeaaaGreat
namespace Go.Proofs.YtceidekfcnmeaaaGreat
set_option maxRecDepth 20000
open Go.RowKit

end Go.Proofs.YtceidekfcnmeaaaGreat
namespace Go.Proofs.YtceidekfcnmeaaaGreat
set_option maxRecDepth 20000
open Go.RowKit

theorem pairB_fit {k p q : Int} {L D X L' D' X' keep : List Int} (h1 : tensorB k p q L D X = true) (h2 : tensorB k p q L' D' X' = true) (hf : FitV L D L' D') (hp : prodL (joinD L D L' D') ≤ 65536) : pairB k p q L D X L' D' X' keep = zeroTenB k p q (keepL (joinL L L') keep) (keepD (joinL L L') (joinD L D L' D') keep) := by
  unfold pairB pfB smallB zeroTenB
  rw [h1, h2, fitV_true.2 hf, decide_eq_true hp, (tensorB_inv h1).1]
  simp
set_option maxHeartbeats 6400000 in
theorem contract_pair_impl {B B' B'' : Nat} {lv dv xv lu du xu kv : Value} {k p q : Int} {L D X L' D' X' keep : List Int} {w : World} (ha : RdT B w lv dv xv L D X) (hb : RdT B' w lu du xu L' D' X') (hk : Rd B'' w kv (ints keep)) (hB : B ≤ w.heap.size) (hB' : B' ≤ w.heap.size) (hB'' : B'' ≤ w.heap.size) (hn : LenT L D X) (hn' : LenT L' D' X') (hkl : keep.length ≤ 281474976710656) (hI : allI L) (hJ : allI L') :
    Calls Tryz.prog 21 #[ringV k p q, tenV lv dv xv, tenV lu du xu, kv] w (NewTen2 w (if pairB k p q L D X L' D' X' keep = true then keepL (joinL L L') keep else []) (if pairB k p q L D X L' D' X' keep = true then keepD (joinL L L') (joinD L D L' D') keep else []) (if pairB k p q L D X L' D' X' keep = true then pairL k p q L D X L' D' X' keep else []) (pairB k p q L D X L' D' X' keep)) := by
  have HA : Hid (RdT w.heap.size w lv dv xv L D X) := Lib.hid ⟨ha.l.mono hB, ha.d.mono hB, ha.x.mono hB⟩
  have HU : Hid (RdT w.heap.size w lu du xu L' D' X') := Lib.hid ⟨hb.l.mono hB', hb.d.mono hB', hb.x.mono hB'⟩
  have HK : Hid (Rd w.heap.size w kv (ints keep)) := Lib.hid (hk.mono hB'')
  obtain ⟨al, cl, rfl, -⟩ := ints_form ha.l
  obtain ⟨ad, cd, rfl, -⟩ := ints_form ha.d
  obtain ⟨ax, cx, rfl, -⟩ := ints_form ha.x
  obtain ⟨bl, kl, rfl, -⟩ := ints_form hb.l
  obtain ⟨bd, kd, rfl, -⟩ := ints_form hb.d
  obtain ⟨bx, kx, rfl, -⟩ := ints_form hb.x
  obtain ⟨ak, ck, rfl, -⟩ := ints_form hk
  generalize L.length = m1 at HA ⊢
  generalize D.length = m2 at HA ⊢
  generalize X.length = m3 at HA ⊢
  generalize L'.length = m4 at HU ⊢
  generalize D'.length = m5 at HU ⊢
  generalize X'.length = m6 at HU ⊢
  obtain ⟨mk, hmk⟩ : ∃ m, m = keep.length := ⟨_, rfl⟩
  rw [← hmk] at HK ⊢
  have S0 : Hid (Rs w ((((w.alloc (.cells #[.int .i64 k, .int .i64 p, .int .i64 q] 24)).alloc (.cells #[.slice al m1 cl, .slice ad m2 cd, .slice ax m3 cx] 28)).alloc (.cells #[.slice bl m4 kl, .slice bd m5 kd, .slice bx m6 kx] 28)).alloc (.cells #[nilV, nilV, nilV] 28)) [(w.heap.size + 1 + 1 + 1, nilV, nilV, nilV), (w.heap.size + 1 + 1, .slice bl m4 kl, .slice bd m5 kd, .slice bx m6 kx), (w.heap.size + 1, .slice al m1 cl, .slice ad m2 cd, .slice ax m3 cx), (w.heap.size, .int .i64 k, .int .i64 p, .int .i64 q)] []) := by
    have h := ((((Rs.start w).box (.int .i64 k) (.int .i64 p) (.int .i64 q) 24).box (.slice al m1 cl) (.slice ad m2 cd) (.slice ax m3 cx) 28).box (.slice bl m4 kl) (.slice bd m5 kd) (.slice bx m6 kx) 28).box nilV nilV nilV 28
    simp only [World.size_alloc] at h
    exact h
  have HT1 := Lib.hid (tensor_ok_impl (k := k) (p := p) (n := q) (HA.out.below S0.out.bel (Nat.le_refl _)) S0.out.bel.size hn hI)
  have HT2 := Lib.hid (fun (W : World) (hb : Below w.heap.size w W) => tensor_ok_impl (k := k) (p := p) (n := q) (HU.out.below hb (Nat.le_refl _)) hb.size hn' hJ)
  obtain ⟨zb, hzb⟩ : ∃ z, z = pairB k p q L D X L' D' X' keep := ⟨_, rfl⟩
  rw [← hzb]
  obtain ⟨zl, hzl⟩ : ∃ l, l = if zb = true then keepL (joinL L L') keep else [] := ⟨_, rfl⟩
  obtain ⟨zd, hzd⟩ : ∃ l, l = if zb = true then keepD (joinL L L') (joinD L D L' D') keep else [] := ⟨_, rfl⟩
  obtain ⟨zx, hzx⟩ : ∃ l, l = if zb = true then pairL k p q L D X L' D' X' keep else [] := ⟨_, rfl⟩
  rw [← hzl, ← hzd, ← hzx]
  have HZL := Lib.hid hzl
  have HZD := Lib.hid hzd
  have HZX := Lib.hid hzx
  obtain ⟨t1b, ht1⟩ : ∃ z, z = tensorB k p q L D X := ⟨_, rfl⟩
  obtain ⟨t2b, ht2⟩ : ∃ z, z = tensorB k p q L' D' X' := ⟨_, rfl⟩
  rw [← ht1] at HT1
  rw [← ht2] at HT2
  have HC : Hid (∀ W rs, Rs w W [(w.heap.size + 1 + 1 + 1, nilV, nilV, nilV), (w.heap.size + 1 + 1, .slice bl m4 kl, .slice bd m5 kd, .slice bx m6 kx), (w.heap.size + 1, .slice al m1 cl, .slice ad m2 cd, .slice ax m3 cx), (w.heap.size, .int .i64 k, .int .i64 p, .int .i64 q)] rs → (W.cell? ⟨w.heap.size, 0, none⟩ = some (.int .i64 k) ∧ W.cell? ⟨w.heap.size, 1, none⟩ = some (.int .i64 p) ∧ W.cell? ⟨w.heap.size, 2, none⟩ = some (.int .i64 q) ∧ W.cell? ⟨w.heap.size + 1, 0, none⟩ = some (.slice al m1 cl) ∧ W.cell? ⟨w.heap.size + 1, 1, none⟩ = some (.slice ad m2 cd) ∧ W.cell? ⟨w.heap.size + 1, 2, none⟩ = some (.slice ax m3 cx) ∧ W.cell? ⟨w.heap.size + 1 + 1, 0, none⟩ = some (.slice bl m4 kl) ∧ W.cell? ⟨w.heap.size + 1 + 1, 1, none⟩ = some (.slice bd m5 kd) ∧ W.cell? ⟨w.heap.size + 1 + 1, 2, none⟩ = some (.slice bx m6 kx)) ∧ 0 < W.heap.size) := Lib.hid (fun W rs h => by
    obtain ⟨⟨r0, r1, r2⟩, -⟩ := h.at (r := w.heap.size) (a := .int .i64 k) (b := .int .i64 p) (c := .int .i64 q) (by simp)
    obtain ⟨⟨a0, a1, a2⟩, -⟩ := h.at (r := w.heap.size + 1) (a := .slice al m1 cl) (b := .slice ad m2 cd) (c := .slice ax m3 cx) (by simp)
    obtain ⟨⟨b0, b1, b2⟩, -⟩ := h.at (r := w.heap.size + 1 + 1) (a := .slice bl m4 kl) (b := .slice bd m5 kd) (c := .slice bx m6 kx) (by simp)
    exact ⟨⟨r0, r1, r2, a0, a1, a2, b0, b1, b2⟩, by have h2 := (h.bx (w.heap.size, .int .i64 k, .int .i64 p, .int .i64 q) (by simp)).lt; exact Nat.lt_of_le_of_lt (Nat.zero_le _) h2⟩)
  clear ha hb hk hB hB' hB'' hn hn' hI hzl hzd hzx
  obtain ⟨⟨r0, r1, r2, a0, a1, a2, b0, b1, b2⟩, s0⟩ := HC.out _ _ S0.out
  cases t1b with
  | false =>
    obtain rfl : zb = false := by rw [hzb]; unfold pairB; rw [← ht1]; simp
    clear hzb ht1 ht2 hJ
    obtain rfl : zl = [] := by rw [HZL.out]; simp
    obtain rfl : zd = [] := by rw [HZD.out]; simp
    obtain rfl : zx = [] := by rw [HZX.out]; simp
    go_enter Tryz.func21, Tryz.ntmps21
    go_wp2_with fail
    refine HT1.out.mono ?_
    rintro e w1 ⟨rfl, hb⟩
    have S1 := Lib.hid (S0.out.step hb)
    clear hb HT1 r0 r1 r2 a0 a1 a2 b0 b1 b2 s0 S0
    obtain ⟨⟨t0, t1, t2⟩, f0, f1, f2⟩ := S1.out.at (r := w.heap.size + 1 + 1 + 1) (a := nilV) (b := nilV) (c := nilV) (by simp)
    go_wp2
    refine bodyPost_ret (v := .tuple #[tenV nilV nilV nilV, .bool false]) (by simp [results, Tryz.results21, go_sem, t0, t1, t2]) rfl ?_
    exact NewTen2.nils (((S1.out.bel.setCell (by show w.heap.size ≤ w.heap.size + 1 + 1 + 1; omega) _).setCell (by show w.heap.size ≤ w.heap.size + 1 + 1 + 1; omega) _).setCell (by show w.heap.size ≤ w.heap.size + 1 + 1 + 1; omega) _)
  | true =>
    cases t2b with
    | false =>
      obtain rfl : zb = false := by rw [hzb]; unfold pairB; rw [← ht2]; simp
      clear hzb ht1 ht2 hJ
      obtain rfl : zl = [] := by rw [HZL.out]; simp
      obtain rfl : zd = [] := by rw [HZD.out]; simp
      obtain rfl : zx = [] := by rw [HZX.out]; simp
      go_enter Tryz.func21, Tryz.ntmps21
      go_wp2_with fail
      refine HT1.out.mono ?_
      rintro e w1 ⟨rfl, hb⟩
      have S1 := Lib.hid (S0.out.step hb)
      clear hb HT1 r0 r1 r2 a0 a1 a2 b0 b1 b2 s0 S0
      obtain ⟨⟨r0, r1, r2, a0, a1, a2, b0, b1, b2⟩, s0⟩ := HC.out _ _ S1.out
      go_wp2_with fail
      refine (HT2.out _ S1.out.bel).mono ?_
      rintro e w2 ⟨rfl, hb⟩
      have S2 := Lib.hid (S1.out.step hb)
      clear hb HT2 r0 r1 r2 a0 a1 a2 b0 b1 b2 s0 S1
      obtain ⟨⟨t0, t1, t2⟩, f0, f1, f2⟩ := S2.out.at (r := w.heap.size + 1 + 1 + 1) (a := nilV) (b := nilV) (c := nilV) (by simp)
      go_wp2
      refine bodyPost_ret (v := .tuple #[tenV nilV nilV nilV, .bool false]) (by simp [results, Tryz.results21, go_sem, t0, t1, t2]) rfl ?_
      exact NewTen2.nils (((S2.out.bel.setCell (by show w.heap.size ≤ w.heap.size + 1 + 1 + 1; omega) _).setCell (by show w.heap.size ≤ w.heap.size + 1 + 1 + 1; omega) _).setCell (by show w.heap.size ≤ w.heap.size + 1 + 1 + 1; omega) _)
    | true =>
      have hax := tensor_axes ht1.symm
      have hax' := tensor_axes ht2.symm
      have hrb := (tensorB_inv ht1.symm).1
      obtain ⟨wd, hw, hw1, hw6⟩ := width_pos hrb
      have hF1 := TenF.of ht1.symm hw
      have hF2 := TenF.of ht2.symm hw
      have hp1 : 1 ≤ prodL D ∧ prodL D ≤ 4096 := by have h1 := hF1.pr; have h2 := hF1.n1; omega
      have hp2 : prodL D' ≤ 4096 := by have h1 := hF2.pr; have h2 := hF2.n1; omega
      have hjp := join_prod hax hax' hp1 hp2
      have HX1 := Lib.hid (fun (W : World) (hb : Below w.heap.size w W) (h0 : 0 < W.heap.size) => axes_impl (HA.out.below hb (Nat.le_refl _)) hb.size h0 hax.2.1 hax.1 hax.2.2.2.1 hp1.2)
      have HX2 := Lib.hid (fun (W : World) (hb : Below w.heap.size w W) (h0 : 0 < W.heap.size) => axes_impl (HU.out.below hb (Nat.le_refl _)) hb.size h0 hax'.2.1 hax'.1 hax'.2.2.2.1 hp2)
      have TK1 : True := trivial
      have TK2 : True := trivial
      by_cases hf : FitV L D L' D'
      · have HJN := Lib.hid (fun (W : World) (u v : Value) (B B' : Nat) (ha : RdA B W u (axesL L D)) (hb : RdA B' W v (axesL L' D')) (hB : B ≤ W.heap.size) (hB' : B' ≤ W.heap.size) => join_ten_yes hax hax' hf ha hb hB hB')
        have HCT := Lib.hid (fun (W : World) (v : Value) (B : Nat) (ha : RdA B W v (axJ (joinL L L') (dimJ L D L' D') (stepI L D))) (hB : B ≤ W.heap.size) => count_impl (by rw [axJ_len]; have h1 := join_len L L'; have h2 := hax.1; have h3 := hax'.1; omega) (by rw [axJ_dims]; intro d hd; obtain ⟨n, hn, rfl⟩ := List.mem_map.1 hd; exact dimJ_in hax hax' n hn) (by rw [axJ_dims, joinD_map hax.2.2.2.2 hax.2.1]; omega) ha hB)
        rw [axJ_dims, joinD_map hax.2.2.2.2 hax.2.1] at HCT
        obtain ⟨pj, hpj⟩ : ∃ z, z = prodL (joinD L D L' D') := ⟨_, rfl⟩
        rw [← hpj] at HCT hjp
        by_cases hbig : 65536 < pj
        · obtain rfl : zb = false := by
            rw [hzb]; unfold pairB pfB smallB
            rw [← hpj, decide_eq_false (show ¬ pj ≤ 65536 by omega)]; simp
          clear hzb ht1 ht2 hJ hpj hax hax' hrb hw hF1 hF2 hp1 hp2 hf
          obtain rfl : zl = [] := by rw [HZL.out]; simp
          obtain rfl : zd = [] := by rw [HZD.out]; simp
          obtain rfl : zx = [] := by rw [HZX.out]; simp
          go_enter Tryz.func21, Tryz.ntmps21
          go_wp2_with fail
          refine HT1.out.mono ?_
          rintro e w1 ⟨rfl, hb⟩
          have S1 := Lib.hid (S0.out.step hb)
          clear hb HT1 r0 r1 r2 a0 a1 a2 b0 b1 b2 s0 S0
          obtain ⟨⟨r0, r1, r2, a0, a1, a2, b0, b1, b2⟩, s0⟩ := HC.out _ _ S1.out
          go_wp2_with fail
          refine (HT2.out _ S1.out.bel).mono ?_
          rintro e w2 ⟨rfl, hb⟩
          have S2 := Lib.hid (S1.out.step hb).drew
          clear hb HT2 r0 r1 r2 a0 a1 a2 b0 b1 b2 s0 S1
          obtain ⟨⟨r0, r1, r2, a0, a1, a2, b0, b1, b2⟩, s0⟩ := HC.out _ _ S2.out
          go_wp2_with fail
          go_region_held3 (fun W => (W.cell? ⟨w.heap.size, 0, none⟩ = some (.int .i64 k) ∧ W.cell? ⟨w.heap.size, 1, none⟩ = some (.int .i64 p) ∧ W.cell? ⟨w.heap.size, 2, none⟩ = some (.int .i64 q) ∧ W.cell? ⟨w.heap.size + 1, 0, none⟩ = some (.slice al m1 cl) ∧ W.cell? ⟨w.heap.size + 1, 1, none⟩ = some (.slice ad m2 cd) ∧ W.cell? ⟨w.heap.size + 1, 2, none⟩ = some (.slice ax m3 cx) ∧ W.cell? ⟨w.heap.size + 1 + 1, 0, none⟩ = some (.slice bl m4 kl) ∧ W.cell? ⟨w.heap.size + 1 + 1, 1, none⟩ = some (.slice bd m5 kd) ∧ W.cell? ⟨w.heap.size + 1 + 1, 2, none⟩ = some (.slice bx m6 kx))) (exact ⟨r0, r1, r2, a0, a1, a2, b0, b1, b2⟩) (first
          | (go_at_call 50; have _t := TK1; refine (HX1.out _ S2.out.bel s0).mono ?_; rintro e w3 ⟨vA, rfl, ho, hb⟩; have RA := Lib.hid ho.rd; have S3 := Lib.hid (S2.out.step hb); clear ho hb TK1 _t r0 r1 r2 a0 a1 a2 b0 b1 b2 s0; obtain ⟨⟨r0, r1, r2, a0, a1, a2, b0, b1, b2⟩, s0⟩ := HC.out _ _ S3.out)
          | (go_at_call 50; have _t := TK2; refine (HX2.out _ S3.out.bel s0).mono ?_; rintro e w4 ⟨vB, rfl, ho, hb⟩; have RB := Lib.hid ho.rd; have RA4 := Lib.hid (RA.out.below hb (Nat.le_refl _)); have HLE := Lib.hid hb.size; have S4 := Lib.hid (S3.out.step hb); clear ho hb TK2 _t r0 r1 r2 a0 a1 a2 b0 b1 b2 s0; obtain ⟨⟨r0, r1, r2, a0, a1, a2, b0, b1, b2⟩, s0⟩ := HC.out _ _ S4.out)
          | (go_at_call 55; refine (HJN.out _ _ _ _ _ RA4.out RB.out HLE.out (Nat.le_refl _)).mono ?_; rintro e w5 ⟨vx, vy, rfl, hox, hoy, hb⟩; have RX := Lib.hid hox.rd; have RY := Lib.hid hoy.rd; have S5 := Lib.hid (S4.out.step hb); clear hox hoy hb r0 r1 r2 a0 a1 a2 b0 b1 b2 s0; obtain ⟨⟨r0, r1, r2, a0, a1, a2, b0, b1, b2⟩, s0⟩ := HC.out _ _ S5.out))
          clear r0 r1 r2 a0 a1 a2 b0 b1 b2 s0 HX1 HX2 HJN
          go_wp2_with fail
          refine (HCT.out _ _ _ RX.out (Nat.le_refl _)).mono ?_
          rintro e w6 ⟨rfl, hb⟩
          have S6 := Lib.hid (S5.out.step hb)
          clear hb HCT
          obtain ⟨⟨t0, t1, t2⟩, f0, f1, f2⟩ := S6.out.at (r := w.heap.size + 1 + 1 + 1) (a := nilV) (b := nilV) (c := nilV) (by simp)
          go_wp2
          refine bodyPost_ret (v := .tuple #[tenV nilV nilV nilV, .bool false]) (by simp [results, Tryz.results21, go_sem, t0, t1, t2]) rfl ?_
          exact NewTen2.nils (((S6.out.bel.setCell (by show w.heap.size ≤ w.heap.size + 1 + 1 + 1; omega) _).setCell (by show w.heap.size ≤ w.heap.size + 1 + 1 + 1; omega) _).setCell (by show w.heap.size ≤ w.heap.size + 1 + 1 + 1; omega) _)
        · obtain ⟨N, hN⟩ : ∃ N : Nat, pj = (N : Int) := ⟨pj.toNat, by omega⟩
          subst hN
          have hN6 : N ≤ 65536 := by omega
          obtain ⟨J, hJ2⟩ : ∃ l, l = joinL L L' := ⟨_, rfl⟩
          obtain ⟨JD, hJD⟩ : ∃ l, l = joinD L D L' D' := ⟨_, rfl⟩
          obtain ⟨dJ, hdJ⟩ : ∃ f, f = dimJ L D L' D' := ⟨_, rfl⟩
          have hjm := joinD_map (L' := L') (D' := D') hax.2.2.2.2 hax.2.1
          have hnd := join_nodup hax.2.2.2.2 hax'.2.2.2.2
          have hj24 : (joinL L L').length ≤ 24 := by have h1 := join_len L L'; have h2 := hax.1; have h3 := hax'.1; omega
          have hdin := dimJ_in hax hax'
          have hall : allI (joinL L L') := fun z hz => by
            rcases List.mem_append.1 hz with h | h
            · have h1 := hax.2.2.1 z h; unfold inI; omega
            · exact hJ z (rest_sub h).1
          have hs1 := SubAx.left (L' := L') (D' := D') hax.2.2.2.2 hax.2.1
          have hs2 := SubAx.right hax.2.1 hax'.2.2.2.2 hax'.2.1 hf
          have hjge : ∀ x ∈ joinD L D L' D', 1 ≤ x := fun x hx => (joinD_in hax'.2.1 hax.2.2.2.1 hax'.2.2.2.1 x hx).1
          have hjl : (joinL L L').length = (joinD L D L' D').length := (joinD_len hax.2.1).symm
          have hof1 := offs_steps hs1 hjm hnd hF1.dim hjge
          have hof2 := offs_steps hs2 hjm hnd hF2.dim hjge
          have hpa1 := joinA_pa (L1 := L) hax hax' hF1.dim hp1.2 (by rw [← hpj]; omega)
          have hpa2 := joinA_pa (L1 := L') hax hax' hF2.dim hp2 (by rw [← hpj]; omega)
          have hlt1 : ∀ c, offJ L D (joinL L L') (joinD L D L' D') c < (prodL D).toNat := fun c => by have h := (hs1.off hjl hF1.dim hjge hnd c).2; omega
          have hlt2 : ∀ c, offJ L' D' (joinL L L') (joinD L D L' D') c < (prodL D').toNat := fun c => by have h := (hs2.off hjl hF2.dim hjge hnd c).2; omega
          have hkd := keepD_map (J := joinL L L') (d := dimJ L D L' D') keep
          rw [hjm] at hkd
          have hzb2 : zb = zeroTenB k p q (keepL (joinL L L') keep) ((keepL (joinL L L') keep).map (dimJ L D L' D')) := by
            rw [hzb, pairB_fit ht1.symm ht2.symm hf (by rw [← hpj]; omega), hkd]
          have hzx2 : zx = if zb = true then accL k p q (offJ (keepL (joinL L L') keep) ((keepL (joinL L L') keep).map (dimJ L D L' D')) (joinL L L') (joinD L D L' D')) (termJ k p wd L D X L' D' X' (joinL L L') (joinD L D L' D')) (prodL ((keepL (joinL L L') keep).map (dimJ L D L' D'))).toNat N else [] := by
            rw [HZX.out]
            unfold pairL
            rw [hkd, hw, Int.toNat_natCast, ← hpj, Int.toNat_natCast]
          have hzd2 : zd = if zb = true then (keepL (joinL L L') keep).map (dimJ L D L' D') else [] := by rw [HZD.out, hkd]
          have hzl2 := HZL.out
          have hte : ∀ c, ElemV k p q (termJ k p wd L D X L' D' X' (joinL L L') (joinD L D L' D') c) := fun c => termJ_elem hrb hw hF1.lX hF2.lX hF1.wX hF2.wX (hlt1 c) (hlt2 c)
          have hpn : prodL (joinD L D L' D') = (N : Int) := hpj.symm
          rw [hpn, Int.toNat_natCast] at hof1 hof2
          rw [← hJ2] at hjm hnd hj24 hdin hall hof1 hof2 hpa1 hpa2 hlt1 hlt2 hzb2 hzx2 hzd2 hzl2 hte HJN HCT
          rw [← hJD] at hjm hof1 hof2 hlt1 hlt2 hzx2 hte hpn
          rw [← hdJ] at hjm hdin hof1 hof2 hpa1 hpa2 hzb2 hzx2 hzd2 HJN HCT
          have HSO := Lib.hid (fun (W : World) (B B' K : Nat) (av kv c1 c2 c3 c4 c5 : Value) (sJ : Int → Int) (ha : RdA B W av (axJ J dJ sJ)) (hk : Rd B' W kv (ints keep)) (hB : B ≤ W.heap.size) (hB' : B' ≤ W.heap.size) (hK : ∀ (args : Array Value) (w : World), (callFunc K args).run Tryz.prog w = .ok (.enter K args) w) (hG : ∀ (j : Nat) (V : World), j < N → Below W.heap.size W V → Calls Tryz.prog K #[.int .i64 j, c1, c2, c3, c4, c5] V (ClosF W V (termJ k p wd L D X L' D' X' J JD j))) => sum_over5 (K := K) (wd := wd) dJ sJ hrb hw hnd hj24 hall hdin (by rw [hjm]; exact hpn) hN6 (by exact hkl) ha hk hB hB' hK (fun j _ => hte j) hG)
          rw [hjm, ← hzb2, ← hzl2, ← hzd2, ← hzx2] at HSO
          have HO1 := Lib.hid (fun (W : World) (v : Value) (B : Nat) (ha : RdA B W v (axJ J dJ (stepI L D))) (hB : B ≤ W.heap.size) => offsets_impl hpa1 ha hB)
          have HO2 := Lib.hid (fun (W : World) (v : Value) (B : Nat) (ha : RdA B W v (axJ J dJ (stepI L' D'))) (hB : B ≤ W.heap.size) => offsets_impl hpa2 ha hB)
          rw [hof1] at HO1
          rw [hof2] at HO2
          obtain ⟨O1, hO1⟩ : ∃ l, l = (List.range N).map fun c : Nat => (offJ L D J JD c : Int) := ⟨_, rfl⟩
          obtain ⟨O2, hO2⟩ : ∃ l, l = (List.range N).map fun c : Nat => (offJ L' D' J JD c : Int) := ⟨_, rfl⟩
          rw [← hO1] at HO1
          rw [← hO2] at HO2
          have HOL : Hid (O1.length = N ∧ O2.length = N) := Lib.hid ⟨by rw [hO1]; simp, by rw [hO2]; simp⟩
          have HOA : Hid (∀ c, c < N → O1[c]? = some (offJ L D J JD c : Int) ∧ O2[c]? = some (offJ L' D' J JD c : Int)) := Lib.hid (fun c hc => ⟨by rw [hO1, List.getElem?_map, List.getElem?_range hc]; rfl, by rw [hO2, List.getElem?_map, List.getElem?_range hc]; rfl⟩)
          have HRB := Lib.hid hrb
          have HW := Lib.hid hw
          have HF1 := Lib.hid hF1
          have HF2 := Lib.hid hF2
          have HL1 := Lib.hid hlt1
          have HL2 := Lib.hid hlt2
          have hNN : 0 < N := by omega
          clear hzb hzb2 hzx2 hzd2 hzl2 ht1 ht2 hJ hpj hax hax' hrb hw hF1 hF2 hp1 hp2 hf hjm hnd hj24 hdin hall hof1 hof2 hpa1 hpa2 hlt1 hlt2 hte hpn hs1 hs2 hjge hjl hkd hO1 hO2 hJ2 hJD hdJ hkl
          go_enter Tryz.func21, Tryz.ntmps21
          go_wp2_with fail
          refine HT1.out.mono ?_
          rintro e w1 ⟨rfl, hb⟩
          have S1 := Lib.hid (S0.out.step hb)
          clear hb HT1 r0 r1 r2 a0 a1 a2 b0 b1 b2 s0 S0
          obtain ⟨⟨r0, r1, r2, a0, a1, a2, b0, b1, b2⟩, s0⟩ := HC.out _ _ S1.out
          go_wp2_with fail
          refine (HT2.out _ S1.out.bel).mono ?_
          rintro e w2 ⟨rfl, hb⟩
          have S2 := Lib.hid (S1.out.step hb).drew
          clear hb HT2 r0 r1 r2 a0 a1 a2 b0 b1 b2 s0 S1
          obtain ⟨⟨r0, r1, r2, a0, a1, a2, b0, b1, b2⟩, s0⟩ := HC.out _ _ S2.out
          go_wp2_with fail
          go_region_held3 (fun W => (W.cell? ⟨w.heap.size, 0, none⟩ = some (.int .i64 k) ∧ W.cell? ⟨w.heap.size, 1, none⟩ = some (.int .i64 p) ∧ W.cell? ⟨w.heap.size, 2, none⟩ = some (.int .i64 q) ∧ W.cell? ⟨w.heap.size + 1, 0, none⟩ = some (.slice al m1 cl) ∧ W.cell? ⟨w.heap.size + 1, 1, none⟩ = some (.slice ad m2 cd) ∧ W.cell? ⟨w.heap.size + 1, 2, none⟩ = some (.slice ax m3 cx) ∧ W.cell? ⟨w.heap.size + 1 + 1, 0, none⟩ = some (.slice bl m4 kl) ∧ W.cell? ⟨w.heap.size + 1 + 1, 1, none⟩ = some (.slice bd m5 kd) ∧ W.cell? ⟨w.heap.size + 1 + 1, 2, none⟩ = some (.slice bx m6 kx))) (exact ⟨r0, r1, r2, a0, a1, a2, b0, b1, b2⟩) (first
          | (go_at_call 50; have _t := TK1; refine (HX1.out _ S2.out.bel s0).mono ?_; rintro e w3 ⟨vA, rfl, ho, hb⟩; have RA := Lib.hid ho.rd; have S3 := Lib.hid (S2.out.step hb); clear ho hb TK1 _t r0 r1 r2 a0 a1 a2 b0 b1 b2 s0; obtain ⟨⟨r0, r1, r2, a0, a1, a2, b0, b1, b2⟩, s0⟩ := HC.out _ _ S3.out)
          | (go_at_call 50; have _t := TK2; refine (HX2.out _ S3.out.bel s0).mono ?_; rintro e w4 ⟨vB, rfl, ho, hb⟩; have RB := Lib.hid ho.rd; have RA4 := Lib.hid (RA.out.below hb (Nat.le_refl _)); have HLE := Lib.hid hb.size; have S4 := Lib.hid (S3.out.step hb); clear ho hb TK2 _t r0 r1 r2 a0 a1 a2 b0 b1 b2 s0; obtain ⟨⟨r0, r1, r2, a0, a1, a2, b0, b1, b2⟩, s0⟩ := HC.out _ _ S4.out)
          | (go_at_call 55; refine (HJN.out _ _ _ _ _ RA4.out RB.out HLE.out (Nat.le_refl _)).mono ?_; rintro e w5 ⟨vx, vy, rfl, hox, hoy, hb⟩; have RX := Lib.hid hox.rd; have RY := Lib.hid hoy.rd; have S5 := Lib.hid (S4.out.step hb); clear hox hoy hb r0 r1 r2 a0 a1 a2 b0 b1 b2 s0; obtain ⟨⟨r0, r1, r2, a0, a1, a2, b0, b1, b2⟩, s0⟩ := HC.out _ _ S5.out))
          clear r0 r1 r2 a0 a1 a2 b0 b1 b2 s0 HX1 HX2 HJN
          go_wp2_with fail
          refine (HCT.out _ _ _ RX.out (Nat.le_refl _)).mono ?_
          rintro e w6 ⟨rfl, hb⟩
          have S6 := Lib.hid (S5.out.step hb)
          have RX6 := Lib.hid (RX.out.below hb (Nat.le_refl _))
          have RY6 := Lib.hid (RY.out.below hb (Nat.le_refl _))
          have HL6 := Lib.hid hb.size
          clear hb HCT
          go_wp2_with fail
          refine (HO1.out _ _ _ RX6.out HL6.out).mono ?_
          rintro e w7 ⟨v1, rfl, ho, hb⟩
          obtain ⟨p1, d1, rfl, -⟩ := ints_form ho.rd
          have S7 := Lib.hid (S6.out.new hb ho)
          rw [HOL.out.1] at S7 ⊢
          have RX7 := Lib.hid (RX6.out.below hb HL6.out)
          have RY7 := Lib.hid (RY6.out.below hb HL6.out)
          have HL7 := Lib.hid (Nat.le_trans HL6.out hb.size)
          clear ho hb HO1
          go_wp2_with fail
          refine (HO2.out _ _ _ RY7.out HL7.out).mono ?_
          rintro e w8 ⟨v2, rfl, ho, hb⟩
          obtain ⟨p2, d2, rfl, -⟩ := ints_form ho.rd
          have S8 := Lib.hid (S7.out.new hb ho)
          rw [HOL.out.2] at S8 ⊢
          have RX8 := Lib.hid (RX7.out.below hb HL7.out)
          have HL8 := Lib.hid (Nat.le_trans HL7.out hb.size)
          clear ho hb HO2
          obtain ⟨g1, rfl, -, hg1, hc1, -⟩ := (S8.out.own1 (v := .slice p1 N d1) (xs := O1) (by simp)).slot HOL.out.1 hNN
          obtain ⟨g2, rfl, -, hg2, hc2, -⟩ := (S8.out.own1 (v := .slice p2 N d2) (xs := O2) (by simp)).slot HOL.out.2 hNN
          have HC1 := Lib.hid hc1
          have HC2 := Lib.hid hc2
          clear hc1 hc2
          obtain ⟨W9, hW9⟩ : ∃ W, W = (w8.alloc (.cells #[.slice (some ⟨g1, 0, none⟩) N d1] 26)).alloc (.cells #[.slice (some ⟨g2, 0, none⟩) N d2] 26) := ⟨_, rfl⟩
          have hb9 : Below w8.heap.size w8 W9 := by rw [hW9]; exact ((Below.refl _ _).alloc (Nat.le_refl _) _).alloc (by simp) _
          have hs9 : W9.heap.size = w8.heap.size + 1 + 1 := by rw [hW9]; simp
          have hi9 : W9.cell? ⟨w8.heap.size, 0, none⟩ = some (.slice (some ⟨g1, 0, none⟩) N d1) := by rw [hW9]; simp
          have hj9 : W9.cell? ⟨w8.heap.size + 1, 0, none⟩ = some (.slice (some ⟨g2, 0, none⟩) N d2) := by
            have h := (Boxed.new (w8.alloc (.cells #[.slice (some ⟨g1, 0, none⟩) N d1] 26)) 26 (.slice (some ⟨g2, 0, none⟩) N d2)).cell
            rw [World.size_alloc] at h
            rw [hW9]; exact h
          have S9 := Lib.hid (S8.out.step hb9)
          obtain ⟨⟨r0, r1, r2, a0, a1, a2, b0, b1, b2⟩, s0⟩ := HC.out _ _ S9.out
          have hlt8 : w.heap.size + 1 + 1 + 1 < w8.heap.size := (S8.out.bx (w.heap.size + 1 + 1 + 1, nilV, nilV, nilV) (by simp)).lt
          have HLT := Lib.hid hlt8
          have HCALL := Lib.hid (HSO.out W9 w5.heap.size w.heap.size 58 vx (.slice ak keep.length ck) (.pointer (some ⟨w.heap.size, 0, none⟩)) (.pointer (some ⟨w.heap.size + 1, 0, none⟩)) (.pointer (some ⟨w8.heap.size, 0, none⟩)) (.pointer (some ⟨w.heap.size + 1 + 1, 0, none⟩)) (.pointer (some ⟨w8.heap.size + 1, 0, none⟩)) (stepI L D) (RX8.out.below hb9 HL8.out) (by rw [← hmk]; exact HK.out.below S9.out.bel (Nat.le_refl _)) (Nat.le_trans HL8.out hb9.size) S9.out.bel.size (enters_of Tryz.func58 (by kernel_rfl) rfl) (fun j V hj hV =>
            (pair_fn (br := w.heap.size) (ba := w.heap.size + 1) (bi := w8.heap.size) (bb := w.heap.size + 1 + 1) (bj := w8.heap.size + 1) (gi := g1) (gj := g2) (ni := N) (nj := N) hV (by omega)
              ⟨r0, r1, r2, a0, a1, a2, b0, b1, b2, hi9, hj9, (hb9.cell (p := ⟨g1, j, none⟩) hg1).trans (HC1.out j _ (HOA.out j hj).1), (hb9.cell (p := ⟨g2, j, none⟩) hg2).trans (HC2.out j _ (HOA.out j hj).2)⟩
              hj hj (HA.out.below S9.out.bel (Nat.le_refl _)) (HU.out.below S9.out.bel (Nat.le_refl _)) S9.out.bel.size HRB.out HW.out hw1 hw6 HF1.out.n1.2 HF2.out.n1.2 HF1.out.lX HF2.out.lX HF1.out.wX HF2.out.wX (HL1.out j) (HL2.out j)).mono fun e w' h => ClosF.new h (by
                have h1 := (termJ_elem (k := k) (p := p) (q := q) HRB.out HW.out HF1.out.lX HF2.out.lX HF1.out.wX HF2.out.wX (HL1.out j) (HL2.out j)).1
                have h2 := HW.out
                show 0 < (termJ k p wd L D X L' D' X' J JD j).length
                omega)))
          rw [hW9] at HCALL
          clear hb9 hs9 hi9 hj9 hlt8
          rw [hW9] at r0 r1 r2 a0 a1 a2 b0 b1 b2
          go_wp2_with fail
          refine HCALL.out.mono ?_
          rw [← hW9]
          rintro e w10 ⟨u1, u2, u3, rfl, ho, hb⟩
          obtain ⟨x1, n1', y1, rfl⟩ := (show Own _ _ _ u1 zl from ho.1 (u1, zl) (by simp)).slice
          obtain ⟨x2, n2', y2, rfl⟩ := (show Own _ _ _ u2 zd from ho.1 (u2, zd) (by simp)).slice
          obtain ⟨x3, n3', y3, rfl⟩ := (show Own _ _ _ u3 zx from ho.1 (u3, zx) (by simp)).slice
          have SA := Lib.hid (S9.out.step hb)
          have RA10 := Lib.hid ((Rs.start W9).new3 hb ho)
          have HL9 := Lib.hid (Nat.le_trans S8.out.bel.size (show w8.heap.size ≤ W9.heap.size by rw [hW9]; simp; omega))
          have HR9 : Hid (w.heap.size + 1 + 1 + 1 < W9.heap.size) := Lib.hid (Nat.lt_of_lt_of_le HLT.out (by rw [hW9]; simp; omega))
          clear ho hb HCALL r0 r1 r2 a0 a1 a2 b0 b1 b2 s0
          obtain ⟨⟨t0, t1, t2⟩, f0, f1, f2⟩ := SA.out.at (r := w.heap.size + 1 + 1 + 1) (a := nilV) (b := nilV) (c := nilV) (by simp)
          go_wp2
          refine bodyPost_ret (v := .tuple #[tenV (.slice x1 n1' y1) (.slice x2 n2' y2) (.slice x3 n3' y3), .bool zb]) (by simp [results, Tryz.results21, go_sem, t0, t1, t2]) rfl ?_
          have h2 := (RA10.out.ownG.set3 (r := w.heap.size + 1 + 1 + 1) HR9.out (.slice x1 n1' y1) (.slice x2 n2' y2) (.slice x3 n3' y3))
          refine ⟨_, _, _, rfl, OwnG.wide h2 HL9.out (by simp) (Nat.le_refl _), ?_⟩
          exact (((SA.out.bel.setCell (p := ⟨w.heap.size + 1 + 1 + 1, 0, none⟩) (by show w.heap.size ≤ w.heap.size + 1 + 1 + 1; omega) _).setCell (p := ⟨w.heap.size + 1 + 1 + 1, 1, none⟩) (by show w.heap.size ≤ w.heap.size + 1 + 1 + 1; omega) _).setCell (p := ⟨w.heap.size + 1 + 1 + 1, 2, none⟩) (by show w.heap.size ≤ w.heap.size + 1 + 1 + 1; omega) _)
      · obtain rfl : zb = false := by
          rw [hzb]; unfold pairB pfB
          rw [fitV_false hf]; simp
        have HJN := Lib.hid (fun (W : World) (u v : Value) (B B' : Nat) (ha : RdA B W u (axesL L D)) (hb : RdA B' W v (axesL L' D')) (hB : B ≤ W.heap.size) (hB' : B' ≤ W.heap.size) => join_ten_no hax hax' hf ha hb hB hB')
        clear hzb ht1 ht2 hJ hax hax' hrb hw hF1 hF2 hp1 hp2 hf hjp
        obtain rfl : zl = [] := by rw [HZL.out]; simp
        obtain rfl : zd = [] := by rw [HZD.out]; simp
        obtain rfl : zx = [] := by rw [HZX.out]; simp
        go_enter Tryz.func21, Tryz.ntmps21
        go_wp2_with fail
        refine HT1.out.mono ?_
        rintro e w1 ⟨rfl, hb⟩
        have S1 := Lib.hid (S0.out.step hb)
        clear hb HT1 r0 r1 r2 a0 a1 a2 b0 b1 b2 s0 S0
        obtain ⟨⟨r0, r1, r2, a0, a1, a2, b0, b1, b2⟩, s0⟩ := HC.out _ _ S1.out
        go_wp2_with fail
        refine (HT2.out _ S1.out.bel).mono ?_
        rintro e w2 ⟨rfl, hb⟩
        have S2 := Lib.hid (S1.out.step hb).drew
        clear hb HT2 r0 r1 r2 a0 a1 a2 b0 b1 b2 s0 S1
        obtain ⟨⟨r0, r1, r2, a0, a1, a2, b0, b1, b2⟩, s0⟩ := HC.out _ _ S2.out
        go_wp2_with fail
        go_region_held3 (fun W => (W.cell? ⟨w.heap.size, 0, none⟩ = some (.int .i64 k) ∧ W.cell? ⟨w.heap.size, 1, none⟩ = some (.int .i64 p) ∧ W.cell? ⟨w.heap.size, 2, none⟩ = some (.int .i64 q) ∧ W.cell? ⟨w.heap.size + 1, 0, none⟩ = some (.slice al m1 cl) ∧ W.cell? ⟨w.heap.size + 1, 1, none⟩ = some (.slice ad m2 cd) ∧ W.cell? ⟨w.heap.size + 1, 2, none⟩ = some (.slice ax m3 cx) ∧ W.cell? ⟨w.heap.size + 1 + 1, 0, none⟩ = some (.slice bl m4 kl) ∧ W.cell? ⟨w.heap.size + 1 + 1, 1, none⟩ = some (.slice bd m5 kd) ∧ W.cell? ⟨w.heap.size + 1 + 1, 2, none⟩ = some (.slice bx m6 kx))) (exact ⟨r0, r1, r2, a0, a1, a2, b0, b1, b2⟩) (first
          | (go_at_call 50; have _t := TK1; refine (HX1.out _ S2.out.bel s0).mono ?_; rintro e w3 ⟨vA, rfl, ho, hb⟩; have RA := Lib.hid ho.rd; have S3 := Lib.hid (S2.out.step hb); clear ho hb TK1 _t r0 r1 r2 a0 a1 a2 b0 b1 b2 s0; obtain ⟨⟨r0, r1, r2, a0, a1, a2, b0, b1, b2⟩, s0⟩ := HC.out _ _ S3.out)
          | (go_at_call 50; have _t := TK2; refine (HX2.out _ S3.out.bel s0).mono ?_; rintro e w4 ⟨vB, rfl, ho, hb⟩; have RB := Lib.hid ho.rd; have RA4 := Lib.hid (RA.out.below hb (Nat.le_refl _)); have HLE := Lib.hid hb.size; have S4 := Lib.hid (S3.out.step hb); clear ho hb TK2 _t r0 r1 r2 a0 a1 a2 b0 b1 b2 s0; obtain ⟨⟨r0, r1, r2, a0, a1, a2, b0, b1, b2⟩, s0⟩ := HC.out _ _ S4.out)
          | (go_at_call 55; refine (HJN.out _ _ _ _ _ RA4.out RB.out HLE.out (Nat.le_refl _)).mono ?_; rintro e w5 ⟨rfl, hb⟩; have S5 := Lib.hid (S4.out.step hb); clear hb r0 r1 r2 a0 a1 a2 b0 b1 b2 s0; obtain ⟨⟨r0, r1, r2, a0, a1, a2, b0, b1, b2⟩, s0⟩ := HC.out _ _ S5.out))
        clear r0 r1 r2 a0 a1 a2 b0 b1 b2 s0 HX1 HX2 HJN
        obtain ⟨⟨t0, t1, t2⟩, f0, f1, f2⟩ := S5.out.at (r := w.heap.size + 1 + 1 + 1) (a := nilV) (b := nilV) (c := nilV) (by simp)
        go_wp2
        refine bodyPost_ret (v := .tuple #[tenV nilV nilV nilV, .bool false]) (by simp [results, Tryz.results21, go_sem, t0, t1, t2]) rfl ?_
        exact NewTen2.nils (((S5.out.bel.setCell (by show w.heap.size ≤ w.heap.size + 1 + 1 + 1; omega) _).setCell (by show w.heap.size ≤ w.heap.size + 1 + 1 + 1; omega) _).setCell (by show w.heap.size ≤ w.heap.size + 1 + 1 + 1; omega) _)
end Go.Proofs.YtceidekfcnmeaaaGreat
