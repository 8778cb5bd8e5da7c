
/- impl.sumOver, for function values of any number; impl.indexCount. -/
import Derived.Test.YtfdjlahaiogabaaJoinImpl
import Derived.Test.YtfdjlahaiogabaaZeroImpl
import Derived.Deep.RegionHeld3
namespace Go.Proofs.Ytfdjlahaiogabaa
set_option maxRecDepth 20000
open Go.RowKit

theorem sizeI_ax {L D : List Int} (h : ¬ sizeI L D < 0) : AxesV L D ∧ 1 ≤ prodL D ∧ prodL D ≤ 4096 := by
  rcases sizeI_cases L D with ⟨h1, -⟩ | ⟨h1, h2, h3, h4⟩
  · omega
  · exact ⟨h2, h3, h4⟩
/-- What sumOver asks of a function value: an element in a row that is no row of the call's own of before. -/
def ClosF (w W : World) (xs : List Int) (e : Ending) (w' : World) : Prop :=
  (∃ b off cap, e = .returned (.slice (some ⟨b, off, none⟩) xs.length cap) ∧ (b < w.heap.size ∨ W.heap.size ≤ b) ∧ b < w'.heap.size ∧ ∀ i (h : i < xs.length), w'.cell? ⟨b, off + i, none⟩ = some (.int .i64 xs[i])) ∧ Below W.heap.size W w'
theorem ClosF.new {w W w' : World} {xs : List Int} {e : Ending} (h : NewRow W xs e w') (h0 : 0 < xs.length) : ClosF w W xs e w' := by
  obtain ⟨v, rfl, ho, hb⟩ := h
  obtain ⟨a, c, rfl, -⟩ := ints_form ho.rd
  obtain ⟨g, rfl, hlo, hhi, hc, -⟩ := ho.slot rfl h0
  exact ⟨⟨g, 0, c, rfl, .inr hlo, hhi, fun i hi => by rw [Nat.zero_add]; exact hc i _ (List.getElem?_eq_getElem hi)⟩, hb⟩
theorem ClosF.rd {B : Nat} {w W w' : World} {v : Value} {xs : List Int} (h : Rd B w' v (ints xs)) (hB : B ≤ w.heap.size) (hb : Below W.heap.size W w') (hw : w.heap.size ≤ W.heap.size) (h0 : 0 < xs.length) : ClosF w W xs (.returned v) w' := by
  rcases h.ints_cases with ⟨rfl, -⟩ | ⟨b, off, cap, rfl, hlt, -, hc⟩
  · simp at h0
  · exact ⟨⟨b, off, cap, rfl, .inl (Nat.lt_of_lt_of_le hlt hB), Nat.lt_of_lt_of_le hlt (Nat.le_trans hB (Nat.le_trans hw hb.size)), hc⟩, hb⟩
theorem accL_start (k p q : Int) (zf : Nat → Nat) (tf : Nat → List Int) (M : Nat) : repL (zeroL k p q) M = accL k p q zf tf M 0 := by
  show _ = gatherL (fun _ => zeroL k p q) M
  induction M with
  | zero => rfl
  | succ M ih => rw [repL_succ, ih, gather_succ]
theorem acc_small {k p q : Int} {zf : Nat → Nat} {tf : Nat → List Int} {M N n o wd : Nat} (hr : ringB k p q = true) (hw : widthI k q = (wd : Int)) (ht : ∀ m, m < N → ElemV k p q (tf m)) (hn : n ≤ N) (ho : o < M) {j : Nat} {a : Int} (hj : j < wd) (ha : (accL k p q zf tf M n)[o * wd + j]? = some a) : 0 ≤ a ∧ a ≤ 1048576 := by
  have h1 := acc_get (zf := zf) hr hw ht hn ho
  have h2 := accE_elem (zf := zf) hr ht n hn o
  have h3 : (getL wd (accL k p q zf tf M n) o)[j]? = some a := by
    unfold getL
    rw [List.getElem?_take_of_lt hj, List.getElem?_drop]; exact ha
  rw [h1] at h3
  have h4 := h2.2 a (List.mem_of_getElem? h3)
  have h5 := ring_top hr
  omega
theorem keep_snoc {J keep : List Int} {d : Int → Int} {j : Nat} {n : Int} (h : J[j]? = some n) (hn : n ∈ keep) : (keepL (J.take j) keep).map d ++ [d n] = (keepL (J.take (j + 1)) keep).map d := by
  rw [keep_yes h hn]; simp

set_option maxHeartbeats 1600000 in
theorem count_full {B m ca : Nat} {p : Option Addr} {AX : List AxE} {w : World} (hm : AX.length = m) (hm2 : m ≤ 1024) (hd : ∀ d ∈ dimsA AX, 1 ≤ d ∧ d ≤ 8) (hP : prodL (dimsA AX) ≤ 1073741824) (ha : RdA B w (.slice p m ca) AX) (hB : B ≤ w.heap.size) :
    Calls Try.prog 103 #[.slice p m ca] w fun e w' => e = .returned (.int .i64 (prodL (dimsA AX))) ∧ Below w.heap.size w w' := by
  have L1 := Lib.hid hm
  have HD := Lib.hid hd
  have HP := Lib.hid hP
  have HA := Lib.hid ha
  have HB := Lib.hid hB
  obtain ⟨r, hr⟩ : ∃ r, r = prodL (dimsA AX) := ⟨_, rfl⟩
  rw [← hr]
  have HR := Lib.hid hr
  clear hm hd hP ha hB hr
  go_enter Try.func103, Try.ntmps103
  go_wp2
  go_loopw [3, 8] (fun u i wr => ∃ (j : Nat) (c : Int), j ≤ m ∧ i = .int .i64 j ∧ u = .int .i64 c ∧ Hid (c = prodL ((dimsA AX).take j)) ∧ Hid (Below w.heap.size w wr)) (fun _ i _ => m - (intOf i).toNat)
  case atStart => exact ⟨0, 1, by omega, rfl, rfl, Lib.hid rfl, Lib.hid (Below.refl _ _)⟩
  case round =>
    obtain ⟨j, c, hj, rfl, rfl, HC, HBL⟩ := hrel
    by_cases hlt : j < m
    · obtain ⟨⟨n, d, s⟩, X1⟩ : ∃ a, Hid (AX[j]? = some a) := ⟨_, List.getElem?_eq_getElem (by rw [L1.out]; exact hlt)⟩
      obtain ⟨b, off, rfl, hbl, e1, e2, e3⟩ := (HA.out.below HBL.out HB.out).at X1.out
      dsimp only at e1 e2 e3
      have hdj : (dimsA AX)[j]? = some d := by unfold dimsA; rw [List.getElem?_map, X1.out]; rfl
      have h1 := prod_prefix (fun d hd => (HD.out d hd).1) (j + 1)
      have h2 := HP.out
      have hs : prodL ((dimsA AX).take (j + 1)) = c * d := by
        rw [List.take_add_one, hdj, Option.toList_some, prodL_app, HC.out]
        simp [prodL]
      rw [hs] at h1
      have hw : wrap64 (c * d) = c * d := by unfold wrap64; omega
      have HC2 : Hid (wrap64 (c * d) = prodL ((dimsA AX).take (j + 1))) := Lib.hid (by rw [hs, hw])
      have HB2 := Lib.hid (HBL.out.alloc HBL.out.size (.cells #[.int .i64 n, .int .i64 d, .int .i64 s] 96))
      clear h1 h2 hs hw hdj
      go_wp2
      go_roundw
      case rel => exact ⟨j + 1, _, by omega, by go_num, rfl, HC2, HB2⟩
      case measure => simp [intOf]; omega
    · obtain rfl : j = m := by omega
      have HE : Hid (c = r) := Lib.hid (by
        rw [HC.out, HR.out, List.take_of_length_le (by rw [dimsA_len, L1.out]; exact Nat.le_refl _)])
      go_wp2
      go_ret
      exact ⟨by rw [← HE.out]; rfl, HBL.out⟩
theorem count_impl {B : Nat} {v : Value} {AX : List AxE} {w : World} (hm2 : AX.length ≤ 1024) (hd : ∀ d ∈ dimsA AX, 1 ≤ d ∧ d ≤ 8) (hP : prodL (dimsA AX) ≤ 1073741824) (ha : RdA B w v AX) (hB : B ≤ w.heap.size) :
    Calls Try.prog 103 #[v] w fun e w' => e = .returned (.int .i64 (prodL (dimsA AX))) ∧ Below w.heap.size w w' := by
  obtain ⟨p, ca, rfl⟩ := ha.form
  exact count_full rfl hm2 hd hP ha hB
theorem own_cap {w : World} {lo g n cap : Nat} {xs : List Value} (h : w.ownsRow lo 3 1 (.slice (some ⟨g, 0, none⟩) n cap) n xs) : n ≤ cap := by
  rcases h.2 with ⟨e, -⟩ | ⟨g', cap', cur, e, -, -, h1, h2, h3, h4⟩
  · cases e
  · cases e
    omega

set_option maxHeartbeats 1600000 in
theorem sum_over_full2 {B B' m mk ca ck K wd N : Nat} {z1 z2 : Value} {k p q : Int} {J keep : List Int} (dJ sJ : Int → Int) {aa ak : Option Addr} {F : Nat → List Int} {w : World}
    (hr : ringB k p q = true) (hw : widthI k q = (wd : Int)) (hn : J.Nodup) (hm : J.length = m) (h24 : m ≤ 24) (hI : allI J) (hd : ∀ n ∈ J, 1 ≤ dJ n ∧ dJ n ≤ 8) (hP : prodL (J.map dJ) = (N : Int)) (hN : N ≤ 65536) (hkl : keep.length = mk) (hkb : mk ≤ 281474976710656)
    (ha : RdA B w (.slice aa m ca) (axJ J dJ sJ)) (hk : Rd B' w (.slice ak mk ck) (ints keep)) (hB : B ≤ w.heap.size) (hB' : B' ≤ w.heap.size)
    (hK : ∀ (args : Array Value) (w : World), (callFunc K args).run Try.prog w = .ok (.enter K args) w) (hF : ∀ j, j < N → ElemV k p q (F j)) (hG : ∀ (j : Nat) (W : World), j < N → Below w.heap.size w W → Calls Try.prog K #[.int .i64 j, z1, z2] W (ClosF w W (F j))) :
    Calls Try.prog 105 #[ringV k p q, .slice aa m ca, .slice ak mk ck, .func (.func K) #[] #[z1, z2]] w (NewTen2 w (if zeroTenB k p q (keepL J keep) ((keepL J keep).map dJ) = true then keepL J keep else []) (if zeroTenB k p q (keepL J keep) ((keepL J keep).map dJ) = true then (keepL J keep).map dJ else []) (if zeroTenB k p q (keepL J keep) ((keepL J keep).map dJ) = true then accL k p q (offJ (keepL J keep) ((keepL J keep).map dJ) J (J.map dJ)) F (prodL ((keepL J keep).map dJ)).toNat N else []) (zeroTenB k p q (keepL J keep) ((keepL J keep).map dJ))) := by
  have HRG := Lib.hid hr
  have HW := Lib.hid hw
  have HND := Lib.hid hn
  have L1 := Lib.hid hm
  have HI := Lib.hid hI
  have HD := Lib.hid hd
  have HPN := Lib.hid hP
  have HKL := Lib.hid (And.intro hkl hkb)
  have HA := Lib.hid (ha.mono hB)
  have HK := Lib.hid (hk.mono hB')
  have HF := Lib.hid hF
  have HG := Lib.hid hG
  obtain ⟨hw1, hw6⟩ : 1 ≤ wd ∧ wd ≤ 6 := by have h1 := ring_width hr; rw [hw] at h1; omega
  obtain ⟨Kl, hKl⟩ : ∃ l, l = keepL J keep := ⟨_, rfl⟩
  obtain ⟨KD, hKD⟩ : ∃ l, l = (keepL J keep).map dJ := ⟨_, rfl⟩
  rw [← hKD]
  rw [← hKl] at hKD ⊢
  obtain ⟨zb, hzb⟩ : ∃ b, b = zeroTenB k p q Kl KD := ⟨_, rfl⟩
  rw [← hzb]
  obtain ⟨JD, hJD⟩ : ∃ l, l = J.map dJ := ⟨_, rfl⟩
  rw [← hJD]
  obtain ⟨zf, hzf⟩ : ∃ f, f = offJ Kl KD J JD := ⟨_, rfl⟩
  rw [← hzf]
  obtain ⟨M, hM⟩ : ∃ M, M = (prodL KD).toNat := ⟨_, rfl⟩
  rw [← hM]
  obtain ⟨tL, htL⟩ : ∃ l, l = if zb = true then Kl else [] := ⟨_, rfl⟩
  obtain ⟨tD, htD⟩ : ∃ l, l = if zb = true then KD else [] := ⟨_, rfl⟩
  obtain ⟨tX, htX⟩ : ∃ l, l = if zb = true then accL k p q zf F M N else [] := ⟨_, rfl⟩
  rw [← htL, ← htD, ← htX]
  have EKl := Lib.hid hKl
  have EKD := Lib.hid hKD
  have EZB := Lib.hid hzb
  have EJD := Lib.hid hJD
  have EZF := Lib.hid hzf
  have EM := Lib.hid hM
  have TL := Lib.hid htL
  have TD := Lib.hid htD
  have TX := Lib.hid htX
  obtain ⟨i0, hi, hz0, hz1, hz2⟩ := info_parts infoInt
  have J0 := Lib.hid hi
  have J1 := Lib.hid hz0
  have J2 := Lib.hid hz1
  have J3 := Lib.hid hz2
  have S0 : Hid (Rs w ((w.alloc (.cells #[.int .i64 k, .int .i64 p, .int .i64 q] 31)).alloc (.cells #[nilV, nilV, nilV] 28)) [(w.heap.size + 1, nilV, nilV, nilV), (w.heap.size, .int .i64 k, .int .i64 p, .int .i64 q)] [(nilV, keepL (J.take 0) keep), (nilV, (keepL (J.take 0) keep).map dJ)]) := by
    have h := (((Rs.start w).box (.int .i64 k) (.int .i64 p) (.int .i64 q) 31).box nilV nilV nilV 28).nil.nil
    simp only [World.size_alloc] at h
    exact h
  generalize hbs : [(w.heap.size + 1, nilV, nilV, nilV), (w.heap.size, Value.int .i64 k, Value.int .i64 p, Value.int .i64 q)] = bs at S0
  have HBS := Lib.hid hbs
  clear hr hw hn hm hI hd hP hkl ha hk hB hB' hF hG hKl hKD hzb hJD hzf hM htL htD htX hi hz0 hz1 hz2 hbs
  go_enter Try.func105, Try.ntmps105
  go_wp2
  go_loopw [10, 11, 23] (fun u v i wr => ∃ (j n1 e1 e2 : Nat) (ga gb : Option Addr), j ≤ m ∧ i = .int .i64 j ∧ u = .slice ga n1 e1 ∧ v = .slice gb n1 e2 ∧ n1 ≤ j ∧ Hid (n1 = (keepL (J.take j) keep).length) ∧ Hid (Rs w wr bs [(.slice ga n1 e1, keepL (J.take j) keep), (.slice gb n1 e2, (keepL (J.take j) keep).map dJ)])) (fun _ _ i _ => m - (intOf i).toNat)
  case atStart => exact ⟨0, 0, 0, 0, none, none, by omega, rfl, rfl, rfl, by omega, Lib.hid rfl, S0⟩
  case round =>
    clear S0
    obtain ⟨j, n1, c1, c2, ga, gb, hj, rfl, rfl, rfl, hn1, HN1, HR⟩ := hrel
    by_cases hlt : j < m
    · obtain ⟨n, X1⟩ : ∃ n, Hid (J[j]? = some n) := ⟨_, List.getElem?_eq_getElem (by rw [L1.out]; exact hlt)⟩
      obtain ⟨b, off, rfl, -, e1, e2, e3⟩ := (HA.out.below HR.out.bel (Nat.le_refl _)).at (i := j) (a := (n, dJ n, sJ n)) (by unfold axJ; rw [List.getElem?_map, X1.out]; rfl)
      dsimp only at e1 e2 e3
      obtain ⟨d, hd⟩ : ∃ d, d = dJ n := ⟨_, rfl⟩
      obtain ⟨s, hs⟩ : ∃ s, s = sJ n := ⟨_, rfl⟩
      rw [← hd] at e2
      rw [← hs] at e3
      have HDN := Lib.hid hd
      have R1 := Lib.hid (HR.out.box (.int .i64 n) (.int .i64 d) (.int .i64 s) 96)
      obtain ⟨⟨o0, o1, -⟩, -⟩ := R1.out.at (r := wr.heap.size) (a := .int .i64 n) (b := .int .i64 d) (c := .int .i64 s) (by simp)
      have HC := Lib.hid (contains_any n (HK.out.below R1.out.bel (Nat.le_refl _)) (by rw [HKL.out.1]; exact HKL.out.2))
      clear hd hs
      by_cases hin : n ∈ keep
      · rw [decide_eq_true hin] at HC
        have KY := Lib.hid (keep_yes X1.out hin)
        have KD2 : Hid ((keepL (J.take j) keep).map dJ ++ [d] = (keepL (J.take (j + 1)) keep).map dJ) := Lib.hid (by rw [HDN.out]; exact keep_snoc X1.out hin)
        have HN2 : Hid (n1 + 1 = (keepL (J.take (j + 1)) keep).length) := Lib.hid (by rw [KY.out, List.length_append, ← HN1.out]; rfl)
        have HDL : Hid (((keepL (J.take j) keep).map dJ).length = n1) := Lib.hid (by rw [List.length_map, HN1.out])
        have A1 := Lib.hid (R1.out.alloc (.cells #[.int .i64 n] 3))
        have O1 := Lib.hid (A1.out.row (List.mem_cons_self) HN1.out.symm : World.ownsRow _ w.heap.size 3 1 (.slice ga n1 c1) n1 (ints (keepL (J.take j) keep)))
        clear hin
        go_wp2_with fail
        refine HC.out.mono ?_
        rintro e w1 ⟨rfl, rfl⟩
        go_wp2_with (at_builtin; go_must (refine wpList_append_lies _ rfl _ _ 24 rfl w.heap.size 3 i0 (.int .i64 0) 1 8 Try.underlying24 J0.out J1.out J2.out J3.out rfl (by decide) _ n1 (ints (keepL (J.take j) keep)) rfl O1.out ⟨wr.heap.size + 1, 0, none⟩ 1 1 [.int .i64 n] rfl rfl (cell_one_at _ _ (by simp)) ?c2 (by decide) ?c3 ?c4 ?c5 _ rfl ?_))
        case c2 => first | rfl | (intro u hu; simp at hu; subst hu; rfl)
        case c3 => unfold maxLen; omega
        case c4 => omega
        case c5 => exact A1.out.bel.size
        intro g1 cap1 w2 hown hgrow hl1 _
        have R2 := Lib.hid (A1.out.app1 HN1.out.symm hown hgrow (by simp only [World.size_alloc] at hl1 ⊢; exact hl1))
        rw [← KY.out] at R2
        clear o0 o1
        obtain ⟨⟨-, o1, -⟩, -⟩ := R2.out.at (r := wr.heap.size) (a := .int .i64 n) (b := .int .i64 d) (c := .int .i64 s) (by simp)
        have A2 := Lib.hid (R2.out.swap.alloc (.cells #[.int .i64 d] 3))
        have O2 := Lib.hid (A2.out.row (List.mem_cons_self) HDL.out : World.ownsRow _ w.heap.size 3 1 (.slice gb n1 c2) n1 (ints ((keepL (J.take j) keep).map dJ)))
        clear hown hgrow hl1 O1 A1 R1 HR HC e1 e2 e3
        go_wp2_with (at_builtin; go_must (refine wpList_append_lies _ rfl _ _ 24 rfl w.heap.size 3 i0 (.int .i64 0) 1 8 Try.underlying24 J0.out J1.out J2.out J3.out rfl (by decide) _ n1 (ints ((keepL (J.take j) keep).map dJ)) rfl O2.out ⟨w2.heap.size, 0, none⟩ 1 1 [.int .i64 d] rfl rfl (cell_one_at _ _ rfl) ?c2 (by decide) ?c3 ?c4 ?c5 _ rfl ?_))
        case c2 => first | rfl | (intro u hu; simp at hu; subst hu; rfl)
        case c3 => unfold maxLen; omega
        case c4 => omega
        case c5 => exact A2.out.bel.size
        intro g2 cap2 w3 hown hgrow hl1 _
        have R3 := Lib.hid (A2.out.app1 HDL.out hown hgrow (by simp only [World.size_alloc] at hl1 ⊢; exact hl1))
        rw [KD2.out] at R3
        have R4 := Lib.hid (R3.out.swap.subB (bs' := bs) (List.Sublist.cons _ (List.Sublist.refl _)))
        clear hown hgrow hl1 O2 A2 R2 R3 o1
        go_wp2
        go_roundw
        case rel => exact ⟨j + 1, n1 + 1, cap1, cap2, some ⟨g1, 0, none⟩, some ⟨g2, 0, none⟩, by omega, by go_num, rfl, rfl, by omega, HN2, R4⟩
        case measure => simp [intOf]; omega
      · rw [decide_eq_false hin] at HC
        have KN := Lib.hid (keep_no X1.out hin)
        have R4 := Lib.hid (R1.out.subB (bs' := bs) (List.Sublist.cons _ (List.Sublist.refl _)))
        rw [← KN.out] at HN1 R4
        clear hin
        go_wp2_with fail
        refine HC.out.mono ?_
        rintro e w1 ⟨rfl, rfl⟩
        clear HC R1 HR o0 o1 e1 e2 e3
        go_wp2
        go_roundw
        case rel => exact ⟨j + 1, n1, c1, c2, ga, gb, by omega, by go_num, rfl, rfl, by omega, HN1, R4⟩
        case measure => simp [intOf]; omega
    · obtain rfl : j = m := by omega
      have E1 : Hid (J.take j = J) := Lib.hid (List.take_of_length_le (by rw [L1.out]; exact Nat.le_refl _))
      rw [E1.out, ← EKl.out, ← EKD.out] at HR
      rw [E1.out, ← EKl.out] at HN1
      have HLD : Hid (KD.length = n1) := Lib.hid (by rw [EKD.out, List.length_map, HN1.out])
      have HZ := Lib.hid (zero_tensor_impl (k := k) (p := p) (q := q) (HR.out.rd (v := .slice ga n1 c1) (xs := Kl) (by simp)) (HR.out.rd (v := .slice gb n1 c2) (xs := KD) (by simp)) (Nat.le_refl _) (by rw [← HN1.out]; omega) (by rw [HLD.out]; omega) (fun z hz => HI.out z (by rw [EKl.out] at hz; exact keep_sub z hz)))
      rw [← EZB.out] at HZ
      obtain ⟨⟨r0, r1, r2⟩, -⟩ := HR.out.at (r := w.heap.size) (a := .int .i64 k) (b := .int .i64 p) (c := .int .i64 q) (by rw [← HBS.out]; simp)
      cases zb with
      | false =>
        simp only [Bool.false_eq_true, if_false] at HZ
        obtain rfl : tL = [] := by rw [TL.out]; simp
        obtain rfl : tD = [] := by rw [TD.out]; simp
        obtain rfl : tX = [] := by rw [TX.out]; simp
        go_wp2_with fail
        refine HZ.out.mono ?_
        rintro e w4 ⟨u1, u2, u3, rfl, ho, hb⟩
        obtain ⟨a1, n1', d1, rfl⟩ := (show Own _ _ _ u1 [] from ho.1 (u1, []) (by simp)).slice
        obtain ⟨a2, n2', d2, rfl⟩ := (show Own _ _ _ u2 [] from ho.1 (u2, []) (by simp)).slice
        obtain ⟨a3, n3', d3, rfl⟩ := (show Own _ _ _ u3 [] from ho.1 (u3, []) (by simp)).slice
        have R5 := Lib.hid ((HR.out.step hb).alloc (.cells #[.slice a1 n1' d1, .slice a2 n2' d2, .slice a3 n3' d3] 28))
        obtain ⟨⟨t0, t1, t2⟩, f0, f1, f2⟩ := R5.out.at (r := w.heap.size + 1) (a := nilV) (b := nilV) (c := nilV) (by rw [← HBS.out]; simp)
        clear ho hb HZ HR r0 r1 r2
        go_wp2
        refine bodyPost_ret (v := .tuple #[tenV nilV nilV nilV, .bool false]) (by simp [results, Try.results105, go_sem, t0, t1, t2]) rfl ?_
        exact NewTen2.nils (((R5.out.bel.setCell (by show w.heap.size ≤ w.heap.size + 1; omega) _).setCell (by show w.heap.size ≤ w.heap.size + 1; omega) _).setCell (by show w.heap.size ≤ w.heap.size + 1; omega) _)
      | true =>
        simp only [if_true] at HZ
        obtain rfl : tL = Kl := by rw [TL.out]; simp
        obtain rfl : tD = KD := by rw [TD.out]; simp
        obtain rfl : tX = accL k p q zf F M N := by rw [TX.out]; simp
        have hsz : ¬ sizeI tL tD < 0 := by
          have h := EZB.out
          unfold zeroTenB at h
          rw [HRG.out] at h
          simp only [Bool.true_and] at h
          have h2 : 0 ≤ sizeI tL tD := of_decide_eq_true h.symm
          omega
        obtain ⟨hax, hp1, hp2⟩ := sizeI_ax hsz
        have HAX := Lib.hid hax
        have HMP : Hid (prodL tD = (M : Int) ∧ 1 ≤ M ∧ M ≤ 4096) := Lib.hid (by rw [EM.out]; omega)
        have hMb : M ≤ 4096 := HMP.out.2.2
        have HSUB : Hid (∀ n ∈ tL, n ∈ J) := Lib.hid (fun n h => keep_sub n (by rw [EKl.out] at h; exact h))
        have HSX : Hid (SubAx tL tD J JD) := Lib.hid (by
          have h := SubAx.keep (JD := JD) keep HND.out
          rw [EJD.out, keepD_map, ← EKl.out, ← EKD.out, ← EJD.out] at h
          exact h)
        have HJ1 : Hid (∀ x ∈ JD, 1 ≤ x) := Lib.hid (fun x hx => by rw [EJD.out] at hx; obtain ⟨n, hn, rfl⟩ := List.mem_map.1 hx; exact (HD.out n hn).1)
        have HJL : Hid (J.length = JD.length) := Lib.hid (by rw [EJD.out]; simp)
        have HZF : Hid (∀ c, zf c < M) := Lib.hid (fun c => by
          have h := (HSX.out.off HJL.out (fun d hd => (HAX.out.2.2.2.1 d hd).1) HJ1.out HND.out c).2
          rw [← EZF.out, HMP.out.1] at h
          omega)
        have HOFF : Hid (offsA (axJ J dJ (stepI tL tD)) = (List.range N).map fun c : Nat => (zf c : Int)) := Lib.hid (by
          have h := offs_steps HSX.out EJD.out.symm HND.out (fun d hd => (HAX.out.2.2.2.1 d hd).1) HJ1.out
          rw [← EZF.out, EJD.out, HPN.out, Int.toNat_natCast] at h
          exact h)
        obtain ⟨OF, hOF⟩ : ∃ l, l = (List.range N).map fun c : Nat => (zf c : Int) := ⟨_, rfl⟩
        rw [← hOF] at HOFF
        have HOL : Hid (OF.length = N) := Lib.hid (by rw [hOF]; simp)
        have HOA : Hid (∀ c, c < N → OF[c]? = some (zf c : Int)) := Lib.hid (fun c hc => by rw [hOF, List.getElem?_map, List.getElem?_range hc]; rfl)
        have HPA : Hid (PA (axJ J dJ (stepI tL tD))) := Lib.hid (axJ_pa (by rw [L1.out]; exact h24) HD.out (fun n _ => by
          have h := stepI_small (L := tL) (fun d hd => (HAX.out.2.2.2.1 d hd).1) (by rw [HMP.out.1]; omega) n
          omega) (by rw [HPN.out]; omega))
        have HEL : Hid (∀ c, c ≤ N → (accL k p q zf F M c).length = M * wd) := Lib.hid (fun c hc => acc_len HRG.out HW.out HF.out hc)
        have HZ0 : Hid (zeroTenL k p q tD = accL k p q zf F M 0) := Lib.hid (by unfold zeroTenL; rw [← EM.out]; exact accL_start _ _ _ _ _ _)
        rw [HZ0.out] at HZ
        clear hsz hax hp1 hp2 hOF
        go_wp2_with fail
        refine HZ.out.mono ?_
        rintro e w4 ⟨u1, u2, u3, rfl, ho, hb⟩
        obtain ⟨a1, n1', d1, rfl⟩ := (show Own _ _ _ u1 tL from ho.1 (u1, tL) (by simp)).slice
        obtain ⟨a2, n2', d2, rfl⟩ := (show Own _ _ _ u2 tD from ho.1 (u2, tD) (by simp)).slice
        obtain ⟨a3, cx, rfl, -⟩ := ints_form (show Own _ _ _ u3 (accL k p q zf F M 0) from ho.1 (u3, accL k p q zf F M 0) (by simp)).rd
        obtain ⟨mx, hmx⟩ : ∃ m, m = M * wd := ⟨_, rfl⟩
        have hmxb : mx ≤ 24576 := by rw [hmx]; exact Nat.mul_le_mul hMb hw6
        have HMX := Lib.hid hmx
        have HEL2 : Hid (∀ c, c ≤ N → (accL k p q zf F M c).length = mx) := Lib.hid (fun c hc => by rw [HEL.out c hc, hmx])
        rw [HEL2.out 0 (Nat.zero_le _)] at ho ⊢
        have R4 := Lib.hid ((HR.out.new3 hb ho).sub (rows' := [(.slice a1 n1' d1, tL), (.slice a2 n2' d2, tD), (.slice a3 mx cx, accL k p q zf F M 0)]) (List.Sublist.cons_cons _ (List.Sublist.cons_cons _ (List.Sublist.cons_cons _ (List.nil_sublist _)))))
        have R5 := Lib.hid (R4.out.box (.slice a1 n1' d1) (.slice a2 n2' d2) (.slice a3 mx cx) 28)
        have HAC := Lib.hid (axes_impl (B := w4.heap.size + 1) (w := w4.alloc (.cells #[.slice a1 n1' d1, .slice a2 n2' d2, .slice a3 mx cx] 28)) (L := tL) (D := tD) (X := accL k p q zf F M 0) ⟨(R5.out.rd (v := .slice a1 n1' d1) (xs := tL) (by simp)).mono (by simp), (R5.out.rd (v := .slice a2 n2' d2) (xs := tD) (by simp)).mono (by simp), (R5.out.rd (v := .slice a3 mx cx) (xs := accL k p q zf F M 0) (by simp)).mono (by simp)⟩ (by simp) (by simp) HAX.out.2.1 HAX.out.1 HAX.out.2.2.2.1 (by rw [HMP.out.1]; omega))
        rw [axesL_map HAX.out.2.2.2.2] at HAC
        obtain ⟨⟨t0, t1, t2⟩, -⟩ := R5.out.at (r := w4.heap.size) (a := .slice a1 n1' d1) (b := .slice a2 n2' d2) (c := .slice a3 mx cx) (by simp)
        clear ho hb HZ HR R4 hmx r0 r1 r2
        go_wp2_with fail
        refine HAC.out.mono ?_
        rintro e w6 ⟨vX, rfl, ho, hb⟩
        have R6 := Lib.hid (R5.out.step hb)
        have HJN := Lib.hid (join_axes_impl dJ sJ (dimI tL tD) (stepI tL tD) HND.out HAX.out.2.2.2.2 (by rw [L1.out]; exact h24) (by have := HAX.out.1; omega) (HA.out.below R6.out.bel (Nat.le_refl _)) ho.rd R6.out.bel.size (Nat.le_refl _))
        have HJK := axS_keep (dJ := dJ) HSUB.out
        rw [← EKD.out] at HJK
        have HJ2 := Lib.hid HJK
        clear ho hb HAC R5 HJK t0 t1 t2
        go_wp2_with fail
        refine HJN.out.mono ?_
        rintro e w7 (⟨-, vF, vS, rfl, hoF, hoS, hb⟩ | ⟨hno, -, -⟩)
        rotate_left
        · exact absurd HJ2.out.1 hno
        rw [HJ2.out.2] at hoS
        have R7 := Lib.hid (R6.out.step hb)
        have HOI := Lib.hid (offsets_impl HPA.out hoS.rd (Nat.le_refl _))
        rw [HOFF.out] at HOI
        clear hoF hoS hb HJN R6
        go_wp2_with fail
        refine HOI.out.mono ?_
        rintro e w8 ⟨vO, rfl, ho, hb⟩
        obtain ⟨aO, cO, rfl, -⟩ := ints_form ho.rd
        have R8 := Lib.hid ((R7.out.new hb ho).perm (rows' := [(.slice a3 mx cx, accL k p q zf F M 0), (.slice aO OF.length cO, OF), (.slice a1 n1' d1, tL), (.slice a2 n2' d2, tD)]) (List.Perm.trans (List.Perm.cons _ (List.Perm.trans (List.Perm.cons _ (List.Perm.swap _ _ _)) (List.Perm.swap _ _ _))) (List.Perm.swap _ _ _)))
        rw [HOL.out] at R8 ⊢
        clear ho hb HOI R7
        go_wp2
        go_loopw [63] (fun i wr => ∃ c : Nat, c ≤ N ∧ i = .int .i64 c ∧ Hid (Rs w wr ((w4.heap.size, .slice a1 n1' d1, .slice a2 n2' d2, .slice a3 mx cx) :: bs) [(.slice a3 mx cx, accL k p q zf F M c), (.slice aO N cO, OF), (.slice a1 n1' d1, tL), (.slice a2 n2' d2, tD)])) (fun i _ => N - (intOf i).toNat)
        case atStart => exact ⟨0, by omega, rfl, R8⟩
        case round =>
          clear R8
          obtain ⟨c, hc, rfl, HR⟩ := hrel
          by_cases hlt : c < N
          · have HCN := Lib.hid hlt
            obtain ⟨gO, rfl, -, -, hcO, -⟩ := (HR.out.own1 (v := .slice aO N cO) (xs := OF) (by simp)).slot HOL.out (by omega)
            have e1 := hcO c (zf c : Int) (HOA.out c hlt)
            have hz := HZF.out c
            have hmz : 0 < mx := by rw [HMX.out]; exact Nat.mul_pos (by omega) (by omega)
            obtain ⟨gX, rfl, hgl, hgh, -, -⟩ := (HR.out.own1 (v := .slice a3 mx cx) (xs := accL k p q zf F M c) (by simp)).slot (HEL2.out c hc) hmz
            have hcx : mx ≤ cx := own_cap (HR.out.row (v := .slice (some ⟨gX, 0, none⟩) mx cx) (xs := accL k p q zf F M c) (by simp) (HEL2.out c hc))
            obtain ⟨zo, hzo⟩ : ∃ z, z = zf c := ⟨_, rfl⟩
            have h8 := Nat.mul_le_mul_right wd (show zo + 1 ≤ M by omega)
            rw [Nat.add_mul, Nat.one_mul, ← HMX.out] at h8
            have hzM : zo ≤ 4096 := by omega
            rw [← hzo] at e1
            have HEF := Lib.hid (HF.out c hlt)
            have HFL : Hid ((F c).length = wd) := Lib.hid (by have h1 := HEF.out.1; have h2 := HW.out; omega)
            have hta := (ring_top HRG.out).2
            have HAE : Hid (∀ j a, j < wd → (accL k p q zf F M c)[zo * wd + j]? = some a → 0 ≤ a ∧ a ≤ 1048576) := Lib.hid (fun j a hj ha => acc_small HRG.out HW.out HF.out hc (by rw [hzo]; exact hz) hj ha)
            have HAS : Hid (addAt k p (accL k p q zf F M c) (zo * wd) (F c) wd = accL k p q zf F M (c + 1)) := Lib.hid (by
              rw [hzo]
              exact acc_add HRG.out HW.out HF.out hlt hz)
            have HEX : Hid (Within 1048576 (F c)) := Lib.hid (fun x hx => by have h := HEF.out.2 x hx; omega)
            obtain ⟨⟨r0, r1, r2⟩, -⟩ := HR.out.at (r := w.heap.size) (a := .int .i64 k) (b := .int .i64 p) (c := .int .i64 q) (by rw [← HBS.out]; simp)
            obtain ⟨⟨t0, t1, t2⟩, -⟩ := HR.out.at (r := w4.heap.size) (a := .slice a1 n1' d1) (b := .slice a2 n2' d2) (c := .slice (some ⟨gX, 0, none⟩) mx cx) (by simp)
            have Q0 := Lib.hid HR.out.drew
            have HML : Hid ((accL k p q zf F M c).length = mx) := Lib.hid (HEL2.out c hc)
            clear hcO hz hmz hzo hta HR
            go_wp2_with fail
            refine wp_region_held_drew (S := (fun w' => w'.cell? ⟨w.heap.size, 0, none⟩ = some (.int .i64 k) ∧ w'.cell? ⟨w.heap.size, 1, none⟩ = some (.int .i64 p) ∧ w'.cell? ⟨w.heap.size, 2, none⟩ = some (.int .i64 q) ∧ w'.cell? ⟨w4.heap.size, 0, none⟩ = some (.slice a1 n1' d1) ∧ w'.cell? ⟨w4.heap.size, 1, none⟩ = some (.slice a2 n2' d2) ∧ w'.cell? ⟨w4.heap.size, 2, none⟩ = some (.slice (some ⟨gX, 0, none⟩) mx cx))) (by kernel_rfl) (by (try dsimp only); exact ⟨r0, r1, r2, t0, t1, t2⟩) (fun hHeld => ?_)
            refine wpAnyH_take (i := 0) (v := ?_) rfl (by kernel_rfl) (by kernel_rfl) (by kernel_rfl) (fun _ _ _ h => h) (Or.inl ⟨by rfl, ?_⟩) (by assumption) ?_
            rotate_left
            · intro w hSw; (try dsimp only at hSw); go_simp <;> with_reducible rfl
            try simp only [Act.put, List.getElem_toArray, List.getElem_cons_zero, List.setIfInBounds_toArray, List.set_cons_zero, List.set_cons_succ]
            refine wpAnyH_take (i := 1) (v := ?_) rfl (by kernel_rfl) (by kernel_rfl) (by kernel_rfl) (fun _ _ _ h => h) (Or.inl ⟨by rfl, ?_⟩) (by assumption) ?_
            rotate_left
            · intro w hSw; (try dsimp only at hSw); go_simp <;> with_reducible rfl
            try simp only [Act.put, List.getElem_toArray, List.getElem_cons_succ, List.getElem_cons_zero, List.setIfInBounds_toArray, List.set_cons_zero, List.set_cons_succ]
            refine wpAnyH_take (i := 2) (v := ?_) rfl (by kernel_rfl) (by kernel_rfl) (by kernel_rfl) (fun _ _ _ h => h) (Or.inl ⟨by rfl, ?_⟩) (by assumption) ?_
            rotate_left
            · intro w hSw; (try dsimp only at hSw); go_simp <;> with_reducible rfl
            try simp only [Act.put, List.getElem_toArray, List.getElem_cons_succ, List.getElem_cons_zero, List.setIfInBounds_toArray, List.set_cons_zero, List.set_cons_succ]
            refine wpAnyH_take (i := 3) (v := ?_) rfl (by kernel_rfl) (by kernel_rfl) (by kernel_rfl) (fun _ _ _ h => h) (Or.inl ⟨by rfl, ?_⟩) (by assumption) ?_
            rotate_left
            · intro w hSw; (try dsimp only at hSw); go_simp <;> with_reducible rfl
            try simp only [Act.put, List.getElem_toArray, List.getElem_cons_succ, List.getElem_cons_zero, List.setIfInBounds_toArray, List.set_cons_zero, List.set_cons_succ]
            refine wpAnyH_take (i := 5) (v := ?_) rfl (by kernel_rfl) (by kernel_rfl) (by kernel_rfl) (fun _ _ _ h => h) (Or.inl ⟨by rfl, ?_⟩) (by assumption) ?_
            rotate_left
            · intro w hSw; (try dsimp only at hSw); go_simp <;> with_reducible rfl
            try simp only [Act.put, List.getElem_toArray, List.getElem_cons_succ, List.getElem_cons_zero, List.setIfInBounds_toArray, List.set_cons_zero, List.set_cons_succ]
            refine wpAnyH_take (i := 6) (v := ?_) rfl (by kernel_rfl) (by kernel_rfl) (by kernel_rfl) (fun _ _ _ h => h) (Or.inl ⟨by rfl, ?_⟩) (by assumption) ?_
            rotate_left
            · intro w hSw; (try dsimp only at hSw); go_simp <;> with_reducible rfl
            try simp only [Act.put, List.getElem_toArray, List.getElem_cons_succ, List.getElem_cons_zero, List.setIfInBounds_toArray, List.set_cons_zero, List.set_cons_succ]
            refine wpAnyH_ready (rs := [4]) (by kernel_rfl) (by simp) ?_
            refine AllReadyH.cons rfl (fun K hK => ?_) AllReadyH.nil
            go_simp
            (go_at_call 73; refine (elem_part (b := gX) (off := 0) (cx := cx) (mx := mx) wd zo HW.out hw1 hw6 hzM h8 hcx).mono ?_; rintro e w9 ⟨rfl, hb⟩; have Q1 := Lib.hid (Q0.out.step hb); have hg9 : gX < w9.heap.size := Nat.lt_of_lt_of_le hgh hb.size; clear hb; clear r0 r1 r2 t0 t1 t2; obtain ⟨⟨r0, r1, r2⟩, -⟩ := Q1.out.at (r := w.heap.size) (a := .int .i64 k) (b := .int .i64 p) (c := .int .i64 q) (by rw [← HBS.out]; simp); obtain ⟨⟨t0, t1, t2⟩, -⟩ := Q1.out.at (r := w4.heap.size) (a := .slice a1 n1' d1) (b := .slice a2 n2' d2) (c := .slice (some ⟨gX, 0, none⟩) mx cx) (by simp))
            go_wp2_with fail
            refine hK.out _ _ (by (try dsimp only); exact ⟨r0, r1, r2, t0, t1, t2⟩) (fun hHeld => ?_)
            clear hK K
            try simp only [Act.put, List.getElem_toArray, List.getElem_cons_succ, List.getElem_cons_zero, List.setIfInBounds_toArray, List.set_cons_zero, List.set_cons_succ]
            refine wpAnyH_ready (rs := [7]) (by kernel_rfl) (by simp) ?_
            refine AllReadyH.cons rfl (fun K hK => ?_) AllReadyH.nil
            go_simp
            (refine (HG.out c w9 HCN.out Q1.out.bel).mono ?_; rintro e w10 ⟨⟨bF, oF, cF, rfl, hbF, hbl, hcF⟩, hb⟩; have Q2 := Lib.hid (Q1.out.step hb); have hgn : bF ≠ gX := (by omega); have HCF := Lib.hid hcF; have hg10 : gX < w10.heap.size := Nat.lt_of_lt_of_le hg9 hb.size; clear hb hbF hcF; rw [HFL.out]; clear r0 r1 r2 t0 t1 t2; obtain ⟨⟨r0, r1, r2⟩, -⟩ := Q2.out.at (r := w.heap.size) (a := .int .i64 k) (b := .int .i64 p) (c := .int .i64 q) (by rw [← HBS.out]; simp); obtain ⟨⟨t0, t1, t2⟩, -⟩ := Q2.out.at (r := w4.heap.size) (a := .slice a1 n1' d1) (b := .slice a2 n2' d2) (c := .slice (some ⟨gX, 0, none⟩) mx cx) (by simp))
            go_wp2_with fail
            refine hK.out _ _ (by (try dsimp only); exact ⟨r0, r1, r2, t0, t1, t2⟩) (fun hHeld => ?_)
            clear hK K
            try simp only [Act.put, List.getElem_toArray, List.getElem_cons_succ, List.getElem_cons_zero, List.setIfInBounds_toArray, List.set_cons_zero, List.set_cons_succ]
            refine wpAnyH_ready (rs := [8]) (by kernel_rfl) (by simp) ?_
            refine AllReadyH.cons rfl (fun K hK => ?_) AllReadyH.nil
            go_simp
            (go_at_call 139; refine (add_to_full (lo := w.heap.size) (g := gX) (m := mx) (cap := cx) HRG.out HML.out HFL.out hw6 h8 (by omega) (Q2.out.row (v := .slice (some ⟨gX, 0, none⟩) mx cx) (xs := accL k p q zf F M c) (by simp) HML.out) hg10 HAE.out HEX.out hbl hgn HCF.out).mono ?_; rw [HAS.out]; rintro e w11 ⟨rfl, ho, hg⟩; have Q3 := Lib.hid (Q2.out.rewrite (X' := accL k p q zf F M (c + 1)) (by rw [HEL2.out (c + 1) (by have := HCN.out; omega)]; exact ho) hg); clear ho hg; clear r0 r1 r2 t0 t1 t2; obtain ⟨⟨r0, r1, r2⟩, -⟩ := Q3.out.at (r := w.heap.size) (a := .int .i64 k) (b := .int .i64 p) (c := .int .i64 q) (by rw [← HBS.out]; simp); obtain ⟨⟨t0, t1, t2⟩, -⟩ := Q3.out.at (r := w4.heap.size) (a := .slice a1 n1' d1) (b := .slice a2 n2' d2) (c := .slice (some ⟨gX, 0, none⟩) mx cx) (by simp))
            go_wp2_with fail
            refine hK.out _ _ (by (try dsimp only); exact ⟨r0, r1, r2, t0, t1, t2⟩) (fun hHeld => ?_)
            clear hK K
            try simp only [Act.put, List.getElem_toArray, List.getElem_cons_succ, List.getElem_cons_zero, List.setIfInBounds_toArray, List.set_cons_zero, List.set_cons_succ]
            refine wpAnyH_done (by kernel_rfl) ?_ _
            clear r0 r1 r2 t0 t1 t2 Q0 Q1 Q2 HML HAE HAS
            go_wp2
            go_roundw
            case rel => exact ⟨c + 1, by omega, by go_num, Q3⟩
            case measure => simp [intOf]; omega
          · obtain rfl : c = N := by omega
            obtain ⟨⟨t0, t1, t2⟩, -⟩ := HR.out.at (r := w4.heap.size) (a := .slice a1 n1' d1) (b := .slice a2 n2' d2) (c := .slice a3 mx cx) (by simp)
            obtain ⟨⟨o0, o1, o2⟩, f0, f1, f2⟩ := HR.out.at (r := w.heap.size + 1) (a := nilV) (b := nilV) (c := nilV) (by rw [← HBS.out]; simp)
            have h1 : Rs w wr [(w.heap.size + 1, nilV, nilV, nilV)] [(.slice a1 n1' d1, tL), (.slice a2 n2' d2, tD), (.slice a3 mx cx, accL k p q zf F M c)] := ((HR.out.sub (rows' := [(.slice a3 mx cx, accL k p q zf F M c), (.slice a1 n1' d1, tL), (.slice a2 n2' d2, tD)]) (List.Sublist.cons_cons _ (List.Sublist.cons _ (List.Sublist.refl _)))).perm (List.Perm.trans (List.Perm.swap _ _ _) (List.Perm.cons _ (List.Perm.swap _ _ _)))).subB (List.Sublist.cons _ (by rw [← HBS.out]; exact List.Sublist.cons_cons _ (List.nil_sublist _)))
            have HFI := Lib.hid h1
            clear h1 HR
            go_wp2
            refine bodyPost_ret (v := .tuple #[tenV (.slice a1 n1' d1) (.slice a2 n2' d2) (.slice a3 mx cx), .bool true]) (by simp [results, Try.results105, go_sem, o0, o1, o2]) rfl ?_
            have R9 := HFI.out.set3 (.slice a1 n1' d1) (.slice a2 n2' d2) (.slice a3 mx cx)
            exact ⟨_, _, _, rfl, R9.ownG, R9.bel⟩
/-- sumOver, over a function value with 2 captured variables. -/
theorem sum_over2 {B B' K wd N : Nat} {av kv z1 z2 : Value} {k p q : Int} {J keep : List Int} (dJ sJ : Int → Int) {F : Nat → List Int} {w : World}
    (hr : ringB k p q = true) (hw : widthI k q = (wd : Int)) (hn : J.Nodup) (h24 : J.length ≤ 24) (hI : allI J) (hd : ∀ n ∈ J, 1 ≤ dJ n ∧ dJ n ≤ 8) (hP : prodL (J.map dJ) = (N : Int)) (hN : N ≤ 65536) (hkb : keep.length ≤ 281474976710656)
    (ha : RdA B w av (axJ J dJ sJ)) (hk : Rd B' w kv (ints keep)) (hB : B ≤ w.heap.size) (hB' : B' ≤ w.heap.size)
    (hK : ∀ (args : Array Value) (w : World), (callFunc K args).run Try.prog w = .ok (.enter K args) w) (hF : ∀ j, j < N → ElemV k p q (F j)) (hG : ∀ (j : Nat) (W : World), j < N → Below w.heap.size w W → Calls Try.prog K #[.int .i64 j, z1, z2] W (ClosF w W (F j))) :
    Calls Try.prog 105 #[ringV k p q, av, kv, .func (.func K) #[] #[z1, z2]] w (NewTen2 w (if zeroTenB k p q (keepL J keep) ((keepL J keep).map dJ) = true then keepL J keep else []) (if zeroTenB k p q (keepL J keep) ((keepL J keep).map dJ) = true then (keepL J keep).map dJ else []) (if zeroTenB k p q (keepL J keep) ((keepL J keep).map dJ) = true then accL k p q (offJ (keepL J keep) ((keepL J keep).map dJ) J (J.map dJ)) F (prodL ((keepL J keep).map dJ)).toNat N else []) (zeroTenB k p q (keepL J keep) ((keepL J keep).map dJ))) := by
  obtain ⟨aa, ca, rfl⟩ := ha.form
  obtain ⟨ak, ck, rfl, -⟩ := ints_form hk
  rw [axJ_len] at ha ⊢
  exact sum_over_full2 dJ sJ hr hw hn rfl h24 hI hd hP hN rfl hkb ha hk hB hB' hK hF hG

set_option maxHeartbeats 1600000 in
theorem sum_over_full5 {B B' m mk ca ck K wd N : Nat} {z1 z2 z3 z4 z5 : Value} {k p q : Int} {J keep : List Int} (dJ sJ : Int → Int) {aa ak : Option Addr} {F : Nat → List Int} {w : World}
    (hr : ringB k p q = true) (hw : widthI k q = (wd : Int)) (hn : J.Nodup) (hm : J.length = m) (h24 : m ≤ 24) (hI : allI J) (hd : ∀ n ∈ J, 1 ≤ dJ n ∧ dJ n ≤ 8) (hP : prodL (J.map dJ) = (N : Int)) (hN : N ≤ 65536) (hkl : keep.length = mk) (hkb : mk ≤ 281474976710656)
    (ha : RdA B w (.slice aa m ca) (axJ J dJ sJ)) (hk : Rd B' w (.slice ak mk ck) (ints keep)) (hB : B ≤ w.heap.size) (hB' : B' ≤ w.heap.size)
    (hK : ∀ (args : Array Value) (w : World), (callFunc K args).run Try.prog w = .ok (.enter K args) w) (hF : ∀ j, j < N → ElemV k p q (F j)) (hG : ∀ (j : Nat) (W : World), j < N → Below w.heap.size w W → Calls Try.prog K #[.int .i64 j, z1, z2, z3, z4, z5] W (ClosF w W (F j))) :
    Calls Try.prog 105 #[ringV k p q, .slice aa m ca, .slice ak mk ck, .func (.func K) #[] #[z1, z2, z3, z4, z5]] w (NewTen2 w (if zeroTenB k p q (keepL J keep) ((keepL J keep).map dJ) = true then keepL J keep else []) (if zeroTenB k p q (keepL J keep) ((keepL J keep).map dJ) = true then (keepL J keep).map dJ else []) (if zeroTenB k p q (keepL J keep) ((keepL J keep).map dJ) = true then accL k p q (offJ (keepL J keep) ((keepL J keep).map dJ) J (J.map dJ)) F (prodL ((keepL J keep).map dJ)).toNat N else []) (zeroTenB k p q (keepL J keep) ((keepL J keep).map dJ))) := by
  have HRG := Lib.hid hr
  have HW := Lib.hid hw
  have HND := Lib.hid hn
  have L1 := Lib.hid hm
  have HI := Lib.hid hI
  have HD := Lib.hid hd
  have HPN := Lib.hid hP
  have HKL := Lib.hid (And.intro hkl hkb)
  have HA := Lib.hid (ha.mono hB)
  have HK := Lib.hid (hk.mono hB')
  have HF := Lib.hid hF
  have HG := Lib.hid hG
  obtain ⟨hw1, hw6⟩ : 1 ≤ wd ∧ wd ≤ 6 := by have h1 := ring_width hr; rw [hw] at h1; omega
  obtain ⟨Kl, hKl⟩ : ∃ l, l = keepL J keep := ⟨_, rfl⟩
  obtain ⟨KD, hKD⟩ : ∃ l, l = (keepL J keep).map dJ := ⟨_, rfl⟩
  rw [← hKD]
  rw [← hKl] at hKD ⊢
  obtain ⟨zb, hzb⟩ : ∃ b, b = zeroTenB k p q Kl KD := ⟨_, rfl⟩
  rw [← hzb]
  obtain ⟨JD, hJD⟩ : ∃ l, l = J.map dJ := ⟨_, rfl⟩
  rw [← hJD]
  obtain ⟨zf, hzf⟩ : ∃ f, f = offJ Kl KD J JD := ⟨_, rfl⟩
  rw [← hzf]
  obtain ⟨M, hM⟩ : ∃ M, M = (prodL KD).toNat := ⟨_, rfl⟩
  rw [← hM]
  obtain ⟨tL, htL⟩ : ∃ l, l = if zb = true then Kl else [] := ⟨_, rfl⟩
  obtain ⟨tD, htD⟩ : ∃ l, l = if zb = true then KD else [] := ⟨_, rfl⟩
  obtain ⟨tX, htX⟩ : ∃ l, l = if zb = true then accL k p q zf F M N else [] := ⟨_, rfl⟩
  rw [← htL, ← htD, ← htX]
  have EKl := Lib.hid hKl
  have EKD := Lib.hid hKD
  have EZB := Lib.hid hzb
  have EJD := Lib.hid hJD
  have EZF := Lib.hid hzf
  have EM := Lib.hid hM
  have TL := Lib.hid htL
  have TD := Lib.hid htD
  have TX := Lib.hid htX
  obtain ⟨i0, hi, hz0, hz1, hz2⟩ := info_parts infoInt
  have J0 := Lib.hid hi
  have J1 := Lib.hid hz0
  have J2 := Lib.hid hz1
  have J3 := Lib.hid hz2
  have S0 : Hid (Rs w ((w.alloc (.cells #[.int .i64 k, .int .i64 p, .int .i64 q] 31)).alloc (.cells #[nilV, nilV, nilV] 28)) [(w.heap.size + 1, nilV, nilV, nilV), (w.heap.size, .int .i64 k, .int .i64 p, .int .i64 q)] [(nilV, keepL (J.take 0) keep), (nilV, (keepL (J.take 0) keep).map dJ)]) := by
    have h := (((Rs.start w).box (.int .i64 k) (.int .i64 p) (.int .i64 q) 31).box nilV nilV nilV 28).nil.nil
    simp only [World.size_alloc] at h
    exact h
  generalize hbs : [(w.heap.size + 1, nilV, nilV, nilV), (w.heap.size, Value.int .i64 k, Value.int .i64 p, Value.int .i64 q)] = bs at S0
  have HBS := Lib.hid hbs
  clear hr hw hn hm hI hd hP hkl ha hk hB hB' hF hG hKl hKD hzb hJD hzf hM htL htD htX hi hz0 hz1 hz2 hbs
  go_enter Try.func105, Try.ntmps105
  go_wp2
  go_loopw [10, 11, 23] (fun u v i wr => ∃ (j n1 e1 e2 : Nat) (ga gb : Option Addr), j ≤ m ∧ i = .int .i64 j ∧ u = .slice ga n1 e1 ∧ v = .slice gb n1 e2 ∧ n1 ≤ j ∧ Hid (n1 = (keepL (J.take j) keep).length) ∧ Hid (Rs w wr bs [(.slice ga n1 e1, keepL (J.take j) keep), (.slice gb n1 e2, (keepL (J.take j) keep).map dJ)])) (fun _ _ i _ => m - (intOf i).toNat)
  case atStart => exact ⟨0, 0, 0, 0, none, none, by omega, rfl, rfl, rfl, by omega, Lib.hid rfl, S0⟩
  case round =>
    clear S0
    obtain ⟨j, n1, c1, c2, ga, gb, hj, rfl, rfl, rfl, hn1, HN1, HR⟩ := hrel
    by_cases hlt : j < m
    · obtain ⟨n, X1⟩ : ∃ n, Hid (J[j]? = some n) := ⟨_, List.getElem?_eq_getElem (by rw [L1.out]; exact hlt)⟩
      obtain ⟨b, off, rfl, -, e1, e2, e3⟩ := (HA.out.below HR.out.bel (Nat.le_refl _)).at (i := j) (a := (n, dJ n, sJ n)) (by unfold axJ; rw [List.getElem?_map, X1.out]; rfl)
      dsimp only at e1 e2 e3
      obtain ⟨d, hd⟩ : ∃ d, d = dJ n := ⟨_, rfl⟩
      obtain ⟨s, hs⟩ : ∃ s, s = sJ n := ⟨_, rfl⟩
      rw [← hd] at e2
      rw [← hs] at e3
      have HDN := Lib.hid hd
      have R1 := Lib.hid (HR.out.box (.int .i64 n) (.int .i64 d) (.int .i64 s) 96)
      obtain ⟨⟨o0, o1, -⟩, -⟩ := R1.out.at (r := wr.heap.size) (a := .int .i64 n) (b := .int .i64 d) (c := .int .i64 s) (by simp)
      have HC := Lib.hid (contains_any n (HK.out.below R1.out.bel (Nat.le_refl _)) (by rw [HKL.out.1]; exact HKL.out.2))
      clear hd hs
      by_cases hin : n ∈ keep
      · rw [decide_eq_true hin] at HC
        have KY := Lib.hid (keep_yes X1.out hin)
        have KD2 : Hid ((keepL (J.take j) keep).map dJ ++ [d] = (keepL (J.take (j + 1)) keep).map dJ) := Lib.hid (by rw [HDN.out]; exact keep_snoc X1.out hin)
        have HN2 : Hid (n1 + 1 = (keepL (J.take (j + 1)) keep).length) := Lib.hid (by rw [KY.out, List.length_append, ← HN1.out]; rfl)
        have HDL : Hid (((keepL (J.take j) keep).map dJ).length = n1) := Lib.hid (by rw [List.length_map, HN1.out])
        have A1 := Lib.hid (R1.out.alloc (.cells #[.int .i64 n] 3))
        have O1 := Lib.hid (A1.out.row (List.mem_cons_self) HN1.out.symm : World.ownsRow _ w.heap.size 3 1 (.slice ga n1 c1) n1 (ints (keepL (J.take j) keep)))
        clear hin
        go_wp2_with fail
        refine HC.out.mono ?_
        rintro e w1 ⟨rfl, rfl⟩
        go_wp2_with (at_builtin; go_must (refine wpList_append_lies _ rfl _ _ 24 rfl w.heap.size 3 i0 (.int .i64 0) 1 8 Try.underlying24 J0.out J1.out J2.out J3.out rfl (by decide) _ n1 (ints (keepL (J.take j) keep)) rfl O1.out ⟨wr.heap.size + 1, 0, none⟩ 1 1 [.int .i64 n] rfl rfl (cell_one_at _ _ (by simp)) ?c2 (by decide) ?c3 ?c4 ?c5 _ rfl ?_))
        case c2 => first | rfl | (intro u hu; simp at hu; subst hu; rfl)
        case c3 => unfold maxLen; omega
        case c4 => omega
        case c5 => exact A1.out.bel.size
        intro g1 cap1 w2 hown hgrow hl1 _
        have R2 := Lib.hid (A1.out.app1 HN1.out.symm hown hgrow (by simp only [World.size_alloc] at hl1 ⊢; exact hl1))
        rw [← KY.out] at R2
        clear o0 o1
        obtain ⟨⟨-, o1, -⟩, -⟩ := R2.out.at (r := wr.heap.size) (a := .int .i64 n) (b := .int .i64 d) (c := .int .i64 s) (by simp)
        have A2 := Lib.hid (R2.out.swap.alloc (.cells #[.int .i64 d] 3))
        have O2 := Lib.hid (A2.out.row (List.mem_cons_self) HDL.out : World.ownsRow _ w.heap.size 3 1 (.slice gb n1 c2) n1 (ints ((keepL (J.take j) keep).map dJ)))
        clear hown hgrow hl1 O1 A1 R1 HR HC e1 e2 e3
        go_wp2_with (at_builtin; go_must (refine wpList_append_lies _ rfl _ _ 24 rfl w.heap.size 3 i0 (.int .i64 0) 1 8 Try.underlying24 J0.out J1.out J2.out J3.out rfl (by decide) _ n1 (ints ((keepL (J.take j) keep).map dJ)) rfl O2.out ⟨w2.heap.size, 0, none⟩ 1 1 [.int .i64 d] rfl rfl (cell_one_at _ _ rfl) ?c2 (by decide) ?c3 ?c4 ?c5 _ rfl ?_))
        case c2 => first | rfl | (intro u hu; simp at hu; subst hu; rfl)
        case c3 => unfold maxLen; omega
        case c4 => omega
        case c5 => exact A2.out.bel.size
        intro g2 cap2 w3 hown hgrow hl1 _
        have R3 := Lib.hid (A2.out.app1 HDL.out hown hgrow (by simp only [World.size_alloc] at hl1 ⊢; exact hl1))
        rw [KD2.out] at R3
        have R4 := Lib.hid (R3.out.swap.subB (bs' := bs) (List.Sublist.cons _ (List.Sublist.refl _)))
        clear hown hgrow hl1 O2 A2 R2 R3 o1
        go_wp2
        go_roundw
        case rel => exact ⟨j + 1, n1 + 1, cap1, cap2, some ⟨g1, 0, none⟩, some ⟨g2, 0, none⟩, by omega, by go_num, rfl, rfl, by omega, HN2, R4⟩
        case measure => simp [intOf]; omega
      · rw [decide_eq_false hin] at HC
        have KN := Lib.hid (keep_no X1.out hin)
        have R4 := Lib.hid (R1.out.subB (bs' := bs) (List.Sublist.cons _ (List.Sublist.refl _)))
        rw [← KN.out] at HN1 R4
        clear hin
        go_wp2_with fail
        refine HC.out.mono ?_
        rintro e w1 ⟨rfl, rfl⟩
        clear HC R1 HR o0 o1 e1 e2 e3
        go_wp2
        go_roundw
        case rel => exact ⟨j + 1, n1, c1, c2, ga, gb, by omega, by go_num, rfl, rfl, by omega, HN1, R4⟩
        case measure => simp [intOf]; omega
    · obtain rfl : j = m := by omega
      have E1 : Hid (J.take j = J) := Lib.hid (List.take_of_length_le (by rw [L1.out]; exact Nat.le_refl _))
      rw [E1.out, ← EKl.out, ← EKD.out] at HR
      rw [E1.out, ← EKl.out] at HN1
      have HLD : Hid (KD.length = n1) := Lib.hid (by rw [EKD.out, List.length_map, HN1.out])
      have HZ := Lib.hid (zero_tensor_impl (k := k) (p := p) (q := q) (HR.out.rd (v := .slice ga n1 c1) (xs := Kl) (by simp)) (HR.out.rd (v := .slice gb n1 c2) (xs := KD) (by simp)) (Nat.le_refl _) (by rw [← HN1.out]; omega) (by rw [HLD.out]; omega) (fun z hz => HI.out z (by rw [EKl.out] at hz; exact keep_sub z hz)))
      rw [← EZB.out] at HZ
      obtain ⟨⟨r0, r1, r2⟩, -⟩ := HR.out.at (r := w.heap.size) (a := .int .i64 k) (b := .int .i64 p) (c := .int .i64 q) (by rw [← HBS.out]; simp)
      cases zb with
      | false =>
        simp only [Bool.false_eq_true, if_false] at HZ
        obtain rfl : tL = [] := by rw [TL.out]; simp
        obtain rfl : tD = [] := by rw [TD.out]; simp
        obtain rfl : tX = [] := by rw [TX.out]; simp
        go_wp2_with fail
        refine HZ.out.mono ?_
        rintro e w4 ⟨u1, u2, u3, rfl, ho, hb⟩
        obtain ⟨a1, n1', d1, rfl⟩ := (show Own _ _ _ u1 [] from ho.1 (u1, []) (by simp)).slice
        obtain ⟨a2, n2', d2, rfl⟩ := (show Own _ _ _ u2 [] from ho.1 (u2, []) (by simp)).slice
        obtain ⟨a3, n3', d3, rfl⟩ := (show Own _ _ _ u3 [] from ho.1 (u3, []) (by simp)).slice
        have R5 := Lib.hid ((HR.out.step hb).alloc (.cells #[.slice a1 n1' d1, .slice a2 n2' d2, .slice a3 n3' d3] 28))
        obtain ⟨⟨t0, t1, t2⟩, f0, f1, f2⟩ := R5.out.at (r := w.heap.size + 1) (a := nilV) (b := nilV) (c := nilV) (by rw [← HBS.out]; simp)
        clear ho hb HZ HR r0 r1 r2
        go_wp2
        refine bodyPost_ret (v := .tuple #[tenV nilV nilV nilV, .bool false]) (by simp [results, Try.results105, go_sem, t0, t1, t2]) rfl ?_
        exact NewTen2.nils (((R5.out.bel.setCell (by show w.heap.size ≤ w.heap.size + 1; omega) _).setCell (by show w.heap.size ≤ w.heap.size + 1; omega) _).setCell (by show w.heap.size ≤ w.heap.size + 1; omega) _)
      | true =>
        simp only [if_true] at HZ
        obtain rfl : tL = Kl := by rw [TL.out]; simp
        obtain rfl : tD = KD := by rw [TD.out]; simp
        obtain rfl : tX = accL k p q zf F M N := by rw [TX.out]; simp
        have hsz : ¬ sizeI tL tD < 0 := by
          have h := EZB.out
          unfold zeroTenB at h
          rw [HRG.out] at h
          simp only [Bool.true_and] at h
          have h2 : 0 ≤ sizeI tL tD := of_decide_eq_true h.symm
          omega
        obtain ⟨hax, hp1, hp2⟩ := sizeI_ax hsz
        have HAX := Lib.hid hax
        have HMP : Hid (prodL tD = (M : Int) ∧ 1 ≤ M ∧ M ≤ 4096) := Lib.hid (by rw [EM.out]; omega)
        have hMb : M ≤ 4096 := HMP.out.2.2
        have HSUB : Hid (∀ n ∈ tL, n ∈ J) := Lib.hid (fun n h => keep_sub n (by rw [EKl.out] at h; exact h))
        have HSX : Hid (SubAx tL tD J JD) := Lib.hid (by
          have h := SubAx.keep (JD := JD) keep HND.out
          rw [EJD.out, keepD_map, ← EKl.out, ← EKD.out, ← EJD.out] at h
          exact h)
        have HJ1 : Hid (∀ x ∈ JD, 1 ≤ x) := Lib.hid (fun x hx => by rw [EJD.out] at hx; obtain ⟨n, hn, rfl⟩ := List.mem_map.1 hx; exact (HD.out n hn).1)
        have HJL : Hid (J.length = JD.length) := Lib.hid (by rw [EJD.out]; simp)
        have HZF : Hid (∀ c, zf c < M) := Lib.hid (fun c => by
          have h := (HSX.out.off HJL.out (fun d hd => (HAX.out.2.2.2.1 d hd).1) HJ1.out HND.out c).2
          rw [← EZF.out, HMP.out.1] at h
          omega)
        have HOFF : Hid (offsA (axJ J dJ (stepI tL tD)) = (List.range N).map fun c : Nat => (zf c : Int)) := Lib.hid (by
          have h := offs_steps HSX.out EJD.out.symm HND.out (fun d hd => (HAX.out.2.2.2.1 d hd).1) HJ1.out
          rw [← EZF.out, EJD.out, HPN.out, Int.toNat_natCast] at h
          exact h)
        obtain ⟨OF, hOF⟩ : ∃ l, l = (List.range N).map fun c : Nat => (zf c : Int) := ⟨_, rfl⟩
        rw [← hOF] at HOFF
        have HOL : Hid (OF.length = N) := Lib.hid (by rw [hOF]; simp)
        have HOA : Hid (∀ c, c < N → OF[c]? = some (zf c : Int)) := Lib.hid (fun c hc => by rw [hOF, List.getElem?_map, List.getElem?_range hc]; rfl)
        have HPA : Hid (PA (axJ J dJ (stepI tL tD))) := Lib.hid (axJ_pa (by rw [L1.out]; exact h24) HD.out (fun n _ => by
          have h := stepI_small (L := tL) (fun d hd => (HAX.out.2.2.2.1 d hd).1) (by rw [HMP.out.1]; omega) n
          omega) (by rw [HPN.out]; omega))
        have HEL : Hid (∀ c, c ≤ N → (accL k p q zf F M c).length = M * wd) := Lib.hid (fun c hc => acc_len HRG.out HW.out HF.out hc)
        have HZ0 : Hid (zeroTenL k p q tD = accL k p q zf F M 0) := Lib.hid (by unfold zeroTenL; rw [← EM.out]; exact accL_start _ _ _ _ _ _)
        rw [HZ0.out] at HZ
        clear hsz hax hp1 hp2 hOF
        go_wp2_with fail
        refine HZ.out.mono ?_
        rintro e w4 ⟨u1, u2, u3, rfl, ho, hb⟩
        obtain ⟨a1, n1', d1, rfl⟩ := (show Own _ _ _ u1 tL from ho.1 (u1, tL) (by simp)).slice
        obtain ⟨a2, n2', d2, rfl⟩ := (show Own _ _ _ u2 tD from ho.1 (u2, tD) (by simp)).slice
        obtain ⟨a3, cx, rfl, -⟩ := ints_form (show Own _ _ _ u3 (accL k p q zf F M 0) from ho.1 (u3, accL k p q zf F M 0) (by simp)).rd
        obtain ⟨mx, hmx⟩ : ∃ m, m = M * wd := ⟨_, rfl⟩
        have hmxb : mx ≤ 24576 := by rw [hmx]; exact Nat.mul_le_mul hMb hw6
        have HMX := Lib.hid hmx
        have HEL2 : Hid (∀ c, c ≤ N → (accL k p q zf F M c).length = mx) := Lib.hid (fun c hc => by rw [HEL.out c hc, hmx])
        rw [HEL2.out 0 (Nat.zero_le _)] at ho ⊢
        have R4 := Lib.hid ((HR.out.new3 hb ho).sub (rows' := [(.slice a1 n1' d1, tL), (.slice a2 n2' d2, tD), (.slice a3 mx cx, accL k p q zf F M 0)]) (List.Sublist.cons_cons _ (List.Sublist.cons_cons _ (List.Sublist.cons_cons _ (List.nil_sublist _)))))
        have R5 := Lib.hid (R4.out.box (.slice a1 n1' d1) (.slice a2 n2' d2) (.slice a3 mx cx) 28)
        have HAC := Lib.hid (axes_impl (B := w4.heap.size + 1) (w := w4.alloc (.cells #[.slice a1 n1' d1, .slice a2 n2' d2, .slice a3 mx cx] 28)) (L := tL) (D := tD) (X := accL k p q zf F M 0) ⟨(R5.out.rd (v := .slice a1 n1' d1) (xs := tL) (by simp)).mono (by simp), (R5.out.rd (v := .slice a2 n2' d2) (xs := tD) (by simp)).mono (by simp), (R5.out.rd (v := .slice a3 mx cx) (xs := accL k p q zf F M 0) (by simp)).mono (by simp)⟩ (by simp) (by simp) HAX.out.2.1 HAX.out.1 HAX.out.2.2.2.1 (by rw [HMP.out.1]; omega))
        rw [axesL_map HAX.out.2.2.2.2] at HAC
        obtain ⟨⟨t0, t1, t2⟩, -⟩ := R5.out.at (r := w4.heap.size) (a := .slice a1 n1' d1) (b := .slice a2 n2' d2) (c := .slice a3 mx cx) (by simp)
        clear ho hb HZ HR R4 hmx r0 r1 r2
        go_wp2_with fail
        refine HAC.out.mono ?_
        rintro e w6 ⟨vX, rfl, ho, hb⟩
        have R6 := Lib.hid (R5.out.step hb)
        have HJN := Lib.hid (join_axes_impl dJ sJ (dimI tL tD) (stepI tL tD) HND.out HAX.out.2.2.2.2 (by rw [L1.out]; exact h24) (by have := HAX.out.1; omega) (HA.out.below R6.out.bel (Nat.le_refl _)) ho.rd R6.out.bel.size (Nat.le_refl _))
        have HJK := axS_keep (dJ := dJ) HSUB.out
        rw [← EKD.out] at HJK
        have HJ2 := Lib.hid HJK
        clear ho hb HAC R5 HJK t0 t1 t2
        go_wp2_with fail
        refine HJN.out.mono ?_
        rintro e w7 (⟨-, vF, vS, rfl, hoF, hoS, hb⟩ | ⟨hno, -, -⟩)
        rotate_left
        · exact absurd HJ2.out.1 hno
        rw [HJ2.out.2] at hoS
        have R7 := Lib.hid (R6.out.step hb)
        have HOI := Lib.hid (offsets_impl HPA.out hoS.rd (Nat.le_refl _))
        rw [HOFF.out] at HOI
        clear hoF hoS hb HJN R6
        go_wp2_with fail
        refine HOI.out.mono ?_
        rintro e w8 ⟨vO, rfl, ho, hb⟩
        obtain ⟨aO, cO, rfl, -⟩ := ints_form ho.rd
        have R8 := Lib.hid ((R7.out.new hb ho).perm (rows' := [(.slice a3 mx cx, accL k p q zf F M 0), (.slice aO OF.length cO, OF), (.slice a1 n1' d1, tL), (.slice a2 n2' d2, tD)]) (List.Perm.trans (List.Perm.cons _ (List.Perm.trans (List.Perm.cons _ (List.Perm.swap _ _ _)) (List.Perm.swap _ _ _))) (List.Perm.swap _ _ _)))
        rw [HOL.out] at R8 ⊢
        clear ho hb HOI R7
        go_wp2
        go_loopw [63] (fun i wr => ∃ c : Nat, c ≤ N ∧ i = .int .i64 c ∧ Hid (Rs w wr ((w4.heap.size, .slice a1 n1' d1, .slice a2 n2' d2, .slice a3 mx cx) :: bs) [(.slice a3 mx cx, accL k p q zf F M c), (.slice aO N cO, OF), (.slice a1 n1' d1, tL), (.slice a2 n2' d2, tD)])) (fun i _ => N - (intOf i).toNat)
        case atStart => exact ⟨0, by omega, rfl, R8⟩
        case round =>
          clear R8
          obtain ⟨c, hc, rfl, HR⟩ := hrel
          by_cases hlt : c < N
          · have HCN := Lib.hid hlt
            obtain ⟨gO, rfl, -, -, hcO, -⟩ := (HR.out.own1 (v := .slice aO N cO) (xs := OF) (by simp)).slot HOL.out (by omega)
            have e1 := hcO c (zf c : Int) (HOA.out c hlt)
            have hz := HZF.out c
            have hmz : 0 < mx := by rw [HMX.out]; exact Nat.mul_pos (by omega) (by omega)
            obtain ⟨gX, rfl, hgl, hgh, -, -⟩ := (HR.out.own1 (v := .slice a3 mx cx) (xs := accL k p q zf F M c) (by simp)).slot (HEL2.out c hc) hmz
            have hcx : mx ≤ cx := own_cap (HR.out.row (v := .slice (some ⟨gX, 0, none⟩) mx cx) (xs := accL k p q zf F M c) (by simp) (HEL2.out c hc))
            obtain ⟨zo, hzo⟩ : ∃ z, z = zf c := ⟨_, rfl⟩
            have h8 := Nat.mul_le_mul_right wd (show zo + 1 ≤ M by omega)
            rw [Nat.add_mul, Nat.one_mul, ← HMX.out] at h8
            have hzM : zo ≤ 4096 := by omega
            rw [← hzo] at e1
            have HEF := Lib.hid (HF.out c hlt)
            have HFL : Hid ((F c).length = wd) := Lib.hid (by have h1 := HEF.out.1; have h2 := HW.out; omega)
            have hta := (ring_top HRG.out).2
            have HAE : Hid (∀ j a, j < wd → (accL k p q zf F M c)[zo * wd + j]? = some a → 0 ≤ a ∧ a ≤ 1048576) := Lib.hid (fun j a hj ha => acc_small HRG.out HW.out HF.out hc (by rw [hzo]; exact hz) hj ha)
            have HAS : Hid (addAt k p (accL k p q zf F M c) (zo * wd) (F c) wd = accL k p q zf F M (c + 1)) := Lib.hid (by
              rw [hzo]
              exact acc_add HRG.out HW.out HF.out hlt hz)
            have HEX : Hid (Within 1048576 (F c)) := Lib.hid (fun x hx => by have h := HEF.out.2 x hx; omega)
            obtain ⟨⟨r0, r1, r2⟩, -⟩ := HR.out.at (r := w.heap.size) (a := .int .i64 k) (b := .int .i64 p) (c := .int .i64 q) (by rw [← HBS.out]; simp)
            obtain ⟨⟨t0, t1, t2⟩, -⟩ := HR.out.at (r := w4.heap.size) (a := .slice a1 n1' d1) (b := .slice a2 n2' d2) (c := .slice (some ⟨gX, 0, none⟩) mx cx) (by simp)
            have Q0 := Lib.hid HR.out.drew
            have HML : Hid ((accL k p q zf F M c).length = mx) := Lib.hid (HEL2.out c hc)
            clear hcO hz hmz hzo hta HR
            go_wp2_with fail
            refine wp_region_held_drew (S := (fun w' => w'.cell? ⟨w.heap.size, 0, none⟩ = some (.int .i64 k) ∧ w'.cell? ⟨w.heap.size, 1, none⟩ = some (.int .i64 p) ∧ w'.cell? ⟨w.heap.size, 2, none⟩ = some (.int .i64 q) ∧ w'.cell? ⟨w4.heap.size, 0, none⟩ = some (.slice a1 n1' d1) ∧ w'.cell? ⟨w4.heap.size, 1, none⟩ = some (.slice a2 n2' d2) ∧ w'.cell? ⟨w4.heap.size, 2, none⟩ = some (.slice (some ⟨gX, 0, none⟩) mx cx))) (by kernel_rfl) (by (try dsimp only); exact ⟨r0, r1, r2, t0, t1, t2⟩) (fun hHeld => ?_)
            refine wpAnyH_take (i := 0) (v := ?_) rfl (by kernel_rfl) (by kernel_rfl) (by kernel_rfl) (fun _ _ _ h => h) (Or.inl ⟨by rfl, ?_⟩) (by assumption) ?_
            rotate_left
            · intro w hSw; (try dsimp only at hSw); go_simp <;> with_reducible rfl
            try simp only [Act.put, List.getElem_toArray, List.getElem_cons_zero, List.setIfInBounds_toArray, List.set_cons_zero, List.set_cons_succ]
            refine wpAnyH_take (i := 1) (v := ?_) rfl (by kernel_rfl) (by kernel_rfl) (by kernel_rfl) (fun _ _ _ h => h) (Or.inl ⟨by rfl, ?_⟩) (by assumption) ?_
            rotate_left
            · intro w hSw; (try dsimp only at hSw); go_simp <;> with_reducible rfl
            try simp only [Act.put, List.getElem_toArray, List.getElem_cons_succ, List.getElem_cons_zero, List.setIfInBounds_toArray, List.set_cons_zero, List.set_cons_succ]
            refine wpAnyH_take (i := 2) (v := ?_) rfl (by kernel_rfl) (by kernel_rfl) (by kernel_rfl) (fun _ _ _ h => h) (Or.inl ⟨by rfl, ?_⟩) (by assumption) ?_
            rotate_left
            · intro w hSw; (try dsimp only at hSw); go_simp <;> with_reducible rfl
            try simp only [Act.put, List.getElem_toArray, List.getElem_cons_succ, List.getElem_cons_zero, List.setIfInBounds_toArray, List.set_cons_zero, List.set_cons_succ]
            refine wpAnyH_take (i := 3) (v := ?_) rfl (by kernel_rfl) (by kernel_rfl) (by kernel_rfl) (fun _ _ _ h => h) (Or.inl ⟨by rfl, ?_⟩) (by assumption) ?_
            rotate_left
            · intro w hSw; (try dsimp only at hSw); go_simp <;> with_reducible rfl
            try simp only [Act.put, List.getElem_toArray, List.getElem_cons_succ, List.getElem_cons_zero, List.setIfInBounds_toArray, List.set_cons_zero, List.set_cons_succ]
            refine wpAnyH_take (i := 5) (v := ?_) rfl (by kernel_rfl) (by kernel_rfl) (by kernel_rfl) (fun _ _ _ h => h) (Or.inl ⟨by rfl, ?_⟩) (by assumption) ?_
            rotate_left
            · intro w hSw; (try dsimp only at hSw); go_simp <;> with_reducible rfl
            try simp only [Act.put, List.getElem_toArray, List.getElem_cons_succ, List.getElem_cons_zero, List.setIfInBounds_toArray, List.set_cons_zero, List.set_cons_succ]
            refine wpAnyH_take (i := 6) (v := ?_) rfl (by kernel_rfl) (by kernel_rfl) (by kernel_rfl) (fun _ _ _ h => h) (Or.inl ⟨by rfl, ?_⟩) (by assumption) ?_
            rotate_left
            · intro w hSw; (try dsimp only at hSw); go_simp <;> with_reducible rfl
            try simp only [Act.put, List.getElem_toArray, List.getElem_cons_succ, List.getElem_cons_zero, List.setIfInBounds_toArray, List.set_cons_zero, List.set_cons_succ]
            refine wpAnyH_ready (rs := [4]) (by kernel_rfl) (by simp) ?_
            refine AllReadyH.cons rfl (fun K hK => ?_) AllReadyH.nil
            go_simp
            (go_at_call 73; refine (elem_part (b := gX) (off := 0) (cx := cx) (mx := mx) wd zo HW.out hw1 hw6 hzM h8 hcx).mono ?_; rintro e w9 ⟨rfl, hb⟩; have Q1 := Lib.hid (Q0.out.step hb); have hg9 : gX < w9.heap.size := Nat.lt_of_lt_of_le hgh hb.size; clear hb; clear r0 r1 r2 t0 t1 t2; obtain ⟨⟨r0, r1, r2⟩, -⟩ := Q1.out.at (r := w.heap.size) (a := .int .i64 k) (b := .int .i64 p) (c := .int .i64 q) (by rw [← HBS.out]; simp); obtain ⟨⟨t0, t1, t2⟩, -⟩ := Q1.out.at (r := w4.heap.size) (a := .slice a1 n1' d1) (b := .slice a2 n2' d2) (c := .slice (some ⟨gX, 0, none⟩) mx cx) (by simp))
            go_wp2_with fail
            refine hK.out _ _ (by (try dsimp only); exact ⟨r0, r1, r2, t0, t1, t2⟩) (fun hHeld => ?_)
            clear hK K
            try simp only [Act.put, List.getElem_toArray, List.getElem_cons_succ, List.getElem_cons_zero, List.setIfInBounds_toArray, List.set_cons_zero, List.set_cons_succ]
            refine wpAnyH_ready (rs := [7]) (by kernel_rfl) (by simp) ?_
            refine AllReadyH.cons rfl (fun K hK => ?_) AllReadyH.nil
            go_simp
            (refine (HG.out c w9 HCN.out Q1.out.bel).mono ?_; rintro e w10 ⟨⟨bF, oF, cF, rfl, hbF, hbl, hcF⟩, hb⟩; have Q2 := Lib.hid (Q1.out.step hb); have hgn : bF ≠ gX := (by omega); have HCF := Lib.hid hcF; have hg10 : gX < w10.heap.size := Nat.lt_of_lt_of_le hg9 hb.size; clear hb hbF hcF; rw [HFL.out]; clear r0 r1 r2 t0 t1 t2; obtain ⟨⟨r0, r1, r2⟩, -⟩ := Q2.out.at (r := w.heap.size) (a := .int .i64 k) (b := .int .i64 p) (c := .int .i64 q) (by rw [← HBS.out]; simp); obtain ⟨⟨t0, t1, t2⟩, -⟩ := Q2.out.at (r := w4.heap.size) (a := .slice a1 n1' d1) (b := .slice a2 n2' d2) (c := .slice (some ⟨gX, 0, none⟩) mx cx) (by simp))
            go_wp2_with fail
            refine hK.out _ _ (by (try dsimp only); exact ⟨r0, r1, r2, t0, t1, t2⟩) (fun hHeld => ?_)
            clear hK K
            try simp only [Act.put, List.getElem_toArray, List.getElem_cons_succ, List.getElem_cons_zero, List.setIfInBounds_toArray, List.set_cons_zero, List.set_cons_succ]
            refine wpAnyH_ready (rs := [8]) (by kernel_rfl) (by simp) ?_
            refine AllReadyH.cons rfl (fun K hK => ?_) AllReadyH.nil
            go_simp
            (go_at_call 139; refine (add_to_full (lo := w.heap.size) (g := gX) (m := mx) (cap := cx) HRG.out HML.out HFL.out hw6 h8 (by omega) (Q2.out.row (v := .slice (some ⟨gX, 0, none⟩) mx cx) (xs := accL k p q zf F M c) (by simp) HML.out) hg10 HAE.out HEX.out hbl hgn HCF.out).mono ?_; rw [HAS.out]; rintro e w11 ⟨rfl, ho, hg⟩; have Q3 := Lib.hid (Q2.out.rewrite (X' := accL k p q zf F M (c + 1)) (by rw [HEL2.out (c + 1) (by have := HCN.out; omega)]; exact ho) hg); clear ho hg; clear r0 r1 r2 t0 t1 t2; obtain ⟨⟨r0, r1, r2⟩, -⟩ := Q3.out.at (r := w.heap.size) (a := .int .i64 k) (b := .int .i64 p) (c := .int .i64 q) (by rw [← HBS.out]; simp); obtain ⟨⟨t0, t1, t2⟩, -⟩ := Q3.out.at (r := w4.heap.size) (a := .slice a1 n1' d1) (b := .slice a2 n2' d2) (c := .slice (some ⟨gX, 0, none⟩) mx cx) (by simp))
            go_wp2_with fail
            refine hK.out _ _ (by (try dsimp only); exact ⟨r0, r1, r2, t0, t1, t2⟩) (fun hHeld => ?_)
            clear hK K
            try simp only [Act.put, List.getElem_toArray, List.getElem_cons_succ, List.getElem_cons_zero, List.setIfInBounds_toArray, List.set_cons_zero, List.set_cons_succ]
            refine wpAnyH_done (by kernel_rfl) ?_ _
            clear r0 r1 r2 t0 t1 t2 Q0 Q1 Q2 HML HAE HAS
            go_wp2
            go_roundw
            case rel => exact ⟨c + 1, by omega, by go_num, Q3⟩
            case measure => simp [intOf]; omega
          · obtain rfl : c = N := by omega
            obtain ⟨⟨t0, t1, t2⟩, -⟩ := HR.out.at (r := w4.heap.size) (a := .slice a1 n1' d1) (b := .slice a2 n2' d2) (c := .slice a3 mx cx) (by simp)
            obtain ⟨⟨o0, o1, o2⟩, f0, f1, f2⟩ := HR.out.at (r := w.heap.size + 1) (a := nilV) (b := nilV) (c := nilV) (by rw [← HBS.out]; simp)
            have h1 : Rs w wr [(w.heap.size + 1, nilV, nilV, nilV)] [(.slice a1 n1' d1, tL), (.slice a2 n2' d2, tD), (.slice a3 mx cx, accL k p q zf F M c)] := ((HR.out.sub (rows' := [(.slice a3 mx cx, accL k p q zf F M c), (.slice a1 n1' d1, tL), (.slice a2 n2' d2, tD)]) (List.Sublist.cons_cons _ (List.Sublist.cons _ (List.Sublist.refl _)))).perm (List.Perm.trans (List.Perm.swap _ _ _) (List.Perm.cons _ (List.Perm.swap _ _ _)))).subB (List.Sublist.cons _ (by rw [← HBS.out]; exact List.Sublist.cons_cons _ (List.nil_sublist _)))
            have HFI := Lib.hid h1
            clear h1 HR
            go_wp2
            refine bodyPost_ret (v := .tuple #[tenV (.slice a1 n1' d1) (.slice a2 n2' d2) (.slice a3 mx cx), .bool true]) (by simp [results, Try.results105, go_sem, o0, o1, o2]) rfl ?_
            have R9 := HFI.out.set3 (.slice a1 n1' d1) (.slice a2 n2' d2) (.slice a3 mx cx)
            exact ⟨_, _, _, rfl, R9.ownG, R9.bel⟩
/-- sumOver, over a function value with 5 captured variables. -/
theorem sum_over5 {B B' K wd N : Nat} {av kv z1 z2 z3 z4 z5 : Value} {k p q : Int} {J keep : List Int} (dJ sJ : Int → Int) {F : Nat → List Int} {w : World}
    (hr : ringB k p q = true) (hw : widthI k q = (wd : Int)) (hn : J.Nodup) (h24 : J.length ≤ 24) (hI : allI J) (hd : ∀ n ∈ J, 1 ≤ dJ n ∧ dJ n ≤ 8) (hP : prodL (J.map dJ) = (N : Int)) (hN : N ≤ 65536) (hkb : keep.length ≤ 281474976710656)
    (ha : RdA B w av (axJ J dJ sJ)) (hk : Rd B' w kv (ints keep)) (hB : B ≤ w.heap.size) (hB' : B' ≤ w.heap.size)
    (hK : ∀ (args : Array Value) (w : World), (callFunc K args).run Try.prog w = .ok (.enter K args) w) (hF : ∀ j, j < N → ElemV k p q (F j)) (hG : ∀ (j : Nat) (W : World), j < N → Below w.heap.size w W → Calls Try.prog K #[.int .i64 j, z1, z2, z3, z4, z5] W (ClosF w W (F j))) :
    Calls Try.prog 105 #[ringV k p q, av, kv, .func (.func K) #[] #[z1, z2, z3, z4, z5]] w (NewTen2 w (if zeroTenB k p q (keepL J keep) ((keepL J keep).map dJ) = true then keepL J keep else []) (if zeroTenB k p q (keepL J keep) ((keepL J keep).map dJ) = true then (keepL J keep).map dJ else []) (if zeroTenB k p q (keepL J keep) ((keepL J keep).map dJ) = true then accL k p q (offJ (keepL J keep) ((keepL J keep).map dJ) J (J.map dJ)) F (prodL ((keepL J keep).map dJ)).toNat N else []) (zeroTenB k p q (keepL J keep) ((keepL J keep).map dJ))) := by
  obtain ⟨aa, ca, rfl⟩ := ha.form
  obtain ⟨ak, ck, rfl, -⟩ := ints_form hk
  rw [axJ_len] at ha ⊢
  exact sum_over_full5 dJ sJ hr hw hn rfl h24 hI hd hP hN rfl hkb ha hk hB hB' hK hF hG
end Go.Proofs.Ytfdjlahaiogabaa
