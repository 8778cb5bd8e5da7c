
/- laws.ints on two slices that read the same. -/
import Derived.Test.YtfdjlahaiogababLawKit
import Derived.Lib.Hide
import Derived.Test.YtfdjlahaiogababPairsMath
import Derived.Test.YtfdjlahaiogababPairImpl
import Derived.Test.YtfdjlahaiogababDrawn
import Derived.Laws.AppendOwnNone
import Derived.Test.YtfdjlahaiogababSameImpl
namespace Go.Proofs.Ytfdjlahaiogabab
set_option maxRecDepth 20000
open Go.RowKit

set_option maxHeartbeats 800000 in
theorem ints_same {B B' : Nat} {va vb : Value} {xs : List Int} {w : World} (ha : Rd B w va (ints xs)) (hb : Rd B' w vb (ints xs)) (hn : xs.length ≤ 281474976710656) :
    Calls Try.prog 51 #[va, vb] w fun e w' => e = .returned (.bool true) ∧ w = w' := by
  obtain ⟨a, ca, rfl, hca⟩ := ints_form ha
  obtain ⟨b, cb, rfl, hcb⟩ := ints_form hb
  obtain ⟨n, hnn⟩ : ∃ n, n = xs.length := ⟨_, rfl⟩
  rw [← hnn] at hn ⊢
  have HN := Lib.hid hnn.symm
  have HA := Lib.hid hca
  have HBB := Lib.hid hcb
  clear ha hb hca hcb hnn
  go_enter Try.func51, Try.ntmps51
  go_wp2
  go_loop [9] (fun i => ∃ j : Nat, j ≤ n ∧ i = .int .i64 j) (fun i => n - (intOf i).toNat)
  case atStart => exact ⟨0, by omega, rfl⟩
  case round =>
    obtain ⟨j, hj, rfl⟩ := hrel
    by_cases hlt : j < n
    · obtain ⟨ba, oa, rfl, -, hc1⟩ := HA.out (by rw [HN.out]; omega)
      obtain ⟨bb, ob, rfl, -, hc2⟩ := HBB.out (by rw [HN.out]; omega)
      obtain ⟨x, e1, X1⟩ := ints_cell HN.out hc1 hlt
      obtain ⟨y, e2, Y1⟩ := ints_cell HN.out hc2 hlt
      obtain rfl : x = y := Option.some.inj (X1.out.symm.trans Y1.out)
      have hge : decide (n ≤ j) = false := by simp; omega
      clear hc1 hc2
      go_wp2
      go_round
      case rel => exact ⟨j + 1, by omega, by go_num⟩
      case measure => simp [intOf]; omega
    · obtain rfl : j = n := by omega
      go_wp2
      go_ret
      exact ⟨rfl, rfl⟩

end Go.Proofs.Ytfdjlahaiogabab
namespace Go.Proofs.Ytfdjlahaiogabab
set_option maxRecDepth 20000
open Go.RowKit

/-- The dimension of a drawn label. -/
def gD (n : Int) : Int := 1 + (n + 1) % 3
theorem gD_in (n : Int) : 1 ≤ gD n ∧ gD n ≤ 3 := by unfold gD; omega
/-- Labels from 0 to 5, with their dimensions. -/
structure Lab6 (L D : List Int) : Prop where
  nd : L.Nodup
  rg : ∀ x ∈ L, 0 ≤ x ∧ x < 6
  dm : D = L.map gD
theorem LabV.six {m : Nat} {L D : List Int} (h : LabV 6 m L D) : Lab6 L D := by
  refine ⟨h.nd, h.rg, List.ext_getElem? fun i => ?_⟩
  by_cases hi : i < L.length
  · have hm : L[i]? = some L[i] := List.getElem?_eq_getElem hi
    have hd : D[i]? = some (D[i]'(by have := h.len; omega)) := List.getElem?_eq_getElem (by have := h.len; omega)
    have e := h.dv i _ hm
    rw [getD_at hd] at e
    rw [hd, e, List.getElem?_map, hm]
    rfl
  · rw [List.getElem?_eq_none (by have := h.len; omega), List.getElem?_eq_none (by simpa using hi)]
theorem nodup_len : ∀ {L M : List Int}, L.Nodup → (∀ x ∈ L, x ∈ M) → L.length ≤ M.length := by
  intro L
  induction L with
  | nil => intro M _ _; simp
  | cons x r ih =>
    intro M hn hs
    have hn' := List.nodup_cons.1 hn
    have hx := hs x (by simp)
    have h1 := ih (M := M.erase x) hn'.2 (fun y hy => (List.mem_erase_of_ne (show y ≠ x by rintro rfl; exact hn'.1 hy)).2 (hs y (by simp [hy])))
    rw [List.length_erase_of_mem hx] at h1
    have h2 := List.length_pos_of_mem hx
    simp only [List.length_cons]
    omega
theorem Lab6.len {L D : List Int} (h : Lab6 L D) : L.length ≤ 6 := by
  have h1 := nodup_len (M := [0, 1, 2, 3, 4, 5]) h.nd (fun x hx => by
    have := h.rg x hx
    simp only [List.mem_cons, List.not_mem_nil, or_false]
    omega)
  simpa using h1
theorem Lab6.dims {L D : List Int} (h : Lab6 L D) : ∀ d ∈ D, 1 ≤ d ∧ d ≤ 3 := fun d hd => by
  rw [h.dm] at hd
  obtain ⟨n, -, rfl⟩ := List.mem_map.1 hd
  exact gD_in n
theorem Lab6.leneq {L D : List Int} (h : Lab6 L D) : L.length = D.length := by rw [h.dm]; simp
theorem Lab6.prod {L D : List Int} (h : Lab6 L D) : 1 ≤ prodL D ∧ prodL D ≤ 729 := by
  refine ⟨prodL_pos fun d hd => (h.dims d hd).1, Int.le_trans (prodL_le3 h.dims).2 (pow3_le (by rw [← h.leneq]; exact h.len))⟩
theorem Lab6.axes {L D : List Int} (h : Lab6 L D) : AxesV L D := ⟨by have := h.len; omega, h.leneq, fun x hx => by have := h.rg x hx; omega, fun d hd => by have := h.dims d hd; omega, h.nd⟩
theorem Lab6.size {L D : List Int} (h : Lab6 L D) : sizeI L D = prodL D := sizeI_of h.axes (by have := h.prod.2; omega)
theorem dimI_g {L : List Int} {n : Int} (h : n ∈ L) : dimI L (L.map gD) n = gD n := by
  unfold dimI
  exact getD_at (by rw [List.getElem?_map, at_idxOf h]; rfl)
theorem Lab6.fit {L D L' D' : List Int} (h : Lab6 L D) (h' : Lab6 L' D') : FitV L D L' D' := (fitF_fit h'.nd).1 fun n hn hL => by
  rw [h.dm, h'.dm, dimI_g hL, dimI_g hn]
theorem Lab6.joinD {L D L' D' : List Int} (h : Lab6 L D) (h' : Lab6 L' D') : joinD L D L' D' = (joinL L L').map gD := by
  rw [← joinD_map h.nd h.leneq]
  apply List.map_congr_left
  intro n hn
  unfold dimJ
  by_cases hL : n ∈ L
  · rw [if_pos hL, h.dm, dimI_g hL]
  · rw [if_neg hL, h'.dm]
    rcases List.mem_append.1 hn with h1 | h1
    · exact absurd h1 hL
    · exact dimI_g (rest_sub h1).1
theorem Lab6.join {L D L' D' : List Int} (h : Lab6 L D) (h' : Lab6 L' D') : Lab6 (joinL L L') (Go.Proofs.Ytfdjlahaiogabab.joinD L D L' D') :=
  ⟨join_nodup h.nd h'.nd, fun x hx => by
    rcases join_mem hx with h1 | h1
    · exact h.rg x h1
    · exact h'.rg x h1, h.joinD h'⟩
theorem Lab6.keep {J JD : List Int} (keep : List Int) (h : Lab6 J JD) : Lab6 (keepL J keep) (keepD J JD keep) :=
  ⟨keep_nodup h.nd, fun x hx => h.rg x (keep_sub x hx), by rw [h.dm, keepD_map]⟩
theorem Lab6.sub {L D J JD : List Int} (h : Lab6 L D) (hJ : Lab6 J JD) (hs : ∀ n ∈ L, n ∈ J) : SubAx L D J JD :=
  ⟨h.nd, h.leneq, hs, fun i n hi => by
    have hm := List.mem_of_getElem? hi
    rw [h.dm, hJ.dm, getD_at (show (L.map gD)[i]? = some (gD n) by rw [List.getElem?_map, hi]; rfl), getD_at (show (J.map gD)[J.idxOf n]? = some (gD n) by rw [List.getElem?_map, at_idxOf (hs n hm)]; rfl)]⟩
theorem six_ok {k p q : Int} {L D X L' D' X' : List Int} (keep : List Int) (ht : tensorB k p q L D X = true) (ht' : tensorB k p q L' D' X' = true) (h : Lab6 L D) (h' : Lab6 L' D') : pairB k p q L D X L' D' X' keep = true := by
  have hj := h.join h'
  have hk := hj.keep keep
  have h1 := hj.prod
  have h2 := hk.prod
  unfold pairB pfB smallB
  rw [ht, ht', fitV_true.2 (h.fit h'), hk.size]
  simp only [Bool.true_and, Bool.and_eq_true, decide_eq_true_eq]
  exact ⟨by omega, by omega⟩

theorem via_mid {L M J ix : List Int} (h : ∀ n ∈ L, n ∈ M) : viaL L M (viaL M J ix) = viaL L J ix := by
  unfold viaL
  apply List.map_congr_left
  intro n hn
  exact getD_at (by rw [List.getElem?_map, at_idxOf (h n hn)]; rfl)
theorem SubAx.idx {M MD J JD : List Int} (h : SubAx M MD J JD) (hl : J.length = JD.length) (hM : ∀ d ∈ MD, 1 ≤ d) (hJ : ∀ d ∈ JD, 1 ≤ d) (n : Nat) : idxL MD (offJ M MD J JD n : Int) = viaL M J (idxL JD (n : Int)) := by
  have h1 := h.inx hl (idxL_in hJ (n : Int))
  have h2 := offP_range hM h1 MD.length (Nat.le_refl _)
  rw [← offI_is] at h2
  unfold offJ
  rw [Int.toNat_of_nonneg h2.1]
  exact idx_off hM h1
/-- Offsets by way of labels between. -/
theorem off_comp {L D M MD J JD : List Int} (h : SubAx M MD J JD) (hs : ∀ n ∈ L, n ∈ M) (hl : J.length = JD.length) (hM : ∀ d ∈ MD, 1 ≤ d) (hJ : ∀ d ∈ JD, 1 ≤ d) (n : Nat) : offJ L D M MD (offJ M MD J JD n) = offJ L D J JD n := by
  show (offI D (viaL L M (idxL MD (offJ M MD J JD n : Int)))).toNat = _
  rw [h.idx hl hM hJ n, via_mid hs]
  rfl
theorem off_self {J JD : List Int} {n : Nat} (hn : J.Nodup) (hl : J.length = JD.length) (hJ : ∀ d ∈ JD, 1 ≤ d) (h : (n : Int) < prodL JD) : offJ J JD J JD n = n := by
  unfold offJ
  rw [via_own hn (by rw [idxL_len, hl]), off_idx hJ (by omega) h]
  simp
theorem accE_one {k p q : Int} {zf : Nat → Nat} {tf : Nat → List Int} {N o : Nat} (hr : ringB k p q = true) (ho : o < N) (hz : ∀ m, m < N → zf m = m) (ht : ∀ m, m < N → ElemV k p q (tf m)) : accE k p q zf tf N o = tf o := by
  have key : ∀ n, n ≤ N → accE k p q zf tf n o = if o < n then tf o else zeroL k p q := by
    intro n
    induction n with
    | zero => intro _; rw [if_neg (by omega)]; rfl
    | succ n ih =>
      intro hn
      rw [accE_succ, ih (by omega), hz n (by omega)]
      by_cases e : n = o
      · subst e
        rw [if_pos rfl, if_neg (by omega), if_pos (by omega)]
        exact plusL_zero_left hr (ht n ho)
      · rw [if_neg e]
        by_cases h : o < n
        · rw [if_pos h, if_pos (by omega)]
        · rw [if_neg h, if_neg (by omega)]
  rw [key N (Nat.le_refl _), if_pos ho]
theorem keep_all {J keep : List Int} (h : ∀ n ∈ J, n ∈ keep) : keepL J keep = J := by
  unfold keepL
  rw [List.filter_eq_self]
  intro n hn
  simpa using h n hn
/-- A drawn tensor's facts. -/
structure Ten6 (k p q : Int) (wd : Nat) (L D X : List Int) : Prop where
  lab : Lab6 L D
  ten : tensorB k p q L D X = true
  fac : TenF k p q L D X wd (prodL D).toNat
theorem Ten6.of {k p q : Int} {wd : Nat} {L D X : List Int} (hw : widthI k q = (wd : Int)) (h : Lab6 L D) (ht : tensorB k p q L D X = true) : Ten6 k p q wd L D X := ⟨h, ht, TenF.of ht hw⟩
theorem Ten6.term {k p q : Int} {wd : Nat} {L D X L' D' X' J JD : List Int} (hr : ringB k p q = true) (hw : widthI k q = (wd : Int)) (h : Ten6 k p q wd L D X) (h' : Ten6 k p q wd L' D' X') (hJ : Lab6 J JD) (hs : ∀ n ∈ L, n ∈ J) (hs' : ∀ n ∈ L', n ∈ J) (c : Nat) : offJ L D J JD c < (prodL D).toNat ∧ offJ L' D' J JD c < (prodL D').toNat ∧ ElemV k p q (getL wd X (offJ L D J JD c)) ∧ ElemV k p q (getL wd X' (offJ L' D' J JD c)) ∧ ElemV k p q (termJ k p wd L D X L' D' X' J JD c) := by
  have hj1 := fun d hd => (hJ.dims d hd).1
  have h1 := ((h.lab.sub hJ hs).off hJ.leneq (fun d hd => (h.lab.dims d hd).1) hj1 hJ.nd c).2
  have h2 := ((h'.lab.sub hJ hs').off hJ.leneq (fun d hd => (h'.lab.dims d hd).1) hj1 hJ.nd c).2
  have h3 : offJ L D J JD c < (prodL D).toNat := by omega
  have h4 : offJ L' D' J JD c < (prodL D').toNat := by omega
  exact ⟨h3, h4, getL_elem hw h.fac.lX h.fac.wX h3, getL_elem hw h'.fac.lX h'.fac.wX h4, termJ_elem hr hw h.fac.lX h'.fac.lX h.fac.wX h'.fac.wX h3 h4⟩
/-- The contraction that keeps all labels is the product, element by element. -/
theorem pair_all {k p q : Int} {wd : Nat} {L D X L' D' X' keep : List Int} (hr : ringB k p q = true) (hw : widthI k q = (wd : Int)) (h : Ten6 k p q wd L D X) (h' : Ten6 k p q wd L' D' X') (hk : ∀ n ∈ joinL L L', n ∈ keep) :
    keepL (joinL L L') keep = joinL L L' ∧ keepD (joinL L L') (Go.Proofs.Ytfdjlahaiogabab.joinD L D L' D') keep = Go.Proofs.Ytfdjlahaiogabab.joinD L D L' D' ∧ pairL k p q L D X L' D' X' keep = gatherL (termJ k p wd L D X L' D' X' (joinL L L') (Go.Proofs.Ytfdjlahaiogabab.joinD L D L' D')) (prodL (Go.Proofs.Ytfdjlahaiogabab.joinD L D L' D')).toNat := by
  have hj := h.lab.join h'.lab
  have e1 := keep_all hk
  have e2 : keepD (joinL L L') (Go.Proofs.Ytfdjlahaiogabab.joinD L D L' D') keep = Go.Proofs.Ytfdjlahaiogabab.joinD L D L' D' := by
    unfold keepD
    rw [e1]
    exact dims_self hj.nd hj.leneq
  refine ⟨e1, e2, ?_⟩
  unfold pairL
  rw [e1, e2, hw, Int.toNat_natCast]
  unfold accL
  refine gather_congr fun o ho => ?_
  exact accE_one hr ho (fun m hm => off_self hj.nd hj.leneq (fun d hd => (hj.dims d hd).1) (by omega)) (fun m _ => (h.term hr hw h' hj join_sub_left join_sub_right m).2.2.2.2)
theorem join_assoc (L L' L'' : List Int) : joinL (joinL L L') L'' = joinL L (joinL L' L'') := by
  unfold joinL
  rw [List.append_assoc]
  congr 1
  unfold restL
  rw [List.filter_append]
  congr 1
  rw [List.filter_filter]
  apply List.filter_congr
  intro n _
  have : n ∉ L ++ L'.filter (fun n => decide (n ∉ L)) ↔ (n ∉ L ∧ n ∉ L') := by
    simp only [List.mem_append, List.mem_filter, decide_eq_true_eq]
    constructor
    · intro h
      exact ⟨fun h1 => h (.inl h1), fun h1 => h (.inr ⟨h1, fun h2 => h (.inl h2)⟩)⟩
    · rintro ⟨h1, h2⟩ (h3 | h3)
      · exact h1 h3
      · exact h2 h3.1
  simp only [this]
  by_cases h1 : n ∈ L <;> by_cases h2 : n ∈ L' <;> simp [h1, h2]
/-- Three tensors, joined in both orders. -/
theorem pair_assoc {k p q : Int} {wd : Nat} {A AD AX B BD BX C CD CX PX QX J1 D1 J2 D2 J JD : List Int} (hr : ringB k p q = true) (hw : widthI k q = (wd : Int)) (ha : Ten6 k p q wd A AD AX) (hb : Ten6 k p q wd B BD BX) (hc : Ten6 k p q wd C CD CX)
    (hJ1 : Lab6 J1 D1) (hJ2 : Lab6 J2 D2) (hJ : Lab6 J JD) (s1 : ∀ n ∈ A, n ∈ J1) (s2 : ∀ n ∈ B, n ∈ J1) (s3 : ∀ n ∈ B, n ∈ J2) (s4 : ∀ n ∈ C, n ∈ J2) (s5 : ∀ n ∈ J1, n ∈ J) (s6 : ∀ n ∈ J2, n ∈ J)
    (hP : PX = gatherL (termJ k p wd A AD AX B BD BX J1 D1) (prodL D1).toNat) (hQ : QX = gatherL (termJ k p wd B BD BX C CD CX J2 D2) (prodL D2).toNat) (c : Nat) :
    termJ k p wd J1 D1 PX C CD CX J JD c = termJ k p wd A AD AX J2 D2 QX J JD c := by
  have hd := fun {L D : List Int} (h : Lab6 L D) => fun d hd => (h.dims d hd).1
  have hlt := fun {L D : List Int} (h : Lab6 L D) (s : ∀ n ∈ L, n ∈ J) => (show offJ L D J JD c < (prodL D).toNat by
    have h1 := ((h.sub hJ s).off hJ.leneq (hd h) (hd hJ) hJ.nd c).2
    omega)
  have ta := (ha.term hr hw hb hJ (fun n h => s5 n (s1 n h)) (fun n h => s5 n (s2 n h)) c)
  have tc := (hc.term hr hw hb hJ (fun n h => s6 n (s4 n h)) (fun n h => s5 n (s2 n h)) c)
  have lp : ∀ j, j < (prodL D1).toNat → (termJ k p wd A AD AX B BD BX J1 D1 j).length = wd := fun j _ => by have h := (ha.term hr hw hb hJ1 s1 s2 j).2.2.2.2.1; omega
  have lq : ∀ j, j < (prodL D2).toNat → (termJ k p wd B BD BX C CD CX J2 D2 j).length = wd := fun j _ => by have h := (hb.term hr hw hc hJ2 s3 s4 j).2.2.2.2.1; omega
  unfold termJ at hP hQ lp lq ⊢
  rw [hP, hQ, gather_get lp (hlt hJ1 s5), gather_get lq (hlt hJ2 s6)]
  rw [off_comp (hJ1.sub hJ s5) s1 hJ.leneq (hd hJ1) (hd hJ), off_comp (hJ1.sub hJ s5) s2 hJ.leneq (hd hJ1) (hd hJ), off_comp (hJ2.sub hJ s6) s3 hJ.leneq (hd hJ2) (hd hJ), off_comp (hJ2.sub hJ s6) s4 hJ.leneq (hd hJ2) (hd hJ)]
  exact times_assoc hr ta.2.2.1 ta.2.2.2.1 tc.2.2.1
end Go.Proofs.Ytfdjlahaiogabab
namespace Go.Proofs.Ytfdjlahaiogabab
set_option maxRecDepth 20000
open Go.RowKit

theorem via_get {L J ix : List Int} {x : Int} (h : x ∈ L) : (viaL L J ix).getD (L.idxOf x) 0 = ix.getD (J.idxOf x) 0 :=
  getD_at (by unfold viaL; rw [List.getElem?_map, at_idxOf h]; rfl)
theorem sumT_times {k p q : Int} {b : List Int} (hr : ringB k p q = true) (hb : ElemV k p q b) : ∀ (l : List (List Int)) (s : List Int), ElemV k p q s → (∀ t ∈ l, ElemV k p q t) → sumT k p (timesL k p s b) (l.map fun t => timesL k p t b) = timesL k p (sumT k p s l) b := by
  intro l
  induction l with
  | nil => intro s _ _; rfl
  | cons t r ih =>
    intro s hs hl
    have ht := hl t (by simp)
    show sumT k p (plusL k p (timesL k p s b) (timesL k p t b)) (r.map fun t => timesL k p t b) = timesL k p (sumT k p (plusL k p s t) r) b
    rw [← distr hr hs ht hb]
    exact ih _ (plusL_elem hr hs ht) (fun u hu => hl u (by simp [hu]))
/-- What SumLabels makes of a tensor. -/
theorem sum_pair {k p q : Int} {wd : Nat} {L D X keep : List Int} (hr : ringB k p q = true) (hw : widthI k q = (wd : Int)) (h : Ten6 k p q wd L D X) :
    keepL (joinL L []) keep = keepL L keep ∧ keepD (joinL L []) (Go.Proofs.Ytfdjlahaiogabab.joinD L D [] []) keep = keepD L D keep ∧ pairL k p q L D X [] [] (oneL k p q) keep = accL k p q (offJ (keepL L keep) (keepD L D keep) L D) (fun m => getL wd X m) (prodL (keepD L D keep)).toNat (prodL D).toNat := by
  obtain ⟨e1, e2, -⟩ := sum_fits (keep := keep) h.lab.axes (by have := h.lab.prod.2; omega)
  refine ⟨by rw [e1], by rw [e1, e2], ?_⟩
  unfold pairL
  rw [e1, e2, hw, Int.toNat_natCast]
  exact acc_congr fun m hm => sum_term hr hw h.fac hm
theorem keep_join {L L' keep : List Int} (hk : ∀ n ∈ L', n ∈ keep) : keepL (joinL L L') keep = joinL (keepL L keep) L' := by
  unfold joinL keepL
  rw [List.filter_append]
  congr 1
  unfold restL
  rw [List.filter_filter]
  apply List.filter_congr
  intro n hn
  have h1 := hk n hn
  by_cases h2 : n ∈ L <;> simp [h1, h2]
set_option maxHeartbeats 800000 in
/-- One element of the contraction, with the sum taken early. -/
theorem early_elem {k p q : Int} {wd o : Nat} {L D X L' D' X' J JD K KD KL KLD : List Int} (hr : ringB k p q = true) (hw : widthI k q = (wd : Int)) (h : Ten6 k p q wd L D X) (h' : Ten6 k p q wd L' D' X') (hJ : Lab6 J JD) (hK : Lab6 K KD) (hKL : Lab6 KL KLD)
    (s1 : ∀ n ∈ L, n ∈ J) (_s2 : ∀ n ∈ L', n ∈ J) (s3 : ∀ n ∈ K, n ∈ J) (s4 : ∀ n ∈ L', n ∈ K) (s5 : ∀ n ∈ KL, n ∈ L) (s6 : ∀ n ∈ KL, n ∈ K) (s7 : ∀ n ∈ J, n ∈ L ∨ n ∈ K) (s8 : ∀ n ∈ K, n ∈ L → n ∈ KL) (ho : o < (prodL KD).toNat) :
    accE k p q (offJ K KD J JD) (termJ k p wd L D X L' D' X' J JD) (prodL JD).toNat o = timesL k p (accE k p q (offJ KL KLD L D) (fun m => getL wd X m) (prodL D).toNat (offJ KL KLD K KD o)) (getL wd X' (offJ L' D' K KD o)) := by
  have hd := fun {L D : List Int} (h : Lab6 L D) => fun d hd => (h.dims d hd).1
  have aL := h.lab.sub hJ s1
  have aK := hK.sub hJ s3
  have dg : ∀ {L D : List Int} (_ : Lab6 L D) {x : Int}, x ∈ L → D.getD (L.idxOf x) 0 = gD x := fun {L D} h {x} hx => by
    rw [h.dm]; exact getD_at (by rw [List.getElem?_map, at_idxOf hx]; rfl)
  obtain ⟨b, hb⟩ : ∃ b, b = getL wd X' (offJ L' D' K KD o) := ⟨_, rfl⟩
  have eb : ElemV k p q b := by
    rw [hb]
    have h1 := ((h'.lab.sub hK s4).off hK.leneq (hd h'.lab) (hd hK) hK.nd o).2
    exact getL_elem hw h'.fac.lX h'.fac.wX (by omega)
  have eu : ∀ m, m < (prodL D).toNat → ElemV k p q (getL wd X m) := fun m hm => getL_elem hw h.fac.lX h.fac.wX hm
  rw [← hb, accE_sum, accE_sum]
  have hphi : ∀ n, offJ L D J JD n < (prodL D).toNat := fun n => by
    have h1 := (aL.off hJ.leneq (hd h.lab) (hd hJ) hJ.nd n).2
    omega
  have e1 : (((List.range (prodL JD).toNat).filter fun m => decide (offJ K KD J JD m = o)).map (termJ k p wd L D X L' D' X' J JD)) = ((((List.range (prodL JD).toNat).filter fun m => decide (offJ K KD J JD m = o)).map (offJ L D J JD)).map fun m => getL wd X m).map fun t => timesL k p t b := by
    rw [List.map_map, List.map_map]
    apply List.map_congr_left
    intro n hn
    have hz : offJ K KD J JD n = o := by simpa using (List.mem_filter.1 hn).2
    show timesL k p (getL wd X (offJ L D J JD n)) (getL wd X' (offJ L' D' J JD n)) = timesL k p (getL wd X (offJ L D J JD n)) b
    rw [hb, ← hz, off_comp aK s4 hJ.leneq (hd hK) (hd hJ)]
  have e0 : zeroL k p q = timesL k p (zeroL k p q) b := by
    rw [times_comm hr (zeroL_elem hr) eb, times_zero hr eb]
  have key : (((List.range (prodL JD).toNat).filter fun m => decide (offJ K KD J JD m = o)).map (offJ L D J JD)).Perm ((List.range (prodL D).toNat).filter fun m => decide (offJ KL KLD L D m = offJ KL KLD K KD o)) := by
    have hval : ∀ n, offJ K KD J JD n = o → idxL KD (o : Int) = viaL K J (idxL JD (n : Int)) := fun n hn => by rw [← hn]; exact aK.idx hJ.leneq (hd hK) (hd hJ) n
    refine (List.perm_ext_iff_of_nodup ?_ (List.nodup_range.filter _)).2 fun m => ?_
    · rw [List.nodup_iff_pairwise_ne, List.pairwise_map]
      have hnd : ((List.range (prodL JD).toNat).filter fun m => decide (offJ K KD J JD m = o)).Nodup := List.nodup_range.filter _
      refine ((List.nodup_iff_pairwise_ne.1 hnd).imp_of_mem ?_)
      intro n1 n2 m1 m2 hne e
      obtain ⟨r1, z1⟩ := List.mem_filter.1 m1
      obtain ⟨r2, z2⟩ := List.mem_filter.1 m2
      have z1 : offJ K KD J JD n1 = o := by simpa using z1
      have z2 : offJ K KD J JD n2 = o := by simpa using z2
      have r1 : n1 < (prodL JD).toNat := List.mem_range.1 r1
      have r2 : n2 < (prodL JD).toNat := List.mem_range.1 r2
      apply hne
      have hix : idxL JD (n1 : Int) = idxL JD (n2 : Int) := by
        apply List.ext_getElem?
        intro i
        by_cases hi : i < J.length
        · have hm : J[i]? = some J[i] := List.getElem?_eq_getElem hi
          have hg : ∀ n : Nat, (idxL JD (n : Int))[i]? = some ((idxL JD (n : Int)).getD i 0) := fun n => by
            have h9 : (idxL JD (n : Int))[i]? = some ((idxL JD (n : Int))[i]'(by rw [idxL_len, ← hJ.leneq]; exact hi)) := List.getElem?_eq_getElem _
            rw [h9, getD_at h9]
          rw [hg, hg]
          have hio : J.idxOf J[i] = i := idxOf_at hJ.nd hm
          congr 1
          rcases s7 J[i] (List.getElem_mem _) with hx | hx
          · have k1 := via_get (J := J) (ix := idxL JD (n1 : Int)) hx
            have k2 := via_get (J := J) (ix := idxL JD (n2 : Int)) hx
            rw [hio] at k1 k2
            rw [← k1, ← k2, ← aL.idx hJ.leneq (hd h.lab) (hd hJ) n1, ← aL.idx hJ.leneq (hd h.lab) (hd hJ) n2, e]
          · have k1 := via_get (J := J) (ix := idxL JD (n1 : Int)) hx
            have k2 := via_get (J := J) (ix := idxL JD (n2 : Int)) hx
            rw [hio] at k1 k2
            rw [← k1, ← k2, ← hval n1 z1, ← hval n2 z2]
        · rw [List.getElem?_eq_none (by rw [idxL_len, ← hJ.leneq]; omega), List.getElem?_eq_none (by rw [idxL_len, ← hJ.leneq]; omega)]
      have f1 := off_idx (hd hJ) (n := (n1 : Int)) (by omega) (by omega)
      have f2 := off_idx (hd hJ) (n := (n2 : Int)) (by omega) (by omega)
      rw [hix, f2] at f1
      omega
    · rw [List.mem_map, List.mem_filter, List.mem_range, decide_eq_true_eq]
      constructor
      · rintro ⟨n, hn, rfl⟩
        have hz : offJ K KD J JD n = o := by simpa using (List.mem_filter.1 hn).2
        refine ⟨hphi n, ?_⟩
        rw [off_comp aL s5 hJ.leneq (hd h.lab) (hd hJ), ← hz, off_comp aK s6 hJ.leneq (hd hK) (hd hJ)]
      · rintro ⟨hm, hz⟩
        obtain ⟨row, hrow⟩ : ∃ row, row = J.map fun x => if x ∈ L then (idxL D (m : Int)).getD (L.idxOf x) 0 else (idxL KD (o : Int)).getD (K.idxOf x) 0 := ⟨_, rfl⟩
        have hget : ∀ x ∈ J, row.getD (J.idxOf x) 0 = if x ∈ L then (idxL D (m : Int)).getD (L.idxOf x) 0 else (idxL KD (o : Int)).getD (K.idxOf x) 0 := fun x hx => by
          rw [hrow]; exact getD_at (by rw [List.getElem?_map, at_idxOf hx]; rfl)
        have hin : InIx JD row := by
          refine ⟨by rw [hrow, List.length_map, hJ.leneq], fun i hi => ?_⟩
          have hi' : i < J.length := by rw [hJ.leneq]; exact hi
          have hm' : J[i]? = some J[i] := List.getElem?_eq_getElem hi'
          have hio : J.idxOf J[i] = i := idxOf_at hJ.nd hm'
          have hg := hget J[i] (List.getElem_mem _)
          have hdj := dg hJ (List.getElem_mem (l := J) hi')
          rw [hio] at hg hdj
          rw [hg, hdj]
          by_cases hx : J[i] ∈ L
          · rw [if_pos hx, ← dg h.lab hx]
            exact (idxL_in (hd h.lab) (m : Int)).2 _ (by rw [← h.lab.leneq]; exact List.idxOf_lt_length_iff.2 hx)
          · rw [if_neg hx]
            have hx2 := (s7 J[i] (List.getElem_mem _)).resolve_left hx
            rw [← dg hK hx2]
            exact (idxL_in (hd hK) (o : Int)).2 _ (by rw [← hK.leneq]; exact List.idxOf_lt_length_iff.2 hx2)
        have hof := offP_range (hd hJ) hin JD.length (Nat.le_refl _)
        rw [← offI_is, List.take_of_length_le (Nat.le_refl _)] at hof
        have hcast : (((offI JD row).toNat : Nat) : Int) = offI JD row := Int.toNat_of_nonneg hof.1
        have hix : idxL JD (((offI JD row).toNat : Nat) : Int) = row := by rw [hcast]; exact idx_off (hd hJ) hin
        have hkl : ∀ x ∈ KL, (idxL D (m : Int)).getD (L.idxOf x) 0 = (idxL KD (o : Int)).getD (K.idxOf x) 0 := fun x hx => by
          have k1 := (hKL.sub h.lab s5).idx h.lab.leneq (hd hKL) (hd h.lab) m
          have k2 := (hKL.sub hK s6).idx hK.leneq (hd hKL) (hd hK) o
          rw [hz] at k1
          have k3 := via_get (J := L) (ix := idxL D (m : Int)) hx
          have k4 := via_get (J := K) (ix := idxL KD (o : Int)) hx
          rw [← k3, ← k4, ← k1, ← k2]
        have hvL : viaL L J row = idxL D (m : Int) := by
          apply List.ext_getElem?
          intro i
          unfold viaL
          by_cases hi : i < L.length
          · have hm' : L[i]? = some L[i] := List.getElem?_eq_getElem hi
            have h9 : (idxL D (m : Int))[i]? = some ((idxL D (m : Int))[i]'(by rw [idxL_len, ← h.lab.leneq]; exact hi)) := List.getElem?_eq_getElem _
            rw [List.getElem?_map, hm', h9]
            show some (row.getD (J.idxOf L[i]) 0) = _
            rw [hget _ (s1 _ (List.getElem_mem _)), if_pos (List.getElem_mem _), idxOf_at h.lab.nd hm', getD_at h9]
          · rw [List.getElem?_eq_none (by simpa using hi), List.getElem?_eq_none (by rw [idxL_len, ← h.lab.leneq]; omega)]
        have hvK : viaL K J row = idxL KD (o : Int) := by
          apply List.ext_getElem?
          intro i
          unfold viaL
          by_cases hi : i < K.length
          · have hm' : K[i]? = some K[i] := List.getElem?_eq_getElem hi
            have h9 : (idxL KD (o : Int))[i]? = some ((idxL KD (o : Int))[i]'(by rw [idxL_len, ← hK.leneq]; exact hi)) := List.getElem?_eq_getElem _
            rw [List.getElem?_map, hm', h9]
            show some (row.getD (J.idxOf K[i]) 0) = _
            rw [hget _ (s3 _ (List.getElem_mem _))]
            by_cases hx : K[i] ∈ L
            · rw [if_pos hx, hkl _ (s8 _ (List.getElem_mem _) hx), idxOf_at hK.nd hm', getD_at h9]
            · rw [if_neg hx, idxOf_at hK.nd hm', getD_at h9]
          · rw [List.getElem?_eq_none (by simpa using hi), List.getElem?_eq_none (by rw [idxL_len, ← hK.leneq]; omega)]
        refine ⟨(offI JD row).toNat, List.mem_filter.2 ⟨List.mem_range.2 (by omega), ?_⟩, ?_⟩
        · rw [decide_eq_true_eq]
          unfold offJ
          rw [hix, hvK, off_idx (hd hK) (by omega) (by omega)]
          simp
        · unfold offJ
          rw [hix, hvL, off_idx (hd h.lab) (by omega) (by omega)]
          simp
  rw [e1]
  conv => lhs; rw [e0]
  rw [sumT_times hr eb _ _ (zeroL_elem hr) (fun t ht => by
    obtain ⟨m, hm, rfl⟩ := List.mem_map.1 ht
    obtain ⟨n, -, rfl⟩ := List.mem_map.1 hm
    exact eu _ (hphi n))]
  congr 1
  exact sumT_perm hr (key.map _) (zeroL_elem hr) (fun t ht => by
    obtain ⟨m, hm, rfl⟩ := List.mem_map.1 ht
    obtain ⟨n, -, rfl⟩ := List.mem_map.1 hm
    exact eu _ (hphi n))
end Go.Proofs.Ytfdjlahaiogabab
namespace Go.Proofs.Ytfdjlahaiogabab
set_option maxRecDepth 20000
open Go.RowKit

theorem mem_join {L L' : List Int} {n : Int} : n ∈ joinL L L' ↔ n ∈ L ∨ n ∈ L' :=
  ⟨join_mem, fun h => h.elim (join_sub_left n) (join_sub_right n)⟩
theorem Ten6.size {k p q : Int} {wd : Nat} {L D X : List Int} (h : Ten6 k p q wd L D X) : sizeI L D = prodL D := h.lab.size
/-- The contraction of drawn tensors: what it is, for whatever labels are kept. -/
theorem Ten6.pair {k p q : Int} {wd : Nat} {L D X L' D' X' : List Int} (keep : List Int) (hw : widthI k q = (wd : Int)) (h : Ten6 k p q wd L D X) (h' : Ten6 k p q wd L' D' X') :
    pairB k p q L D X L' D' X' keep = true ∧ Ten6 k p q wd (keepL (joinL L L') keep) (keepD (joinL L L') (Go.Proofs.Ytfdjlahaiogabab.joinD L D L' D') keep) (pairL k p q L D X L' D' X' keep) := by
  have hb := six_ok keep h.ten h'.ten h.lab h'.lab
  exact ⟨hb, Ten6.of hw ((h.lab.join h'.lab).keep keep) (pair_ten hb)⟩
/-- The product of three, joined in both orders. -/
theorem assoc_same {k p q : Int} {wd : Nat} {A AD AX B BD BX C CD CX J1 D1 PX J2 D2 QX JX DX XX JY DY YX all : List Int} (hr : ringB k p q = true) (hw : widthI k q = (wd : Int)) (ha : Ten6 k p q wd A AD AX) (hb : Ten6 k p q wd B BD BX) (hc : Ten6 k p q wd C CD CX)
    (hall : ∀ n : Int, 0 ≤ n → n < 6 → n ∈ all)
    (eJ1 : J1 = keepL (joinL A B) all) (eD1 : D1 = keepD (joinL A B) (Go.Proofs.Ytfdjlahaiogabab.joinD A AD B BD) all) (eP : PX = pairL k p q A AD AX B BD BX all)
    (eJ2 : J2 = keepL (joinL B C) all) (eD2 : D2 = keepD (joinL B C) (Go.Proofs.Ytfdjlahaiogabab.joinD B BD C CD) all) (eQ : QX = pairL k p q B BD BX C CD CX all)
    (eJX : JX = keepL (joinL J1 C) all) (eDX : DX = keepD (joinL J1 C) (Go.Proofs.Ytfdjlahaiogabab.joinD J1 D1 C CD) all) (eX : XX = pairL k p q J1 D1 PX C CD CX all)
    (eJY : JY = keepL (joinL A J2) all) (eDY : DY = keepD (joinL A J2) (Go.Proofs.Ytfdjlahaiogabab.joinD A AD J2 D2) all) (eY : YX = pairL k p q A AD AX J2 D2 QX all) :
    JX = JY ∧ DX = DY ∧ XX = YX := by
  have hin : ∀ {L D : List Int}, Lab6 L D → ∀ n ∈ L, n ∈ all := fun h n hn => hall n (h.rg n hn).1 (h.rg n hn).2
  obtain ⟨p1, p2, p3⟩ := pair_all hr hw ha hb (hin (ha.lab.join hb.lab))
  have t1 := (ha.pair all hw hb).2
  rw [← eJ1, ← eD1, ← eP] at t1
  rw [p1] at eJ1
  rw [p2] at eD1
  rw [p3] at eP
  obtain ⟨q1, q2, q3⟩ := pair_all hr hw hb hc (hin (hb.lab.join hc.lab))
  have t2 := (hb.pair all hw hc).2
  rw [← eJ2, ← eD2, ← eQ] at t2
  rw [q1] at eJ2
  rw [q2] at eD2
  rw [q3] at eQ
  obtain ⟨x1, x2, x3⟩ := pair_all hr hw t1 hc (hin (t1.lab.join hc.lab))
  obtain ⟨y1, y2, y3⟩ := pair_all hr hw ha t2 (hin (ha.lab.join t2.lab))
  have hX := t1.lab.join hc.lab
  have hY := ha.lab.join t2.lab
  have eJ : joinL J1 C = joinL A J2 := by rw [eJ1, eJ2]; exact join_assoc A B C
  have eD : Go.Proofs.Ytfdjlahaiogabab.joinD J1 D1 C CD = Go.Proofs.Ytfdjlahaiogabab.joinD A AD J2 D2 := by rw [hX.dm, hY.dm, eJ]
  refine ⟨by rw [eJX, eJY, x1, y1, eJ], by rw [eDX, eDY, x2, y2, eD], ?_⟩
  rw [eX, eY, x3, y3, ← eD, ← eJ]
  have s5 : ∀ n ∈ J1, n ∈ joinL J1 C := join_sub_left
  have s6 : ∀ n ∈ J2, n ∈ joinL J1 C := by rw [eJ]; exact join_sub_right
  refine gather_congr fun c _ => ?_
  exact pair_assoc hr hw ha hb hc t1.lab t2.lab hX (by rw [eJ1]; exact join_sub_left) (by rw [eJ1]; exact join_sub_right) (by rw [eJ2]; exact join_sub_left) (by rw [eJ2]; exact join_sub_right) s5 s6 (by rw [eP, eJ1, eD1]) (by rw [eQ, eJ2, eD2]) c
/-- Labels that one tensor has alone, summed before the contraction. -/
theorem early_same {k p q : Int} {wd : Nat} {A AD AX B BD BX keep KL KLD SX : List Int} (hr : ringB k p q = true) (hw : widthI k q = (wd : Int)) (ha : Ten6 k p q wd A AD AX) (hb : Ten6 k p q wd B BD BX) (hk : ∀ n ∈ B, n ∈ keep)
    (eL : KL = keepL (joinL A []) keep) (eD : KLD = keepD (joinL A []) (Go.Proofs.Ytfdjlahaiogabab.joinD A AD [] []) keep) (eS : SX = pairL k p q A AD AX [] [] (oneL k p q) keep) :
    Ten6 k p q wd KL KLD SX → keepL (joinL A B) keep = keepL (joinL KL B) keep ∧ keepD (joinL A B) (Go.Proofs.Ytfdjlahaiogabab.joinD A AD B BD) keep = keepD (joinL KL B) (Go.Proofs.Ytfdjlahaiogabab.joinD KL KLD B BD) keep ∧ pairL k p q A AD AX B BD BX keep = pairL k p q KL KLD SX B BD BX keep := by
  intro hs
  obtain ⟨s1, s2, s3⟩ := sum_pair (keep := keep) hr hw ha
  rw [s1] at eL
  rw [s2] at eD
  rw [s3] at eS
  have hin : ∀ n ∈ joinL KL B, n ∈ keep := fun n hn => by
    rcases mem_join.1 hn with h | h
    · rw [eL] at h; simpa using (List.mem_filter.1 h).2
    · exact hk n h
  obtain ⟨x1, x2, x3⟩ := pair_all hr hw hs hb hin
  have hJ := ha.lab.join hb.lab
  have hK := hJ.keep keep
  have hKJ : keepL (joinL A B) keep = joinL KL B := by rw [keep_join hk, eL]
  have hM := hs.lab.join hb.lab
  have hKD : keepD (joinL A B) (Go.Proofs.Ytfdjlahaiogabab.joinD A AD B BD) keep = Go.Proofs.Ytfdjlahaiogabab.joinD KL KLD B BD := by rw [hK.dm, hM.dm, hKJ]
  refine ⟨by rw [x1, hKJ], by rw [x2, hKD], ?_⟩
  rw [x3]
  unfold pairL
  rw [hw, Int.toNat_natCast]
  rw [hKJ, hKD]
  unfold accL
  refine gather_congr fun o ho => ?_
  have hsub : ∀ n ∈ keepL (joinL A B) keep, n ∈ joinL A B := fun n hn => (List.mem_filter.1 hn).1
  have hKL : ∀ n ∈ KL, n ∈ A := fun n hn => by rw [eL] at hn; exact (List.mem_filter.1 hn).1
  rw [early_elem (KL := KL) (KLD := KLD) hr hw ha hb hJ hM hs.lab join_sub_left join_sub_right (by rw [← hKJ]; exact hsub) join_sub_right hKL join_sub_left
    (fun n hn => by
      rcases mem_join.1 hn with h | h
      · exact .inl h
      · exact .inr (mem_join.2 (.inr h)))
    (fun n hn hA => by
      rw [eL]
      exact List.mem_filter.2 ⟨hA, by simpa using hin n hn⟩) ho]
  unfold termJ
  congr 1
  have hlt : offJ KL KLD (joinL KL B) (Go.Proofs.Ytfdjlahaiogabab.joinD KL KLD B BD) o < (prodL KLD).toNat := by
    have h1 := ((hs.lab.sub hM join_sub_left).off hM.leneq (fun d hd => (hs.lab.dims d hd).1) (fun d hd => (hM.dims d hd).1) hM.nd o).2
    omega
  rw [eS, ← eD, ← eL]
  exact (acc_get (N := (prodL AD).toNat) hr hw (fun m hm => getL_elem hw ha.fac.lX ha.fac.wX hm) (Nat.le_refl _) hlt).symm
/-- The sum of the product over all labels is the contraction. -/
theorem later_same {k p q : Int} {wd : Nat} {A AD AX B BD BX J JD PX keep all : List Int} (hr : ringB k p q = true) (hw : widthI k q = (wd : Int)) (ha : Ten6 k p q wd A AD AX) (hb : Ten6 k p q wd B BD BX) (hall : ∀ n : Int, 0 ≤ n → n < 6 → n ∈ all)
    (eJ : J = keepL (joinL A B) all) (eD : JD = keepD (joinL A B) (Go.Proofs.Ytfdjlahaiogabab.joinD A AD B BD) all) (eP : PX = pairL k p q A AD AX B BD BX all) :
    keepL (joinL J []) keep = keepL (joinL A B) keep ∧ keepD (joinL J []) (Go.Proofs.Ytfdjlahaiogabab.joinD J JD [] []) keep = keepD (joinL A B) (Go.Proofs.Ytfdjlahaiogabab.joinD A AD B BD) keep ∧ pairL k p q J JD PX [] [] (oneL k p q) keep = pairL k p q A AD AX B BD BX keep := by
  have hJ := ha.lab.join hb.lab
  have t1 := (ha.pair all hw hb).2
  rw [← eJ, ← eD, ← eP] at t1
  obtain ⟨p1, p2, p3⟩ := pair_all hr hw ha hb (fun n hn => hall n (hJ.rg n hn).1 (hJ.rg n hn).2)
  obtain ⟨s1, s2, s3⟩ := sum_pair (keep := keep) hr hw t1
  rw [p1] at eJ
  rw [p2] at eD
  rw [p3] at eP
  refine ⟨by rw [s1, eJ], by rw [s2, eJ, eD], ?_⟩
  rw [s3]
  unfold pairL
  rw [hw, Int.toNat_natCast, eJ, eD]
  refine acc_congr fun m hm => ?_
  rw [eP]
  exact gather_get (fun j _ => by have h := (ha.term hr hw hb hJ join_sub_left join_sub_right j).2.2.2.2.1; omega) hm
end Go.Proofs.Ytfdjlahaiogabab
namespace Go.Proofs.Ytfdjlahaiogabab
set_option maxRecDepth 20000
open Go.RowKit

theorem own_cells {w : World} {lo hi : Nat} {v : Value} {xs : List Int} (h : Own w lo hi v xs) : (v = .slice none 0 0 ∧ xs = []) ∨ ∃ g cap, v = .slice (some ⟨g, 0, none⟩) xs.length cap ∧ ∀ j u, (ints xs)[j]? = some u → w.cell? ((⟨g, 0, none⟩ : Addr).add j) = some u := by
  have h1 := h.1
  rcases h1.2 with ⟨e, hz⟩ | ⟨g, cap, cur, e, hb, hg, hnc, hcm, hcs, htake⟩
  · exact .inl ⟨e, List.eq_nil_of_length_eq_zero hz⟩
  · refine .inr ⟨g, cap, e, fun j u hu => ?_⟩
    have hlt : j < xs.length := by
      have := (List.getElem?_eq_some_iff.1 hu).1
      rw [ints_len] at this
      exact this
    have h3 := World.ownsRow.cellAt (e ▸ h1) j (by omega)
    rw [Addr.add_lit, Nat.zero_add, h3]
    exact hu
/-- 'append(x, y...)' of rows of one's own. -/
theorem app_row {ops : Array Oper} {rest : List Oper} {o : Oper} {a : Act} {Q : Exit → Act → World → Prop} {w : World} (hgd : o.guard = none) (s x : Operand)
    (ho : o.op = .call { callee := .builtin .append, args := #[s, x], argTypes := #[24, 24] }) (base : Nat) {hi lo' hi' : Nat} (v u : Value) (xs news : List Int) (hs : a.eval s = v) (hown : Own w base hi v xs) (hx : a.eval x = u) (hu : Own w lo' hi' u news)
    (hlen : xs.length + news.length ≤ 4096) (hbase : base ≤ w.heap.size)
    (h : ∀ v' w', Own w' base w'.heap.size v' (xs ++ news) → w.grownBy w' v.ownBlock → wpList Try.prog ops Q rest (a.put o.dst v') w') : wpList Try.prog ops Q (o :: rest) a w := by
  obtain ⟨i0, hi0, hz0, hz1, hz2⟩ := info_parts infoInt
  rcases own_cells hu with ⟨rfl, rfl⟩ | ⟨g, cap, rfl, hnews⟩
  · refine Go.wpList_append_own_none hgd s x 24 ho base 3 i0 1 Try.underlying24 hi0 v xs.length (ints xs) hs hown.1 hx ?_
    exact h v w (by rw [List.append_nil]; exact Own.of hown.1 rfl) ⟨rfl, rfl, rfl, Nat.le_refl _, fun _ _ _ => rfl⟩
  · refine wpList_append_own _ hgd s x 24 ho base 3 i0 (.int .i64 0) 1 8 Try.underlying24 hi0 hz0 hz1 hz2 rfl (by decide) v xs.length (ints xs) hs hown.1 ⟨g, 0, none⟩ news.length cap (ints news) hx (by rw [ints_len, Nat.mul_one]) hnews (one_cells _) (by unfold maxLen; omega) (by omega) hbase ?_
    intro v' w' h1 h2 _
    rw [← ints_append] at h1
    exact h v' w' (Own.of h1 (by rw [List.length_append])) h2
set_option maxHeartbeats 800000 in
theorem join_two {lo hi lo' hi' : Nat} {va vb : Value} {A M : List Int} {w : World} (ha : Own w lo hi va A) (hb : Own w lo' hi' vb M) (hl : A.length + M.length ≤ 4096) :
    Calls Try.prog 41 #[va, vb] w (NewRow w (A ++ M)) := by
  have hbel : Below w.heap.size w (w.alloc (.cells #[] 3)) := (Below.refl _ _).alloc (Nat.le_refl _) _
  have HA := Lib.hid (ha.below hbel (Nat.le_refl _))
  have HB := Lib.hid (hb.below hbel (Nat.le_refl _))
  have HL : Hid (Own (w.alloc (.cells #[] 3)) w.heap.size (w.alloc (.cells #[] 3)).heap.size (.slice (some ⟨w.heap.size, 0, none⟩) 0 0) []) := Lib.hid (Own.of (World.ownsRow_lit (base := w.heap.size) (e := 3) (size := 1) w #[] 0 (Nat.le_refl _) (by unfold maxLen; omega) rfl) rfl)
  have HBL := Lib.hid hbel
  have HM0 := Lib.hid hb.2.2
  clear ha hb hbel
  go_enter Try.func41, Try.ntmps41
  go_wp2_with (at_builtin; go_must (refine app_row rfl _ _ rfl w.heap.size _ _ [] A rfl HL.out rfl HA.out (by simp; omega) (by simp) ?_))
  intro v1 w1 h1 g1
  have HB1 := Lib.hid (Below.grown HBL.out g1 (by simp) (fun j hj => by cases hj; exact Nat.le_refl _))
  have H1 := Lib.hid h1
  have HM : Hid (Own w1 lo' hi' vb M) := Lib.hid (HB.out.kept g1 (fun g hg => by cases hg; exact .inr HM0.out))
  clear h1 g1 HBL HL HA HB
  go_wp2_with (at_builtin; go_must (refine app_row rfl _ _ rfl w.heap.size _ _ ([] ++ A) M rfl H1.out rfl HM.out (by simp; omega) HB1.out.size ?_))
  intro v2 w2 h2 g2
  have RES : Hid (NewRow w (A ++ M) (.returned v2) w2) := Lib.hid ⟨v2, rfl, by simpa using h2, HB1.out.grown g2 HB1.out.size (fun j hj => H1.out.lo j hj)⟩
  clear h2 g2 H1 HM HB1
  go_wp2
  go_ret
  exact RES.out
end Go.Proofs.Ytfdjlahaiogabab
namespace Go.Proofs.Ytfdjlahaiogabab
set_option maxRecDepth 20000
open Go.RowKit

theorem sum_ten {k p q : Int} {wd : Nat} {L D X keep : List Int} (hr : ringB k p q = true) (hw : widthI k q = (wd : Int)) (h : Ten6 k p q wd L D X) :
    Ten6 k p q wd (keepL (joinL L []) keep) (keepD (joinL L []) (Go.Proofs.Ytfdjlahaiogabab.joinD L D [] []) keep) (pairL k p q L D X [] [] (oneL k p q) keep) := by
  obtain ⟨s1, s2, s3⟩ := sum_pair (keep := keep) hr hw h
  rw [s1, s2, s3]
  have hl := h.lab.keep keep
  have he : ∀ m, m < (prodL D).toNat → ElemV k p q (getL wd X m) := fun m hm => getL_elem hw h.fac.lX h.fac.wX hm
  refine Ten6.of hw hl (tensorB_of hr hl.axes (by have := hl.prod.2; omega) ?_ ?_).1
  · have h1 := hl.prod.1
    have h2 : ((prodL (keepD L D keep)).toNat : Int) = prodL (keepD L D keep) := Int.toNat_of_nonneg (by omega)
    rw [acc_len hr hw he (Nat.le_refl _), hw, Int.natCast_mul, h2]
  · exact gather_within fun o _ => (accE_elem hr he _ (Nat.le_refl _) o).2
theorem Ten6.len {k p q : Int} {wd : Nat} {L D X : List Int} (h : Ten6 k p q wd L D X) : LenT L D X := by
  have h1 := ten_lens h.ten
  exact ⟨by omega, by omega, by omega⟩
theorem Ten6.ints {k p q : Int} {wd : Nat} {L D X : List Int} (h : Ten6 k p q wd L D X) : allI L := fun z hz => by
  have := h.lab.rg z hz
  exact ⟨by omega, by omega⟩
/-- A new tensor, its rows told. -/
def NewS (w : World) (L D X : List Int) (f : Value → Value) (e : Ending) (w' : World) : Prop := ∃ a1 n1 c1 a2 n2 c2 a3 n3 c3, e = .returned (f (tenV (.slice a1 n1 c1) (.slice a2 n2 c2) (.slice a3 n3 c3))) ∧ OwnG w' w.heap.size w'.heap.size [(.slice a1 n1 c1, L), (.slice a2 n2 c2, D), (.slice a3 n3 c3, X)] ∧ Below w.heap.size w w'
theorem NewS.of {w w' : World} {L D X : List Int} {f : Value → Value} {lv dv xv : Value} (ho : OwnG w' w.heap.size w'.heap.size [(lv, L), (dv, D), (xv, X)]) (hb : Below w.heap.size w w') : NewS w L D X f (.returned (f (tenV lv dv xv))) w' := by
  obtain ⟨a1, n1, c1, rfl⟩ := (show Own _ _ _ lv L from ho.1 (lv, L) (by simp)).slice
  obtain ⟨a2, n2, c2, rfl⟩ := (show Own _ _ _ dv D from ho.1 (dv, D) (by simp)).slice
  obtain ⟨a3, n3, c3, rfl⟩ := (show Own _ _ _ xv X from ho.1 (xv, X) (by simp)).slice
  exact ⟨_, _, _, _, _, _, _, _, _, rfl, ho, hb⟩
theorem pair_six {B B' B'' wd : Nat} {lv dv xv lu du xu kv : Value} {k p q : Int} {L D X L' D' X' keep PL PD PX : List Int} {w : World} (hw : widthI k q = (wd : Int)) (h : Ten6 k p q wd L D X) (h' : Ten6 k p q wd L' D' X')
    (eL : PL = keepL (joinL L L') keep) (eD : PD = keepD (joinL L L') (Go.Proofs.Ytfdjlahaiogabab.joinD L D L' D') keep) (eX : PX = pairL k p q L D X L' D' X' keep)
    (ha : RdT B w lv dv xv L D X) (hb : RdT B' w lu du xu L' D' X') (hk : Rd B'' w kv (ints keep)) (hB : B ≤ w.heap.size) (hB' : B' ≤ w.heap.size) (hB'' : B'' ≤ w.heap.size) (hkl : keep.length ≤ 4096) :
    Calls Try.prog 38 #[ringV k p q, tenV lv dv xv, tenV lu du xu, kv] w (NewS w PL PD PX fun t => .tuple #[t, .bool true]) := by
  have hp := (h.pair keep hw h').1
  have hq := contract_pair_impl (k := k) (p := p) (q := q) ha hb hk hB hB' hB'' h.len h'.len (by omega) h.ints h'.ints
  rw [hp] at hq
  simp only [if_true] at hq
  rw [eL, eD, eX]
  refine hq.mono ?_
  rintro e w1 ⟨t1, t2, t3, rfl, ho, hb⟩
  exact NewS.of (f := fun t => .tuple #[t, .bool true]) ho hb
theorem sum_six {B B' wd : Nat} {lv dv xv kv : Value} {k p q : Int} {L D X keep PL PD PX : List Int} {w : World} (h : Ten6 k p q wd L D X)
    (eL : PL = keepL (joinL L []) keep) (eD : PD = keepD (joinL L []) (Go.Proofs.Ytfdjlahaiogabab.joinD L D [] []) keep) (eX : PX = pairL k p q L D X [] [] (oneL k p q) keep)
    (ha : RdT B w lv dv xv L D X) (hk : Rd B' w kv (ints keep)) (hB : B ≤ w.heap.size) (hB' : B' ≤ w.heap.size) (hkl : keep.length ≤ 4096) :
    Calls Try.prog 42 #[ringV k p q, tenV lv dv xv, kv] w (NewS w PL PD PX id) := by
  have hq := sum_labels_impl (k := k) (p := p) (q := q) ha hk hB hB' h.len (by omega) h.ints
  rw [h.ten] at hq
  simp only [if_true] at hq
  rw [eL, eD, eX]
  refine hq.mono ?_
  rintro e w1 ⟨t1, t2, t3, rfl, ho, hb⟩
  exact NewS.of (f := id) ho hb
theorem make_six {v : Value} {bts : List UInt8} {k p q : Int} {wd : Nat} {w : World} (n : Nat) (hn : n ≤ 1000) (hk : ringB k p q = true) (hw : widthI k q = (wd : Int)) (hr : Rd w.heap.size w v (bytes8 bts)) (hl : bts.length ≤ 1048576) :
    Calls Try.prog 36 #[v, .int .i64 n, ringV k p q] w fun e w' => ∃ L D X, Ten6 k p q wd L D X ∧ NewS w L D X id e w' := by
  refine (make_ten n hn hk hr hl).mono ?_
  rintro e w1 ⟨lv, dv, xv, L, D, X, rfl, hv, ht, ho, hb⟩
  exact ⟨L, D, X, Ten6.of hw hv.six ht, NewS.of (f := id) ho hb⟩
theorem same_six {B B' wd : Nat} {lv dv xv lu du xu : Value} {k p q : Int} {L D X : List Int} {w : World} (h : Ten6 k p q wd L D X) (ha : RdT B w lv dv xv L D X) (hb : RdT B' w lu du xu L D X) (hB : B ≤ w.heap.size) (hB' : B' ≤ w.heap.size) :
    Calls Try.prog 39 #[ringV k p q, tenV lv dv xv, tenV lu du xu] w fun e w' => e = .returned (.bool true) ∧ Below w.heap.size w w' := by
  have hq := same_tensor_impl (k := k) (p := p) (q := q) ha hb hB hB' h.len h.len h.ints h.ints
  rw [show sameB k p q L D X L D X = true by unfold sameB; rw [h.ten]; simp] at hq
  exact hq
theorem Rs.six {w0 wr : World} {bs : List BxE} {rows : List RowE} (h : Rs w0 wr bs rows) : Rs w0 (wr.alloc (.cells #[.int .i64 0, .int .i64 1, .int .i64 2, .int .i64 3, .int .i64 4, .int .i64 5] 3)) bs ((.slice (some ⟨wr.heap.size, 0, none⟩) 6 6, [0, 1, 2, 3, 4, 5]) :: rows) := by
  refine h.new ((Below.refl _ _).alloc (Nat.le_refl _) _) ⟨?_, fun g hg => ?_, Nat.le_refl _⟩
  · exact World.ownsRow_lit (base := wr.heap.size) (e := 3) (size := 1) wr #[.int .i64 0, .int .i64 1, .int .i64 2, .int .i64 3, .int .i64 4, .int .i64 5] 6 (Nat.le_refl _) (by unfold maxLen; omega) rfl
  · simp only [Value.ownBlock, Option.some.injEq] at hg; subst hg; simp
set_option maxHeartbeats 800000 in
theorem same_yes {B B' : Nat} {lv dv xv lu du xu : Value} {L D X : List Int} {w : World} (ha : RdT B w lv dv xv L D X) (hb : RdT B' w lu du xu L D X) (hB : B ≤ w.heap.size) (hB' : B' ≤ w.heap.size) (hn : LenT L D X) :
    Calls Try.prog 43 #[tenV lv dv xv, tenV lu du xu] w fun e w' => e = .returned (.bool true) ∧ Below w.heap.size w w' := by
  have hbel : Below w.heap.size w ((w.alloc (.cells #[lv, dv, xv] 28)).alloc (.cells #[lu, du, xu] 28)) := ((Below.refl _ _).alloc (Nat.le_refl _) _).alloc (by simp) _
  have HA := Lib.hid (ha.below hbel hB)
  have HU := Lib.hid (hb.below hbel hB')
  have E1 := Lib.hid (ints_same HA.out.l HU.out.l hn.l)
  have E2 := Lib.hid (ints_same HA.out.d HU.out.d hn.d)
  have E3 := Lib.hid (ints_same HA.out.x HU.out.x hn.x)
  have HBL := Lib.hid hbel
  obtain ⟨al, cl, rfl, -⟩ := ints_form ha.l
  obtain ⟨ad, cd, rfl, -⟩ := ints_form ha.d
  obtain ⟨ax, cx, rfl, -⟩ := ints_form ha.x
  obtain ⟨bl, kl, rfl, -⟩ := ints_form hb.l
  obtain ⟨bd, kd, rfl, -⟩ := ints_form hb.d
  obtain ⟨bx, kx, rfl, -⟩ := ints_form hb.x
  clear ha hb hB hB' hn hbel HA HU
  go_enter Try.func43, Try.ntmps43
  go_wp2_with fail
  refine E1.out.mono ?_
  rintro e w1 ⟨rfl, rfl⟩
  go_wp2_with fail
  refine E2.out.mono ?_
  rintro e w1 ⟨rfl, rfl⟩
  go_wp2_with fail
  refine E3.out.mono ?_
  rintro e w1 ⟨rfl, rfl⟩
  go_wp2
  go_ret
  exact ⟨rfl, HBL.out⟩
end Go.Proofs.Ytfdjlahaiogabab
