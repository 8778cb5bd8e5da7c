
/- spec.l06Names. -/
import Derived.Test.YtfdjlahaiogabaaTensorOk
import Derived.Test.YtfdjlahaiogabaaRs
import Derived.Test.YtfdjlahaiogabaaBx
namespace Go.Proofs.Ytfdjlahaiogabaa
set_option maxRecDepth 20000
open Go.RowKit

/-- A row of the call's own, not empty: its cells. -/
theorem Own.slot {w : World} {lo hi m cap : Nat} {a : Option Addr} {xs : List Int} (h : Own w lo hi (.slice a m cap) xs) (hm : xs.length = m) (h0 : 0 < m) :
    ∃ g, a = some ⟨g, 0, none⟩ ∧ lo ≤ g ∧ g < hi ∧ (∀ i x, xs[i]? = some x → w.cell? ⟨g, i, none⟩ = some (.int .i64 x)) ∧ ∀ i, w.frozen? ⟨g, i, none⟩ = false := by
  subst hm
  rcases h.1.2 with ⟨-, hnil⟩ | ⟨g, cap', cur, e, hb, -⟩
  · omega
  · cases e
    refine ⟨g, rfl, hb, h.2.1 g rfl, fun i x hi => ?_, fun i => h.1.frozenAt i⟩
    have hlt := (List.getElem?_eq_some_iff.1 hi).1
    rw [h.1.cellAt i (by omega), ints_at xs i hlt, (List.getElem?_eq_some_iff.1 hi).2]
open Classical in
noncomputable def nameI (F T : List Int) (n : Int) : Int := if n ∈ F then T.getD (F.idxOf n) 0 else n
noncomputable def namesL (L F T : List Int) : List Int := L.map (nameI F T)
theorem namesL_len (L F T : List Int) : (namesL L F T).length = L.length := by simp [namesL]
/-- The first j are renamed. -/
noncomputable def nameTo (j : Nat) (L F T : List Int) : List Int := (L.take j).map (nameI F T) ++ L.drop j
theorem nameTo_zero (L F T : List Int) : nameTo 0 L F T = L := by simp [nameTo]
theorem nameTo_full (L F T : List Int) : nameTo L.length L F T = namesL L F T := by simp [nameTo, namesL]
theorem nameTo_len (j : Nat) (L F T : List Int) : (nameTo j L F T).length = L.length := by simp [nameTo]; omega
theorem nameTo_at {j : Nat} {L F T : List Int} {n : Int} (h : L[j]? = some n) : (nameTo j L F T)[j]? = some n := by
  have hlt := (List.getElem?_eq_some_iff.1 h).1
  unfold nameTo
  rw [List.getElem?_append_right (by simp; omega)]
  simp [Nat.min_eq_left (Nat.le_of_lt hlt), h]
theorem nameTo_set {j : Nat} {L F T : List Int} {n : Int} (h : L[j]? = some n) : (nameTo j L F T).set j (nameI F T n) = nameTo (j + 1) L F T := by
  have hlt := (List.getElem?_eq_some_iff.1 h).1
  have e1 : ((L.take j).map (nameI F T)).length = j := by rw [List.length_map, List.length_take]; omega
  have e2 : L.drop j = n :: L.drop (j + 1) := by rw [List.drop_eq_getElem_cons hlt, (List.getElem?_eq_some_iff.1 h).2]
  unfold nameTo
  rw [List.set_append_right _ _ (by omega), e1, Nat.sub_self, e2, List.set_cons_zero, List.take_add_one, h]
  simp
theorem nameTo_same {j : Nat} {L F T : List Int} {n : Int} (h : L[j]? = some n) (hn : nameI F T n = n) : nameTo (j + 1) L F T = nameTo j L F T := by
  rw [← nameTo_set h, hn]
  obtain ⟨hlt, e⟩ := List.getElem?_eq_some_iff.1 (nameTo_at (F := F) (T := T) h)
  have h2 := List.set_getElem_self hlt
  rwa [e] at h2
theorem nameI_in {F T : List Int} {n : Int} {q : Nat} {t : Int} (hm : n ∈ F) (hq : F.idxOf n = q) (ht : T[q]? = some t) : nameI F T n = t := by
  unfold nameI; rw [if_pos hm, hq, getD_at ht]
theorem nameI_out {F T : List Int} {n : Int} (hm : n ∉ F) : nameI F T n = n := if_neg hm
set_option maxHeartbeats 1600000 in
theorem names_spec {B : Nat} {lv fv tv : Value} {L F T : List Int} {w : World} (hl : Rd B w lv (ints L)) (hf : Rd B w fv (ints F)) (ht : Rd B w tv (ints T)) (hB : B ≤ w.heap.size) (hft : F.length = T.length) (h1 : L.length ≤ 1099511627776) (h2 : F.length ≤ 281474976710656) :
    Calls Try.prog 95 #[lv, fv, tv] w (NewRow w (namesL L F T)) := by
  have RL := Lib.hid hl
  have RF := Lib.hid hf
  have RT := Lib.hid ht
  have HB := Lib.hid hB
  have HFT := Lib.hid hft
  have H2 := Lib.hid h2
  have HI := Lib.hid (ints_new hl hB h1)
  obtain ⟨al, cl, rfl, -⟩ := ints_form hl
  obtain ⟨af, cf, rfl, -⟩ := ints_form hf
  obtain ⟨aT, ct, rfl, -⟩ := ints_form ht
  obtain ⟨m, hm⟩ : ∃ m, m = L.length := ⟨_, rfl⟩
  obtain ⟨mf, hmf⟩ : ∃ m, m = F.length := ⟨_, rfl⟩
  obtain ⟨mt, hmt⟩ : ∃ m, m = T.length := ⟨_, rfl⟩
  rw [← hm] at RL HI ⊢
  rw [← hmf] at RF ⊢
  rw [← hmt] at RT ⊢
  rw [← hm] at h1
  have HM := Lib.hid (And.intro hm (And.intro hmf hmt))
  clear hl hf ht hB hft h2 hm hmf hmt
  go_enter Try.func95, Try.ntmps95
  go_wp2_with fail
  refine HI.out.mono ?_
  rintro e w1 ⟨v, rfl, ho, hb⟩
  have R1 := Lib.hid ((Rs.start w).new hb ho)
  obtain ⟨a3, c3, rfl, -⟩ := ints_form ho.rd
  rw [← HM.out.1] at R1 ⊢
  have R1' : Hid (Rs w w1 [] [(.slice a3 m c3, nameTo 0 L F T)]) := Lib.hid (by rw [nameTo_zero]; exact R1.out)
  clear ho hb R1
  go_wp2
  go_loopw [15] (fun i wr => ∃ j : Nat, j ≤ m ∧ i = .int .i64 j ∧ Hid (Rs w wr [] [(.slice a3 m c3, nameTo j L F T)])) (fun i _ => m - (intOf i).toNat)
  case atStart => exact ⟨0, by omega, rfl, R1'⟩
  case round =>
    clear R1'
    obtain ⟨j, hj, rfl, HR⟩ := hrel
    by_cases hlt : j < m
    · obtain ⟨n, X1⟩ : ∃ n, Hid (L[j]? = some n) := ⟨_, List.getElem?_eq_getElem (by rw [← HM.out.1]; exact hlt)⟩
      obtain ⟨b, off, rfl, -, e1⟩ := (RL.out.below HR.out.bel HB.out).cellAt X1.out
      obtain ⟨g, rfl, -, -, hcell, hfz⟩ := (HR.out.own1 (List.mem_singleton.2 rfl)).slot (by rw [nameTo_len, HM.out.1]) (by omega)
      have c3' := hcell j n (nameTo_at X1.out)
      have f3 := hfz j
      have hfind := find_spec n (RF.out.below HR.out.bel HB.out) H2.out
      clear hcell hfz
      by_cases hin : n ∈ F
      · obtain ⟨q, hq⟩ : ∃ q, F.idxOf n = q := ⟨_, rfl⟩
        have hql : q < mt := by rw [← hq, HM.out.2.2, ← HFT.out]; exact List.idxOf_lt_length_iff.2 hin
        have hfi : findI F n = (q : Int) := by unfold findI; rw [if_pos hin, hq]
        obtain ⟨t, T1⟩ : ∃ t, Hid (T[q]? = some t) := ⟨_, List.getElem?_eq_getElem (by rw [← HM.out.2.2]; exact hql)⟩
        obtain ⟨b2, off2, rfl, -, e2⟩ := (RT.out.below HR.out.bel HB.out).cellAt T1.out
        rw [hfi] at hfind
        have HG := Lib.hid hfind
        have HS := Lib.hid (HR.out.put (by rw [nameTo_len, HM.out.1]) j t)
        rw [← nameI_in hin hq T1.out, nameTo_set X1.out, nameI_in hin hq T1.out] at HS
        clear hfind hfi hin hq
        go_wp2_with fail
        refine HG.out.mono ?_
        rintro e w2 ⟨rfl, rfl⟩
        go_wp2
        go_roundw
        case rel => exact ⟨j + 1, by omega, by go_num, HS⟩
        case measure => simp [intOf]; omega
      · obtain ⟨z, hz, hz0⟩ : ∃ z, findI F n = z ∧ z < 0 := ⟨_, rfl, findI_neg.2 hin⟩
        rw [hz] at hfind
        have HG := Lib.hid hfind
        have q1 : decide ((0 : Int) ≤ z) = false := by simpa using hz0
        have HS : Hid (Rs w wr [] [(.slice (some ⟨g, 0, none⟩) m c3, nameTo (j + 1) L F T)]) := Lib.hid (by rw [nameTo_same X1.out (nameI_out hin)]; exact HR.out)
        clear hfind hz hin
        go_wp2_with fail
        refine HG.out.mono ?_
        rintro e w2 ⟨rfl, rfl⟩
        go_wp2
        go_roundw
        case rel => exact ⟨j + 1, by omega, by go_num, HS⟩
        case measure => simp [intOf]; omega
    · obtain rfl : j = m := by omega
      go_wp2
      go_ret
      have h := HR.out.own1 (List.mem_singleton.2 rfl)
      have e : nameTo j L F T = namesL L F T := by rw [HM.out.1]; exact nameTo_full L F T
      rw [e] at h
      exact ⟨_, rfl, h, HR.out.bel⟩

end Go.Proofs.Ytfdjlahaiogabaa
namespace Go.Proofs.Ytfdjlahaiogabaa
set_option maxRecDepth 20000
open Go.RowKit

def SetTo (xs ys : List Int) (j : Nat) : Prop := ∀ i n, i < j → ys[i]? = some n → n ∈ xs ∧ n ∉ ys.take i
theorem SetTo.step {xs ys : List Int} {j : Nat} {n : Int} (h : SetTo xs ys j) (hn : ys[j]? = some n) (h1 : n ∈ xs) (h2 : n ∉ ys.take j) : SetTo xs ys (j + 1) := fun i k hi hk => by
  by_cases e : i = j
  · subst e; rw [hn] at hk; injection hk with hk; subst hk; exact ⟨h1, h2⟩
  · exact h i k (by omega) hk
theorem set_not {xs ys : List Int} {j : Nat} {n : Int} (hn : ys[j]? = some n) (h : n ∉ xs ∨ n ∈ ys.take j) : setV xs ys = false := setV_false fun hv => by
  have h1 := hv.1 j n hn
  rcases h with h | h
  · exact h h1.1
  · exact h1.2 h
theorem set_end {xs ys : List Int} (h : SetTo xs ys ys.length) : setV xs ys = decide (xs.length = ys.length) := by
  by_cases e : xs.length = ys.length
  · rw [decide_eq_true e]
    exact setV_true.2 ⟨fun i n hi => h i n (List.getElem?_eq_some_iff.1 hi).1 hi, e⟩
  · rw [decide_eq_false e]
    exact setV_false (fun hv => e hv.2)
set_option maxHeartbeats 1600000 in
theorem set_spec_full (a : Option Addr) (cap m : Nat) (a2 : Option Addr) (cap2 m2 B : Nat) (xs ys : List Int) (w : World) (h1 : xs.length = m) (h2 : ys.length = m2) (hm : m ≤ 281474976710656) (hm2 : m2 ≤ 281474976710656)
    (hl : Rd B w (.slice a m cap) (ints xs)) (hd : Rd B w (.slice a2 m2 cap2) (ints ys)) :
    Calls Try.prog 91 #[.slice a m cap, .slice a2 m2 cap2] w fun e w' => e = .returned (.bool (setV xs ys)) ∧ w = w' := by
  have L1 := Lib.hid h1
  have L2 := Lib.hid h2
  have RX := Lib.hid hl
  have RY := Lib.hid hd
  obtain ⟨r, hr⟩ : ∃ r, r = setV xs ys := ⟨_, rfl⟩
  rw [← hr]
  have HR := Lib.hid hr
  clear h1 h2 hl hd hr
  go_enter Try.func91, Try.ntmps91
  go_wp2
  go_loop [9] (fun i => ∃ j : Nat, j ≤ m2 ∧ i = .int .i64 j ∧ Hid (SetTo xs ys j)) (fun i => m2 - (intOf i).toNat)
  case atStart => exact ⟨0, by omega, rfl, fun i n hi => by omega⟩
  case round =>
    obtain ⟨j, hj, rfl, HI⟩ := hrel
    by_cases hlt : j < m2
    · obtain ⟨n, N1⟩ : ∃ n, Hid (ys[j]? = some n) := ⟨_, List.getElem?_eq_getElem (by rw [L2.out]; exact hlt)⟩
      obtain ⟨b2, off2, rfl, hbB, e2⟩ := RY.out.cellAt N1.out
      have hcap : j ≤ cap2 := by
        rcases RY.out.ints_cases with ⟨h, -⟩ | ⟨b, off, ca, e, hb, hcc, hc⟩
        · have := L2.out; rw [h] at this; simp at this; omega
        · cases e; rw [L2.out] at hcc; omega
      have hfx := find_spec n RX.out (by rw [L1.out]; exact hm)
      have hfy := find_spec n (RY.out.take j (by rw [L2.out]; omega)) (by rw [List.length_take, L2.out]; omega)
      by_cases h3 : n ∈ xs
      case neg =>
        obtain ⟨z, hz, hz0⟩ : ∃ z, findI xs n = z ∧ z < 0 := ⟨_, rfl, findI_neg.2 h3⟩
        rw [hz] at hfx
        have HG := Lib.hid hfx
        have HF : Hid (r = false) := by show r = false; rw [HR.out]; exact set_not N1.out (.inl h3)
        have q1 : decide (z < (0 : Int)) = true := by simpa using hz0
        clear hfx hfy hz h3
        go_wp2_with fail
        refine HG.out.mono ?_
        rintro e w1 ⟨rfl, rfl⟩
        go_wp2
        go_ret
        exact ⟨by rw [HF.out]; rfl, rfl⟩
      case pos =>
        obtain ⟨z, hz, hz0⟩ : ∃ z, findI xs n = z ∧ 0 ≤ z := ⟨_, rfl, Int.not_lt.1 (fun h => findI_neg.1 h h3)⟩
        rw [hz] at hfx
        have HG := Lib.hid hfx
        have q1 : decide (z < (0 : Int)) = false := by simpa using hz0
        have HM := Lib.hid h3
        clear hfx hz h3
        by_cases h4 : n ∈ ys.take j
        · obtain ⟨u, hu, hu0⟩ : ∃ u, findI (ys.take j) n = u ∧ 0 ≤ u := ⟨_, rfl, Int.not_lt.1 (fun h => findI_neg.1 h h4)⟩
          rw [hu] at hfy
          have HH := Lib.hid hfy
          have HF : Hid (r = false) := by show r = false; rw [HR.out]; exact set_not N1.out (.inr h4)
          have q2 : decide ((0 : Int) ≤ u) = true := by simpa using hu0
          clear hfy hu h4
          go_wp2_with fail
          refine HG.out.mono ?_
          rintro e w1 ⟨rfl, rfl⟩
          go_wp2_with fail
          refine HH.out.mono ?_
          rintro e w1 ⟨rfl, rfl⟩
          go_wp2
          go_ret
          exact ⟨by rw [HF.out]; rfl, rfl⟩
        · obtain ⟨u, hu, hu0⟩ : ∃ u, findI (ys.take j) n = u ∧ u < 0 := ⟨_, rfl, findI_neg.2 h4⟩
          rw [hu] at hfy
          have HH := Lib.hid hfy
          have HS := Lib.hid (HI.out.step N1.out HM.out h4)
          have q2 : decide ((0 : Int) ≤ u) = false := by simpa using hu0
          clear hfy hu h4
          go_wp2_with fail
          refine HG.out.mono ?_
          rintro e w1 ⟨rfl, rfl⟩
          go_wp2_with fail
          refine HH.out.mono ?_
          rintro e w1 ⟨rfl, rfl⟩
          go_wp2
          go_round
          case rel => exact ⟨j + 1, by omega, by go_num, HS⟩
          case measure => simp [intOf]; omega
    · obtain rfl : j = m2 := by omega
      have HF : Hid (r = decide (m = j)) := by
        show _ = _
        have h := set_end (xs := xs) (ys := ys) (by rw [L2.out]; exact HI.out)
        rw [HR.out, h, L1.out, L2.out]
      by_cases hmm : m = j
      · have q1 : ((m : Int) == (j : Int)) = true := by simp [hmm]
        go_wp2
        go_ret
        exact ⟨by rw [HF.out, decide_eq_true hmm]; rfl, rfl⟩
      · have q1 : ((m : Int) == (j : Int)) = false := by simp; omega
        go_wp2
        go_ret
        exact ⟨by rw [HF.out, decide_eq_false hmm]; rfl, rfl⟩
theorem set_spec {B : Nat} {va vb : Value} {xs ys : List Int} {w : World} (ha : Rd B w va (ints xs)) (hb : Rd B w vb (ints ys)) (h1 : xs.length ≤ 281474976710656) (h2 : ys.length ≤ 281474976710656) :
    Calls Try.prog 91 #[va, vb] w fun e w' => e = .returned (.bool (setV xs ys)) ∧ w = w' := by
  obtain ⟨a, cap, rfl, -⟩ := ints_form ha
  obtain ⟨a2, cap2, rfl, -⟩ := ints_form hb
  exact set_spec_full a cap _ a2 cap2 _ B xs ys w rfl rfl h1 h2 ha hb

theorem eq_not {xs ys : List Int} {j : Nat} {x : Int} (hx : xs[j]? = some x) (h : ys[j]? ≠ some x) : decide (xs = ys) = false := decide_eq_false fun e => h (by rw [← e]; exact hx)
set_option maxHeartbeats 1600000 in
theorem equal_spec_full (a : Option Addr) (cap m : Nat) (a2 : Option Addr) (cap2 m2 B : Nat) (xs ys : List Int) (w : World) (h1 : xs.length = m) (h2 : ys.length = m2) (hm : m ≤ 281474976710656) (hm2 : m2 ≤ 281474976710656)
    (hl : Rd B w (.slice a m cap) (ints xs)) (hd : Rd B w (.slice a2 m2 cap2) (ints ys)) :
    Calls Try.prog 118 #[.slice a m cap, .slice a2 m2 cap2] w fun e w' => e = .returned (.bool (decide (xs = ys))) ∧ w = w' := by
  have L1 := Lib.hid h1
  have L2 := Lib.hid h2
  have RX := Lib.hid hl
  have RY := Lib.hid hd
  obtain ⟨r, hr⟩ : ∃ r, r = decide (xs = ys) := ⟨_, rfl⟩
  rw [← hr]
  have HR := Lib.hid hr
  clear h1 h2 hl hd hr
  go_enter Try.func118, Try.ntmps118
  go_wp2
  go_loop [9] (fun i => ∃ j : Nat, j ≤ m ∧ i = .int .i64 j ∧ Hid (xs.take j = ys.take j) ∧ j ≤ m2) (fun i => m - (intOf i).toNat)
  case atStart => exact ⟨0, by omega, rfl, rfl, by omega⟩
  case round =>
    obtain ⟨j, hj, rfl, HI, hj2⟩ := hrel
    by_cases hlt : j < m
    · obtain ⟨x, X1⟩ : ∃ x, Hid (xs[j]? = some x) := ⟨_, List.getElem?_eq_getElem (by rw [L1.out]; exact hlt)⟩
      obtain ⟨b, off, rfl, -, e1⟩ := RX.out.cellAt X1.out
      by_cases hlt2 : j < m2
      · obtain ⟨y, Y1⟩ : ∃ y, Hid (ys[j]? = some y) := ⟨_, List.getElem?_eq_getElem (by rw [L2.out]; exact hlt2)⟩
        obtain ⟨b2, off2, rfl, -, e2⟩ := RY.out.cellAt Y1.out
        have q0 : decide ((m2 : Int) ≤ (j : Int)) = false := by simp; omega
        by_cases hxy : y = x
        · subst hxy
          have q1 : (y != y) = false := by simp
          go_wp2
          go_round
          case rel => exact ⟨j + 1, by omega, by go_num, take_step HI.out X1.out Y1.out, by omega⟩
          case measure => simp [intOf]; omega
        · have q1 : (y != x) = true := by simpa using hxy
          have HF : Hid (r = false) := by show r = false; rw [HR.out]; exact eq_not X1.out (by rw [Y1.out]; intro e; injection e with e; exact hxy e)
          clear hxy
          go_wp2
          go_ret
          exact ⟨by rw [HF.out]; rfl, rfl⟩
      · have q0 : decide ((m2 : Int) ≤ (j : Int)) = true := by simp; omega
        have HF : Hid (r = false) := by show r = false; rw [HR.out]; exact eq_not X1.out (by rw [List.getElem?_eq_none (by rw [L2.out]; omega)]; simp)
        go_wp2
        go_ret
        exact ⟨by rw [HF.out]; rfl, rfl⟩
    · obtain rfl : j = m := by omega
      by_cases hmm : j = m2
      · have HF : Hid (r = true) := by
          show _ = _
          have h := HI.out
          rw [List.take_of_length_le (by rw [L1.out]; omega), List.take_of_length_le (by rw [L2.out]; omega)] at h
          rw [HR.out, decide_eq_true h]
        have q1 : ((j : Int) == (m2 : Int)) = true := by simp [hmm]
        go_wp2
        go_ret
        exact ⟨by rw [HF.out]; rfl, rfl⟩
      · have HF : Hid (r = false) := by
          show _ = _
          rw [HR.out]
          exact decide_eq_false fun e => hmm (by rw [← L1.out, ← L2.out, e])
        have q1 : ((j : Int) == (m2 : Int)) = false := by simp; omega
        go_wp2
        go_ret
        exact ⟨by rw [HF.out]; rfl, rfl⟩
theorem equal_spec {B B' : Nat} {va vb : Value} {xs ys : List Int} {w : World} (ha : Rd B w va (ints xs)) (hb : Rd B' w vb (ints ys)) (h1 : xs.length ≤ 281474976710656) (h2 : ys.length ≤ 281474976710656) :
    Calls Try.prog 118 #[va, vb] w fun e w' => e = .returned (.bool (decide (xs = ys))) ∧ w = w' := by
  obtain ⟨a, cap, rfl, -⟩ := ints_form ha
  obtain ⟨a2, cap2, rfl, -⟩ := ints_form hb
  exact equal_spec_full a cap _ a2 cap2 _ (max B B') xs ys w rfl rfl h1 h2 (ha.mono (Nat.le_max_left _ _)) (hb.mono (Nat.le_max_right _ _))
end Go.Proofs.Ytfdjlahaiogabaa
