
/- spec.l06Names. -/
import Derived.Test.YtgbmacppgaopfaaTensorOk
import Derived.Test.YtgbmacppgaopfaaTenFacts
import Derived.Test.YtgbmacppgaopfaaRs
import Derived.Test.YtgbmacppgaopfaaBx
import Derived.Deep.RegionHeld3
import Derived.Test.YtgbmacppgaopfaaTensorOk2
import Derived.Test.YtgbmacppgaopfaaElemAt
import Derived.Deep.AppendLies
import Derived.Deep.RegionLaw
namespace Go.Proofs.Ytgbmacppgaopfaa
set_option maxRecDepth 20000
open Go.RowKit

/-- A row of the call's own, not empty: its cells. -/
theorem Own.slot {w : World} {lo hi m cap : Nat} {a : Option Addr} {xs : List Int} (h : Own w lo hi (.slice a m cap) xs) (hm : xs.length = m) (h0 : 0 < m) :
    ∃ g, a = some ⟨g, 0, none⟩ ∧ lo ≤ g ∧ g < hi ∧ (∀ i x, xs[i]? = some x → w.cell? ⟨g, i, none⟩ = some (.int .i64 x)) ∧ ∀ i, w.frozen? ⟨g, i, none⟩ = false := by
  subst hm
  rcases h.1.2 with ⟨-, hnil⟩ | ⟨g, cap', cur, e, hb, -⟩
  · omega
  · cases e
    refine ⟨g, rfl, hb, h.2.1 g rfl, fun i x hi => ?_, fun i => h.1.frozenAt i⟩
    have hlt := (List.getElem?_eq_some_iff.1 hi).1
    rw [h.1.cellAt i (by omega), ints_at xs i hlt, (List.getElem?_eq_some_iff.1 hi).2]
open Classical in
noncomputable def nameI (F T : List Int) (n : Int) : Int := if n ∈ F then T.getD (F.idxOf n) 0 else n
noncomputable def namesL (L F T : List Int) : List Int := L.map (nameI F T)
theorem namesL_len (L F T : List Int) : (namesL L F T).length = L.length := by simp [namesL]
/-- The first j are renamed. -/
noncomputable def nameTo (j : Nat) (L F T : List Int) : List Int := (L.take j).map (nameI F T) ++ L.drop j
theorem nameTo_zero (L F T : List Int) : nameTo 0 L F T = L := by simp [nameTo]
theorem nameTo_full (L F T : List Int) : nameTo L.length L F T = namesL L F T := by simp [nameTo, namesL]
theorem nameTo_len (j : Nat) (L F T : List Int) : (nameTo j L F T).length = L.length := by simp [nameTo]; omega
theorem nameTo_at {j : Nat} {L F T : List Int} {n : Int} (h : L[j]? = some n) : (nameTo j L F T)[j]? = some n := by
  have hlt := (List.getElem?_eq_some_iff.1 h).1
  unfold nameTo
  rw [List.getElem?_append_right (by simp; omega)]
  simp [Nat.min_eq_left (Nat.le_of_lt hlt), h]
theorem nameTo_set {j : Nat} {L F T : List Int} {n : Int} (h : L[j]? = some n) : (nameTo j L F T).set j (nameI F T n) = nameTo (j + 1) L F T := by
  have hlt := (List.getElem?_eq_some_iff.1 h).1
  have e1 : ((L.take j).map (nameI F T)).length = j := by rw [List.length_map, List.length_take]; omega
  have e2 : L.drop j = n :: L.drop (j + 1) := by rw [List.drop_eq_getElem_cons hlt, (List.getElem?_eq_some_iff.1 h).2]
  unfold nameTo
  rw [List.set_append_right _ _ (by omega), e1, Nat.sub_self, e2, List.set_cons_zero, List.take_add_one, h]
  simp
theorem nameTo_same {j : Nat} {L F T : List Int} {n : Int} (h : L[j]? = some n) (hn : nameI F T n = n) : nameTo (j + 1) L F T = nameTo j L F T := by
  rw [← nameTo_set h, hn]
  obtain ⟨hlt, e⟩ := List.getElem?_eq_some_iff.1 (nameTo_at (F := F) (T := T) h)
  have h2 := List.set_getElem_self hlt
  rwa [e] at h2
theorem nameI_in {F T : List Int} {n : Int} {q : Nat} {t : Int} (hm : n ∈ F) (hq : F.idxOf n = q) (ht : T[q]? = some t) : nameI F T n = t := by
  unfold nameI; rw [if_pos hm, hq, getD_at ht]
theorem nameI_out {F T : List Int} {n : Int} (hm : n ∉ F) : nameI F T n = n := if_neg hm
end Go.Proofs.Ytgbmacppgaopfaa
namespace Go.Proofs.Ytgbmacppgaopfaa
set_option maxRecDepth 20000
open Go.RowKit

def SetTo (xs ys : List Int) (j : Nat) : Prop := ∀ i n, i < j → ys[i]? = some n → n ∈ xs ∧ n ∉ ys.take i
theorem SetTo.step {xs ys : List Int} {j : Nat} {n : Int} (h : SetTo xs ys j) (hn : ys[j]? = some n) (h1 : n ∈ xs) (h2 : n ∉ ys.take j) : SetTo xs ys (j + 1) := fun i k hi hk => by
  by_cases e : i = j
  · subst e; rw [hn] at hk; injection hk with hk; subst hk; exact ⟨h1, h2⟩
  · exact h i k (by omega) hk
theorem set_not {xs ys : List Int} {j : Nat} {n : Int} (hn : ys[j]? = some n) (h : n ∉ xs ∨ n ∈ ys.take j) : setV xs ys = false := setV_false fun hv => by
  have h1 := hv.1 j n hn
  rcases h with h | h
  · exact h h1.1
  · exact h1.2 h
theorem set_end {xs ys : List Int} (h : SetTo xs ys ys.length) : setV xs ys = decide (xs.length = ys.length) := by
  by_cases e : xs.length = ys.length
  · rw [decide_eq_true e]
    exact setV_true.2 ⟨fun i n hi => h i n (List.getElem?_eq_some_iff.1 hi).1 hi, e⟩
  · rw [decide_eq_false e]
    exact setV_false (fun hv => e hv.2)
set_option maxHeartbeats 1600000 in
theorem set_spec_full (a : Option Addr) (cap m : Nat) (a2 : Option Addr) (cap2 m2 B : Nat) (xs ys : List Int) (w : World) (h1 : xs.length = m) (h2 : ys.length = m2) (hm : m ≤ 281474976710656) (hm2 : m2 ≤ 281474976710656)
    (hl : Rd B w (.slice a m cap) (ints xs)) (hd : Rd B w (.slice a2 m2 cap2) (ints ys)) :
    Calls Try.prog 97 #[.slice a m cap, .slice a2 m2 cap2] w fun e w' => e = .returned (.bool (setV xs ys)) ∧ w = w' := by
  have L1 := Lib.hid h1
  have L2 := Lib.hid h2
  have RX := Lib.hid hl
  have RY := Lib.hid hd
  obtain ⟨r, hr⟩ : ∃ r, r = setV xs ys := ⟨_, rfl⟩
  rw [← hr]
  have HR := Lib.hid hr
  clear h1 h2 hl hd hr
  go_enter Try.func97, Try.ntmps97
  go_wp2
  go_loop [9] (fun i => ∃ j : Nat, j ≤ m2 ∧ i = .int .i64 j ∧ Hid (SetTo xs ys j)) (fun i => m2 - (intOf i).toNat)
  case atStart => exact ⟨0, by omega, rfl, fun i n hi => by omega⟩
  case round =>
    obtain ⟨j, hj, rfl, HI⟩ := hrel
    by_cases hlt : j < m2
    · obtain ⟨n, N1⟩ : ∃ n, Hid (ys[j]? = some n) := ⟨_, List.getElem?_eq_getElem (by rw [L2.out]; exact hlt)⟩
      obtain ⟨b2, off2, rfl, hbB, e2⟩ := RY.out.cellAt N1.out
      have hcap : j ≤ cap2 := by
        rcases RY.out.ints_cases with ⟨h, -⟩ | ⟨b, off, ca, e, hb, hcc, hc⟩
        · have := L2.out; rw [h] at this; simp at this; omega
        · cases e; rw [L2.out] at hcc; omega
      have hfx := find_spec n RX.out (by rw [L1.out]; exact hm)
      have hfy := find_spec n (RY.out.take j (by rw [L2.out]; omega)) (by rw [List.length_take, L2.out]; omega)
      by_cases h3 : n ∈ xs
      case neg =>
        obtain ⟨z, hz, hz0⟩ : ∃ z, findI xs n = z ∧ z < 0 := ⟨_, rfl, findI_neg.2 h3⟩
        rw [hz] at hfx
        have HG := Lib.hid hfx
        have HF : Hid (r = false) := by show r = false; rw [HR.out]; exact set_not N1.out (.inl h3)
        have q1 : decide (z < (0 : Int)) = true := by simpa using hz0
        clear hfx hfy hz h3
        go_wp2_with fail
        refine HG.out.mono ?_
        rintro e w1 ⟨rfl, rfl⟩
        go_wp2
        go_ret
        exact ⟨by rw [HF.out]; rfl, rfl⟩
      case pos =>
        obtain ⟨z, hz, hz0⟩ : ∃ z, findI xs n = z ∧ 0 ≤ z := ⟨_, rfl, Int.not_lt.1 (fun h => findI_neg.1 h h3)⟩
        rw [hz] at hfx
        have HG := Lib.hid hfx
        have q1 : decide (z < (0 : Int)) = false := by simpa using hz0
        have HM := Lib.hid h3
        clear hfx hz h3
        by_cases h4 : n ∈ ys.take j
        · obtain ⟨u, hu, hu0⟩ : ∃ u, findI (ys.take j) n = u ∧ 0 ≤ u := ⟨_, rfl, Int.not_lt.1 (fun h => findI_neg.1 h h4)⟩
          rw [hu] at hfy
          have HH := Lib.hid hfy
          have HF : Hid (r = false) := by show r = false; rw [HR.out]; exact set_not N1.out (.inr h4)
          have q2 : decide ((0 : Int) ≤ u) = true := by simpa using hu0
          clear hfy hu h4
          go_wp2_with fail
          refine HG.out.mono ?_
          rintro e w1 ⟨rfl, rfl⟩
          go_wp2_with fail
          refine HH.out.mono ?_
          rintro e w1 ⟨rfl, rfl⟩
          go_wp2
          go_ret
          exact ⟨by rw [HF.out]; rfl, rfl⟩
        · obtain ⟨u, hu, hu0⟩ : ∃ u, findI (ys.take j) n = u ∧ u < 0 := ⟨_, rfl, findI_neg.2 h4⟩
          rw [hu] at hfy
          have HH := Lib.hid hfy
          have HS := Lib.hid (HI.out.step N1.out HM.out h4)
          have q2 : decide ((0 : Int) ≤ u) = false := by simpa using hu0
          clear hfy hu h4
          go_wp2_with fail
          refine HG.out.mono ?_
          rintro e w1 ⟨rfl, rfl⟩
          go_wp2_with fail
          refine HH.out.mono ?_
          rintro e w1 ⟨rfl, rfl⟩
          go_wp2
          go_round
          case rel => exact ⟨j + 1, by omega, by go_num, HS⟩
          case measure => simp [intOf]; omega
    · obtain rfl : j = m2 := by omega
      have HF : Hid (r = decide (m = j)) := by
        show _ = _
        have h := set_end (xs := xs) (ys := ys) (by rw [L2.out]; exact HI.out)
        rw [HR.out, h, L1.out, L2.out]
      by_cases hmm : m = j
      · have q1 : ((m : Int) == (j : Int)) = true := by simp [hmm]
        go_wp2
        go_ret
        exact ⟨by rw [HF.out, decide_eq_true hmm]; rfl, rfl⟩
      · have q1 : ((m : Int) == (j : Int)) = false := by simp; omega
        go_wp2
        go_ret
        exact ⟨by rw [HF.out, decide_eq_false hmm]; rfl, rfl⟩
theorem set_spec {B : Nat} {va vb : Value} {xs ys : List Int} {w : World} (ha : Rd B w va (ints xs)) (hb : Rd B w vb (ints ys)) (h1 : xs.length ≤ 281474976710656) (h2 : ys.length ≤ 281474976710656) :
    Calls Try.prog 97 #[va, vb] w fun e w' => e = .returned (.bool (setV xs ys)) ∧ w = w' := by
  obtain ⟨a, cap, rfl, -⟩ := ints_form ha
  obtain ⟨a2, cap2, rfl, -⟩ := ints_form hb
  exact set_spec_full a cap _ a2 cap2 _ B xs ys w rfl rfl h1 h2 ha hb

theorem eq_not {xs ys : List Int} {j : Nat} {x : Int} (hx : xs[j]? = some x) (h : ys[j]? ≠ some x) : decide (xs = ys) = false := decide_eq_false fun e => h (by rw [← e]; exact hx)
set_option maxHeartbeats 1600000 in
theorem equal_spec_full (a : Option Addr) (cap m : Nat) (a2 : Option Addr) (cap2 m2 B : Nat) (xs ys : List Int) (w : World) (h1 : xs.length = m) (h2 : ys.length = m2) (hm : m ≤ 281474976710656) (hm2 : m2 ≤ 281474976710656)
    (hl : Rd B w (.slice a m cap) (ints xs)) (hd : Rd B w (.slice a2 m2 cap2) (ints ys)) :
    Calls Try.prog 141 #[.slice a m cap, .slice a2 m2 cap2] w fun e w' => e = .returned (.bool (decide (xs = ys))) ∧ w = w' := by
  have L1 := Lib.hid h1
  have L2 := Lib.hid h2
  have RX := Lib.hid hl
  have RY := Lib.hid hd
  obtain ⟨r, hr⟩ : ∃ r, r = decide (xs = ys) := ⟨_, rfl⟩
  rw [← hr]
  have HR := Lib.hid hr
  clear h1 h2 hl hd hr
  go_enter Try.func141, Try.ntmps141
  go_wp2
  go_loop [9] (fun i => ∃ j : Nat, j ≤ m ∧ i = .int .i64 j ∧ Hid (xs.take j = ys.take j) ∧ j ≤ m2) (fun i => m - (intOf i).toNat)
  case atStart => exact ⟨0, by omega, rfl, rfl, by omega⟩
  case round =>
    obtain ⟨j, hj, rfl, HI, hj2⟩ := hrel
    by_cases hlt : j < m
    · obtain ⟨x, X1⟩ : ∃ x, Hid (xs[j]? = some x) := ⟨_, List.getElem?_eq_getElem (by rw [L1.out]; exact hlt)⟩
      obtain ⟨b, off, rfl, -, e1⟩ := RX.out.cellAt X1.out
      by_cases hlt2 : j < m2
      · obtain ⟨y, Y1⟩ : ∃ y, Hid (ys[j]? = some y) := ⟨_, List.getElem?_eq_getElem (by rw [L2.out]; exact hlt2)⟩
        obtain ⟨b2, off2, rfl, -, e2⟩ := RY.out.cellAt Y1.out
        have q0 : decide ((m2 : Int) ≤ (j : Int)) = false := by simp; omega
        by_cases hxy : y = x
        · subst hxy
          have q1 : (y != y) = false := by simp
          go_wp2
          go_round
          case rel => exact ⟨j + 1, by omega, by go_num, take_step HI.out X1.out Y1.out, by omega⟩
          case measure => simp [intOf]; omega
        · have q1 : (y != x) = true := by simpa using hxy
          have HF : Hid (r = false) := by show r = false; rw [HR.out]; exact eq_not X1.out (by rw [Y1.out]; intro e; injection e with e; exact hxy e)
          clear hxy
          go_wp2
          go_ret
          exact ⟨by rw [HF.out]; rfl, rfl⟩
      · have q0 : decide ((m2 : Int) ≤ (j : Int)) = true := by simp; omega
        have HF : Hid (r = false) := by show r = false; rw [HR.out]; exact eq_not X1.out (by rw [List.getElem?_eq_none (by rw [L2.out]; omega)]; simp)
        go_wp2
        go_ret
        exact ⟨by rw [HF.out]; rfl, rfl⟩
    · obtain rfl : j = m := by omega
      by_cases hmm : j = m2
      · have HF : Hid (r = true) := by
          show _ = _
          have h := HI.out
          rw [List.take_of_length_le (by rw [L1.out]; omega), List.take_of_length_le (by rw [L2.out]; omega)] at h
          rw [HR.out, decide_eq_true h]
        have q1 : ((j : Int) == (m2 : Int)) = true := by simp [hmm]
        go_wp2
        go_ret
        exact ⟨by rw [HF.out]; rfl, rfl⟩
      · have HF : Hid (r = false) := by
          show _ = _
          rw [HR.out]
          exact decide_eq_false fun e => hmm (by rw [← L1.out, ← L2.out, e])
        have q1 : ((j : Int) == (m2 : Int)) = false := by simp; omega
        go_wp2
        go_ret
        exact ⟨by rw [HF.out]; rfl, rfl⟩
theorem equal_spec {B B' : Nat} {va vb : Value} {xs ys : List Int} {w : World} (ha : Rd B w va (ints xs)) (hb : Rd B' w vb (ints ys)) (h1 : xs.length ≤ 281474976710656) (h2 : ys.length ≤ 281474976710656) :
    Calls Try.prog 141 #[va, vb] w fun e w' => e = .returned (.bool (decide (xs = ys))) ∧ w = w' := by
  obtain ⟨a, cap, rfl, -⟩ := ints_form ha
  obtain ⟨a2, cap2, rfl, -⟩ := ints_form hb
  exact equal_spec_full a cap _ a2 cap2 _ (max B B') xs ys w rfl rfl h1 h2 (ha.mono (Nat.le_max_left _ _)) (hb.mono (Nat.le_max_right _ _))
end Go.Proofs.Ytgbmacppgaopfaa
namespace Go.Proofs.Ytgbmacppgaopfaa
set_option maxRecDepth 20000
open Go.RowKit

set_option maxHeartbeats 3200000 in
theorem sort_spec {B : Nat} {lv : Value} {L : List Int} {w : World} (hl : Rd B w lv (ints L)) (hB : B ≤ w.heap.size) (h1 : L.length ≤ 1099511627776) :
    Calls Try.prog 101 #[lv] w (NewRow w (sortL L)) := by
  have HI := Lib.hid (ints_new hl hB h1)
  obtain ⟨al, cl, rfl, -⟩ := ints_form hl
  obtain ⟨m, hm⟩ : ∃ m, m = L.length := ⟨_, rfl⟩
  rw [← hm] at HI h1 ⊢
  have HM := Lib.hid hm
  clear hl hB hm
  go_enter Try.func101, Try.ntmps101
  go_wp2_with fail
  refine HI.out.mono ?_
  rintro e w1 ⟨v, rfl, ho, hb⟩
  have R1 := Lib.hid ((Rs.start w).new hb ho)
  obtain ⟨a3, c3, rfl, -⟩ := ints_form ho.rd
  rw [← HM.out] at R1 ⊢
  clear ho hb
  go_wp2
  go_loopw [11] (fun i wr => ∃ (j : Nat) (ys : List Int), j ≤ m ∧ i = .int .i64 j ∧ Hid (Sorted L j ys) ∧ Hid (Rs w wr [] [(.slice a3 m c3, ys)])) (fun i _ => m - (intOf i).toNat)
  case atStart => exact ⟨0, L, by omega, rfl, Sorted.start L, R1⟩
  case round =>
    clear R1
    obtain ⟨j, ys, hj, rfl, HS, HR⟩ := hrel
    by_cases hlt : j < m
    · have hyl : Hid (ys.length = m) := Lib.hid (by rw [HS.out.2.length_eq, HM.out])
      have HN := Lib.hid (HS.out.ins (by rw [hyl.out]; exact hlt))
      go_wp2
      go_loopw [5] (fun k wr => ∃ (q : Nat) (ys : List Int), q ≤ j ∧ k = .int .i64 q ∧ Hid (Ins L j q ys) ∧ Hid (Rs w wr [] [(.slice a3 m c3, ys)])) (fun k _ => (intOf k).toNat)
      case atStart => exact ⟨j, ys, by omega, rfl, HN, HR⟩
      case round =>
        clear HN HR HS hyl
        obtain ⟨q, ys, hq, rfl, HN, HR⟩ := hrel
        have hyl : Hid (ys.length = m) := Lib.hid (by rw [HN.out.len.1, HM.out])
        by_cases h0 : q = 0
        · subst h0
          have HD := Lib.hid (HN.out.done (.inl rfl))
          have HRd := Lib.hid HR.out.drew
          go_wp2
          refine wp_region_held_drew (S := (fun _ => True)) (by kernel_rfl) (by (try dsimp only); first | done | exact True.intro) (fun hHeld => ?_)
          refine wpAnyH_take (i := 0) (v := ?_) rfl (by kernel_rfl) (by kernel_rfl) (by kernel_rfl) (fun _ _ _ h => h) (Or.inl ⟨by rfl, ?_⟩) (by assumption) ?_
          rotate_left
          · intro w hSw; (try dsimp only at hSw); go_simp <;> with_reducible rfl
          try simp only [Act.put, List.getElem_toArray, List.getElem_cons_zero, List.setIfInBounds_toArray, List.set_cons_zero, List.set_cons_succ]
          refine wpAnyH_take (i := 1) (v := ?_) rfl (by kernel_rfl) (by kernel_rfl) (by kernel_rfl) (fun _ _ _ h => h) (Or.inl ⟨by rfl, ?_⟩) (by assumption) ?_
          rotate_left
          · intro w hSw; (try dsimp only at hSw); go_simp <;> with_reducible rfl
          try simp only [Act.put, List.getElem_toArray, List.getElem_cons_succ, List.getElem_cons_zero, List.setIfInBounds_toArray, List.set_cons_zero, List.set_cons_succ]
          refine wpAnyH_take (i := 2) (v := ?_) rfl (by kernel_rfl) (by kernel_rfl) (by kernel_rfl) (fun _ _ _ h => h) (Or.inl ⟨by rfl, ?_⟩) (by assumption) ?_
          rotate_left
          · intro w hSw; (try dsimp only at hSw); go_simp <;> with_reducible rfl
          try simp only [Act.put, List.getElem_toArray, List.getElem_cons_succ, List.getElem_cons_zero, List.setIfInBounds_toArray, List.set_cons_zero, List.set_cons_succ]
          refine wpAnyH_take (i := 3) (v := undef) rfl (by kernel_rfl) (by kernel_rfl) (by kernel_rfl) (fun _ _ _ h => h) (Or.inr ⟨by rfl, rfl⟩) (by assumption) ?_
          try simp only [Act.put, List.getElem_toArray, List.getElem_cons_succ, List.getElem_cons_zero, List.setIfInBounds_toArray, List.set_cons_zero, List.set_cons_succ]
          refine wpAnyH_take (i := 4) (v := undef) rfl (by kernel_rfl) (by kernel_rfl) (by kernel_rfl) (fun _ _ _ h => h) (Or.inr ⟨by rfl, rfl⟩) (by assumption) ?_
          try simp only [Act.put, List.getElem_toArray, List.getElem_cons_succ, List.getElem_cons_zero, List.setIfInBounds_toArray, List.set_cons_zero, List.set_cons_succ]
          refine wpAnyH_take (i := 5) (v := undef) rfl (by kernel_rfl) (by kernel_rfl) (by kernel_rfl) (fun _ _ _ h => h) (Or.inr ⟨by rfl, rfl⟩) (by assumption) ?_
          try simp only [Act.put, List.getElem_toArray, List.getElem_cons_succ, List.getElem_cons_zero, List.setIfInBounds_toArray, List.set_cons_zero, List.set_cons_succ]
          refine wpAnyH_take (i := 6) (v := undef) rfl (by kernel_rfl) (by kernel_rfl) (by kernel_rfl) (fun _ _ _ h => h) (Or.inr ⟨by rfl, rfl⟩) (by assumption) ?_
          try simp only [Act.put, List.getElem_toArray, List.getElem_cons_succ, List.getElem_cons_zero, List.setIfInBounds_toArray, List.set_cons_zero, List.set_cons_succ]
          refine wpAnyH_take (i := 7) (v := undef) rfl (by kernel_rfl) (by kernel_rfl) (by kernel_rfl) (fun _ _ _ h => h) (Or.inr ⟨by rfl, rfl⟩) (by assumption) ?_
          try simp only [Act.put, List.getElem_toArray, List.getElem_cons_succ, List.getElem_cons_zero, List.setIfInBounds_toArray, List.set_cons_zero, List.set_cons_succ]
          refine wpAnyH_take (i := 8) (v := undef) rfl (by kernel_rfl) (by kernel_rfl) (by kernel_rfl) (fun _ _ _ h => h) (Or.inr ⟨by rfl, rfl⟩) (by assumption) ?_
          try simp only [Act.put, List.getElem_toArray, List.getElem_cons_succ, List.getElem_cons_zero, List.setIfInBounds_toArray, List.set_cons_zero, List.set_cons_succ]
          refine wpAnyH_take (i := 9) (v := undef) rfl (by kernel_rfl) (by kernel_rfl) (by kernel_rfl) (fun _ _ _ h => h) (Or.inr ⟨by rfl, rfl⟩) (by assumption) ?_
          try simp only [Act.put, List.getElem_toArray, List.getElem_cons_succ, List.getElem_cons_zero, List.setIfInBounds_toArray, List.set_cons_zero, List.set_cons_succ]
          refine wpAnyH_take (i := 10) (v := undef) rfl (by kernel_rfl) (by kernel_rfl) (by kernel_rfl) (fun _ _ _ h => h) (Or.inr ⟨by rfl, rfl⟩) (by assumption) ?_
          try simp only [Act.put, List.getElem_toArray, List.getElem_cons_succ, List.getElem_cons_zero, List.setIfInBounds_toArray, List.set_cons_zero, List.set_cons_succ]
          refine wpAnyH_take (i := 11) (v := undef) rfl (by kernel_rfl) (by kernel_rfl) (by kernel_rfl) (fun _ _ _ h => h) (Or.inr ⟨by rfl, rfl⟩) (by assumption) ?_
          try simp only [Act.put, List.getElem_toArray, List.getElem_cons_succ, List.getElem_cons_zero, List.setIfInBounds_toArray, List.set_cons_zero, List.set_cons_succ]
          refine wpAnyH_take (i := 12) (v := undef) rfl (by kernel_rfl) (by kernel_rfl) (by kernel_rfl) (fun _ _ _ h => h) (Or.inr ⟨by rfl, rfl⟩) (by assumption) ?_
          try simp only [Act.put, List.getElem_toArray, List.getElem_cons_succ, List.getElem_cons_zero, List.setIfInBounds_toArray, List.set_cons_zero, List.set_cons_succ]
          refine wpAnyH_take (i := 13) (v := ?_) rfl (by kernel_rfl) (by kernel_rfl) (by kernel_rfl) (fun _ _ _ h => h) (Or.inl ⟨by rfl, ?_⟩) (by assumption) ?_
          rotate_left
          · intro w hSw; (try dsimp only at hSw); go_simp <;> with_reducible rfl
          try simp only [Act.put, List.getElem_toArray, List.getElem_cons_succ, List.getElem_cons_zero, List.setIfInBounds_toArray, List.set_cons_zero, List.set_cons_succ]
          refine wpAnyH_done (by kernel_rfl) ?_ _
          go_wp2
          go_roundw
          case rel => exact ⟨j + 1, ys, by omega, by go_num, HD, HRd⟩
          case measure => simp [intOf]; omega
        · obtain ⟨p, rfl⟩ : ∃ p, q = p + 1 := ⟨q - 1, by omega⟩
          obtain ⟨g, rfl, -, -, hcell, hfz⟩ := (HR.out.own1 (List.mem_singleton.2 rfl)).slot hyl.out (by omega)
          obtain ⟨x, X1⟩ : ∃ x, Hid (ys[p + 1]? = some x) := ⟨_, List.getElem?_eq_getElem (by rw [hyl.out]; omega)⟩
          obtain ⟨y, Y1⟩ : ∃ y, Hid (ys[p]? = some y) := ⟨_, List.getElem?_eq_getElem (by rw [hyl.out]; omega)⟩
          have cx := hcell (p + 1) x X1.out
          have cy := hcell p y Y1.out
          have fx := hfz (p + 1)
          have fy := hfz p
          clear hcell hfz h0
          have hcast : ((p + 1 : Nat) : Int) = (p : Int) + 1 := by omega
          rw [hcast]
          have hw1 : IntKind.i64.wrap (p : Int) = (p : Int) := IntWalk.i64_in _ (by omega)
          have q0 : decide ((0 : Int) < (p : Int) + 1) = true := by simp
          have hpm : p < m := by omega
          have hpm1 : p + 1 < m := by omega
          have hpi : (p : Int) + 1 < (m : Int) := by omega
          have hpt : ((p : Int) + 1).toNat = p + 1 := by omega
          have hp0 : (0 : Int) ≤ (p : Int) + 1 := by omega
          by_cases hxy : x < y
          · have q1 : decide (x < y) = true := by simpa using hxy
            have HN2 := Lib.hid (HN.out.step (by omega) (by rw [Nat.add_sub_cancel]; exact Y1.out) X1.out hxy)
            have HR2 := Lib.hid ((HR.out.drew.put hyl.out (p + 1) y).put (by rw [List.length_set]; exact hyl.out) p x)
            rw [Nat.add_sub_cancel] at HN2
            have cx2 : wr.drew.cell? ⟨g, p + 1, none⟩ = some (.int .i64 x) := cx
            have cy2 : wr.drew.cell? ⟨g, p, none⟩ = some (.int .i64 y) := cy
            have fx2 : wr.drew.frozen? ⟨g, p + 1, none⟩ = false := fx
            have cy3 : (wr.drew.setCell ⟨g, p + 1, none⟩ (.int .i64 y)).cell? ⟨g, p, none⟩ = some (.int .i64 y) := by
              rw [World.cell?_setCell_other _ _ _ _ (by intro e; injection e with e1 e2; omega)]; exact cy2
            have fy3 : (wr.drew.setCell ⟨g, p + 1, none⟩ (.int .i64 y)).frozen? ⟨g, p, none⟩ = false := by rw [World.frozen?_setCell]; exact fy
            go_wp2
            refine wp_region_held_drew (S := (fun w' => w'.cell? ⟨g, p + 1, none⟩ = some (.int .i64 x) ∧ w'.cell? ⟨g, p, none⟩ = some (.int .i64 y))) (by kernel_rfl) (by (try dsimp only); exact ⟨cx, cy⟩) (fun hHeld => ?_)
            refine wpAnyH_take (i := 0) (v := ?_) rfl (by kernel_rfl) (by kernel_rfl) (by kernel_rfl) (fun _ _ _ h => h) (Or.inl ⟨by rfl, ?_⟩) (by assumption) ?_
            rotate_left
            · intro w hSw; (try dsimp only at hSw); go_simp <;> with_reducible rfl
            try simp only [Act.put, List.getElem_toArray, List.getElem_cons_zero, List.setIfInBounds_toArray, List.set_cons_zero, List.set_cons_succ]
            refine wpAnyH_take (i := 1) (v := ?_) rfl (by kernel_rfl) (by kernel_rfl) (by kernel_rfl) (fun _ _ _ h => h) (Or.inl ⟨by rfl, ?_⟩) (by assumption) ?_
            rotate_left
            · intro w hSw; (try dsimp only at hSw); go_simp <;> with_reducible rfl
            try simp only [Act.put, List.getElem_toArray, List.getElem_cons_succ, List.getElem_cons_zero, List.setIfInBounds_toArray, List.set_cons_zero, List.set_cons_succ]
            refine wpAnyH_take (i := 2) (v := ?_) rfl (by kernel_rfl) (by kernel_rfl) (by kernel_rfl) (fun _ _ _ h => h) (Or.inl ⟨by rfl, ?_⟩) (by assumption) ?_
            rotate_left
            · intro w hSw; (try dsimp only at hSw); go_simp <;> with_reducible rfl
            try simp only [Act.put, List.getElem_toArray, List.getElem_cons_succ, List.getElem_cons_zero, List.setIfInBounds_toArray, List.set_cons_zero, List.set_cons_succ]
            refine wpAnyH_take (i := 3) (v := ?_) rfl (by kernel_rfl) (by kernel_rfl) (by kernel_rfl) (fun _ _ _ h => h) (Or.inl ⟨by rfl, ?_⟩) (by assumption) ?_
            rotate_left
            · intro w hSw; (try dsimp only at hSw); go_simp <;> with_reducible rfl
            try simp only [Act.put, List.getElem_toArray, List.getElem_cons_succ, List.getElem_cons_zero, List.setIfInBounds_toArray, List.set_cons_zero, List.set_cons_succ]
            refine wpAnyH_take (i := 4) (v := ?_) rfl (by kernel_rfl) (by kernel_rfl) (by kernel_rfl) (fun _ _ _ h => h) (Or.inl ⟨by rfl, ?_⟩) (by assumption) ?_
            rotate_left
            · intro w hSw; (try dsimp only at hSw); go_simp <;> with_reducible rfl
            try simp only [Act.put, List.getElem_toArray, List.getElem_cons_succ, List.getElem_cons_zero, List.setIfInBounds_toArray, List.set_cons_zero, List.set_cons_succ]
            refine wpAnyH_take (i := 5) (v := ?_) rfl (by kernel_rfl) (by kernel_rfl) (by kernel_rfl) (fun _ _ _ h => h) (Or.inl ⟨by rfl, ?_⟩) (by assumption) ?_
            rotate_left
            · intro w hSw; (try dsimp only at hSw); go_simp <;> with_reducible rfl
            try simp only [Act.put, List.getElem_toArray, List.getElem_cons_succ, List.getElem_cons_zero, List.setIfInBounds_toArray, List.set_cons_zero, List.set_cons_succ]
            refine wpAnyH_take (i := 6) (v := ?_) rfl (by kernel_rfl) (by kernel_rfl) (by kernel_rfl) (fun _ _ _ h => h) (Or.inl ⟨by rfl, ?_⟩) (by assumption) ?_
            rotate_left
            · intro w hSw; (try dsimp only at hSw); go_simp <;> with_reducible rfl
            try simp only [Act.put, List.getElem_toArray, List.getElem_cons_succ, List.getElem_cons_zero, List.setIfInBounds_toArray, List.set_cons_zero, List.set_cons_succ]
            refine wpAnyH_take (i := 7) (v := ?_) rfl (by kernel_rfl) (by kernel_rfl) (by kernel_rfl) (fun _ _ _ h => h) (Or.inl ⟨by rfl, ?_⟩) (by assumption) ?_
            rotate_left
            · intro w hSw; (try dsimp only at hSw); go_simp <;> with_reducible rfl
            try simp only [Act.put, List.getElem_toArray, List.getElem_cons_succ, List.getElem_cons_zero, List.setIfInBounds_toArray, List.set_cons_zero, List.set_cons_succ]
            refine wpAnyH_take (i := 8) (v := ?_) rfl (by kernel_rfl) (by kernel_rfl) (by kernel_rfl) (fun _ _ _ h => h) (Or.inl ⟨by rfl, ?_⟩) (by assumption) ?_
            rotate_left
            · intro w hSw; (try dsimp only at hSw); go_simp <;> with_reducible rfl
            try simp only [Act.put, List.getElem_toArray, List.getElem_cons_succ, List.getElem_cons_zero, List.setIfInBounds_toArray, List.set_cons_zero, List.set_cons_succ]
            refine wpAnyH_take (i := 9) (v := ?_) rfl (by kernel_rfl) (by kernel_rfl) (by kernel_rfl) (fun _ _ _ h => h) (Or.inl ⟨by rfl, ?_⟩) (by assumption) ?_
            rotate_left
            · intro w hSw; (try dsimp only at hSw); go_simp <;> with_reducible rfl
            try simp only [Act.put, List.getElem_toArray, List.getElem_cons_succ, List.getElem_cons_zero, List.setIfInBounds_toArray, List.set_cons_zero, List.set_cons_succ]
            refine wpAnyH_take (i := 10) (v := ?_) rfl (by kernel_rfl) (by kernel_rfl) (by kernel_rfl) (fun _ _ _ h => h) (Or.inl ⟨by rfl, ?_⟩) (by assumption) ?_
            rotate_left
            · intro w hSw; (try dsimp only at hSw); go_simp <;> with_reducible rfl
            try simp only [Act.put, List.getElem_toArray, List.getElem_cons_succ, List.getElem_cons_zero, List.setIfInBounds_toArray, List.set_cons_zero, List.set_cons_succ]
            refine wpAnyH_take (i := 11) (v := ?_) rfl (by kernel_rfl) (by kernel_rfl) (by kernel_rfl) (fun _ _ _ h => h) (Or.inl ⟨by rfl, ?_⟩) (by assumption) ?_
            rotate_left
            · intro w hSw; (try dsimp only at hSw); go_simp <;> with_reducible rfl
            try simp only [Act.put, List.getElem_toArray, List.getElem_cons_succ, List.getElem_cons_zero, List.setIfInBounds_toArray, List.set_cons_zero, List.set_cons_succ]
            refine wpAnyH_take (i := 12) (v := ?_) rfl (by kernel_rfl) (by kernel_rfl) (by kernel_rfl) (fun _ _ _ h => h) (Or.inl ⟨by rfl, ?_⟩) (by assumption) ?_
            rotate_left
            · intro w hSw; (try dsimp only at hSw); go_simp <;> with_reducible rfl
            try simp only [Act.put, List.getElem_toArray, List.getElem_cons_succ, List.getElem_cons_zero, List.setIfInBounds_toArray, List.set_cons_zero, List.set_cons_succ]
            refine wpAnyH_take (i := 13) (v := ?_) rfl (by kernel_rfl) (by kernel_rfl) (by kernel_rfl) (fun _ _ _ h => h) (Or.inl ⟨by rfl, ?_⟩) (by assumption) ?_
            rotate_left
            · intro w hSw; (try dsimp only at hSw); go_simp <;> with_reducible rfl
            try simp only [Act.put, List.getElem_toArray, List.getElem_cons_succ, List.getElem_cons_zero, List.setIfInBounds_toArray, List.set_cons_zero, List.set_cons_succ]
            refine wpAnyH_done (by kernel_rfl) ?_ _
            go_wp2
            go_roundw
            case rel => exact ⟨p, _, by omega, by go_num, HN2, HR2⟩
            case measure => simp [intOf]
          · have q1 : decide (x < y) = false := by simpa using hxy
            have HD := Lib.hid (HN.out.done (.inr ⟨y, x, by rw [Nat.add_sub_cancel]; exact Y1.out, X1.out, by omega⟩))
            have HRd := Lib.hid HR.out.drew
            go_wp2
            refine wp_region_held_drew (S := (fun w' => w'.cell? ⟨g, p + 1, none⟩ = some (.int .i64 x) ∧ w'.cell? ⟨g, p, none⟩ = some (.int .i64 y))) (by kernel_rfl) (by (try dsimp only); exact ⟨cx, cy⟩) (fun hHeld => ?_)
            refine wpAnyH_take (i := 0) (v := ?_) rfl (by kernel_rfl) (by kernel_rfl) (by kernel_rfl) (fun _ _ _ h => h) (Or.inl ⟨by rfl, ?_⟩) (by assumption) ?_
            rotate_left
            · intro w hSw; (try dsimp only at hSw); go_simp <;> with_reducible rfl
            try simp only [Act.put, List.getElem_toArray, List.getElem_cons_zero, List.setIfInBounds_toArray, List.set_cons_zero, List.set_cons_succ]
            refine wpAnyH_take (i := 1) (v := ?_) rfl (by kernel_rfl) (by kernel_rfl) (by kernel_rfl) (fun _ _ _ h => h) (Or.inl ⟨by rfl, ?_⟩) (by assumption) ?_
            rotate_left
            · intro w hSw; (try dsimp only at hSw); go_simp <;> with_reducible rfl
            try simp only [Act.put, List.getElem_toArray, List.getElem_cons_succ, List.getElem_cons_zero, List.setIfInBounds_toArray, List.set_cons_zero, List.set_cons_succ]
            refine wpAnyH_take (i := 2) (v := ?_) rfl (by kernel_rfl) (by kernel_rfl) (by kernel_rfl) (fun _ _ _ h => h) (Or.inl ⟨by rfl, ?_⟩) (by assumption) ?_
            rotate_left
            · intro w hSw; (try dsimp only at hSw); go_simp <;> with_reducible rfl
            try simp only [Act.put, List.getElem_toArray, List.getElem_cons_succ, List.getElem_cons_zero, List.setIfInBounds_toArray, List.set_cons_zero, List.set_cons_succ]
            refine wpAnyH_take (i := 3) (v := ?_) rfl (by kernel_rfl) (by kernel_rfl) (by kernel_rfl) (fun _ _ _ h => h) (Or.inl ⟨by rfl, ?_⟩) (by assumption) ?_
            rotate_left
            · intro w hSw; (try dsimp only at hSw); go_simp <;> with_reducible rfl
            try simp only [Act.put, List.getElem_toArray, List.getElem_cons_succ, List.getElem_cons_zero, List.setIfInBounds_toArray, List.set_cons_zero, List.set_cons_succ]
            refine wpAnyH_take (i := 4) (v := ?_) rfl (by kernel_rfl) (by kernel_rfl) (by kernel_rfl) (fun _ _ _ h => h) (Or.inl ⟨by rfl, ?_⟩) (by assumption) ?_
            rotate_left
            · intro w hSw; (try dsimp only at hSw); go_simp <;> with_reducible rfl
            try simp only [Act.put, List.getElem_toArray, List.getElem_cons_succ, List.getElem_cons_zero, List.setIfInBounds_toArray, List.set_cons_zero, List.set_cons_succ]
            refine wpAnyH_take (i := 5) (v := ?_) rfl (by kernel_rfl) (by kernel_rfl) (by kernel_rfl) (fun _ _ _ h => h) (Or.inl ⟨by rfl, ?_⟩) (by assumption) ?_
            rotate_left
            · intro w hSw; (try dsimp only at hSw); go_simp <;> with_reducible rfl
            try simp only [Act.put, List.getElem_toArray, List.getElem_cons_succ, List.getElem_cons_zero, List.setIfInBounds_toArray, List.set_cons_zero, List.set_cons_succ]
            refine wpAnyH_take (i := 6) (v := ?_) rfl (by kernel_rfl) (by kernel_rfl) (by kernel_rfl) (fun _ _ _ h => h) (Or.inl ⟨by rfl, ?_⟩) (by assumption) ?_
            rotate_left
            · intro w hSw; (try dsimp only at hSw); go_simp <;> with_reducible rfl
            try simp only [Act.put, List.getElem_toArray, List.getElem_cons_succ, List.getElem_cons_zero, List.setIfInBounds_toArray, List.set_cons_zero, List.set_cons_succ]
            refine wpAnyH_take (i := 7) (v := ?_) rfl (by kernel_rfl) (by kernel_rfl) (by kernel_rfl) (fun _ _ _ h => h) (Or.inl ⟨by rfl, ?_⟩) (by assumption) ?_
            rotate_left
            · intro w hSw; (try dsimp only at hSw); go_simp <;> with_reducible rfl
            try simp only [Act.put, List.getElem_toArray, List.getElem_cons_succ, List.getElem_cons_zero, List.setIfInBounds_toArray, List.set_cons_zero, List.set_cons_succ]
            refine wpAnyH_take (i := 8) (v := ?_) rfl (by kernel_rfl) (by kernel_rfl) (by kernel_rfl) (fun _ _ _ h => h) (Or.inl ⟨by rfl, ?_⟩) (by assumption) ?_
            rotate_left
            · intro w hSw; (try dsimp only at hSw); go_simp <;> with_reducible rfl
            try simp only [Act.put, List.getElem_toArray, List.getElem_cons_succ, List.getElem_cons_zero, List.setIfInBounds_toArray, List.set_cons_zero, List.set_cons_succ]
            refine wpAnyH_take (i := 9) (v := ?_) rfl (by kernel_rfl) (by kernel_rfl) (by kernel_rfl) (fun _ _ _ h => h) (Or.inl ⟨by rfl, ?_⟩) (by assumption) ?_
            rotate_left
            · intro w hSw; (try dsimp only at hSw); go_simp <;> with_reducible rfl
            try simp only [Act.put, List.getElem_toArray, List.getElem_cons_succ, List.getElem_cons_zero, List.setIfInBounds_toArray, List.set_cons_zero, List.set_cons_succ]
            refine wpAnyH_take (i := 10) (v := ?_) rfl (by kernel_rfl) (by kernel_rfl) (by kernel_rfl) (fun _ _ _ h => h) (Or.inl ⟨by rfl, ?_⟩) (by assumption) ?_
            rotate_left
            · intro w hSw; (try dsimp only at hSw); go_simp <;> with_reducible rfl
            try simp only [Act.put, List.getElem_toArray, List.getElem_cons_succ, List.getElem_cons_zero, List.setIfInBounds_toArray, List.set_cons_zero, List.set_cons_succ]
            refine wpAnyH_take (i := 11) (v := ?_) rfl (by kernel_rfl) (by kernel_rfl) (by kernel_rfl) (fun _ _ _ h => h) (Or.inl ⟨by rfl, ?_⟩) (by assumption) ?_
            rotate_left
            · intro w hSw; (try dsimp only at hSw); go_simp <;> with_reducible rfl
            try simp only [Act.put, List.getElem_toArray, List.getElem_cons_succ, List.getElem_cons_zero, List.setIfInBounds_toArray, List.set_cons_zero, List.set_cons_succ]
            refine wpAnyH_take (i := 12) (v := ?_) rfl (by kernel_rfl) (by kernel_rfl) (by kernel_rfl) (fun _ _ _ h => h) (Or.inl ⟨by rfl, ?_⟩) (by assumption) ?_
            rotate_left
            · intro w hSw; (try dsimp only at hSw); go_simp <;> with_reducible rfl
            try simp only [Act.put, List.getElem_toArray, List.getElem_cons_succ, List.getElem_cons_zero, List.setIfInBounds_toArray, List.set_cons_zero, List.set_cons_succ]
            refine wpAnyH_take (i := 13) (v := ?_) rfl (by kernel_rfl) (by kernel_rfl) (by kernel_rfl) (fun _ _ _ h => h) (Or.inl ⟨by rfl, ?_⟩) (by assumption) ?_
            rotate_left
            · intro w hSw; (try dsimp only at hSw); go_simp <;> with_reducible rfl
            try simp only [Act.put, List.getElem_toArray, List.getElem_cons_succ, List.getElem_cons_zero, List.setIfInBounds_toArray, List.set_cons_zero, List.set_cons_succ]
            refine wpAnyH_done (by kernel_rfl) ?_ _
            go_wp2
            go_roundw
            case rel => exact ⟨j + 1, ys, by omega, by go_num, HD, HRd⟩
            case measure => simp [intOf]; omega
    · obtain rfl : j = m := by omega
      go_wp2
      go_ret
      have h := HR.out.own1 (List.mem_singleton.2 rfl)
      have e : ys = sortL L := by have h := HS.out; rw [HM.out] at h; exact h.full
      rw [e] at h
      exact ⟨_, rfl, h, HR.out.bel⟩
end Go.Proofs.Ytgbmacppgaopfaa
namespace Go.Proofs.Ytgbmacppgaopfaa
set_option maxRecDepth 20000
open Go.RowKit

theorem atL_len (L labels : List Int) : (atL L labels).length = labels.length := by simp [atL]
theorem dimsVia_len (L D labels : List Int) : (dimsVia L D labels).length = labels.length := by simp [dimsVia]
theorem atL_at {L labels : List Int} {j : Nat} {n : Int} (h : labels[j]? = some n) : (atL L labels)[j]? = some (findI L n) := by unfold atL; rw [List.getElem?_map, h]; rfl
theorem dimsVia_at {L D labels : List Int} {j : Nat} {n : Int} (h : labels[j]? = some n) : (dimsVia L D labels)[j]? = some (D.getD (L.idxOf n) 0) := by unfold dimsVia; rw [List.getElem?_map, h]; rfl
theorem take_snoc {xs : List Int} {j : Nat} {x : Int} (h : xs[j]? = some x) : xs.take j ++ [x] = xs.take (j + 1) := by rw [List.take_add_one, h]; rfl
theorem ints_snoc (xs : List Int) (x : Int) : ints xs ++ [.int .i64 x] = ints (xs ++ [x]) := by simp [ints]
/-- What the law of append gives, for the head row. -/
theorem Rs.app1 {w0 wr w' : World} {bs : List BxE} {rows : List RowE} {v : Value} {xs : List Int} {x : Int} {g n cap : Nat} (h : Rs w0 wr bs ((v, xs) :: rows)) (hn : xs.length = n) (ho : w'.ownsRow w0.heap.size 3 1 (.slice (some ⟨g, 0, none⟩) (n + 1) cap) (n + 1) (ints xs ++ [.int .i64 x])) (hg : wr.grownBy w' v.ownBlock) (hl : v.ownBlock = some g ∨ g = wr.heap.size) :
    Rs w0 w' bs ((.slice (some ⟨g, 0, none⟩) (n + 1) cap, xs ++ [x]) :: rows) := by
  rw [ints_snoc] at ho
  exact h.app ho (by simp [hn]) hg hl
/-- A label's place under way in the index. -/
def IxTo (L labels ix row : List Int) (j : Nat) : Prop := ∀ i n, i < j → labels[i]? = some n → row.getD (L.idxOf n) 0 = ix.getD i 0
theorem IxTo.step {L labels ix row : List Int} {j : Nat} {n x : Int} (hn : L.Nodup) (hp : labels.Perm L) (h : IxTo L labels ix row j) (hj : labels[j]? = some n) (hx : ix[j]? = some x) (hr : row.length = L.length) : IxTo L labels ix (row.set (L.idxOf n) x) (j + 1) := fun i k hi hk => by
  have hmem : ∀ z ∈ labels, L.idxOf z < row.length := fun z hz => by rw [hr]; exact List.idxOf_lt_length_iff.2 (hp.subset hz)
  have hnm := hmem n (List.mem_of_getElem? hj)
  by_cases e : i = j
  · subst e
    rw [hj] at hk
    injection hk with hk
    subst hk
    rw [getD_at (List.getElem?_set_self hnm), getD_at hx]
  · have hne : L.idxOf n ≠ L.idxOf k := fun e2 => by
      have hk2 : k = n := by
        have h1 := at_idxOf (hp.subset (List.mem_of_getElem? hk))
        have h2 := at_idxOf (hp.subset (List.mem_of_getElem? hj))
        rw [← e2] at h1
        rw [h1] at h2
        injection h2
      subst hk2
      have hnl : labels.Nodup := hp.nodup_iff.2 hn
      exact e ((List.getElem?_inj (List.getElem?_eq_some_iff.1 hk).1 hnl).1 (hk.trans hj.symm))
    rw [List.getD_eq_getElem?_getD, List.getElem?_set_ne hne, ← List.getD_eq_getElem?_getD]
    exact h i k (by omega) hk

/-- What is known of a tensor that is valid, and of its labels in some order. -/
structure PF (k p q : Int) (L D X labels : List Int) (m wd N : Nat) : Prop where
  lL : L.length = m
  lD : D.length = m
  lG : labels.length = m
  m12 : m ≤ 12
  nd : L.Nodup
  pm : labels.Perm L
  dD : ∀ d ∈ D, 1 ≤ d ∧ d ≤ 8
  pD : prodL D = (N : Int)
  n1 : 1 ≤ N ∧ N ≤ 4096
  hw : widthI k q = (wd : Int)
  w6 : 1 ≤ wd ∧ wd ≤ 6
  lX : X.length = N * wd
  rg : ringB k p q = true
theorem PF.of {k p q : Int} {L D X labels : List Int} (ht : tensorB k p q L D X = true) (hs : SetV L labels) : PF k p q L D X labels L.length (widthI k q).toNat (prodL D).toNat := by
  obtain ⟨hrb, hs0, hxl, -⟩ := tensorB_inv ht
  have hwd := ring_width hrb
  rcases sizeI_cases L D with ⟨h, -⟩ | ⟨h1, h2, h3, h4⟩
  · omega
  · obtain ⟨a1, a2, a3, a4, a5⟩ := h2
    refine ⟨rfl, a2.symm, hs.2.symm, a1, a5, hs.perm, a4, by omega, by omega, by omega, by omega, ?_, hrb⟩
    have e1 : (((prodL D).toNat * (widthI k q).toNat : Nat) : Int) = prodL D * widthI k q := by
      rw [Int.natCast_mul, Int.toNat_of_nonneg (by omega), Int.toNat_of_nonneg (by omega)]
    rw [h1, ← e1] at hxl
    exact_mod_cast hxl
theorem PF.dims {k p q : Int} {L D X labels : List Int} {m wd N : Nat} (h : PF k p q L D X labels m wd N) : (∀ d ∈ dimsVia L D labels, 1 ≤ d ∧ d ≤ 8) ∧ prodL (dimsVia L D labels) = (N : Int) ∧ capI (dimsVia L D labels) = (N : Int) := by
  have hp := dims_perm (D := D) h.nd (by rw [h.lL, h.lD]) h.pm
  have h1 : ∀ d ∈ dimsVia L D labels, 1 ≤ d ∧ d ≤ 8 := fun d hd => h.dD d (hp.subset hd)
  have h2 : prodL (dimsVia L D labels) = (N : Int) := by rw [prodL_perm hp, h.pD]
  refine ⟨h1, h2, ?_⟩
  have h3 := (capI_is (fun d hd => (h1 d hd).1)).1
  have := h.n1
  rw [h3, h2]; omega
theorem PF.at {k p q : Int} {L D X labels : List Int} {m wd N : Nat} (h : PF k p q L D X labels m wd N) {j : Nat} {n : Int} (hj : labels[j]? = some n) : ∃ (z : Nat) (d : Int), L.idxOf n = z ∧ z < m ∧ findI L n = (z : Int) ∧ D[z]? = some d ∧ (dimsVia L D labels)[j]? = some d := by
  have hm : n ∈ L := h.pm.subset (List.mem_of_getElem? hj)
  have hlt := List.idxOf_lt_length_iff.2 hm
  refine ⟨_, D[L.idxOf n]'(by rw [h.lD, ← h.lL]; exact hlt), rfl, by rw [← h.lL]; exact hlt, by unfold findI; rw [if_pos hm], List.getElem?_eq_getElem _, ?_⟩
  rw [dimsVia_at hj, getD_at (List.getElem?_eq_getElem _)]
/-- The offset of an index in another order. -/
theorem PF.off {k p q : Int} {L D X labels : List Int} {m wd N : Nat} (h : PF k p q L D X labels m wd N) (c : Nat) : ∃ o : Nat, offI D (viaL L labels (idxL (dimsVia L D labels) (c : Int))) = (o : Int) ∧ o < N ∧ o * wd + wd ≤ X.length ∧ InIx D (viaL L labels (idxL (dimsVia L D labels) (c : Int))) := by
  have hi := via_in h.nd (by rw [h.lL, h.lD]) h.pm (idxL_in (fun d hd => (h.dims.1 d hd).1) (c : Int))
  have hr := offP_range (fun d hd => (h.dD d hd).1) hi D.length (Nat.le_refl _)
  rw [← offI_is, List.take_of_length_le (Nat.le_refl _), h.pD] at hr
  refine ⟨(offI D (viaL L labels (idxL (dimsVia L D labels) (c : Int)))).toNat, by omega, by omega, ?_, hi⟩
  rw [h.lX]
  have h2 : (offI D (viaL L labels (idxL (dimsVia L D labels) (c : Int)))).toNat + 1 ≤ N := by omega
  have h3 := Nat.mul_le_mul_right wd h2
  rw [Nat.add_mul, Nat.one_mul] at h3
  exact h3
theorem PF.len {k p q : Int} {L D X labels : List Int} {m wd N : Nat} (h : PF k p q L D X labels m wd N) (c : Nat) : (permX wd L D X labels c).length = c * wd :=
  permX_len h.nd (by rw [h.lL, h.lD]) h.pm (fun d hd => (h.dD d hd).1) (fun o ho => by
    rw [h.pD] at ho
    rw [h.lX]
    have h3 := Nat.mul_le_mul_right wd (show o + 1 ≤ N by omega)
    rw [Nat.add_mul, Nat.one_mul] at h3
    exact h3) c

set_option maxHeartbeats 6400000 in
theorem permute_full {B : Nat} {k p q : Int} {L D X labels : List Int} {m mx wd N cl cd cx cg : Nat} {al ad ax ag : Option Addr} {w : World} (hp : PF k p q L D X labels m wd N) (hmx : mx = X.length) (h : RdT B w (.slice al m cl) (.slice ad m cd) (.slice ax mx cx) L D X) (hg : Rd B w (.slice ag m cg) (ints labels)) (hB : B ≤ w.heap.size) :
    Calls Try.prog 98 #[ringV k p q, tenV (.slice al m cl) (.slice ad m cd) (.slice ax mx cx), .slice ag m cg] w (NewTen w labels (dimsVia L D labels) (permX wd L D X labels N)) := by
  have P := Lib.hid hp
  have HT := Lib.hid h
  have HG := Lib.hid hg
  have HB := Lib.hid hB
  have HMX := Lib.hid hmx
  have h12 := hp.m12
  obtain ⟨i0, hi, hz0, hz1, hz2⟩ := info_parts infoInt
  have J0 := Lib.hid hi
  have J1 := Lib.hid hz0
  have J2 := Lib.hid hz1
  have J3 := Lib.hid hz2
  have S0 : Hid (Rs w (((w.alloc (.cells #[.int .i64 k, .int .i64 p, .int .i64 q] 30)).alloc (.cells #[.slice al m cl, .slice ad m cd, .slice ax mx cx] 49)).alloc (.cells #[nilV, nilV, nilV] 49)) [(w.heap.size + 1 + 1, nilV, nilV, nilV), (w.heap.size + 1, .slice al m cl, .slice ad m cd, .slice ax mx cx), (w.heap.size, .int .i64 k, .int .i64 p, .int .i64 q)] []) := by
    have h := (((Rs.start w).box (.int .i64 k) (.int .i64 p) (.int .i64 q) 30).box (.slice al m cl) (.slice ad m cd) (.slice ax mx cx) 49).box nilV nilV nilV 49
    simp only [World.size_alloc] at h
    exact h
  have S1 := S0.out.lit.lit
  simp only [World.size_alloc] at S1
  have S2 := Lib.hid S1
  clear hp h hg hB hmx hi hz0 hz1 hz2 S1
  go_enter Try.func98, Try.ntmps98
  go_wp2
  generalize hbs : [(w.heap.size + 1 + 1, nilV, nilV, nilV), (w.heap.size + 1, Value.slice al m cl, Value.slice ad m cd, Value.slice ax mx cx), (w.heap.size, Value.int .i64 k, Value.int .i64 p, Value.int .i64 q)] = bs at S0 S2
  have HBS := Lib.hid hbs
  clear hbs
  go_loopw [7, 8, 21] (fun u v i wr => ∃ (j ca cb : Nat) (ga gb : Option Addr), j ≤ m ∧ i = .int .i64 j ∧ u = .slice gb j cb ∧ v = .slice ga j ca ∧ Hid (Rs w wr bs [(.slice ga j ca, (atL L labels).take j), (.slice gb j cb, (dimsVia L D labels).take j)])) (fun _ _ i _ => m - (intOf i).toNat)
  case atStart => exact ⟨0, 0, 0, _, _, by omega, rfl, rfl, rfl, by rw [List.take_zero, List.take_zero]; exact S2⟩
  case round =>
    clear S0 S2
    obtain ⟨j, ca, cb, ga, gb, hj, rfl, rfl, rfl, HR⟩ := hrel
    by_cases hlt : j < m
    · obtain ⟨n, X1⟩ : ∃ n, Hid (labels[j]? = some n) := ⟨_, List.getElem?_eq_getElem (by rw [P.out.lG]; exact hlt)⟩
      obtain ⟨b, off, rfl, -, e1⟩ := (HG.out.below HR.out.bel HB.out).cellAt X1.out
      obtain ⟨z, d, hz, hzm, hfz, hd, hdd⟩ := P.out.at X1.out
      have D1 := Lib.hid hd
      have Z1 := Lib.hid (And.intro hz (And.intro hfz hdd))
      have HF := Lib.hid (find_spec n (HT.out.l.below HR.out.bel HB.out) (by rw [P.out.lL]; omega))
      rw [hfz] at HF
      clear hz hfz hd hdd
      obtain ⟨⟨t0, t1, -⟩, -⟩ := HR.out.at (r := w.heap.size + 1) (a := .slice al m cl) (b := .slice ad m cd) (c := .slice ax mx cx) (by rw [← HBS.out]; simp)
      have A1 := Lib.hid (HR.out.alloc (.cells #[.int .i64 (z : Int)] 3))
      have O1 := Lib.hid (A1.out.row (List.mem_cons_self) (by rw [List.length_take, atL_len, P.out.lG]; omega) : World.ownsRow _ w.heap.size 3 1 (.slice ga j ca) j (ints ((atL L labels).take j)))
      go_wp2_with fail
      refine HF.out.mono ?_
      rintro e w1 ⟨rfl, rfl⟩
      go_wp2_with (at_builtin; go_must (refine wpList_append_lies _ rfl _ _ 25 rfl w.heap.size 3 i0 (.int .i64 0) 1 8 Try.underlying25 J0.out J1.out J2.out J3.out rfl (by decide) _ j (ints ((atL L labels).take j)) rfl O1.out ⟨wr.heap.size, 0, none⟩ 1 1 [.int .i64 (z : Int)] rfl rfl (cell_one_new _ _ _) ?c2 (by decide) ?c3 ?c4 ?c5 _ rfl ?_))
      case c2 => first | rfl | (intro u hu; simp at hu; subst hu; rfl)
      case c3 => unfold maxLen; omega
      case c4 => omega
      case c5 => exact A1.out.bel.size
      intro g1 cap1 w2 hown hgrow hl1 _
      have R2 := Lib.hid (A1.out.app1 (by rw [List.length_take, atL_len, P.out.lG]; omega) hown hgrow (by rw [World.size_alloc]; exact hl1))
      rw [take_snoc (by rw [atL_at X1.out, Z1.out.2.1])] at R2
      clear hown hgrow hl1 O1 A1 t0 t1
      obtain ⟨⟨-, t1, -⟩, -⟩ := R2.out.at (r := w.heap.size + 1) (a := .slice al m cl) (b := .slice ad m cd) (c := .slice ax mx cx) (by rw [← HBS.out]; simp)
      obtain ⟨bd, offd, rfl, -, e2⟩ := (HT.out.d.below R2.out.bel HB.out).cellAt D1.out
      have A2 := Lib.hid (R2.out.swap.alloc (.cells #[.int .i64 d] 3))
      have O2 := Lib.hid (A2.out.row (List.mem_cons_self) (by rw [List.length_take, dimsVia_len, P.out.lG]; omega) : World.ownsRow _ w.heap.size 3 1 (.slice gb j cb) j (ints ((dimsVia L D labels).take j)))
      go_wp2_with (at_builtin; go_must (refine wpList_append_lies _ rfl _ _ 25 rfl w.heap.size 3 i0 (.int .i64 0) 1 8 Try.underlying25 J0.out J1.out J2.out J3.out rfl (by decide) _ j (ints ((dimsVia L D labels).take j)) rfl O2.out ⟨w2.heap.size, 0, none⟩ 1 1 [.int .i64 d] rfl rfl (cell_one_new _ _ _) ?c2 (by decide) ?c3 ?c4 ?c5 _ rfl ?_))
      case c2 => first | rfl | (intro u hu; simp at hu; subst hu; rfl)
      case c3 => unfold maxLen; omega
      case c4 => omega
      case c5 => exact A2.out.bel.size
      intro g2 cap2 w3 hown hgrow hl2 _
      have R3 := Lib.hid (A2.out.app1 (by rw [List.length_take, dimsVia_len, P.out.lG]; omega) hown hgrow (by rw [World.size_alloc]; exact hl2)).swap
      rw [take_snoc Z1.out.2.2] at R3
      clear hown hgrow hl2 O2 A2 t1
      go_wp2
      go_roundw
      case rel => exact ⟨j + 1, cap1, cap2, _, _, by omega, by go_num, rfl, rfl, R3⟩
      case measure => simp [intOf]; omega
    · obtain rfl : j = m := by omega
      rw [List.take_of_length_le (by rw [atL_len, P.out.lG]; exact Nat.le_refl _), List.take_of_length_le (by rw [dimsVia_len, P.out.lG]; exact Nat.le_refl _)] at HR
      have HI := Lib.hid (ints_new (HG.out.below HR.out.bel HB.out) (Nat.le_trans HB.out HR.out.bel.size) (by rw [P.out.lG]; omega))
      go_wp2_with fail
      refine HI.out.mono ?_
      rintro e w4 ⟨v, rfl, ho, hb⟩
      have R4 := Lib.hid (HR.out.new hb ho)
      obtain ⟨aG, cG, rfl, -⟩ := ints_form ho.rd
      rw [P.out.lG] at R4 ⊢
      have R5 := Lib.hid (R4.out.box (.slice aG j cG) (.slice gb j cb) nilV 49)
      clear ho hb HI HR
      go_wp2_with (at_make; go_must (refine wpList_make_full _ rfl _ _ 25 rfl (w4.heap.size + 1) 3 i0 (.int .i64 0) 1 Try.underlying25 J0.out J1.out J2.out .i64 .i64 _ _ j rfl rfl rfl rfl (by rw [J3.out]; omega) (by unfold maxLen; omega) (by simp) ?_))
      intro w5 hown hgrow
      have hmade := R5.out.made (n := j) (w' := w5) (by simp only [World.size_alloc, Value.cells, Nat.mul_one] at hown ⊢; exact hown) hgrow
      simp only [World.size_alloc] at hmade
      have R6 := Lib.hid hmade.nil.swap
      clear hown hgrow hmade R4 R5
      go_wp2
      go_loopw [14] (fun s wr => ∃ (c nn cX : Nat) (aX : Option Addr) (ixr : List Int), c ≤ N ∧ s = .int .i64 c ∧ nn ≤ 24576 ∧ Hid (nn = c * wd) ∧ Hid (ixr.length = j) ∧ Hid (Rs w wr ((w4.heap.size, .slice aG j cG, .slice gb j cb, .slice aX nn cX) :: bs) [(.slice (some ⟨w4.heap.size + 1, 0, none⟩) j j, ixr), (.slice aX nn cX, permX wd L D X labels c), (.slice aG j cG, labels), (.slice ga j ca, atL L labels), (.slice gb j cb, dimsVia L D labels)])) (fun s _ => N - (intOf s).toNat)
      case atStart => exact ⟨0, 0, 0, none, List.replicate j 0, by omega, rfl, by omega, by show 0 = 0 * wd; simp, Lib.hid (by simp), R6⟩
      case round =>
        clear R6
        obtain ⟨c, nn, cX, aX, ixr, hc, rfl, hnn, HNN, HIL, HR⟩ := hrel
        have hn4 := P.out.n1.2
        have hDr := HR.out.rd (v := .slice gb j cb) (xs := dimsVia L D labels) (by simp)
        have HPR := Lib.hid (product_spec hDr (by rw [dimsVia_len, P.out.lG]; omega) P.out.dims.1)
        rw [P.out.dims.2.2] at HPR
        by_cases hlt : c < N
        · have HIX := Lib.hid (index_spec (c : Int) hDr (Nat.le_refl _) (by rw [dimsVia_len, P.out.lG]; omega) P.out.dims.1 (by omega) (by omega))
          clear hDr
          go_wp2_with fail
          refine HPR.out.mono ?_
          rintro e w6 ⟨rfl, rfl⟩
          go_wp2_with fail
          refine HIX.out.mono ?_
          rintro e w6 ⟨v, rfl, ho, hb⟩
          have R8 := Lib.hid (HR.out.new hb ho).swap
          obtain ⟨a6, c6, rfl, -⟩ := ints_form ho.rd
          rw [idxL_len, dimsVia_len, P.out.lG] at R8 ⊢
          clear ho hb HIX HPR HR
          go_wp2
          go_loopw [59] (fun i ws => ∃ (y : Nat) (ixr : List Int), y ≤ j ∧ i = .int .i64 y ∧ Hid (ixr.length = j) ∧ Hid (IxTo L labels (idxL (dimsVia L D labels) (c : Int)) ixr y) ∧ Hid (Rs w ws ((w4.heap.size, .slice aG j cG, .slice gb j cb, .slice aX nn cX) :: bs) [(.slice (some ⟨w4.heap.size + 1, 0, none⟩) j j, ixr), (.slice a6 j c6, idxL (dimsVia L D labels) (c : Int)), (.slice aX nn cX, permX wd L D X labels c), (.slice aG j cG, labels), (.slice ga j ca, atL L labels), (.slice gb j cb, dimsVia L D labels)])) (fun i _ => j - (intOf i).toNat)
          case atStart => exact ⟨0, ixr, by omega, rfl, HIL, fun i n h => by omega, R8⟩
          case round =>
            clear R8 HIL
            obtain ⟨y, ixr, hy, rfl, HIL, HTO, HR⟩ := hrel
            by_cases hlty : y < j
            · obtain ⟨n, X1⟩ : ∃ n, Hid (labels[y]? = some n) := ⟨_, List.getElem?_eq_getElem (by rw [P.out.lG]; exact hlty)⟩
              obtain ⟨z, d, hz, hzm, hfz, -, -⟩ := P.out.at X1.out
              obtain ⟨x, V1⟩ : ∃ x, Hid ((idxL (dimsVia L D labels) (c : Int))[y]? = some x) := ⟨_, List.getElem?_eq_getElem (by rw [idxL_len, dimsVia_len, P.out.lG]; exact hlty)⟩
              obtain ⟨g6, rfl, -, -, hc6, -⟩ := (HR.out.own1 (v := .slice a6 j c6) (xs := idxL (dimsVia L D labels) (c : Int)) (by simp)).slot (by rw [idxL_len, dimsVia_len, P.out.lG]) (by omega)
              have k6 := hc6 y x V1.out
              obtain ⟨g7, rfl, -, -, hc7, -⟩ := (HR.out.own1 (v := .slice ga j ca) (xs := atL L labels) (by simp)).slot (by rw [atL_len, P.out.lG]) (by omega)
              have k7 := hc7 y (z : Int) (by rw [atL_at X1.out, hfz])
              obtain ⟨g8, e8, -, -, hc8, hf8⟩ := (HR.out.own1 (v := .slice (some ⟨w4.heap.size + 1, 0, none⟩) j j) (xs := ixr) (by simp)).slot HIL.out (by omega)
              cases e8
              obtain ⟨x0, hx0⟩ : ∃ x0, ixr[z]? = some x0 := ⟨_, List.getElem?_eq_getElem (by rw [HIL.out]; exact hzm)⟩
              have k8 := hc8 z x0 hx0
              have f8 := hf8 z
              have HR2 := Lib.hid (HR.out.put HIL.out z x)
              have HTO2 := Lib.hid (HTO.out.step P.out.nd P.out.pm X1.out V1.out (by rw [HIL.out, P.out.lL]))
              rw [hz] at HTO2
              have HIL2 : Hid ((ixr.set z x).length = j) := Lib.hid (by rw [List.length_set]; exact HIL.out)
              clear hz hfz hc6 hc7 hc8 hf8 hx0 HR HTO HIL
              go_wp2
              go_roundw
              case rel => exact ⟨y + 1, ixr.set z x, by omega, by go_num, HIL2, HTO2, HR2⟩
              case measure => simp [intOf]; omega
            · obtain rfl : y = j := by omega
              have HVI : Hid (ixr = viaL L labels (idxL (dimsVia L D labels) (c : Int))) := Lib.hid (via_unique P.out.nd P.out.pm (by rw [HIL.out, P.out.lL]) (fun i n hi => HTO.out i n (by have := (List.getElem?_eq_some_iff.1 hi).1; rw [P.out.lG] at this; exact this) hi))
              have R9 := Lib.hid (HR.out.sub (rows' := [(.slice (some ⟨w4.heap.size + 1, 0, none⟩) y y, ixr), (.slice aX nn cX, permX wd L D X labels c), (.slice aG y cG, labels), (.slice ga y ca, atL L labels), (.slice gb y cb, dimsVia L D labels)]) (List.Sublist.cons_cons _ (List.Sublist.cons _ (List.Sublist.refl _)))).drew
              obtain ⟨o, ho1, ho2, ho3, ho4⟩ := P.out.off c
              rw [← HVI.out] at ho1 ho4
              have HOF := Lib.hid (offset_spec_full ad cd (some ⟨w4.heap.size + 1, 0, none⟩) y y wr.drew.heap.size D ixr wr.drew P.out.lD HIL.out (by omega) P.out.dD (by rw [P.out.pD]; omega) ho4 ((HT.out.d.below R9.out.bel HB.out).mono (Nat.le_trans HB.out R9.out.bel.size)) (R9.out.rd (v := .slice (some ⟨w4.heap.size + 1, 0, none⟩) y y) (xs := ixr) (by simp)))
              rw [ho1] at HOF
              have HGT := Lib.hid (get_spec (k := k) (p := p) (q := q) wd o (HT.out.below R9.out.bel HB.out) (Nat.le_trans HB.out R9.out.bel.size) P.out.hw P.out.w6.1 P.out.w6.2 (by omega) ho3 (by rw [P.out.lX]; have := Nat.mul_le_mul hn4 P.out.w6.2; omega))
              have HSU : Hid (permX wd L D X labels c ++ getL wd X o = permX wd L D X labels (c + 1)) := Lib.hid (by rw [permX_succ, ← HVI.out, ho1]; rfl)
              have HGL := Lib.hid (getL_len ho3)
              have NB : Hid (nn + wd = (c + 1) * wd ∧ nn + wd ≤ 24576) := Lib.hid (by
                have h : nn + wd = (c + 1) * wd := by rw [HNN.out, Nat.add_mul, Nat.one_mul]
                exact ⟨h, by rw [h]; exact Nat.le_trans (Nat.mul_le_mul (show c + 1 ≤ 4096 by omega) P.out.w6.2) (by omega)⟩)
              have HPL : Hid ((permX wd L D X labels c).length = nn) := Lib.hid (by rw [P.out.len, HNN.out])
              have W6 := Lib.hid P.out.w6
              obtain ⟨⟨-, -, b2⟩, -, -, -⟩ := R9.out.at (r := w4.heap.size) (a := .slice aG y cG) (b := .slice gb y cb) (c := .slice aX nn cX) (by simp)
              obtain ⟨⟨r0, r1, r2⟩, -⟩ := R9.out.at (r := w.heap.size) (a := .int .i64 k) (b := .int .i64 p) (c := .int .i64 q) (by rw [← HBS.out]; simp)
              obtain ⟨⟨t0, t1, t2⟩, -⟩ := R9.out.at (r := w.heap.size + 1) (a := .slice al y cl) (b := .slice ad y cd) (c := .slice ax mx cx) (by rw [← HBS.out]; simp)
              clear ho1 ho2 ho3 ho4 HR HTO
              go_wp2
              go_region_law (first
                | (refine step_append_lies _ rfl (.tmp 73) (.tmp 80) 25 rfl w.heap.size 3 i0 (.int .i64 0) 1 8 Try.underlying25 J0.out J1.out J2.out J3.out rfl Nat.one_pos (.slice aX nn cX) nn (ints (permX wd L D X labels c)) rfl O10.out ⟨gz, 0, none⟩ wd cz (ints (getL wd X o)) rfl ?_ HNW.out (one_cells _) ?_ ?_ ?_ R10.out.bel.size _ rfl ?_
                   · rw [ints_len, HGL.out, Nat.mul_one]
                   · exact W6.out.1
                   · unfold maxLen; have := NB.out.2; omega
                   · have := NB.out.2; omega
                   intro g cap w8 hown hgrow hl _
                   rw [← ints_append] at hown
                   have h11 := R10.out.third.app hown (by rw [List.length_append, HPL.out, HGL.out]) hgrow hl
                   rw [HSU.out] at h11
                   have R11 := Lib.hid h11
                   obtain ⟨⟨-, -, b2⟩, -, -, f2⟩ := R11.out.at (r := w4.heap.size) (a := .slice aG y cG) (b := .slice gb y cb) (c := .slice aX nn cX) (by simp)
                   have R12 := Lib.hid ((R11.out.last (.slice (some ⟨g, 0, none⟩) (nn + wd) cap)).sub (rows' := [(.slice (some ⟨g, 0, none⟩) (nn + wd) cap, permX wd L D X labels (c + 1)), (.slice (some ⟨w4.heap.size + 1, 0, none⟩) y y, ixr), (.slice aG y cG, labels), (.slice ga y ca, atL L labels), (.slice gb y cb, dimsVia L D labels)]) (List.Sublist.cons_cons _ (List.Sublist.cons _ (List.Sublist.refl _)))).swap
                   clear hown hgrow hl h11)
                | (go_simp
                   go_at_call 92
                   refine HGT.out.mono ?_
                   rintro e w7 ⟨zv, rfl, ho, hb⟩
                   obtain ⟨gz, cz, rfl, hnews⟩ := own_form ho HGL.out W6.out.1
                   have HNW := Lib.hid hnews
                   have R10 := Lib.hid (R9.out.new hb ho)
                   have O10 := Lib.hid (R10.out.row (v := .slice aX nn cX) (xs := permX wd L D X labels c) (by simp) HPL.out)
                   obtain ⟨⟨-, -, b27⟩, -, -, -⟩ := R10.out.at (r := w4.heap.size) (a := .slice aG y cG) (b := .slice gb y cb) (c := .slice aX nn cX) (by simp)
                   clear hnews ho hb)
                | (go_simp
                   go_at_call 93
                   refine HOF.out.mono ?_
                   rintro e w7 ⟨rfl, rfl⟩))
              all_goals
                go_wp2
                go_roundw
                case rel => exact ⟨c + 1, nn + wd, cap, some ⟨g, 0, none⟩, ixr, by omega, by go_num, NB.out.2, NB.out.1, HIL, R12⟩
                case measure => simp [intOf]; omega
        · obtain rfl : c = N := by omega
          have hnlt : ¬ (c : Int) < (c : Int) := by omega
          obtain ⟨⟨b0, b1, b2⟩, -, -, -⟩ := HR.out.at (r := w4.heap.size) (a := .slice aG j cG) (b := .slice gb j cb) (c := .slice aX nn cX) (by simp)
          obtain ⟨⟨t0, t1, t2⟩, f0, f1, f2⟩ := HR.out.at (r := w.heap.size + 1 + 1) (a := nilV) (b := nilV) (c := nilV) (by rw [← HBS.out]; simp)
          clear hDr
          go_wp2_with fail
          refine HPR.out.mono ?_
          rintro e w6 ⟨rfl, rfl⟩
          go_wp2
          refine bodyPost_ret (v := tenV (.slice aG j cG) (.slice gb j cb) (.slice aX nn cX)) (by simp [results, Try.results98, go_sem, t0, t1, t2]) rfl ?_
          have h := HR.out
          rw [← HBS.out] at h
          have h2 := (((h.swapB.set3 (.slice aG j cG) (.slice gb j cb) (.slice aX nn cX)).sub (rows' := [(.slice aX nn cX, permX wd L D X labels c), (.slice aG j cG, labels), (.slice gb j cb, dimsVia L D labels)]) (List.Sublist.cons _ (List.Sublist.cons_cons _ (List.Sublist.cons_cons _ (List.Sublist.cons _ (List.Sublist.refl _)))))).third).third
          exact ⟨_, _, _, rfl, h2.ownG, h2.bel⟩
theorem permute_spec {B : Nat} {lv dv xv gv : Value} {k p q : Int} {L D X labels : List Int} {w : World} (h : RdT B w lv dv xv L D X) (hg : Rd B w gv (ints labels)) (hB : B ≤ w.heap.size) (ht : tensorB k p q L D X = true) (hs : SetV L labels) :
    Calls Try.prog 98 #[ringV k p q, tenV lv dv xv, gv] w (NewTen w labels (dimsVia L D labels) (permX (widthI k q).toNat L D X labels (prodL D).toNat)) := by
  have hp := PF.of ht hs
  have h1 := h.l
  have h2 := h.d
  obtain ⟨al, cl, rfl, -⟩ := ints_form h.l
  obtain ⟨ad, cd, rfl, -⟩ := ints_form h.d
  obtain ⟨ax, cx, rfl, -⟩ := ints_form h.x
  obtain ⟨ag, cg, rfl, -⟩ := ints_form hg
  have e1 := hp.lD
  have e2 := hp.lG
  rw [e1] at h ⊢
  rw [e2] at hg ⊢
  exact permute_full hp rfl h hg hB
end Go.Proofs.Ytgbmacppgaopfaa
namespace Go.Proofs.Ytgbmacppgaopfaa
set_option maxRecDepth 20000
open Go.RowKit

noncomputable def permB (k p q : Int) (L D X labels : List Int) : Bool := tensorB k p q L D X && setV L labels
noncomputable def permDataL (k q : Int) (L D X labels : List Int) : List Int := permX (widthI k q).toNat L D X labels (prodL D).toNat
/-- The answer box is stored: what was made stays. -/
theorem OwnG.set3 {w : World} {lo hi r : Nat} {a b c : Value} {x y z : List Int} (h : OwnG w lo hi [(a, x), (b, y), (c, z)]) (hr : r < lo) (u v t : Value) : OwnG (((w.setCell ⟨r, 0, none⟩ u).setCell ⟨r, 1, none⟩ v).setCell ⟨r, 2, none⟩ t) lo hi [(a, x), (b, y), (c, z)] := by
  obtain ⟨o1, o2, o3⟩ := h.rows
  exact OwnG.of3 h.2 (Own.set (Own.set (Own.set o1 hr _) hr _) hr _) (Own.set (Own.set (Own.set o2 hr _) hr _) hr _) (Own.set (Own.set (Own.set o3 hr _) hr _) hr _)
set_option maxHeartbeats 1600000 in
theorem permute_tensor_spec {B : Nat} {lv dv xv gv : Value} {k p q : Int} {L D X labels : List Int} {w : World} (h : RdT B w lv dv xv L D X) (hg : Rd B w gv (ints labels)) (hB : B ≤ w.heap.size) (hn : LenT L D X) (hng : labels.length ≤ 281474976710656) :
    Calls Try.prog 48 #[ringV k p q, tenV lv dv xv, gv] w (NewTen2 w (if permB k p q L D X labels = true then labels else []) (if permB k p q L D X labels = true then dimsVia L D labels else []) (if permB k p q L D X labels = true then permDataL k q L D X labels else []) (permB k p q L D X labels)) := by
  have HT := Lib.hid h
  have HG := Lib.hid hg
  have HN := Lib.hid hn
  have HB0 := Lib.hid hB
  obtain ⟨al, cl, rfl, -⟩ := ints_form h.l
  obtain ⟨ad, cd, rfl, -⟩ := ints_form h.d
  obtain ⟨ax, cx, rfl, -⟩ := ints_form h.x
  obtain ⟨ag, cg, rfl, -⟩ := ints_form hg
  obtain ⟨ml, hml⟩ : ∃ m, m = L.length := ⟨_, rfl⟩
  obtain ⟨md, hmd⟩ : ∃ m, m = D.length := ⟨_, rfl⟩
  obtain ⟨mx, hmx⟩ : ∃ m, m = X.length := ⟨_, rfl⟩
  obtain ⟨mg, hmg⟩ : ∃ m, m = labels.length := ⟨_, rfl⟩
  rw [← hml, ← hmd, ← hmx] at HT ⊢
  rw [← hmg] at HG ⊢
  have T0 := Lib.hid (Three.start w k p q (.slice al ml cl) (.slice ad md cd) (.slice ax mx cx) nilV nilV nilV 30 49 49)
  have HOK := Lib.hid (tensor_ok_spec (k := k) (p := p) (n := q) (HT.out.below T0.out.1.bel HB0.out) (Nat.le_trans HB0.out T0.out.1.bel.size) HN.out)
  have HSE := Lib.hid (fun (w1 : World) (hb : Below w.heap.size w w1) => set_spec (HT.out.l.below hb HB0.out) (HG.out.below hb HB0.out) HN.out.l hng)
  have HPE := Lib.hid (fun (w1 : World) (hb : Below w.heap.size w w1) (ht : tensorB k p q L D X = true) (hs : SetV L labels) => permute_spec (HT.out.below hb HB0.out) (HG.out.below hb HB0.out) (Nat.le_trans HB0.out hb.size) ht hs)
  obtain ⟨tb, htb⟩ : ∃ b, b = tensorB k p q L D X := ⟨_, rfl⟩
  obtain ⟨sb, hsb⟩ : ∃ b, b = setV L labels := ⟨_, rfl⟩
  obtain ⟨pb, hpb⟩ : ∃ b, b = permB k p q L D X labels := ⟨_, rfl⟩
  rw [← htb] at HOK
  rw [← hsb] at HSE
  rw [← hpb]
  have HPB : Hid (pb = (tb && sb)) := by show _ = _; rw [hpb, htb, hsb]; rfl
  have HTB := Lib.hid htb
  have HSB := Lib.hid hsb
  clear h hg hB hn hng hml hmd hmx hmg htb hsb hpb
  obtain ⟨r0, r1, r2, s0, s1, s2⟩ := T0.out.cells
  cases tb with
  | false =>
    obtain rfl : pb = false := by rw [HPB.out]; rfl
    simp only [Bool.false_eq_true, if_false]
    go_enter Try.func48, Try.ntmps48
    go_wp2_with fail
    refine HOK.out.mono ?_
    clear r0 r1 r2 s0 s1 s2
    rintro e w1 ⟨rfl, hb⟩
    have T1 := Lib.hid (T0.out.step hb)
    clear hb
    obtain ⟨t0, t1, t2, f0, f1, f2⟩ := T1.out.ans
    go_wp2
    refine bodyPost_ret (v := .tuple #[tenV nilV nilV nilV, .bool false]) (by simp [results, Try.results48, go_sem, t0, t1, t2]) rfl ?_
    exact NewTen2.nils (((T1.out.1.bel.setCell (by simp; omega) _).setCell (by simp; omega) _).setCell (by simp; omega) _)
  | true =>
    cases sb with
    | false =>
      obtain rfl : pb = false := by rw [HPB.out]; rfl
      simp only [Bool.false_eq_true, if_false]
      go_enter Try.func48, Try.ntmps48
      go_wp2_with fail
      refine HOK.out.mono ?_
      clear r0 r1 r2 s0 s1 s2
      rintro e w1 ⟨rfl, hb⟩
      have T1 := Lib.hid (T0.out.step hb)
      clear hb
      obtain ⟨r0, r1, r2, s0, s1, s2⟩ := T1.out.cells
      obtain ⟨t0, t1, t2, f0, f1, f2⟩ := T1.out.ans
      go_wp2_with fail
      refine (HSE.out _ T1.out.1.bel).mono ?_
      rintro e w2 ⟨rfl, rfl⟩
      go_wp2
      refine bodyPost_ret (v := .tuple #[tenV nilV nilV nilV, .bool false]) (by simp [results, Try.results48, go_sem, t0, t1, t2]) rfl ?_
      exact NewTen2.nils (((T1.out.1.bel.setCell (by simp; omega) _).setCell (by simp; omega) _).setCell (by simp; omega) _)
    | true =>
      obtain rfl : pb = true := by rw [HPB.out]; rfl
      simp only [if_true]
      have HQ := Lib.hid (fun (w1 : World) (hb : Below w.heap.size w w1) => HPE.out w1 hb HTB.out.symm (setV_true.1 HSB.out.symm))
      have HDL : Hid (permX (widthI k q).toNat L D X labels (prodL D).toNat = permDataL k q L D X labels) := Lib.hid rfl
      rw [HDL.out] at HQ
      clear HPE
      go_enter Try.func48, Try.ntmps48
      go_wp2_with fail
      refine HOK.out.mono ?_
      clear r0 r1 r2 s0 s1 s2
      rintro e w1 ⟨rfl, hb⟩
      have T1 := Lib.hid (T0.out.step hb)
      clear hb
      obtain ⟨r0, r1, r2, s0, s1, s2⟩ := T1.out.cells
      go_wp2_with fail
      refine (HSE.out _ T1.out.1.bel).mono ?_
      rintro e w2 ⟨rfl, rfl⟩
      go_wp2_with fail
      refine (HQ.out _ T1.out.1.bel).mono ?_
      clear r0 r1 r2 s0 s1 s2
      rintro e w3 ⟨l', d', x', rfl, ho, hb⟩
      have T3 := Lib.hid (T1.out.step hb)
      obtain ⟨a1, c1, rfl, -⟩ := ints_form ho.rows.1.rd
      obtain ⟨a2, c2, rfl, -⟩ := ints_form ho.rows.2.1.rd
      obtain ⟨a3, c3, rfl, -⟩ := ints_form ho.rows.2.2.rd
      have lt1 := T1.out.2.2.lt
      have hz1 := T1.out.1.bel.size
      obtain ⟨m1, hm1⟩ : ∃ m, m = labels.length := ⟨_, rfl⟩
      obtain ⟨m2, hm2⟩ : ∃ m, m = (dimsVia L D labels).length := ⟨_, rfl⟩
      obtain ⟨m3, hm3⟩ : ∃ m, m = (permDataL k q L D X labels).length := ⟨_, rfl⟩
      rw [← hm1, ← hm2, ← hm3] at ho ⊢
      have HO := Lib.hid (ho.set3 lt1 (.slice a1 m1 c1) (.slice a2 m2 c2) (.slice a3 m3 c3))
      clear hb ho hm1 hm2 hm3
      obtain ⟨t0, t1, t2, f0, f1, f2⟩ := T3.out.ans
      go_wp2
      refine bodyPost_ret (v := .tuple #[tenV (.slice a1 m1 c1) (.slice a2 m2 c2) (.slice a3 m3 c3), .bool true]) (by simp [results, Try.results48, go_sem, t0, t1, t2]) rfl ?_
      exact ⟨_, _, _, rfl, HO.out.wide hz1 (by simp) (by simp), ((T3.out.1.bel.setCell (by simp; omega) _).setCell (by simp; omega) _).setCell (by simp; omega) _⟩

set_option maxHeartbeats 1600000 in
theorem sort_tensor_spec {B : Nat} {lv dv xv : Value} {k p q : Int} {L D X : List Int} {w : World} (h : RdT B w lv dv xv L D X) (hB : B ≤ w.heap.size) (hn : LenT L D X) :
    Calls Try.prog 50 #[ringV k p q, tenV lv dv xv] w (NewTen w (if tensorB k p q L D X = true then sortL L else []) (if tensorB k p q L D X = true then dimsVia L D (sortL L) else []) (if tensorB k p q L D X = true then permDataL k q L D X (sortL L) else [])) := by
  have HT := Lib.hid h
  have HN := Lib.hid hn
  have HB0 := Lib.hid hB
  obtain ⟨al, cl, rfl, -⟩ := ints_form h.l
  obtain ⟨ad, cd, rfl, -⟩ := ints_form h.d
  obtain ⟨ax, cx, rfl, -⟩ := ints_form h.x
  obtain ⟨ml, hml⟩ : ∃ m, m = L.length := ⟨_, rfl⟩
  obtain ⟨md, hmd⟩ : ∃ m, m = D.length := ⟨_, rfl⟩
  obtain ⟨mx, hmx⟩ : ∃ m, m = X.length := ⟨_, rfl⟩
  rw [← hml, ← hmd, ← hmx] at HT ⊢
  have T0 := Lib.hid (Three.start w k p q (.slice al ml cl) (.slice ad md cd) (.slice ax mx cx) nilV nilV nilV 30 49 49)
  have HOK := Lib.hid (tensor_ok_spec (k := k) (p := p) (n := q) (HT.out.below T0.out.1.bel HB0.out) (Nat.le_trans HB0.out T0.out.1.bel.size) HN.out)
  obtain ⟨tb, htb⟩ : ∃ b, b = tensorB k p q L D X := ⟨_, rfl⟩
  rw [← htb] at HOK ⊢
  have HTB := Lib.hid htb
  clear h hB hn hml hmd hmx htb
  obtain ⟨r0, r1, r2, s0, s1, s2⟩ := T0.out.cells
  cases tb with
  | false =>
    simp only [Bool.false_eq_true, if_false]
    go_enter Try.func50, Try.ntmps50
    go_wp2_with fail
    refine HOK.out.mono ?_
    clear r0 r1 r2 s0 s1 s2
    rintro e w1 ⟨rfl, hb⟩
    have T1 := Lib.hid (T0.out.step hb)
    clear hb
    obtain ⟨t0, t1, t2, f0, f1, f2⟩ := T1.out.ans
    go_wp2
    refine bodyPost_ret (v := tenV nilV nilV nilV) (by simp [results, Try.results50, go_sem, t0, t1, t2]) rfl ?_
    exact NewTen.nils (((T1.out.1.bel.setCell (by simp; omega) _).setCell (by simp; omega) _).setCell (by simp; omega) _)
  | true =>
    simp only [if_true]
    obtain ⟨hax, hsv⟩ : AxesV L D ∧ SetV L (sortL L) := by
      rcases sizeI_cases L D with ⟨h, -⟩ | ⟨h1, h2, -, -⟩
      · have := (tensorB_inv HTB.out.symm).2.1; omega
      · exact ⟨h2, setV_perm (sortL_perm L) h2.2.2.2.2⟩
    have HSO := Lib.hid (fun (w1 : World) (hb : Below w.heap.size w w1) => sort_spec (HT.out.l.below hb HB0.out) (Nat.le_trans HB0.out hb.size) (by have := hax.1; omega))
    have HDL : Hid (permX (widthI k q).toNat L D X (sortL L) (prodL D).toNat = permDataL k q L D X (sortL L)) := Lib.hid rfl
    have HQ := Lib.hid (fun (w1 : World) (hb : Below w.heap.size w w1) (gv : Value) (B1 : Nat) (hB1 : B1 ≤ w1.heap.size) (hg : Rd B1 w1 gv (ints (sortL L))) (hBB : B ≤ B1) => permute_spec ⟨(HT.out.below hb HB0.out).l.mono hBB, (HT.out.below hb HB0.out).d.mono hBB, (HT.out.below hb HB0.out).x.mono hBB⟩ hg hB1 HTB.out.symm hsv)
    rw [HDL.out] at HQ
    clear hax hsv
    go_enter Try.func50, Try.ntmps50
    go_wp2_with fail
    refine HOK.out.mono ?_
    clear r0 r1 r2 s0 s1 s2
    rintro e w1 ⟨rfl, hb⟩
    have T1 := Lib.hid (T0.out.step hb)
    have T1d := Lib.hid (T1.out.step (Below.drew (Below.refl _ _)))
    clear hb
    obtain ⟨r0, r1, r2, s0, s1, s2⟩ := T1.out.cells
    go_wp2
    have AR1 : True := trivial
    have AR2 : True := trivial
    go_region_held3 (fun w' => w'.cell? ⟨w.heap.size, 0, none⟩ = some (.int .i64 k) ∧ w'.cell? ⟨w.heap.size, 1, none⟩ = some (.int .i64 p) ∧ w'.cell? ⟨w.heap.size, 2, none⟩ = some (.int .i64 q) ∧ w'.cell? ⟨w.heap.size + 1, 0, none⟩ = some (.slice al ml cl) ∧ w'.cell? ⟨w.heap.size + 1, 1, none⟩ = some (.slice ad md cd) ∧ w'.cell? ⟨w.heap.size + 1, 2, none⟩ = some (.slice ax mx cx)) (first | exact ⟨r0, r1, r2, s0, s1, s2⟩ | with_reducible exact ⟨x0, x1, x2, y0, y1, y2⟩) (first
      | (go_at_call 101; have _t := AR1; refine (HSO.out _ T1d.out.1.bel).mono ?_; rintro e w2 ⟨gv, rfl, ho, hb⟩; have T2 := Lib.hid (T1d.out.step hb); have HG2 := Lib.hid ho.rd; obtain ⟨ag, cg, rfl, -⟩ := ints_form ho.rd; clear ho hb r0 r1 r2 s0 s1 s2; obtain ⟨r0, r1, r2, s0, s1, s2⟩ := T2.out.cells; clear AR1 _t)
      | (go_at_call 98; have _t := AR2; refine (HQ.out _ T2.out.1.bel _ _ (Nat.le_refl _) HG2.out (Nat.le_trans HB0.out T2.out.1.bel.size)).mono ?_; rintro e w3 ⟨l', d', x', rfl, ho, hb⟩; have T3 := Lib.hid (T2.out.step hb); obtain ⟨a1, c1, rfl, -⟩ := ints_form ho.rows.1.rd; obtain ⟨a2, c2, rfl, -⟩ := ints_form ho.rows.2.1.rd; obtain ⟨a3, c3, rfl, -⟩ := ints_form ho.rows.2.2.rd; have HO := Lib.hid ho; clear ho hb r0 r1 r2 s0 s1 s2; obtain ⟨r0, r1, r2, s0, s1, s2⟩ := T3.out.cells; obtain ⟨t0, t1, t2, f0, f1, f2⟩ := T3.out.ans; have T4 := Lib.hid (T3.out.put (.slice a1 (sortL L).length c1) (.slice a2 (dimsVia L D (sortL L)).length c2) (.slice a3 (permDataL k q L D X (sortL L)).length c3)); obtain ⟨x0, x1, x2, y0, y1, y2⟩ := T4.out.cells; clear AR2 _t))
    go_wp2
    refine bodyPost_ret (v := tenV (.slice a1 (sortL L).length c1) (.slice a2 (dimsVia L D (sortL L)).length c2) (.slice a3 (permDataL k q L D X (sortL L)).length c3)) (by simp [results, Try.results50, go_sem, t0, t1, t2]) rfl ?_
    exact ⟨_, _, _, rfl, (HO.out.set3 T2.out.2.2.lt _ _ _).wide T2.out.1.bel.size (by simp) (by simp), ((T3.out.1.bel.setCell (by simp; omega) _).setCell (by simp; omega) _).setCell (by simp; omega) _⟩
end Go.Proofs.Ytgbmacppgaopfaa
namespace Go.Proofs.Ytgbmacppgaopfaa
set_option maxRecDepth 20000
open Go.RowKit

noncomputable def relB (k p q : Int) (L D X F T : List Int) : Bool := tensorB k p q L D X && (decide (F.length = T.length) && decide (0 ≤ sizeI (namesL L F T) D))
/-- A ring's box, a tensor's, and one that waits for the answer. -/
theorem Rs.three (w : World) (k p q : Int) (x y z : Value) (T T2 T3 : TypeId) :
    Rs w (((w.alloc (.cells #[.int .i64 k, .int .i64 p, .int .i64 q] T)).alloc (.cells #[x, y, z] T2)).alloc (.cells #[nilV, nilV, nilV] T3)) [(w.heap.size + 1 + 1, nilV, nilV, nilV), (w.heap.size + 1, x, y, z), (w.heap.size, .int .i64 k, .int .i64 p, .int .i64 q)] [] := by
  have h := (((Rs.start w).box (.int .i64 k) (.int .i64 p) (.int .i64 q) T).box x y z T2).box nilV nilV nilV T3
  simp only [World.size_alloc] at h
  exact h
set_option maxHeartbeats 800000 in
theorem same_spec {B B' : Nat} {lv dv xv lu du xu : Value} {L D X L' D' X' : List Int} {w : World} (ha : RdT B w lv dv xv L D X) (hb : RdT B' w lu du xu L' D' X') (hB : B ≤ w.heap.size) (hB' : B' ≤ w.heap.size) (hn : LenT L D X) (hn' : LenT L' D' X') :
    Calls Try.prog 103 #[tenV lv dv xv, tenV lu du xu] w fun e w' => e = .returned (.bool (decide (L = L') && (decide (D = D') && decide (X = X')))) ∧ Below w.heap.size w w' := by
  have hbel : Below w.heap.size w ((w.alloc (.cells #[lv, dv, xv] 49)).alloc (.cells #[lu, du, xu] 49)) := ((Below.refl _ _).alloc (Nat.le_refl _) _).alloc (by simp) _
  have HA := Lib.hid (ha.below hbel hB)
  have HU := Lib.hid (hb.below hbel hB')
  have E1 := Lib.hid (equal_spec HA.out.l HU.out.l hn.l hn'.l)
  have E2 := Lib.hid (equal_spec HA.out.d HU.out.d hn.d hn'.d)
  have E3 := Lib.hid (equal_spec HA.out.x HU.out.x hn.x hn'.x)
  have HBL := Lib.hid hbel
  obtain ⟨al, cl, rfl, -⟩ := ints_form ha.l
  obtain ⟨ad, cd, rfl, -⟩ := ints_form ha.d
  obtain ⟨ax, cx, rfl, -⟩ := ints_form ha.x
  obtain ⟨bl, kl, rfl, -⟩ := ints_form hb.l
  obtain ⟨bd, kd, rfl, -⟩ := ints_form hb.d
  obtain ⟨bx, kx, rfl, -⟩ := ints_form hb.x
  obtain ⟨m1, hm1⟩ : ∃ m, m = L.length := ⟨_, rfl⟩
  obtain ⟨m2, hm2⟩ : ∃ m, m = D.length := ⟨_, rfl⟩
  obtain ⟨m3, hm3⟩ : ∃ m, m = X.length := ⟨_, rfl⟩
  obtain ⟨m4, hm4⟩ : ∃ m, m = L'.length := ⟨_, rfl⟩
  obtain ⟨m5, hm5⟩ : ∃ m, m = D'.length := ⟨_, rfl⟩
  obtain ⟨m6, hm6⟩ : ∃ m, m = X'.length := ⟨_, rfl⟩
  obtain ⟨e1, he1⟩ : ∃ b, b = decide (L = L') := ⟨_, rfl⟩
  obtain ⟨e2, he2⟩ : ∃ b, b = decide (D = D') := ⟨_, rfl⟩
  obtain ⟨e3, he3⟩ : ∃ b, b = decide (X = X') := ⟨_, rfl⟩
  rw [← hm1, ← hm2, ← hm3, ← hm4, ← hm5, ← hm6] at E1 E2 E3 HBL ⊢
  rw [← he1] at E1
  rw [← he2] at E2
  rw [← he3] at E3
  rw [← he1, ← he2, ← he3]
  clear ha hb hB hB' hn hn' hbel hm1 hm2 hm3 hm4 hm5 hm6 he1 he2 he3 HA HU
  cases e1 with
  | false =>
    go_enter Try.func103, Try.ntmps103
    go_wp2_with fail
    refine E1.out.mono ?_
    rintro e w1 ⟨rfl, rfl⟩
    go_wp2
    go_ret
    exact ⟨rfl, HBL.out⟩
  | true =>
    cases e2 with
    | false =>
      go_enter Try.func103, Try.ntmps103
      go_wp2_with fail
      refine E1.out.mono ?_
      rintro e w1 ⟨rfl, rfl⟩
      go_wp2_with fail
      refine E2.out.mono ?_
      rintro e w1 ⟨rfl, rfl⟩
      go_wp2
      go_ret
      exact ⟨rfl, HBL.out⟩
    | true =>
      go_enter Try.func103, Try.ntmps103
      go_wp2_with fail
      refine E1.out.mono ?_
      rintro e w1 ⟨rfl, rfl⟩
      go_wp2_with fail
      refine E2.out.mono ?_
      rintro e w1 ⟨rfl, rfl⟩
      go_wp2_with fail
      refine E3.out.mono ?_
      rintro e w1 ⟨rfl, rfl⟩
      go_wp2
      go_ret
      exact ⟨by simp, HBL.out⟩
end Go.Proofs.Ytgbmacppgaopfaa
namespace Go.Proofs.Ytgbmacppgaopfaa
set_option maxRecDepth 20000
open Go.RowKit

/-- A call has written over the first row. -/
theorem Rs.rewrite {w0 wr w' : World} {bs : List BxE} {rows : List RowE} {v : Value} {X X' : List Int} (h : Rs w0 wr bs ((v, X) :: rows)) (ho : w'.ownsRow w0.heap.size 3 1 v X'.length (ints X')) (hg : wr.grownBy w' v.ownBlock) : Rs w0 w' bs ((v, X') :: rows) := by
  have hap := List.pairwise_cons.1 h.apart
  have hlo : ∀ k, v.ownBlock = some k → w0.heap.size ≤ k := fun k hk => ((h.own (v, X) (by simp)).lt k hk).1
  refine ⟨h.bel.grown hg h.bel.size hlo, fun r hr => ?_, List.pairwise_cons.2 ⟨fun r hr => hap.1 r hr, hap.2⟩, fun b hm => (h.bx b hm).grown hg (fun k hk => ⟨fun e => h.far b hm (v, X) (by simp) (by rw [hk, e]), hlo k hk⟩), fun b hm r hr => ?_, h.dis⟩
  · rcases List.mem_cons.1 hr with rfl | hr
    · exact ho
    · exact (h.own r (by simp [hr])).kept hg (by
        cases hv : r.1.ownBlock with
        | none => exact .inl rfl
        | some k => exact .inr fun e => hap.1 r hr k e.symm hv)
  · rcases List.mem_cons.1 hr with rfl | hr
    · exact h.far b hm (v, X) (by simp)
    · exact h.far b hm r (by simp [hr])
/-- The axes of a valid tensor, and how long its lists are. -/
theorem tensor_axes {k p q : Int} {L D X : List Int} (ht : tensorB k p q L D X = true) : AxesV L D := by
  obtain ⟨-, h0, -, -⟩ := tensorB_inv ht
  rcases sizeI_cases L D with ⟨h, -⟩ | ⟨-, h2, -, -⟩
  · omega
  · exact h2
theorem ten_lens {k p q : Int} {L D X : List Int} (h : tensorB k p q L D X = true) : L.length ≤ 12 ∧ D.length ≤ 12 ∧ X.length ≤ 24576 := by
  have ha := tensor_axes h
  have hp := PF.of h (setV_perm (List.Perm.refl L) ha.2.2.2.2)
  refine ⟨ha.1, by have := ha.1; have := ha.2.1; omega, ?_⟩
  rw [hp.lX]
  exact Nat.le_trans (Nat.mul_le_mul hp.n1.2 hp.w6.2) (by omega)
end Go.Proofs.Ytgbmacppgaopfaa
