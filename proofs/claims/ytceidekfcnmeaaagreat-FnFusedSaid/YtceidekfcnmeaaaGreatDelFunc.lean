
/- slices.DeleteFunc at integers, with the function of regroup: what is in a list goes. -/
import Derived.Test.YtceidekfcnmeaaaGreatFind
import Derived.Test.YtceidekfcnmeaaaGreatJoinMath
import Derived.Test.YtceidekfcnmeaaaGreatLet
import Derived.Deep.RegionLaw
import Derived.Laws.IdiomCopy
namespace Go.Proofs.YtceidekfcnmeaaaGreat
set_option maxRecDepth 20000
open Go.RowKit

set_option maxHeartbeats 400000 in
/-- Is the integer in the list that is captured. -/
theorem reg_fn {B mf cf gf : Nat} {af : Option Addr} {F : List Int} {w : World} (x : Int) (hc : w.cell? ⟨gf, 0, none⟩ = some (.slice af mf cf)) (hF : Rd B w (.slice af mf cf) (ints F)) (hn : F.length ≤ 281474976710656) :
    Calls Tryz.prog 101 #[.int .i64 x, .pointer (some ⟨gf, 0, none⟩)] w fun e w' => e = .returned (.bool (decide (x ∈ F))) ∧ w = w' := by
  have HC := Lib.hid (contains_any x hF hn)
  clear hF
  go_enter Tryz.func101, Tryz.ntmps101
  go_wp2_with fail
  refine HC.out.mono ?_
  rintro e w1 ⟨rfl, rfl⟩
  go_wp2
  go_ret
  exact ⟨rfl, rfl⟩
set_option maxHeartbeats 800000 in
theorem index_reg {B m cap mf cf gf : Nat} {a af : Option Addr} {xs F : List Int} {w : World} (hm : xs.length = m) (hm2 : m ≤ 281474976710656) (hd : Rd B w (.slice a m cap) (ints xs)) (hc : w.cell? ⟨gf, 0, none⟩ = some (.slice af mf cf)) (hF : Rd B w (.slice af mf cf) (ints F)) (hn : F.length ≤ 281474976710656) :
    Calls Tryz.prog 116 #[.slice a m cap, .func (.func 101) #[] #[.pointer (some ⟨gf, 0, none⟩)]] w fun e w' => ((e = .returned (.int .i64 (-1)) ∧ ∀ x ∈ xs, x ∉ F) ∨ (∃ (i : Nat) (x : Int), e = .returned (.int .i64 i) ∧ xs[i]? = some x ∧ x ∈ F ∧ ∀ y ∈ xs.take i, y ∉ F)) ∧ w = w' := by
  have L1 := Lib.hid hm
  have RD := Lib.hid hd
  have HC := Lib.hid (fun x => reg_fn x hc hF hn)
  clear hm hd hF
  go_enter Tryz.func116, Tryz.ntmps116
  go_wp2
  go_loop [8] (fun i => ∃ j : Nat, j ≤ m ∧ i = .int .i64 j ∧ Hid (∀ y ∈ xs.take j, y ∉ F)) (fun i => m - (intOf i).toNat)
  case atStart => exact ⟨0, by omega, rfl, fun y hy => by simp at hy⟩
  case round =>
    obtain ⟨j, hj, rfl, HI⟩ := hrel
    by_cases hlt : j < m
    · obtain ⟨x, X1⟩ : ∃ x, Hid (xs[j]? = some x) := ⟨_, List.getElem?_eq_getElem (by rw [L1.out]; exact hlt)⟩
      obtain ⟨b, off, rfl, hbB, e1⟩ := RD.out.cellAt X1.out
      have HQ := Lib.hid (HC.out x)
      by_cases hq : x ∈ F
      · have HF := Lib.hid (show (∃ (i : Nat) (x : Int), Ending.returned (Value.int .i64 (j : Int)) = .returned (.int .i64 i) ∧ xs[i]? = some x ∧ x ∈ F ∧ ∀ y ∈ xs.take i, y ∉ F) from ⟨j, x, rfl, X1.out, hq, HI.out⟩)
        rw [decide_eq_true hq] at HQ
        clear hq
        go_wp2_with fail
        refine HQ.out.mono ?_
        rintro e w1 ⟨rfl, rfl⟩
        go_wp2
        go_ret
        exact ⟨.inr HF.out, rfl⟩
      · have HS : Hid (∀ y ∈ xs.take (j + 1), y ∉ F) := Lib.hid (fun y hy => by
          rw [List.take_add_one, X1.out] at hy
          rcases List.mem_append.1 hy with h | h
          · exact HI.out y h
          · simp at h; subst h; exact hq)
        rw [decide_eq_false hq] at HQ
        clear hq
        go_wp2_with fail
        refine HQ.out.mono ?_
        rintro e w1 ⟨rfl, rfl⟩
        go_wp2
        go_round
        case rel => exact ⟨j + 1, by omega, by go_num, HS⟩
        case measure => simp [intOf]; omega
    · obtain rfl : j = m := by omega
      have HF := Lib.hid (show ∀ x ∈ xs, x ∉ F from fun x hx => HI.out x (by rw [List.take_of_length_le (by rw [L1.out]; exact Nat.le_refl _)]; exact hx))
      go_wp2
      go_ret
      exact ⟨.inl ⟨rfl, HF.out⟩, rfl⟩
theorem own_setCells {lo g m cap : Nat} : ∀ (vs : List Value) (o : Nat) (w : World) (Z : List Value), w.ownsRow lo 3 1 (.slice (some ⟨g, 0, none⟩) m cap) m Z → ∃ Z', (w.setCells g o vs).ownsRow lo 3 1 (.slice (some ⟨g, 0, none⟩) m cap) m Z' ∧ Z'.take o = Z.take o ∧ w.grownBy (w.setCells g o vs) (some g) := by
  intro vs
  induction vs with
  | nil => intro o w Z h; exact ⟨Z, h, rfl, ⟨rfl, rfl, rfl, Nat.le_refl _, fun _ _ _ => rfl⟩⟩
  | cons v vs ih =>
    intro o w Z h
    obtain ⟨Z', h1, h2, h3⟩ := ih (o + 1) _ _ (h.stored o v).1
    refine ⟨Z', h1, ?_, (h.stored o v).2.trans h3⟩
    have h4 := congrArg (List.take o) h2
    rw [List.take_take, List.take_take, Nat.min_eq_left (by omega)] at h4
    rw [h4, List.take_set_of_le (by omega)]
theorem own_short {lo g m cap n : Nat} {w : World} {Z : List Value} (h : w.ownsRow lo 3 1 (.slice (some ⟨g, 0, none⟩) m cap) m Z) (hn : n ≤ m) : w.ownsRow lo 3 1 (.slice (some ⟨g, 0, none⟩) n cap) n (Z.take n) := by
  refine ⟨by rw [List.length_take, h.1]; omega, ?_⟩
  rcases h.2 with ⟨e, -⟩ | ⟨g', cap', cur, e, h1, h2, h3, h4, h5, h6⟩
  · cases e
  · simp only [Value.slice.injEq, Option.some.injEq, Addr.mk.injEq, and_true, true_and] at e
    obtain ⟨rfl, rfl⟩ := e
    refine .inr ⟨g, cap, cur, rfl, h1, h2, by omega, h4, h5, ?_⟩
    rw [← h6, List.take_take]
    congr 1
    omega
theorem own_cap1 {lo g m cap : Nat} {w : World} {Z : List Value} (h : w.ownsRow lo 3 1 (.slice (some ⟨g, 0, none⟩) m cap) m Z) : lo ≤ g ∧ m ≤ cap ∧ g < w.heap.size := by
  have hl := h.lt g rfl
  rcases h.2 with ⟨e, -⟩ | ⟨g', cap', cur, e, h1, h2, h3, -⟩
  · cases e
  · simp only [Value.slice.injEq, Option.some.injEq, Addr.mk.injEq, and_true, true_and] at e
    obtain ⟨rfl, rfl⟩ := e
    exact ⟨h1, h3, hl.2⟩
/-- 'clear' of integers. -/
theorem run_clear_ints (w : World) (ty : TypeId) (b o n c : Nat) (hn : 0 < n) (hc : ∀ j, j < n → (w.cell? ⟨b, o + j, none⟩).isSome = true) (hf : ∀ j, w.frozen? ⟨b, o + j, none⟩ = false) :
    (Builtin.clear_ #[26] ty #[.slice (some ⟨b, o, none⟩) n c]).run Tryz.prog w = .ok (.tuple #[]) (w.setCells b o (List.replicate n (.int .i64 0))) := by
  have hst := run_storeCells_cells (P := Tryz.prog) b o (List.replicate n (.int .i64 0)) 0 w (by simpa using hc) (fun j _ => by simpa using hf j) (by intro v hv'; rw [(List.mem_replicate.1 hv').2]; rfl)
  simp only [Nat.add_zero] at hst
  have hz := Tryz.zeroValue3
  have hzc : (Builtin.zeroCells (Value.int .i64 0).cells n).toList = List.replicate n (.int .i64 0) := by
    unfold Builtin.zeroCells
    simp only [Value.cells]
    refine List.ext_getElem? fun i => ?_
    by_cases h : i < n <;> simp [h, Nat.mod_one]
  obtain ⟨n', rfl⟩ : ∃ n', n = n' + 1 := ⟨n - 1, by omega⟩
  simp [Builtin.clear_, run_underlying Tryz.underlying26, hz, hzc, hst]
/-- The row under way: what is kept of the first j, then the rest as it was. -/
structure Del (w wr : World) (lo g m cap i j : Nat) (xs F Z : List Int) : Prop where
  own : wr.ownsRow lo 3 1 (.slice (some ⟨g, 0, none⟩) m cap) m (ints Z)
  kept : Z.take i = restL F (xs.take j)
  rest : ∀ t, j ≤ t → Z[t]? = xs[t]?
  gr : w.grownBy wr (some g)
theorem Del.len {w wr : World} {lo g m cap i j : Nat} {xs F Z : List Int} (h : Del w wr lo g m cap i j xs F Z) : Z.length = m := by
  have h1 := h.own.1
  rw [ints_len] at h1
  omega
theorem Del.skip {w wr : World} {lo g m cap i j : Nat} {xs F Z : List Int} {x : Int} (h : Del w wr lo g m cap i j xs F Z) (hx : xs[j]? = some x) (hF : x ∈ F) : Del w wr lo g m cap i (j + 1) xs F Z :=
  ⟨h.own, by rw [rest_old hx hF]; exact h.kept, fun t ht => h.rest t (by omega), h.gr⟩
theorem Del.keep {w wr : World} {lo g m cap i j : Nat} {xs F Z : List Int} {x : Int} (h : Del w wr lo g m cap i j xs F Z) (hx : xs[j]? = some x) (hF : x ∉ F) (hij : i < j) (hjm : j < m) : Del w (wr.setCell ⟨g, i, none⟩ (.int .i64 x)) lo g m cap (i + 1) (j + 1) xs F (Z.set i x) := by
  refine ⟨by rw [ints_put]; exact (h.own.stored i (.int .i64 x)).1, ?_, fun t ht => ?_, h.gr.trans (h.own.stored i (.int .i64 x)).2⟩
  · rw [rest_new hx hF, ← h.kept, List.take_add_one, List.getElem?_set_self (by rw [h.len]; omega), List.take_set_of_le (by omega)]
    rfl
  · rw [List.getElem?_set_ne (by omega)]
    exact h.rest t (by omega)
set_option maxHeartbeats 1600000 in
theorem del_full {lo g m cap mf cf gf : Nat} {af : Option Addr} {xs F : List Int} {w : World} (hm : xs.length = m) (hm2 : m ≤ 1048576) (hO : w.ownsRow lo 3 1 (.slice (some ⟨g, 0, none⟩) m cap) m (ints xs)) (hgf : gf < lo) (hc : w.cell? ⟨gf, 0, none⟩ = some (.slice af mf cf)) (hF : Rd lo w (.slice af mf cf) (ints F)) (hn : F.length ≤ 281474976710656) :
    Calls Tryz.prog 100 #[.slice (some ⟨g, 0, none⟩) m cap, .func (.func 101) #[] #[.pointer (some ⟨gf, 0, none⟩)]] w fun e w' => ∃ n, e = .returned (.slice (some ⟨g, 0, none⟩) n cap) ∧ w'.ownsRow lo 3 1 (.slice (some ⟨g, 0, none⟩) n cap) n (ints (restL F xs)) ∧ w.grownBy w' (some g) := by
  obtain ⟨hlo, hcap, hgw⟩ := own_cap1 hO
  have HIX := Lib.hid (index_reg (B := w.heap.size) hm (by omega) (Rd.of_own hO) hc (hF.mono (by omega)) hn)
  have HM := Lib.hid hm
  have HO := Lib.hid hO
  have HF := Lib.hid hF
  have HC := Lib.hid hc
  clear hm hO hF hc
  go_enter Tryz.func100, Tryz.ntmps100
  go_wp2_with fail
  refine HIX.out.mono ?_
  clear HIX
  rintro e w1 ⟨hcase, rfl⟩
  rcases hcase with ⟨rfl, hno⟩ | ⟨i, x, rfl, hi, hiF, hpre⟩
  · have HE : Hid (restL F xs = xs) := Lib.hid (by unfold restL; exact List.filter_eq_self.2 fun x hx => decide_eq_true (hno x hx))
    clear hno
    go_wp2
    go_ret
    exact ⟨m, rfl, by rw [HE.out]; exact HO.out, ⟨rfl, rfl, rfl, Nat.le_refl _, fun _ _ _ => rfl⟩⟩
  · have him : i < m := by have := (List.getElem?_eq_some_iff.1 hi).1; rw [HM.out] at this; exact this
    have D0 : Hid (Del w w lo g m cap i (i + 1) xs F xs) := Lib.hid ⟨HO.out, by
      rw [rest_old hi hiF]
      unfold restL
      exact (List.filter_eq_self.2 fun x hx => decide_eq_true (hpre x hx)).symm, fun _ _ => rfl, ⟨rfl, rfl, rfl, Nat.le_refl _, fun _ _ _ => rfl⟩⟩
    have hq1 : ((i : Int) == (-1 : Int)) = false := by simp
    clear hi hiF hpre
    go_wp2
    go_loopw [5, 6] (fun u v wr => ∃ (i j : Nat) (Z : List Int), i < j ∧ j ≤ m ∧ u = .int .i64 i ∧ v = .int .i64 j ∧ Hid (Del w wr lo g m cap i j xs F Z)) (fun _ v _ => m - (intOf v).toNat)
    case atStart => exact ⟨i, i + 1, xs, by omega, by omega, rfl, by go_num, D0⟩
    case round =>
      clear D0 hq1 him
      obtain ⟨i, j, Z, hij, hjm, rfl, rfl, HD⟩ := hrel
      by_cases hlt : j < m
      · obtain ⟨x, X1⟩ : ∃ x, Hid (xs[j]? = some x) := ⟨_, List.getElem?_eq_getElem (by rw [HM.out]; exact hlt)⟩
        have hZ : Z[j]? = some x := by rw [HD.out.rest j (Nat.le_refl _)]; exact X1.out
        have e1 : wr.cell? ⟨g, j, none⟩ = some (.int .i64 x) := by
          rw [HD.out.own.cellAt j (by omega)]
          unfold ints
          rw [List.getElem?_map, hZ]; rfl
        have HQ := Lib.hid (reg_fn (B := lo) x (HD.out.gr.cell HC.out (by intro e; simp at e; omega)) (HF.out.kept HD.out.gr (by omega) (fun k hk => by injection hk with hk; omega)) hn)
        by_cases hq : x ∈ F
        · have HS := Lib.hid (HD.out.skip X1.out hq)
          rw [decide_eq_true hq] at HQ
          clear hq hZ
          go_wp2_with fail
          refine HQ.out.mono ?_
          rintro e w2 ⟨rfl, rfl⟩
          go_wp2
          go_roundw
          case rel => exact ⟨i, j + 1, Z, by omega, by omega, rfl, by go_num, HS⟩
          case measure => simp [intOf]; omega
        · have HS := Lib.hid (HD.out.keep X1.out hq hij hlt)
          rw [decide_eq_false hq] at HQ
          obtain ⟨y, e2⟩ : ∃ y, wr.cell? ⟨g, i, none⟩ = some y := by
            rw [HD.out.own.cellAt i (by omega)]
            exact ⟨_, List.getElem?_eq_getElem (by rw [ints_len, HD.out.len]; omega)⟩
          have f2 := HD.out.own.frozenAt i
          have him : i < m := by omega
          clear hq hZ
          go_wp2_with fail
          refine HQ.out.mono ?_
          rintro e w2 ⟨rfl, rfl⟩
          go_wp2
          go_roundw
          case rel => exact ⟨i + 1, j + 1, Z.set i x, by omega, by omega, by go_num, by go_num, HS⟩
          case measure => simp [intOf]; omega
      · obtain rfl : j = m := by omega
        have hcr0 := fun ty => run_clear_ints wr ty g i (j - i) (cap - i) (by omega) (fun t ht => by rw [HD.out.own.cellAt (i + t) (by omega), List.getElem?_eq_getElem (by rw [ints_len, HD.out.len]; omega)]; rfl) (fun t => HD.out.own.frozenAt (i + t))
        obtain ⟨W2, hW2⟩ : ∃ W2, W2 = wr.setCells g i (List.replicate (j - i) (.int .i64 0)) := ⟨_, rfl⟩
        rw [← hW2] at hcr0
        have HFIN : Hid (W2.ownsRow lo 3 1 (.slice (some ⟨g, 0, none⟩) i cap) i (ints (restL F xs)) ∧ w.grownBy W2 (some g)) := Lib.hid (by
          obtain ⟨Z', h1, h2, h3⟩ := own_setCells (List.replicate (j - i) (.int .i64 0)) i wr _ HD.out.own
          rw [← hW2] at h1 h3
          have h4 := own_short h1 (n := i) (by omega)
          have h5 := HD.out.kept
          rw [List.take_of_length_le (l := xs) (by rw [HM.out]; exact Nat.le_refl _)] at h5
          rw [h2, ints_take, h5] at h4
          exact ⟨h4, HD.out.gr.trans h3⟩)
        have hne : ¬ i = cap := by omega
        have hic : i ≤ j := by omega
        clear hW2 HD
        go_wp2
        go_ret
        exact ⟨i, rfl, HFIN.out.1, HFIN.out.2⟩
/-- slices.DeleteFunc of a list of which nothing lies anywhere. -/
theorem del_nil {a : Option Addr} {cap gf : Nat} {w : World} :
    Calls Tryz.prog 100 #[.slice a 0 cap, .func (.func 101) #[] #[.pointer (some ⟨gf, 0, none⟩)]] w fun e w' => e = .returned (.slice a 0 cap) ∧ w = w' := by
  have HIX : Hid (Calls Tryz.prog 116 #[.slice a 0 cap, .func (.func 101) #[] #[.pointer (some ⟨gf, 0, none⟩)]] w fun e w' => e = .returned (.int .i64 (-1)) ∧ w = w') := Lib.hid (by
    go_enter Tryz.func116, Tryz.ntmps116
    go_wp2
    go_loop [8] (fun i => i = .int .i64 0) (fun i => 0)
    case atStart => rfl
    case round =>
      obtain rfl := hrel
      go_wp2
      go_ret
      exact ⟨rfl, rfl⟩)
  go_enter Tryz.func100, Tryz.ntmps100
  go_wp2_with fail
  refine HIX.out.mono ?_
  rintro e w1 ⟨rfl, rfl⟩
  go_wp2
  go_ret
  exact ⟨rfl, rfl⟩
end Go.Proofs.YtceidekfcnmeaaaGreat
