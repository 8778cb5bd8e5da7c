
/- slices.IndexFunc at axes, with joinAxes' comparison of labels; slices.Contains at integers. -/
import Derived.Test.YtdheakjjnaifkaaAlong
import Derived.Test.YtdheakjjnaifkaaRa
import Derived.Test.YtdheakjjnaifkaaFind
import Derived.Test.YtdheakjjnaifkaaJoinMath
import Derived.Test.YtdheakjjnaifkaaPairMath
import Derived.Test.YtdheakjjnaifkaaPlusSpec
namespace Go.Proofs.Ytdheakjjnaifkaa
set_option maxRecDepth 20000
open Go.RowKit

/-- The comparison of labels. -/
theorem same_label {bx : Nat} {n d s x : Int} {w : World} (hb : bx < w.heap.size) (hc : w.cell? ⟨bx, 0, none⟩ = some (.int .i64 x)) :
    Calls Try.prog 113 #[.agg #[.int .i64 n, .int .i64 d, .int .i64 s], .pointer (some ⟨bx, 0, none⟩)] w fun e w' => e = .returned (.bool (decide (n = x))) ∧ Below w.heap.size w w' := by
  have hne : bx ≠ w.heap.size := by omega
  by_cases hx : n = x
  · subst hx
    go_enter Try.func113, Try.ntmps113
    go_wp2
    all_goals
      go_ret
      exact ⟨by simp, (Below.refl _ _).alloc (Nat.le_refl _) _⟩
  · have hq : (n == x) = false := by simpa using hx
    rw [decide_eq_false hx]
    go_enter Try.func113, Try.ntmps113
    go_wp2
    all_goals
      go_ret
      exact ⟨by simp, (Below.refl _ _).alloc (Nat.le_refl _) _⟩

set_option maxHeartbeats 1600000 in
theorem index_label_full {B m cap bx : Nat} {p : Option Addr} {AX : List AxE} {x : Int} {w : World} (hm : AX.length = m) (hm2 : m ≤ 1024) (h : RdA B w (.slice p m cap) AX) (hB : B ≤ w.heap.size) (hb : bx < w.heap.size) (hc : w.cell? ⟨bx, 0, none⟩ = some (.int .i64 x)) :
    Calls Try.prog 112 #[.slice p m cap, .func (.func 113) #[] #[.pointer (some ⟨bx, 0, none⟩)]] w fun e w' => e = .returned (.int .i64 (findI (labA AX) x)) ∧ Below w.heap.size w w' := by
  have L1 := Lib.hid hm
  have RA := Lib.hid h
  have HB := Lib.hid hB
  have HC := Lib.hid hc
  obtain ⟨r, hr⟩ : ∃ r, r = findI (labA AX) x := ⟨_, rfl⟩
  rw [← hr]
  have HR := Lib.hid hr
  clear hm h hB hc hr
  go_enter Try.func112, Try.ntmps112
  go_wp2
  go_loopw [5, 8] (fun _ i wr => ∃ j : Nat, j ≤ m ∧ i = .int .i64 j ∧ Hid (Below w.heap.size w wr) ∧ Hid (x ∉ (labA AX).take j)) (fun _ i _ => m - (intOf i).toNat)
  case atStart => exact ⟨0, by omega, rfl, Lib.hid (Below.refl _ _), Lib.hid (by simp)⟩
  case round =>
    obtain ⟨j, hj, rfl, HBL, HNO⟩ := hrel
    by_cases hlt : j < m
    · obtain ⟨⟨n, d, s⟩, X1⟩ : ∃ a, Hid (AX[j]? = some a) := ⟨_, List.getElem?_eq_getElem (by rw [L1.out]; exact hlt)⟩
      obtain ⟨b, off, rfl, -, a1, a2, a3⟩ := (RA.out.below HBL.out HB.out).at X1.out
      dsimp only at a1 a2 a3
      have X2 : Hid ((labA AX)[j]? = some n) := Lib.hid (by unfold labA; rw [List.getElem?_map, X1.out]; rfl)
      have HP := Lib.hid (same_label (n := n) (d := d) (s := s) (x := x) (w := wr) (bx := bx) (Nat.lt_of_lt_of_le hb HBL.out.size) ((HBL.out.cell (p := ⟨bx, 0, none⟩) hb).trans HC.out))
      by_cases hx : n = x
      · rw [decide_eq_true hx] at HP
        have HRJ : Hid (r = (j : Int)) := Lib.hid (by rw [HR.out]; exact findI_at (by rw [X2.out, hx]) HNO.out)
        clear hx
        go_wp2_with fail
        refine HP.out.mono ?_
        rintro e w' ⟨rfl, hb'⟩
        have HB3 := Lib.hid (HBL.out.trans (hb'.mono HBL.out.size))
        clear hb' HP
        go_wp2
        go_ret
        exact ⟨by rw [HRJ.out]; rfl, HB3.out⟩
      · rw [decide_eq_false hx] at HP
        have HNO2 : Hid (x ∉ (labA AX).take (j + 1)) := Lib.hid (by
          rw [List.take_add_one, X2.out]
          simp only [Option.toList_some, List.mem_append, List.mem_singleton]
          rintro (h1 | h1)
          · exact HNO.out h1
          · exact hx h1.symm)
        clear hx
        go_wp2_with fail
        refine HP.out.mono ?_
        rintro e w' ⟨rfl, hb'⟩
        have HB3 := Lib.hid (HBL.out.trans (hb'.mono HBL.out.size))
        clear hb' HP a1 a2 a3
        go_wp2
        go_roundw
        case rel => exact ⟨j + 1, by omega, by go_num, HB3, HNO2⟩
        case measure => simp [intOf]; omega
    · obtain rfl : j = m := by omega
      have HRN : Hid (r = -1) := Lib.hid (by
        rw [HR.out]
        have h := HNO.out
        rw [List.take_of_length_le (by rw [labA_len, L1.out]; exact Nat.le_refl _)] at h
        unfold findI
        rw [if_neg h])
      go_wp2
      go_ret
      exact ⟨by rw [HRN.out]; rfl, HBL.out⟩
theorem index_label {B bx : Nat} {v : Value} {AX : List AxE} {x : Int} {w : World} (hm : AX.length ≤ 1024) (h : RdA B w v AX) (hB : B ≤ w.heap.size) (hb : bx < w.heap.size) (hc : w.cell? ⟨bx, 0, none⟩ = some (.int .i64 x)) :
    Calls Try.prog 112 #[v, .func (.func 113) #[] #[.pointer (some ⟨bx, 0, none⟩)]] w fun e w' => e = .returned (.int .i64 (findI (labA AX) x)) ∧ Below w.heap.size w w' := by
  obtain ⟨p, cap, rfl⟩ := h.form
  exact index_label_full rfl hm h hB hb hc

end Go.Proofs.Ytdheakjjnaifkaa
namespace Go.Proofs.Ytdheakjjnaifkaa
set_option maxRecDepth 20000
open Go.RowKit
/-- The labels of the join, with what each axis of the one tensor has. -/
def axF (L L' : List Int) (f z : Int → AxE) : List AxE := L.map f ++ (restL L L').map z
/-- And of the other one. -/
def axS (L L' : List Int) (f z : Int → AxE) : List AxE := (L.map fun n => if n ∈ L' then f n else z n) ++ (restL L L').map f
theorem axF_len (L L' : List Int) (f z : Int → AxE) : (axF L L' f z).length = L.length + (restL L L').length := by simp [axF]
theorem axS_len (L L' : List Int) (f z : Int → AxE) : (axS L L' f z).length = L.length + (restL L L').length := by simp [axS]
theorem not_take {L' : List Int} {i : Nat} {n : Int} (hn : L'.Nodup) (h : L'[i]? = some n) : n ∉ L'.take i := fun hm => by
  obtain ⟨hl, e⟩ := List.getElem?_eq_some_iff.1 h
  obtain ⟨j, hj, e2⟩ := List.mem_iff_getElem.1 hm
  rw [List.length_take] at hj
  rw [List.getElem_take] at e2
  have := (List.getElem_inj (i := j) (j := i) (h₀ := by omega) (h₁ := hl) hn).1 (by rw [e2, e])
  omega
theorem axF_new {L L' : List Int} {f z : Int → AxE} {i : Nat} {n : Int} (h : L'[i]? = some n) (h0 : n ∉ L) : axF L (L'.take i) f z ++ [z n] = axF L (L'.take (i + 1)) f z := by
  unfold axF
  rw [rest_new h h0]; simp
theorem axF_old {L L' : List Int} {f z : Int → AxE} {i : Nat} {n : Int} (h : L'[i]? = some n) (h0 : n ∈ L) : axF L (L'.take i) f z = axF L (L'.take (i + 1)) f z := by
  unfold axF
  rw [rest_old h h0]
theorem axS_new {L L' : List Int} {f z : Int → AxE} {i k : Nat} {n : Int} {y : AxE} (h : L'[i]? = some n) (h0 : n ∉ L) (hk : k = L.length + (restL L (L'.take i)).length) : (axS L (L'.take i) f z ++ [y]).set k (f n) = axS L (L'.take (i + 1)) f z := by
  subst hk
  rw [List.set_append_right _ _ (by rw [axS_len]; exact Nat.le_refl _), axS_len, Nat.sub_self, List.set_cons_zero]
  unfold axS
  rw [rest_new h h0, List.map_append, ← List.append_assoc]
  congr 2
  apply List.map_congr_left
  intro m hm
  have : m ∈ L'.take (i + 1) ↔ m ∈ L'.take i := by
    rw [List.take_add_one, h]
    simp only [Option.toList_some, List.mem_append, List.mem_singleton]
    exact ⟨fun h => h.elim id (fun e => absurd (e ▸ hm) h0), .inl⟩
  by_cases hq : m ∈ L'.take i
  · rw [if_pos hq, if_pos (this.2 hq)]
  · rw [if_neg hq, if_neg (fun h => hq (this.1 h))]
theorem axS_old {L L' : List Int} {f z : Int → AxE} {i : Nat} {n : Int} (hL : L.Nodup) (h : L'[i]? = some n) (h0 : n ∈ L) : (axS L (L'.take i) f z).set (L.idxOf n) (f n) = axS L (L'.take (i + 1)) f z := by
  have hlt : L.idxOf n < L.length := List.idxOf_lt_length_iff.2 h0
  unfold axS
  rw [rest_old h h0, List.set_append_left _ _ (by simpa using hlt)]
  congr 1
  apply List.ext_getElem?
  intro j
  by_cases hj : j < L.length
  · have hm : L[j]? = some L[j] := List.getElem?_eq_getElem hj
    by_cases e : L.idxOf n = j
    · have h2 : L[j] = n := by
        have := at_idxOf h0
        rw [e, hm] at this
        exact Option.some.inj this
      rw [e, List.getElem?_set_self (by simpa using hj), List.getElem?_map, hm]
      show some (f n) = some (if L[j] ∈ L'.take (i + 1) then f L[j] else z L[j])
      rw [h2, if_pos (by rw [List.take_add_one, h]; simp)]
    · rw [List.getElem?_set_ne e, List.getElem?_map, List.getElem?_map, hm]
      show some (if L[j] ∈ L'.take i then _ else _) = some (if L[j] ∈ L'.take (i + 1) then _ else _)
      have hne : L[j] ≠ n := fun e2 => e (by rw [← e2]; exact idxOf_at hL hm)
      have : L[j] ∈ L'.take (i + 1) ↔ L[j] ∈ L'.take i := by
        rw [List.take_add_one, h]
        simp [hne]
      by_cases hq : L[j] ∈ L'.take i
      · rw [if_pos hq, if_pos (this.2 hq)]
      · rw [if_neg hq, if_neg (fun h => hq (this.1 h))]
  · rw [List.getElem?_eq_none (by simp; omega), List.getElem?_eq_none (by simp; omega)]
end Go.Proofs.Ytdheakjjnaifkaa
namespace Go.Proofs.Ytdheakjjnaifkaa
set_option maxRecDepth 20000
open Go.RowKit

/-- The common labels have one dimension. -/
def FitF (L L' : List Int) (dA dB : Int → Int) : Prop := ∀ n ∈ L', n ∈ L → dA n = dB n
def FitFTo (L L' : List Int) (dA dB : Int → Int) (j : Nat) : Prop := ∀ i n, i < j → L'[i]? = some n → n ∈ L → dA n = dB n
theorem FitFTo.step {L L' : List Int} {dA dB : Int → Int} {j : Nat} {n : Int} (h : FitFTo L L' dA dB j) (hj : L'[j]? = some n) (he : n ∈ L → dA n = dB n) : FitFTo L L' dA dB (j + 1) := fun i m hi hm hL => by
  by_cases e : i = j
  · subst e
    rw [hj] at hm
    injection hm with hm
    subst hm
    exact he hL
  · exact h i m (by omega) hm hL
theorem FitFTo.all {L L' : List Int} {dA dB : Int → Int} (h : FitFTo L L' dA dB L'.length) : FitF L L' dA dB := fun n hn hL => by
  obtain ⟨i, hi, e⟩ := List.mem_iff_getElem.1 hn
  exact h i n hi (by rw [List.getElem?_eq_getElem hi, e]) hL
/-- What joinAxes answers. -/
def JoinA (w : World) (L L' : List Int) (dA sA dB sB : Int → Int) (e : Ending) (w' : World) : Prop :=
  (FitF L L' dA dB ∧ ∃ u v, e = .returned (.tuple #[u, v, .bool true]) ∧ OwnA w' w.heap.size w'.heap.size u (axF L L' (fun n => (n, dA n, sA n)) (fun n => (n, dB n, 0))) ∧ OwnA w' w.heap.size w'.heap.size v (axS L L' (fun n => (n, dB n, sB n)) (fun n => (n, dA n, 0))) ∧ Below w.heap.size w w') ∨
  (¬ FitF L L' dA dB ∧ e = .returned (.tuple #[nilV, nilV, .bool false]) ∧ Below w.heap.size w w')
theorem labA_map (L : List Int) (d s : Int → Int) : labA (L.map fun n => (n, d n, s n)) = L := by simp [labA, Function.comp_def]
theorem map_step {L : List Int} {f : Int → AxE} {j : Nat} {n : Int} (h : L[j]? = some n) : (L.map f).take j ++ [f n] = (L.map f).take (j + 1) := by
  rw [List.take_add_one, List.getElem?_map, h]; simp

set_option maxHeartbeats 6400000 in
theorem join_axes_full {B B' m m' ca cb : Nat} {p q : Option Addr} {L L' : List Int} (dA sA dB sB : Int → Int) {w : World} (hL : L.Nodup) (hL' : L'.Nodup) (hm : L.length = m) (hm' : L'.length = m') (h24 : m ≤ 200) (h24' : m' ≤ 200) (ha : RdA B w (.slice p m ca) (L.map fun n => (n, dA n, sA n))) (hb : RdA B' w (.slice q m' cb) (L'.map fun n => (n, dB n, sB n))) (hB : B ≤ w.heap.size) (hB' : B' ≤ w.heap.size) :
    Calls Try.prog 103 #[.slice p m ca, .slice q m' cb] w (JoinA w L L' dA sA dB sB) := by
  have N1 := Lib.hid hL
  have N2 := Lib.hid hL'
  have L1 := Lib.hid hm
  have L2 := Lib.hid hm'
  have HA := Lib.hid (ha.mono hB)
  have HB := Lib.hid (hb.mono hB')
  obtain ⟨i1, hi, hz0, hz1, hz2⟩ := info_parts infoAxis
  have K0 := Lib.hid hi
  have K1 := Lib.hid hz0
  have K2 := Lib.hid hz1
  have K3 := Lib.hid hz2
  have S0 : Hid (Ra w w [] [(nilV, (L.map fun n => ((n, dA n, sA n) : AxE)).take 0), (nilV, (L.map fun n => ((n, dA n, 0) : AxE)).take 0)]) := Lib.hid (Ra.start w).nil.nil
  clear hL hL' hm hm' ha hb hB hB' hi hz0 hz1 hz2
  go_enter Try.func103, Try.ntmps103
  go_wp2
  go_loopw [4, 5, 14] (fun u v i wr => ∃ (j c1 c2 : Nat) (ga gb : Option Addr), j ≤ m ∧ i = .int .i64 j ∧ u = .slice ga j c1 ∧ v = .slice gb j c2 ∧ Hid (Ra w wr [] [(.slice ga j c1, (L.map fun n => ((n, dA n, sA n) : AxE)).take j), (.slice gb j c2, (L.map fun n => ((n, dA n, 0) : AxE)).take j)])) (fun _ _ i _ => m - (intOf i).toNat)
  case atStart => exact ⟨0, 0, 0, none, none, by omega, rfl, rfl, rfl, S0⟩
  case round =>
    clear S0
    obtain ⟨j, c1, c2, ga, gb, hj, rfl, rfl, rfl, HR⟩ := hrel
    by_cases hlt : j < m
    · obtain ⟨n, X1⟩ : ∃ n, Hid (L[j]? = some n) := ⟨_, List.getElem?_eq_getElem (by rw [L1.out]; exact hlt)⟩
      obtain ⟨b, off, rfl, -, e1, e2, e3⟩ := (HA.out.below HR.out.bel (Nat.le_refl _)).at (i := j) (a := (n, dA n, sA n)) (by rw [List.getElem?_map, X1.out]; rfl)
      dsimp only at e1 e2 e3
      obtain ⟨d, hd⟩ : ∃ d, d = dA n := ⟨_, rfl⟩
      obtain ⟨s, hs⟩ : ∃ s, s = sA n := ⟨_, rfl⟩
      rw [← hd] at e2
      rw [← hs] at e3
      have HDS : Hid ((n, dA n, sA n) = (n, d, s)) := Lib.hid (by rw [hd, hs])
      have HDZ : Hid ((n, dA n, (0 : Int)) = (n, d, 0)) := Lib.hid (by rw [hd])
      have R1 := Lib.hid (HR.out.box (.int .i64 n) (.int .i64 d) (.int .i64 s) 111)
      have A1 := Lib.hid (R1.out.alloc (.cells #[.int .i64 n, .int .i64 d, .int .i64 s] 111))
      have O1 := Lib.hid (A1.out.row (v := .slice ga j c1) (AX := (L.map fun n => ((n, dA n, sA n) : AxE)).take j) (by simp) (by rw [List.length_take, List.length_map, L1.out]; omega) : World.ownsRow _ w.heap.size _ 3 (.slice ga j c1) j _)
      clear hd hs
      go_wp2_with (at_builtin; go_must (refine wpList_append_lies _ rfl _ _ 108 rfl w.heap.size 111 i1 (.agg #[.int .i64 0, .int .i64 0, .int .i64 0]) 3 24 Try.underlying108 K0.out K1.out K2.out K3.out rfl (by decide) _ j _ rfl O1.out ⟨wr.heap.size + 1, 0, none⟩ 1 1 [.int .i64 n, .int .i64 d, .int .i64 s] rfl rfl (cell3_at _ _ _ _ (by simp)) ?c2 (by decide) ?c3 ?c4 ?c5 _ rfl ?_))
      case c2 => first | rfl | (intro u hu; simp at hu; rcases hu with rfl | rfl | rfl <;> rfl)
      case c3 => unfold maxLen; omega
      case c4 => omega
      case c5 => exact A1.out.bel.size
      intro g1 cap1 w2 hown hgrow hl1 _
      have R2 := Lib.hid (A1.out.app (x := (n, d, s)) (n := j) (by rw [List.length_take, List.length_map, L1.out]; omega) hown hgrow (by simp only [World.size_alloc] at hl1 ⊢; exact hl1))
      rw [← HDS.out, map_step (f := fun n => (n, dA n, sA n)) X1.out] at R2
      obtain ⟨⟨o0, o1, -⟩, -⟩ := R2.out.at (r := wr.heap.size) (a := .int .i64 n) (b := .int .i64 d) (c := .int .i64 s) (by simp)
      have A2 := Lib.hid (R2.out.swap.alloc (.cells #[.int .i64 n, .int .i64 d, .int .i64 0] 111))
      have O2 := Lib.hid (A2.out.row (v := .slice gb j c2) (AX := (L.map fun n => ((n, dA n, 0) : AxE)).take j) (by simp) (by rw [List.length_take, List.length_map, L1.out]; omega) : World.ownsRow _ w.heap.size _ 3 (.slice gb j c2) j _)
      clear hown hgrow hl1 O1 A1 R1 HR e1 e2 e3
      go_wp2_with (at_builtin; go_must (refine wpList_append_lies _ rfl _ _ 108 rfl w.heap.size 111 i1 (.agg #[.int .i64 0, .int .i64 0, .int .i64 0]) 3 24 Try.underlying108 K0.out K1.out K2.out K3.out rfl (by decide) _ j _ rfl O2.out ⟨w2.heap.size, 0, none⟩ 1 1 [.int .i64 n, .int .i64 d, .int .i64 0] rfl rfl (cell3_at _ _ _ _ rfl) ?c2 (by decide) ?c3 ?c4 ?c5 _ rfl ?_))
      case c2 => first | rfl | (intro u hu; simp at hu; rcases hu with rfl | rfl | rfl <;> rfl)
      case c3 => unfold maxLen; omega
      case c4 => omega
      case c5 => exact A2.out.bel.size
      intro g2 cap2 w3 hown hgrow hl1 _
      have R3 := Lib.hid (A2.out.app (x := (n, d, 0)) (n := j) (by rw [List.length_take, List.length_map, L1.out]; omega) hown hgrow (by simp only [World.size_alloc] at hl1 ⊢; exact hl1))
      rw [← HDZ.out, map_step (f := fun n => (n, dA n, 0)) X1.out] at R3
      have R4 := Lib.hid (R3.out.swap.subB (bs' := []) (List.nil_sublist _))
      clear hown hgrow hl1 O2 A2 R2 R3 o0 o1
      go_wp2
      go_roundw
      case rel => exact ⟨j + 1, cap1, cap2, some ⟨g1, 0, none⟩, some ⟨g2, 0, none⟩, by omega, by go_num, rfl, rfl, R4⟩
      case measure => simp [intOf]; omega
    · obtain rfl : j = m := by omega
      have E1 := fun (f : Int → AxE) => (List.take_of_length_le (by rw [List.length_map, L1.out]; exact Nat.le_refl _) : (L.map f).take j = L.map f)
      rw [E1, E1] at HR
      have S1 : Hid (Ra w wr [] [(.slice ga j c1, axF L (L'.take 0) (fun n => (n, dA n, sA n)) (fun n => (n, dB n, 0))), (.slice gb j c2, axS L (L'.take 0) (fun n => (n, dB n, sB n)) (fun n => (n, dA n, 0)))]) := Lib.hid (by
        have h := HR.out
        simp only [axF, axS, List.take_zero, List.not_mem_nil, if_false, restL, List.filter_nil, List.map_nil, List.append_nil]
        exact h)
      clear HR
      go_wp2
      go_loopw [4, 5, 33] (fun u v i wr => ∃ (t n1 c1 c2 : Nat) (ga gb : Option Addr), t ≤ m' ∧ i = .int .i64 t ∧ u = .slice ga n1 c1 ∧ v = .slice gb n1 c2 ∧ n1 ≤ j + t ∧ Hid (n1 = L.length + (restL L (L'.take t)).length) ∧ Hid (FitFTo L L' dA dB t) ∧ Hid (Ra w wr [] [(.slice ga n1 c1, axF L (L'.take t) (fun n => (n, dA n, sA n)) (fun n => (n, dB n, 0))), (.slice gb n1 c2, axS L (L'.take t) (fun n => (n, dB n, sB n)) (fun n => (n, dA n, 0)))])) (fun _ _ i _ => m' - (intOf i).toNat)
      case atStart => exact ⟨0, j, c1, c2, ga, gb, by omega, rfl, rfl, rfl, by omega, Lib.hid (by rw [L1.out]; simp [restL]), Lib.hid (fun i n h => by omega), S1⟩
      case round =>
        clear S1
        obtain ⟨t, n1, c1, c2, ga, gb, ht, rfl, rfl, rfl, hn1, HN1, HFT, HR⟩ := hrel
        by_cases hlt : t < m'
        · obtain ⟨n, X1⟩ : ∃ n, Hid (L'[t]? = some n) := ⟨_, List.getElem?_eq_getElem (by rw [L2.out]; exact hlt)⟩
          obtain ⟨b, off, rfl, -, e1, e2, e3⟩ := (HB.out.below HR.out.bel (Nat.le_refl _)).at (i := t) (a := (n, dB n, sB n)) (by rw [List.getElem?_map, X1.out]; rfl)
          dsimp only at e1 e2 e3
          obtain ⟨d, hd⟩ : ∃ d, d = dB n := ⟨_, rfl⟩
          obtain ⟨s, hs⟩ : ∃ s, s = sB n := ⟨_, rfl⟩
          rw [← hd] at e2
          rw [← hs] at e3
          have HDD := Lib.hid hd
          have HDS : Hid ((n, dB n, sB n) = (n, d, s)) := Lib.hid (by rw [hd, hs])
          have HDZ : Hid ((n, dB n, (0 : Int)) = (n, d, 0)) := Lib.hid (by rw [hd])
          have R1 := Lib.hid (HR.out.box (.int .i64 n) (.int .i64 d) (.int .i64 s) 111)
          have HLF := axF_len L (L'.take t) (fun n => ((n, dA n, sA n) : AxE)) (fun n => (n, dB n, 0))
          have HLS := axS_len L (L'.take t) (fun n => ((n, dB n, sB n) : AxE)) (fun n => (n, dA n, 0))
          rw [← HN1.out] at HLF HLS
          have HLF2 := Lib.hid HLF
          have HLS2 := Lib.hid HLS
          obtain ⟨⟨o0, o1, o2⟩, -⟩ := R1.out.at (r := wr.heap.size) (a := .int .i64 n) (b := .int .i64 d) (c := .int .i64 s) (by simp)
          have HIX := Lib.hid (index_label (x := n) (bx := wr.heap.size) (by rw [List.length_map, L1.out]; omega) (HA.out.below R1.out.bel (Nat.le_refl _)) R1.out.bel.size (by simp) o0)
          rw [labA_map L dA sA] at HIX
          clear hd hs HLF HLS
          by_cases hin : n ∈ L
          · obtain ⟨z, hz⟩ : ∃ z, z = L.idxOf n := ⟨_, rfl⟩
            have hfi : findI L n = (z : Int) := by unfold findI; rw [if_pos hin, hz]
            have hzl : z < j := by rw [hz, ← L1.out]; exact List.idxOf_lt_length_iff.2 hin
            rw [hfi] at HIX
            have HZ := Lib.hid hz
            have HIN := Lib.hid hin
            have HF1 : Hid ((axF L (L'.take t) (fun n => ((n, dA n, sA n) : AxE)) (fun n => (n, dB n, 0)))[z]? = some (n, dA n, sA n)) := Lib.hid (by
              unfold axF
              rw [List.getElem?_append_left (by rw [List.length_map, L1.out]; exact hzl), List.getElem?_map, hz, at_idxOf hin]; rfl)
            obtain ⟨y, Y1⟩ : ∃ y, Hid ((axS L (L'.take t) (fun n => ((n, dB n, sB n) : AxE)) (fun n => (n, dA n, 0)))[z]? = some y) := ⟨_, Lib.hid (List.getElem?_eq_getElem (by rw [HLS2.out, HN1.out, L1.out]; omega))⟩
            obtain ⟨y0, y1, y2⟩ := y
            have hq0 : ¬ ((z : Int) < 0) := by omega
            have hzn : z < n1 := by have := HN1.out; rw [L1.out] at this; omega
            obtain ⟨da, hda⟩ : ∃ da, da = dA n := ⟨_, rfl⟩
            have HDA := Lib.hid hda
            rw [← hda] at HF1
            clear hz hfi hin hda
            by_cases hdd : da = d
            · subst hdd
              have HFT2 := Lib.hid (HFT.out.step X1.out (fun _ => by rw [← HDA.out, HDD.out]))
              have HJF : Hid (axF L (L'.take t) (fun n => ((n, dA n, sA n) : AxE)) (fun n => (n, dB n, 0)) = axF L (L'.take (t + 1)) (fun n => (n, dA n, sA n)) (fun n => (n, dB n, 0))) := Lib.hid (axF_old X1.out HIN.out)
              have HJS : Hid ((axS L (L'.take t) (fun n => ((n, dB n, sB n) : AxE)) (fun n => (n, dA n, 0))).set z (n, da, s) = axS L (L'.take (t + 1)) (fun n => (n, dB n, sB n)) (fun n => (n, dA n, 0))) := Lib.hid (by
                rw [HZ.out, ← HDS.out]
                exact axS_old (f := fun n => (n, dB n, sB n)) N1.out X1.out HIN.out)
              have HN2 : Hid (n1 = L.length + (restL L (L'.take (t + 1))).length) := Lib.hid (by rw [rest_old X1.out HIN.out]; exact HN1.out)
              go_wp2_with fail
              refine HIX.out.mono ?_
              rintro e w2 ⟨rfl, hb⟩
              have R2 := Lib.hid (R1.out.step hb)
              obtain ⟨⟨p0, p1, p2⟩, -⟩ := R2.out.at (r := wr.heap.size) (a := .int .i64 n) (b := .int .i64 da) (c := .int .i64 s) (by simp)
              obtain ⟨g1, rfl, hg1, hg2, -, a1, -, -⟩ := R2.out.cells (p := ga) (n := n1) (cap := c1) (by simp) HLF2.out HF1.out
              obtain ⟨g2, rfl, hg3, hg4, b0, b1, b2, bf⟩ := R2.out.cells (p := gb) (n := n1) (cap := c2) (by simp) HLS2.out Y1.out
              have f0 := bf (z * 3)
              have f1 := bf (z * 3 + 1)
              have f2 := bf (z * 3 + 2)
              clear hb HIX R1 o0 o1 o2 bf
              go_wp2_with fail
              go_region
              all_goals
                have R5 := Lib.hid ((R2.out.drew.swap.put HLS2.out (i := z) hzn (n, da, s)).swap.subB (bs' := []) (List.nil_sublist _))
                rw [HJS.out, HJF.out] at R5
                clear a1
                go_wp2
                go_roundw
                case rel => exact ⟨t + 1, n1, c1, c2, _, _, by omega, by go_num, rfl, rfl, by omega, HN2, HFT2, R5⟩
                case measure => simp [intOf]; omega
            · have HNF : Hid (¬ FitF L L' dA dB) := Lib.hid (fun h => hdd (by rw [HDA.out, HDD.out]; exact h n (List.mem_of_getElem? X1.out) HIN.out))
              have hde : (da == d) = false := by simpa using hdd
              go_wp2_with fail
              refine HIX.out.mono ?_
              rintro e w2 ⟨rfl, hb⟩
              have R2 := Lib.hid (R1.out.step hb)
              obtain ⟨⟨p0, p1, p2⟩, -⟩ := R2.out.at (r := wr.heap.size) (a := .int .i64 n) (b := .int .i64 d) (c := .int .i64 s) (by simp)
              obtain ⟨g1, rfl, hg1, hg2, -, a1, -, -⟩ := R2.out.cells (p := ga) (n := n1) (cap := c1) (by simp) HLF2.out HF1.out
              clear hb HIX R1 o0 o1 o2 hdd
              go_wp2_with fail
              go_region
              all_goals
                go_wp2
                refine bodyPost_ret (v := .tuple #[nilV, nilV, .bool false]) (by simp [results, Try.results103, go_sem]) rfl ?_
                exact .inr ⟨HNF.out, rfl, R2.out.drew.bel⟩
          · have hfi : findI L n = -1 := by unfold findI; rw [if_neg hin]
            rw [hfi] at HIX
            have HFT2 := Lib.hid (HFT.out.step X1.out (fun h => absurd h hin))
            have HJF : Hid (axF L (L'.take t) (fun n => ((n, dA n, sA n) : AxE)) (fun n => (n, dB n, 0)) ++ [(n, d, 0)] = axF L (L'.take (t + 1)) (fun n => (n, dA n, sA n)) (fun n => (n, dB n, 0))) := Lib.hid (by
              rw [← HDZ.out]
              exact axF_new (z := fun n => (n, dB n, 0)) X1.out hin)
            have HJS : Hid ((axS L (L'.take t) (fun n => ((n, dB n, sB n) : AxE)) (fun n => (n, dA n, 0)) ++ [(0, 0, 0)]).set n1 (n, d, s) = axS L (L'.take (t + 1)) (fun n => (n, dB n, sB n)) (fun n => (n, dA n, 0))) := Lib.hid (by
              rw [← HDS.out]
              exact axS_new (f := fun n => (n, dB n, sB n)) X1.out hin HN1.out)
            have HN2 : Hid (n1 + 1 = L.length + (restL L (L'.take (t + 1))).length) := Lib.hid (by rw [rest_new X1.out hin, List.length_append, ← Nat.add_assoc, ← HN1.out]; rfl)
            clear hfi hin
            go_wp2_with fail
            refine HIX.out.mono ?_
            rintro e w2 ⟨rfl, hb⟩
            have R2 := Lib.hid (R1.out.step hb)
            obtain ⟨⟨p0, p1, p2⟩, -⟩ := R2.out.at (r := wr.heap.size) (a := .int .i64 n) (b := .int .i64 d) (c := .int .i64 s) (by simp)
            have A1 := Lib.hid (R2.out.alloc (.cells #[.int .i64 n, .int .i64 d, .int .i64 0] 111))
            have O1 := Lib.hid (A1.out.row (v := .slice ga n1 c1) (AX := axF L (L'.take t) (fun n => (n, dA n, sA n)) (fun n => (n, dB n, 0))) (by simp) HLF2.out : World.ownsRow _ w.heap.size _ 3 (.slice ga n1 c1) n1 _)
            clear hb HIX R1 o0 o1 o2 e1 e2 e3
            go_wp2_with (at_builtin; go_must (refine wpList_append_lies _ rfl _ _ 108 rfl w.heap.size 111 i1 (.agg #[.int .i64 0, .int .i64 0, .int .i64 0]) 3 24 Try.underlying108 K0.out K1.out K2.out K3.out rfl (by decide) _ n1 _ rfl O1.out ⟨w2.heap.size, 0, none⟩ 1 1 [.int .i64 n, .int .i64 d, .int .i64 0] rfl rfl (cell3_at _ _ _ _ rfl) ?c2 (by decide) ?c3 ?c4 ?c5 _ rfl ?_))
            case c2 => first | rfl | (intro u hu; simp at hu; rcases hu with rfl | rfl | rfl <;> rfl)
            case c3 => unfold maxLen; omega
            case c4 => omega
            case c5 => exact A1.out.bel.size
            intro g1 cap1 w3 hown hgrow hl1 _
            have R3 := Lib.hid (A1.out.app (x := (n, d, 0)) HLF2.out hown hgrow (by simp only [World.size_alloc] at hl1 ⊢; exact hl1))
            rw [HJF.out] at R3
            have A2 := Lib.hid (R3.out.swap.alloc (.cells #[.int .i64 0, .int .i64 0, .int .i64 0] 111))
            have O2 := Lib.hid (A2.out.row (v := .slice gb n1 c2) (AX := axS L (L'.take t) (fun n => (n, dB n, sB n)) (fun n => (n, dA n, 0))) (by simp) HLS2.out : World.ownsRow _ w.heap.size _ 3 (.slice gb n1 c2) n1 _)
            clear hown hgrow hl1 O1 A1 R2 HR p0 p1 p2
            go_wp2_with (at_builtin; go_must (refine wpList_append_lies _ rfl _ _ 108 rfl w.heap.size 111 i1 (.agg #[.int .i64 0, .int .i64 0, .int .i64 0]) 3 24 Try.underlying108 K0.out K1.out K2.out K3.out rfl (by decide) _ n1 _ rfl O2.out ⟨w3.heap.size, 0, none⟩ 1 1 [.int .i64 0, .int .i64 0, .int .i64 0] rfl rfl (cell3_at _ _ _ _ rfl) ?c2 (by decide) ?c3 ?c4 ?c5 _ rfl ?_))
            case c2 => first | rfl | (intro u hu; simp at hu; subst hu; rfl)
            case c3 => unfold maxLen; omega
            case c4 => omega
            case c5 => exact A2.out.bel.size
            intro g2 cap2 w4 hown hgrow hl1 _
            have R4 := Lib.hid (A2.out.app (x := (0, 0, 0)) HLS2.out hown hgrow (by simp only [World.size_alloc] at hl1 ⊢; exact hl1))
            have HLS3 : Hid ((axS L (L'.take t) (fun n => ((n, dB n, sB n) : AxE)) (fun n => (n, dA n, 0)) ++ [(0, 0, 0)]).length = n1 + 1) := Lib.hid (by rw [List.length_append, HLS2.out]; rfl)
            have HY : Hid ((axS L (L'.take t) (fun n => ((n, dB n, sB n) : AxE)) (fun n => (n, dA n, 0)) ++ [(0, 0, 0)])[n1]? = some (0, 0, 0)) := Lib.hid (by rw [List.getElem?_append_right (by rw [HLS2.out]; exact Nat.le_refl _), HLS2.out, Nat.sub_self]; rfl)
            obtain ⟨⟨p0, p1, p2⟩, -⟩ := R4.out.at (r := wr.heap.size) (a := .int .i64 n) (b := .int .i64 d) (c := .int .i64 s) (by simp)
            obtain ⟨g2', ee, hg3, hg4, b0, b1, b2, bf⟩ := R4.out.cells (p := some ⟨g2, 0, none⟩) (n := n1 + 1) (cap := cap2) (by simp) HLS3.out HY.out
            cases ee
            have f0 := bf (n1 * 3)
            have f1 := bf (n1 * 3 + 1)
            have f2 := bf (n1 * 3 + 2)
            have R5 := Lib.hid ((R4.out.put HLS3.out (i := n1) (by omega) (n, d, s)).swap.subB (bs' := []) (List.nil_sublist _))
            rw [HJS.out] at R5
            clear hown hgrow hl1 O2 A2 R3 R4 bf
            go_wp2
            go_roundw
            case rel => exact ⟨t + 1, n1 + 1, cap1, cap2, some ⟨g1, 0, none⟩, some ⟨g2, 0, none⟩, by omega, by go_num, rfl, rfl, by omega, HN2, HFT2, R5⟩
            case measure => simp [intOf]; omega
        · obtain rfl : t = m' := by omega
          have E2 : Hid (L'.take t = L') := Lib.hid (List.take_of_length_le (by rw [L2.out]; exact Nat.le_refl _))
          rw [E2.out] at HR HN1
          have HFF : Hid (FitF L L' dA dB) := Lib.hid (by
            have h := HFT.out
            rw [← L2.out] at h
            exact h.all)
          have HLF := axF_len L L' (fun n => ((n, dA n, sA n) : AxE)) (fun n => (n, dB n, 0))
          have HLS := axS_len L L' (fun n => ((n, dB n, sB n) : AxE)) (fun n => (n, dA n, 0))
          rw [← HN1.out] at HLF HLS
          have P1 := Lib.hid HLF
          have P2 := Lib.hid HLS
          clear HLF HLS
          go_wp2
          refine bodyPost_ret (v := .tuple #[.slice ga n1 c1, .slice gb n1 c2, .bool true]) (by simp [results, Try.results103, go_sem]) rfl ?_
          refine .inl ⟨HFF.out, _, _, rfl, ⟨by rw [P1.out]; exact HR.out.row (by simp) P1.out, fun g hg => ((HR.out.row (v := .slice ga n1 c1) (by simp) P1.out).lt g hg).2, Nat.le_refl _⟩, ⟨by rw [P2.out]; exact HR.out.row (by simp) P2.out, fun g hg => ((HR.out.row (v := .slice gb n1 c2) (by simp) P2.out).lt g hg).2, Nat.le_refl _⟩, HR.out.bel⟩
theorem join_axes_impl {B B' : Nat} {u v : Value} {L L' : List Int} (dA sA dB sB : Int → Int) {w : World} (hL : L.Nodup) (hL' : L'.Nodup) (h24 : L.length ≤ 200) (h24' : L'.length ≤ 200) (ha : RdA B w u (L.map fun n => (n, dA n, sA n))) (hb : RdA B' w v (L'.map fun n => (n, dB n, sB n))) (hB : B ≤ w.heap.size) (hB' : B' ≤ w.heap.size) :
    Calls Try.prog 103 #[u, v] w (JoinA w L L' dA sA dB sB) := by
  obtain ⟨p, ca, rfl⟩ := ha.form
  obtain ⟨q, cb, rfl⟩ := hb.form
  rw [List.length_map] at ha hb ⊢
  rw [List.length_map]
  exact join_axes_full dA sA dB sB hL hL' rfl rfl h24 h24' ha hb hB hB'
end Go.Proofs.Ytdheakjjnaifkaa
namespace Go.Proofs.Ytdheakjjnaifkaa
set_option maxRecDepth 20000
open Go.RowKit

/-- Axes by their labels. -/
def axJ (J : List Int) (d s : Int → Int) : List AxE := J.map fun n => (n, d n, s n)
theorem axJ_len (J : List Int) (d s : Int → Int) : (axJ J d s).length = J.length := by simp [axJ]
theorem axJ_lab (J : List Int) (d s : Int → Int) : labA (axJ J d s) = J := labA_map J d s
theorem axJ_dims (J : List Int) (d s : Int → Int) : dimsA (axJ J d s) = J.map d := by simp [axJ, dimsA]
theorem axJ_congr {J : List Int} {d s d' s' : Int → Int} (h : ∀ n ∈ J, d n = d' n ∧ s n = s' n) : axJ J d s = axJ J d' s' := List.map_congr_left fun n hn => by rw [(h n hn).1, (h n hn).2]
/-- How an offset grows with a label. -/
def stepI (L D : List Int) (n : Int) : Int := if n ∈ L then prodL (D.drop (L.idxOf n + 1)) else 0
theorem stepL_map (L D J : List Int) : stepL L D J = J.map (stepI L D) := rfl
def dimI (L D : List Int) (n : Int) : Int := D.getD (L.idxOf n) 0
theorem axesL_map {L D : List Int} (hn : L.Nodup) : axesL L D = axJ L (dimI L D) (stepI L D) := by
  unfold axesL axJ
  apply List.ext_getElem?
  intro i
  by_cases hi : i < L.length
  · have hm : L[i]? = some L[i] := List.getElem?_eq_getElem hi
    rw [List.getElem?_map, List.getElem?_map, List.getElem?_range hi, hm]
    show some (L.getD i 0, D.getD i 0, prodL (D.drop (i + 1))) = some (L[i], dimI L D L[i], stepI L D L[i])
    unfold dimI stepI
    rw [if_pos (List.getElem_mem _), idxOf_at hn hm, getD_at hm]
  · rw [List.getElem?_eq_none (by simpa using hi), List.getElem?_eq_none (by simpa using hi)]
theorem dimI_map {L D : List Int} (hn : L.Nodup) (hl : L.length = D.length) : L.map (dimI L D) = D := dims_self hn hl
theorem isum_congr {α : Type} (l : List α) (f g : α → Int) (h : ∀ x ∈ l, f x = g x) : isum (l.map f) = isum (l.map g) := by rw [List.map_congr_left h]
theorem dotA_dotP {J : List Int} {d s : Int → Int} {ix : List Int} (hx : ix.length = J.length) : dotA (axJ J d s) ix = dotP ix (J.map s) J.length := by
  unfold dotA dotP
  congr 1
  apply List.ext_getElem?
  intro i
  by_cases hi : i < J.length
  · have hm : J[i]? = some J[i] := List.getElem?_eq_getElem hi
    have hxm : ix[i]? = some (ix[i]'(by omega)) := List.getElem?_eq_getElem (by omega)
    have hz : ((axJ J d s).zip ix)[i]? = some ((J[i], d J[i], s J[i]), ix[i]'(by omega)) := by
      rw [List.getElem?_zip_eq_some]
      exact ⟨by unfold axJ; rw [List.getElem?_map, hm]; rfl, hxm⟩
    rw [List.getElem?_map, hz, List.getElem?_map, List.getElem?_range hi]
    show some (ix[i] * s J[i]) = some (ix.getD i 0 * (J.map s).getD i 0)
    rw [getD_at hxm, getD_at (show (J.map s)[i]? = some (s J[i]) by rw [List.getElem?_map, hm]; rfl)]
  · rw [List.getElem?_eq_none (by rw [List.length_map, List.length_zip, axJ_len, hx]; omega), List.getElem?_eq_none (by rw [List.length_map, List.length_range]; omega)]
/-- Where the elements are. -/
theorem offs_steps {L D J JD : List Int} {d : Int → Int} (h : SubAx L D J JD) (hJD : J.map d = JD) (hn : J.Nodup) (hD : ∀ x ∈ D, 1 ≤ x) (hJ : ∀ x ∈ JD, 1 ≤ x) : offsA (axJ J d (stepI L D)) = (List.range (prodL JD).toNat).map fun c : Nat => (offJ L D J JD c : Int) := by
  have hl : J.length = JD.length := by rw [← hJD]; simp
  rw [offsA_is _ _ rfl (fun a ha => by
    obtain ⟨n, hnm, rfl⟩ := List.mem_map.1 ha
    exact hJ _ (by rw [← hJD]; exact List.mem_map_of_mem hnm)), axJ_dims, hJD]
  apply List.map_congr_left
  intro c _
  rw [dotA_dotP (by rw [idxL_len, hl]), (h.off hl hD hJ hn c).1, stepL_map]
theorem stepI_small {L D : List Int} (hD : ∀ d ∈ D, 1 ≤ d) (hP : prodL D ≤ 4096) (n : Int) : 0 ≤ stepI L D n ∧ stepI L D n ≤ 4096 := by
  unfold stepI
  split
  · have h1 := drop_pos hD (L.idxOf n + 1)
    have h2 := prodL_drop_le hD (L.idxOf n + 1)
    omega
  · omega
theorem axJ_pa {J : List Int} {d s : Int → Int} (h24 : J.length ≤ 200) (hd : ∀ n ∈ J, 1 ≤ d n ∧ d n ≤ 8) (hs : ∀ n ∈ J, 0 ≤ s n ∧ s n ≤ 65536) (hP : prodL (J.map d) ≤ 65536) : PA (axJ J d s) := by
  refine ⟨by rw [axJ_len]; exact h24, fun a ha => ?_, fun a ha => ?_, by rw [axJ_dims]; exact hP⟩
  · obtain ⟨n, hn, rfl⟩ := List.mem_map.1 ha
    exact hd n hn
  · obtain ⟨n, hn, rfl⟩ := List.mem_map.1 ha
    exact hs n hn

/-- The join's axes by their labels. -/
def dimJ (L D L' D' : List Int) (n : Int) : Int := if n ∈ L then dimI L D n else dimI L' D' n
theorem joinD_map {L D L' D' : List Int} (hn : L.Nodup) (hl : L.length = D.length) : (joinL L L').map (dimJ L D L' D') = joinD L D L' D' := by
  unfold joinL joinD
  rw [List.map_append]
  congr 1
  · rw [← dimI_map hn hl]
    apply List.map_congr_left
    intro n hm
    unfold dimJ
    rw [if_pos hm, dimI_map hn hl]
  · unfold dimsVia
    apply List.map_congr_left
    intro n hm
    unfold dimJ
    rw [if_neg (rest_sub hm).2]
    rfl
theorem axF_axJ (L D L' D' : List Int) : axF L L' (fun n => (n, dimI L D n, stepI L D n)) (fun n => (n, dimI L' D' n, 0)) = axJ (joinL L L') (dimJ L D L' D') (stepI L D) := by
  unfold axF axJ joinL
  rw [List.map_append]
  congr 1
  · apply List.map_congr_left
    intro n hm
    unfold dimJ
    rw [if_pos hm]
  · apply List.map_congr_left
    intro n hm
    unfold dimJ stepI
    rw [if_neg (rest_sub hm).2, if_neg (rest_sub hm).2]
theorem axS_axJ {L D L' D' : List Int} (hf : FitF L L' (dimI L D) (dimI L' D')) : axS L L' (fun n => (n, dimI L' D' n, stepI L' D' n)) (fun n => (n, dimI L D n, 0)) = axJ (joinL L L') (dimJ L D L' D') (stepI L' D') := by
  unfold axS axJ joinL
  rw [List.map_append]
  congr 1
  · apply List.map_congr_left
    intro n hm
    unfold dimJ
    rw [if_pos hm]
    by_cases h : n ∈ L'
    · rw [if_pos h]
      show (n, dimI L' D' n, stepI L' D' n) = _
      rw [hf n h hm]
    · rw [if_neg h]
      unfold stepI
      rw [if_neg h]
  · apply List.map_congr_left
    intro n hm
    unfold dimJ
    rw [if_neg (rest_sub hm).2]
theorem fitF_fit {L D L' D' : List Int} (h' : L'.Nodup) : FitF L L' (dimI L D) (dimI L' D') ↔ FitV L D L' D' := by
  constructor
  · intro h j n hj hn hL
    have h1 := h n (List.mem_of_getElem? hn) hL
    unfold dimI at h1
    rw [idxOf_at h' hn] at h1
    exact h1
  · intro h n hn hL
    have h1 := h (L'.idxOf n) n (List.idxOf_lt_length_iff.2 hn) (at_idxOf hn) hL
    exact h1
/-- What is kept of labels with their own axes. -/
theorem rest_none {J K : List Int} (h : ∀ n ∈ K, n ∈ J) : restL J K = [] := by
  unfold restL
  rw [List.filter_eq_nil_iff]
  intro n hn
  simpa using h n hn
theorem keepD_map {J : List Int} {d : Int → Int} (keep : List Int) : keepD J (J.map d) keep = (keepL J keep).map d := by
  unfold keepD dimsVia
  apply List.map_congr_left
  intro n hm
  have h1 := at_idxOf (keep_sub n hm)
  exact getD_at (by rw [List.getElem?_map, h1]; rfl)
theorem axS_keep {J K : List Int} {dJ : Int → Int} (hK : ∀ n ∈ K, n ∈ J) : FitF J K dJ (dimI K (K.map dJ)) ∧ axS J K (fun n => (n, dimI K (K.map dJ) n, stepI K (K.map dJ) n)) (fun n => (n, dJ n, 0)) = axJ J dJ (stepI K (K.map dJ)) := by
  have hd : ∀ n ∈ K, dimI K (K.map dJ) n = dJ n := fun n hn => by
    unfold dimI
    exact getD_at (by rw [List.getElem?_map, at_idxOf hn]; rfl)
  refine ⟨fun n hn _ => (hd n hn).symm, ?_⟩
  unfold axS axJ
  rw [rest_none hK, List.map_nil, List.append_nil]
  apply List.map_congr_left
  intro n _
  by_cases h : n ∈ K
  · rw [if_pos h]
    show (n, dimI K (K.map dJ) n, stepI K (K.map dJ) n) = _
    rw [hd n h]
  · rw [if_neg h]
    unfold stepI
    rw [if_neg h]
/-- An addition in place, as a whole. -/
theorem addAt_put {k p : Int} {X x : List Int} {s : Nat} (h : s + x.length ≤ X.length) : addAt k p X s x x.length = putL X s (plusL k p ((X.drop s).take x.length) x) := by
  have hl : ((X.drop s).take x.length).length = x.length := by rw [List.length_take, List.length_drop]; omega
  have hp : (plusL k p ((X.drop s).take x.length) x).length = x.length := by simp [plusL]; omega
  apply List.ext_getElem?
  intro i
  unfold putL
  by_cases hi : i < X.length
  · have e1 : (addAt k p X s x x.length)[i]? = some (if s ≤ i ∧ i < s + x.length then plusI k p (X.getD i 0) (x.getD (i - s) 0) else X.getD i 0) := by
      unfold addAt
      rw [List.getElem?_map, List.getElem?_range hi]; rfl
    rw [e1]
    have h1 : (X.take s).length = s := by rw [List.length_take]; omega
    by_cases h2 : i < s
    · rw [if_neg (by omega), List.append_assoc, List.getElem?_append_left (by omega), List.getElem?_take_of_lt h2, List.getElem?_eq_getElem hi, getD_at (List.getElem?_eq_getElem hi)]
    · by_cases h3 : i < s + x.length
      · rw [if_pos ⟨by omega, h3⟩, List.append_assoc, List.getElem?_append_right (by omega), h1, List.getElem?_append_left (by omega)]
        unfold plusL
        rw [List.getElem?_map, List.getElem?_range (by omega)]
        show some _ = some (plusI k p (((X.drop s).take x.length).getD (i - s) 0) (x.getD (i - s) 0))
        rw [List.getD_eq_getElem?_getD (l := (X.drop s).take x.length), List.getElem?_take_of_lt (by omega), List.getElem?_drop, show s + (i - s) = i by omega, ← List.getD_eq_getElem?_getD]
      · rw [if_neg (by omega), List.getElem?_append_right (by rw [List.length_append, h1, hp]; omega), List.length_append, h1, hp, List.getElem?_drop, show s + x.length + (i - (s + x.length)) = i by omega, List.getElem?_eq_getElem hi, getD_at (List.getElem?_eq_getElem hi)]
  · rw [List.getElem?_eq_none (by rw [addAt_len]; omega), List.getElem?_eq_none (by simp only [List.length_append, List.length_take, List.length_drop, hp]; omega)]
/-- The next product is added to its element, in place. -/
theorem acc_add {k p q : Int} {zf : Nat → Nat} {tf : Nat → List Int} {M N n wd : Nat} (hr : ringB k p q = true) (hw : widthI k q = (wd : Int)) (ht : ∀ m, m < N → ElemV k p q (tf m)) (hn : n < N) (hz : zf n < M) : addAt k p (accL k p q zf tf M n) (zf n * wd) (tf n) wd = accL k p q zf tf M (n + 1) := by
  have hl : (tf n).length = wd := by have := (ht n hn).1; omega
  have hX := acc_len (zf := zf) (M := M) hr hw ht (Nat.le_of_lt hn)
  have h8 := Nat.mul_le_mul_right wd (show zf n + 1 ≤ M by omega)
  rw [Nat.add_mul, Nat.one_mul] at h8
  have h1 := addAt_put (k := k) (p := p) (X := accL k p q zf tf M n) (x := tf n) (s := zf n * wd) (by rw [hX, hl]; exact h8)
  rw [hl] at h1
  rw [h1]
  have h2 : ((accL k p q zf tf M n).drop (zf n * wd)).take wd = accE k p q zf tf n (zf n) := acc_get hr hw ht (Nat.le_of_lt hn) hz
  rw [h2]
  exact acc_put hr hw ht hn hz
end Go.Proofs.Ytdheakjjnaifkaa
