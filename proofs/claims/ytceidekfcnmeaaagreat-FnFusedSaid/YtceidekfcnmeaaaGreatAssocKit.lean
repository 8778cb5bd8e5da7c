
/- laws.ints on two slices that read the same. -/
import Derived.Test.YtceidekfcnmeaaaGreatLawKit
import Derived.Lib.Hide
import Derived.Test.YtceidekfcnmeaaaGreatPairsMath
import Derived.Test.YtceidekfcnmeaaaGreatPairImpl
import Derived.Test.YtceidekfcnmeaaaGreatDrawn
import Derived.Laws.AppendOwnNone
import Derived.Test.YtceidekfcnmeaaaGreatSameImpl
namespace Go.Proofs.YtceidekfcnmeaaaGreat
set_option maxRecDepth 20000
open Go.RowKit

set_option maxHeartbeats 800000 in
theorem ints_same {B B' : Nat} {va vb : Value} {xs : List Int} {w : World} (ha : Rd B w va (ints xs)) (hb : Rd B' w vb (ints xs)) (hn : xs.length ≤ 281474976710656) :
    Calls Tryz.prog 19 #[va, vb] w fun e w' => e = .returned (.bool true) ∧ w = w' := by
  obtain ⟨a, ca, rfl, hca⟩ := ints_form ha
  obtain ⟨b, cb, rfl, hcb⟩ := ints_form hb
  obtain ⟨n, hnn⟩ : ∃ n, n = xs.length := ⟨_, rfl⟩
  rw [← hnn] at hn ⊢
  have HN := Lib.hid hnn.symm
  have HA := Lib.hid hca
  have HBB := Lib.hid hcb
  clear ha hb hca hcb hnn
  go_enter Tryz.func19, Tryz.ntmps19
  go_wp2
  go_loop [9] (fun i => ∃ j : Nat, j ≤ n ∧ i = .int .i64 j) (fun i => n - (intOf i).toNat)
  case atStart => exact ⟨0, by omega, rfl⟩
  case round =>
    obtain ⟨j, hj, rfl⟩ := hrel
    by_cases hlt : j < n
    · obtain ⟨ba, oa, rfl, -, hc1⟩ := HA.out (by rw [HN.out]; omega)
      obtain ⟨bb, ob, rfl, -, hc2⟩ := HBB.out (by rw [HN.out]; omega)
      obtain ⟨x, e1, X1⟩ := ints_cell HN.out hc1 hlt
      obtain ⟨y, e2, Y1⟩ := ints_cell HN.out hc2 hlt
      obtain rfl : x = y := Option.some.inj (X1.out.symm.trans Y1.out)
      have hge : decide (n ≤ j) = false := by simp; omega
      clear hc1 hc2
      go_wp2
      go_round
      case rel => exact ⟨j + 1, by omega, by go_num⟩
      case measure => simp [intOf]; omega
    · obtain rfl : j = n := by omega
      go_wp2
      go_ret
      exact ⟨rfl, rfl⟩

end Go.Proofs.YtceidekfcnmeaaaGreat
namespace Go.Proofs.YtceidekfcnmeaaaGreat
set_option maxRecDepth 20000
open Go.RowKit

/-- The dimension of a drawn label. -/
def gD (n : Int) : Int := 1 + (n + 1) % 3
theorem gD_in (n : Int) : 1 ≤ gD n ∧ gD n ≤ 3 := by unfold gD; omega
/-- Labels from 0 to 5, with their dimensions. -/
structure Lab6 (L D : List Int) : Prop where
  nd : L.Nodup
  rg : ∀ x ∈ L, 0 ≤ x ∧ x < 6
  dm : D = L.map gD
theorem nodup_len : ∀ {L M : List Int}, L.Nodup → (∀ x ∈ L, x ∈ M) → L.length ≤ M.length := by
  intro L
  induction L with
  | nil => intro M _ _; simp
  | cons x r ih =>
    intro M hn hs
    have hn' := List.nodup_cons.1 hn
    have hx := hs x (by simp)
    have h1 := ih (M := M.erase x) hn'.2 (fun y hy => (List.mem_erase_of_ne (show y ≠ x by rintro rfl; exact hn'.1 hy)).2 (hs y (by simp [hy])))
    rw [List.length_erase_of_mem hx] at h1
    have h2 := List.length_pos_of_mem hx
    simp only [List.length_cons]
    omega
theorem Lab6.len {L D : List Int} (h : Lab6 L D) : L.length ≤ 6 := by
  have h1 := nodup_len (M := [0, 1, 2, 3, 4, 5]) h.nd (fun x hx => by
    have := h.rg x hx
    simp only [List.mem_cons, List.not_mem_nil, or_false]
    omega)
  simpa using h1
theorem Lab6.dims {L D : List Int} (h : Lab6 L D) : ∀ d ∈ D, 1 ≤ d ∧ d ≤ 3 := fun d hd => by
  rw [h.dm] at hd
  obtain ⟨n, -, rfl⟩ := List.mem_map.1 hd
  exact gD_in n
theorem Lab6.leneq {L D : List Int} (h : Lab6 L D) : L.length = D.length := by rw [h.dm]; simp
theorem Lab6.prod {L D : List Int} (h : Lab6 L D) : 1 ≤ prodL D ∧ prodL D ≤ 729 := by
  refine ⟨prodL_pos fun d hd => (h.dims d hd).1, Int.le_trans (prodL_le3 h.dims).2 (pow3_le (by rw [← h.leneq]; exact h.len))⟩
theorem Lab6.axes {L D : List Int} (h : Lab6 L D) : AxesV L D := ⟨by have := h.len; omega, h.leneq, fun x hx => by have := h.rg x hx; omega, fun d hd => by have := h.dims d hd; omega, h.nd⟩
theorem Lab6.size {L D : List Int} (h : Lab6 L D) : sizeI L D = prodL D := sizeI_of h.axes (by have := h.prod.2; omega)
theorem dimI_g {L : List Int} {n : Int} (h : n ∈ L) : dimI L (L.map gD) n = gD n := by
  unfold dimI
  exact getD_at (by rw [List.getElem?_map, at_idxOf h]; rfl)
theorem Lab6.joinD {L D L' D' : List Int} (h : Lab6 L D) (h' : Lab6 L' D') : joinD L D L' D' = (joinL L L').map gD := by
  rw [← joinD_map h.nd h.leneq]
  apply List.map_congr_left
  intro n hn
  unfold dimJ
  by_cases hL : n ∈ L
  · rw [if_pos hL, h.dm, dimI_g hL]
  · rw [if_neg hL, h'.dm]
    rcases List.mem_append.1 hn with h1 | h1
    · exact absurd h1 hL
    · exact dimI_g (rest_sub h1).1
theorem Lab6.keep {J JD : List Int} (keep : List Int) (h : Lab6 J JD) : Lab6 (keepL J keep) (keepD J JD keep) :=
  ⟨keep_nodup h.nd, fun x hx => h.rg x (keep_sub x hx), by rw [h.dm, keepD_map]⟩
theorem Lab6.sub {L D J JD : List Int} (h : Lab6 L D) (hJ : Lab6 J JD) (hs : ∀ n ∈ L, n ∈ J) : SubAx L D J JD :=
  ⟨h.nd, h.leneq, hs, fun i n hi => by
    have hm := List.mem_of_getElem? hi
    rw [h.dm, hJ.dm, getD_at (show (L.map gD)[i]? = some (gD n) by rw [List.getElem?_map, hi]; rfl), getD_at (show (J.map gD)[J.idxOf n]? = some (gD n) by rw [List.getElem?_map, at_idxOf (hs n hm)]; rfl)]⟩
theorem SubAx.idx {M MD J JD : List Int} (h : SubAx M MD J JD) (hl : J.length = JD.length) (hM : ∀ d ∈ MD, 1 ≤ d) (hJ : ∀ d ∈ JD, 1 ≤ d) (n : Nat) : idxL MD (offJ M MD J JD n : Int) = viaL M J (idxL JD (n : Int)) := by
  have h1 := h.inx hl (idxL_in hJ (n : Int))
  have h2 := offP_range hM h1 MD.length (Nat.le_refl _)
  rw [← offI_is] at h2
  unfold offJ
  rw [Int.toNat_of_nonneg h2.1]
  exact idx_off hM h1
/-- A drawn tensor's facts. -/
structure Ten6 (k p q : Int) (wd : Nat) (L D X : List Int) : Prop where
  lab : Lab6 L D
  ten : tensorB k p q L D X = true
  fac : TenF k p q L D X wd (prodL D).toNat
theorem Ten6.of {k p q : Int} {wd : Nat} {L D X : List Int} (hw : widthI k q = (wd : Int)) (h : Lab6 L D) (ht : tensorB k p q L D X = true) : Ten6 k p q wd L D X := ⟨h, ht, TenF.of ht hw⟩
end Go.Proofs.YtceidekfcnmeaaaGreat
namespace Go.Proofs.YtceidekfcnmeaaaGreat
set_option maxRecDepth 20000
open Go.RowKit

end Go.Proofs.YtceidekfcnmeaaaGreat
namespace Go.Proofs.YtceidekfcnmeaaaGreat
set_option maxRecDepth 20000
open Go.RowKit

theorem Ten6.size {k p q : Int} {wd : Nat} {L D X : List Int} (h : Ten6 k p q wd L D X) : sizeI L D = prodL D := h.lab.size
end Go.Proofs.YtceidekfcnmeaaaGreat
namespace Go.Proofs.YtceidekfcnmeaaaGreat
set_option maxRecDepth 20000
open Go.RowKit

end Go.Proofs.YtceidekfcnmeaaaGreat
namespace Go.Proofs.YtceidekfcnmeaaaGreat
set_option maxRecDepth 20000
open Go.RowKit

theorem Ten6.len {k p q : Int} {wd : Nat} {L D X : List Int} (h : Ten6 k p q wd L D X) : LenT L D X := by
  have h1 := ten_lens h.ten
  exact ⟨by omega, by omega, by omega⟩
theorem Ten6.ints {k p q : Int} {wd : Nat} {L D X : List Int} (h : Ten6 k p q wd L D X) : allI L := fun z hz => by
  have := h.lab.rg z hz
  exact ⟨by omega, by omega⟩
/-- A new tensor, its rows told. -/
def NewS (w : World) (L D X : List Int) (f : Value → Value) (e : Ending) (w' : World) : Prop := ∃ a1 n1 c1 a2 n2 c2 a3 n3 c3, e = .returned (f (tenV (.slice a1 n1 c1) (.slice a2 n2 c2) (.slice a3 n3 c3))) ∧ OwnG w' w.heap.size w'.heap.size [(.slice a1 n1 c1, L), (.slice a2 n2 c2, D), (.slice a3 n3 c3, X)] ∧ Below w.heap.size w w'
theorem NewS.of {w w' : World} {L D X : List Int} {f : Value → Value} {lv dv xv : Value} (ho : OwnG w' w.heap.size w'.heap.size [(lv, L), (dv, D), (xv, X)]) (hb : Below w.heap.size w w') : NewS w L D X f (.returned (f (tenV lv dv xv))) w' := by
  obtain ⟨a1, n1, c1, rfl⟩ := (show Own _ _ _ lv L from ho.1 (lv, L) (by simp)).slice
  obtain ⟨a2, n2, c2, rfl⟩ := (show Own _ _ _ dv D from ho.1 (dv, D) (by simp)).slice
  obtain ⟨a3, n3, c3, rfl⟩ := (show Own _ _ _ xv X from ho.1 (xv, X) (by simp)).slice
  exact ⟨_, _, _, _, _, _, _, _, _, rfl, ho, hb⟩
set_option maxHeartbeats 800000 in
theorem same_yes {B B' : Nat} {lv dv xv lu du xu : Value} {L D X : List Int} {w : World} (ha : RdT B w lv dv xv L D X) (hb : RdT B' w lu du xu L D X) (hB : B ≤ w.heap.size) (hB' : B' ≤ w.heap.size) (hn : LenT L D X) :
    Calls Tryz.prog 13 #[tenV lv dv xv, tenV lu du xu] w fun e w' => e = .returned (.bool true) ∧ Below w.heap.size w w' := by
  have hbel : Below w.heap.size w ((w.alloc (.cells #[lv, dv, xv] 28)).alloc (.cells #[lu, du, xu] 28)) := ((Below.refl _ _).alloc (Nat.le_refl _) _).alloc (by simp) _
  have HA := Lib.hid (ha.below hbel hB)
  have HU := Lib.hid (hb.below hbel hB')
  have E1 := Lib.hid (ints_same HA.out.l HU.out.l hn.l)
  have E2 := Lib.hid (ints_same HA.out.d HU.out.d hn.d)
  have E3 := Lib.hid (ints_same HA.out.x HU.out.x hn.x)
  have HBL := Lib.hid hbel
  obtain ⟨al, cl, rfl, -⟩ := ints_form ha.l
  obtain ⟨ad, cd, rfl, -⟩ := ints_form ha.d
  obtain ⟨ax, cx, rfl, -⟩ := ints_form ha.x
  obtain ⟨bl, kl, rfl, -⟩ := ints_form hb.l
  obtain ⟨bd, kd, rfl, -⟩ := ints_form hb.d
  obtain ⟨bx, kx, rfl, -⟩ := ints_form hb.x
  clear ha hb hB hB' hn hbel HA HU
  go_enter Tryz.func13, Tryz.ntmps13
  go_wp2_with fail
  refine E1.out.mono ?_
  rintro e w1 ⟨rfl, rfl⟩
  go_wp2_with fail
  refine E2.out.mono ?_
  rintro e w1 ⟨rfl, rfl⟩
  go_wp2_with fail
  refine E3.out.mono ?_
  rintro e w1 ⟨rfl, rfl⟩
  go_wp2
  go_ret
  exact ⟨rfl, HBL.out⟩
end Go.Proofs.YtceidekfcnmeaaaGreat
