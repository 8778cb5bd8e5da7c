import Derived.Test.YtgbmacppgaopfabGreatAxes
import Derived.Test.YtgbmacppgaopfabGreatAlong
import Derived.Test.YtgbmacppgaopfabGreatJoinImpl
import Derived.Test.YtgbmacppgaopfabGreatElemRd
import Derived.Test.YtgbmacppgaopfabGreatTimesOne
import Derived.Test.YtgbmacppgaopfabGreatPairMath
import Derived.Test.YtgbmacppgaopfabGreatPermuted
import Derived.Test.YtgbmacppgaopfabGreatTenOkImpl
import Derived.Test.YtgbmacppgaopfabGreatZeroImpl
import Derived.Deep.RegionHeld3

/- Sources: tensors and joins behind their interface; (join).axes, (join).elem, impl.joinOf. -/
namespace Go.Proofs.YtgbmacppgaopfabGreat
set_option maxRecDepth 20000
open Go.RowKit

set_option maxHeartbeats 1600000 in
theorem count_full {B m ca : Nat} {p : Option Addr} {AX : List AxE} {w : World} (hm : AX.length = m) (hm2 : m ≤ 1024) (hd : ∀ d ∈ dimsA AX, 1 ≤ d ∧ d ≤ 8) (hP : prodL (dimsA AX) ≤ 1073741824) (ha : RdA B w (.slice p m ca) AX) (hB : B ≤ w.heap.size) :
    Calls Tryz.prog 94 #[.slice p m ca] w fun e w' => e = .returned (.int .i64 (prodL (dimsA AX))) ∧ Below w.heap.size w w' := by
  have L1 := Lib.hid hm
  have HD := Lib.hid hd
  have HP := Lib.hid hP
  have HA := Lib.hid ha
  have HB := Lib.hid hB
  obtain ⟨r, hr⟩ : ∃ r, r = prodL (dimsA AX) := ⟨_, rfl⟩
  rw [← hr]
  have HR := Lib.hid hr
  clear hm hd hP ha hB hr
  go_enter Tryz.func94, Tryz.ntmps94
  go_wp2
  go_loopw [3, 8] (fun u i wr => ∃ (j : Nat) (c : Int), j ≤ m ∧ i = .int .i64 j ∧ u = .int .i64 c ∧ Hid (c = prodL ((dimsA AX).take j)) ∧ Hid (Below w.heap.size w wr)) (fun _ i _ => m - (intOf i).toNat)
  case atStart => exact ⟨0, 1, by omega, rfl, rfl, Lib.hid rfl, Lib.hid (Below.refl _ _)⟩
  case round =>
    obtain ⟨j, c, hj, rfl, rfl, HC, HBL⟩ := hrel
    by_cases hlt : j < m
    · obtain ⟨⟨n, d, s⟩, X1⟩ : ∃ a, Hid (AX[j]? = some a) := ⟨_, List.getElem?_eq_getElem (by rw [L1.out]; exact hlt)⟩
      obtain ⟨b, off, rfl, hbl, e1, e2, e3⟩ := (HA.out.below HBL.out HB.out).at X1.out
      dsimp only at e1 e2 e3
      have hdj : (dimsA AX)[j]? = some d := by unfold dimsA; rw [List.getElem?_map, X1.out]; rfl
      have h1 := prod_prefix (fun d hd => (HD.out d hd).1) (j + 1)
      have h2 := HP.out
      have hs : prodL ((dimsA AX).take (j + 1)) = c * d := by
        rw [List.take_add_one, hdj, Option.toList_some, prodL_app, HC.out]
        simp [prodL]
      rw [hs] at h1
      have hw : wrap64 (c * d) = c * d := by unfold wrap64; omega
      have HC2 : Hid (wrap64 (c * d) = prodL ((dimsA AX).take (j + 1))) := Lib.hid (by rw [hs, hw])
      have HB2 := Lib.hid (HBL.out.alloc HBL.out.size (.cells #[.int .i64 n, .int .i64 d, .int .i64 s] 85))
      clear h1 h2 hs hw hdj
      go_wp2
      go_roundw
      case rel => exact ⟨j + 1, _, by omega, by go_num, rfl, HC2, HB2⟩
      case measure => simp [intOf]; omega
    · obtain rfl : j = m := by omega
      have HE : Hid (c = r) := Lib.hid (by
        rw [HC.out, HR.out, List.take_of_length_le (by rw [dimsA_len, L1.out]; exact Nat.le_refl _)])
      go_wp2
      go_ret
      exact ⟨by rw [← HE.out]; rfl, HBL.out⟩
theorem count_impl {B : Nat} {v : Value} {AX : List AxE} {w : World} (hm2 : AX.length ≤ 1024) (hd : ∀ d ∈ dimsA AX, 1 ≤ d ∧ d ≤ 8) (hP : prodL (dimsA AX) ≤ 1073741824) (ha : RdA B w v AX) (hB : B ≤ w.heap.size) :
    Calls Tryz.prog 94 #[v] w fun e w' => e = .returned (.int .i64 (prodL (dimsA AX))) ∧ Below w.heap.size w w' := by
  obtain ⟨p, ca, rfl⟩ := ha.form
  exact count_full rfl hm2 hd hP ha hB
end Go.Proofs.YtgbmacppgaopfabGreat
namespace Go.Proofs.YtgbmacppgaopfabGreat
set_option maxRecDepth 20000
open Go.RowKit

theorem sizeI_ax {L D : List Int} (h : ¬ sizeI L D < 0) : AxesV L D ∧ 1 ≤ prodL D ∧ prodL D ≤ 4096 := by
  rcases sizeI_cases L D with ⟨h1, -⟩ | ⟨h1, h2, h3, h4⟩
  · omega
  · exact ⟨h2, h3, h4⟩
/-- What sumOver asks of a function value: an element in a row that is no row of the call's own of before. -/
def ClosF (w W : World) (xs : List Int) (e : Ending) (w' : World) : Prop :=
  (∃ b off cap, e = .returned (.slice (some ⟨b, off, none⟩) xs.length cap) ∧ (b < w.heap.size ∨ W.heap.size ≤ b) ∧ b < w'.heap.size ∧ xs.length ≤ cap ∧ ∀ i (h : i < xs.length), w'.cell? ⟨b, off + i, none⟩ = some (.int .i64 xs[i])) ∧ Below W.heap.size W w'
theorem ClosF.new {w W w' : World} {xs : List Int} {e : Ending} (h : NewRow W xs e w') (h0 : 0 < xs.length) : ClosF w W xs e w' := by
  obtain ⟨v, rfl, ho, hb⟩ := h
  have hlo := ho.lo
  rcases ho.rd.ints_cases with ⟨rfl, -⟩ | ⟨b, off, cap, rfl, hlt, hcap, hc⟩
  · simp at h0
  · exact ⟨⟨b, off, cap, rfl, .inr (hlo b rfl), hlt, hcap, hc⟩, hb⟩
theorem ClosF.rd {B : Nat} {w W w' : World} {v : Value} {xs : List Int} (h : Rd B w' v (ints xs)) (hB : B ≤ w.heap.size) (hb : Below W.heap.size W w') (hw : w.heap.size ≤ W.heap.size) (h0 : 0 < xs.length) : ClosF w W xs (.returned v) w' := by
  rcases h.ints_cases with ⟨rfl, -⟩ | ⟨b, off, cap, rfl, hlt, hcap, hc⟩
  · simp at h0
  · exact ⟨⟨b, off, cap, rfl, .inl (Nat.lt_of_lt_of_le hlt hB), Nat.lt_of_lt_of_le hlt (Nat.le_trans hB (Nat.le_trans hw hb.size)), hcap, hc⟩, hb⟩
/-- The row is read behind the call. -/
theorem rd_of_cells {w : World} {b off cap : Nat} {xs : List Int} (hb : b < w.heap.size) (hcap : xs.length ≤ cap) (hc : ∀ i (h : i < xs.length), w.cell? ⟨b, off + i, none⟩ = some (.int .i64 xs[i])) : Rd w.heap.size w (.slice (some ⟨b, off, none⟩) xs.length cap) (ints xs) := by
  refine .inr ⟨b, off, cap, by rw [ints_len], hb, by rw [ints_len]; exact hcap, fun i u hi => ?_⟩
  have hi2 : i < xs.length := by have := (List.getElem?_eq_some_iff.1 hi).1; rw [ints_len] at this; exact this
  rw [hc i hi2]
  unfold ints at hi
  rw [List.getElem?_map, List.getElem?_eq_getElem hi2] at hi
  exact hi
theorem accL_start (k p q : Int) (zf : Nat → Nat) (tf : Nat → List Int) (M : Nat) : repL (zeroL k p q) M = accL k p q zf tf M 0 := by
  show _ = gatherL (fun _ => zeroL k p q) M
  induction M with
  | zero => rfl
  | succ M ih => rw [repL_succ, ih, gather_succ]
theorem acc_small {k p q : Int} {zf : Nat → Nat} {tf : Nat → List Int} {M N n o wd : Nat} (hr : ringB k p q = true) (hw : widthI k q = (wd : Int)) (ht : ∀ m, m < N → ElemV k p q (tf m)) (hn : n ≤ N) (ho : o < M) {j : Nat} {a : Int} (hj : j < wd) (ha : (accL k p q zf tf M n)[o * wd + j]? = some a) : 0 ≤ a ∧ a ≤ 1048576 := by
  have h1 := acc_get (zf := zf) hr hw ht hn ho
  have h2 := accE_elem (zf := zf) hr ht n hn o
  have h3 : (getL wd (accL k p q zf tf M n) o)[j]? = some a := by
    unfold getL
    rw [List.getElem?_take_of_lt hj, List.getElem?_drop]; exact ha
  rw [h1] at h3
  have h4 := h2.2 a (List.mem_of_getElem? h3)
  have h5 := ring_top hr
  omega
theorem keep_snoc {J keep : List Int} {d : Int → Int} {j : Nat} {n : Int} (h : J[j]? = some n) (hn : n ∈ keep) : (keepL (J.take j) keep).map d ++ [d n] = (keepL (J.take (j + 1)) keep).map d := by
  rw [keep_yes h hn]; simp

theorem own_cap {w : World} {lo g n cap : Nat} {xs : List Value} (h : w.ownsRow lo 3 1 (.slice (some ⟨g, 0, none⟩) n cap) n xs) : n ≤ cap := by
  rcases h.2 with ⟨e, -⟩ | ⟨g', cap', cur, e, -, -, h1, h2, h3, h4⟩
  · cases e
  · cases e
    omega

/-- Labels and dimensions, however many. -/
def AxW (L D : List Int) : Prop := L.length ≤ 100 ∧ L.length = D.length ∧ (∀ x ∈ L, 0 ≤ x ∧ x ≤ 99) ∧ (∀ d ∈ D, 1 ≤ d ∧ d ≤ 8) ∧ L.Nodup
theorem AxesV.wide {L D : List Int} (h : AxesV L D) : AxW L D := ⟨by have := h.1; omega, h.2.1, h.2.2.1, h.2.2.2.1, h.2.2.2.2⟩
theorem mem_joinL {L L' : List Int} {n : Int} : n ∈ joinL L L' ↔ n ∈ L ∨ n ∈ L' := by
  unfold joinL restL
  simp only [List.mem_append, List.mem_filter, decide_eq_true_eq]
  constructor
  · rintro (h | ⟨h, -⟩)
    · exact .inl h
    · exact .inr h
  · rintro (h | h)
    · exact .inl h
    · by_cases hl : n ∈ L
      · exact .inl hl
      · exact .inr ⟨h, hl⟩
theorem nodup_joinL {L L' : List Int} (h : L.Nodup) (h' : L'.Nodup) : (joinL L L').Nodup := by
  unfold joinL restL
  rw [List.nodup_append]
  refine ⟨h, h'.filter _, fun a ha b hb => ?_⟩
  simp only [List.mem_filter, decide_eq_true_eq] at hb
  rintro rfl
  exact hb.2 ha
theorem nodup_short : ∀ {L M : List Int}, L.Nodup → (∀ x ∈ L, x ∈ M) → L.length ≤ M.length := by
  intro L
  induction L with
  | nil => intro M _ _; simp
  | cons x r ih =>
    intro M hn hs
    have hn' := List.nodup_cons.1 hn
    have hx := hs x (by simp)
    have h1 := ih (M := M.erase x) hn'.2 (fun y hy => (List.mem_erase_of_ne (show y ≠ x by rintro rfl; exact hn'.1 hy)).2 (hs y (by simp [hy])))
    rw [List.length_erase_of_mem hx] at h1
    have h2 := List.length_pos_of_mem hx
    simp only [List.length_cons]
    omega
/-- At most a hundred labels. -/
theorem nodup_100 {L : List Int} (hn : L.Nodup) (h : ∀ x ∈ L, 0 ≤ x ∧ x ≤ 99) : L.length ≤ 100 := by
  have h1 := nodup_short (M := (List.range 100).map fun n : Nat => (n : Int)) hn (fun x hx => by
    have := h x hx
    exact List.mem_map.2 ⟨x.toNat, List.mem_range.2 (by omega), by omega⟩)
  simpa using h1
theorem AxW.ints {L D : List Int} (h : AxW L D) : allI L := fun z hz => by
  have := h.2.2.1 z hz
  unfold inI
  omega
theorem AxW.join {J D J' D' : List Int} (h : AxW J D) (h' : AxW J' D') : AxW (joinL J J') (joinD J D J' D') := by
  have hn := nodup_joinL h.2.2.2.2 h'.2.2.2.2
  have hr : ∀ x ∈ joinL J J', 0 ≤ x ∧ x ≤ 99 := fun x hx => (mem_joinL.1 hx).elim (h.2.2.1 x) (h'.2.2.1 x)
  refine ⟨nodup_100 hn hr, ?_, hr, joinD_in h'.2.1 h.2.2.2.1 h'.2.2.2.1, hn⟩
  rw [← joinD_map h.2.2.2.2 h.2.1, List.length_map]
theorem join_ten_yes {B B' : Nat} {u v : Value} {L D L' D' : List Int} {w : World} (hax : AxW L D) (hax' : AxW L' D') (hf : FitV L D L' D') (ha : RdA B w u (axesL L D)) (hb : RdA B' w v (axesL L' D')) (hB : B ≤ w.heap.size) (hB' : B' ≤ w.heap.size) :
    Calls Tryz.prog 91 #[u, v] w fun e w' => ∃ x y, e = .returned (.tuple #[x, y, .bool true]) ∧ OwnA w' w.heap.size w'.heap.size x (axJ (joinL L L') (dimJ L D L' D') (stepI L D)) ∧ OwnA w' w.heap.size w'.heap.size y (axJ (joinL L L') (dimJ L D L' D') (stepI L' D')) ∧ Below w.heap.size w w' := by
  have hff := (fitF_fit (D := D) (D' := D') hax'.2.2.2.2).2 hf
  rw [axesL_map hax.2.2.2.2] at ha
  rw [axesL_map hax'.2.2.2.2] at hb
  refine (join_axes_impl (dimI L D) (stepI L D) (dimI L' D') (stepI L' D') hax.2.2.2.2 hax'.2.2.2.2 (by have := hax.1; omega) (by have := hax'.1; omega) ha hb hB hB').mono ?_
  rintro e w' (⟨-, x, y, rfl, h1, h2, h3⟩ | ⟨hn, -, -⟩)
  · rw [axF_axJ] at h1
    rw [axS_axJ hff] at h2
    exact ⟨x, y, rfl, h1, h2, h3⟩
  · exact absurd hff hn
theorem join_ten_no {B B' : Nat} {u v : Value} {L D L' D' : List Int} {w : World} (hax : AxW L D) (hax' : AxW L' D') (hf : ¬ FitV L D L' D') (ha : RdA B w u (axesL L D)) (hb : RdA B' w v (axesL L' D')) (hB : B ≤ w.heap.size) (hB' : B' ≤ w.heap.size) :
    Calls Tryz.prog 91 #[u, v] w fun e w' => e = .returned (.tuple #[nilV, nilV, .bool false]) ∧ Below w.heap.size w w' := by
  have hff := fun h => hf ((fitF_fit (D := D) (D' := D') hax'.2.2.2.2).1 h)
  rw [axesL_map hax.2.2.2.2] at ha
  rw [axesL_map hax'.2.2.2.2] at hb
  refine (join_axes_impl (dimI L D) (stepI L D) (dimI L' D') (stepI L' D') hax.2.2.2.2 hax'.2.2.2.2 (by have := hax.1; omega) (by have := hax'.1; omega) ha hb hB hB').mono ?_
  rintro e w' (⟨hy, -⟩ | ⟨-, rfl, h3⟩)
  · exact absurd hy hff
  · exact ⟨rfl, h3⟩
theorem dimJ_in {L D L' D' : List Int} (hax : AxW L D) (hax' : AxW L' D') : ∀ n ∈ joinL L L', 1 ≤ dimJ L D L' D' n ∧ dimJ L D L' D' n ≤ 8 := fun n hn => by
  have h := joinD_map (D := D) (L' := L') (D' := D') hax.2.2.2.2 hax.2.1
  have hm : dimJ L D L' D' n ∈ joinD L D L' D' := by rw [← h]; exact List.mem_map_of_mem hn
  exact joinD_in hax'.2.1 hax.2.2.2.1 hax'.2.2.2.1 _ hm
theorem prod_sub {A C : List Int} (h : A.Sublist C) (h1 : ∀ d ∈ C, 1 ≤ d) : prodL A ≤ prodL C := by
  induction h with
  | slnil => exact Int.le_refl _
  | cons a hs ih =>
    rename_i l1 l2
    rw [prodL_cons]
    have h2 := ih (fun d hd => h1 d (List.mem_cons_of_mem _ hd))
    have h3 := h1 a (by simp)
    have h4 := prodL_pos (D := l2) (fun d hd => h1 d (List.mem_cons_of_mem _ hd))
    have h5 := Int.mul_le_mul_of_nonneg_right h3 (show 0 ≤ prodL l2 by omega)
    omega
  | cons_cons a hs ih =>
    rw [prodL_cons, prodL_cons]
    have h2 := ih (fun d hd => h1 d (List.mem_cons_of_mem _ hd))
    have h3 := h1 a (by simp)
    exact Int.mul_le_mul_of_nonneg_left h2 (by omega)
theorem join_prod {L D L' D' : List Int} (hax : AxW L D) (hax' : AxW L' D') (hp : 1 ≤ prodL D ∧ prodL D ≤ 65536) (hp' : prodL D' ≤ 4096) : 1 ≤ prodL (joinD L D L' D') ∧ prodL (joinD L D L' D') ≤ 268435456 := by
  have h0 := prodL_pos (D := joinD L D L' D') (fun d hd => (joinD_in hax'.2.1 hax.2.2.2.1 hax'.2.2.2.1 d hd).1)
  refine ⟨h0, ?_⟩
  have h1 : (dimsVia L' D' (restL L L')).Sublist D' := by
    have h2 := (List.filter_sublist (p := fun n => decide (n ∉ L)) (l := L')).map (dimI L' D')
    rw [dimI_map hax'.2.2.2.2 hax'.2.1] at h2
    exact h2
  have h3 := prod_sub h1 (fun d hd => (hax'.2.2.2.1 d hd).1)
  have h4 := prodL_pos (D := dimsVia L' D' (restL L L')) (fun d hd => (hax'.2.2.2.1 d (h1.subset hd)).1)
  unfold joinD
  rw [prodL_app]
  exact Int.le_trans (Int.mul_le_mul hp.2 (show _ ≤ 4096 by omega) (by omega) (by omega)) (by omega)
theorem stepI_wide {L D : List Int} {P : Int} (hD : ∀ d ∈ D, 1 ≤ d) (hP : prodL D ≤ P) (n : Int) : 0 ≤ stepI L D n ∧ stepI L D n ≤ P := by
  have h0 := prodL_pos hD
  unfold stepI
  split
  · have h1 := prodL_pos (D := D.drop (L.idxOf n + 1)) (fun d hd => hD d (List.mem_of_mem_drop hd))
    have h2 := prod_sub (List.drop_sublist (L.idxOf n + 1) D) hD
    omega
  · omega
theorem joinA_pa {L D L' D' : List Int} {L1 D1 : List Int} (hax : AxW L D) (hax' : AxW L' D') (hD : ∀ d ∈ D1, 1 ≤ d) (hP1 : prodL D1 ≤ 65536) (hP : prodL (joinD L D L' D') ≤ 65536) : PA (axJ (joinL L L') (dimJ L D L' D') (stepI L1 D1)) :=
  axJ_pa (by have h1 := (hax.join hax').1; omega) (dimJ_in hax hax') (fun n _ => stepI_wide hD hP1 n) (by rw [joinD_map hax.2.2.2.2 hax.2.1]; exact hP)

/-- A source: a value of the type T behind the interface, with its axes and its elements, in a world and all that come of it. -/
structure SrcV (w : World) (T : TypeId) (x : Value) (Ka Ke : Nat) (k p q : Int) (J D : List Int) (N : Nat) (F : Nat → List Int) : Prop where
  ax : AxW J D
  n : prodL D = (N : Int)
  n1 : N ≤ 65536
  el : ∀ j, j < N → ElemV k p q (F j)
  m1 : ∀ (n : Nat) (W : World), (method (n + 1) T x "loop.example/g03211/impl.axes").run Tryz.prog W = .ok (Ka, x) W
  m2 : ∀ (n : Nat) (W : World), (method (n + 1) T x "loop.example/g03211/impl.elem").run Tryz.prog W = .ok (Ke, x) W
  m3 : ∀ (n : Nat) (W : World), (nilAhead (n + 1) T x "loop.example/g03211/impl.elem").run Tryz.prog W = .ok (some false) W
  c1 : ∀ W : World, (callFunc Ka #[x]).run Tryz.prog W = .ok (.enter Ka #[x]) W
  c2 : ∀ (W : World) (a b : Value), (callFunc Ke #[x, a, b]).run Tryz.prog W = .ok (.enter Ke #[x, a, b]) W
  axes : ∀ W, Below w.heap.size w W → 0 < W.heap.size → Calls Tryz.prog Ka #[x] W fun e W' => ∃ v, e = .returned v ∧ RdA W'.heap.size W' v (axesL J D) ∧ Below W.heap.size W W'
  elem : ∀ W j, j < N → Below w.heap.size w W → Calls Tryz.prog Ke #[x, ringV k p q, .int .i64 j] W (ClosF w W (F j))
theorem ClosF.later {w w0 W W' : World} {xs : List Int} {e : Ending} (h : ClosF w W xs e W') (hb : w.heap.size ≤ w0.heap.size) : ClosF w0 W xs e W' := by
  obtain ⟨⟨b, off, cap, he, hlt, h2, h3, h5⟩, h4⟩ := h
  exact ⟨⟨b, off, cap, he, hlt.elim (fun h => .inl (by omega)) .inr, h2, h3, h5⟩, h4⟩
theorem SrcV.later {w w0 : World} {T : TypeId} {x : Value} {Ka Ke : Nat} {k p q : Int} {J D : List Int} {N : Nat} {F : Nat → List Int} (h : SrcV w T x Ka Ke k p q J D N F) (hb : Below w.heap.size w w0) : SrcV w0 T x Ka Ke k p q J D N F :=
  ⟨h.ax, h.n, h.n1, h.el, h.m1, h.m2, h.m3, h.c1, h.c2, fun W hW => h.axes W (hb.trans (hW.mono hb.size)), fun W j hj hW => (h.elem W j hj (hb.trans (hW.mono hb.size))).mono fun _ _ hc => hc.later hb.size⟩
theorem ten_m1 (n : Nat) (x : Value) (w : World) : (method (n + 1) 28 x "loop.example/g03211/impl.axes").run Tryz.prog w = .ok (56, x) w := by kernel_rfl
theorem ten_m2 (n : Nat) (x : Value) (w : World) : (method (n + 1) 28 x "loop.example/g03211/impl.elem").run Tryz.prog w = .ok (53, x) w := by kernel_rfl
theorem ten_m3 (n : Nat) (x : Value) (w : World) : (nilAhead (n + 1) 28 x "loop.example/g03211/impl.elem").run Tryz.prog w = .ok (some false) w := by kernel_rfl
theorem ten_c1 (x : Value) (w : World) : (callFunc 56 #[x]).run Tryz.prog w = .ok (.enter 56 #[x]) w := by kernel_rfl
theorem ten_c2 (x a b : Value) (w : World) : (callFunc 53 #[x, a, b]).run Tryz.prog w = .ok (.enter 53 #[x, a, b]) w := by kernel_rfl
theorem join_m1 (n : Nat) (x : Value) (w : World) : (method (n + 1) 91 x "loop.example/g03211/impl.axes").run Tryz.prog w = .ok (179, x) w := by kernel_rfl
theorem join_m2 (n : Nat) (x : Value) (w : World) : (method (n + 1) 91 x "loop.example/g03211/impl.elem").run Tryz.prog w = .ok (180, x) w := by kernel_rfl
theorem join_m3 (n : Nat) (x : Value) (w : World) : (nilAhead (n + 1) 91 x "loop.example/g03211/impl.elem").run Tryz.prog w = .ok (some false) w := by kernel_rfl
theorem join_c1 (x : Value) (w : World) : (callFunc 179 #[x]).run Tryz.prog w = .ok (.enter 179 #[x]) w := by kernel_rfl
theorem join_c2 (x a b : Value) (w : World) : (callFunc 180 #[x, a, b]).run Tryz.prog w = .ok (.enter 180 #[x, a, b]) w := by kernel_rfl
/-- A valid tensor is a source. -/
theorem SrcV.ten {B wd N : Nat} {lv dv xv : Value} {k p q : Int} {L D X : List Int} {w : World} (ha : RdT B w lv dv xv L D X) (hB : B ≤ w.heap.size) (ht : tensorB k p q L D X = true) (hw : widthI k q = (wd : Int)) (hN : prodL D = (N : Int)) : SrcV w 28 (tenV lv dv xv) 56 53 k p q L D N (fun c => getL wd X c) := by
  have hf := TF.of ht
  obtain ⟨hax, hp⟩ := tensorB_axes ht
  have hsz := sizeI_ax (L := L) (D := D) (by omega)
  have hwd : (widthI k q).toNat = wd := by omega
  have hT := TenF.of ht hw
  have hr : ringB k p q = true := by unfold tensorB at ht; simp only [Bool.and_eq_true] at ht; exact ht.1.1.1
  have hw6 : 1 ≤ wd ∧ wd ≤ 6 := by have h1 := ring_width hr; omega
  have hN2 : (prodL D).toNat = N := by omega
  have hgl : ∀ j, j < N → j * wd + wd ≤ X.length := fun j hj => by
    have h1 := hT.lX
    rw [hN2] at h1
    have h2 := Nat.mul_le_mul_right wd (show j + 1 ≤ N by omega)
    rw [Nat.add_mul, Nat.one_mul] at h2
    omega
  refine ⟨hax.wide, hN, by omega, fun j hj => getL_elem hw hT.lX hT.wX (by rw [hN2]; exact hj), fun n W => ten_m1 n _ W, fun n W => ten_m2 n _ W, fun n W => ten_m3 n _ W, fun W => ten_c1 _ W, fun W a b => ten_c2 _ a b W, fun W hb h0 => ?_, fun W j hj hb => ?_⟩
  · refine (axes_impl (ha.below hb hB) (Nat.le_trans hB hb.size) h0 hax.2.1 hax.1 hax.2.2.2.1 (by omega)).mono ?_
    rintro e W' ⟨v, rfl, ho, hb2⟩
    exact ⟨v, rfl, (OwnA.rd ho).mono (Nat.le_refl _), hb2⟩
  · refine (elem_rd wd j (ha.below hb hB) (Nat.le_trans hB hb.size) hw hw6.1 hw6.2 (by omega) (hgl j hj)).mono ?_
    rintro e W' ⟨v, rfl, hv, hb2⟩
    exact ClosF.rd hv hB hb2 hb.size (by rw [getL_len (hgl j hj)]; exact hw6.1)
/-- The offsets of the joined indices in one of the two sources. -/
def offsJ (L D J JD : List Int) (N : Nat) : List Int := (List.range N).map fun c : Nat => (offJ L D J JD c : Int)
theorem offsJ_len (L D J JD : List Int) (N : Nat) : (offsJ L D J JD N).length = N := by simp [offsJ]
theorem offsJ_at {L D J JD : List Int} {N c : Nat} (hc : c < N) : (offsJ L D J JD N)[c]? = some (offJ L D J JD c : Int) := by
  unfold offsJ
  rw [List.getElem?_map, List.getElem?_range hc]; rfl
set_option maxHeartbeats 6400000 in
theorem join_elem {T1 T2 : TypeId} {x1 x2 vA vL vR : Value} {Ka1 Ke1 Ka2 Ke2 N N' j oa ob : Nat} {k p q : Int} {J D J' D' OL OR : List Int} {F F' : Nat → List Int} {w W : World} (hr : ringB k p q = true) (h1 : SrcV w T1 x1 Ka1 Ke1 k p q J D N F) (h2 : SrcV w T2 x2 Ka2 Ke2 k p q J' D' N' F')
    (hl : Rd w.heap.size w vL (ints OL)) (hrr : Rd w.heap.size w vR (ints OR)) (hja : OL[j]? = some (oa : Int)) (hjb : OR[j]? = some (ob : Int)) (hoa : oa < N) (hob : ob < N') (hb : Below w.heap.size w W) :
    Calls Tryz.prog 180 #[.agg #[vA, .iface T1 x1, .iface T2 x2, vL, vR], ringV k p q, .int .i64 j] W (NewRow W (timesL k p (F oa) (F' ob))) := by
  have HR := Lib.hid hr
  have HX := Lib.hid (h1.el oa hoa)
  have HY := Lib.hid (h2.el ob hob)
  have hw0 : w.heap.size ≤ W.heap.size := hb.size
  obtain ⟨al, cl, rfl, -⟩ := ints_form hl
  obtain ⟨ar, cr, rfl, -⟩ := ints_form hrr
  have hll := (List.getElem?_eq_some_iff.1 hja).1
  have hlr := (List.getElem?_eq_some_iff.1 hjb).1
  obtain ⟨gl, fl, rfl, hgl, eL⟩ := hl.cellAt hja
  obtain ⟨gr, fr, rfl, hgr, eR⟩ := hrr.cellAt hjb
  generalize OL.length = nl at hll ⊢
  generalize OR.length = nr at hlr ⊢
  obtain ⟨W2, hW2⟩ : ∃ V, V = (W.alloc (.cells #[vA, .iface T1 x1, .iface T2 x2, .slice (some ⟨gl, fl, none⟩) nl cl, .slice (some ⟨gr, fr, none⟩) nr cr] 91)).alloc (.cells #[.int .i64 k, .int .i64 p, .int .i64 q] 24) := ⟨_, rfl⟩
  have hB2 : Below W.heap.size W W2 := by rw [hW2]; exact ((Below.refl _ W).alloc (Nat.le_refl _) _).alloc (by simp) _
  have hz2 : W2.heap.size = W.heap.size + 1 + 1 := by rw [hW2]; simp
  have hcells : (W2.cell? ⟨W.heap.size, 1, none⟩ = some (.iface T1 x1) ∧ W2.cell? ⟨W.heap.size, 2, none⟩ = some (.iface T2 x2) ∧ W2.cell? ⟨W.heap.size, 3, none⟩ = some (.slice (some ⟨gl, fl, none⟩) nl cl) ∧ W2.cell? ⟨W.heap.size, 4, none⟩ = some (.slice (some ⟨gr, fr, none⟩) nr cr)) ∧ (W2.cell? ⟨W.heap.size + 1, 0, none⟩ = some (.int .i64 k) ∧ W2.cell? ⟨W.heap.size + 1, 1, none⟩ = some (.int .i64 p) ∧ W2.cell? ⟨W.heap.size + 1, 2, none⟩ = some (.int .i64 q)) ∧ W2.cell? ⟨gl, fl + j, none⟩ = some (.int .i64 oa) ∧ W2.cell? ⟨gr, fr + j, none⟩ = some (.int .i64 ob) := by
    have hb3 := hb.trans (hB2.mono hw0)
    refine ⟨⟨?_, ?_, ?_, ?_⟩, ⟨?_, ?_, ?_⟩, (hb3.cell (p := ⟨gl, _, none⟩) hgl).trans eL, (hb3.cell (p := ⟨gr, _, none⟩) hgr).trans eR⟩
    all_goals rw [hW2]; simp [World.cell?_alloc_at]
  have HC : Hid (∀ V, Below W2.heap.size W2 V → (V.cell? ⟨W.heap.size, 1, none⟩ = some (.iface T1 x1) ∧ V.cell? ⟨W.heap.size, 2, none⟩ = some (.iface T2 x2) ∧ V.cell? ⟨W.heap.size, 3, none⟩ = some (.slice (some ⟨gl, fl, none⟩) nl cl) ∧ V.cell? ⟨W.heap.size, 4, none⟩ = some (.slice (some ⟨gr, fr, none⟩) nr cr) ∧ V.cell? ⟨W.heap.size + 1, 0, none⟩ = some (.int .i64 k) ∧ V.cell? ⟨W.heap.size + 1, 1, none⟩ = some (.int .i64 p) ∧ V.cell? ⟨W.heap.size + 1, 2, none⟩ = some (.int .i64 q) ∧ V.cell? ⟨gl, fl + j, none⟩ = some (.int .i64 oa) ∧ V.cell? ⟨gr, fr + j, none⟩ = some (.int .i64 ob))) := Lib.hid (fun V hV => by
    obtain ⟨⟨a1, a2, a3, a4⟩, ⟨r0, r1, r2⟩, c1, c2⟩ := hcells
    exact ⟨(hV.cell (p := ⟨W.heap.size, 1, none⟩) (by show W.heap.size < _; omega)).trans a1, (hV.cell (p := ⟨W.heap.size, 2, none⟩) (by show W.heap.size < _; omega)).trans a2, (hV.cell (p := ⟨W.heap.size, 3, none⟩) (by show W.heap.size < _; omega)).trans a3, (hV.cell (p := ⟨W.heap.size, 4, none⟩) (by show W.heap.size < _; omega)).trans a4, (hV.cell (p := ⟨W.heap.size + 1, 0, none⟩) (by show W.heap.size + 1 < _; omega)).trans r0, (hV.cell (p := ⟨W.heap.size + 1, 1, none⟩) (by show W.heap.size + 1 < _; omega)).trans r1, (hV.cell (p := ⟨W.heap.size + 1, 2, none⟩) (by show W.heap.size + 1 < _; omega)).trans r2, (hV.cell (p := ⟨gl, _, none⟩) (by show gl < _; omega)).trans c1, (hV.cell (p := ⟨gr, _, none⟩) (by show gr < _; omega)).trans c2⟩)
  have HE1 := Lib.hid (fun (V : World) (hV : Below W2.heap.size W2 V) => h1.elem V oa hoa (hb.trans ((hB2.trans (hV.mono hB2.size)).mono hw0)))
  have HE2 := Lib.hid (fun (V : World) (hV : Below W2.heap.size W2 V) => h2.elem V ob hob (hb.trans ((hB2.trans (hV.mono hB2.size)).mono hw0)))
  have hq1 : ∀ (n : Nat) (W : World), 0 < n → (method n T1 x1 "loop.example/g03211/impl.elem").run Tryz.prog W = .ok (Ke1, x1) W := fun n W h => by
    obtain ⟨n', rfl⟩ : ∃ n', n = n' + 1 := ⟨n - 1, by omega⟩
    exact h1.m2 n' W
  have hq2 : ∀ (n : Nat) (W : World), 0 < n → (method n T2 x2 "loop.example/g03211/impl.elem").run Tryz.prog W = .ok (Ke2, x2) W := fun n W h => by
    obtain ⟨n', rfl⟩ : ∃ n', n = n' + 1 := ⟨n - 1, by omega⟩
    exact h2.m2 n' W
  have hn1 : ∀ (n : Nat) (W : World), 0 < n → (nilAhead n T1 x1 "loop.example/g03211/impl.elem").run Tryz.prog W = .ok (some false) W := fun n W h => by
    obtain ⟨n', rfl⟩ : ∃ n', n = n' + 1 := ⟨n - 1, by omega⟩
    exact h1.m3 n' W
  have hn2 : ∀ (n : Nat) (W : World), 0 < n → (nilAhead n T2 x2 "loop.example/g03211/impl.elem").run Tryz.prog W = .ok (some false) W := fun n W h => by
    obtain ⟨n', rfl⟩ : ∃ n', n = n' + 1 := ⟨n - 1, by omega⟩
    exact h2.m3 n' W
  have hc1 := h1.c2
  have hc2 := h2.c2
  obtain ⟨E1, hx⟩ : ∃ l, l = F oa := ⟨_, rfl⟩
  obtain ⟨E2, hy⟩ : ∃ l, l = F' ob := ⟨_, rfl⟩
  rw [← hx] at HX HE1 ⊢
  rw [← hy] at HY HE2 ⊢
  have HB0 := Lib.hid hB2
  have HB1 := Lib.hid ((Below.refl W2.heap.size W2).drew)
  have HZ2 := Lib.hid hz2
  have HSW := Lib.hid hw0
  clear h1 h2 hl hrr hja hjb hoa hob hb hr hcells hB2 hz2 hgl hgr eL eR hx hy hw0
  obtain ⟨a1, a2, a3, a4, r0, r1, r2, c1, c2⟩ := HC.out _ HB1.out
  go_enter Tryz.func180, Tryz.ntmps180
  go_wp2
  rw [← hW2]
  clear hW2
  have TK1 : True := trivial
  have TK2 : True := trivial
  go_region_held3 (fun V => (V.cell? ⟨W.heap.size, 1, none⟩ = some (.iface T1 x1) ∧ V.cell? ⟨W.heap.size, 2, none⟩ = some (.iface T2 x2) ∧ V.cell? ⟨W.heap.size, 3, none⟩ = some (.slice (some ⟨gl, fl, none⟩) nl cl) ∧ V.cell? ⟨W.heap.size, 4, none⟩ = some (.slice (some ⟨gr, fr, none⟩) nr cr) ∧ V.cell? ⟨W.heap.size + 1, 0, none⟩ = some (.int .i64 k) ∧ V.cell? ⟨W.heap.size + 1, 1, none⟩ = some (.int .i64 p) ∧ V.cell? ⟨W.heap.size + 1, 2, none⟩ = some (.int .i64 q) ∧ V.cell? ⟨gl, fl + j, none⟩ = some (.int .i64 oa) ∧ V.cell? ⟨gr, fr + j, none⟩ = some (.int .i64 ob))) (exact ⟨a1, a2, a3, a4, r0, r1, r2, c1, c2⟩) (first
    | (have _t := TK1; refine (HE1.out _ HB1.out).mono ?_; rintro e w3 ⟨⟨b1, o1, k1, rfl, -, l1, m1, v1⟩, hb⟩; have RX := Lib.hid (rd_of_cells l1 m1 v1); have HB2 := Lib.hid (HB1.out.trans (hb.mono HB1.out.size)); clear hb l1 m1 v1 TK1 _t; clear a1 a2 a3 a4 r0 r1 r2 c1 c2; obtain ⟨a1, a2, a3, a4, r0, r1, r2, c1, c2⟩ := HC.out _ HB2.out)
    | (have _t := TK2; refine (HE2.out _ HB2.out).mono ?_; rintro e w4 ⟨⟨b2, o2, k2, rfl, -, l2, m2, v2⟩, hb⟩; have RY := Lib.hid (rd_of_cells l2 m2 v2); have RX4 := Lib.hid ((RX.out.below hb (Nat.le_refl _)).mono hb.size); have HB3 := Lib.hid (HB2.out.trans (hb.mono HB2.out.size)); clear hb l2 m2 v2 TK2 _t; clear a1 a2 a3 a4 r0 r1 r2 c1 c2; obtain ⟨a1, a2, a3, a4, r0, r1, r2, c1, c2⟩ := HC.out _ HB3.out)
    | (go_at_call 71; refine (times_impl HR.out RX4.out RY.out (Nat.le_refl _) HX.out HY.out).mono ?_; rintro e w5 ⟨v3, rfl, ho, hb⟩; have HO := Lib.hid ((OwnG.one ho).wide (Nat.le_trans HB0.out.size HB3.out.size) (Nat.le_refl _) (Nat.le_refl _)).row; have HB4 := Lib.hid (HB3.out.trans (hb.mono HB3.out.size)); clear ho hb; clear a1 a2 a3 a4 r0 r1 r2 c1 c2; obtain ⟨a1, a2, a3, a4, r0, r1, r2, c1, c2⟩ := HC.out _ HB4.out))
  clear a1 a2 a3 a4 r0 r1 r2 c1 c2
  go_wp2
  go_ret
  exact ⟨_, rfl, HO.out, HB0.out.trans (HB4.out.mono HB0.out.size)⟩
/-- A box of five cells. -/
structure B5 (W : World) (r : Nat) (a b c d e : Value) : Prop where
  c0 : W.cell? ⟨r, 0, none⟩ = some a
  c1 : W.cell? ⟨r, 1, none⟩ = some b
  c2 : W.cell? ⟨r, 2, none⟩ = some c
  c3 : W.cell? ⟨r, 3, none⟩ = some d
  c4 : W.cell? ⟨r, 4, none⟩ = some e
  fr : ∀ j, W.frozen? ⟨r, j, none⟩ = false
  lt : r < W.heap.size
theorem B5.new (W : World) (a b c d e : Value) (T : TypeId) : B5 (W.alloc (.cells #[a, b, c, d, e] T)) W.heap.size a b c d e :=
  ⟨by simp [World.cell?_alloc_at], by simp [World.cell?_alloc_at], by simp [World.cell?_alloc_at], by simp [World.cell?_alloc_at], by simp [World.cell?_alloc_at], fun j => by simp, by simp⟩
theorem B5.kept {W W' : World} {r : Nat} {a b c d e : Value} {row : Option Nat} (h : B5 W r a b c d e) (hg : W.grownBy W' row) (hr : row ≠ some r) : B5 W' r a b c d e := by
  have hb := hg.block r h.lt (fun e => hr e.symm)
  exact ⟨(World.cell?_of_block (w := W) hb).trans h.c0, (World.cell?_of_block (w := W) hb).trans h.c1, (World.cell?_of_block (w := W) hb).trans h.c2, (World.cell?_of_block (w := W) hb).trans h.c3, (World.cell?_of_block (w := W) hb).trans h.c4,
    fun j => (World.frozen?_of_block (w := W) (a := ⟨r, j, none⟩) hb).trans (h.fr j), Nat.lt_of_lt_of_le h.lt hg.size⟩
theorem B5.step {W W' : World} {r : Nat} {a b c d e : Value} (h : B5 W r a b c d e) (hb : Below W.heap.size W W') : B5 W' r a b c d e :=
  h.kept (row := none) ⟨hb.os, hb.tape, hb.output, hb.size, fun k hk _ => hb.block k hk⟩ (fun e => by cases e)
theorem gb_cell (W : World) (p : Addr) (u : Value) : W.grownBy (W.setCell p u) (some p.block) :=
  ⟨rfl, rfl, rfl, by simp, fun k _ hr => Below.heap_setCell W p u k (fun e => hr (by rw [e]))⟩
theorem gb_of_below {W W' : World} (h : Below W.heap.size W W') : W.grownBy W' none := ⟨h.os, h.tape, h.output, h.size, fun k hk _ => h.block k hk⟩
theorem B5.first {W : World} {r : Nat} {a b c d e : Value} (h : B5 W r a b c d e) (u : Value) : B5 (W.setCell ⟨r, 0, none⟩ u) r u b c d e :=
  ⟨World.cell?_setCell_same W _ _ h.c0, (World.cell?_setCell_other W _ _ _ (by intro q; injection q with _ q; cases q)).trans h.c1, (World.cell?_setCell_other W _ _ _ (by intro q; injection q with _ q; cases q)).trans h.c2, (World.cell?_setCell_other W _ _ _ (by intro q; injection q with _ q; cases q)).trans h.c3, (World.cell?_setCell_other W _ _ _ (by intro q; injection q with _ q; cases q)).trans h.c4, fun j => by rw [World.frozen?_setCell]; exact h.fr j, by simpa using h.lt⟩
/-- A store into the five cells of a box. -/
def put5 (W : World) (r : Nat) (a b c d e : Value) : World := ((((W.setCell ⟨r, 0, none⟩ a).setCell ⟨r, 1, none⟩ b).setCell ⟨r, 2, none⟩ c).setCell ⟨r, 3, none⟩ d).setCell ⟨r, 4, none⟩ e
theorem gb_put5 (W : World) (r : Nat) (a b c d e : Value) : W.grownBy (put5 W r a b c d e) (some r) :=
  gb_set (gb_set (gb_set (gb_set (gb_cell W ⟨r, 0, none⟩ a) ⟨r, 1, none⟩ (.inl rfl) b) ⟨r, 2, none⟩ (.inl rfl) c) ⟨r, 3, none⟩ (.inl rfl) d) ⟨r, 4, none⟩ (.inl rfl) e
theorem OwnA.kept {w w' : World} {lo hi : Nat} {v : Value} {AX : List AxE} {row : Option Nat} (h : OwnA w lo hi v AX) (hg : w.grownBy w' row) (hne : ∀ g, row = some g → g < lo ∨ hi ≤ g) : OwnA w' lo hi v AX :=
  ⟨h.1.kept (row := row) hg (by
    cases hv : v.ownBlock with
    | none => exact .inl rfl
    | some g =>
      refine .inr fun e => ?_
      have h1 := h.2.1 g hv
      have h2 := (h.1.lt g hv).1
      rcases hne g e.symm with h3 | h3 <;> omega), h.2.1, Nat.le_trans h.2.2 hg.size⟩
/-- What joinOf answers. -/
def JoinO (w : World) (T1 T2 : TypeId) (x1 x2 : Value) (J D J' D' : List Int) (e : Ending) (w' : World) : Prop :=
  (FitV J D J' D' ∧ prodL (joinD J D J' D') ≤ 65536 ∧ ∃ vA vL vR, e = .returned (.tuple #[.agg #[vA, .iface T1 x1, .iface T2 x2, vL, vR], .bool true]) ∧ RdA w'.heap.size w' vA (axesL (joinL J J') (joinD J D J' D')) ∧
    Rd w'.heap.size w' vL (ints (offsJ J D (joinL J J') (joinD J D J' D') (prodL (joinD J D J' D')).toNat)) ∧ Rd w'.heap.size w' vR (ints (offsJ J' D' (joinL J J') (joinD J D J' D') (prodL (joinD J D J' D')).toNat)) ∧ Below w.heap.size w w') ∨
  (¬ (FitV J D J' D' ∧ prodL (joinD J D J' D') ≤ 65536) ∧ e = .returned (.tuple #[.agg #[nilV, .nilIface, .nilIface, nilV, nilV], .bool false]) ∧ Below w.heap.size w w')
set_option maxHeartbeats 6400000 in
theorem join_of {T1 T2 : TypeId} {x1 x2 : Value} {Ka1 Ke1 Ka2 Ke2 N N' : Nat} {k p q : Int} {J D J' D' : List Int} {F F' : Nat → List Int} {w : World} (h1 : SrcV w T1 x1 Ka1 Ke1 k p q J D N F) (h2 : SrcV w T2 x2 Ka2 Ke2 k p q J' D' N' F') (hN : N' ≤ 4096) :
    Calls Tryz.prog 60 #[.iface T1 x1, .iface T2 x2] w (JoinO w T1 T2 x1 x2 J D J' D') := by
  have HA1 := Lib.hid h1.ax
  have HA2 := Lib.hid h2.ax
  have HP1 := Lib.hid (And.intro h1.n h1.n1)
  have HP2 := Lib.hid (And.intro h2.n hN)
  have HX1 := Lib.hid h1.axes
  have HX2 := Lib.hid h2.axes
  have hq1 : ∀ (n : Nat) (W : World), 0 < n → (method n T1 x1 "loop.example/g03211/impl.axes").run Tryz.prog W = .ok (Ka1, x1) W := fun n W h => by
    obtain ⟨n', rfl⟩ : ∃ n', n = n' + 1 := ⟨n - 1, by omega⟩
    exact h1.m1 n' W
  have hq2 : ∀ (n : Nat) (W : World), 0 < n → (method n T2 x2 "loop.example/g03211/impl.axes").run Tryz.prog W = .ok (Ka2, x2) W := fun n W h => by
    obtain ⟨n', rfl⟩ : ∃ n', n = n' + 1 := ⟨n - 1, by omega⟩
    exact h2.m1 n' W
  have hc1 := h1.c1
  have hc2 := h2.c1
  clear h1 h2 hN
  obtain ⟨W0, hW0⟩ : ∃ V, V = w.alloc (.cells #[nilV, .nilIface, .nilIface, nilV, nilV] 91) := ⟨_, rfl⟩
  have X0 : Hid (B5 W0 w.heap.size nilV .nilIface .nilIface nilV nilV) := Lib.hid (by rw [hW0]; exact B5.new _ _ _ _ _ _ _)
  have B0 : Hid (Below w.heap.size w W0) := Lib.hid (by rw [hW0]; exact (Below.refl _ _).alloc (Nat.le_refl _) _)
  go_enter Tryz.func60, Tryz.ntmps60
  go_wp2_with fail
  rw [← hW0]
  clear hW0
  refine (HX1.out _ B0.out (Nat.lt_of_le_of_lt (Nat.zero_le _) X0.out.lt)).mono ?_
  rintro e w1 ⟨v1, rfl, ra1, hb⟩
  have X1 := Lib.hid (X0.out.step hb)
  have B1 := Lib.hid (B0.out.trans (hb.mono B0.out.size))
  clear hb X0 B0
  go_wp2_with fail
  refine (HX2.out _ B1.out (Nat.lt_of_le_of_lt (Nat.zero_le _) X1.out.lt)).mono ?_
  rintro e w2 ⟨v2, rfl, ra2, hb⟩
  have X2 := Lib.hid (X1.out.step hb)
  have B2 := Lib.hid (B1.out.trans (hb.mono B1.out.size))
  have RA1 := Lib.hid ((ra1.below hb (Nat.le_refl _)).mono hb.size)
  have RA2 := Lib.hid ra2
  clear hb X1 B1 ra1 ra2 HX1 HX2 hq1 hq2 hc1 hc2
  by_cases hf : FitV J D J' D'
  · have HJ := Lib.hid (HA1.out.join HA2.out)
    have HF := Lib.hid hf
    have hjp := join_prod HA1.out HA2.out ⟨prodL_pos (fun d hd => (HA1.out.2.2.2.1 d hd).1), by rw [HP1.out.1]; have := HP1.out.2; omega⟩ (by rw [HP2.out.1]; have := HP2.out.2; omega)
    have hjd := joinD_map (D := D) (L' := J') (D' := D') HA1.out.2.2.2.2 HA1.out.2.1
    have HS1 := Lib.hid (SubAx.left (L' := J') (D' := D') HA1.out.2.2.2.2 HA1.out.2.1)
    have HS2 := Lib.hid (SubAx.right HA1.out.2.1 HA2.out.2.2.2.2 HA2.out.2.1 hf)
    have HJN := Lib.hid (join_ten_yes HA1.out HA2.out hf RA1.out RA2.out (Nat.le_refl _) (Nat.le_refl _))
    have HPA1 : prodL (joinD J D J' D') ≤ 65536 → PA (axJ (joinL J J') (dimJ J D J' D') (stepI J D)) := fun h => joinA_pa HA1.out HA2.out (fun d hd => (HA1.out.2.2.2.1 d hd).1) (by rw [HP1.out.1]; have := HP1.out.2; omega) h
    have HPA2 : prodL (joinD J D J' D') ≤ 65536 → PA (axJ (joinL J J') (dimJ J D J' D') (stepI J' D')) := fun h => joinA_pa HA1.out HA2.out (fun d hd => (HA2.out.2.2.2.1 d hd).1) (by rw [HP2.out.1]; have := HP2.out.2; omega) h
    have HOF1 : Hid (offsA (axJ (joinL J J') (dimJ J D J' D') (stepI J D)) = offsJ J D (joinL J J') (joinD J D J' D') (prodL (joinD J D J' D')).toNat) := Lib.hid (offs_steps HS1.out hjd HJ.out.2.2.2.2 (fun d hd => (HA1.out.2.2.2.1 d hd).1) (fun d hd => (HJ.out.2.2.2.1 d hd).1))
    have HOF2 : Hid (offsA (axJ (joinL J J') (dimJ J D J' D') (stepI J' D')) = offsJ J' D' (joinL J J') (joinD J D J' D') (prodL (joinD J D J' D')).toNat) := Lib.hid (offs_steps HS2.out hjd HJ.out.2.2.2.2 (fun d hd => (HA2.out.2.2.2.1 d hd).1) (fun d hd => (HJ.out.2.2.2.1 d hd).1))
    have HPA := Lib.hid (And.intro HPA1 HPA2)
    have HDM : Hid (dimsA (axJ (joinL J J') (dimJ J D J' D') (stepI J D)) = joinD J D J' D') := Lib.hid (by rw [axJ_dims, hjd])
    have HDI := Lib.hid (dimJ_in HA1.out HA2.out)
    have HJD := Lib.hid hjd
    clear hf hjd HPA1 HPA2
    go_wp2_with fail
    refine HJN.out.mono ?_
    rintro e w3 ⟨vF, vS, rfl, oF, oS, hb⟩
    have X3 := Lib.hid (X2.out.step hb)
    have B3 := Lib.hid (B2.out.trans (hb.mono B2.out.size))
    have hlo := B2.out.size
    have hz23 := hb.size
    have hrb := X2.out.lt
    have HCT := Lib.hid (count_impl (by rw [axJ_len]; have := HJ.out.1; omega) (by rw [HDM.out]; exact HJ.out.2.2.2.1) (by rw [HDM.out]; omega) oF.rd (Nat.le_refl _))
    rw [HDM.out] at HCT
    have OF := Lib.hid oF
    have OS := Lib.hid oS
    obtain ⟨pj, hpj⟩ : ∃ z, z = prodL (joinD J D J' D') := ⟨_, rfl⟩
    rw [← hpj] at HCT hjp
    have HPJ := Lib.hid hpj
    clear hb oF oS HJN RA1 RA2 X2 B2
    go_wp2_with fail
    refine HCT.out.mono ?_
    rintro e w4 ⟨rfl, hb⟩
    have X4 := Lib.hid (X3.out.step hb)
    have B4 := Lib.hid (B3.out.trans (hb.mono B3.out.size))
    have OF4 := Lib.hid (OF.out.kept (gb_of_below hb) (fun g e => by cases e))
    have OS4 := Lib.hid (OS.out.kept (gb_of_below hb) (fun g e => by cases e))
    have hz34 := hb.size
    clear hb X3 B3 OF OS HCT hpj
    by_cases hp : 65536 < pj
    · have q1 : decide ((65536 : Int) < pj) = true := by simpa using hp
      obtain ⟨t0, t1, t2, t3, t4, tf, -⟩ := X4.out
      have f0 := tf 0
      have f1 := tf 1
      have f2 := tf 2
      have f3 := tf 3
      have f4 := tf 4
      clear tf
      go_wp2
      refine bodyPost_ret (v := .tuple #[.agg #[nilV, .nilIface, .nilIface, nilV, nilV], .bool false]) (by simp [results, Tryz.results60, go_sem, t0, t1, t2, t3, t4]) rfl ?_
      exact .inr ⟨fun h => by have := h.2; rw [← HPJ.out] at this; omega, rfl, ((((B4.out.setCell (p := ⟨w.heap.size, 0, none⟩) (Nat.le_refl _) _).setCell (p := ⟨w.heap.size, 1, none⟩) (Nat.le_refl _) _).setCell (p := ⟨w.heap.size, 2, none⟩) (Nat.le_refl _) _).setCell (p := ⟨w.heap.size, 3, none⟩) (Nat.le_refl _) _).setCell (p := ⟨w.heap.size, 4, none⟩) (Nat.le_refl _) _⟩
    · have q1 : decide ((65536 : Int) < pj) = false := by simpa using hp
      have hpl : prodL (joinD J D J' D') ≤ 65536 := by rw [← HPJ.out]; omega
      have HQ1 := Lib.hid (offsets_impl (HPA.out.1 hpl) (OF4.out.rd.mono hz34) (Nat.le_refl _))
      have HQ2 := Lib.hid (fun (W : World) (hb : Below w4.heap.size w4 W) => offsets_impl (HPA.out.2 hpl) ((OS4.out.rd.mono hz34).below hb (Nat.le_refl _)) hb.size)
      rw [HOF1.out] at HQ1
      rw [HOF2.out] at HQ2
      have HPL := Lib.hid hpl
      clear hpl
      go_wp2_with fail
      refine HQ1.out.mono ?_
      rintro e w5 ⟨vL, rfl, oL, hb⟩
      have X5 := Lib.hid (X4.out.step hb)
      have B5' := Lib.hid (B4.out.trans (hb.mono B4.out.size))
      have OF5 := Lib.hid (OF4.out.kept (gb_of_below hb) (fun g e => by cases e))
      have OL5 := Lib.hid oL
      have hz45 := hb.size
      have HB45 := Lib.hid hb
      clear hb oL X4 B4 OF4 HQ1
      go_wp2_with fail
      refine (HQ2.out _ HB45.out).mono ?_
      rintro e w6 ⟨vR, rfl, oR, hb⟩
      have X6 := Lib.hid (X5.out.step hb)
      have B6 := Lib.hid (B5'.out.trans (hb.mono B5'.out.size))
      have OF6 := Lib.hid (OF5.out.kept (gb_of_below hb) (fun g e => by cases e))
      have OL6 := Lib.hid (OL5.out.kept (gb_of_below hb) (fun g e => by cases e))
      have OR6 := Lib.hid oR
      have hz56 := hb.size
      clear hb oR X5 B5' OF5 OL5 HQ2 HB45 OS4
      obtain ⟨nP, hnP⟩ : ∃ n, n = (prodL (joinD J D J' D')).toNat := ⟨_, rfl⟩
      rw [← hnP] at OL6 OR6
      have HNP := Lib.hid hnP
      obtain ⟨aL, cL, rfl, -⟩ := ints_form OL6.out.rd
      obtain ⟨aR, cR, rfl, -⟩ := ints_form OR6.out.rd
      simp only [offsJ_len] at OL6 OR6 ⊢
      clear hnP
      have hxl := OF6.out.rd.form
      obtain ⟨aF, cF, rfl⟩ := hxl
      obtain ⟨mF, hmF⟩ : ∃ m, m = (axJ (joinL J J') (dimJ J D J' D') (stepI J D)).length := ⟨_, rfl⟩
      have hml : (joinL J J').length = mF := by rw [hmF, axJ_len]
      have hmd : (joinD J D J' D').length = mF := by rw [← hml]; exact HJ.out.2.1.symm
      rw [← hmF] at OF6 ⊢
      obtain ⟨W7, hW7⟩ : ∃ V, V = w6.alloc (.cells #[nilV, .iface T1 x1, .iface T2 x2, .slice aL nP cL, .slice aR nP cR] 91) := ⟨_, rfl⟩
      have hb67 : Below w6.heap.size w6 W7 := by rw [hW7]; exact (Below.refl _ _).alloc (Nat.le_refl _) _
      have Y7 : Hid (B5 W7 w6.heap.size nilV (.iface T1 x1) (.iface T2 x2) (.slice aL nP cL) (.slice aR nP cR)) := Lib.hid (by rw [hW7]; exact B5.new _ _ _ _ _ _ _)
      have X7 := Lib.hid (X6.out.step hb67)
      have B7 := Lib.hid (B6.out.trans (hb67.mono B6.out.size))
      have OF7 := Lib.hid (OF6.out.kept (gb_of_below hb67) (fun g e => by cases e))
      have OL7 := Lib.hid (OL6.out.kept (gb_of_below hb67) (fun g e => by cases e))
      have OR7 := Lib.hid (OR6.out.kept (gb_of_below hb67) (fun g e => by cases e))
      have how := OF7.out.1
      rw [← hmF] at how
      have HST := Lib.hid (set_strides (lo := w2.heap.size) hml hmd (by have := HJ.out.1; omega) (Nat.lt_of_le_of_lt (Nat.zero_le _) X7.out.lt) (fun d hd => (HJ.out.2.2.2.1 d hd).1) (by have := HPL.out; omega) how (fun i n d hn hd => by
        have h1 : (axJ (joinL J J') (dimJ J D J' D') (stepI J D))[i]? = some (n, dimJ J D J' D' n, stepI J D n) := by unfold axJ; rw [List.getElem?_map, hn]; rfl
        have h2 : dimJ J D J' D' n = d := by
          have h3 := hd
          rw [← HJD.out, List.getElem?_map, hn] at h3
          exact Option.some.inj h3
        have h4 := cellsA_at h1
        rw [← h2]
        exact ⟨h4.1, h4.2.1, _, h4.2.2⟩))
      have HMM := Lib.hid (And.intro hml hmF)
      have HBF := Lib.hid OF7.out.2.1
      have HLF := Lib.hid (fun g hg => (how.lt g hg).1)
      clear how hml hmd hb67 OF6 OL6 OR6 X6 B6 hmF
      go_wp2_with fail
      rw [← hW7]
      clear hW7
      refine HST.out.mono ?_
      rintro e w8 ⟨rfl, ho, hg⟩
      have hnb : (Value.slice aF mF cF).ownBlock ≠ some w.heap.size := fun e => by have := HLF.out _ e; omega
      have hnb2 : (Value.slice aF mF cF).ownBlock ≠ some w6.heap.size := fun e => by have := HBF.out _ e; omega
      have X8 := Lib.hid (X7.out.kept hg hnb)
      have Y8 := Lib.hid (Y7.out.kept hg hnb2)
      have OL8 := Lib.hid (OL7.out.kept hg (fun g e => by have := HBF.out g e; left; omega))
      have OR8 := Lib.hid (OR7.out.kept hg (fun g e => by have := HBF.out g e; left; omega))
      have B8 := Lib.hid (B7.out.grown hg B7.out.size (fun g e => by have := HLF.out g e; omega))
      have OA8 : Hid (OwnA w8 w2.heap.size w3.heap.size (.slice aF mF cF) (axesL (joinL J J') (joinD J D J' D'))) := Lib.hid ⟨by rw [axesL_len, HMM.out.1]; exact ho, HBF.out, by have := (OF7.out.2.2); have := hg.size; omega⟩
      clear ho hg hnb hnb2 X7 Y7 OL7 OR7 B7 OF7 HST
      obtain ⟨t0, t1, t2, t3, t4, tf, -⟩ := X8.out
      have f0 := tf 0
      have f1 := tf 1
      have f2 := tf 2
      have f3 := tf 3
      have f4 := tf 4
      obtain ⟨y0, y1, y2, y3, y4, yf, -⟩ := Y8.out
      have g0 := yf 0
      have hne1 : ¬ w.heap.size = w6.heap.size := by omega
      have hne2 : ¬ w6.heap.size = w.heap.size := by omega
      clear tf yf
      go_wp2
      refine bodyPost_ret (v := .tuple #[.agg #[.slice aF mF cF, .iface T1 x1, .iface T2 x2, .slice aL nP cL, .slice aR nP cR], .bool true]) (by simp [results, Tryz.results60, go_sem, t0, t1, t2, t3, t4]) rfl ?_
      have g1 := gb_cell w8 ⟨w6.heap.size, 0, none⟩ (.slice aF mF cF)
      have g2 := gb_put5 (w8.setCell ⟨w6.heap.size, 0, none⟩ (.slice aF mF cF)) w.heap.size (.slice aF mF cF) (.iface T1 x1) (.iface T2 x2) (.slice aL nP cL) (.slice aR nP cR)
      have oA := (OA8.out.kept g1 (fun g e => by injection e with e; subst e; right; show w3.heap.size ≤ w6.heap.size; omega)).kept g2 (fun g e => by injection e with e; subst e; left; omega)
      have oL := (OL8.out.kept g1 (fun g e => by injection e with e; subst e; right; show w5.heap.size ≤ w6.heap.size; omega)).kept g2 (fun g e => by injection e with e; subst e; left; omega)
      have oR := (OR8.out.kept g1 (fun g e => by injection e with e; subst e; right; exact Nat.le_refl _)).kept g2 (fun g e => by injection e with e; subst e; left; omega)
      have hbe := (B8.out.grown g1 B8.out.size (fun g e => by injection e with e; subst e; show w.heap.size ≤ w6.heap.size; omega)).grown g2 (by simpa using B8.out.size) (fun g e => by injection e with e; subst e; exact Nat.le_refl _)
      show JoinO w T1 T2 x1 x2 J D J' D' _ (put5 (w8.setCell ⟨w6.heap.size, 0, none⟩ (.slice aF mF cF)) w.heap.size (.slice aF mF cF) (.iface T1 x1) (.iface T2 x2) (.slice aL nP cL) (.slice aR nP cR))
      generalize put5 (w8.setCell ⟨w6.heap.size, 0, none⟩ (.slice aF mF cF)) w.heap.size (.slice aF mF cF) (.iface T1 x1) (.iface T2 x2) (.slice aL nP cL) (.slice aR nP cR) = WF at oA oL oR hbe ⊢
      have oL2 := oL.rd.mono oL.2.2
      have oR2 := oR.rd.mono oR.2.2
      refine .inl ⟨HF.out, HPL.out, _, _, _, rfl, oA.rd.mono oA.2.2, ?_, ?_, hbe⟩
      · rw [← HNP.out]; exact oL2
      · rw [← HNP.out]; exact oR2
  · have HJN := Lib.hid (join_ten_no HA1.out HA2.out hf RA1.out RA2.out (Nat.le_refl _) (Nat.le_refl _))
    have HF := Lib.hid hf
    clear hf
    go_wp2_with fail
    refine HJN.out.mono ?_
    rintro e w3 ⟨rfl, hb⟩
    have X3 := Lib.hid (X2.out.step hb)
    have B3 := Lib.hid (B2.out.trans (hb.mono B2.out.size))
    clear hb HJN RA1 RA2 X2 B2
    obtain ⟨t0, t1, t2, t3, t4, tf, -⟩ := X3.out
    have f0 := tf 0
    have f1 := tf 1
    have f2 := tf 2
    have f3 := tf 3
    have f4 := tf 4
    clear tf
    go_wp2
    refine bodyPost_ret (v := .tuple #[.agg #[nilV, .nilIface, .nilIface, nilV, nilV], .bool false]) (by simp [results, Tryz.results60, go_sem, t0, t1, t2, t3, t4]) rfl ?_
    exact .inr ⟨fun h => HF.out h.1, rfl, ((((B3.out.setCell (p := ⟨w.heap.size, 0, none⟩) (Nat.le_refl _) _).setCell (p := ⟨w.heap.size, 1, none⟩) (Nat.le_refl _) _).setCell (p := ⟨w.heap.size, 2, none⟩) (Nat.le_refl _) _).setCell (p := ⟨w.heap.size, 3, none⟩) (Nat.le_refl _) _).setCell (p := ⟨w.heap.size, 4, none⟩) (Nat.le_refl _) _⟩
end Go.Proofs.YtgbmacppgaopfabGreat
