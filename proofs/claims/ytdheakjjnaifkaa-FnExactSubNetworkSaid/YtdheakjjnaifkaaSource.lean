
/- Sources: tensors and joins behind their interface; (join).axes, (join).elem, impl.joinOf. -/
import Derived.Test.YtdheakjjnaifkaaCountA
import Derived.Test.YtdheakjjnaifkaaJoinImpl
import Derived.Test.YtdheakjjnaifkaaElemRd
import Derived.Test.YtdheakjjnaifkaaTimesOne
import Derived.Test.YtdheakjjnaifkaaPairMath
import Derived.Test.YtdheakjjnaifkaaPermuted
import Derived.Test.YtdheakjjnaifkaaTenOkImpl
import Derived.Test.YtdheakjjnaifkaaZeroImpl
import Derived.Deep.RegionHeld3
namespace Go.Proofs.Ytdheakjjnaifkaa
set_option maxRecDepth 20000
open Go.RowKit

theorem sizeI_ax {L D : List Int} (h : ¬ sizeI L D < 0) : AxesV L D ∧ 1 ≤ prodL D ∧ prodL D ≤ 4096 := by
  rcases sizeI_cases L D with ⟨h1, -⟩ | ⟨h1, h2, h3, h4⟩
  · omega
  · exact ⟨h2, h3, h4⟩
/-- What sumOver asks of a function value: an element in a row that is no row of the call's own of before. -/
def ClosF (w W : World) (xs : List Int) (e : Ending) (w' : World) : Prop :=
  (∃ b off cap, e = .returned (.slice (some ⟨b, off, none⟩) xs.length cap) ∧ (b < w.heap.size ∨ W.heap.size ≤ b) ∧ b < w'.heap.size ∧ xs.length ≤ cap ∧ ∀ i (h : i < xs.length), w'.cell? ⟨b, off + i, none⟩ = some (.int .i64 xs[i])) ∧ Below W.heap.size W w'
theorem ClosF.new {w W w' : World} {xs : List Int} {e : Ending} (h : NewRow W xs e w') (h0 : 0 < xs.length) : ClosF w W xs e w' := by
  obtain ⟨v, rfl, ho, hb⟩ := h
  have hlo := ho.lo
  rcases ho.rd.ints_cases with ⟨rfl, -⟩ | ⟨b, off, cap, rfl, hlt, hcap, hc⟩
  · simp at h0
  · exact ⟨⟨b, off, cap, rfl, .inr (hlo b rfl), hlt, hcap, hc⟩, hb⟩
theorem ClosF.rd {B : Nat} {w W w' : World} {v : Value} {xs : List Int} (h : Rd B w' v (ints xs)) (hB : B ≤ w.heap.size) (hb : Below W.heap.size W w') (hw : w.heap.size ≤ W.heap.size) (h0 : 0 < xs.length) : ClosF w W xs (.returned v) w' := by
  rcases h.ints_cases with ⟨rfl, -⟩ | ⟨b, off, cap, rfl, hlt, hcap, hc⟩
  · simp at h0
  · exact ⟨⟨b, off, cap, rfl, .inl (Nat.lt_of_lt_of_le hlt hB), Nat.lt_of_lt_of_le hlt (Nat.le_trans hB (Nat.le_trans hw hb.size)), hcap, hc⟩, hb⟩
/-- The row is read behind the call. -/
theorem rd_of_cells {w : World} {b off cap : Nat} {xs : List Int} (hb : b < w.heap.size) (hcap : xs.length ≤ cap) (hc : ∀ i (h : i < xs.length), w.cell? ⟨b, off + i, none⟩ = some (.int .i64 xs[i])) : Rd w.heap.size w (.slice (some ⟨b, off, none⟩) xs.length cap) (ints xs) := by
  refine .inr ⟨b, off, cap, by rw [ints_len], hb, by rw [ints_len]; exact hcap, fun i u hi => ?_⟩
  have hi2 : i < xs.length := by have := (List.getElem?_eq_some_iff.1 hi).1; rw [ints_len] at this; exact this
  rw [hc i hi2]
  unfold ints at hi
  rw [List.getElem?_map, List.getElem?_eq_getElem hi2] at hi
  exact hi
theorem accL_start (k p q : Int) (zf : Nat → Nat) (tf : Nat → List Int) (M : Nat) : repL (zeroL k p q) M = accL k p q zf tf M 0 := by
  show _ = gatherL (fun _ => zeroL k p q) M
  induction M with
  | zero => rfl
  | succ M ih => rw [repL_succ, ih, gather_succ]
theorem acc_small {k p q : Int} {zf : Nat → Nat} {tf : Nat → List Int} {M N n o wd : Nat} (hr : ringB k p q = true) (hw : widthI k q = (wd : Int)) (ht : ∀ m, m < N → ElemV k p q (tf m)) (hn : n ≤ N) (ho : o < M) {j : Nat} {a : Int} (hj : j < wd) (ha : (accL k p q zf tf M n)[o * wd + j]? = some a) : 0 ≤ a ∧ a ≤ 1048576 := by
  have h1 := acc_get (zf := zf) hr hw ht hn ho
  have h2 := accE_elem (zf := zf) hr ht n hn o
  have h3 : (getL wd (accL k p q zf tf M n) o)[j]? = some a := by
    unfold getL
    rw [List.getElem?_take_of_lt hj, List.getElem?_drop]; exact ha
  rw [h1] at h3
  have h4 := h2.2 a (List.mem_of_getElem? h3)
  have h5 := ring_top hr
  omega
theorem keep_snoc {J keep : List Int} {d : Int → Int} {j : Nat} {n : Int} (h : J[j]? = some n) (hn : n ∈ keep) : (keepL (J.take j) keep).map d ++ [d n] = (keepL (J.take (j + 1)) keep).map d := by
  rw [keep_yes h hn]; simp

theorem own_cap {w : World} {lo g n cap : Nat} {xs : List Value} (h : w.ownsRow lo 3 1 (.slice (some ⟨g, 0, none⟩) n cap) n xs) : n ≤ cap := by
  rcases h.2 with ⟨e, -⟩ | ⟨g', cap', cur, e, -, -, h1, h2, h3, h4⟩
  · cases e
  · cases e
    omega

/-- Labels and dimensions, however many. -/
def AxW (L D : List Int) : Prop := L.length ≤ 100 ∧ L.length = D.length ∧ (∀ x ∈ L, 0 ≤ x ∧ x ≤ 99) ∧ (∀ d ∈ D, 1 ≤ d ∧ d ≤ 8) ∧ L.Nodup
theorem AxesV.wide {L D : List Int} (h : AxesV L D) : AxW L D := ⟨by have := h.1; omega, h.2.1, h.2.2.1, h.2.2.2.1, h.2.2.2.2⟩
theorem mem_joinL {L L' : List Int} {n : Int} : n ∈ joinL L L' ↔ n ∈ L ∨ n ∈ L' := by
  unfold joinL restL
  simp only [List.mem_append, List.mem_filter, decide_eq_true_eq]
  constructor
  · rintro (h | ⟨h, -⟩)
    · exact .inl h
    · exact .inr h
  · rintro (h | h)
    · exact .inl h
    · by_cases hl : n ∈ L
      · exact .inl hl
      · exact .inr ⟨h, hl⟩
theorem nodup_joinL {L L' : List Int} (h : L.Nodup) (h' : L'.Nodup) : (joinL L L').Nodup := by
  unfold joinL restL
  rw [List.nodup_append]
  refine ⟨h, h'.filter _, fun a ha b hb => ?_⟩
  simp only [List.mem_filter, decide_eq_true_eq] at hb
  rintro rfl
  exact hb.2 ha
theorem nodup_short : ∀ {L M : List Int}, L.Nodup → (∀ x ∈ L, x ∈ M) → L.length ≤ M.length := by
  intro L
  induction L with
  | nil => intro M _ _; simp
  | cons x r ih =>
    intro M hn hs
    have hn' := List.nodup_cons.1 hn
    have hx := hs x (by simp)
    have h1 := ih (M := M.erase x) hn'.2 (fun y hy => (List.mem_erase_of_ne (show y ≠ x by rintro rfl; exact hn'.1 hy)).2 (hs y (by simp [hy])))
    rw [List.length_erase_of_mem hx] at h1
    have h2 := List.length_pos_of_mem hx
    simp only [List.length_cons]
    omega
/-- At most a hundred labels. -/
theorem nodup_100 {L : List Int} (hn : L.Nodup) (h : ∀ x ∈ L, 0 ≤ x ∧ x ≤ 99) : L.length ≤ 100 := by
  have h1 := nodup_short (M := (List.range 100).map fun n : Nat => (n : Int)) hn (fun x hx => by
    have := h x hx
    exact List.mem_map.2 ⟨x.toNat, List.mem_range.2 (by omega), by omega⟩)
  simpa using h1
theorem AxW.ints {L D : List Int} (h : AxW L D) : allI L := fun z hz => by
  have := h.2.2.1 z hz
  unfold inI
  omega
theorem AxW.join {J D J' D' : List Int} (h : AxW J D) (h' : AxW J' D') : AxW (joinL J J') (joinD J D J' D') := by
  have hn := nodup_joinL h.2.2.2.2 h'.2.2.2.2
  have hr : ∀ x ∈ joinL J J', 0 ≤ x ∧ x ≤ 99 := fun x hx => (mem_joinL.1 hx).elim (h.2.2.1 x) (h'.2.2.1 x)
  refine ⟨nodup_100 hn hr, ?_, hr, joinD_in h'.2.1 h.2.2.2.1 h'.2.2.2.1, hn⟩
  rw [← joinD_map h.2.2.2.2 h.2.1, List.length_map]
theorem join_ten_yes {B B' : Nat} {u v : Value} {L D L' D' : List Int} {w : World} (hax : AxW L D) (hax' : AxW L' D') (hf : FitV L D L' D') (ha : RdA B w u (axesL L D)) (hb : RdA B' w v (axesL L' D')) (hB : B ≤ w.heap.size) (hB' : B' ≤ w.heap.size) :
    Calls Try.prog 103 #[u, v] w fun e w' => ∃ x y, e = .returned (.tuple #[x, y, .bool true]) ∧ OwnA w' w.heap.size w'.heap.size x (axJ (joinL L L') (dimJ L D L' D') (stepI L D)) ∧ OwnA w' w.heap.size w'.heap.size y (axJ (joinL L L') (dimJ L D L' D') (stepI L' D')) ∧ Below w.heap.size w w' := by
  have hff := (fitF_fit (D := D) (D' := D') hax'.2.2.2.2).2 hf
  rw [axesL_map hax.2.2.2.2] at ha
  rw [axesL_map hax'.2.2.2.2] at hb
  refine (join_axes_impl (dimI L D) (stepI L D) (dimI L' D') (stepI L' D') hax.2.2.2.2 hax'.2.2.2.2 (by have := hax.1; omega) (by have := hax'.1; omega) ha hb hB hB').mono ?_
  rintro e w' (⟨-, x, y, rfl, h1, h2, h3⟩ | ⟨hn, -, -⟩)
  · rw [axF_axJ] at h1
    rw [axS_axJ hff] at h2
    exact ⟨x, y, rfl, h1, h2, h3⟩
  · exact absurd hff hn
theorem join_ten_no {B B' : Nat} {u v : Value} {L D L' D' : List Int} {w : World} (hax : AxW L D) (hax' : AxW L' D') (hf : ¬ FitV L D L' D') (ha : RdA B w u (axesL L D)) (hb : RdA B' w v (axesL L' D')) (hB : B ≤ w.heap.size) (hB' : B' ≤ w.heap.size) :
    Calls Try.prog 103 #[u, v] w fun e w' => e = .returned (.tuple #[nilV, nilV, .bool false]) ∧ Below w.heap.size w w' := by
  have hff := fun h => hf ((fitF_fit (D := D) (D' := D') hax'.2.2.2.2).1 h)
  rw [axesL_map hax.2.2.2.2] at ha
  rw [axesL_map hax'.2.2.2.2] at hb
  refine (join_axes_impl (dimI L D) (stepI L D) (dimI L' D') (stepI L' D') hax.2.2.2.2 hax'.2.2.2.2 (by have := hax.1; omega) (by have := hax'.1; omega) ha hb hB hB').mono ?_
  rintro e w' (⟨hy, -⟩ | ⟨-, rfl, h3⟩)
  · exact absurd hy hff
  · exact ⟨rfl, h3⟩
theorem dimJ_in {L D L' D' : List Int} (hax : AxW L D) (hax' : AxW L' D') : ∀ n ∈ joinL L L', 1 ≤ dimJ L D L' D' n ∧ dimJ L D L' D' n ≤ 8 := fun n hn => by
  have h := joinD_map (D := D) (L' := L') (D' := D') hax.2.2.2.2 hax.2.1
  have hm : dimJ L D L' D' n ∈ joinD L D L' D' := by rw [← h]; exact List.mem_map_of_mem hn
  exact joinD_in hax'.2.1 hax.2.2.2.1 hax'.2.2.2.1 _ hm
theorem prod_sub {A C : List Int} (h : A.Sublist C) (h1 : ∀ d ∈ C, 1 ≤ d) : prodL A ≤ prodL C := by
  induction h with
  | slnil => exact Int.le_refl _
  | cons a hs ih =>
    rename_i l1 l2
    rw [prodL_cons]
    have h2 := ih (fun d hd => h1 d (List.mem_cons_of_mem _ hd))
    have h3 := h1 a (by simp)
    have h4 := prodL_pos (D := l2) (fun d hd => h1 d (List.mem_cons_of_mem _ hd))
    have h5 := Int.mul_le_mul_of_nonneg_right h3 (show 0 ≤ prodL l2 by omega)
    omega
  | cons_cons a hs ih =>
    rw [prodL_cons, prodL_cons]
    have h2 := ih (fun d hd => h1 d (List.mem_cons_of_mem _ hd))
    have h3 := h1 a (by simp)
    exact Int.mul_le_mul_of_nonneg_left h2 (by omega)
theorem join_prod {L D L' D' : List Int} (hax : AxW L D) (hax' : AxW L' D') (hp : 1 ≤ prodL D ∧ prodL D ≤ 65536) (hp' : prodL D' ≤ 4096) : 1 ≤ prodL (joinD L D L' D') ∧ prodL (joinD L D L' D') ≤ 268435456 := by
  have h0 := prodL_pos (D := joinD L D L' D') (fun d hd => (joinD_in hax'.2.1 hax.2.2.2.1 hax'.2.2.2.1 d hd).1)
  refine ⟨h0, ?_⟩
  have h1 : (dimsVia L' D' (restL L L')).Sublist D' := by
    have h2 := (List.filter_sublist (p := fun n => decide (n ∉ L)) (l := L')).map (dimI L' D')
    rw [dimI_map hax'.2.2.2.2 hax'.2.1] at h2
    exact h2
  have h3 := prod_sub h1 (fun d hd => (hax'.2.2.2.1 d hd).1)
  have h4 := prodL_pos (D := dimsVia L' D' (restL L L')) (fun d hd => (hax'.2.2.2.1 d (h1.subset hd)).1)
  unfold joinD
  rw [prodL_app]
  exact Int.le_trans (Int.mul_le_mul hp.2 (show _ ≤ 4096 by omega) (by omega) (by omega)) (by omega)
theorem stepI_wide {L D : List Int} {P : Int} (hD : ∀ d ∈ D, 1 ≤ d) (hP : prodL D ≤ P) (n : Int) : 0 ≤ stepI L D n ∧ stepI L D n ≤ P := by
  have h0 := prodL_pos hD
  unfold stepI
  split
  · have h1 := prodL_pos (D := D.drop (L.idxOf n + 1)) (fun d hd => hD d (List.mem_of_mem_drop hd))
    have h2 := prod_sub (List.drop_sublist (L.idxOf n + 1) D) hD
    omega
  · omega
theorem joinA_pa {L D L' D' : List Int} {L1 D1 : List Int} (hax : AxW L D) (hax' : AxW L' D') (hD : ∀ d ∈ D1, 1 ≤ d) (hP1 : prodL D1 ≤ 65536) (hP : prodL (joinD L D L' D') ≤ 65536) : PA (axJ (joinL L L') (dimJ L D L' D') (stepI L1 D1)) :=
  axJ_pa (by have h1 := (hax.join hax').1; omega) (dimJ_in hax hax') (fun n _ => stepI_wide hD hP1 n) (by rw [joinD_map hax.2.2.2.2 hax.2.1]; exact hP)

/-- A source: a value of the type T behind the interface, with its axes and its elements, in a world and all that come of it. -/
structure SrcV (w : World) (T : TypeId) (x : Value) (Ka Ke : Nat) (k p q : Int) (J D : List Int) (N : Nat) (F : Nat → List Int) : Prop where
  ax : AxW J D
  n : prodL D = (N : Int)
  n1 : N ≤ 65536
  el : ∀ j, j < N → ElemV k p q (F j)
  m1 : ∀ (n : Nat) (W : World), (method (n + 1) T x "loop.example/g03211/impl.axes").run Try.prog W = .ok (Ka, x) W
  m2 : ∀ (n : Nat) (W : World), (method (n + 1) T x "loop.example/g03211/impl.elem").run Try.prog W = .ok (Ke, x) W
  m3 : ∀ (n : Nat) (W : World), (nilAhead (n + 1) T x "loop.example/g03211/impl.elem").run Try.prog W = .ok (some false) W
  c1 : ∀ W : World, (callFunc Ka #[x]).run Try.prog W = .ok (.enter Ka #[x]) W
  c2 : ∀ (W : World) (a b : Value), (callFunc Ke #[x, a, b]).run Try.prog W = .ok (.enter Ke #[x, a, b]) W
  axes : ∀ W, Below w.heap.size w W → 0 < W.heap.size → Calls Try.prog Ka #[x] W fun e W' => ∃ v, e = .returned v ∧ RdA W'.heap.size W' v (axesL J D) ∧ Below W.heap.size W W'
  elem : ∀ W j, j < N → Below w.heap.size w W → Calls Try.prog Ke #[x, ringV k p q, .int .i64 j] W (ClosF w W (F j))
theorem ClosF.later {w w0 W W' : World} {xs : List Int} {e : Ending} (h : ClosF w W xs e W') (hb : w.heap.size ≤ w0.heap.size) : ClosF w0 W xs e W' := by
  obtain ⟨⟨b, off, cap, he, hlt, h2, h3, h5⟩, h4⟩ := h
  exact ⟨⟨b, off, cap, he, hlt.elim (fun h => .inl (by omega)) .inr, h2, h3, h5⟩, h4⟩
theorem SrcV.later {w w0 : World} {T : TypeId} {x : Value} {Ka Ke : Nat} {k p q : Int} {J D : List Int} {N : Nat} {F : Nat → List Int} (h : SrcV w T x Ka Ke k p q J D N F) (hb : Below w.heap.size w w0) : SrcV w0 T x Ka Ke k p q J D N F :=
  ⟨h.ax, h.n, h.n1, h.el, h.m1, h.m2, h.m3, h.c1, h.c2, fun W hW => h.axes W (hb.trans (hW.mono hb.size)), fun W j hj hW => (h.elem W j hj (hb.trans (hW.mono hb.size))).mono fun _ _ hc => hc.later hb.size⟩
theorem ten_m1 (n : Nat) (x : Value) (w : World) : (method (n + 1) 55 x "loop.example/g03211/impl.axes").run Try.prog w = .ok (94, x) w := by kernel_rfl
theorem ten_m2 (n : Nat) (x : Value) (w : World) : (method (n + 1) 55 x "loop.example/g03211/impl.elem").run Try.prog w = .ok (108, x) w := by kernel_rfl
theorem ten_m3 (n : Nat) (x : Value) (w : World) : (nilAhead (n + 1) 55 x "loop.example/g03211/impl.elem").run Try.prog w = .ok (some false) w := by kernel_rfl
theorem ten_c1 (x : Value) (w : World) : (callFunc 94 #[x]).run Try.prog w = .ok (.enter 94 #[x]) w := by kernel_rfl
theorem ten_c2 (x a b : Value) (w : World) : (callFunc 108 #[x, a, b]).run Try.prog w = .ok (.enter 108 #[x, a, b]) w := by kernel_rfl
/-- A valid tensor is a source. -/
theorem SrcV.ten {B wd N : Nat} {lv dv xv : Value} {k p q : Int} {L D X : List Int} {w : World} (ha : RdT B w lv dv xv L D X) (hB : B ≤ w.heap.size) (ht : tensorB k p q L D X = true) (hw : widthI k q = (wd : Int)) (hN : prodL D = (N : Int)) : SrcV w 55 (tenV lv dv xv) 94 108 k p q L D N (fun c => getL wd X c) := by
  have hf := TF.of ht
  obtain ⟨hax, hp⟩ := tensorB_axes ht
  have hsz := sizeI_ax (L := L) (D := D) (by omega)
  have hwd : (widthI k q).toNat = wd := by omega
  have hT := TenF.of ht hw
  have hr : ringB k p q = true := by unfold tensorB at ht; simp only [Bool.and_eq_true] at ht; exact ht.1.1.1
  have hw6 : 1 ≤ wd ∧ wd ≤ 6 := by have h1 := ring_width hr; omega
  have hN2 : (prodL D).toNat = N := by omega
  have hgl : ∀ j, j < N → j * wd + wd ≤ X.length := fun j hj => by
    have h1 := hT.lX
    rw [hN2] at h1
    have h2 := Nat.mul_le_mul_right wd (show j + 1 ≤ N by omega)
    rw [Nat.add_mul, Nat.one_mul] at h2
    omega
  refine ⟨hax.wide, hN, by omega, fun j hj => getL_elem hw hT.lX hT.wX (by rw [hN2]; exact hj), fun n W => ten_m1 n _ W, fun n W => ten_m2 n _ W, fun n W => ten_m3 n _ W, fun W => ten_c1 _ W, fun W a b => ten_c2 _ a b W, fun W hb h0 => ?_, fun W j hj hb => ?_⟩
  · refine (axes_impl (ha.below hb hB) (Nat.le_trans hB hb.size) h0 hax.2.1 hax.1 hax.2.2.2.1 (by omega)).mono ?_
    rintro e W' ⟨v, rfl, ho, hb2⟩
    exact ⟨v, rfl, (OwnA.rd ho).mono (Nat.le_refl _), hb2⟩
  · refine (elem_rd wd j (ha.below hb hB) (Nat.le_trans hB hb.size) hw hw6.1 hw6.2 (by omega) (hgl j hj)).mono ?_
    rintro e W' ⟨v, rfl, hv, hb2⟩
    exact ClosF.rd hv hB hb2 hb.size (by rw [getL_len (hgl j hj)]; exact hw6.1)
/-- The offsets of the joined indices in one of the two sources. -/
def offsJ (L D J JD : List Int) (N : Nat) : List Int := (List.range N).map fun c : Nat => (offJ L D J JD c : Int)
theorem offsJ_len (L D J JD : List Int) (N : Nat) : (offsJ L D J JD N).length = N := by simp [offsJ]
theorem offsJ_at {L D J JD : List Int} {N c : Nat} (hc : c < N) : (offsJ L D J JD N)[c]? = some (offJ L D J JD c : Int) := by
  unfold offsJ
  rw [List.getElem?_map, List.getElem?_range hc]; rfl
/-- A box of five cells. -/
structure B5 (W : World) (r : Nat) (a b c d e : Value) : Prop where
  c0 : W.cell? ⟨r, 0, none⟩ = some a
  c1 : W.cell? ⟨r, 1, none⟩ = some b
  c2 : W.cell? ⟨r, 2, none⟩ = some c
  c3 : W.cell? ⟨r, 3, none⟩ = some d
  c4 : W.cell? ⟨r, 4, none⟩ = some e
  fr : ∀ j, W.frozen? ⟨r, j, none⟩ = false
  lt : r < W.heap.size
theorem B5.new (W : World) (a b c d e : Value) (T : TypeId) : B5 (W.alloc (.cells #[a, b, c, d, e] T)) W.heap.size a b c d e :=
  ⟨by simp [World.cell?_alloc_at], by simp [World.cell?_alloc_at], by simp [World.cell?_alloc_at], by simp [World.cell?_alloc_at], by simp [World.cell?_alloc_at], fun j => by simp, by simp⟩
theorem B5.kept {W W' : World} {r : Nat} {a b c d e : Value} {row : Option Nat} (h : B5 W r a b c d e) (hg : W.grownBy W' row) (hr : row ≠ some r) : B5 W' r a b c d e := by
  have hb := hg.block r h.lt (fun e => hr e.symm)
  exact ⟨(World.cell?_of_block (w := W) hb).trans h.c0, (World.cell?_of_block (w := W) hb).trans h.c1, (World.cell?_of_block (w := W) hb).trans h.c2, (World.cell?_of_block (w := W) hb).trans h.c3, (World.cell?_of_block (w := W) hb).trans h.c4,
    fun j => (World.frozen?_of_block (w := W) (a := ⟨r, j, none⟩) hb).trans (h.fr j), Nat.lt_of_lt_of_le h.lt hg.size⟩
theorem B5.step {W W' : World} {r : Nat} {a b c d e : Value} (h : B5 W r a b c d e) (hb : Below W.heap.size W W') : B5 W' r a b c d e :=
  h.kept (row := none) ⟨hb.os, hb.tape, hb.output, hb.size, fun k hk _ => hb.block k hk⟩ (fun e => by cases e)
theorem gb_cell (W : World) (p : Addr) (u : Value) : W.grownBy (W.setCell p u) (some p.block) :=
  ⟨rfl, rfl, rfl, by simp, fun k _ hr => Below.heap_setCell W p u k (fun e => hr (by rw [e]))⟩
theorem gb_of_below {W W' : World} (h : Below W.heap.size W W') : W.grownBy W' none := ⟨h.os, h.tape, h.output, h.size, fun k hk _ => h.block k hk⟩
theorem B5.first {W : World} {r : Nat} {a b c d e : Value} (h : B5 W r a b c d e) (u : Value) : B5 (W.setCell ⟨r, 0, none⟩ u) r u b c d e :=
  ⟨World.cell?_setCell_same W _ _ h.c0, (World.cell?_setCell_other W _ _ _ (by intro q; injection q with _ q; cases q)).trans h.c1, (World.cell?_setCell_other W _ _ _ (by intro q; injection q with _ q; cases q)).trans h.c2, (World.cell?_setCell_other W _ _ _ (by intro q; injection q with _ q; cases q)).trans h.c3, (World.cell?_setCell_other W _ _ _ (by intro q; injection q with _ q; cases q)).trans h.c4, fun j => by rw [World.frozen?_setCell]; exact h.fr j, by simpa using h.lt⟩
/-- A store into the five cells of a box. -/
def put5 (W : World) (r : Nat) (a b c d e : Value) : World := ((((W.setCell ⟨r, 0, none⟩ a).setCell ⟨r, 1, none⟩ b).setCell ⟨r, 2, none⟩ c).setCell ⟨r, 3, none⟩ d).setCell ⟨r, 4, none⟩ e
theorem gb_put5 (W : World) (r : Nat) (a b c d e : Value) : W.grownBy (put5 W r a b c d e) (some r) :=
  gb_set (gb_set (gb_set (gb_set (gb_cell W ⟨r, 0, none⟩ a) ⟨r, 1, none⟩ (.inl rfl) b) ⟨r, 2, none⟩ (.inl rfl) c) ⟨r, 3, none⟩ (.inl rfl) d) ⟨r, 4, none⟩ (.inl rfl) e
theorem OwnA.kept {w w' : World} {lo hi : Nat} {v : Value} {AX : List AxE} {row : Option Nat} (h : OwnA w lo hi v AX) (hg : w.grownBy w' row) (hne : ∀ g, row = some g → g < lo ∨ hi ≤ g) : OwnA w' lo hi v AX :=
  ⟨h.1.kept (row := row) hg (by
    cases hv : v.ownBlock with
    | none => exact .inl rfl
    | some g =>
      refine .inr fun e => ?_
      have h1 := h.2.1 g hv
      have h2 := (h.1.lt g hv).1
      rcases hne g e.symm with h3 | h3 <;> omega), h.2.1, Nat.le_trans h.2.2 hg.size⟩
/-- What joinOf answers. -/
def JoinO (w : World) (T1 T2 : TypeId) (x1 x2 : Value) (J D J' D' : List Int) (e : Ending) (w' : World) : Prop :=
  (FitV J D J' D' ∧ prodL (joinD J D J' D') ≤ 65536 ∧ ∃ vA vL vR, e = .returned (.tuple #[.agg #[vA, .iface T1 x1, .iface T2 x2, vL, vR], .bool true]) ∧ RdA w'.heap.size w' vA (axesL (joinL J J') (joinD J D J' D')) ∧
    Rd w'.heap.size w' vL (ints (offsJ J D (joinL J J') (joinD J D J' D') (prodL (joinD J D J' D')).toNat)) ∧ Rd w'.heap.size w' vR (ints (offsJ J' D' (joinL J J') (joinD J D J' D') (prodL (joinD J D J' D')).toNat)) ∧ Below w.heap.size w w') ∨
  (¬ (FitV J D J' D' ∧ prodL (joinD J D J' D') ≤ 65536) ∧ e = .returned (.tuple #[.agg #[nilV, .nilIface, .nilIface, nilV, nilV], .bool false]) ∧ Below w.heap.size w w')
end Go.Proofs.Ytdheakjjnaifkaa
