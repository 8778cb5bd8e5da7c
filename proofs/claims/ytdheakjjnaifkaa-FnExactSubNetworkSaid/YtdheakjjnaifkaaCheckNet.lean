
/- impl.commonDims: the labels of a network with their dimensions. -/
import Derived.Test.YtdheakjjnaifkaaNetOkSpec
import Derived.Test.YtdheakjjnaifkaaAxSort
import Derived.Test.YtdheakjjnaifkaaTenOkImpl
import Derived.Test.YtdheakjjnaifkaaAxes
import Derived.Test.YtdheakjjnaifkaaFind
import Derived.Test.YtdheakjjnaifkaaSizeImpl
namespace Go.Proofs.Ytdheakjjnaifkaa
set_option maxRecDepth 20000
open Go.RowKit

theorem agree_fit {ts : List TenE} {t : TenE} (hax : AxT ts) (hn : t.1.Nodup) : FitF (joinT ts) t.1 (dimT ts) (dimI t.1 t.2.1) ↔ AgreeTo ts t t.1.length := by
  constructor
  · intro h c x hc hx hp
    rw [h x (List.mem_of_getElem? hx) (mem_joinT.2 ((dimT_pos hax).1 hp)), dimI_at hn hx]
  · intro h n hn1 hn2
    exact agree_all hn h hn1 ((dimT_pos hax).2 (mem_joinT.1 hn2))
theorem axF_net {ts : List TenE} {t : TenE} {s : Int → Int} : axF (joinT ts) t.1 (fun n => (n, dimT ts n, s n)) (fun n => (n, dimI t.1 t.2.1 n, 0)) = axJ (joinT (ts ++ [t])) (dimT (ts ++ [t])) (fun n => if n ∈ joinT ts then s n else 0) := by
  rw [joinT_snoc]
  unfold axF axJ joinL
  rw [List.map_append]
  congr 1
  · refine List.map_congr_left fun n hn => ?_
    simp only [if_pos hn, dimT_snoc_old (mem_joinT.1 hn)]
  · refine List.map_congr_left fun n hn => ?_
    unfold restL at hn
    simp only [List.mem_filter, decide_eq_true_eq] at hn
    simp only [if_neg hn.2, dimT_snoc_new (fun h => hn.2 (mem_joinT.2 h)), if_pos hn.1]
theorem OwnA.low {w : World} {lo lo' hi hi' : Nat} {v : Value} {AX : List AxE} (h : OwnA w lo hi v AX) (hl : lo' ≤ lo) (hh : hi ≤ hi') (hw : hi' ≤ w.heap.size) : OwnA w lo' hi' v AX := by
  refine ⟨⟨h.1.1, ?_⟩, fun g hg => Nat.lt_of_lt_of_le (h.2.1 g hg) hh, hw⟩
  rcases h.1.2 with h1 | ⟨g, cap, cur, e, hlo, h2⟩
  · exact .inl h1
  · exact .inr ⟨g, cap, cur, e, Nat.le_trans hl hlo, h2⟩
theorem cell_kept2 {W W' : World} {B g o : Nat} {u : Value} (hb : Below B W W') (h : W.cell? ⟨g, o, none⟩ = some u) (hB : W.heap.size ≤ B := by exact Nat.le_refl _) : W'.cell? ⟨g, o, none⟩ = some u := ((hb.cell (Nat.lt_of_lt_of_le (World.block_lt_of_cell? _ _ h) hB)).trans h)
theorem NetV.nil (k p q : Int) : NetV k p q [] := fun i t h => by simp at h
theorem NetV.next {k p q : Int} {ts : List TenE} {t : TenE} {j : Nat} (h : NetV k p q (ts.take j)) (ht : ts[j]? = some t) (hb : tensorB k p q t.1 t.2.1 t.2.2 = true) (ha : AgreeTo (ts.take j) t t.1.length) : NetV k p q (ts.take (j + 1)) := by
  rw [List.take_add_one, ht]
  exact netV_snoc h hb ha
/-- A box of two cells beside own rows of ints. -/
structure BxT (w0 W : World) (g : Nat) (rows : List RowE) (a b : Value) : Prop where
  c0 : W.cell? ⟨g, 0, none⟩ = some a
  c1 : W.cell? ⟨g, 1, none⟩ = some b
  fr : ∀ j, W.frozen? ⟨g, j, none⟩ = false
  lt : g < W.heap.size
  lo : w0.heap.size ≤ g
  ap : ∀ r ∈ rows, r.1.ownBlock ≠ some g
theorem BxT.step {w0 W W' : World} {g : Nat} {rows : List RowE} {a b : Value} (h : BxT w0 W g rows a b) (hb : Below W.heap.size W W') : BxT w0 W' g rows a b :=
  ⟨(hb.cell h.lt).trans h.c0, (hb.cell h.lt).trans h.c1, fun j => (hb.frozen (p := ⟨g, j, none⟩) h.lt).trans (h.fr j), Nat.lt_of_lt_of_le h.lt hb.size, h.lo, h.ap⟩
theorem BxT.grown {w0 W W' : World} {g : Nat} {rows rows' : List RowE} {a b : Value} {x : Option Nat} (h : BxT w0 W g rows a b) (hg : W.grownBy W' x) (hx : some g ≠ x) (hr : ∀ r ∈ rows', r.1.ownBlock ≠ some g) : BxT w0 W' g rows' a b := by
  have hb : W'.heap[g]? = W.heap[g]? := hg.block g h.lt hx
  exact ⟨(World.cell?_of_block (w := W) (a := ⟨g, 0, none⟩) hb).trans h.c0, (World.cell?_of_block (w := W) (a := ⟨g, 1, none⟩) hb).trans h.c1, fun j => (World.frozen?_of_block (w := W) (a := ⟨g, j, none⟩) hb).trans (h.fr j), Nat.lt_of_lt_of_le h.lt hg.size, h.lo, hr⟩
theorem BxT.put0 {w0 W : World} {g : Nat} {rows : List RowE} {a b : Value} (h : BxT w0 W g rows a b) (u : Value) : BxT w0 (W.setCell ⟨g, 0, none⟩ u) g rows u b :=
  ⟨World.cell?_setCell_same W _ _ h.c0, (World.cell?_setCell_other W _ _ _ (by intro q; injection q with _ q; cases q)).trans h.c1, fun j => by rw [World.frozen?_setCell]; exact h.fr j, by simpa using h.lt, h.lo, h.ap⟩
theorem BxT.put1 {w0 W : World} {g : Nat} {rows : List RowE} {a b : Value} (h : BxT w0 W g rows a b) (u : Value) : BxT w0 (W.setCell ⟨g, 1, none⟩ u) g rows a u :=
  ⟨(World.cell?_setCell_other W _ _ _ (by intro q; injection q with _ q; cases q)).trans h.c0, World.cell?_setCell_same W _ _ h.c1, fun j => by rw [World.frozen?_setCell]; exact h.fr j, by simpa using h.lt, h.lo, h.ap⟩
theorem BxT.app {w0 W W5 : World} {g g1 n1 k1 : Nat} {rows : List RowE} {v a b : Value} {xs ys : List Int} {ob : Obj} (h : BxT w0 W g ((v, xs) :: rows) a b) (hg : (W.alloc ob).grownBy W5 v.ownBlock) (hl : v.ownBlock = some g1 ∨ g1 = W.heap.size + 1) : BxT w0 W5 g ((.slice (some ⟨g1, 0, none⟩) n1 k1, ys) :: rows) a b := by
  have h1 := h.step ((Below.refl W.heap.size W).alloc (Nat.le_refl _) ob)
  refine h1.grown hg (fun e => h.ap (v, xs) List.mem_cons_self e.symm) fun r hr => ?_
  rcases List.mem_cons.1 hr with rfl | hr
  · intro e
    simp only [Value.ownBlock, Option.some.injEq] at e
    rcases hl with hl | hl
    · exact h.ap _ List.mem_cons_self (by rw [hl, e])
    · have := h.lt; omega
  · exact h.ap r (List.mem_cons_of_mem _ hr)
theorem BxT.far {w0 W : World} {g g' : Nat} {rows : List RowE} {a b : Value} (h : BxT w0 W g rows a b) (hne : g ≠ g') (i : Nat) (u : Value) : BxT w0 (W.setCell ⟨g', i, none⟩ u) g rows a b :=
  ⟨(World.cell?_setCell_other W _ _ _ (by intro q; injection q with q _; exact hne q.symm)).trans h.c0, (World.cell?_setCell_other W _ _ _ (by intro q; injection q with q _; exact hne q.symm)).trans h.c1, fun j => by rw [World.frozen?_setCell]; exact h.fr j, by simpa using h.lt, h.lo, h.ap⟩
theorem BxT.swap {w0 W : World} {g : Nat} {r1 r2 : RowE} {rows : List RowE} {a b : Value} (h : BxT w0 W g (r1 :: r2 :: rows) a b) : BxT w0 W g (r2 :: r1 :: rows) a b :=
  ⟨h.c0, h.c1, h.fr, h.lt, h.lo, fun r hr => h.ap r ((List.Perm.swap _ _ _).subset hr)⟩
theorem Rs.low {w w0 W : World} {rows : List RowE} (h : Rs w0 W [] rows) (hb : Below w.heap.size w w0) : Rs w W [] rows :=
  ⟨hb.trans (h.bel.mono hb.size), fun r hr => ⟨(h.own r hr).1, by
    rcases (h.own r hr).2 with h1 | ⟨g, cap, cur, e, hlo, h2⟩
    · exact .inl h1
    · exact .inr ⟨g, cap, cur, e, Nat.le_trans hb.size hlo, h2⟩⟩, h.apart, fun b hb => by simp at hb, fun b hb => by simp at hb, List.Pairwise.nil⟩
/-- What commonDims answers. -/
def CommonP (w : World) (k p q : Int) (ts : List TenE) (e : Ending) (w' : World) : Prop :=
  (NetV k p q ts ∧ ∃ a b, e = .returned (.tuple #[.agg #[a, b], .bool true]) ∧ OwnG w' w.heap.size w'.heap.size [(a, labT ts), (b, (labT ts).map (dimT ts))] ∧ Below w.heap.size w w') ∨
  (¬ NetV k p q ts ∧ e = .returned (.tuple #[.agg #[nilV, nilV], .bool false]) ∧ Below w.heap.size w w')

set_option maxHeartbeats 12800000 in
theorem common_full {B n cap : Nat} {pa : Option Addr} {k p q : Int} {ts : List TenE} {w : World} (ha : RdTs B w (.slice pa n cap) ts) (hB : B ≤ w.heap.size) (hn : ts.length = n) (hl : LenTs ts) (hI : ∀ t ∈ ts, allI t.1) :
    Calls Try.prog 85 #[ringV k p q, .slice pa n cap] w (CommonP w k p q ts) := by
  obtain ⟨wB, hwB⟩ : ∃ W, W = (w.alloc (.cells #[.int .i64 k, .int .i64 p, .int .i64 q] 30)).alloc (.cells #[nilV, nilV] 68) := ⟨_, rfl⟩
  have HWB := Lib.hid hwB
  have hbel : Below w.heap.size w wB := by rw [hwB]; exact ((Below.refl _ _).alloc (Nat.le_refl _) _).alloc (by simp) _
  have HBB := Lib.hid hbel
  have HTS := Lib.hid (ha.mono hB)
  have HN := Lib.hid hn
  have HLN := Lib.hid hl
  have HII := Lib.hid hI
  have hc : (wB.cell? ⟨w.heap.size, 0, none⟩ = some (.int .i64 k) ∧ wB.cell? ⟨w.heap.size, 1, none⟩ = some (.int .i64 p) ∧ wB.cell? ⟨w.heap.size, 2, none⟩ = some (.int .i64 q)) ∧ wB.cell? ⟨w.heap.size + 1, 0, none⟩ = some nilV ∧ wB.cell? ⟨w.heap.size + 1, 1, none⟩ = some nilV := by
    rw [hwB]; simp [World.cell?_alloc_lt, World.cell?_alloc_at]
  have HC := Lib.hid hc
  have HZ : Hid (wB.heap.size = w.heap.size + 2) := Lib.hid (by rw [hwB]; simp)
  have HFR : Hid (∀ (W : World) (j : Nat), Below wB.heap.size wB W → W.frozen? ⟨w.heap.size + 1, j, none⟩ = false) := Lib.hid (fun W j hb => (hb.frozen (p := ⟨w.heap.size + 1, j, none⟩) (show w.heap.size + 1 < wB.heap.size by have := HZ.out; omega)).trans (by rw [hwB, World.frozen?_alloc_at _ _ _ _ (by simp)]))
  clear hwB hbel ha hB hn hl hI hc
  go_enter Try.func85, Try.ntmps85
  go_upto_region 3 with fail
  rw [← HWB.out]
  have O0 : Hid (OwnA wB wB.heap.size wB.heap.size nilV (axJ (joinT (ts.take 0)) (dimT (ts.take 0)) (fun _ => 0))) := Lib.hid ⟨⟨rfl, .inl ⟨rfl, rfl⟩⟩, fun g hg => by simp [Value.ownBlock] at hg, Nat.le_refl _⟩
  have N0 : Hid (NetV k p q (ts.take 0)) := Lib.hid (NetV.nil k p q)
  have hnn : n ≤ 1048576 := by rw [← HN.out]; exact HLN.out.1
  clear HWB
  go_loopw [6, 17] (fun u i wr => ∃ (j : Nat) (s : Int → Int), j ≤ n ∧ i = .int .i64 j ∧ Hid (NetV k p q (ts.take j)) ∧ Hid (OwnA wr wB.heap.size wr.heap.size u (axJ (joinT (ts.take j)) (dimT (ts.take j)) s)) ∧ Hid (Below wB.heap.size wB wr)) (fun _ i _ => n - (intOf i).toNat)
  case atStart => exact ⟨0, _, by omega, rfl, N0, O0, Lib.hid (Below.refl _ _)⟩
  case round =>
    clear O0 N0
    obtain ⟨j, s, hj, rfl, HV, HO, HB⟩ := hrel
    have hbw := HBB.out.trans (HB.out.mono HBB.out.size)
    have HBW := Lib.hid hbw
    obtain ⟨⟨r0, r1, r2⟩, b0, b1⟩ := HC.out
    have r0 := cell_kept2 HB.out r0
    have r1 := cell_kept2 HB.out r1
    have r2 := cell_kept2 HB.out r2
    have b0 := cell_kept2 HB.out b0
    have b1 := cell_kept2 HB.out b1
    clear hbw
    by_cases hlt : j < n
    · obtain ⟨t, ht⟩ : ∃ t, ts[j]? = some t := ⟨_, List.getElem?_eq_getElem (by rw [HN.out]; exact hlt)⟩
      obtain ⟨g', o', a1, v1, a2, v2, a3, v3, eg, hgt, k0, k1, k2, hT⟩ := (HTS.out.below HBW.out (Nat.le_refl _)).at ht
      cases eg
      have hle := HLN.out.2 t (List.mem_of_getElem? ht)
      have hti := HII.out t (List.mem_of_getElem? ht)
      obtain ⟨W8, hW8⟩ : ∃ W, W = wr.alloc (.cells #[.slice a1 t.1.length v1, .slice a2 t.2.1.length v2, .slice a3 t.2.2.length v3] 55) := ⟨_, rfl⟩
      have hb8 : Below wr.heap.size wr W8 := by rw [hW8]; exact (Below.refl _ _).alloc (Nat.le_refl _) _
      have h8c : W8.cell? ⟨wr.heap.size, 0, none⟩ = some (.slice a1 t.1.length v1) ∧ W8.cell? ⟨wr.heap.size, 1, none⟩ = some (.slice a2 t.2.1.length v2) ∧ W8.cell? ⟨wr.heap.size, 2, none⟩ = some (.slice a3 t.2.2.length v3) := by rw [hW8]; simp
      have HT8 : Hid (RdT W8.heap.size W8 (.slice a1 t.1.length v1) (.slice a2 t.2.1.length v2) (.slice a3 t.2.2.length v3) t.1 t.2.1 t.2.2) := Lib.hid ((hT.below hb8 HBW.out.size).mono3 (Nat.le_trans HBW.out.size hb8.size))
      have HE := Lib.hid (tensor_ok_impl (k := k) (p := p) (n := q) HT8.out (Nat.le_refl _) hle hti)
      have HTK := Lib.hid ht
      have HB8 := Lib.hid hb8
      obtain ⟨n1, hn1⟩ : ∃ x, x = t.1.length := ⟨_, rfl⟩
      obtain ⟨n2, hn2⟩ : ∃ x, x = t.2.1.length := ⟨_, rfl⟩
      obtain ⟨n3, hn3⟩ : ∃ x, x = t.2.2.length := ⟨_, rfl⟩
      rw [← hn1, ← hn2, ← hn3] at HE hW8 h8c HT8
      rw [← hn1] at k0
      rw [← hn2] at k1
      rw [← hn3] at k2
      have HW8 := Lib.hid hW8
      have gl : g' < wr.heap.size := Nat.lt_of_lt_of_le hgt HBW.out.size
      clear ht hT hgt hle hti hn1 hn2 hn3 hb8 hW8
      go_upto_region 5 with fail
      rw [← HW8.out]
      obtain ⟨c0, c1, c2⟩ := h8c
      have r0 := cell_kept2 HB8.out r0
      have r1 := cell_kept2 HB8.out r1
      have r2 := cell_kept2 HB8.out r2
      have b0 := cell_kept2 HB8.out b0
      have b1 := cell_kept2 HB8.out b1
      clear k0 k1 k2 gl HW8
      go_wp2_with fail
      refine HE.out.mono ?_
      rintro e W9 ⟨rfl, hb9⟩
      have c0 := cell_kept2 hb9 c0
      have c1 := cell_kept2 hb9 c1
      have c2 := cell_kept2 hb9 c2
      have b0 := cell_kept2 hb9 b0
      have b1 := cell_kept2 hb9 b1
      have HB9 := Lib.hid (HB8.out.trans (hb9.mono HB8.out.size))
      have HT9 := Lib.hid ((HT8.out.below hb9 (Nat.le_refl _)).mono3 hb9.size)
      clear r0 r1 r2 HE HT8 HB8 hb9
      cases hte : tensorB k p q t.1 t.2.1 t.2.2 with
      | false =>
        have hbe := HB.out.trans (HB9.out.mono HB.out.size)
        have z0 := HFR.out W9 0 hbe
        have z1 := HFR.out W9 1 hbe
        clear hbe
        go_wp2
        refine bodyPost_ret (v := .tuple #[.agg #[nilV, nilV], .bool false]) (by simp [results, Try.results85, go_sem, b0, b1]) rfl ?_
        refine .inr ⟨fun hv => (by have h1 := (hv j t HTK.out).1; rw [hte] at h1; cases h1), rfl, ?_⟩
        have h1 := HBW.out.trans (HB9.out.mono HBW.out.size)
        exact (h1.setCell (p := ⟨w.heap.size + 1, 0, none⟩) (by show w.heap.size ≤ w.heap.size + 1; omega) _).setCell (p := ⟨w.heap.size + 1, 1, none⟩) (by show w.heap.size ≤ w.heap.size + 1; omega) _
      | true =>
        have hax := tensorB_axes hte
        have hpa := sizeI_parts hax.2
        have HAX := Lib.hid hpa
        have HTE := Lib.hid hte
        have HAT := Lib.hid (HV.out.ax)
        clear hax hpa hte
        go_wp2_with fail
        refine (axes_impl HT9.out (Nat.le_refl _) (Nat.lt_of_le_of_lt (Nat.zero_le _) (World.block_lt_of_cell? _ _ c0)) HAX.out.1.2.1 HAX.out.1.1 HAX.out.1.2.2.2.1 HAX.out.2).mono ?_
        rintro e W10 ⟨ra, rfl, hoa, hb10⟩
        have c0 := cell_kept2 hb10 c0
        have b0 := cell_kept2 hb10 b0
        have b1 := cell_kept2 hb10 b1
        have HB10 := Lib.hid (HB9.out.trans (hb10.mono HB9.out.size))
        have hob := hoa.rd
        rw [axesL_map HAX.out.1.2.2.2.2] at hob
        have hJ := join_axes_impl (dimT (ts.take j)) s (dimI t.1 t.2.1) (stepI t.1 t.2.1) (nodup_joinT HAT.out) HAX.out.1.2.2.2.2 (Nat.le_trans (joinT_len HAT.out) (by omega)) (by have := HAX.out.1.1; omega) (HO.out.rd.below HB10.out (Nat.le_refl _)) hob HB10.out.size (Nat.le_refl _)
        have HJ := Lib.hid hJ
        clear hJ hob hoa hb10 c1 c2 HT9 HB9
        go_wp2_with fail
        refine HJ.out.mono ?_
        rintro e W11 (⟨hfit, u1, v1, rfl, ho1, -, hb11⟩ | ⟨hnf, rfl, hb11⟩)
        · have ha := (agree_fit HAT.out HAX.out.1.2.2.2.2).1 hfit
          have HV2 := Lib.hid (HV.out.next HTK.out HTE.out ha)
          rw [axF_net, show ts.take j ++ [t] = ts.take (j + 1) by rw [List.take_add_one, HTK.out]; rfl] at ho1
          have HB11 := Lib.hid (HB10.out.trans (hb11.mono HB10.out.size))
          have HO2 := Lib.hid (ho1.low (Nat.le_trans HB.out.size HB10.out.size) (Nat.le_refl _) (Nat.le_refl _))
          have HBE := Lib.hid (HB.out.trans (HB11.out.mono HB.out.size))
          clear ho1 hb11 hfit ha HJ c0 b0 b1
          go_wp2
          go_roundw
          case rel => exact ⟨j + 1, _, by omega, by go_num, HV2, HO2, HBE⟩
          case measure => simp [intOf]; omega
        · have b0 := cell_kept2 hb11 b0
          have b1 := cell_kept2 hb11 b1
          have HB11 := Lib.hid (HB10.out.trans (hb11.mono HB10.out.size))
          have hbe := HB.out.trans (HB11.out.mono HB.out.size)
          have z0 := HFR.out W11 0 hbe
          have z1 := HFR.out W11 1 hbe
          clear HJ hb11 c0 hbe
          go_wp2
          refine bodyPost_ret (v := .tuple #[.agg #[nilV, nilV], .bool false]) (by simp [results, Try.results85, go_sem, b0, b1]) rfl ?_
          refine .inr ⟨fun hv => hnf ((agree_fit HAT.out HAX.out.1.2.2.2.2).2 (hv j t HTK.out).2), rfl, ?_⟩
          have h1 := HBW.out.trans (HB11.out.mono HBW.out.size)
          exact (h1.setCell (p := ⟨w.heap.size + 1, 0, none⟩) (by show w.heap.size ≤ w.heap.size + 1; omega) _).setCell (p := ⟨w.heap.size + 1, 1, none⟩) (by show w.heap.size ≤ w.heap.size + 1; omega) _
    · obtain rfl : j = n := by omega
      have hAll : ts.take j = ts := List.take_of_length_le (by rw [HN.out]; exact Nat.le_refl _)
      rw [hAll] at HV HO
      have HAT := Lib.hid (HV.out.ax)
      have hS := sort_axes (fun n hn => inTs_range HAT.out (mem_joinT.1 hn)) HO.out HB.out.size (Nat.le_trans (joinT_len HAT.out) (by omega))
      rw [show sortL (joinT ts) = labT ts from labT_is HAT.out (sortL_sorted _) (sortL_perm _)] at hS
      have HS := Lib.hid hS
      have HLO : Hid (∀ g, u6.ownBlock = some g → wB.heap.size ≤ g) := Lib.hid (fun g hg => (HO.out.1.lt g hg).1)
      clear hS hlt r0 r1 r2 b0 b1
      go_wp2_with fail
      refine HS.out.mono ?_
      rintro e W2 ⟨rfl, hos, hg⟩
      obtain ⟨p6, c6, e6⟩ := hos.rd.form
      rw [axJ_len] at e6
      obtain ⟨m, hm⟩ : ∃ m, m = (labT ts).length := ⟨_, rfl⟩
      rw [← hm] at e6
      have HM := Lib.hid hm.symm
      have hm100 : m ≤ 100 := by rw [hm]; exact labT_len ts
      subst e6
      have HB2 := Lib.hid (HB.out.trans ((Below.refl wB.heap.size wr).grown hg HB.out.size HLO.out))
      have HOS := Lib.hid hos
      have hos_rd := hos.rd
      clear hos hg HS HO HB HLO
      clear hm
      obtain ⟨W3, hW3⟩ : ∃ W, W = W2.alloc (.cells #[nilV, nilV] 68) := ⟨_, rfl⟩
      obtain ⟨g12, hg12⟩ : ∃ x, x = W2.heap.size := ⟨_, rfl⟩
      have HG12 := Lib.hid hg12
      have R0 : Hid (Rs W2 W3 [] [(.slice none 0 0, (labT ts).take 0), (.slice none 0 0, ((labT ts).map (dimT ts)).take 0)]) := Lib.hid (by rw [hW3]; exact (((Rs.start W2).alloc _).nil).nil)
      have T0 : Hid (BxT W2 W3 g12 [(.slice none 0 0, (labT ts).take 0), (.slice none 0 0, ((labT ts).map (dimT ts)).take 0)] (.slice none 0 0) (.slice none 0 0)) := Lib.hid (by
        rw [hW3, hg12]
        exact ⟨by simp, by simp, fun j => by rw [World.frozen?_alloc_at _ _ _ _ rfl], by simp, Nat.le_refl _, fun r hr => by simp at hr; rcases hr with rfl | rfl <;> simp [Value.ownBlock]⟩)
      have HW3 := Lib.hid hW3
      obtain ⟨i0, hi0, hz0, hz1, hz2⟩ := info_parts infoInt
      have J0 := Lib.hid hi0
      have J1 := Lib.hid hz0
      have J2 := Lib.hid hz1
      have J3 := Lib.hid hz2
      have HAX := Lib.hid hos_rd
      clear hW3 hg12 hi0 hz0 hz1 hz2 hos_rd
      go_upto_region 15 with fail
      rw [← HW3.out, ← HG12.out]
      clear HW3
      go_loopw [43] (fun i wr => ∃ (jj : Nat) (ga gb : Option Addr) (ca cb : Nat), jj ≤ m ∧ i = .int .i64 jj ∧ Hid (Rs W2 wr [] [(.slice ga jj ca, (labT ts).take jj), (.slice gb jj cb, ((labT ts).map (dimT ts)).take jj)]) ∧ Hid (BxT W2 wr g12 [(.slice ga jj ca, (labT ts).take jj), (.slice gb jj cb, ((labT ts).map (dimT ts)).take jj)] (.slice ga jj ca) (.slice gb jj cb))) (fun i _ => m - (intOf i).toNat)
      case atStart => exact ⟨0, none, none, 0, 0, by omega, rfl, R0, T0⟩
      case round =>
        clear R0 T0
        obtain ⟨jj, ga, gb, ca, cb, hjj, rfl, HR, HT2⟩ := hrel
        by_cases hlt2 : jj < m
        · obtain ⟨x, hx⟩ : ∃ x, (labT ts)[jj]? = some x := ⟨_, List.getElem?_eq_getElem (by rw [HM.out]; exact hlt2)⟩
          obtain ⟨dx, hdx⟩ : ∃ d, d = dimT ts x := ⟨_, rfl⟩
          obtain ⟨sx, hsx⟩ : ∃ d, d = s x := ⟨_, rfl⟩
          have hAx : (axJ (labT ts) (dimT ts) s)[jj]? = some (x, dx, sx) := by unfold axJ; rw [List.getElem?_map, hx, hdx, hsx]; rfl
          obtain ⟨b1, o1, rfl, hb1, k0, k1, k2⟩ := (HAX.out.below HR.out.bel (Nat.le_refl _)).at hAx
          have hb1 : b1 < wr.heap.size := Nat.lt_of_lt_of_le hb1 HR.out.bel.size
          obtain ⟨W4, hW4⟩ : ∃ W, W = wr.alloc (.cells #[.int .i64 x, .int .i64 dx, .int .i64 sx] 111) := ⟨_, rfl⟩
          have hb4 : Below wr.heap.size wr W4 := by rw [hW4]; exact (Below.refl _ _).alloc (Nat.le_refl _) _
          have c4 : W4.cell? ⟨wr.heap.size, 0, none⟩ = some (.int .i64 x) ∧ W4.cell? ⟨wr.heap.size, 1, none⟩ = some (.int .i64 dx) := by rw [hW4]; simp
          have R4 := Lib.hid (HR.out.step hb4)
          have T4 := Lib.hid (HT2.out.step hb4)
          have hl4 : wr.heap.size < W4.heap.size := by rw [hW4]; simp
          have U4 : Hid (BxT W2 W4 wr.heap.size [(.slice ga jj ca, (labT ts).take jj), (.slice gb jj cb, ((labT ts).map (dimT ts)).take jj)] (.int .i64 x) (.int .i64 dx)) := Lib.hid ⟨c4.1, c4.2, fun j => by rw [hW4, World.frozen?_alloc_at _ _ _ _ rfl], hl4, HR.out.bel.size, fun r hr e => Nat.lt_irrefl _ ((HR.out.own r hr).lt _ e).2⟩
          have EX : Hid ((labT ts).take (jj + 1) = (labT ts).take jj ++ [x]) := Lib.hid (by rw [List.take_add_one, hx]; rfl)
          have ED : Hid (((labT ts).map (dimT ts)).take (jj + 1) = ((labT ts).map (dimT ts)).take jj ++ [dx]) := Lib.hid (by rw [List.take_add_one, List.getElem?_map, hx, hdx]; rfl)
          have LX : Hid (((labT ts).take jj).length = jj) := Lib.hid (by rw [List.length_take, HM.out]; omega)
          have LD : Hid ((((labT ts).map (dimT ts)).take jj).length = jj) := Lib.hid (by rw [List.length_take, List.length_map, HM.out]; omega)
          have HG4 : Hid (wr.heap.size ≠ g12) := Lib.hid (by have := HT2.out.lt; omega)
          have HW4 := Lib.hid hW4
          clear hW4 hb4 hx hdx hsx hAx
          go_upto_region 17 with fail
          rw [← HW4.out]
          clear k0 k1 k2 hb1 HW4 HR HT2
          obtain ⟨c40, c41⟩ := c4
          have t0 := T4.out.c0
          have A5 := Lib.hid (R4.out.alloc (.cells #[.int .i64 x] 3))
          have O5 := Lib.hid (A5.out.row (v := .slice ga jj ca) (List.mem_cons_self) LX.out)
          go_wp2_with (at_builtin; go_must (refine wpList_append_lies _ rfl _ _ 25 rfl W2.heap.size 3 i0 (.int .i64 0) 1 8 Try.underlying25 J0.out J1.out J2.out J3.out rfl (by decide) _ jj (ints ((labT ts).take jj)) rfl O5.out ⟨W4.heap.size, 0, none⟩ 1 1 [.int .i64 x] rfl rfl (cell_one_new _ _ _) ?c2 (by decide) ?c3 ?c4 ?c5 _ rfl ?_))
          case c2 => first | rfl | (intro u hu; simp at hu; subst hu; rfl)
          case c3 => unfold maxLen; omega
          case c4 => omega
          case c5 => exact A5.out.bel.size
          intro g1 cap1 w5 hown hgrow hl1 _
          have hR5 := A5.out.app1 LX.out hown hgrow (by rw [World.size_alloc]; exact hl1)
          rw [← EX.out] at hR5
          have R5 := Lib.hid hR5
          have T5 := Lib.hid (T4.out.app (ys := (labT ts).take (jj + 1)) (n1 := jj + 1) (k1 := cap1) hgrow hl1)
          have U5 := Lib.hid (U4.out.app (ys := (labT ts).take (jj + 1)) (n1 := jj + 1) (k1 := cap1) hgrow hl1)
          obtain ⟨w6, hw6⟩ : ∃ W, W = w5.setCell ⟨g12, 0, none⟩ (.slice (some ⟨g1, 0, none⟩) (jj + 1) cap1) := ⟨_, rfl⟩
          have R6 : Hid (Rs W2 w6 [] _) := Lib.hid (by rw [hw6]; exact (hR5.else T5.out.lo (by simp) T5.out.ap 0 _).swap)
          have T6 : Hid (BxT W2 w6 g12 _ _ _) := Lib.hid (by rw [hw6]; exact (T5.out.put0 _).swap)
          have U6 : Hid (BxT W2 w6 wr.heap.size _ _ _) := Lib.hid (by rw [hw6]; exact (U5.out.far HG4.out 0 _).swap)
          have HW6 := Lib.hid hw6
          have s0 := T5.out.c0
          have s1 := T5.out.fr 0
          clear hown hgrow hl1 hR5 hw6 A5 O5 R4 T4 U4 c40 c41 t0
          go_upto_region 18 with fail
          rw [← HW6.out]
          clear s0 s1 R5 T5 U5 HW6
          have t1 := T6.out.c1
          have c1 := U6.out.c1
          have A7 := Lib.hid (R6.out.alloc (.cells #[.int .i64 dx] 3))
          have O7 := Lib.hid (A7.out.row (v := .slice gb jj cb) (List.mem_cons_self) LD.out)
          go_wp2_with (at_builtin; go_must (refine wpList_append_lies _ rfl _ _ 25 rfl W2.heap.size 3 i0 (.int .i64 0) 1 8 Try.underlying25 J0.out J1.out J2.out J3.out rfl (by decide) _ jj (ints (((labT ts).map (dimT ts)).take jj)) rfl O7.out ⟨w6.heap.size, 0, none⟩ 1 1 [.int .i64 dx] rfl rfl (cell_one_new _ _ _) ?c2 (by decide) ?c3 ?c4 ?c5 _ rfl ?_))
          case c2 => first | rfl | (intro u hu; simp at hu; subst hu; rfl)
          case c3 => unfold maxLen; omega
          case c4 => omega
          case c5 => exact A7.out.bel.size
          intro g2 cap2 w7 hown hgrow hl1 _
          have hR7 := A7.out.app1 LD.out hown hgrow (by rw [World.size_alloc]; exact hl1)
          rw [← ED.out] at hR7
          have T7 := Lib.hid (T6.out.app (ys := ((labT ts).map (dimT ts)).take (jj + 1)) (n1 := jj + 1) (k1 := cap2) hgrow hl1)
          have R8 := Lib.hid ((hR7.else T7.out.lo (by simp) T7.out.ap 1 (.slice (some ⟨g2, 0, none⟩) (jj + 1) cap2)).swap)
          have T8 := Lib.hid ((T7.out.put1 (.slice (some ⟨g2, 0, none⟩) (jj + 1) cap2)).swap)
          have s0 := T7.out.c1
          have s1 := T7.out.fr 1
          clear hown hgrow hl1 hR7 A7 O7 R6 T6 U6 T7 t1 c1
          go_wp2
          go_roundw
          case rel => exact ⟨jj + 1, some ⟨g1, 0, none⟩, some ⟨g2, 0, none⟩, cap1, cap2, by omega, by go_num, R8, T8⟩
          case measure => simp [intOf]; omega
        · obtain rfl : jj = m := by omega
          have e1 : (labT ts).take jj = labT ts := List.take_of_length_le (by rw [HM.out]; exact Nat.le_refl _)
          have e2 : ((labT ts).map (dimT ts)).take jj = ((labT ts).map (dimT ts)) := List.take_of_length_le (by rw [List.length_map, HM.out]; exact Nat.le_refl _)
          rw [e1, e2] at HR HT2
          have hbe := HB2.out.trans (HR.out.bel.mono HB2.out.size)
          have b0 := cell_kept2 hbe HC.out.2.1
          have b1 := cell_kept2 hbe HC.out.2.2
          have z0 := HFR.out wr 0 hbe
          have z1 := HFR.out wr 1 hbe
          have t0 := HT2.out.c0
          have t1 := HT2.out.c1
          have hfar : ∀ r ∈ ([(.slice ga jj ca, labT ts), (.slice gb jj cb, ((labT ts).map (dimT ts)))] : List RowE), r.1.ownBlock ≠ some (w.heap.size + 1) := fun r hr e => by
            have h1 := ((HR.out.own r hr).lt _ e).1
            have h2 := HB2.out.size
            have h3 := HZ.out
            omega
          have RF := Lib.hid (((HR.out.low (HBB.out.trans (HB2.out.mono HBB.out.size))).else (Nat.le_succ _) (by simp) hfar 0 (.slice ga jj ca)).else (Nat.le_succ _) (by simp) hfar 1 (.slice gb jj cb))
          clear hbe hfar e1 e2 HR HT2
          go_wp2
          refine bodyPost_ret (v := .tuple #[.agg #[.slice ga jj ca, .slice gb jj cb], .bool true]) (by simp [results, Try.results85, go_sem, b0, b1]) rfl ?_
          exact .inl ⟨HV.out, _, _, rfl, RF.out.ownG, RF.out.bel⟩
end Go.Proofs.Ytdheakjjnaifkaa
namespace Go.Proofs.Ytdheakjjnaifkaa
set_option maxRecDepth 20000
open Go.RowKit

theorem dim_found {ts : List TenE} (h : AxT ts) (x : Int) : (cK (labT ts) ((labT ts).map (dimT ts)) x).getD 0 = dimT ts x := by
  unfold cK
  by_cases hx : x ∈ labT ts
  · rw [if_pos hx]
    have h1 := List.idxOf_lt_length_iff.2 hx
    simp [List.getElem?_eq_getElem h1]
  · rw [if_neg hx, not_inTs (fun h1 => hx ((mem_labT h).2 h1))]
    rfl
set_option maxHeartbeats 6400000 in
theorem can_full {B n co : Nat} {po : Option Addr} {kv vv : Value} {ts : List TenE} {O : List Int} {w : World} (ho : Rd B w (.slice po n co) (ints O)) (hk : Rd B w kv (ints (labT ts))) (hv : Rd B w vv (ints ((labT ts).map (dimT ts)))) (hB : B ≤ w.heap.size) (hn : O.length = n) (hnn : n ≤ 1048576) (hax : AxT ts) (hI : allI O) :
    Calls Try.prog 74 #[.slice po n co, .agg #[kv, vv]] w fun e w' => e = .returned (.bool (decide (0 ≤ sizeI O (O.map (dimT ts))))) ∧ Below w.heap.size w w' := by
  obtain ⟨z, hz⟩ : ∃ z, z = sizeI O (O.map (dimT ts)) := ⟨_, rfl⟩
  rw [← hz]
  have HZZ := Lib.hid hz
  obtain ⟨ak, ck, rfl, -⟩ := ints_form hk
  obtain ⟨av, cv, rfl, -⟩ := ints_form hv
  obtain ⟨m, hm⟩ : ∃ m, m = (labT ts).length := ⟨_, rfl⟩
  rw [List.length_map] at hv ⊢
  rw [← hm] at hk hv ⊢
  obtain ⟨w1, hw1⟩ : ∃ W, W = w.alloc (.cells #[.slice ak m ck, .slice av m cv] 68) := ⟨_, rfl⟩
  have hb1 : Below w.heap.size w w1 := by rw [hw1]; exact (Below.refl _ _).alloc (Nat.le_refl _) _
  have hc : w1.cell? ⟨w.heap.size, 0, none⟩ = some (.slice ak m ck) ∧ w1.cell? ⟨w.heap.size, 1, none⟩ = some (.slice av m cv) := by rw [hw1]; simp
  have R0 : Hid (Rs w1 (w1.alloc (.cells #[.slice po n co, nilV, nilV] 55)) [(w1.heap.size, .slice po n co, .slice none 0 0, nilV)] [(.slice none 0 0, (O.map (dimT ts)).take 0)]) := Lib.hid (((Rs.start w1).box _ _ _ _).nil)
  obtain ⟨g5, hg5⟩ : ∃ x, x = w.heap.size + 1 := ⟨_, rfl⟩
  rw [show w1.heap.size = g5 by rw [hg5, hw1]; simp] at R0
  have HG5 := Lib.hid hg5
  have HO := Lib.hid ((ho.below hb1 hB).mono (Nat.le_trans hB hb1.size))
  have HK := Lib.hid ((hk.below hb1 hB).mono (Nat.le_trans hB hb1.size))
  have HV := Lib.hid ((hv.below hb1 hB).mono (Nat.le_trans hB hb1.size))
  have HN := Lib.hid hn
  have HI := Lib.hid hI
  have HAX := Lib.hid hax
  have HM := Lib.hid hm.symm
  have HC := Lib.hid hc
  have HB1 := Lib.hid hb1
  have HW1 := Lib.hid hw1
  obtain ⟨i0, hi0, hz0, hz1, hz2⟩ := info_parts infoInt
  have J0 := Lib.hid hi0
  have J1 := Lib.hid hz0
  have J2 := Lib.hid hz1
  have J3 := Lib.hid hz2
  clear ho hk hv hB hn hax hI hm hw1 hb1 hc hg5 hz hi0 hz0 hz1 hz2
  go_enter Try.func74, Try.ntmps74
  go_upto_region 3 with fail
  rw [← HW1.out]
  rw [← HG5.out]
  clear HW1
  obtain ⟨W2, hW2⟩ : ∃ W, W = w1.alloc (.cells #[.slice po n co, nilV, nilV] 55) := ⟨_, rfl⟩
  have HW2 := Lib.hid hW2
  rw [← hW2] at R0
  clear hW2
  rw [← HW2.out]
  clear HW2
  go_loopw [14] (fun i wr => ∃ (j : Nat) (ga : Option Addr) (ca : Nat), j ≤ n ∧ i = .int .i64 j ∧ Hid (Rs w1 wr [(g5, .slice po n co, .slice ga j ca, nilV)] [(.slice ga j ca, (O.map (dimT ts)).take j)])) (fun i _ => n - (intOf i).toNat)
  case atStart => exact ⟨0, none, 0, by omega, rfl, R0⟩
  case round =>
    clear R0
    obtain ⟨j, ga, ca, hj, rfl, HR⟩ := hrel
    by_cases hlt : j < n
    · obtain ⟨x, hx⟩ : ∃ x, O[j]? = some x := ⟨_, List.getElem?_eq_getElem (by rw [HN.out]; exact hlt)⟩
      obtain ⟨b1, off, rfl, hb, e1⟩ := (HO.out.below HR.out.bel (Nat.le_refl _)).cellAt hx
      have c0 := cell_kept2 HR.out.bel HC.out.1
      have c1 := cell_kept2 HR.out.bel HC.out.2
      have LD : Hid (((O.map (dimT ts)).take j).length = j) := Lib.hid (by rw [List.length_take, List.length_map, HN.out]; omega)
      have ED : Hid ((O.map (dimT ts)).take (j + 1) = (O.map (dimT ts)).take j ++ [dimT ts x]) := Lib.hid (by rw [List.take_add_one, List.getElem?_map, hx]; rfl)
      have HF := Lib.hid (find_int x ((HK.out.below HR.out.bel (Nat.le_refl _)).mono HR.out.bel.size) ((HV.out.below HR.out.bel (Nat.le_refl _)).mono HR.out.bel.size) (Nat.le_refl _) (by rw [List.length_map]) (by rw [HM.out]; have := labT_len ts; have := HM.out; omega))
      rw [dim_found HAX.out] at HF
      obtain ⟨dx, hdx⟩ : ∃ d, d = dimT ts x := ⟨_, rfl⟩
      obtain ⟨fb, hfb⟩ : ∃ f, f = (cK (labT ts) ((labT ts).map (dimT ts)) x).isSome := ⟨_, rfl⟩
      rw [← hdx] at HF ED
      rw [← hfb] at HF
      clear hx hdx hfb hb
      go_wp2_with fail
      refine HF.out.mono ?_
      rintro e w3 ⟨rfl, hb3⟩
      have R3 := Lib.hid (HR.out.step hb3)
      obtain ⟨⟨f0, f1, f2⟩, q0, q1, q2⟩ := R3.out.at (r := g5) (a := .slice (some ⟨b1, off, none⟩) n co) (b := .slice ga j ca) (c := nilV) (by simp)
      clear hb3 HF HR c0 c1 e1
      have A5 := Lib.hid (R3.out.alloc (.cells #[.int .i64 dx] 3))
      have O5 := Lib.hid (A5.out.row (v := .slice ga j ca) (List.mem_cons_self) LD.out)
      go_wp2_with (at_builtin; go_must (refine wpList_append_lies _ rfl _ _ 25 rfl w1.heap.size 3 i0 (.int .i64 0) 1 8 Try.underlying25 J0.out J1.out J2.out J3.out rfl (by decide) _ j (ints ((O.map (dimT ts)).take j)) rfl O5.out ⟨w3.heap.size, 0, none⟩ 1 1 [.int .i64 dx] rfl rfl (cell_one_new _ _ _) ?c2 (by decide) ?c3 ?c4 ?c5 _ rfl ?_))
      case c2 => first | rfl | (intro u hu; simp at hu; subst hu; rfl)
      case c3 => unfold maxLen; omega
      case c4 => omega
      case c5 => exact A5.out.bel.size
      intro g1 cap1 w5 hown hgrow hl1 _
      have hR5 := A5.out.app1 LD.out hown hgrow (by rw [World.size_alloc]; exact hl1)
      rw [← ED.out] at hR5
      obtain ⟨⟨f0, f1, f2⟩, q0, q1, q2⟩ := hR5.at (r := g5) (a := .slice (some ⟨b1, off, none⟩) n co) (b := .slice ga j ca) (c := nilV) (by simp)
      have R6 := Lib.hid (hR5.setB 1 (.slice (some ⟨g1, 0, none⟩) (j + 1) cap1))
      clear hown hgrow hl1 hR5 A5 O5 R3
      go_wp2
      go_roundw
      case rel => exact ⟨j + 1, some ⟨g1, 0, none⟩, cap1, by omega, by go_num, R6⟩
      case measure => simp [intOf]; omega
    · obtain rfl : j = n := by omega
      have e2 : (O.map (dimT ts)).take j = O.map (dimT ts) := List.take_of_length_le (by rw [List.length_map, HN.out]; exact Nat.le_refl _)
      rw [e2] at HR
      obtain ⟨⟨f0, f1, f2⟩, -⟩ := HR.out.at (r := g5) (a := .slice po j co) (b := .slice ga j ca) (c := nilV) (by simp)
      have HSZ := Lib.hid (size_impl (lv := .slice po j co) (dv := .slice ga j ca) (xv := nilV) (L := O) (D := O.map (dimT ts)) (X := []) (w := wr) ⟨(HO.out.below HR.out.bel (Nat.le_refl _)).mono HR.out.bel.size, HR.out.rd (by simp), .inl ⟨rfl, none, 0, rfl⟩⟩ (Nat.le_refl _) ⟨by have := HN.out; omega, by have := HN.out; simp; omega, by simp⟩ HI.out)
      rw [← HZZ.out] at HSZ
      clear e2 hlt
      go_wp2_with fail
      refine HSZ.out.mono ?_
      rintro e w3 ⟨rfl, hb3⟩
      have HB9 := Lib.hid (HB1.out.trans ((HR.out.bel.trans (hb3.mono HR.out.bel.size)).mono HB1.out.size))
      clear hb3 HSZ HR f0 f1 f2
      go_wp2
      go_ret
      exact ⟨rfl, HB9.out⟩
end Go.Proofs.Ytdheakjjnaifkaa
namespace Go.Proofs.Ytdheakjjnaifkaa
set_option maxRecDepth 20000
open Go.RowKit

/-- What checkNetwork answers: a box of seven cells, or nil. -/
def CheckP (w : World) (k p q : Int) (ts : List TenE) (O : List Int) (tv ov : Value) (e : Ending) (w' : World) : Prop :=
  (NetOk k p q ts O ∧ ∃ (g : Nat) (a b : Value), e = .returned (.pointer (some ⟨g, 0, none⟩)) ∧ w.heap.size ≤ g ∧
    (w'.cell? ⟨g, 0, none⟩ = some (.int .i64 k) ∧ w'.cell? ⟨g, 1, none⟩ = some (.int .i64 p) ∧ w'.cell? ⟨g, 2, none⟩ = some (.int .i64 q) ∧ w'.cell? ⟨g, 3, none⟩ = some tv ∧ w'.cell? ⟨g, 4, none⟩ = some ov ∧ w'.cell? ⟨g, 5, none⟩ = some a ∧ w'.cell? ⟨g, 6, none⟩ = some b) ∧
    OwnG w' w.heap.size w'.heap.size [(a, labT ts), (b, (labT ts).map (dimT ts))] ∧ (∀ r ∈ ([(a, labT ts), (b, (labT ts).map (dimT ts))] : List RowE), r.1.ownBlock ≠ some g) ∧ Below w.heap.size w w') ∨
  (¬ NetOk k p q ts O ∧ e = .returned (.pointer none) ∧ Below w.heap.size w w')

set_option maxHeartbeats 6400000 in
theorem check_full {B n cap m co : Nat} {pa po : Option Addr} {k p q : Int} {ts : List TenE} {O : List Int} {w : World} (ha : RdTs B w (.slice pa n cap) ts) (ho : Rd B w (.slice po m co) (ints O)) (hB : B ≤ w.heap.size) (hn : ts.length = n) (hl : LenTs ts) (hI : ∀ t ∈ ts, allI t.1) (hm : O.length = m) (hmm : m ≤ 1048576) (hJ : allI O) :
    Calls Try.prog 51 #[netV k p q (.slice pa n cap) (.slice po m co)] w (CheckP w k p q ts O (.slice pa n cap) (.slice po m co)) := by
  obtain ⟨w1, hw1⟩ : ∃ W, W = w.alloc (.cells #[.int .i64 k, .int .i64 p, .int .i64 q, .slice pa n cap, .slice po m co] 33) := ⟨_, rfl⟩
  have hb1 : Below w.heap.size w w1 := by rw [hw1]; exact (Below.refl _ _).alloc (Nat.le_refl _) _
  have hc : w1.cell? ⟨w.heap.size, 0, none⟩ = some (.int .i64 k) ∧ w1.cell? ⟨w.heap.size, 1, none⟩ = some (.int .i64 p) ∧ w1.cell? ⟨w.heap.size, 2, none⟩ = some (.int .i64 q) ∧ w1.cell? ⟨w.heap.size, 3, none⟩ = some (.slice pa n cap) ∧ w1.cell? ⟨w.heap.size, 4, none⟩ = some (.slice po m co) := by rw [hw1]; simp
  have HTS := Lib.hid ((ha.below hb1 hB).mono (Nat.le_trans hB hb1.size))
  have HO := Lib.hid ((ho.below hb1 hB).mono (Nat.le_trans hB hb1.size))
  have HN := Lib.hid hn
  have HLN := Lib.hid hl
  have HII := Lib.hid hI
  have HM := Lib.hid hm
  have HMM := Lib.hid hmm
  have HJ := Lib.hid hJ
  have HC := Lib.hid hc
  have HB1 := Lib.hid hb1
  have HW1 := Lib.hid hw1
  clear ha ho hB hn hl hI hm hmm hJ hc hb1 hw1
  go_enter Try.func51, Try.ntmps51
  go_upto_region 1 with fail
  rw [← HW1.out]
  clear HW1
  obtain ⟨c0, c1, c2, c3, c4⟩ := HC.out
  go_wp2_with fail
  refine (ring_ok_impl k p q w1).mono ?_
  rintro e w2 ⟨rfl, hb2⟩
  have c0 := cell_kept2 hb2 c0
  have c1 := cell_kept2 hb2 c1
  have c2 := cell_kept2 hb2 c2
  have c3 := cell_kept2 hb2 c3
  have c4 := cell_kept2 hb2 c4
  have HB2 := Lib.hid hb2
  have HBT := Lib.hid (HB1.out.trans (hb2.mono HB1.out.size))
  clear hb2
  cases hr : ringB k p q with
  | false =>
    go_wp2
    go_ret
    exact .inr ⟨fun h => (by have h1 := h.1; rw [hr] at h1; cases h1), rfl, HBT.out⟩
  | true =>
    have HR := Lib.hid hr
    clear hr
    by_cases h12 : n ≤ 12
    · have q12 : decide ((12 : Int) < (n : Int)) = false := by simp; omega
      have HCM := Lib.hid (common_full (k := k) (p := p) (q := q) ((HTS.out.below HB2.out (Nat.le_refl _)).mono HB2.out.size) (Nat.le_refl _) HN.out HLN.out HII.out)
      go_wp2_with fail
      refine HCM.out.mono ?_
      rintro e w3 (⟨hv, a, b, rfl, hab, hb3⟩ | ⟨hnv, rfl, hb3⟩)
      · have R3 := Lib.hid (((Rs.start w).step HBT.out).new2 hb3 hab)
        obtain ⟨a1, e1, rfl, -⟩ := ints_form (R3.out.rd (v := a) (xs := labT ts) (by simp))
        obtain ⟨a2, e2, rfl, -⟩ := ints_form (R3.out.rd (v := b) (xs := (labT ts).map (dimT ts)) (by simp))
        obtain ⟨n1, hn1⟩ : ∃ x, x = (labT ts).length := ⟨_, rfl⟩
        obtain ⟨n2, hn2⟩ : ∃ x, x = ((labT ts).map (dimT ts)).length := ⟨_, rfl⟩
        rw [← hn1, ← hn2] at R3 ⊢
        obtain ⟨W4, hW4⟩ : ∃ W, W = w3.alloc (.cells #[.slice a1 n1 e1, .slice a2 n2 e2] 68) := ⟨_, rfl⟩
        have hb4 : Below w2.heap.size w2 W4 := by rw [hW4]; exact hb3.alloc hb3.size _
        have h4c : W4.cell? ⟨w3.heap.size, 0, none⟩ = some (.slice a1 n1 e1) ∧ W4.cell? ⟨w3.heap.size, 1, none⟩ = some (.slice a2 n2 e2) := by rw [hW4]; simp
        have R4 : Hid (Rs w W4 [] _) := Lib.hid (by rw [hW4]; exact R3.out.alloc _)
        have HE := Lib.hid (can_full (ts := ts) (w := W4) ((HO.out.below (HB2.out.trans (hb4.mono HB2.out.size)) (Nat.le_refl _)).mono (Nat.le_trans HB2.out.size hb4.size)) (R4.out.rd (v := .slice a1 n1 e1) (xs := labT ts) (by simp)) (R4.out.rd (v := .slice a2 n2 e2) (xs := (labT ts).map (dimT ts)) (by simp)) (Nat.le_refl _) HM.out HMM.out hv.ax HJ.out)
        obtain ⟨z, hz⟩ : ∃ z, z = decide (0 ≤ sizeI O (O.map (dimT ts))) := ⟨_, rfl⟩
        rw [← hz] at HE
        have HV := Lib.hid hv
        have HZ := Lib.hid hz
        have HB4 := Lib.hid hb4
        have HW4 := Lib.hid hW4
        clear hv hab hb3 hn1 hn2 hW4 hz R3 HCM
        go_upto_region 4 with fail
        rw [← HW4.out]
        have c0 := cell_kept2 hb4 c0
        have c1 := cell_kept2 hb4 c1
        have c2 := cell_kept2 hb4 c2
        have c3 := cell_kept2 hb4 c3
        have c4 := cell_kept2 hb4 c4
        obtain ⟨c5, c6⟩ := h4c
        clear HW4 hb4
        go_wp2_with fail
        refine HE.out.mono ?_
        rintro e w5 ⟨rfl, hb5⟩
        have c0 := cell_kept2 hb5 c0
        have c1 := cell_kept2 hb5 c1
        have c2 := cell_kept2 hb5 c2
        have c3 := cell_kept2 hb5 c3
        have c4 := cell_kept2 hb5 c4
        have c5 := cell_kept2 hb5 c5
        have c6 := cell_kept2 hb5 c6
        have R5 := Lib.hid (R4.out.step hb5)
        clear hb5 HE R4
        cases z with
        | false =>
          go_wp2
          go_ret
          exact .inr ⟨fun h => (by have h1 := HZ.out; rw [decide_eq_true h.2.2.2] at h1; cases h1), rfl, R5.out.bel⟩
        | true =>
          have R6 := Lib.hid (R5.out.alloc (.cells #[.int .i64 k, .int .i64 p, .int .i64 q, .slice pa n cap, .slice po m co, .slice a1 n1 e1, .slice a2 n2 e2] 70))
          go_wp2
          go_ret
          exact .inl ⟨⟨HR.out, by rw [HN.out]; exact h12, HV.out, of_decide_eq_true HZ.out.symm⟩, w5.heap.size, _, _, rfl, R5.out.bel.size, by simp, R6.out.ownG, fun r hr e => Nat.lt_irrefl _ ((R5.out.own r hr).lt _ e).2, R6.out.bel⟩
      · have hbe := (HBT.out.trans (hb3.mono HBT.out.size)).alloc (Nat.le_trans HBT.out.size hb3.size) (.cells #[nilV, nilV] 68)
        have HBE := Lib.hid hbe
        clear hbe hb3 HCM
        go_wp2
        go_ret
        exact .inr ⟨fun h => hnv h.2.2.1, rfl, HBE.out⟩
    · have q12 : decide ((12 : Int) < (n : Int)) = true := by simp; omega
      go_wp2
      go_ret
      exact .inr ⟨fun h => by have := h.2.1; have := HN.out; omega, rfl, HBT.out⟩
end Go.Proofs.Ytdheakjjnaifkaa
