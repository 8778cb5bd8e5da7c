
/- spec.l05Fill, l05Draw, MakeTensor. -/
import Derived.Test.YtgabcdploeledaaRs
import Derived.Test.YtgabcdploeledaaDrawLabels
import Derived.Test.YtgabcdploeledaaZeroTen
import Derived.Test.YtgabcdploeledaaPermSpec
namespace Go.Proofs.Ytgabcdploeledaa
set_option maxRecDepth 20000
open Go.RowKit

theorem repL_within {t : Int} {z : List Int} (h : Within t z) (N : Nat) : Within t (repL z N) := by
  intro x hx
  unfold repL at hx
  rw [List.mem_flatten] at hx
  obtain ⟨l, hl, hx⟩ := hx
  rw [List.eq_of_mem_replicate hl] at hx
  exact h x hx
theorem putL_len2 {X x : List Int} {s : Nat} (h : s + x.length ≤ X.length) : (putL X s x).length = X.length := by unfold putL; simp only [List.length_append, List.length_take, List.length_drop]; omega
theorem putL_within {t : Int} {X x : List Int} {s : Nat} (h : Within t X) (h2 : Within t x) : Within t (putL X s x) := by
  intro y hy
  unfold putL at hy
  rcases List.mem_append.1 hy with hy | hy
  · rcases List.mem_append.1 hy with hy | hy
    · exact h y (List.mem_of_mem_take hy)
    · exact h2 y hy
  · exact h y (List.mem_of_mem_drop hy)
/-- What a tensor that is drawn is told. -/
def FillPost (cb B : Nat) (v : Value) (bts : List UInt8) (k p q : Int) (L D : List Int) (w : World) (e : Ending) (w' : World) : Prop :=
  ∃ l' d' x' X, e = .returned (tenV l' d' x') ∧ (X.length : Int) = prodL D * widthI k q ∧ Within (topI k p q) X ∧ OwnG w' w.heap.size w'.heap.size [(l', L), (d', D), (x', X)] ∧ CurOk w' cb B v bts ∧ KeptOut w w' cb (cb + 1)
set_option maxHeartbeats 3200000 in
theorem draw_fill {cb B : Nat} {v lv dv : Value} {bts : List UInt8} {k p q : Int} {L D : List Int} {w : World} (N : Nat) (hr : ringB k p q = true) (hc : CurOk w cb B v bts) (hl : ∀ w', KeptOut w w' cb (cb + 1) → Rd w.heap.size w' lv (ints L)) (hd : ∀ w', KeptOut w w' cb (cb + 1) → Rd w.heap.size w' dv (ints D)) (h1 : L.length ≤ 12) (h2 : D.length ≤ 12) (hD : ∀ d ∈ D, 1 ≤ d ∧ d ≤ 8) (hN : prodL D = (N : Int)) (hN2 : N ≤ 4096) :
    Calls Try.prog 133 #[.pointer (some ⟨cb, 0, none⟩), ringV k p q, lv, dv] w (FillPost cb B v bts k p q L D w) := by
  have HL := Lib.hid hl
  have HD := Lib.hid hd
  have HRB := Lib.hid hr
  have HD8 := Lib.hid hD
  have HN := Lib.hid hN
  obtain ⟨wd, hwd, hwd1, hwd2⟩ := width_nat hr
  have HWD := Lib.hid hwd
  have hcap : capI D = (N : Int) := by
    have h3 := (capI_is (fun d hd => (hD d hd).1)).1
    have hp := prodL_pos (D := D) (fun d hd => (hD d hd).1)
    rw [h3, hN]; omega
  have HCAP := Lib.hid hcap
  have C0 := Lib.hid (((RsC.start hc).box (.int .i64 k) (.int .i64 p) (.int .i64 q) 31).box nilV nilV nilV 28)
  have C1 : Hid (RsC w ((w.alloc (.cells #[.int .i64 k, .int .i64 p, .int .i64 q] 31)).alloc (.cells #[nilV, nilV, nilV] 28)) cb B v bts [(w.heap.size + 1, nilV, nilV, nilV), (w.heap.size, .int .i64 k, .int .i64 p, .int .i64 q)] []) := by
    have h := C0.out
    simp only [World.size_alloc] at h
    exact h
  have HZ := Lib.hid (zero_ten_spec (k := k) (p := p) (q := q) N (HL.out _ C1.out.kept) (HD.out _ C1.out.kept) C1.out.size (by omega) (by omega) hr hD hcap (by omega))
  have ZL : Hid ((zeroL k p q).length = wd) := Lib.hid (by unfold zeroL; simp [hwd])
  have ZW : Hid (Within (topI k p q) (zeroL k p q)) := Lib.hid (zeroL_elem hr).2
  obtain ⟨aL, cL, rfl, -⟩ := ints_form (hl w (KeptOut.refl _ _ _))
  obtain ⟨aD, cD, rfl, -⟩ := ints_form (hd w (KeptOut.refl _ _ _))
  have H12 := Lib.hid (And.intro h1 h2)
  clear hr hc hl hd hD hN hcap hwd C0 h1 h2
  go_enter Try.func133, Try.ntmps133
  go_wp2_with fail
  refine HZ.out.mono ?_
  rintro e w2 ⟨l', d', x', rfl, ho, hb⟩
  have R2 := Lib.hid (C1.out.new3 hb ho)
  obtain ⟨a1, c1, rfl, -⟩ := ints_form ho.rows.1.rd
  obtain ⟨a2, c2, rfl, -⟩ := ints_form ho.rows.2.1.rd
  obtain ⟨a3, c3, rfl, -⟩ := ints_form ho.rows.2.2.rd
  obtain ⟨m1, hm1⟩ : ∃ m, m = L.length := ⟨_, rfl⟩
  obtain ⟨m2, hm2⟩ : ∃ m, m = D.length := ⟨_, rfl⟩
  obtain ⟨m3, hm3⟩ : ∃ m, m = (repL (zeroL k p q) N).length := ⟨_, rfl⟩
  have HM3 : Hid (m3 = N * wd) := Lib.hid (by rw [hm3, repL_len, ZL.out])
  rw [← hm1, ← hm2, ← hm3] at R2 ⊢
  have R3 := Lib.hid ((R2.out.box (.slice a1 m1 c1) (.slice a2 m2 c2) (.slice a3 m3 c3) 28).same fun _ r => r.third)
  have WX := Lib.hid (And.intro (show (repL (zeroL k p q) N).length = m3 from hm3.symm) (repL_within ZW.out N))
  have HMM := Lib.hid (And.intro hm1 hm2)
  clear ho hb HZ R2 hm1 hm2 hm3
  go_wp2
  go_loopw [10] (fun s wr => ∃ (c : Nat) (X : List Int), c ≤ N ∧ s = .int .i64 c ∧ Hid (X.length = m3 ∧ Within (topI k p q) X) ∧ Hid (RsC w wr cb B v bts [(w2.heap.size, .slice a1 m1 c1, .slice a2 m2 c2, .slice a3 m3 c3), (w.heap.size + 1, nilV, nilV, nilV), (w.heap.size, .int .i64 k, .int .i64 p, .int .i64 q)] [(.slice a3 m3 c3, X), (.slice a1 m1 c1, L), (.slice a2 m2 c2, D)])) (fun s _ => N - (intOf s).toNat)
  case atStart => exact ⟨0, _, by omega, rfl, WX, R3⟩
  case round =>
    clear R3 WX
    obtain ⟨c, X, hcN, rfl, HX, HR⟩ := hrel
    have HPR := Lib.hid (product_spec (HD.out _ HR.out.kept) (by have := H12.out.2; omega) HD8.out)
    rw [HCAP.out, HMM.out.2.symm] at HPR
    by_cases hlt : c < N
    · have HRd := Lib.hid HR.out.drew
      have HE := Lib.hid (draw_elem_k (k := k) (p := p) (n := q) HRB.out HRd.out.cur (Nat.le_trans HRd.out.cur.lo.1 (Nat.le_of_lt HRd.out.cur.lo.2)))
      obtain ⟨⟨r0, r1, r2⟩, -⟩ := HRd.out.at (r := w.heap.size) (a := .int .i64 k) (b := .int .i64 p) (c := .int .i64 q) (by simp)
      obtain ⟨⟨t0, t1, t2⟩, -⟩ := HRd.out.at (List.mem_cons_self)
      go_wp2_with fail
      refine HPR.out.mono ?_
      rintro e w3 ⟨rfl, rfl⟩
      go_wp2
      have TK1 : True := trivial
      go_region_held3 (fun w' => (w'.cell? ⟨w.heap.size, 0, none⟩ = some (.int .i64 k) ∧ w'.cell? ⟨w.heap.size, 1, none⟩ = some (.int .i64 p) ∧ w'.cell? ⟨w.heap.size, 2, none⟩ = some (.int .i64 q)) ∧ (w'.cell? ⟨w2.heap.size, 0, none⟩ = some (.slice a1 m1 c1) ∧ w'.cell? ⟨w2.heap.size, 1, none⟩ = some (.slice a2 m2 c2) ∧ w'.cell? ⟨w2.heap.size, 2, none⟩ = some (.slice a3 m3 c3))) (exact ⟨⟨r0, r1, r2⟩, ⟨t0, t1, t2⟩⟩) (first
        | (go_at_call 156; refine HE.out.mono ?_; rintro e w4 ⟨u, xs, rfl, hv, ho, hcu, -, hk⟩; have R4 := Lib.hid (HRd.out.drawn hk hcu ho); have HV := Lib.hid hv; obtain ⟨au, cu, rfl, -⟩ := ints_form ho.rd; have HXL : Hid (xs.length = wd) := Lib.hid (by have h := hv.1; rw [HWD.out] at h; omega); clear hv ho hcu hk r0 r1 r2 t0 t1 t2; obtain ⟨⟨r0, r1, r2⟩, -⟩ := R4.out.at (r := w.heap.size) (a := .int .i64 k) (b := .int .i64 p) (c := .int .i64 q) (by simp); obtain ⟨⟨t0, t1, t2⟩, -⟩ := R4.out.at (List.mem_cons_self))
        | (go_at_call 113; refine (put_any (k := k) (p := p) (q := q) wd c m1 c1 m2 c2 a1 a2 rfl rfl (R4.out.row (u := .slice a3 m3 c3) (xs := X) (by simp)) (R4.out.rd (u := .slice au xs.length cu) (xs := xs) (by simp)) (Nat.le_refl _) (fun b hb hb2 => (List.pairwise_cons.1 R4.out.ownG.2).1 (.slice a3 m3 c3, X) (by simp) b hb hb2) HWD.out hwd1 hwd2 HXL.out (by omega) (by rw [HX.out.1, HM3.out]; have h := Nat.mul_le_mul_right wd (show c + 1 ≤ N by omega); rw [Nat.add_mul, Nat.one_mul] at h; exact h) (by rw [HX.out.1, HM3.out]; have := Nat.mul_le_mul hN2 hwd2; omega)).mono ?_; rintro e w5 ⟨rfl, ho, hg⟩; have R5 := Lib.hid (((R4.out.swap).turn (Nat.le_refl _) ho hg).sub (rows' := [(.slice a3 m3 c3, putL X (c * wd) xs), (.slice a1 m1 c1, L), (.slice a2 m2 c2, D)]) (List.Sublist.cons_cons _ (List.Sublist.cons _ (List.Sublist.refl _)))); clear ho hg r0 r1 r2 t0 t1 t2; obtain ⟨⟨r0, r1, r2⟩, -⟩ := R5.out.at (r := w.heap.size) (a := .int .i64 k) (b := .int .i64 p) (c := .int .i64 q) (by simp); obtain ⟨⟨t0, t1, t2⟩, -⟩ := R5.out.at (List.mem_cons_self)))
      all_goals
        have HX2 : Hid ((putL X (c * wd) xs).length = m3 ∧ Within (topI k p q) (putL X (c * wd) xs)) := Lib.hid ⟨by rw [putL_len2 (by rw [HX.out.1, HM3.out, HXL.out]; have h := Nat.mul_le_mul_right wd (show c + 1 ≤ N by omega); rw [Nat.add_mul, Nat.one_mul] at h; exact h)]; exact HX.out.1, putL_within HX.out.2 HV.out.2⟩
        go_wp2
        go_roundw
        case rel => exact ⟨c + 1, _, by omega, by go_num, HX2, R5⟩
        case measure => simp [intOf]; omega
    · obtain rfl : c = N := by omega
      have hnlt : ¬ (c : Int) < (c : Int) := by omega
      obtain ⟨⟨b0, b1, b2⟩, -⟩ := HR.out.at (List.mem_cons_self)
      obtain ⟨⟨t0, t1, t2⟩, f0, f1, f2⟩ := HR.out.at (r := w.heap.size + 1) (a := nilV) (b := nilV) (c := nilV) (by simp)
      go_wp2_with fail
      refine HPR.out.mono ?_
      rintro e w3 ⟨rfl, rfl⟩
      go_wp2
      refine bodyPost_ret (v := tenV (.slice a1 m1 c1) (.slice a2 m2 c2) (.slice a3 m3 c3)) (by simp [results, Try.results133, go_sem, t0, t1, t2]) rfl ?_
      have h2 := (((HR.out.swapB.set3 (.slice a1 m1 c1) (.slice a2 m2 c2) (.slice a3 m3 c3)).same fun _ r => r.third).same fun _ r => r.third)
      exact ⟨_, _, _, X, rfl, by rw [HX.out.1, HM3.out, HN.out, HWD.out]; simp, HX.out.2, h2.ownG, h2.cur, h2.kept⟩
end Go.Proofs.Ytgabcdploeledaa
namespace Go.Proofs.Ytgabcdploeledaa
set_option maxRecDepth 20000
open Go.RowKit

/-- Rows that a call has made while the cursor moved. -/
theorem RsC.drawnG {w0 wr w' : World} {cb B : Nat} {v : Value} {bts : List UInt8} {bs : List BxE} {rows new : List RowE} (h : RsC w0 wr cb B v bts bs rows) (hk : KeptOut wr w' cb (cb + 1)) (hc : CurOk w' cb B v bts) (ho : OwnG w' wr.heap.size w'.heap.size new) : RsC w0 w' cb B v bts bs (new ++ rows) := by
  have hm := h.moved hk hc
  have hsz := h.size
  have old : ∀ q ∈ rows, ∀ g, q.1.ownBlock = some g → g < wr.heap.size := by
    obtain ⟨⟨w2, -, -, r2⟩, -, -⟩ := h
    exact fun q hq g e => ((r2.own q hq).lt g e).2
  have oldB : ∀ b ∈ bs, b.1 < wr.heap.size := by
    obtain ⟨⟨w2, -, -, r2⟩, -, -⟩ := h
    exact fun b hb => (r2.bx b hb).lt
  refine hm.lift hc fun w1 h1 r => ⟨r.bel, fun q hq => ?_, List.pairwise_append.2 ⟨ho.2, r.apart, fun q hq s hs g hg e => ?_⟩, r.bx, fun b hb q hq => ?_, r.dis⟩
  · rcases List.mem_append.1 hq with hq | hq
    · have o := ho.1 q hq
      exact ⟨o.1.1, o.1.2.imp id (fun ⟨g, cap, cur, e, hb, rest⟩ => ⟨g, cap, cur, e, by omega, rest⟩)⟩
    · exact r.own q hq
  · have h2 := (ho.1 q hq).lo g hg
    have h3 := old s hs g e
    omega
  · rcases List.mem_append.1 hq with hq | hq
    · intro e
      have h2 := (ho.1 q hq).lo _ e
      have h3 := oldB b hb
      omega
    · exact r.far b hb q hq
theorem prodL_le3 : ∀ {D : List Int}, (∀ d ∈ D, 1 ≤ d ∧ d ≤ 3) → 1 ≤ prodL D ∧ prodL D ≤ 3 ^ D.length := by
  intro D
  induction D with
  | nil => intro _; simp [prodL_nil]
  | cons d D ih =>
    intro h
    obtain ⟨h1, h2⟩ := ih (fun x hx => h x (by simp [hx]))
    have hd := h d (by simp)
    rw [prodL_cons, List.length_cons, Int.pow_succ]
    have e1 : 1 * 1 ≤ d * prodL D := Int.mul_le_mul hd.1 h1 (by omega) (by omega)
    have e2 : d * prodL D ≤ 3 * 3 ^ D.length := Int.mul_le_mul hd.2 h2 (by omega) (by omega)
    rw [Int.mul_comm 3] at e2
    omega
/-- The axes that are drawn are axes. -/
theorem LabV.axes {n most : Nat} {ls ds : List Int} (h : LabV n most ls ds) (hn : n ≤ 100) (hm : most ≤ 3) : AxesV ls ds ∧ 1 ≤ prodL ds ∧ prodL ds ≤ 27 := by
  have hl := h.most
  refine ⟨⟨by omega, h.len, fun x hx => ?_, fun d hd => ?_, h.nd⟩, ?_⟩
  · have := h.rg x hx; omega
  · have := h.dm d hd; omega
  · obtain ⟨h1, h2⟩ := prodL_le3 h.dm
    refine ⟨h1, Int.le_trans h2 ?_⟩
    have hk : ds.length ≤ 3 := by rw [← h.len]; omega
    rcases (by omega : ds.length = 0 ∨ ds.length = 1 ∨ ds.length = 2 ∨ ds.length = 3) with e | e | e | e <;> rw [e] <;> decide
theorem tensorB_of {k p q : Int} {L D X : List Int} (hr : ringB k p q = true) (ha : AxesV L D) (hp : prodL D ≤ 4096) (hx : (X.length : Int) = prodL D * widthI k q) (hw : Within (topI k p q) X) : tensorB k p q L D X = true ∧ sizeI L D = prodL D := by
  have hs : sizeI L D = prodL D := by
    rcases sizeI_cases L D with ⟨-, h⟩ | ⟨h, -⟩
    · exact absurd ⟨axesB_true.2 ha, hp⟩ h
    · exact h
  have hp1 := prodL_pos (D := D) (fun d hd => (ha.2.2.2.1 d hd).1)
  refine ⟨?_, hs⟩
  unfold tensorB
  rw [hs, hr, decide_eq_true hx, decide_eq_true (show 0 ≤ prodL D by omega)]
  simp only [Bool.true_and, List.all_eq_true]
  intro x hx2
  have := hw x hx2
  simpa using this
/-- What a drawn tensor is told. -/
def TenPost (cb B : Nat) (v : Value) (bts : List UInt8) (k p q : Int) (w : World) (e : Ending) (w' : World) : Prop :=
  ∃ l' d' x' L D X, e = .returned (tenV l' d' x') ∧ LabV 6 3 L D ∧ tensorB k p q L D X = true ∧ OwnG w' w.heap.size w'.heap.size [(l', L), (d', D), (x', X)] ∧ CurOk w' cb B v bts ∧ KeptOut w w' cb (cb + 1)
set_option maxHeartbeats 1600000 in
theorem draw_ten {cb B : Nat} {v : Value} {bts : List UInt8} {k p q : Int} {w : World} (hr : ringB k p q = true) (hc : CurOk w cb B v bts) :
    Calls Try.prog 82 #[.pointer (some ⟨cb, 0, none⟩), ringV k p q] w (TenPost cb B v bts k p q w) := by
  have HRB := Lib.hid hr
  have C1 : Hid (RsC w ((w.alloc (.cells #[.int .i64 k, .int .i64 p, .int .i64 q] 31)).alloc (.cells #[nilV, nilV, nilV] 28)) cb B v bts [(w.heap.size + 1, nilV, nilV, nilV), (w.heap.size, .int .i64 k, .int .i64 p, .int .i64 q)] []) := by
    have h := ((RsC.start hc).box (.int .i64 k) (.int .i64 p) (.int .i64 q) 31).box nilV nilV nilV 28
    simp only [World.size_alloc] at h
    exact h
  have HLB := Lib.hid (draw_labels 6 3 (by omega) (by omega) (by omega) C1.out.cur)
  clear hr hc
  go_enter Try.func82, Try.ntmps82
  go_wp2_with fail
  refine HLB.out.mono ?_
  rintro e w1 ⟨lu, ls, du, ds, rfl, hv, ho, hcu, hk⟩
  have R1 := Lib.hid (C1.out.drawnG hk hcu ho)
  have HV := Lib.hid hv
  obtain ⟨hax, hp1, hp2⟩ := hv.axes (by omega) (by omega)
  have HAX := Lib.hid hax
  obtain ⟨N, hN⟩ : ∃ N : Nat, prodL ds = (N : Int) := ⟨(prodL ds).toNat, by omega⟩
  have HN := Lib.hid (And.intro hN (show N ≤ 27 by omega))
  have hlt := R1.out.lt
  have o1 := R1.out.row (u := lu) (xs := ls) (by simp)
  have o2 := R1.out.row (u := du) (xs := ds) (by simp)
  have HF := Lib.hid (draw_fill (k := k) (p := p) (q := q) N HRB.out R1.out.cur (fun w' hk => (hk.own o1 (.inr (by omega))).rd) (fun w' hk => (hk.own o2 (.inr (by omega))).rd) hax.1 (by have := hax.1; have := hax.2.1; omega) hax.2.2.2.1 hN (by omega))
  obtain ⟨a1, c1, rfl, -⟩ := ints_form o1.rd
  obtain ⟨a2, c2, rfl, -⟩ := ints_form o2.rd
  obtain ⟨⟨r0, r1, r2⟩, -⟩ := R1.out.at (r := w.heap.size) (a := .int .i64 k) (b := .int .i64 p) (c := .int .i64 q) (by simp)
  clear hv ho hcu hk hax hp1 hp2 hN o1 o2
  go_wp2_with fail
  refine HF.out.mono ?_
  clear r0 r1 r2
  rintro e w2 ⟨l', d', x', X, rfl, hxl, hxw, ho, hcu, hk⟩
  have R2 := Lib.hid (R1.out.drawnG hk hcu ho)
  have HT := Lib.hid (tensorB_of HRB.out HAX.out (by rw [HN.out.1]; have := HN.out.2; omega) hxl hxw)
  obtain ⟨b1, e1, rfl, -⟩ := ints_form ho.rows.1.rd
  obtain ⟨b2, e2, rfl, -⟩ := ints_form ho.rows.2.1.rd
  obtain ⟨b3, e3, rfl, -⟩ := ints_form ho.rows.2.2.rd
  obtain ⟨⟨t0, t1, t2⟩, f0, f1, f2⟩ := R2.out.at (r := w.heap.size + 1) (a := nilV) (b := nilV) (c := nilV) (by simp)
  clear hxl hxw ho hcu hk
  go_wp2
  refine bodyPost_ret (v := tenV (.slice b1 ls.length e1) (.slice b2 ds.length e2) (.slice b3 X.length e3)) (by simp [results, Try.results82, go_sem, t0, t1, t2]) rfl ?_
  have h2 := (R2.out.set3 (.slice b1 ls.length e1) (.slice b2 ds.length e2) (.slice b3 X.length e3)).sub (rows' := [(.slice b1 ls.length e1, ls), (.slice b2 ds.length e2, ds), (.slice b3 X.length e3, X)]) (List.Sublist.cons_cons _ (List.Sublist.cons_cons _ (List.Sublist.cons_cons _ (List.nil_sublist _))))
  exact ⟨_, _, _, ls, ds, X, rfl, HV.out, HT.out.1, h2.ownG, h2.cur, h2.kept⟩
set_option maxHeartbeats 1600000 in
/-- MakeTensor. -/
theorem make_ten {v : Value} {bts : List UInt8} {k p q : Int} {w : World} (n : Nat) (hn : n ≤ 1000) (hk : ringB k p q = true) (hr : Rd w.heap.size w v (bytes8 bts)) (hl : bts.length ≤ 1048576) :
    Calls Try.prog 34 #[v, .int .i64 n, ringV k p q] w fun e w' => ∃ l' d' x' L D X, e = .returned (tenV l' d' x') ∧ LabV 6 3 L D ∧ tensorB k p q L D X = true ∧ OwnG w' w.heap.size w'.heap.size [(l', L), (d', D), (x', X)] ∧ Below w.heap.size w w' := by
  have HR := Lib.hid hr
  have HL := Lib.hid hl
  have HK := Lib.hid hk
  have T0 := Lib.hid (Bx.two w (.int .i64 k) (.int .i64 p) (.int .i64 q) nilV nilV nilV 31 28)
  obtain ⟨a, cap, rfl, -⟩ := bytes_cell hr
  have T1 := Lib.hid (And.intro (T0.out.1.step (Below.drew (Below.refl _ _))) (T0.out.2.step (Below.drew (Below.refl _ _))))
  have HR1 := Lib.hid ((HR.out.below T1.out.1.bel (Nat.le_refl _)).mono T1.out.1.bel.size)
  clear hr hl hk
  obtain ⟨-, r0, r1, r2, -⟩ := T0.out.1
  go_enter Try.func34, Try.ntmps34
  go_wp2
  generalize hW : (w.alloc (.cells #[.int .i64 k, .int .i64 p, .int .i64 q] 31)).alloc (.cells #[nilV, nilV, nilV] 28) = w1 at T0 T1 HR1 r0 r1 r2 ⊢
  clear hW
  go_region_held3 (fun w' => w'.cell? ⟨w.heap.size, 0, none⟩ = some (.int .i64 k) ∧ w'.cell? ⟨w.heap.size, 1, none⟩ = some (.int .i64 p) ∧ w'.cell? ⟨w.heap.size, 2, none⟩ = some (.int .i64 q)) (first | exact ⟨r0, r1, r2⟩ | with_reducible exact ⟨x0, x1, x2⟩) (first
    | (go_at_call 81; refine (cur_at n hn HR1.out HL.out).mono ?_; rintro e w2 ⟨cb, rfl, hc, hb⟩; have HC := Lib.hid hc; have HB2 := Lib.hid hb; have T2 := Lib.hid (And.intro (T1.out.1.step hb) (T1.out.2.step hb)); clear hc hb r0 r1 r2; obtain ⟨-, r0, r1, r2, -⟩ := T2.out.1)
    | (go_at_call 82; refine (draw_ten (k := k) (p := p) (q := q) HK.out HC.out).mono ?_; rintro e w3 ⟨l', d', x', L, D, X, rfl, hv, ht, ho, -, hk⟩; have HB3 := Lib.hid (hk.below HB2.out HC.out.lo.1 HB2.out.size); have T3 := Lib.hid (And.intro (T1.out.1.step HB3.out) (T1.out.2.step HB3.out)); obtain ⟨a1, c1, rfl, -⟩ := ints_form ho.rows.1.rd; obtain ⟨a2, c2, rfl, -⟩ := ints_form ho.rows.2.1.rd; obtain ⟨a3, c3, rfl, -⟩ := ints_form ho.rows.2.2.rd; have HO := Lib.hid ho; have HVT := Lib.hid (And.intro hv ht); clear hv ht ho hk r0 r1 r2; obtain ⟨-, r0, r1, r2, -⟩ := T3.out.1; obtain ⟨-, t0, t1, t2, fr, -, -⟩ := T3.out.2; have f0 := fr 0; have f1 := fr 1; have f2 := fr 2; have x0 := set3_far (a := .slice a1 L.length c1) (b := .slice a2 D.length c2) (c := .slice a3 X.length c3) (show w.heap.size ≠ w.heap.size + 1 by omega) r0; have x1 := set3_far (a := .slice a1 L.length c1) (b := .slice a2 D.length c2) (c := .slice a3 X.length c3) (show w.heap.size ≠ w.heap.size + 1 by omega) r1; have x2 := set3_far (a := .slice a1 L.length c1) (b := .slice a2 D.length c2) (c := .slice a3 X.length c3) (show w.heap.size ≠ w.heap.size + 1 by omega) r2; clear fr))
  all_goals
    go_wp2
    refine bodyPost_ret (v := tenV (.slice a1 L.length c1) (.slice a2 D.length c2) (.slice a3 X.length c3)) (by simp [results, Try.results34, go_sem, t0, t1, t2]) rfl ?_
    exact ⟨_, _, _, L, D, X, rfl, HVT.out.1, HVT.out.2, (HO.out.set3 T2.out.2.lt _ _ _).wide T2.out.2.bel.size (by simp) (by simp), ((T3.out.2.bel.setCell (by simp) _).setCell (by simp) _).setCell (by simp) _⟩
end Go.Proofs.Ytgabcdploeledaa
