
/- laws.markTensorS: all rows of a slice of tensors of the call's own are written; nothing else changes. -/
import Derived.Test.YtdheakjjnaifkaaTensTo
namespace Go.Proofs.Ytdheakjjnaifkaa
set_option maxRecDepth 20000
open Go.RowKit

theorem ApartG.same {rows : List RowE} (h : ApartG rows) {q r : RowE} (hq : q ∈ rows) (hr : r ∈ rows) {g : Nat} (e1 : q.1.ownBlock = some g) (e2 : r.1.ownBlock = some g) : q = r := by
  obtain ⟨i, hi, rfl⟩ := List.mem_iff_getElem.1 hq
  obtain ⟨j, hj, rfl⟩ := List.mem_iff_getElem.1 hr
  rcases Nat.lt_trichotomy i j with h1 | rfl | h1
  · exact absurd e2 (List.pairwise_iff_getElem.1 h i j hi hj h1 g e1)
  · rfl
  · exact absurd e1 (List.pairwise_iff_getElem.1 h j i hj hi h1 g e2)
/-- Rows of these lengths, of the call's own, whatever they hold. -/
def HeldL (w : World) (lo hi : Nat) (rows : List RowE) : Prop := ∀ r ∈ rows, ∃ ys, List.length ys = r.2.length ∧ Own w lo hi r.1 ys
theorem HeldL.mark {w w' : World} {lo hi : Nat} {rows : List RowE} (h : HeldL w lo hi rows) (ha : ApartG rows) {r : RowE} (hm : r ∈ rows) (hg : w.grownBy w' r.1.ownBlock) {ys : List Int} (ho : Own w' lo hi r.1 ys) (hl : ys.length = r.2.length) : HeldL w' lo hi rows := fun q hq => by
  by_cases e : ∃ g, q.1.ownBlock = some g ∧ r.1.ownBlock = some g
  · obtain ⟨g, e1, e2⟩ := e
    obtain rfl := ha.same hq hm e1 e2
    exact ⟨ys, hl, ho⟩
  · obtain ⟨zs, hz, hoq⟩ := h q hq
    exact ⟨zs, hz, hoq.apart hg (fun g hg' e1 => e ⟨g, e1, hg'⟩)⟩
/-- The state while the rows are marked. -/
structure MkS (w0 w : World) (lo hi G : Nat) (n cap : Nat) (cs : List Value) (rows : List RowE) : Prop where
  ow : w.ownsRow lo 55 3 (.slice (some ⟨G, 0, none⟩) n cap) n cs
  hl : HeldL w lo hi rows
  kp : KeptOut w0 w lo hi
theorem MkS.mark {w0 w w' : World} {lo hi G n cap : Nat} {cs : List Value} {rows : List RowE} (h : MkS w0 w lo hi G n cap cs rows) (ha : ApartG rows) (hf : ∀ r ∈ rows, r.1.ownBlock ≠ some G) {r : RowE} (hm : r ∈ rows) (hg : w.grownBy w' r.1.ownBlock) {ys : List Int} (ho : Own w' lo hi r.1 ys) (hl : ys.length = r.2.length) : MkS w0 w' lo hi G n cap cs rows :=
  ⟨h.ow.kept hg (.inr (fun e => hf r hm (by rw [← e]; rfl))), h.hl.mark ha hm hg ho hl, h.kp.trans (KeptOut.of hg (fun g e => ⟨ho.lo g e, ho.2.1 g e⟩))⟩
set_option maxHeartbeats 3200000 in
theorem mark_tens {lo hi : Nat} {v : Value} {ts : List TenE} {w : World} {z : Int} (s : Nat) (hz : z = (s : Int)) (h : OwnTs w lo hi v ts) (hn : ts.length ≤ 1048576) (hs : s + totT ts ≤ 1073741824) :
    Calls Try.prog 55 #[v, .int .i64 z] w fun e w' => e = .returned (.int .i64 ((s + totT ts : Nat) : Int)) ∧ KeptOut w w' lo hi := by
  subst hz
  obtain ⟨zs, cs, h1, h2, h3, h4, h5, h6⟩ := h
  have hzl : zs.length = ts.length := by rw [← h1, List.length_map]
  have htl : ∀ j, totT (ts.take j) ≤ totT ts := fun j => by
    have e : totT ts = totT (ts.take j) + totT (ts.drop j) := by
      unfold totT
      rw [← List.sum_append, ← List.map_append, List.take_append_drop]
    omega
  rcases h2.2 with ⟨rfl, h0⟩ | ⟨G, cap, cur, rfl, -⟩
  · have hts : ts = [] := List.length_eq_zero_iff.1 h0
    subst hts
    have K0 := Lib.hid (KeptOut.refl w lo hi)
    go_enter Try.func55, Try.ntmps55
    go_wp2
    go_loopw [1, 5] (fun l i wr => l = .int .i64 (s : Int) ∧ i = .int .i64 (0 : Int) ∧ wr = w) (fun _ _ _ => 0)
    case atStart => exact ⟨rfl, rfl, rfl⟩
    case round =>
      obtain ⟨rfl, rfl, rfl⟩ := hrel
      go_wp2
      go_ret
      exact ⟨by simp [totT], K0.out⟩
  · have M0 : Hid (MkS w w lo hi G ts.length cap cs (rowsR zs)) := Lib.hid ⟨h2, fun r hr => ⟨r.2, rfl, h4.1 r hr⟩, KeptOut.refl w lo hi⟩
    have HA := Lib.hid h4.2
    have HF := Lib.hid (h5 G rfl).2
    have HC := Lib.hid h3
    have HZ := Lib.hid h1
    have HS := Lib.hid hs
    have HTL := Lib.hid htl
    obtain ⟨n, hnn⟩ : ∃ n, n = ts.length := ⟨_, rfl⟩
    rw [← hnn] at M0 hn hzl ⊢
    have HN := Lib.hid (And.intro hnn hzl)
    clear h1 h2 h3 h4 h5 h6 hs hzl hnn htl
    go_enter Try.func55, Try.ntmps55
    go_wp2
    go_loopw [1, 5] (fun l i wr => ∃ (j q : Nat), j ≤ n ∧ i = .int .i64 j ∧ l = .int .i64 q ∧ Hid (q = s + totT (ts.take j)) ∧ Hid (MkS w wr lo hi G n cap cs (rowsR zs))) (fun _ i _ => n - (intOf i).toNat)
    case atStart => exact ⟨0, s, by omega, rfl, rfl, (show s = s + totT (ts.take 0) by simp [totT]), M0⟩
    case round =>
      clear M0
      obtain ⟨j, q, hj, rfl, rfl, HQ, HM⟩ := hrel
      by_cases hlt : j < n
      · obtain ⟨y, hy⟩ : ∃ y, zs[j]? = some y := ⟨_, List.getElem?_eq_getElem (by rw [HN.out.2]; exact hlt)⟩
        have hty : ts[j]? = some y.2 := by rw [← HZ.out, List.getElem?_map, hy]; rfl
        obtain ⟨m1, m2, m3⟩ := rowsR_mem (List.mem_of_getElem? hy)
        obtain ⟨e1, e2, e3⟩ := HC.out j y hy
        obtain ⟨y1, l1, o1⟩ := HM.out.hl _ m1
        obtain ⟨y2, l2, o2⟩ := HM.out.hl _ m2
        obtain ⟨y3, l3, o3⟩ := HM.out.hl _ m3
        replace l1 : y1.length = y.2.1.length := l1
        replace l2 : y2.length = y.2.2.1.length := l2
        replace l3 : y3.length = y.2.2.2.length := l3
        replace o1 : Own wr lo hi y.1.1 y1 := o1
        have hw := totT_step hty
        have hle := HTL.out (j + 1)
        have hS := HS.out
        have hQ := HQ.out
        have hwt : wtT y.2 = y.2.1.length + y.2.2.1.length + y.2.2.2.length := rfl
        obtain ⟨n1, hn1⟩ : ∃ x, x = y.2.1.length := ⟨_, rfl⟩
        obtain ⟨n2, hn2⟩ : ∃ x, x = y.2.2.1.length := ⟨_, rfl⟩
        obtain ⟨n3, hn3⟩ : ∃ x, x = y.2.2.2.length := ⟨_, rfl⟩
        rw [← hn1, ← hn2, ← hn3] at hwt
        have clen : cs.length = n * 3 := HM.out.ow.1
        have cell : ∀ (u : World), MkS w u lo hi G n cap cs (rowsR zs) → u.cell? ⟨G, j * 3, none⟩ = some y.1.1 ∧ u.cell? ⟨G, j * 3 + 1, none⟩ = some y.1.2.1 ∧ u.cell? ⟨G, j * 3 + 2, none⟩ = some y.1.2.2 := fun u hu =>
          ⟨(hu.ow.cellAt _ (by omega)).trans e1, (hu.ow.cellAt _ (by omega)).trans e2, (hu.ow.cellAt _ (by omega)).trans e3⟩
        have HCL := Lib.hid cell
        have MM := Lib.hid (And.intro m1 (And.intro m2 m3))
        have HL := Lib.hid (And.intro hn1 (And.intro hn2 hn3))
        have HB := Lib.hid (show q + n1 + n2 + n3 ≤ 1073741824 ∧ q + n1 + n2 + n3 = s + totT (ts.take (j + 1)) by omega)
        obtain ⟨x1, x2, x3, hx⟩ : ∃ x1 x2 x3, y.1 = (x1, x2, x3) := ⟨_, _, _, rfl⟩
        have HX := Lib.hid hx
        have M1 := Lib.hid (marks_from q rfl o1 (by omega) (by omega))
        rw [l1, ← hn1, hx] at M1
        have k0 := (cell wr HM.out).1
        rw [hx] at k0
        have b1 : q + n1 ≤ 1073741824 := by omega
        have b2 : q + n1 + n2 ≤ 1073741824 := by omega
        have b3 : q ≤ 1073741824 := by omega
        clear hy hty m1 m2 m3 e1 e2 e3 o1 o2 o3 l1 l2 l3 hw hle hS hQ hwt hn1 hn2 hn3 clen cell
        obtain ⟨q1, hq1⟩ : ∃ x, x = q + n1 := ⟨_, rfl⟩
        obtain ⟨q2, hq2⟩ : ∃ x, x = q + n1 + n2 := ⟨_, rfl⟩
        obtain ⟨q3, hq3⟩ : ∃ x, x = q + n1 + n2 + n3 := ⟨_, rfl⟩
        rw [← hq1] at M1
        have HQS := Lib.hid (And.intro hq1 (And.intro hq2 hq3))
        have c1 : q1 ≤ 1073741824 := by omega
        have c2 : q2 ≤ 1073741824 := by omega
        clear hq1 hq2 hq3 b1 b2
        go_wp2_with fail
        refine M1.out.mono ?_
        clear k0 M1
        rintro e w1 ⟨rfl, o1, g1⟩
        have S1 : Hid (MkS w w1 lo hi G n cap cs (rowsR zs)) := Lib.hid (HM.out.mark HA.out HF.out MM.out.1 (by rw [HX.out]; exact g1) (by rw [HX.out]; exact o1) (by rw [marksI_len, HL.out.1]))
        clear o1 g1 HM
        obtain ⟨y2, l2, o2⟩ := S1.out.hl _ MM.out.2.1
        replace l2 : y2.length = y.2.2.1.length := l2
        replace o2 : Own w1 lo hi y.1.2.1 y2 := o2
        have M2 := Lib.hid (marks_from q1 rfl o2 (by rw [l2, ← HL.out.2.1]; have := HB.out.1; omega) (by omega))
        rw [l2, ← HL.out.2.1, HX.out, show q1 + n2 = q2 by rw [HQS.out.1, HQS.out.2.1]] at M2
        have k1 := (HCL.out w1 S1.out).2.1
        rw [HX.out] at k1
        clear o2 l2
        go_wp2_with fail
        refine M2.out.mono ?_
        clear k1 M2
        rintro e w2 ⟨rfl, o1, g1⟩
        have S2 : Hid (MkS w w2 lo hi G n cap cs (rowsR zs)) := Lib.hid (S1.out.mark HA.out HF.out MM.out.2.1 (by rw [HX.out]; exact g1) (by rw [HX.out]; exact o1) (by rw [marksI_len, HL.out.2.1]))
        clear o1 g1 S1
        obtain ⟨y3, l3, o3⟩ := S2.out.hl _ MM.out.2.2
        replace l3 : y3.length = y.2.2.2.length := l3
        replace o3 : Own w2 lo hi y.1.2.2 y3 := o3
        have M3 := Lib.hid (marks_from q2 rfl o3 (by rw [l3, ← HL.out.2.2]; have := HB.out.1; omega) (by omega))
        rw [l3, ← HL.out.2.2, HX.out, show q2 + n3 = q3 by rw [HQS.out.2.1, HQS.out.2.2]] at M3
        have k2 := (HCL.out w2 S2.out).2.2
        rw [HX.out] at k2
        clear o3 l3
        go_wp2_with fail
        refine M3.out.mono ?_
        clear k2 M3
        rintro e w3 ⟨rfl, o1, g1⟩
        have S3 : Hid (MkS w w3 lo hi G n cap cs (rowsR zs)) := Lib.hid (S2.out.mark HA.out HF.out MM.out.2.2 (by rw [HX.out]; exact g1) (by rw [HX.out]; exact o1) (by rw [marksI_len, HL.out.2.2]))
        clear o1 g1 S2
        go_wp2
        go_roundw
        case rel => exact ⟨j + 1, q3, by omega, by go_num, rfl, (show q3 = _ by rw [HQS.out.2.2]; exact HB.out.2), S3⟩
        case measure => simp [intOf]; omega
      · obtain rfl : j = n := by omega
        have hq : q = s + totT ts := by rw [HQ.out, totT_all (by rw [← HN.out.1]; exact Nat.le_refl _)]
        have HQ2 := Lib.hid hq
        clear hq
        go_wp2
        go_ret
        exact ⟨by rw [HQ2.out]; simp, HM.out.kp⟩
/-- What is no older is not changed by a call. -/
theorem OwnTs.below {w w' : World} {lo hi : Nat} {v : Value} {ts : List TenE} (h : OwnTs w lo hi v ts) (hb : Below w.heap.size w w') : OwnTs w' lo hi v ts := by
  obtain ⟨zs, cs, h1, h2, h3, h4, h5, h6⟩ := h
  refine ⟨zs, cs, h1, h2.kept (row := none) ⟨hb.os, hb.tape, hb.output, hb.size, fun j hj _ => hb.block j hj⟩ ?_, h3, h4.below hb (Nat.le_refl _), h5, Nat.le_trans h6 hb.size⟩
  cases v.ownBlock with
  | none => exact .inl rfl
  | some g => exact .inr (by simp)
theorem wt_le {ts : List TenE} {t : TenE} (h : t ∈ ts) : wtT t ≤ totT ts := by
  induction ts with
  | nil => cases h
  | cons a r ih =>
    have e : totT (a :: r) = wtT a + totT r := by simp [totT]
    rcases List.mem_cons.1 h with rfl | h
    · omega
    · have := ih h; omega
theorem noRows (w : World) (lo hi : Nat) : OwnG w lo hi [] := ⟨by simp, List.Pairwise.nil⟩
end Go.Proofs.Ytdheakjjnaifkaa
