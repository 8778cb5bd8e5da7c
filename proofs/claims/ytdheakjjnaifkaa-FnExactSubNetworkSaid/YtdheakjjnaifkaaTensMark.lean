
/- laws.toTensorS: a slice of tensors of the call's own. -/
import Derived.Test.YtdheakjjnaifkaaTens
import Derived.Test.YtdheakjjnaifkaaAxes
namespace Go.Proofs.Ytdheakjjnaifkaa
set_option maxRecDepth 20000
open Go.RowKit

/-- The rows of these tensors, the last one's first. -/
def rowsR (zs : List (TenW × TenE)) : List RowE := zs.reverse.flatMap fun z => [(z.1.1, z.2.1), (z.1.2.1, z.2.2.1), (z.1.2.2, z.2.2.2)]
theorem rowsR_snoc (zs : List (TenW × TenE)) (z : TenW × TenE) : rowsR (zs ++ [z]) = (z.1.1, z.2.1) :: (z.1.2.1, z.2.2.1) :: (z.1.2.2, z.2.2.2) :: rowsR zs := by simp [rowsR]
theorem rowsR_mem {zs : List (TenW × TenE)} {z : TenW × TenE} (h : z ∈ zs) : (z.1.1, z.2.1) ∈ rowsR zs ∧ (z.1.2.1, z.2.2.1) ∈ rowsR zs ∧ (z.1.2.2, z.2.2.2) ∈ rowsR zs := by
  have hm := List.mem_reverse.2 h
  exact ⟨List.mem_flatMap.2 ⟨z, hm, by simp⟩, List.mem_flatMap.2 ⟨z, hm, by simp⟩, List.mem_flatMap.2 ⟨z, hm, by simp⟩⟩
/-- What the cells hold. -/
def Cells3 (cs : List Value) (zs : List (TenW × TenE)) : Prop := ∀ (i : Nat) (z : TenW × TenE), zs[i]? = some z → cs[i * 3]? = some z.1.1 ∧ cs[i * 3 + 1]? = some z.1.2.1 ∧ cs[i * 3 + 2]? = some z.1.2.2
theorem Cells3.snoc {cs : List Value} {zs : List (TenW × TenE)} (h : Cells3 cs zs) (z : TenW × TenE) {k : Nat} (hk : zs.length = k) (hl : k * 3 + 2 < cs.length) : Cells3 (((cs.set (k * 3) z.1.1).set (k * 3 + 1) z.1.2.1).set (k * 3 + 2) z.1.2.2) (zs ++ [z]) := by
  intro i y hi
  by_cases e : i = k
  · subst e
    have hz : y = z := by
      rw [List.getElem?_append_right (by omega), hk, Nat.sub_self] at hi
      simpa using hi.symm
    subst hz
    refine ⟨?_, ?_, ?_⟩
    · rw [List.getElem?_set_ne (by omega), List.getElem?_set_ne (by omega), List.getElem?_set_self (by omega)]
    · rw [List.getElem?_set_ne (by omega), List.getElem?_set_self (by rw [List.length_set]; omega)]
    · rw [List.getElem?_set_self (by rw [List.length_set, List.length_set]; omega)]
  · have hik : i < k := by
      have h1 := (List.getElem?_eq_some_iff.1 hi).1
      rw [List.length_append, List.length_singleton] at h1
      omega
    rw [List.getElem?_append_left (by omega)] at hi
    obtain ⟨h1, h2, h3⟩ := h i y hi
    refine ⟨?_, ?_, ?_⟩
    · rw [List.getElem?_set_ne (by omega), List.getElem?_set_ne (by omega), List.getElem?_set_ne (by omega)]; exact h1
    · rw [List.getElem?_set_ne (by omega), List.getElem?_set_ne (by omega), List.getElem?_set_ne (by omega)]; exact h2
    · rw [List.getElem?_set_ne (by omega), List.getElem?_set_ne (by omega), List.getElem?_set_ne (by omega)]; exact h3
/-- A slice of tensors of the call's own: the outer row, and each tensor's three rows, all in blocks of their own. -/
def OwnTs (w : World) (lo hi : Nat) (v : Value) (ts : List TenE) : Prop := ∃ (zs : List (TenW × TenE)) (cs : List Value), zs.map (·.2) = ts ∧ w.ownsRow lo 55 3 v ts.length cs ∧ Cells3 cs zs ∧ OwnG w lo hi (rowsR zs) ∧
  (∀ g, v.ownBlock = some g → g < hi ∧ ∀ r ∈ rowsR zs, r.1.ownBlock ≠ some g) ∧ hi ≤ w.heap.size
theorem OwnTs.rd {w : World} {lo hi : Nat} {v : Value} {ts : List TenE} (h : OwnTs w lo hi v ts) : RdTs hi w v ts := by
  obtain ⟨zs, cs, hz, h1, h2, h3, h4, h5⟩ := h
  have hlen : zs.length = ts.length := by rw [← hz, List.length_map]
  refine ⟨zs.map (·.1), ?_, by rw [List.length_map]; exact hlen, fun i u t hu ht => ?_⟩
  · rcases h1.2 with ⟨rfl, h0⟩ | ⟨g, cap, cur, rfl, hlo, hg, k1, k2, k3, k4⟩
    · have hn : zs = [] := by
        have h6 := h1.1
        rw [h0] at h6
        cases zs with
        | nil => rfl
        | cons z r => simp at hlen; simp at h6; omega
      subst hn
      exact .inl ⟨rfl, _, _, rfl⟩
    · refine .inr ⟨g, 0, cap, by rw [List.length_map, hlen], (h4 g rfl).1, fun i u hu => ?_⟩
      obtain ⟨z, hzi, rfl⟩ : ∃ z, zs[i]? = some z ∧ z.1 = u := by
        rw [List.getElem?_map] at hu
        cases hq : zs[i]? with
        | none => rw [hq] at hu; cases hu
        | some z => rw [hq] at hu; exact ⟨z, rfl, by simpa using hu⟩
      have hil := (List.getElem?_eq_some_iff.1 hzi).1
      obtain ⟨e1, e2, e3⟩ := h2 i z hzi
      have hcl := h1.1
      refine ⟨?_, ?_, ?_⟩
      · rw [Nat.zero_add, h1.cellAt _ (by omega)]; exact e1
      · rw [Nat.zero_add, h1.cellAt _ (by omega)]; exact e2
      · rw [Nat.zero_add, h1.cellAt _ (by omega)]; exact e3
  · obtain ⟨z, hzi, rfl⟩ : ∃ z, zs[i]? = some z ∧ z.1 = u := by
      rw [List.getElem?_map] at hu
      cases hq : zs[i]? with
      | none => rw [hq] at hu; cases hu
      | some z => rw [hq] at hu; exact ⟨z, rfl, by simpa using hu⟩
    have e : z.2 = t := by
      rw [← hz, List.getElem?_map, hzi] at ht
      simpa using ht
    subst e
    obtain ⟨m1, m2, m3⟩ := rowsR_mem (List.mem_of_getElem? hzi)
    exact ⟨(h3.1 _ m1).rd, (h3.1 _ m2).rd, (h3.1 _ m3).rd⟩
/-- A store into another block. -/
theorem Rs.beside {w0 wr : World} {bs : List BxE} {rows : List RowE} {g : Nat} (h : Rs w0 wr bs rows) (h0 : w0.heap.size ≤ g) (hb : ∀ b ∈ bs, b.1 ≠ g) (hr : ∀ r ∈ rows, r.1.ownBlock ≠ some g) (i : Nat) (u : Value) : Rs w0 (wr.setCell ⟨g, i, none⟩ u) bs rows :=
  ⟨h.bel.setCell h0 _, fun r hm => (h.own r hm).kept (grownBy_set wr g i u) (by
    cases hv : r.1.ownBlock with
    | none => exact .inl rfl
    | some k => exact .inr fun e => by injection e with e; subst e; exact hr r hm hv), h.apart, fun b hm => (h.bx b hm).far (fun e => hb b hm e) h0 u i, h.far, h.dis⟩
theorem infoTensor : (Try.prog.info? 55).map (fun i => (i.zero, i.size, i.bytes)) = some (some (.agg #[.slice none 0 0, .slice none 0 0, .slice none 0 0]), 3, 72) := by kernel_rfl
set_option maxHeartbeats 3200000 in
theorem to_tens {B : Nat} {v : Value} {ts : List TenE} {w : World} (h : RdTs B w v ts) (hB : B ≤ w.heap.size) (hn : ts.length ≤ 1048576) (hlen : ∀ t ∈ ts, t.1.length ≤ 17592186044416 ∧ t.2.1.length ≤ 17592186044416 ∧ t.2.2.length ≤ 17592186044416) :
    Calls Try.prog 50 #[v] w fun e w' => ∃ r, e = .returned r ∧ OwnTs w' w.heap.size w'.heap.size r ts ∧ Below w.heap.size w w' := by
  obtain ⟨a, cap, rfl⟩ := h.form
  have HT := Lib.hid h
  have HB := Lib.hid hB
  have HLN := Lib.hid hlen
  obtain ⟨n, hnn⟩ : ∃ n, n = ts.length := ⟨_, rfl⟩
  rw [← hnn] at HT hn ⊢
  have HN := Lib.hid hnn
  clear h hB hlen hnn
  obtain ⟨i0, hi, hz0, hz1, hz2⟩ := info_parts infoTensor
  go_enter Try.func50, Try.ntmps50
  go_wp2_with (at_make; refine wpList_make_full _ rfl _ _ 31 rfl w.heap.size 55 i0 (.agg #[.slice none 0 0, .slice none 0 0, .slice none 0 0]) 3 Try.underlying31 hi hz0 hz1 .i64 .i64 _ _ n rfl rfl rfl rfl (by rw [hz2]; omega) (by unfold maxLen; omega) (by simp) ?_; intro w1 hown hgrow)
  have OW := Lib.hid hown
  have hb1 := (Below.refl w.heap.size w).grown hgrow (Nat.le_refl _) (fun j hj => by cases hj)
  have R1 := Lib.hid ((Rs.start w).step hb1)
  clear hown hgrow hb1 hi hz0 hz1 hz2
  go_loopw [4] (fun i wr => ∃ (k : Nat) (zs : List (TenW × TenE)) (cs : List Value), k ≤ n ∧ i = .int .i64 k ∧ Hid (zs.map (·.2) = ts.take k) ∧ Hid (Cells3 cs zs) ∧ Hid (wr.ownsRow w.heap.size 55 3 (.slice (some ⟨w.heap.size, 0, none⟩) n n) n cs) ∧ Hid (Rs w wr [] (rowsR zs)) ∧ Hid (∀ r ∈ rowsR zs, r.1.ownBlock ≠ some w.heap.size)) (fun i _ => n - (intOf i).toNat)
  case atStart => exact ⟨0, [], _, by omega, rfl, (show ([] : List (TenW × TenE)).map (·.2) = ts.take 0 by simp), (show Cells3 _ [] from fun i z h => by simp at h), OW, R1, (show ∀ r ∈ rowsR [], _ from fun r hr => by simp [rowsR] at hr)⟩
  case round =>
    clear OW R1
    obtain ⟨k, zs, cs, hk, rfl, HZ, HC, HO, HR, HF⟩ := hrel
    by_cases hlt : k < n
    · obtain ⟨t, ht⟩ : ∃ t, ts[k]? = some t := ⟨_, List.getElem?_eq_getElem (by rw [← HN.out]; exact hlt)⟩
      obtain ⟨g, off, a1, c1, a2, c2, a3, c3, rfl, hg, k0, k1, k2, hT⟩ := (HT.out.below HR.out.bel HB.out).at ht
      have hle := HLN.out t (List.mem_of_getElem? ht)
      have HE := Lib.hid (to_ten hT (Nat.le_trans HB.out HR.out.bel.size) hle.1 hle.2.1 hle.2.2)
      obtain ⟨m1, hm1⟩ : ∃ m, m = t.1.length := ⟨_, rfl⟩
      obtain ⟨m2, hm2⟩ : ∃ m, m = t.2.1.length := ⟨_, rfl⟩
      obtain ⟨m3, hm3⟩ : ∃ m, m = t.2.2.length := ⟨_, rfl⟩
      rw [← hm1, ← hm2, ← hm3] at HE
      rw [← hm1] at k0
      rw [← hm2] at k1
      rw [← hm3] at k2
      have HM := Lib.hid (And.intro hm1 (And.intro hm2 hm3))
      have HTK := Lib.hid ht
      clear ht hT hg hle hm1 hm2 hm3
      go_wp2_with fail
      refine HE.out.mono ?_
      clear k0 k1 k2 HE
      rintro e w2 ⟨lv, dv, xv, rfl, ho, hb⟩
      obtain ⟨b1, d1, e1, -⟩ := ints_form ho.rows.1.rd
      obtain ⟨b2, d2, e2, -⟩ := ints_form ho.rows.2.1.rd
      obtain ⟨b3, d3, e3, -⟩ := ints_form ho.rows.2.2.rd
      rw [← HM.out.1] at e1
      rw [← HM.out.2.1] at e2
      rw [← HM.out.2.2] at e3
      subst e1 e2 e3
      have hzl : zs.length = k := by
        have h1 := congrArg List.length HZ.out
        rw [List.length_map, List.length_take, ← HN.out] at h1
        omega
      have clen : cs.length = n * 3 := HO.out.1
      have hG := (HO.out.lt w.heap.size rfl).2
      have HO2 := Lib.hid (HO.out.kept (row := none) ⟨hb.os, hb.tape, hb.output, hb.size, fun j hj _ => hb.block j hj⟩ (.inr (by simp [Value.ownBlock])))
      have R2 := HR.out.new3 hb ho
      have HZ2 : Hid ((zs ++ [(((.slice b1 m1 d1, .slice b2 m2 d2, .slice b3 m3 d3) : TenW), t)]).map (·.2) = ts.take (k + 1)) := Lib.hid (by
        rw [List.map_append, HZ.out, List.take_add_one, HTK.out]; rfl)
      have HC2 := Lib.hid (HC.out.snoc (((.slice b1 m1 d1, .slice b2 m2 d2, .slice b3 m3 d3) : TenW), t) hzl (by omega))
      have hF2 : ∀ r ∈ rowsR (zs ++ [(((.slice b1 m1 d1, .slice b2 m2 d2, .slice b3 m3 d3) : TenW), t)]), r.1.ownBlock ≠ some w.heap.size := fun r hr e => by
        rw [rowsR_snoc] at hr
        rcases List.mem_cons.1 hr with rfl | hr
        · have := ho.rows.1.lo _ e; omega
        · rcases List.mem_cons.1 hr with rfl | hr
          · have := ho.rows.2.1.lo _ e; omega
          · rcases List.mem_cons.1 hr with rfl | hr
            · have := ho.rows.2.2.lo _ e; omega
            · exact HF.out r hr e
      have HF2 := Lib.hid hF2
      have R3 : Hid (Rs w (((w2.setCell ⟨w.heap.size, k * 3, none⟩ (.slice b1 m1 d1)).setCell ⟨w.heap.size, k * 3 + 1, none⟩ (.slice b2 m2 d2)).setCell ⟨w.heap.size, k * 3 + 2, none⟩ (.slice b3 m3 d3)) [] (rowsR (zs ++ [(((.slice b1 m1 d1, .slice b2 m2 d2, .slice b3 m3 d3) : TenW), t)]))) := Lib.hid (by
        have hnb : ∀ b ∈ ([] : List BxE), b.1 ≠ w.heap.size := fun b hm => by cases hm
        have h2 : Rs w w2 [] (rowsR (zs ++ [(((.slice b1 m1 d1, .slice b2 m2 d2, .slice b3 m3 d3) : TenW), t)])) := by rw [rowsR_snoc]; exact R2
        exact ((h2.beside (Nat.le_refl _) hnb hF2 _ _).beside (Nat.le_refl _) hnb hF2 _ _).beside (Nat.le_refl _) hnb hF2 _ _)
      have s1 := HO2.out.stored (k * 3) (.slice b1 m1 d1)
      have s2 := s1.1.stored (k * 3 + 1) (.slice b2 m2 d2)
      have s3 := s2.1.stored (k * 3 + 2) (.slice b3 m3 d3)
      have HO3 := Lib.hid s3.1
      obtain ⟨z0, hz0⟩ : ∃ z, cs[k * 3]? = some z := ⟨_, List.getElem?_eq_getElem (by omega)⟩
      have q0 : w2.cell? ⟨w.heap.size, k * 3, none⟩ = some z0 := by rw [HO2.out.cellAt _ (by omega)]; exact hz0
      obtain ⟨z1, hz1⟩ : ∃ z, cs[k * 3 + 1]? = some z := ⟨_, List.getElem?_eq_getElem (by omega)⟩
      have q1 : w2.cell? ⟨w.heap.size, k * 3 + 1, none⟩ = some z1 := by rw [HO2.out.cellAt _ (by omega)]; exact hz1
      obtain ⟨z2, hz2⟩ : ∃ z, cs[k * 3 + 2]? = some z := ⟨_, List.getElem?_eq_getElem (by omega)⟩
      have q2 : w2.cell? ⟨w.heap.size, k * 3 + 2, none⟩ = some z2 := by rw [HO2.out.cellAt _ (by omega)]; exact hz2
      have f0 := HO2.out.frozenAt (k * 3)
      have f1 := HO2.out.frozenAt (k * 3 + 1)
      have f2 := HO2.out.frozenAt (k * 3 + 2)
      clear ho hb R2 hF2 s1 s2 s3 hG hzl hz0 hz1 hz2
      clear clen
      go_wp2
      go_roundw
      case rel => exact ⟨k + 1, _, _, by omega, by go_num, HZ2, HC2, HO3, R3, HF2⟩
      case measure => simp [intOf]; omega
    · obtain rfl : k = n := by omega
      go_wp2
      go_ret
      have hts : zs.map (·.2) = ts := by rw [HZ.out]; exact List.take_of_length_le (by rw [← HN.out]; exact Nat.le_refl _)
      exact ⟨_, rfl, ⟨zs, cs, hts, by rw [← HN.out]; exact HO.out, HC.out, HR.out.ownG, fun g hg => by cases hg; exact ⟨(HO.out.lt w.heap.size rfl).2, HF.out⟩, Nat.le_refl _⟩, HR.out.bel⟩
end Go.Proofs.Ytdheakjjnaifkaa
namespace Go.Proofs.Ytdheakjjnaifkaa
set_option maxRecDepth 20000
open Go.RowKit

theorem ApartG.same {rows : List RowE} (h : ApartG rows) {q r : RowE} (hq : q ∈ rows) (hr : r ∈ rows) {g : Nat} (e1 : q.1.ownBlock = some g) (e2 : r.1.ownBlock = some g) : q = r := by
  obtain ⟨i, hi, rfl⟩ := List.mem_iff_getElem.1 hq
  obtain ⟨j, hj, rfl⟩ := List.mem_iff_getElem.1 hr
  rcases Nat.lt_trichotomy i j with h1 | rfl | h1
  · exact absurd e2 (List.pairwise_iff_getElem.1 h i j hi hj h1 g e1)
  · rfl
  · exact absurd e1 (List.pairwise_iff_getElem.1 h j i hj hi h1 g e2)
/-- Rows of these lengths, of the call's own, whatever they hold. -/
def HeldL (w : World) (lo hi : Nat) (rows : List RowE) : Prop := ∀ r ∈ rows, ∃ ys, List.length ys = r.2.length ∧ Own w lo hi r.1 ys
theorem HeldL.mark {w w' : World} {lo hi : Nat} {rows : List RowE} (h : HeldL w lo hi rows) (ha : ApartG rows) {r : RowE} (hm : r ∈ rows) (hg : w.grownBy w' r.1.ownBlock) {ys : List Int} (ho : Own w' lo hi r.1 ys) (hl : ys.length = r.2.length) : HeldL w' lo hi rows := fun q hq => by
  by_cases e : ∃ g, q.1.ownBlock = some g ∧ r.1.ownBlock = some g
  · obtain ⟨g, e1, e2⟩ := e
    obtain rfl := ha.same hq hm e1 e2
    exact ⟨ys, hl, ho⟩
  · obtain ⟨zs, hz, hoq⟩ := h q hq
    exact ⟨zs, hz, hoq.apart hg (fun g hg' e1 => e ⟨g, e1, hg'⟩)⟩
/-- The state while the rows are marked. -/
structure MkS (w0 w : World) (lo hi G : Nat) (n cap : Nat) (cs : List Value) (rows : List RowE) : Prop where
  ow : w.ownsRow lo 55 3 (.slice (some ⟨G, 0, none⟩) n cap) n cs
  hl : HeldL w lo hi rows
  kp : KeptOut w0 w lo hi
theorem MkS.mark {w0 w w' : World} {lo hi G n cap : Nat} {cs : List Value} {rows : List RowE} (h : MkS w0 w lo hi G n cap cs rows) (ha : ApartG rows) (hf : ∀ r ∈ rows, r.1.ownBlock ≠ some G) {r : RowE} (hm : r ∈ rows) (hg : w.grownBy w' r.1.ownBlock) {ys : List Int} (ho : Own w' lo hi r.1 ys) (hl : ys.length = r.2.length) : MkS w0 w' lo hi G n cap cs rows :=
  ⟨h.ow.kept hg (.inr (fun e => hf r hm (by rw [← e]; rfl))), h.hl.mark ha hm hg ho hl, h.kp.trans (KeptOut.of hg (fun g e => ⟨ho.lo g e, ho.2.1 g e⟩))⟩
set_option maxHeartbeats 3200000 in
theorem mark_tens {lo hi : Nat} {v : Value} {ts : List TenE} {w : World} {z : Int} (s : Nat) (hz : z = (s : Int)) (h : OwnTs w lo hi v ts) (hn : ts.length ≤ 1048576) (hs : s + totT ts ≤ 1073741824) :
    Calls Try.prog 55 #[v, .int .i64 z] w fun e w' => e = .returned (.int .i64 ((s + totT ts : Nat) : Int)) ∧ KeptOut w w' lo hi := by
  subst hz
  obtain ⟨zs, cs, h1, h2, h3, h4, h5, h6⟩ := h
  have hzl : zs.length = ts.length := by rw [← h1, List.length_map]
  have htl : ∀ j, totT (ts.take j) ≤ totT ts := fun j => by
    have e : totT ts = totT (ts.take j) + totT (ts.drop j) := by
      unfold totT
      rw [← List.sum_append, ← List.map_append, List.take_append_drop]
    omega
  rcases h2.2 with ⟨rfl, h0⟩ | ⟨G, cap, cur, rfl, -⟩
  · have hts : ts = [] := List.length_eq_zero_iff.1 h0
    subst hts
    have K0 := Lib.hid (KeptOut.refl w lo hi)
    go_enter Try.func55, Try.ntmps55
    go_wp2
    go_loopw [1, 5] (fun l i wr => l = .int .i64 (s : Int) ∧ i = .int .i64 (0 : Int) ∧ wr = w) (fun _ _ _ => 0)
    case atStart => exact ⟨rfl, rfl, rfl⟩
    case round =>
      obtain ⟨rfl, rfl, rfl⟩ := hrel
      go_wp2
      go_ret
      exact ⟨by simp [totT], K0.out⟩
  · have M0 : Hid (MkS w w lo hi G ts.length cap cs (rowsR zs)) := Lib.hid ⟨h2, fun r hr => ⟨r.2, rfl, h4.1 r hr⟩, KeptOut.refl w lo hi⟩
    have HA := Lib.hid h4.2
    have HF := Lib.hid (h5 G rfl).2
    have HC := Lib.hid h3
    have HZ := Lib.hid h1
    have HS := Lib.hid hs
    have HTL := Lib.hid htl
    obtain ⟨n, hnn⟩ : ∃ n, n = ts.length := ⟨_, rfl⟩
    rw [← hnn] at M0 hn hzl ⊢
    have HN := Lib.hid (And.intro hnn hzl)
    clear h1 h2 h3 h4 h5 h6 hs hzl hnn htl
    go_enter Try.func55, Try.ntmps55
    go_wp2
    go_loopw [1, 5] (fun l i wr => ∃ (j q : Nat), j ≤ n ∧ i = .int .i64 j ∧ l = .int .i64 q ∧ Hid (q = s + totT (ts.take j)) ∧ Hid (MkS w wr lo hi G n cap cs (rowsR zs))) (fun _ i _ => n - (intOf i).toNat)
    case atStart => exact ⟨0, s, by omega, rfl, rfl, (show s = s + totT (ts.take 0) by simp [totT]), M0⟩
    case round =>
      clear M0
      obtain ⟨j, q, hj, rfl, rfl, HQ, HM⟩ := hrel
      by_cases hlt : j < n
      · obtain ⟨y, hy⟩ : ∃ y, zs[j]? = some y := ⟨_, List.getElem?_eq_getElem (by rw [HN.out.2]; exact hlt)⟩
        have hty : ts[j]? = some y.2 := by rw [← HZ.out, List.getElem?_map, hy]; rfl
        obtain ⟨m1, m2, m3⟩ := rowsR_mem (List.mem_of_getElem? hy)
        obtain ⟨e1, e2, e3⟩ := HC.out j y hy
        obtain ⟨y1, l1, o1⟩ := HM.out.hl _ m1
        obtain ⟨y2, l2, o2⟩ := HM.out.hl _ m2
        obtain ⟨y3, l3, o3⟩ := HM.out.hl _ m3
        replace l1 : y1.length = y.2.1.length := l1
        replace l2 : y2.length = y.2.2.1.length := l2
        replace l3 : y3.length = y.2.2.2.length := l3
        replace o1 : Own wr lo hi y.1.1 y1 := o1
        have hw := totT_step hty
        have hle := HTL.out (j + 1)
        have hS := HS.out
        have hQ := HQ.out
        have hwt : wtT y.2 = y.2.1.length + y.2.2.1.length + y.2.2.2.length := rfl
        obtain ⟨n1, hn1⟩ : ∃ x, x = y.2.1.length := ⟨_, rfl⟩
        obtain ⟨n2, hn2⟩ : ∃ x, x = y.2.2.1.length := ⟨_, rfl⟩
        obtain ⟨n3, hn3⟩ : ∃ x, x = y.2.2.2.length := ⟨_, rfl⟩
        rw [← hn1, ← hn2, ← hn3] at hwt
        have clen : cs.length = n * 3 := HM.out.ow.1
        have cell : ∀ (u : World), MkS w u lo hi G n cap cs (rowsR zs) → u.cell? ⟨G, j * 3, none⟩ = some y.1.1 ∧ u.cell? ⟨G, j * 3 + 1, none⟩ = some y.1.2.1 ∧ u.cell? ⟨G, j * 3 + 2, none⟩ = some y.1.2.2 := fun u hu =>
          ⟨(hu.ow.cellAt _ (by omega)).trans e1, (hu.ow.cellAt _ (by omega)).trans e2, (hu.ow.cellAt _ (by omega)).trans e3⟩
        have HCL := Lib.hid cell
        have MM := Lib.hid (And.intro m1 (And.intro m2 m3))
        have HL := Lib.hid (And.intro hn1 (And.intro hn2 hn3))
        have HB := Lib.hid (show q + n1 + n2 + n3 ≤ 1073741824 ∧ q + n1 + n2 + n3 = s + totT (ts.take (j + 1)) by omega)
        obtain ⟨x1, x2, x3, hx⟩ : ∃ x1 x2 x3, y.1 = (x1, x2, x3) := ⟨_, _, _, rfl⟩
        have HX := Lib.hid hx
        have M1 := Lib.hid (marks_from q rfl o1 (by omega) (by omega))
        rw [l1, ← hn1, hx] at M1
        have k0 := (cell wr HM.out).1
        rw [hx] at k0
        have b1 : q + n1 ≤ 1073741824 := by omega
        have b2 : q + n1 + n2 ≤ 1073741824 := by omega
        have b3 : q ≤ 1073741824 := by omega
        clear hy hty m1 m2 m3 e1 e2 e3 o1 o2 o3 l1 l2 l3 hw hle hS hQ hwt hn1 hn2 hn3 clen cell
        obtain ⟨q1, hq1⟩ : ∃ x, x = q + n1 := ⟨_, rfl⟩
        obtain ⟨q2, hq2⟩ : ∃ x, x = q + n1 + n2 := ⟨_, rfl⟩
        obtain ⟨q3, hq3⟩ : ∃ x, x = q + n1 + n2 + n3 := ⟨_, rfl⟩
        rw [← hq1] at M1
        have HQS := Lib.hid (And.intro hq1 (And.intro hq2 hq3))
        have c1 : q1 ≤ 1073741824 := by omega
        have c2 : q2 ≤ 1073741824 := by omega
        clear hq1 hq2 hq3 b1 b2
        go_wp2_with fail
        refine M1.out.mono ?_
        clear k0 M1
        rintro e w1 ⟨rfl, o1, g1⟩
        have S1 : Hid (MkS w w1 lo hi G n cap cs (rowsR zs)) := Lib.hid (HM.out.mark HA.out HF.out MM.out.1 (by rw [HX.out]; exact g1) (by rw [HX.out]; exact o1) (by rw [marksI_len, HL.out.1]))
        clear o1 g1 HM
        obtain ⟨y2, l2, o2⟩ := S1.out.hl _ MM.out.2.1
        replace l2 : y2.length = y.2.2.1.length := l2
        replace o2 : Own w1 lo hi y.1.2.1 y2 := o2
        have M2 := Lib.hid (marks_from q1 rfl o2 (by rw [l2, ← HL.out.2.1]; have := HB.out.1; omega) (by omega))
        rw [l2, ← HL.out.2.1, HX.out, show q1 + n2 = q2 by rw [HQS.out.1, HQS.out.2.1]] at M2
        have k1 := (HCL.out w1 S1.out).2.1
        rw [HX.out] at k1
        clear o2 l2
        go_wp2_with fail
        refine M2.out.mono ?_
        clear k1 M2
        rintro e w2 ⟨rfl, o1, g1⟩
        have S2 : Hid (MkS w w2 lo hi G n cap cs (rowsR zs)) := Lib.hid (S1.out.mark HA.out HF.out MM.out.2.1 (by rw [HX.out]; exact g1) (by rw [HX.out]; exact o1) (by rw [marksI_len, HL.out.2.1]))
        clear o1 g1 S1
        obtain ⟨y3, l3, o3⟩ := S2.out.hl _ MM.out.2.2
        replace l3 : y3.length = y.2.2.2.length := l3
        replace o3 : Own w2 lo hi y.1.2.2 y3 := o3
        have M3 := Lib.hid (marks_from q2 rfl o3 (by rw [l3, ← HL.out.2.2]; have := HB.out.1; omega) (by omega))
        rw [l3, ← HL.out.2.2, HX.out, show q2 + n3 = q3 by rw [HQS.out.2.1, HQS.out.2.2]] at M3
        have k2 := (HCL.out w2 S2.out).2.2
        rw [HX.out] at k2
        clear o3 l3
        go_wp2_with fail
        refine M3.out.mono ?_
        clear k2 M3
        rintro e w3 ⟨rfl, o1, g1⟩
        have S3 : Hid (MkS w w3 lo hi G n cap cs (rowsR zs)) := Lib.hid (S2.out.mark HA.out HF.out MM.out.2.2 (by rw [HX.out]; exact g1) (by rw [HX.out]; exact o1) (by rw [marksI_len, HL.out.2.2]))
        clear o1 g1 S2
        go_wp2
        go_roundw
        case rel => exact ⟨j + 1, q3, by omega, by go_num, rfl, (show q3 = _ by rw [HQS.out.2.2]; exact HB.out.2), S3⟩
        case measure => simp [intOf]; omega
      · obtain rfl : j = n := by omega
        have hq : q = s + totT ts := by rw [HQ.out, totT_all (by rw [← HN.out.1]; exact Nat.le_refl _)]
        have HQ2 := Lib.hid hq
        clear hq
        go_wp2
        go_ret
        exact ⟨by rw [HQ2.out]; simp, HM.out.kp⟩
/-- What is no older is not changed by a call. -/
theorem OwnTs.below {w w' : World} {lo hi : Nat} {v : Value} {ts : List TenE} (h : OwnTs w lo hi v ts) (hb : Below w.heap.size w w') : OwnTs w' lo hi v ts := by
  obtain ⟨zs, cs, h1, h2, h3, h4, h5, h6⟩ := h
  refine ⟨zs, cs, h1, h2.kept (row := none) ⟨hb.os, hb.tape, hb.output, hb.size, fun j hj _ => hb.block j hj⟩ ?_, h3, h4.below hb (Nat.le_refl _), h5, Nat.le_trans h6 hb.size⟩
  cases v.ownBlock with
  | none => exact .inl rfl
  | some g => exact .inr (by simp)
theorem wt_le {ts : List TenE} {t : TenE} (h : t ∈ ts) : wtT t ≤ totT ts := by
  induction ts with
  | nil => cases h
  | cons a r ih =>
    have e : totT (a :: r) = wtT a + totT r := by simp [totT]
    rcases List.mem_cons.1 h with rfl | h
    · omega
    · have := ih h; omega
theorem noRows (w : World) (lo hi : Nat) : OwnG w lo hi [] := ⟨by simp, List.Pairwise.nil⟩
end Go.Proofs.Ytdheakjjnaifkaa
