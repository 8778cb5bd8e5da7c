
/- spec.l06Names. -/
import Derived.Test.YtceidekfcnmeaaaGreatTensorOk
import Derived.Test.YtceidekfcnmeaaaGreatTenFacts
import Derived.Test.YtceidekfcnmeaaaGreatRs
import Derived.Test.YtceidekfcnmeaaaGreatBx
import Derived.Deep.RegionHeld3
import Derived.Test.YtceidekfcnmeaaaGreatTensorOk2
import Derived.Test.YtceidekfcnmeaaaGreatElemAt
import Derived.Deep.AppendLies
import Derived.Deep.RegionLaw
namespace Go.Proofs.YtceidekfcnmeaaaGreat
set_option maxRecDepth 20000
open Go.RowKit

/-- A row of the call's own, not empty: its cells. -/
theorem Own.slot {w : World} {lo hi m cap : Nat} {a : Option Addr} {xs : List Int} (h : Own w lo hi (.slice a m cap) xs) (hm : xs.length = m) (h0 : 0 < m) :
    ∃ g, a = some ⟨g, 0, none⟩ ∧ lo ≤ g ∧ g < hi ∧ (∀ i x, xs[i]? = some x → w.cell? ⟨g, i, none⟩ = some (.int .i64 x)) ∧ ∀ i, w.frozen? ⟨g, i, none⟩ = false := by
  subst hm
  rcases h.1.2 with ⟨-, hnil⟩ | ⟨g, cap', cur, e, hb, -⟩
  · omega
  · cases e
    refine ⟨g, rfl, hb, h.2.1 g rfl, fun i x hi => ?_, fun i => h.1.frozenAt i⟩
    have hlt := (List.getElem?_eq_some_iff.1 hi).1
    rw [h.1.cellAt i (by omega), ints_at xs i hlt, (List.getElem?_eq_some_iff.1 hi).2]
end Go.Proofs.YtceidekfcnmeaaaGreat
namespace Go.Proofs.YtceidekfcnmeaaaGreat
set_option maxRecDepth 20000
open Go.RowKit

def SetTo (xs ys : List Int) (j : Nat) : Prop := ∀ i n, i < j → ys[i]? = some n → n ∈ xs ∧ n ∉ ys.take i
theorem SetTo.step {xs ys : List Int} {j : Nat} {n : Int} (h : SetTo xs ys j) (hn : ys[j]? = some n) (h1 : n ∈ xs) (h2 : n ∉ ys.take j) : SetTo xs ys (j + 1) := fun i k hi hk => by
  by_cases e : i = j
  · subst e; rw [hn] at hk; injection hk with hk; subst hk; exact ⟨h1, h2⟩
  · exact h i k (by omega) hk
end Go.Proofs.YtceidekfcnmeaaaGreat
namespace Go.Proofs.YtceidekfcnmeaaaGreat
set_option maxRecDepth 20000
open Go.RowKit

end Go.Proofs.YtceidekfcnmeaaaGreat
namespace Go.Proofs.YtceidekfcnmeaaaGreat
set_option maxRecDepth 20000
open Go.RowKit

theorem atL_len (L labels : List Int) : (atL L labels).length = labels.length := by simp [atL]
theorem dimsVia_len (L D labels : List Int) : (dimsVia L D labels).length = labels.length := by simp [dimsVia]
theorem atL_at {L labels : List Int} {j : Nat} {n : Int} (h : labels[j]? = some n) : (atL L labels)[j]? = some (findI L n) := by unfold atL; rw [List.getElem?_map, h]; rfl
theorem dimsVia_at {L D labels : List Int} {j : Nat} {n : Int} (h : labels[j]? = some n) : (dimsVia L D labels)[j]? = some (D.getD (L.idxOf n) 0) := by unfold dimsVia; rw [List.getElem?_map, h]; rfl
theorem take_snoc {xs : List Int} {j : Nat} {x : Int} (h : xs[j]? = some x) : xs.take j ++ [x] = xs.take (j + 1) := by rw [List.take_add_one, h]; rfl
theorem ints_snoc (xs : List Int) (x : Int) : ints xs ++ [.int .i64 x] = ints (xs ++ [x]) := by simp [ints]
/-- What the law of append gives, for the head row. -/
theorem Rs.app1 {w0 wr w' : World} {bs : List BxE} {rows : List RowE} {v : Value} {xs : List Int} {x : Int} {g n cap : Nat} (h : Rs w0 wr bs ((v, xs) :: rows)) (hn : xs.length = n) (ho : w'.ownsRow w0.heap.size 3 1 (.slice (some ⟨g, 0, none⟩) (n + 1) cap) (n + 1) (ints xs ++ [.int .i64 x])) (hg : wr.grownBy w' v.ownBlock) (hl : v.ownBlock = some g ∨ g = wr.heap.size) :
    Rs w0 w' bs ((.slice (some ⟨g, 0, none⟩) (n + 1) cap, xs ++ [x]) :: rows) := by
  rw [ints_snoc] at ho
  exact h.app ho (by simp [hn]) hg hl
/-- A label's place under way in the index. -/
def IxTo (L labels ix row : List Int) (j : Nat) : Prop := ∀ i n, i < j → labels[i]? = some n → row.getD (L.idxOf n) 0 = ix.getD i 0
theorem IxTo.step {L labels ix row : List Int} {j : Nat} {n x : Int} (hn : L.Nodup) (hp : labels.Perm L) (h : IxTo L labels ix row j) (hj : labels[j]? = some n) (hx : ix[j]? = some x) (hr : row.length = L.length) : IxTo L labels ix (row.set (L.idxOf n) x) (j + 1) := fun i k hi hk => by
  have hmem : ∀ z ∈ labels, L.idxOf z < row.length := fun z hz => by rw [hr]; exact List.idxOf_lt_length_iff.2 (hp.subset hz)
  have hnm := hmem n (List.mem_of_getElem? hj)
  by_cases e : i = j
  · subst e
    rw [hj] at hk
    injection hk with hk
    subst hk
    rw [getD_at (List.getElem?_set_self hnm), getD_at hx]
  · have hne : L.idxOf n ≠ L.idxOf k := fun e2 => by
      have hk2 : k = n := by
        have h1 := at_idxOf (hp.subset (List.mem_of_getElem? hk))
        have h2 := at_idxOf (hp.subset (List.mem_of_getElem? hj))
        rw [← e2] at h1
        rw [h1] at h2
        injection h2
      subst hk2
      have hnl : labels.Nodup := hp.nodup_iff.2 hn
      exact e ((List.getElem?_inj (List.getElem?_eq_some_iff.1 hk).1 hnl).1 (hk.trans hj.symm))
    rw [List.getD_eq_getElem?_getD, List.getElem?_set_ne hne, ← List.getD_eq_getElem?_getD]
    exact h i k (by omega) hk

/-- What is known of a tensor that is valid, and of its labels in some order. -/
structure PF (k p q : Int) (L D X labels : List Int) (m wd N : Nat) : Prop where
  lL : L.length = m
  lD : D.length = m
  lG : labels.length = m
  m12 : m ≤ 12
  nd : L.Nodup
  pm : labels.Perm L
  dD : ∀ d ∈ D, 1 ≤ d ∧ d ≤ 8
  pD : prodL D = (N : Int)
  n1 : 1 ≤ N ∧ N ≤ 4096
  hw : widthI k q = (wd : Int)
  w6 : 1 ≤ wd ∧ wd ≤ 6
  lX : X.length = N * wd
  rg : ringB k p q = true
theorem PF.of {k p q : Int} {L D X labels : List Int} (ht : tensorB k p q L D X = true) (hs : SetV L labels) : PF k p q L D X labels L.length (widthI k q).toNat (prodL D).toNat := by
  obtain ⟨hrb, hs0, hxl, -⟩ := tensorB_inv ht
  have hwd := ring_width hrb
  rcases sizeI_cases L D with ⟨h, -⟩ | ⟨h1, h2, h3, h4⟩
  · omega
  · obtain ⟨a1, a2, a3, a4, a5⟩ := h2
    refine ⟨rfl, a2.symm, hs.2.symm, a1, a5, hs.perm, a4, by omega, by omega, by omega, by omega, ?_, hrb⟩
    have e1 : (((prodL D).toNat * (widthI k q).toNat : Nat) : Int) = prodL D * widthI k q := by
      rw [Int.natCast_mul, Int.toNat_of_nonneg (by omega), Int.toNat_of_nonneg (by omega)]
    rw [h1, ← e1] at hxl
    exact_mod_cast hxl
theorem PF.dims {k p q : Int} {L D X labels : List Int} {m wd N : Nat} (h : PF k p q L D X labels m wd N) : (∀ d ∈ dimsVia L D labels, 1 ≤ d ∧ d ≤ 8) ∧ prodL (dimsVia L D labels) = (N : Int) ∧ capI (dimsVia L D labels) = (N : Int) := by
  have hp := dims_perm (D := D) h.nd (by rw [h.lL, h.lD]) h.pm
  have h1 : ∀ d ∈ dimsVia L D labels, 1 ≤ d ∧ d ≤ 8 := fun d hd => h.dD d (hp.subset hd)
  have h2 : prodL (dimsVia L D labels) = (N : Int) := by rw [prodL_perm hp, h.pD]
  refine ⟨h1, h2, ?_⟩
  have h3 := (capI_is (fun d hd => (h1 d hd).1)).1
  have := h.n1
  rw [h3, h2]; omega
theorem PF.at {k p q : Int} {L D X labels : List Int} {m wd N : Nat} (h : PF k p q L D X labels m wd N) {j : Nat} {n : Int} (hj : labels[j]? = some n) : ∃ (z : Nat) (d : Int), L.idxOf n = z ∧ z < m ∧ findI L n = (z : Int) ∧ D[z]? = some d ∧ (dimsVia L D labels)[j]? = some d := by
  have hm : n ∈ L := h.pm.subset (List.mem_of_getElem? hj)
  have hlt := List.idxOf_lt_length_iff.2 hm
  refine ⟨_, D[L.idxOf n]'(by rw [h.lD, ← h.lL]; exact hlt), rfl, by rw [← h.lL]; exact hlt, by unfold findI; rw [if_pos hm], List.getElem?_eq_getElem _, ?_⟩
  rw [dimsVia_at hj, getD_at (List.getElem?_eq_getElem _)]
/-- The offset of an index in another order. -/
theorem PF.off {k p q : Int} {L D X labels : List Int} {m wd N : Nat} (h : PF k p q L D X labels m wd N) (c : Nat) : ∃ o : Nat, offI D (viaL L labels (idxL (dimsVia L D labels) (c : Int))) = (o : Int) ∧ o < N ∧ o * wd + wd ≤ X.length ∧ InIx D (viaL L labels (idxL (dimsVia L D labels) (c : Int))) := by
  have hi := via_in h.nd (by rw [h.lL, h.lD]) h.pm (idxL_in (fun d hd => (h.dims.1 d hd).1) (c : Int))
  have hr := offP_range (fun d hd => (h.dD d hd).1) hi D.length (Nat.le_refl _)
  rw [← offI_is, List.take_of_length_le (Nat.le_refl _), h.pD] at hr
  refine ⟨(offI D (viaL L labels (idxL (dimsVia L D labels) (c : Int)))).toNat, by omega, by omega, ?_, hi⟩
  rw [h.lX]
  have h2 : (offI D (viaL L labels (idxL (dimsVia L D labels) (c : Int)))).toNat + 1 ≤ N := by omega
  have h3 := Nat.mul_le_mul_right wd h2
  rw [Nat.add_mul, Nat.one_mul] at h3
  exact h3
theorem PF.len {k p q : Int} {L D X labels : List Int} {m wd N : Nat} (h : PF k p q L D X labels m wd N) (c : Nat) : (permX wd L D X labels c).length = c * wd :=
  permX_len h.nd (by rw [h.lL, h.lD]) h.pm (fun d hd => (h.dD d hd).1) (fun o ho => by
    rw [h.pD] at ho
    rw [h.lX]
    have h3 := Nat.mul_le_mul_right wd (show o + 1 ≤ N by omega)
    rw [Nat.add_mul, Nat.one_mul] at h3
    exact h3) c

set_option maxHeartbeats 6400000 in
theorem permute_full {B : Nat} {k p q : Int} {L D X labels : List Int} {m mx wd N cl cd cx cg : Nat} {al ad ax ag : Option Addr} {w : World} (hp : PF k p q L D X labels m wd N) (hmx : mx = X.length) (h : RdT B w (.slice al m cl) (.slice ad m cd) (.slice ax mx cx) L D X) (hg : Rd B w (.slice ag m cg) (ints labels)) (hB : B ≤ w.heap.size) :
    Calls Tryz.prog 66 #[ringV k p q, tenV (.slice al m cl) (.slice ad m cd) (.slice ax mx cx), .slice ag m cg] w (NewTen w labels (dimsVia L D labels) (permX wd L D X labels N)) := by
  have P := Lib.hid hp
  have HT := Lib.hid h
  have HG := Lib.hid hg
  have HB := Lib.hid hB
  have HMX := Lib.hid hmx
  have h12 := hp.m12
  obtain ⟨i0, hi, hz0, hz1, hz2⟩ := info_parts infoInt
  have J0 := Lib.hid hi
  have J1 := Lib.hid hz0
  have J2 := Lib.hid hz1
  have J3 := Lib.hid hz2
  have S0 : Hid (Rs w (((w.alloc (.cells #[.int .i64 k, .int .i64 p, .int .i64 q] 24)).alloc (.cells #[.slice al m cl, .slice ad m cd, .slice ax mx cx] 28)).alloc (.cells #[nilV, nilV, nilV] 28)) [(w.heap.size + 1 + 1, nilV, nilV, nilV), (w.heap.size + 1, .slice al m cl, .slice ad m cd, .slice ax mx cx), (w.heap.size, .int .i64 k, .int .i64 p, .int .i64 q)] []) := by
    have h := (((Rs.start w).box (.int .i64 k) (.int .i64 p) (.int .i64 q) 24).box (.slice al m cl) (.slice ad m cd) (.slice ax mx cx) 28).box nilV nilV nilV 28
    simp only [World.size_alloc] at h
    exact h
  have S1 := S0.out.lit.lit
  simp only [World.size_alloc] at S1
  have S2 := Lib.hid S1
  clear hp h hg hB hmx hi hz0 hz1 hz2 S1
  go_enter Tryz.func66, Tryz.ntmps66
  go_wp2
  generalize hbs : [(w.heap.size + 1 + 1, nilV, nilV, nilV), (w.heap.size + 1, Value.slice al m cl, Value.slice ad m cd, Value.slice ax mx cx), (w.heap.size, Value.int .i64 k, Value.int .i64 p, Value.int .i64 q)] = bs at S0 S2
  have HBS := Lib.hid hbs
  clear hbs
  go_loopw [7, 8, 21] (fun u v i wr => ∃ (j ca cb : Nat) (ga gb : Option Addr), j ≤ m ∧ i = .int .i64 j ∧ u = .slice gb j cb ∧ v = .slice ga j ca ∧ Hid (Rs w wr bs [(.slice ga j ca, (atL L labels).take j), (.slice gb j cb, (dimsVia L D labels).take j)])) (fun _ _ i _ => m - (intOf i).toNat)
  case atStart => exact ⟨0, 0, 0, _, _, by omega, rfl, rfl, rfl, by rw [List.take_zero, List.take_zero]; exact S2⟩
  case round =>
    clear S0 S2
    obtain ⟨j, ca, cb, ga, gb, hj, rfl, rfl, rfl, HR⟩ := hrel
    by_cases hlt : j < m
    · obtain ⟨n, X1⟩ : ∃ n, Hid (labels[j]? = some n) := ⟨_, List.getElem?_eq_getElem (by rw [P.out.lG]; exact hlt)⟩
      obtain ⟨b, off, rfl, -, e1⟩ := (HG.out.below HR.out.bel HB.out).cellAt X1.out
      obtain ⟨z, d, hz, hzm, hfz, hd, hdd⟩ := P.out.at X1.out
      have D1 := Lib.hid hd
      have Z1 := Lib.hid (And.intro hz (And.intro hfz hdd))
      have HF := Lib.hid (find_spec n (HT.out.l.below HR.out.bel HB.out) (by rw [P.out.lL]; omega))
      rw [hfz] at HF
      clear hz hfz hd hdd
      obtain ⟨⟨t0, t1, -⟩, -⟩ := HR.out.at (r := w.heap.size + 1) (a := .slice al m cl) (b := .slice ad m cd) (c := .slice ax mx cx) (by rw [← HBS.out]; simp)
      have A1 := Lib.hid (HR.out.alloc (.cells #[.int .i64 (z : Int)] 3))
      have O1 := Lib.hid (A1.out.row (List.mem_cons_self) (by rw [List.length_take, atL_len, P.out.lG]; omega) : World.ownsRow _ w.heap.size 3 1 (.slice ga j ca) j (ints ((atL L labels).take j)))
      go_wp2_with fail
      refine HF.out.mono ?_
      rintro e w1 ⟨rfl, rfl⟩
      go_wp2_with (at_builtin; go_must (refine wpList_append_lies _ rfl _ _ 26 rfl w.heap.size 3 i0 (.int .i64 0) 1 8 Tryz.underlying26 J0.out J1.out J2.out J3.out rfl (by decide) _ j (ints ((atL L labels).take j)) rfl O1.out ⟨wr.heap.size, 0, none⟩ 1 1 [.int .i64 (z : Int)] rfl rfl (cell_one_new _ _ _) ?c2 (by decide) ?c3 ?c4 ?c5 _ rfl ?_))
      case c2 => first | rfl | (intro u hu; simp at hu; subst hu; rfl)
      case c3 => unfold maxLen; omega
      case c4 => omega
      case c5 => exact A1.out.bel.size
      intro g1 cap1 w2 hown hgrow hl1 _
      have R2 := Lib.hid (A1.out.app1 (by rw [List.length_take, atL_len, P.out.lG]; omega) hown hgrow (by rw [World.size_alloc]; exact hl1))
      rw [take_snoc (by rw [atL_at X1.out, Z1.out.2.1])] at R2
      clear hown hgrow hl1 O1 A1 t0 t1
      obtain ⟨⟨-, t1, -⟩, -⟩ := R2.out.at (r := w.heap.size + 1) (a := .slice al m cl) (b := .slice ad m cd) (c := .slice ax mx cx) (by rw [← HBS.out]; simp)
      obtain ⟨bd, offd, rfl, -, e2⟩ := (HT.out.d.below R2.out.bel HB.out).cellAt D1.out
      have A2 := Lib.hid (R2.out.swap.alloc (.cells #[.int .i64 d] 3))
      have O2 := Lib.hid (A2.out.row (List.mem_cons_self) (by rw [List.length_take, dimsVia_len, P.out.lG]; omega) : World.ownsRow _ w.heap.size 3 1 (.slice gb j cb) j (ints ((dimsVia L D labels).take j)))
      go_wp2_with (at_builtin; go_must (refine wpList_append_lies _ rfl _ _ 26 rfl w.heap.size 3 i0 (.int .i64 0) 1 8 Tryz.underlying26 J0.out J1.out J2.out J3.out rfl (by decide) _ j (ints ((dimsVia L D labels).take j)) rfl O2.out ⟨w2.heap.size, 0, none⟩ 1 1 [.int .i64 d] rfl rfl (cell_one_new _ _ _) ?c2 (by decide) ?c3 ?c4 ?c5 _ rfl ?_))
      case c2 => first | rfl | (intro u hu; simp at hu; subst hu; rfl)
      case c3 => unfold maxLen; omega
      case c4 => omega
      case c5 => exact A2.out.bel.size
      intro g2 cap2 w3 hown hgrow hl2 _
      have R3 := Lib.hid (A2.out.app1 (by rw [List.length_take, dimsVia_len, P.out.lG]; omega) hown hgrow (by rw [World.size_alloc]; exact hl2)).swap
      rw [take_snoc Z1.out.2.2] at R3
      clear hown hgrow hl2 O2 A2 t1
      go_wp2
      go_roundw
      case rel => exact ⟨j + 1, cap1, cap2, _, _, by omega, by go_num, rfl, rfl, R3⟩
      case measure => simp [intOf]; omega
    · obtain rfl : j = m := by omega
      rw [List.take_of_length_le (by rw [atL_len, P.out.lG]; exact Nat.le_refl _), List.take_of_length_le (by rw [dimsVia_len, P.out.lG]; exact Nat.le_refl _)] at HR
      have HI := Lib.hid (ints_new (HG.out.below HR.out.bel HB.out) (Nat.le_trans HB.out HR.out.bel.size) (by rw [P.out.lG]; omega))
      go_wp2_with fail
      refine HI.out.mono ?_
      rintro e w4 ⟨v, rfl, ho, hb⟩
      have R4 := Lib.hid (HR.out.new hb ho)
      obtain ⟨aG, cG, rfl, -⟩ := ints_form ho.rd
      rw [P.out.lG] at R4 ⊢
      have R5 := Lib.hid (R4.out.box (.slice aG j cG) (.slice gb j cb) nilV 28)
      clear ho hb HI HR
      go_wp2_with (at_make; go_must (refine wpList_make_full _ rfl _ _ 26 rfl (w4.heap.size + 1) 3 i0 (.int .i64 0) 1 Tryz.underlying26 J0.out J1.out J2.out .i64 .i64 _ _ j rfl rfl rfl rfl (by rw [J3.out]; omega) (by unfold maxLen; omega) (by simp) ?_))
      intro w5 hown hgrow
      have hmade := R5.out.made (n := j) (w' := w5) (by simp only [World.size_alloc, Value.cells, Nat.mul_one] at hown ⊢; exact hown) hgrow
      simp only [World.size_alloc] at hmade
      have R6 := Lib.hid hmade.nil.swap
      clear hown hgrow hmade R4 R5
      go_wp2
      go_loopw [14] (fun s wr => ∃ (c nn cX : Nat) (aX : Option Addr) (ixr : List Int), c ≤ N ∧ s = .int .i64 c ∧ nn ≤ 24576 ∧ Hid (nn = c * wd) ∧ Hid (ixr.length = j) ∧ Hid (Rs w wr ((w4.heap.size, .slice aG j cG, .slice gb j cb, .slice aX nn cX) :: bs) [(.slice (some ⟨w4.heap.size + 1, 0, none⟩) j j, ixr), (.slice aX nn cX, permX wd L D X labels c), (.slice aG j cG, labels), (.slice ga j ca, atL L labels), (.slice gb j cb, dimsVia L D labels)])) (fun s _ => N - (intOf s).toNat)
      case atStart => exact ⟨0, 0, 0, none, List.replicate j 0, by omega, rfl, by omega, by show 0 = 0 * wd; simp, Lib.hid (by simp), R6⟩
      case round =>
        clear R6
        obtain ⟨c, nn, cX, aX, ixr, hc, rfl, hnn, HNN, HIL, HR⟩ := hrel
        have hn4 := P.out.n1.2
        have hDr := HR.out.rd (v := .slice gb j cb) (xs := dimsVia L D labels) (by simp)
        have HPR := Lib.hid (product_spec hDr (by rw [dimsVia_len, P.out.lG]; omega) P.out.dims.1)
        rw [P.out.dims.2.2] at HPR
        by_cases hlt : c < N
        · have HIX := Lib.hid (index_spec (c : Int) hDr (Nat.le_refl _) (by rw [dimsVia_len, P.out.lG]; omega) P.out.dims.1 (by omega) (by omega))
          clear hDr
          go_wp2_with fail
          refine HPR.out.mono ?_
          rintro e w6 ⟨rfl, rfl⟩
          go_wp2_with fail
          refine HIX.out.mono ?_
          rintro e w6 ⟨v, rfl, ho, hb⟩
          have R8 := Lib.hid (HR.out.new hb ho).swap
          obtain ⟨a6, c6, rfl, -⟩ := ints_form ho.rd
          rw [idxL_len, dimsVia_len, P.out.lG] at R8 ⊢
          clear ho hb HIX HPR HR
          go_wp2
          go_loopw [59] (fun i ws => ∃ (y : Nat) (ixr : List Int), y ≤ j ∧ i = .int .i64 y ∧ Hid (ixr.length = j) ∧ Hid (IxTo L labels (idxL (dimsVia L D labels) (c : Int)) ixr y) ∧ Hid (Rs w ws ((w4.heap.size, .slice aG j cG, .slice gb j cb, .slice aX nn cX) :: bs) [(.slice (some ⟨w4.heap.size + 1, 0, none⟩) j j, ixr), (.slice a6 j c6, idxL (dimsVia L D labels) (c : Int)), (.slice aX nn cX, permX wd L D X labels c), (.slice aG j cG, labels), (.slice ga j ca, atL L labels), (.slice gb j cb, dimsVia L D labels)])) (fun i _ => j - (intOf i).toNat)
          case atStart => exact ⟨0, ixr, by omega, rfl, HIL, fun i n h => by omega, R8⟩
          case round =>
            clear R8 HIL
            obtain ⟨y, ixr, hy, rfl, HIL, HTO, HR⟩ := hrel
            by_cases hlty : y < j
            · obtain ⟨n, X1⟩ : ∃ n, Hid (labels[y]? = some n) := ⟨_, List.getElem?_eq_getElem (by rw [P.out.lG]; exact hlty)⟩
              obtain ⟨z, d, hz, hzm, hfz, -, -⟩ := P.out.at X1.out
              obtain ⟨x, V1⟩ : ∃ x, Hid ((idxL (dimsVia L D labels) (c : Int))[y]? = some x) := ⟨_, List.getElem?_eq_getElem (by rw [idxL_len, dimsVia_len, P.out.lG]; exact hlty)⟩
              obtain ⟨g6, rfl, -, -, hc6, -⟩ := (HR.out.own1 (v := .slice a6 j c6) (xs := idxL (dimsVia L D labels) (c : Int)) (by simp)).slot (by rw [idxL_len, dimsVia_len, P.out.lG]) (by omega)
              have k6 := hc6 y x V1.out
              obtain ⟨g7, rfl, -, -, hc7, -⟩ := (HR.out.own1 (v := .slice ga j ca) (xs := atL L labels) (by simp)).slot (by rw [atL_len, P.out.lG]) (by omega)
              have k7 := hc7 y (z : Int) (by rw [atL_at X1.out, hfz])
              obtain ⟨g8, e8, -, -, hc8, hf8⟩ := (HR.out.own1 (v := .slice (some ⟨w4.heap.size + 1, 0, none⟩) j j) (xs := ixr) (by simp)).slot HIL.out (by omega)
              cases e8
              obtain ⟨x0, hx0⟩ : ∃ x0, ixr[z]? = some x0 := ⟨_, List.getElem?_eq_getElem (by rw [HIL.out]; exact hzm)⟩
              have k8 := hc8 z x0 hx0
              have f8 := hf8 z
              have HR2 := Lib.hid (HR.out.put HIL.out z x)
              have HTO2 := Lib.hid (HTO.out.step P.out.nd P.out.pm X1.out V1.out (by rw [HIL.out, P.out.lL]))
              rw [hz] at HTO2
              have HIL2 : Hid ((ixr.set z x).length = j) := Lib.hid (by rw [List.length_set]; exact HIL.out)
              clear hz hfz hc6 hc7 hc8 hf8 hx0 HR HTO HIL
              go_wp2
              go_roundw
              case rel => exact ⟨y + 1, ixr.set z x, by omega, by go_num, HIL2, HTO2, HR2⟩
              case measure => simp [intOf]; omega
            · obtain rfl : y = j := by omega
              have HVI : Hid (ixr = viaL L labels (idxL (dimsVia L D labels) (c : Int))) := Lib.hid (via_unique P.out.nd P.out.pm (by rw [HIL.out, P.out.lL]) (fun i n hi => HTO.out i n (by have := (List.getElem?_eq_some_iff.1 hi).1; rw [P.out.lG] at this; exact this) hi))
              have R9 := Lib.hid (HR.out.sub (rows' := [(.slice (some ⟨w4.heap.size + 1, 0, none⟩) y y, ixr), (.slice aX nn cX, permX wd L D X labels c), (.slice aG y cG, labels), (.slice ga y ca, atL L labels), (.slice gb y cb, dimsVia L D labels)]) (List.Sublist.cons_cons _ (List.Sublist.cons _ (List.Sublist.refl _)))).drew
              obtain ⟨o, ho1, ho2, ho3, ho4⟩ := P.out.off c
              rw [← HVI.out] at ho1 ho4
              have HOF := Lib.hid (offset_spec_full ad cd (some ⟨w4.heap.size + 1, 0, none⟩) y y wr.drew.heap.size D ixr wr.drew P.out.lD HIL.out (by omega) P.out.dD (by rw [P.out.pD]; omega) ho4 ((HT.out.d.below R9.out.bel HB.out).mono (Nat.le_trans HB.out R9.out.bel.size)) (R9.out.rd (v := .slice (some ⟨w4.heap.size + 1, 0, none⟩) y y) (xs := ixr) (by simp)))
              rw [ho1] at HOF
              have HGT := Lib.hid (get_spec (k := k) (p := p) (q := q) wd o (HT.out.below R9.out.bel HB.out) (Nat.le_trans HB.out R9.out.bel.size) P.out.hw P.out.w6.1 P.out.w6.2 (by omega) ho3 (by rw [P.out.lX]; have := Nat.mul_le_mul hn4 P.out.w6.2; omega))
              have HSU : Hid (permX wd L D X labels c ++ getL wd X o = permX wd L D X labels (c + 1)) := Lib.hid (by rw [permX_succ, ← HVI.out, ho1]; rfl)
              have HGL := Lib.hid (getL_len ho3)
              have NB : Hid (nn + wd = (c + 1) * wd ∧ nn + wd ≤ 24576) := Lib.hid (by
                have h : nn + wd = (c + 1) * wd := by rw [HNN.out, Nat.add_mul, Nat.one_mul]
                exact ⟨h, by rw [h]; exact Nat.le_trans (Nat.mul_le_mul (show c + 1 ≤ 4096 by omega) P.out.w6.2) (by omega)⟩)
              have HPL : Hid ((permX wd L D X labels c).length = nn) := Lib.hid (by rw [P.out.len, HNN.out])
              have W6 := Lib.hid P.out.w6
              obtain ⟨⟨-, -, b2⟩, -, -, -⟩ := R9.out.at (r := w4.heap.size) (a := .slice aG y cG) (b := .slice gb y cb) (c := .slice aX nn cX) (by simp)
              obtain ⟨⟨r0, r1, r2⟩, -⟩ := R9.out.at (r := w.heap.size) (a := .int .i64 k) (b := .int .i64 p) (c := .int .i64 q) (by rw [← HBS.out]; simp)
              obtain ⟨⟨t0, t1, t2⟩, -⟩ := R9.out.at (r := w.heap.size + 1) (a := .slice al y cl) (b := .slice ad y cd) (c := .slice ax mx cx) (by rw [← HBS.out]; simp)
              clear ho1 ho2 ho3 ho4 HR HTO
              go_wp2
              go_region_law (first
                | (refine step_append_lies _ rfl (.tmp 73) (.tmp 80) 26 rfl w.heap.size 3 i0 (.int .i64 0) 1 8 Tryz.underlying26 J0.out J1.out J2.out J3.out rfl Nat.one_pos (.slice aX nn cX) nn (ints (permX wd L D X labels c)) rfl O10.out ⟨gz, 0, none⟩ wd cz (ints (getL wd X o)) rfl ?_ HNW.out (one_cells _) ?_ ?_ ?_ R10.out.bel.size _ rfl ?_
                   · rw [ints_len, HGL.out, Nat.mul_one]
                   · exact W6.out.1
                   · unfold maxLen; have := NB.out.2; omega
                   · have := NB.out.2; omega
                   intro g cap w8 hown hgrow hl _
                   rw [← ints_append] at hown
                   have h11 := R10.out.third.app hown (by rw [List.length_append, HPL.out, HGL.out]) hgrow hl
                   rw [HSU.out] at h11
                   have R11 := Lib.hid h11
                   obtain ⟨⟨-, -, b2⟩, -, -, f2⟩ := R11.out.at (r := w4.heap.size) (a := .slice aG y cG) (b := .slice gb y cb) (c := .slice aX nn cX) (by simp)
                   have R12 := Lib.hid ((R11.out.last (.slice (some ⟨g, 0, none⟩) (nn + wd) cap)).sub (rows' := [(.slice (some ⟨g, 0, none⟩) (nn + wd) cap, permX wd L D X labels (c + 1)), (.slice (some ⟨w4.heap.size + 1, 0, none⟩) y y, ixr), (.slice aG y cG, labels), (.slice ga y ca, atL L labels), (.slice gb y cb, dimsVia L D labels)]) (List.Sublist.cons_cons _ (List.Sublist.cons _ (List.Sublist.refl _)))).swap
                   clear hown hgrow hl h11)
                | (go_simp
                   go_at_call 98
                   refine HGT.out.mono ?_
                   rintro e w7 ⟨zv, rfl, ho, hb⟩
                   obtain ⟨gz, cz, rfl, hnews⟩ := own_form ho HGL.out W6.out.1
                   have HNW := Lib.hid hnews
                   have R10 := Lib.hid (R9.out.new hb ho)
                   have O10 := Lib.hid (R10.out.row (v := .slice aX nn cX) (xs := permX wd L D X labels c) (by simp) HPL.out)
                   obtain ⟨⟨-, -, b27⟩, -, -, -⟩ := R10.out.at (r := w4.heap.size) (a := .slice aG y cG) (b := .slice gb y cb) (c := .slice aX nn cX) (by simp)
                   clear hnews ho hb)
                | (go_simp
                   go_at_call 99
                   refine HOF.out.mono ?_
                   rintro e w7 ⟨rfl, rfl⟩))
              all_goals
                go_wp2
                go_roundw
                case rel => exact ⟨c + 1, nn + wd, cap, some ⟨g, 0, none⟩, ixr, by omega, by go_num, NB.out.2, NB.out.1, HIL, R12⟩
                case measure => simp [intOf]; omega
        · obtain rfl : c = N := by omega
          have hnlt : ¬ (c : Int) < (c : Int) := by omega
          obtain ⟨⟨b0, b1, b2⟩, -, -, -⟩ := HR.out.at (r := w4.heap.size) (a := .slice aG j cG) (b := .slice gb j cb) (c := .slice aX nn cX) (by simp)
          obtain ⟨⟨t0, t1, t2⟩, f0, f1, f2⟩ := HR.out.at (r := w.heap.size + 1 + 1) (a := nilV) (b := nilV) (c := nilV) (by rw [← HBS.out]; simp)
          clear hDr
          go_wp2_with fail
          refine HPR.out.mono ?_
          rintro e w6 ⟨rfl, rfl⟩
          go_wp2
          refine bodyPost_ret (v := tenV (.slice aG j cG) (.slice gb j cb) (.slice aX nn cX)) (by simp [results, Tryz.results66, go_sem, t0, t1, t2]) rfl ?_
          have h := HR.out
          rw [← HBS.out] at h
          have h2 := (((h.swapB.set3 (.slice aG j cG) (.slice gb j cb) (.slice aX nn cX)).sub (rows' := [(.slice aX nn cX, permX wd L D X labels c), (.slice aG j cG, labels), (.slice gb j cb, dimsVia L D labels)]) (List.Sublist.cons _ (List.Sublist.cons_cons _ (List.Sublist.cons_cons _ (List.Sublist.cons _ (List.Sublist.refl _)))))).third).third
          exact ⟨_, _, _, rfl, h2.ownG, h2.bel⟩
theorem permute_spec {B : Nat} {lv dv xv gv : Value} {k p q : Int} {L D X labels : List Int} {w : World} (h : RdT B w lv dv xv L D X) (hg : Rd B w gv (ints labels)) (hB : B ≤ w.heap.size) (ht : tensorB k p q L D X = true) (hs : SetV L labels) :
    Calls Tryz.prog 66 #[ringV k p q, tenV lv dv xv, gv] w (NewTen w labels (dimsVia L D labels) (permX (widthI k q).toNat L D X labels (prodL D).toNat)) := by
  have hp := PF.of ht hs
  have h1 := h.l
  have h2 := h.d
  obtain ⟨al, cl, rfl, -⟩ := ints_form h.l
  obtain ⟨ad, cd, rfl, -⟩ := ints_form h.d
  obtain ⟨ax, cx, rfl, -⟩ := ints_form h.x
  obtain ⟨ag, cg, rfl, -⟩ := ints_form hg
  have e1 := hp.lD
  have e2 := hp.lG
  rw [e1] at h ⊢
  rw [e2] at hg ⊢
  exact permute_full hp rfl h hg hB
end Go.Proofs.YtceidekfcnmeaaaGreat
namespace Go.Proofs.YtceidekfcnmeaaaGreat
set_option maxRecDepth 20000
open Go.RowKit

noncomputable def permB (k p q : Int) (L D X labels : List Int) : Bool := tensorB k p q L D X && setV L labels
noncomputable def permDataL (k q : Int) (L D X labels : List Int) : List Int := permX (widthI k q).toNat L D X labels (prodL D).toNat
/-- The answer box is stored: what was made stays. -/
theorem OwnG.set3 {w : World} {lo hi r : Nat} {a b c : Value} {x y z : List Int} (h : OwnG w lo hi [(a, x), (b, y), (c, z)]) (hr : r < lo) (u v t : Value) : OwnG (((w.setCell ⟨r, 0, none⟩ u).setCell ⟨r, 1, none⟩ v).setCell ⟨r, 2, none⟩ t) lo hi [(a, x), (b, y), (c, z)] := by
  obtain ⟨o1, o2, o3⟩ := h.rows
  exact OwnG.of3 h.2 (Own.set (Own.set (Own.set o1 hr _) hr _) hr _) (Own.set (Own.set (Own.set o2 hr _) hr _) hr _) (Own.set (Own.set (Own.set o3 hr _) hr _) hr _)
end Go.Proofs.YtceidekfcnmeaaaGreat
namespace Go.Proofs.YtceidekfcnmeaaaGreat
set_option maxRecDepth 20000
open Go.RowKit

/-- A ring's box, a tensor's, and one that waits for the answer. -/
theorem Rs.three (w : World) (k p q : Int) (x y z : Value) (T T2 T3 : TypeId) :
    Rs w (((w.alloc (.cells #[.int .i64 k, .int .i64 p, .int .i64 q] T)).alloc (.cells #[x, y, z] T2)).alloc (.cells #[nilV, nilV, nilV] T3)) [(w.heap.size + 1 + 1, nilV, nilV, nilV), (w.heap.size + 1, x, y, z), (w.heap.size, .int .i64 k, .int .i64 p, .int .i64 q)] [] := by
  have h := (((Rs.start w).box (.int .i64 k) (.int .i64 p) (.int .i64 q) T).box x y z T2).box nilV nilV nilV T3
  simp only [World.size_alloc] at h
  exact h
end Go.Proofs.YtceidekfcnmeaaaGreat
namespace Go.Proofs.YtceidekfcnmeaaaGreat
set_option maxRecDepth 20000
open Go.RowKit

/-- A call has written over the first row. -/
theorem Rs.rewrite {w0 wr w' : World} {bs : List BxE} {rows : List RowE} {v : Value} {X X' : List Int} (h : Rs w0 wr bs ((v, X) :: rows)) (ho : w'.ownsRow w0.heap.size 3 1 v X'.length (ints X')) (hg : wr.grownBy w' v.ownBlock) : Rs w0 w' bs ((v, X') :: rows) := by
  have hap := List.pairwise_cons.1 h.apart
  have hlo : ∀ k, v.ownBlock = some k → w0.heap.size ≤ k := fun k hk => ((h.own (v, X) (by simp)).lt k hk).1
  refine ⟨h.bel.grown hg h.bel.size hlo, fun r hr => ?_, List.pairwise_cons.2 ⟨fun r hr => hap.1 r hr, hap.2⟩, fun b hm => (h.bx b hm).grown hg (fun k hk => ⟨fun e => h.far b hm (v, X) (by simp) (by rw [hk, e]), hlo k hk⟩), fun b hm r hr => ?_, h.dis⟩
  · rcases List.mem_cons.1 hr with rfl | hr
    · exact ho
    · exact (h.own r (by simp [hr])).kept hg (by
        cases hv : r.1.ownBlock with
        | none => exact .inl rfl
        | some k => exact .inr fun e => hap.1 r hr k e.symm hv)
  · rcases List.mem_cons.1 hr with rfl | hr
    · exact h.far b hm (v, X) (by simp)
    · exact h.far b hm r (by simp [hr])
/-- The axes of a valid tensor, and how long its lists are. -/
theorem tensor_axes {k p q : Int} {L D X : List Int} (ht : tensorB k p q L D X = true) : AxesV L D := by
  obtain ⟨-, h0, -, -⟩ := tensorB_inv ht
  rcases sizeI_cases L D with ⟨h, -⟩ | ⟨-, h2, -, -⟩
  · omega
  · exact h2
theorem ten_lens {k p q : Int} {L D X : List Int} (h : tensorB k p q L D X = true) : L.length ≤ 12 ∧ D.length ≤ 12 ∧ X.length ≤ 24576 := by
  have ha := tensor_axes h
  have hp := PF.of h (setV_perm (List.Perm.refl L) ha.2.2.2.2)
  refine ⟨ha.1, by have := ha.1; have := ha.2.1; omega, ?_⟩
  rw [hp.lX]
  exact Nat.le_trans (Nat.mul_le_mul hp.n1.2 hp.w6.2) (by omega)
end Go.Proofs.YtceidekfcnmeaaaGreat
