
/- impl.SetElem. -/
import Derived.Test.YtfdjlahaiogababRs
import Derived.Test.YtfdjlahaiogababZeroImpl
import Derived.Test.YtfdjlahaiogababElemImpl
import Derived.Test.YtfdjlahaiogababScalarImpl
import Derived.Laws.CopyOwn
namespace Go.Proofs.Ytfdjlahaiogabab
set_option maxRecDepth 20000
open Go.RowKit

theorem splice_take {α : Type} {cur X x : List α} {s n : Nat} (h : cur.take n = X) (hn : n ≤ cur.length) (hs : s + x.length ≤ n) : (cur.take s ++ (x ++ cur.drop (s + x.length))).take n = X.take s ++ (x ++ X.drop (s + x.length)) := by
  subst h
  have e1 : (cur.take s).length = s := by rw [List.length_take]; omega
  rw [List.take_append, e1, List.take_append, List.take_of_length_le (by omega : (cur.take s).length ≤ n), List.take_of_length_le (by omega : x.length ≤ n - s), List.take_take, List.drop_take, Nat.min_eq_left (by omega : s ≤ n)]
  congr 2
  congr 1
  omega
/-- A row of the call's own is written by copy. -/
theorem Own.copied {w : World} {lo hi g cap m : Nat} {X x : List Int} (h : Own w lo hi (.slice (some ⟨g, 0, none⟩) m cap) X) (hm : X.length = m) (s : Nat) (hs : s + x.length ≤ m) :
    ∃ cur : Array Value, w.heap[g]? = some (.cells cur 3 (0, 0)) ∧ s + x.length ≤ cur.size ∧
      Own (w.setRow g (cur.toList.take s ++ (ints x ++ cur.toList.drop (s + (ints x).length))).toArray) lo hi (.slice (some ⟨g, 0, none⟩) m cap) (putL X s x) ∧
      w.grownBy (w.setRow g (cur.toList.take s ++ (ints x ++ cur.toList.drop (s + (ints x).length))).toArray) (some g) := by
  subst hm
  obtain ⟨⟨hl, h1⟩, h2, h3⟩ := h
  rcases h1 with ⟨h1, -⟩ | ⟨g', cap', cur, e, hb, hg, hnc, hcm, hcs, hct⟩
  · cases h1
  · simp only [Value.slice.injEq, Option.some.injEq, Addr.mk.injEq, and_true, true_and] at e
    obtain ⟨rfl, rfl⟩ := e
    have hz : (cur.toList.take s ++ (ints x ++ cur.toList.drop (s + (ints x).length))).length = cur.size := by
      have e1 : cur.toList.length = cur.size := by simp
      simp only [List.length_append, List.length_take, List.length_drop, ints_len]; omega
    have hp : (putL X s x).length = X.length := by unfold putL; simp only [List.length_append, List.length_take, List.length_drop]; omega
    refine ⟨cur, hg, by omega, ⟨⟨by rw [ints_len, hp, Nat.mul_one], .inr ⟨g, cap, _, by rw [hp], hb, setRow_heap w g _ _ _ _ hg, by rw [hp]; exact hnc, hcm, by rw [List.size_toArray, hz]; exact hcs, ?_⟩⟩, h2, by simpa [World.setRow] using h3⟩,
      ⟨rfl, rfl, rfl, by simp [World.setRow], fun k hk hne => setRow_other w g k _ (fun e => hne (by rw [e]))⟩⟩
    rw [hp]
    have e2 := splice_take (x := ints x) (s := s) hct (by simp; omega) (by rw [ints_len]; omega)
    show (cur.toList.take s ++ (ints x ++ cur.toList.drop (s + (ints x).length))).take (X.length * 1) = _
    rw [e2]
    unfold putL
    simp [ints, List.map_take, List.map_drop]

/-- copy into a row of the call's own: the world behind it bears a letter. -/
theorem wpList_copy_let {P : Program} {w : World} {ops : Array Oper} {rest : List Oper} {o : Oper} {a : Act} {Q : Exit → Act → World → Prop} (hgd : o.guard = none) (d s : Operand) (dT sT : TypeId)
    (ho : o.op = .call { callee := .builtin .copy, args := #[d, s], argTypes := #[dT, sT] }) (elem : TypeId) (hu : P.underlying dT = some (.slice elem)) (hsz : (P.info? elem).map (·.size) = some 1)
    (g off dLen dCap : Nat) (ad : Addr) (sLen sCap : Nat) (hd : a.eval d = .slice (some ⟨g, off, none⟩) dLen dCap) (hs : a.eval s = .slice (some ad) sLen sCap)
    (cur : Array Value) (t : TypeId) (hg : w.heap[g]? = some (.cells cur t (0, 0))) (cs : List Value) (hn : cs.length = Nat.min sLen dLen)
    (hsrc : ∀ j v, cs[j]? = some v → w.cell? (ad.add j) = some v) (hfit : off + cs.length ≤ cur.size) (h1 : ∀ v ∈ cs, v.oneCell' = true)
    (h : ∀ w', Hid (w' = w.setRow g (cur.toList.take off ++ (cs ++ cur.toList.drop (off + cs.length))).toArray) → wpList P ops Q rest (a.put o.dst (goInt cs.length)) w') : wpList P ops Q (o :: rest) a w :=
  wpList_copy_own hgd d s dT sT ho elem hu hsz g off dLen dCap ad sLen sCap hd hs cur t hg cs hn hsrc hfit h1 (h _ (Lib.hid rfl))

theorem setB_is {k p q : Int} {L D X ix x : List Int} {o : Nat} (ho : offsetI L D ix = (o : Int)) (ht : tensorB k p q L D X = true) : setB k p q L D X ix x = okElemB k p q x := by
  unfold setB; rw [ho, ht]; simp
set_option maxHeartbeats 3200000 in
theorem set_elem_impl {B : Nat} {lv dv xv iv ev : Value} {k p q : Int} {L D X ix x : List Int} {w : World} (h : RdT B w lv dv xv L D X) (hi : Rd B w iv (ints ix)) (he : Rd B w ev (ints x)) (hB : B ≤ w.heap.size) (hn : LenT L D X) (hni : ix.length ≤ 281474976710656) (hne : x.length ≤ 281474976710656) (hI : allI L) :
    Calls Try.prog 49 #[ringV k p q, tenV lv dv xv, iv, ev] w (NewTen w (if setB k p q L D X ix x = true then L else []) (if setB k p q L D X ix x = true then D else []) (if setB k p q L D X ix x = true then setElemL k q L D X ix x else [])) := by
  have HT := Lib.hid h
  have HIX := Lib.hid hi
  have HE := Lib.hid he
  have HN := Lib.hid hn
  have HB0 := Lib.hid hB
  obtain ⟨al, cl, rfl, -⟩ := ints_form h.l
  obtain ⟨ad, cd, rfl, -⟩ := ints_form h.d
  obtain ⟨ax, cx, rfl, -⟩ := ints_form h.x
  obtain ⟨ae, ce, rfl, -⟩ := ints_form he
  have hcs := findT_cases k p q L D X ix
  obtain ⟨ml, hml⟩ : ∃ m, m = L.length := ⟨_, rfl⟩
  obtain ⟨md, hmd⟩ : ∃ m, m = D.length := ⟨_, rfl⟩
  obtain ⟨mx, hmx⟩ : ∃ m, m = X.length := ⟨_, rfl⟩
  obtain ⟨me, hme⟩ : ∃ m, m = x.length := ⟨_, rfl⟩
  rw [← hml, ← hmd, ← hmx] at HT ⊢
  rw [← hme] at HE ⊢
  have T0 := Lib.hid (Three.start w k p q (.slice al ml cl) (.slice ad md cd) (.slice ax mx cx) nilV nilV nilV 31 28 28)
  have HFI := Lib.hid (find_impl (k := k) (p := p) (n := q) (HT.out.below T0.out.1.bel HB0.out) (HIX.out.below T0.out.1.bel HB0.out) (Nat.le_trans HB0.out T0.out.1.bel.size) HN.out hni hI)
  have HEO := Lib.hid (fun (w1 : World) (hb : Below w.heap.size w w1) => holds_impl (k := k) (p := p) (n := q) (rows := [x]) (RdRows.one (B := B) (b := w1.heap.size) (HE.out.below (hb.alloc hb.size (.cells #[.slice ae me ce] 24)) HB0.out) (Nat.le_trans HB0.out hb.size) (by simp [World.cell?_alloc_at])) (by simp) (by simp) (by simpa using hne))
  rw [okElem_holds] at HEO
  have HCP := Lib.hid (fun (w1 : World) (hb : Below w.heap.size w w1) (h1 : L.length ≤ 1099511627776) (h2 : D.length ≤ 1099511627776) (h3 : X.length ≤ 1099511627776) => clone_ten (HT.out.below hb HB0.out) (Nat.le_trans HB0.out hb.size) h1 h2 h3)
  obtain ⟨f, hf⟩ : ∃ f, f = findT k p q L D X ix := ⟨_, rfl⟩
  obtain ⟨eb, heb⟩ : ∃ b, b = okElemB k p q x := ⟨_, rfl⟩
  obtain ⟨sb, hsb⟩ : ∃ b, b = setB k p q L D X ix x := ⟨_, rfl⟩
  rw [← hf] at HFI hcs
  rw [← heb] at HEO
  rw [← hsb]
  have HML := Lib.hid (And.intro hml (And.intro hmd (And.intro hmx hme)))
  have HSB0 := Lib.hid hsb
  have HEB := Lib.hid heb
  clear h hi he hB hn hni hne hml hmd hmx hme hI hf heb hsb
  obtain ⟨r0, r1, r2, s0, s1, s2⟩ := T0.out.cells
  rcases hcs with ⟨rfl, hno⟩ | ⟨o, wd, rfl, ho, ht, hw, hw1, hw2, ho2, hlen, hrb⟩
  · obtain rfl : sb = false := by
      rw [HSB0.out]; unfold setB
      cases h : tensorB k p q L D X
      · simp
      · rw [h] at hno; simp at hno; simp; omega
    clear hno
    simp only [Bool.false_eq_true, if_false]
    go_enter Try.func49, Try.ntmps49
    go_wp2_with fail
    refine HFI.out.mono ?_
    clear r0 r1 r2 s0 s1 s2
    rintro e w1 ⟨rfl, hb⟩
    have T1 := Lib.hid (T0.out.step hb)
    clear hb
    obtain ⟨t0, t1, t2, f0, f1, f2⟩ := T1.out.ans
    go_wp2
    refine bodyPost_ret (v := tenV nilV nilV nilV) (by simp [results, Try.results49, go_sem, t0, t1, t2]) rfl ?_
    exact NewTen.nils (((T1.out.1.bel.setCell (by simp; omega) _).setCell (by simp; omega) _).setCell (by simp; omega) _)
  · have HSB : Hid (sb = eb) := by show _ = _; rw [HSB0.out, HEB.out, setB_is ho ht]
    have q0 : decide ((o : Int) < 0) = false := by simp
    cases eb with
    | false =>
      obtain rfl : sb = false := HSB.out
      simp only [Bool.false_eq_true, if_false]
      clear ho ht hw hw1 hw2 ho2 hlen hrb
      go_enter Try.func49, Try.ntmps49
      go_wp2_with fail
      refine HFI.out.mono ?_
      clear r0 r1 r2 s0 s1 s2
      rintro e w1 ⟨rfl, hb⟩
      have T1 := Lib.hid (T0.out.step hb)
      clear hb
      obtain ⟨r0, r1, r2, s0, s1, s2⟩ := T1.out.cells
      go_wp2_with fail
      refine (HEO.out _ T1.out.1.bel).mono ?_
      clear r0 r1 r2 s0 s1 s2
      rintro e w2 ⟨rfl, hb⟩
      have T2 := Lib.hid ((T1.out.step ((Below.refl _ _).alloc (Nat.le_refl _) _)).step hb)
      clear hb
      obtain ⟨t0, t1, t2, f0, f1, f2⟩ := T2.out.ans
      go_wp2
      refine bodyPost_ret (v := tenV nilV nilV nilV) (by simp [results, Try.results49, go_sem, t0, t1, t2]) rfl ?_
      exact NewTen.nils (((T2.out.1.bel.setCell (by simp; omega) _).setCell (by simp; omega) _).setCell (by simp; omega) _)
    | true =>
      obtain rfl : sb = true := HSB.out
      simp only [if_true]
      obtain ⟨hL1, hL2, hS1⟩ : L.length ≤ 12 ∧ L.length = D.length ∧ sizeI L D ≤ 4096 := by
        rcases sizeI_cases L D with h | ⟨h1, h2, h3, h4⟩
        · have := (tensorB_inv ht).2.1; omega
        · exact ⟨h2.1, h2.2.1, by omega⟩
      have hev : me = wd := by
        have h := HEB.out
        have h2 : elemB k p q x = true := by unfold okElemB at h; rw [hrb] at h; simpa using h.symm
        have h3 := (elemB_true.1 h2).1
        rw [hw, ← HML.out.2.2.2] at h3
        omega
      subst hev
      have hX : X.length ≤ 24576 := by
        have hxl := (tensorB_inv ht).2.2.1
        rw [hw] at hxl
        have h1 : sizeI L D * me ≤ 4096 * 6 := by
          refine Int.le_trans (Int.mul_le_mul_of_nonneg_right hS1 (by omega)) ?_
          omega
        omega
      obtain ⟨s, hs⟩ : ∃ s, s = o * me := ⟨_, rfl⟩
      have HSE : Hid (setElemL k q L D X ix x = putL X s x) := by
        show _ = _
        unfold setElemL
        rw [ho, hw, hs]
        rfl
      obtain ⟨b2, off2, e2, hb2, hc2⟩ : ∃ b2 off2, ae = some ⟨b2, off2, none⟩ ∧ b2 < B ∧ ∀ i (h : i < x.length), w.cell? ⟨b2, off2 + i, none⟩ = some (.int .i64 x[i]) := by
        rcases HE.out.ints_cases with ⟨h, -⟩ | ⟨b, off, cap, e, h1, -, h2⟩
        · have := HML.out.2.2.2; rw [h] at this; simp at this; omega
        · simp only [Value.slice.injEq] at e; exact ⟨b, off, e.1, h1, h2⟩
      subst e2
      have HC2 := Lib.hid (fun (w1 : World) (hb : Below w.heap.size w w1) => news_at (w := w1) (b := b2) (off := off2) (xs := x) (fun i hi => (hb.cell (p := ⟨b2, off2 + i, none⟩) (Nat.lt_of_lt_of_le hb2 HB0.out)).trans (hc2 i hi)))
      have HEP := Lib.hid (fun (w1 : World) (g : Nat) (a1 a2 : Option Addr) (c1 c2 c3 : Nat) (hcc : mx ≤ c3) => elem_part (b := g) (off := 0) (cx := c3) (mx := mx) (ml := ml) (cl := c1) (md := md) (cd := c2) (al := a1) (ad := a2) (k := k) (p := p) (q := q) (w := w1) me o hw hw1 hw2 ho2 (by rw [HML.out.2.2.1]; exact hlen) hcc)
      have HLN : Hid (s + x.length ≤ mx) := by show _ ≤ _; rw [HML.out.2.2.1, ← HML.out.2.2.2, hs]; exact hlen
      rw [← hs] at HEP
      simp only [Nat.zero_add] at HEP
      have HX1 := Lib.hid (HML.out.2.2.1.symm ▸ hlen : o * me + me ≤ mx)
      have HM1 : Hid (1 ≤ mx) := Lib.hid (Nat.le_trans hw1 (Nat.le_trans (Nat.le_add_left _ _) HX1.out))
      have HCQ := Lib.hid (HCP.out)
      have HL3 := Lib.hid (show L.length ≤ 1099511627776 ∧ D.length ≤ 1099511627776 ∧ X.length ≤ 1099511627776 by omega)
      clear HCP ho ht hw hw2 ho2 hlen hrb hL1 hL2 hS1 hX hs hb2 hc2
      go_enter Try.func49, Try.ntmps49
      go_wp2_with fail
      refine HFI.out.mono ?_
      clear r0 r1 r2 s0 s1 s2
      rintro e w1 ⟨rfl, hb⟩
      have T1 := Lib.hid (T0.out.step hb)
      clear hb
      obtain ⟨r0, r1, r2, s0, s1, s2⟩ := T1.out.cells
      go_wp2_with fail
      refine (HEO.out _ T1.out.1.bel).mono ?_
      clear r0 r1 r2 s0 s1 s2
      rintro e w3 ⟨rfl, hb⟩
      have T3 := Lib.hid ((T1.out.step ((Below.refl _ _).alloc (Nat.le_refl _) _)).step hb)
      clear hb
      obtain ⟨r0, r1, r2, s0, s1, s2⟩ := T3.out.cells
      go_wp2_with fail
      refine (HCQ.out _ T3.out.1.bel HL3.out.1 HL3.out.2.1 HL3.out.2.2).mono ?_
      clear r0 r1 r2 s0 s1 s2
      rintro e w4 ⟨l', d', x', rfl, hO, hb⟩
      have T4 := Lib.hid (T3.out.step hb)
      have Z4 := Lib.hid hb.size
      have AP := Lib.hid hO.2
      obtain ⟨o1, o2, o3⟩ := hO.rows
      obtain ⟨a1, c1, rfl, -⟩ := ints_form o1.rd
      obtain ⟨a2, c2, rfl, -⟩ := ints_form o2.rd
      obtain ⟨g, c3, rfl, hc3⟩ : ∃ g c3, x' = .slice (some ⟨g, 0, none⟩) X.length c3 ∧ X.length ≤ c3 := by
        rcases o3.1.2 with ⟨-, h⟩ | ⟨g, cap, cur, e, -, -, h, -⟩
        · have := HM1.out; rw [HML.out.2.2.1] at this; omega
        · exact ⟨g, cap, e, h⟩
      rw [← HML.out.1] at o1 AP ⊢
      rw [← HML.out.2.1] at o2 AP ⊢
      rw [← HML.out.2.2.1] at o3 AP hc3 ⊢
      have BX := Lib.hid (Bx.new T4.out.1.bel (.slice a1 ml c1) (.slice a2 md c2) (.slice (some ⟨g, 0, none⟩) mx c3) 28)
      have hal := (Below.refl w4.heap.size w4).alloc (Nat.le_refl _) (.cells #[.slice a1 ml c1, .slice a2 md c2, .slice (some ⟨g, 0, none⟩) mx c3] 28)
      have T5 := Lib.hid (T4.out.step hal)
      have P1 := Lib.hid (o1.below hal (Nat.le_refl _))
      have P2 := Lib.hid (o2.below hal (Nat.le_refl _))
      have P3 := Lib.hid (o3.below hal (Nat.le_refl _))
      have HC3 := Lib.hid hc3
      clear hO hb o1 o2 o3 hal hc3
      obtain ⟨r0, r1, r2, -, -, -⟩ := T5.out.cells
      have lt4 := T4.out.2.2.lt
      have HEQ := Lib.hid (HEP.out ((w4.alloc (.cells #[.slice a1 ml c1, .slice a2 md c2, .slice (some ⟨g, 0, none⟩) mx c3] 28))) g a1 a2 c1 c2 c3 HC3.out)
      go_wp2_with fail
      refine HEQ.out.mono ?_
      clear r0 r1 r2
      rintro e w5 ⟨rfl, hb⟩
      have T6 := Lib.hid (T5.out.step hb)
      have BX6 := Lib.hid (BX.out.step hb)
      have Q1 := Lib.hid (P1.out.below hb (Nat.le_refl _))
      have Q2 := Lib.hid (P2.out.below hb (Nat.le_refl _))
      have Q3 := Lib.hid (P3.out.below hb (Nat.le_refl _))
      clear hb
      obtain ⟨cur, hg, hfit, hown, hgr⟩ := Q3.out.copied HML.out.2.2.1.symm s HLN.out
      have HOW := Lib.hid hown
      have HGR := Lib.hid hgr
      have hcn := HC2.out _ T6.out.1.bel
      have HCN := Lib.hid hcn
      have HHG := Lib.hid hg
      have HFT : Hid (s + (ints x).length ≤ cur.size) := by show _ ≤ _; rw [ints_len]; exact hfit
      obtain ⟨cs, hcs⟩ : ∃ cs, cs = ints x := ⟨_, rfl⟩
      rw [← hcs] at HOW HGR HCN HFT
      have HCL : Hid (cs.length = me) := by show _ = _; rw [hcs, ints_len, HML.out.2.2.2]
      have HC1 : Hid (∀ u ∈ cs, u.oneCell' = true) := by show ∀ u ∈ cs, _; rw [hcs]; exact one_cells x
      have HHC := Lib.hid hcs
      clear hg hfit hown hgr hcn hcs
      go_wp2_with ((with_reducible show wpList _ _ _ (⟨some 32, _, _, _, _, _⟩ :: _) _ _); go_must (refine wpList_copy_let rfl _ _ 24 24 rfl 3 Try.underlying24 ?ci g s me (c3 - s) ⟨b2, off2, none⟩ me ce rfl rfl cur 3 HHG.out cs ?cn HCN.out HFT.out HC1.out ?_))
      case ci => obtain ⟨i0, hi, hz0, hz1, hz2⟩ := info_parts infoInt; rw [hi]; simp [hz1]
      case cn => rw [HCL.out]; exact (Nat.min_self me).symm
      intro w6 hW6
      rw [← hW6.out] at HOW HGR
      clear hW6 HHG HCN HFT HC1
      have hz6 := HGR.out.size
      have lo3 := T3.out.1.bel.size
      have lt3 := T3.out.2.2.lt
      have lt5 := BX6.out.lt
      have inside : ∀ h, Value.ownBlock (.slice (some ⟨g, 0, none⟩) mx c3) = some h → w3.heap.size ≤ h ∧ h < w4.heap.size := fun h hg => ⟨P3.out.lo h hg, P3.out.2.1 h hg⟩
      have hin := inside g rfl
      have T7 := Lib.hid (T6.out.2.2.grown HGR.out (fun h e => by cases e; exact ⟨by omega, by omega⟩))
      have BX7 := Lib.hid (BX6.out.grown HGR.out (fun h e => by cases e; exact ⟨by omega, by omega⟩))
      obtain ⟨p12, p13, p23⟩ := AP.out.out
      have R1 := Lib.hid (Q1.out.apart HGR.out (fun h e => by cases e; exact apart_symm p13 g rfl))
      have R2 := Lib.hid (Q2.out.apart HGR.out (fun h e => by cases e; exact apart_symm p23 g rfl))
      clear inside p12 p13 p23
      obtain ⟨-, t0, t1, t2, fr, -, -⟩ := T7.out
      obtain ⟨-, b0, b1, b2', -⟩ := BX7.out
      have f0 := fr 0
      have f1 := fr 1
      have f2 := fr 2
      clear fr
      go_wp2
      refine bodyPost_ret (v := tenV (.slice a1 ml c1) (.slice a2 md c2) (.slice (some ⟨g, 0, none⟩) mx c3)) (by simp [results, Try.results49, go_sem, t0, t1, t2]) rfl ?_
      rw [HSE.out]
      refine ⟨_, _, _, rfl, ?_, ((T7.out.bel.setCell (by simp; omega) _).setCell (by simp; omega) _).setCell (by simp; omega) _⟩
      exact OwnG.wide (lo := w3.heap.size) (hi := w4.heap.size) (OwnG.of3 AP.out (Own.set (Own.set (Own.set R1.out (by omega) _) (by omega) _) (by omega) _) (Own.set (Own.set (Own.set R2.out (by omega) _) (by omega) _) (by omega) _) (Own.set (Own.set (Own.set HOW.out (by omega) _) (by omega) _) (by omega) _)) lo3 (by simp; omega) (by simp)
end Go.Proofs.Ytfdjlahaiogabab
