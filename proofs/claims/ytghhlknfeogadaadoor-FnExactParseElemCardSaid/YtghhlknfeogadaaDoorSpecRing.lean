
/- spec.ParseRing: the valid ring of a text, or none. -/
import Derived.Test.YtghhlknfeogadaaDoorParseRing
namespace Go.Proofs.YtghhlknfeogadaaDoor
set_option maxRecDepth 20000
set_option maxRecDepth 20000
open Go.RowKit

theorem strs_form {B : Nat} {v : Value} {ss : List ByteArray} {w : World} (h : Rd B w v (strs ss)) : ∃ a cap, v = .slice a ss.length cap ∧ (0 < ss.length → ∃ b off, a = some ⟨b, off, none⟩ ∧ b < B ∧ ∀ i x, ss[i]? = some x → w.cell? ⟨b, off + i, none⟩ = some (.string x)) := by
  rcases h.strs_cases with ⟨rfl, a, ca, rfl⟩ | ⟨b, off, ca, rfl, hlt, -, hc⟩
  · exact ⟨a, ca, rfl, fun h => by simp at h⟩
  · exact ⟨_, ca, rfl, fun _ => ⟨b, off, rfl, hlt, fun i x hx => by
    obtain ⟨hi, e⟩ := List.getElem?_eq_some_iff.1 hx
    rw [← e]; exact hc i hi⟩⟩
theorem str_empty (s : ByteArray) : s.toList.isEmpty = true ↔ s.size = 0 := by
  rw [ByteArray.toList_eq, List.isEmpty_iff]
  have h2 : s.data.toList.length = s.size := by simp
  constructor
  · intro h; rw [h] at h2; simpa using h2.symm
  · intro h; exact List.eq_nil_of_length_eq_zero (by omega)
theorem list_eq {l : List UInt8} {s : ByteArray} (h : (⟨l.toArray⟩ : ByteArray) = s) : (l == s.toList) = true := by
  rw [ByteArray.toList_eq, ← h]; simp
theorem part_size {s p : ByteArray} {c : Nat} (hp : p ∈ parts s c) : p.size ≤ s.size := by
  have hk : ∀ k, ∀ p ∈ (pst s c k).1, p.size ≤ s.size := by
    intro k
    induction k with
    | zero => intro p hp; simp [pst] at hp
    | succ k ih =>
      intro p hp
      rw [pst] at hp
      split at hp
      · rcases List.mem_append.1 hp with h | h
        · exact ih p h
        · simp at h; rw [h, ByteArray.size_extract]; omega
      · exact ih p hp
  unfold parts at hp
  rcases List.mem_append.1 hp with h | h
  · exact hk _ p h
  · simp at h; rw [h, ByteArray.size_extract]; omega
theorem word_size {s p : ByteArray} (hp : p ∈ wordsOf s) : p.size ≤ s.size := part_size (List.mem_filter.1 hp).1
/-- The ring that the reference tries at the kind k. -/
def candW (k : Int) (zs : List Int) : Int × Int × Int :=
  match zs with
  | [] => (k, 0, 0)
  | [a] => if k = 6 then (k, 0, a) else (k, a, 0)
  | a :: b :: _ => if k = 6 then (k, 0, b) else (k, a, b)
theorem candW_nums {k p n : Int} (h : ringB k p n = true) : candW k (nums p n) = (k, p, n) := by
  unfold nums
  rcases ring_cases h with ⟨rfl, rfl, rfl⟩ | ⟨rfl, h1, h2, rfl⟩ | ⟨rfl, h1, h2, rfl⟩ | ⟨rfl, h1, h2, rfl⟩ | ⟨rfl, h1, h2, rfl⟩ | ⟨rfl, rfl, h1, h2⟩ | ⟨rfl, h1, h2, h3, h4⟩ | ⟨rfl, h1, h2, rfl⟩
  · rfl
  · rw [if_neg (by omega)]; simp [candW]
  · rw [if_neg (by omega)]; simp [candW]
  · rw [if_neg (by omega)]; simp [candW]
  · rw [if_neg (by omega)]; simp [candW]
  · rw [if_neg (show ¬ n = 0 by omega)]; simp [candW]
  · rw [if_neg (show ¬ p = 0 by omega), if_neg (show ¬ n = 0 by omega)]; simp [candW]
  · rw [if_neg (by omega)]; simp [candW]
theorem word_bad {s x : ByteArray} {j : Nat} (hj : 1 ≤ j) (hx : (wordsOf s)[j]? = some x) (hp : pv x = none) : RingAt s 0 0 0 false := by
  refine .inr ⟨rfl, rfl, rfl, rfl, fun k p n h hs => ?_⟩
  rw [words_ring h hs] at hx
  obtain ⟨i, rfl⟩ : ∃ i, j = i + 1 := ⟨j - 1, by omega⟩
  rw [List.getElem?_cons_succ] at hx
  have hm := List.mem_map_of_mem (f := pv) (List.mem_of_getElem? hx)
  rw [texts_pv (nums_inI (ring_inI h).1 (ring_inI h).2), hp] at hm
  simp at hm
theorem words_nums {s : ByteArray} {zs : List Int} (hz : ((wordsOf s).drop 1).map pv = zs.map some) {k p n : Int} (h : ringB k p n = true) (hs : s.data.toList = ringT k p n) : zs = nums p n := by
  rw [words_ring h hs, List.drop_succ_cons, List.drop_zero, texts_pv (nums_inI (ring_inI h).1 (ring_inI h).2)] at hz
  exact (some_inj _ _ hz).symm
/-- None of the kinds below k gives s. -/
def NoneYet (s : ByteArray) (zs : List Int) (m : Nat) : Prop := ∀ j : Int, 1 ≤ j → j < m → ∀ k p n, candW j zs = (k, p, n) → ringB k p n = true → s.data.toList ≠ ringT k p n
theorem NoneYet.start (s : ByteArray) (zs : List Int) : NoneYet s zs 1 := fun j h1 h2 => by omega
theorem NoneYet.step {s : ByteArray} {zs : List Int} {m : Nat} {k p n : Int} (h : NoneYet s zs m) (hc : candW m zs = (k, p, n)) (hn : s.data.toList ≠ fmtRing k p n ∨ s.size = 0) : NoneYet s zs (m + 1) := by
  intro j h1 h2 k' p' n' hc' hb hs
  by_cases hj : j < m
  · exact h j h1 hj k' p' n' hc' hb hs
  · obtain rfl : j = (m : Int) := by omega
    rw [hc] at hc'
    cases hc'
    rcases hn with hn | hn
    · rw [fmtRing_yes hb] at hn
      exact hn hs
    · have h3 := (ringT_len hb).1
      rw [← hs] at h3
      have h4 : s.data.toList.length = s.size := by simp
      omega
theorem NoneYet.fin {s : ByteArray} {zs : List Int} (h : NoneYet s zs 9) (hz : ((wordsOf s).drop 1).map pv = zs.map some) : RingAt s 0 0 0 false := by
  refine .inr ⟨rfl, rfl, rfl, rfl, fun k p n hb hs => ?_⟩
  have e := words_nums hz hb hs
  have hk := ring_kind hb
  exact h k hk.1 (by omega) k p n (by rw [e]; exact candW_nums hb) hb hs
theorem cand_hit {s : ByteArray} {k p n : Int} (h0 : 0 < s.size) (h : s.data.toList = fmtRing k p n) : RingAt s k p n true := by
  have h4 : s.data.toList.length = s.size := by simp
  cases hb : ringB k p n with
  | false => rw [fmtRing_no hb] at h; rw [h] at h4; simp at h4; omega
  | true => exact .inl ⟨rfl, hb, by rw [h, fmtRing_yes hb]⟩
theorem take_drop {l : List ByteArray} {j : Nat} {x : ByteArray} {zs : List Int} {z : Int} (hj : 1 ≤ j) (hx : l[j]? = some x) (h : ((l.take j).drop 1).map pv = zs.map some) (hp : pv x = some z) : ((l.take (j + 1)).drop 1).map pv = (zs ++ [z]).map some := by
  have hlt := (List.getElem?_eq_some_iff.1 hx).1
  rw [List.take_add_one, hx, Option.toList_some, List.drop_append_of_le_length (by rw [List.length_take]; omega), List.map_append, List.map_append, h, List.map_singleton, List.map_singleton, hp]

set_option maxHeartbeats 3200000 in
theorem parse_ring_spec (s : ByteArray) (w : World) (hs : s.size ≤ 1048576) :
    Calls Tryd.prog 20 #[.string s] w (RingPost s w) := by
  obtain ⟨i0, hi, hz0, hz1, hz2⟩ := info_parts infoInt
  have J0 := Lib.hid hi
  have J1 := Lib.hid hz0
  have J2 := Lib.hid hz1
  have J3 := Lib.hid hz2
  have HS := Lib.hid hs
  clear hi hz0 hz1 hz2 hs
  go_enter Tryd.func20, Tryd.ntmps20
  go_wp2_with fail
  refine (spec_words s _ HS.out).mono ?_
  rintro e w1 ⟨v, rfl, hown, hb⟩
  have I1 : Hid (Mine w w1 w.heap.size 0 0 0) := Lib.hid ((Mine.box w 0 0 0 34).step hb)
  have hwl := wordsOf_len s
  obtain ⟨a, cap, rfl, hv⟩ := strs_form (Rd.of_own hown)
  obtain ⟨m, hm⟩ : ∃ m, m = (wordsOf s).length := ⟨_, rfl⟩
  rw [← hm] at hv hwl ⊢
  have hm2 : m ≤ 1048577 := by have := HS.out; omega
  have HM := Lib.hid hm.symm
  have HV := Lib.hid hv
  clear hown hb hm hv hwl
  go_wp2
  go_loopw [5, 6] (fun l i wr => ∃ (j : Nat) (zs : List Int), 1 ≤ j ∧ j ≤ m + 1 ∧ zs.length ≤ j ∧ i = .int .i64 j ∧ Hid ((((wordsOf s).take j).drop 1).map pv = zs.map some) ∧ Hid (wr.ownsRow w1.heap.size 3 1 l zs.length (ints zs)) ∧ Hid (Below w1.heap.size w1 wr)) (fun _ i _ => m + 1 - (intOf i).toNat)
  case atStart => exact ⟨1, [], by omega, by omega, by simp, rfl, by show _ = _; cases wordsOf s <;> simp, World.ownsRow_made w1 #[] 0 (Nat.le_refl _) (by unfold maxLen; omega) rfl, (Below.refl _ _).alloc (Nat.le_refl _) _⟩
  case round =>
    obtain ⟨j, zs, hj1, hj2, hzl, rfl, HF, HO, HB⟩ := hrel
    by_cases hlt : j < m
    · obtain ⟨b, off, rfl, hbw, hcell⟩ := HV.out (by omega)
      obtain ⟨x, X1⟩ : ∃ x, Hid ((wordsOf s)[j]? = some x) := ⟨_, List.getElem?_eq_getElem (by rw [HM.out]; exact hlt)⟩
      have c1 := hcell j x X1.out
      have c2 : wr.cell? ⟨b, off + j, none⟩ = some (.string x) := (HB.out.cell (p := ⟨b, off + j, none⟩) hbw).trans c1
      have hxs : x.size ≤ 281474976710656 := by
        have h1 := word_size (List.mem_of_getElem? X1.out)
        have := HS.out; omega
      have HXS := Lib.hid hxs
      have HZ := Lib.hid HB.out.size
      clear hcell c1 hbw hxs
      go_wp2_with fail
      refine (spec_parse x wr HXS.out).mono ?_
      rintro e w2 ⟨he, hb2⟩
      have HO2 := Lib.hid (ownb HO.out hb2)
      have HB2 := Lib.hid (HB.out.trans (hb2.mono HB.out.size))
      clear hb2
      rcases he.val with ⟨z, hz, hp, rfl⟩ | ⟨hp, rfl⟩
      · have HP := Lib.hid hp
        have HZ2 := Lib.hid HB2.out.size
        clear he hz hp
        go_wp2_with (at_builtin; go_must (refine wpList_append_own _ rfl _ _ 22 rfl w1.heap.size 3 i0 (.int .i64 0) 1 8 Tryd.underlying22 J0.out J1.out J2.out J3.out rfl (by decide) _ _ _ rfl (HO2.out.alloc _) ⟨w2.heap.size, 0, none⟩ 1 1 [.int .i64 z] rfl rfl (cell_one_new _ _ _) ?c2 ?c3 ?c4 ?c5 ?_))
        case c2 => first | rfl | (intro u hu; simp at hu; subst hu; rfl)
        case c3 => unfold maxLen; omega
        case c4 => omega
        case c5 => have := HZ2.out; simp; omega
        intro v' w4 hown4 hgrow4 _
        have HO4 := Lib.hid hown4
        have HB4 := Lib.hid ((HB2.out.alloc HB2.out.size _).grown hgrow4 (by have := HZ2.out; simp; omega) (fun g hg => (HO2.out.lt g hg).1))
        clear hown4 hgrow4
        go_wp2
        go_roundw
        case rel => exact ⟨j + 1, zs ++ [z], by omega, by omega, by rw [List.length_append, List.length_singleton]; omega, by go_num, take_drop hj1 X1.out HF.out HP.out, by have h := HO4.out; rw [ints_app] at h; show World.ownsRow _ _ _ _ _ _ _; rw [List.length_append, List.length_singleton]; exact h, HB4.out⟩
        case measure => simp [intOf]; omega
      · have HA := Lib.hid (word_bad hj1 X1.out hp)
        have I2 := Lib.hid (I1.out.step HB2.out)
        clear he hp
        obtain ⟨c0, c1, c3, f0, f1, f2⟩ := I2.out.cells
        go_wp2
        refine bodyPost_ret (v := .tuple #[ringV 0 0 0, .bool false]) (by simp [results, Tryd.results20, go_sem, c0, c1, c3]) rfl ⟨0, 0, 0, false, rfl, HA.out, ?_⟩
        exact ((I2.out.1.1.setCell (Nat.le_refl _) _).setCell (Nat.le_refl _) _).setCell (Nat.le_refl _) _
    · have hfz : ((wordsOf s).drop 1).map pv = zs.map some := by
        have h := HF.out
        rw [List.take_of_length_le (by rw [HM.out]; omega)] at h
        exact h
      have HFZ := Lib.hid hfz
      have IL := Lib.hid (I1.out.step HB.out)
      have HR := Lib.hid (Rd.of_own HO.out)
      obtain ⟨al, capl, rfl, -⟩ := ints_form HR.out
      obtain ⟨nl, hnl⟩ : ∃ nl, nl = zs.length := ⟨_, rfl⟩
      rw [← hnl] at HR hzl ⊢
      have HNL := Lib.hid hnl
      clear hfz HF HO HV I1 hnl
      go_wp2
      go_loopw [9] (fun i wq => ∃ kk : Nat, 1 ≤ kk ∧ kk ≤ 9 ∧ i = .int .i64 kk ∧ Hid (NoneYet s zs kk) ∧ Hid (Below wr.heap.size wr wq)) (fun i _ => 9 - (intOf i).toNat)
      case atStart => exact ⟨1, by omega, by omega, rfl, NoneYet.start s zs, Below.refl _ _⟩
      case round =>
        obtain ⟨kk, hk1, hk2, rfl, HN, HQ⟩ := hrel
        have IQ := Lib.hid (IL.out.step HQ.out)
        by_cases hk9 : kk = 9
        · subst hk9
          have HA := Lib.hid (HN.out.fin HFZ.out)
          obtain ⟨c0, c1, c3, f0, f1, f2⟩ := IQ.out.cells
          go_wp2
          refine bodyPost_ret (v := .tuple #[ringV 0 0 0, .bool false]) (by simp [results, Tryd.results20, go_sem, c0, c1, c3]) rfl ⟨0, 0, 0, false, rfl, HA.out, ?_⟩
          exact ((IQ.out.1.1.setCell (Nat.le_refl _) _).setCell (Nat.le_refl _) _).setCell (Nat.le_refl _) _
        · have hk8 : kk ≤ 8 := by omega
          have HRQ := Lib.hid (HR.out.below HQ.out (Nat.le_refl _))
          clear hk9
          by_cases h0 : s.size = 0
          · have H0 := Lib.hid h0
            have he : s.toList.isEmpty = true := (str_empty s).2 h0
            clear h0
            match zs, HNL, HR, HRQ, HN, HFZ with
            | [], HNL, HR, HRQ, HN, HFZ =>
              have n1 : nl ≤ 0 := by have := HNL.out; simp at this; omega
              have q0 : decide ((0 : Int) < (nl : Int)) = false := by simp; omega
              have q1 : decide ((1 : Int) < (nl : Int)) = false := by simp; omega
              have q2 : decide (0 < nl) = false := by simp; omega
              have q3 : ¬ 0 < nl := by omega
              have HC : Hid (candW ((kk : Nat) : Int) [] = (((kk : Nat) : Int), 0, 0)) := Lib.hid rfl
              clear IQ
              go_wp2
              try go_frame
              go_roundw
              case rel => exact ⟨kk + 1, by omega, by omega, by go_num, HN.out.step HC.out (.inr H0.out), HQ.out.alloc HQ.out.size _⟩
              case measure => simp [intOf] <;> omega
            | [x], HNL, HR, HRQ, HN, HFZ =>
              have n1 : 1 ≤ nl ∧ nl ≤ 1 := by have := HNL.out; simp at this; omega
              have q0 : decide ((0 : Int) < (nl : Int)) = true := by simp; omega
              have q1 : decide ((1 : Int) < (nl : Int)) = false := by simp; omega
              have n2 := n1.1
              clear n1
              obtain ⟨lb, lo, rfl, hlb, l0⟩ := HRQ.out.first
              have hlb2 : lb < wr.heap.size := Nat.lt_of_lt_of_le hlb HQ.out.size
              by_cases h6 : kk = 6
              · subst h6
                have HC : Hid (candW ((6 : Nat) : Int) [x] = (((6 : Nat) : Int), 0, x)) := Lib.hid rfl
                clear IQ
                go_wp2
                try go_frame
                go_roundw
                case rel => exact ⟨6 + 1, by omega, by omega, by go_num, HN.out.step HC.out (.inr H0.out), HQ.out.alloc HQ.out.size _⟩
                case measure => simp [intOf] <;> omega
              · have q6 : ((kk : Int) == 6) = false := by simp; omega
                have HC : Hid (candW ((kk : Nat) : Int) [x] = (((kk : Nat) : Int), x, 0)) := Lib.hid (by show (if (kk : Int) = 6 then _ else _) = _; rw [if_neg (by omega)])
                clear IQ
                go_wp2
                try go_frame
                go_roundw
                case rel => exact ⟨kk + 1, by omega, by omega, by go_num, HN.out.step HC.out (.inr H0.out), HQ.out.alloc HQ.out.size _⟩
                case measure => simp [intOf] <;> omega
            | x :: y :: rz, HNL, HR, HRQ, HN, HFZ =>
              have n2 : 2 ≤ nl := by have := HNL.out; simp at this; omega
              have q0 : decide ((0 : Int) < (nl : Int)) = true := by simp; omega
              have q1 : decide ((1 : Int) < (nl : Int)) = true := by simp; omega
              obtain ⟨lb, lo, rfl, hlb, l0, l1⟩ := HRQ.out.second
              have hlb2 : lb < wr.heap.size := Nat.lt_of_lt_of_le hlb HQ.out.size
              by_cases h6 : kk = 6
              · subst h6
                have HC : Hid (candW ((6 : Nat) : Int) (x :: y :: rz) = (((6 : Nat) : Int), 0, y)) := Lib.hid rfl
                clear IQ
                go_wp2
                try go_frame
                go_roundw
                case rel => exact ⟨6 + 1, by omega, by omega, by go_num, HN.out.step HC.out (.inr H0.out), HQ.out.alloc HQ.out.size _⟩
                case measure => simp [intOf] <;> omega
              · have q6 : ((kk : Int) == 6) = false := by simp; omega
                have HC : Hid (candW ((kk : Nat) : Int) (x :: y :: rz) = (((kk : Nat) : Int), x, y)) := Lib.hid (by show (if (kk : Int) = 6 then _ else _) = _; rw [if_neg (by omega)])
                clear IQ
                go_wp2
                try go_frame
                go_roundw
                case rel => exact ⟨kk + 1, by omega, by omega, by go_num, HN.out.step HC.out (.inr H0.out), HQ.out.alloc HQ.out.size _⟩
                case measure => simp [intOf] <;> omega
          · have h1 : 0 < s.size := by omega
            have he : s.toList.isEmpty = false := by rw [Bool.eq_false_iff]; exact fun h => h0 ((str_empty s).1 h)
            have H1 := Lib.hid h1
            clear h0 h1
            match zs, HNL, HR, HRQ, HN, HFZ with
            | [], HNL, HR, HRQ, HN, HFZ =>
              have n1 : nl ≤ 0 := by have := HNL.out; simp at this; omega
              have q0 : decide ((0 : Int) < (nl : Int)) = false := by simp; omega
              have q1 : decide ((1 : Int) < (nl : Int)) = false := by simp; omega
              have q2 : decide (0 < nl) = false := by simp; omega
              have q3 : ¬ 0 < nl := by omega
              have HC : Hid (candW ((kk : Nat) : Int) [] = (((kk : Nat) : Int), 0, 0)) := Lib.hid rfl
              have hfr := fun w => fmt_ring_spec ((kk : Nat) : Int) 0 0 w
              obtain ⟨t, ht⟩ : ∃ t, t = fmtRing ((kk : Nat) : Int) 0 0 := ⟨_, rfl⟩
              rw [← ht] at hfr
              have HFR := Lib.hid hfr
              have HT := Lib.hid ht
              clear hfr ht
              go_wp2_with fail
              refine (HFR.out _).mono ?_
              rintro e w5 ⟨rfl, hb5⟩
              have M5 := Lib.hid ((Mine.box wr ((kk : Nat) : Int) 0 0 34).step hb5)
              have I5 := Lib.hid ((IQ.out.step ((Below.refl _ _).alloc (Nat.le_refl _) (.cells (ringC ((kk : Nat) : Int) 0 0) 34))).step hb5)
              have B5 := Lib.hid (HQ.out.trans (M5.out.1.1.mono HQ.out.size))
              clear hb5 IQ
              obtain ⟨d0, d1, d2, -⟩ := M5.out.cells
              by_cases hts : (⟨t.toArray⟩ : ByteArray) = s
              · have HA : Hid (RingAt s ((kk : Nat) : Int) 0 0 true) := Lib.hid (cand_hit H1.out (by rw [← hts, ← HT.out]))
                have hq : (t == s.toList) = true := list_eq hts
                obtain ⟨c0, c1, c3, f0, f1, f2⟩ := I5.out.cells
                clear hts
                go_wp2
                refine bodyPost_ret (v := .tuple #[ringV ((kk : Nat) : Int) 0 0, .bool true]) (by simp [results, Tryd.results20, go_sem, c0, c1, c3]) rfl ⟨_, _, _, true, rfl, HA.out, ?_⟩
                exact ((I5.out.1.1.setCell (Nat.le_refl _) _).setCell (Nat.le_refl _) _).setCell (Nat.le_refl _) _
              · have HNX := Lib.hid (HN.out.step HC.out (.inl (by rw [← HT.out]; exact fun e => hts (bytes_ext e.symm))))
                have hq : (t == s.toList) = false := list_ne hts
                clear hts
                go_wp2
                try go_frame
                go_roundw
                case rel => exact ⟨kk + 1, by omega, by omega, by go_num, HNX.out, B5.out⟩
                case measure => simp [intOf] <;> omega
            | [x], HNL, HR, HRQ, HN, HFZ =>
              have n1 : 1 ≤ nl ∧ nl ≤ 1 := by have := HNL.out; simp at this; omega
              have q0 : decide ((0 : Int) < (nl : Int)) = true := by simp; omega
              have q1 : decide ((1 : Int) < (nl : Int)) = false := by simp; omega
              have n2 := n1.1
              clear n1
              obtain ⟨lb, lo, rfl, hlb, l0⟩ := HRQ.out.first
              have hlb2 : lb < wr.heap.size := Nat.lt_of_lt_of_le hlb HQ.out.size
              by_cases h6 : kk = 6
              · subst h6
                have HC : Hid (candW ((6 : Nat) : Int) [x] = (((6 : Nat) : Int), 0, x)) := Lib.hid rfl
                have hfr := fun w => fmt_ring_spec ((6 : Nat) : Int) 0 x w
                obtain ⟨t, ht⟩ : ∃ t, t = fmtRing ((6 : Nat) : Int) 0 x := ⟨_, rfl⟩
                rw [← ht] at hfr
                have HFR := Lib.hid hfr
                have HT := Lib.hid ht
                clear hfr ht
                go_wp2_with fail
                refine (HFR.out _).mono ?_
                rintro e w5 ⟨rfl, hb5⟩
                have M5 := Lib.hid ((Mine.box wr ((6 : Nat) : Int) 0 x 34).step hb5)
                have I5 := Lib.hid ((IQ.out.step ((Below.refl _ _).alloc (Nat.le_refl _) (.cells (ringC ((6 : Nat) : Int) 0 x) 34))).step hb5)
                have B5 := Lib.hid (HQ.out.trans (M5.out.1.1.mono HQ.out.size))
                clear hb5 IQ
                obtain ⟨d0, d1, d2, -⟩ := M5.out.cells
                by_cases hts : (⟨t.toArray⟩ : ByteArray) = s
                · have HA : Hid (RingAt s ((6 : Nat) : Int) 0 x true) := Lib.hid (cand_hit H1.out (by rw [← hts, ← HT.out]))
                  have hq : (t == s.toList) = true := list_eq hts
                  obtain ⟨c0, c1, c3, f0, f1, f2⟩ := I5.out.cells
                  clear hts
                  go_wp2
                  refine bodyPost_ret (v := .tuple #[ringV ((6 : Nat) : Int) 0 x, .bool true]) (by simp [results, Tryd.results20, go_sem, c0, c1, c3]) rfl ⟨_, _, _, true, rfl, HA.out, ?_⟩
                  exact ((I5.out.1.1.setCell (Nat.le_refl _) _).setCell (Nat.le_refl _) _).setCell (Nat.le_refl _) _
                · have HNX := Lib.hid (HN.out.step HC.out (.inl (by rw [← HT.out]; exact fun e => hts (bytes_ext e.symm))))
                  have hq : (t == s.toList) = false := list_ne hts
                  clear hts
                  go_wp2
                  try go_frame
                  go_roundw
                  case rel => exact ⟨6 + 1, by omega, by omega, by go_num, HNX.out, B5.out⟩
                  case measure => simp [intOf] <;> omega
              · have q6 : ((kk : Int) == 6) = false := by simp; omega
                have HC : Hid (candW ((kk : Nat) : Int) [x] = (((kk : Nat) : Int), x, 0)) := Lib.hid (by show (if (kk : Int) = 6 then _ else _) = _; rw [if_neg (by omega)])
                have hfr := fun w => fmt_ring_spec ((kk : Nat) : Int) x 0 w
                obtain ⟨t, ht⟩ : ∃ t, t = fmtRing ((kk : Nat) : Int) x 0 := ⟨_, rfl⟩
                rw [← ht] at hfr
                have HFR := Lib.hid hfr
                have HT := Lib.hid ht
                clear hfr ht
                go_wp2_with fail
                refine (HFR.out _).mono ?_
                rintro e w5 ⟨rfl, hb5⟩
                have M5 := Lib.hid ((Mine.box wr ((kk : Nat) : Int) x 0 34).step hb5)
                have I5 := Lib.hid ((IQ.out.step ((Below.refl _ _).alloc (Nat.le_refl _) (.cells (ringC ((kk : Nat) : Int) x 0) 34))).step hb5)
                have B5 := Lib.hid (HQ.out.trans (M5.out.1.1.mono HQ.out.size))
                clear hb5 IQ
                obtain ⟨d0, d1, d2, -⟩ := M5.out.cells
                by_cases hts : (⟨t.toArray⟩ : ByteArray) = s
                · have HA : Hid (RingAt s ((kk : Nat) : Int) x 0 true) := Lib.hid (cand_hit H1.out (by rw [← hts, ← HT.out]))
                  have hq : (t == s.toList) = true := list_eq hts
                  obtain ⟨c0, c1, c3, f0, f1, f2⟩ := I5.out.cells
                  clear hts
                  go_wp2
                  refine bodyPost_ret (v := .tuple #[ringV ((kk : Nat) : Int) x 0, .bool true]) (by simp [results, Tryd.results20, go_sem, c0, c1, c3]) rfl ⟨_, _, _, true, rfl, HA.out, ?_⟩
                  exact ((I5.out.1.1.setCell (Nat.le_refl _) _).setCell (Nat.le_refl _) _).setCell (Nat.le_refl _) _
                · have HNX := Lib.hid (HN.out.step HC.out (.inl (by rw [← HT.out]; exact fun e => hts (bytes_ext e.symm))))
                  have hq : (t == s.toList) = false := list_ne hts
                  clear hts
                  go_wp2
                  try go_frame
                  go_roundw
                  case rel => exact ⟨kk + 1, by omega, by omega, by go_num, HNX.out, B5.out⟩
                  case measure => simp [intOf] <;> omega
            | x :: y :: rz, HNL, HR, HRQ, HN, HFZ =>
              have n2 : 2 ≤ nl := by have := HNL.out; simp at this; omega
              have q0 : decide ((0 : Int) < (nl : Int)) = true := by simp; omega
              have q1 : decide ((1 : Int) < (nl : Int)) = true := by simp; omega
              obtain ⟨lb, lo, rfl, hlb, l0, l1⟩ := HRQ.out.second
              have hlb2 : lb < wr.heap.size := Nat.lt_of_lt_of_le hlb HQ.out.size
              by_cases h6 : kk = 6
              · subst h6
                have HC : Hid (candW ((6 : Nat) : Int) (x :: y :: rz) = (((6 : Nat) : Int), 0, y)) := Lib.hid rfl
                have hfr := fun w => fmt_ring_spec ((6 : Nat) : Int) 0 y w
                obtain ⟨t, ht⟩ : ∃ t, t = fmtRing ((6 : Nat) : Int) 0 y := ⟨_, rfl⟩
                rw [← ht] at hfr
                have HFR := Lib.hid hfr
                have HT := Lib.hid ht
                clear hfr ht
                go_wp2_with fail
                refine (HFR.out _).mono ?_
                rintro e w5 ⟨rfl, hb5⟩
                have M5 := Lib.hid ((Mine.box wr ((6 : Nat) : Int) 0 y 34).step hb5)
                have I5 := Lib.hid ((IQ.out.step ((Below.refl _ _).alloc (Nat.le_refl _) (.cells (ringC ((6 : Nat) : Int) 0 y) 34))).step hb5)
                have B5 := Lib.hid (HQ.out.trans (M5.out.1.1.mono HQ.out.size))
                clear hb5 IQ
                obtain ⟨d0, d1, d2, -⟩ := M5.out.cells
                by_cases hts : (⟨t.toArray⟩ : ByteArray) = s
                · have HA : Hid (RingAt s ((6 : Nat) : Int) 0 y true) := Lib.hid (cand_hit H1.out (by rw [← hts, ← HT.out]))
                  have hq : (t == s.toList) = true := list_eq hts
                  obtain ⟨c0, c1, c3, f0, f1, f2⟩ := I5.out.cells
                  clear hts
                  go_wp2
                  refine bodyPost_ret (v := .tuple #[ringV ((6 : Nat) : Int) 0 y, .bool true]) (by simp [results, Tryd.results20, go_sem, c0, c1, c3]) rfl ⟨_, _, _, true, rfl, HA.out, ?_⟩
                  exact ((I5.out.1.1.setCell (Nat.le_refl _) _).setCell (Nat.le_refl _) _).setCell (Nat.le_refl _) _
                · have HNX := Lib.hid (HN.out.step HC.out (.inl (by rw [← HT.out]; exact fun e => hts (bytes_ext e.symm))))
                  have hq : (t == s.toList) = false := list_ne hts
                  clear hts
                  go_wp2
                  try go_frame
                  go_roundw
                  case rel => exact ⟨6 + 1, by omega, by omega, by go_num, HNX.out, B5.out⟩
                  case measure => simp [intOf] <;> omega
              · have q6 : ((kk : Int) == 6) = false := by simp; omega
                have HC : Hid (candW ((kk : Nat) : Int) (x :: y :: rz) = (((kk : Nat) : Int), x, y)) := Lib.hid (by show (if (kk : Int) = 6 then _ else _) = _; rw [if_neg (by omega)])
                have hfr := fun w => fmt_ring_spec ((kk : Nat) : Int) x y w
                obtain ⟨t, ht⟩ : ∃ t, t = fmtRing ((kk : Nat) : Int) x y := ⟨_, rfl⟩
                rw [← ht] at hfr
                have HFR := Lib.hid hfr
                have HT := Lib.hid ht
                clear hfr ht
                go_wp2_with fail
                refine (HFR.out _).mono ?_
                rintro e w5 ⟨rfl, hb5⟩
                have M5 := Lib.hid ((Mine.box wr ((kk : Nat) : Int) x y 34).step hb5)
                have I5 := Lib.hid ((IQ.out.step ((Below.refl _ _).alloc (Nat.le_refl _) (.cells (ringC ((kk : Nat) : Int) x y) 34))).step hb5)
                have B5 := Lib.hid (HQ.out.trans (M5.out.1.1.mono HQ.out.size))
                clear hb5 IQ
                obtain ⟨d0, d1, d2, -⟩ := M5.out.cells
                by_cases hts : (⟨t.toArray⟩ : ByteArray) = s
                · have HA : Hid (RingAt s ((kk : Nat) : Int) x y true) := Lib.hid (cand_hit H1.out (by rw [← hts, ← HT.out]))
                  have hq : (t == s.toList) = true := list_eq hts
                  obtain ⟨c0, c1, c3, f0, f1, f2⟩ := I5.out.cells
                  clear hts
                  go_wp2
                  refine bodyPost_ret (v := .tuple #[ringV ((kk : Nat) : Int) x y, .bool true]) (by simp [results, Tryd.results20, go_sem, c0, c1, c3]) rfl ⟨_, _, _, true, rfl, HA.out, ?_⟩
                  exact ((I5.out.1.1.setCell (Nat.le_refl _) _).setCell (Nat.le_refl _) _).setCell (Nat.le_refl _) _
                · have HNX := Lib.hid (HN.out.step HC.out (.inl (by rw [← HT.out]; exact fun e => hts (bytes_ext e.symm))))
                  have hq : (t == s.toList) = false := list_ne hts
                  clear hts
                  go_wp2
                  try go_frame
                  go_roundw
                  case rel => exact ⟨kk + 1, by omega, by omega, by go_num, HNX.out, B5.out⟩
                  case measure => simp [intOf] <;> omega
end Go.Proofs.YtghhlknfeogadaaDoor
