
/- (Tensor).elem, impl.ElemAt. -/
import Derived.Test.YtfdjlahaiogababIndexIn
import Derived.Test.YtfdjlahaiogababTensorOk2
import Derived.Test.YtfdjlahaiogababElemAt
import Derived.Test.YtfdjlahaiogababZero
namespace Go.Proofs.Ytfdjlahaiogabab
set_option maxRecDepth 20000
open Go.RowKit

/-- Where find answers: at a tensor that is valid over the ring and an index of it. -/
theorem findT_cases (k p q : Int) (L D X ix : List Int) : (findT k p q L D X ix = -1 ∧ ¬ (0 ≤ offsetI L D ix ∧ tensorB k p q L D X = true)) ∨
    ∃ o wd : Nat, findT k p q L D X ix = (o : Int) ∧ offsetI L D ix = (o : Int) ∧ tensorB k p q L D X = true ∧ widthI k q = (wd : Int) ∧ 1 ≤ wd ∧ wd ≤ 6 ∧ o ≤ 4096 ∧ o * wd + wd ≤ X.length ∧ ringB k p q = true := by
  cases ht : tensorB k p q L D X with
  | false => exact .inl ⟨if_neg (by rw [ht]; simp), by simp⟩
  | true =>
    obtain ⟨hrb, hs0, hxl, -⟩ := tensorB_inv ht
    have e : findT k p q L D X ix = offsetI L D ix := by unfold findT; rw [if_pos ht, offsetI_in hs0]
    rw [e]
    rcases offsetI_range L D ix with h | ⟨-, -, h1, h2, h3, h4⟩
    · exact .inl ⟨h, fun h5 => by omega⟩
    · right
      rw [← h1] at h2 h3
      have hwd := ring_width hrb
      obtain ⟨wd, hw⟩ : ∃ wd : Nat, widthI k q = (wd : Int) := ⟨(widthI k q).toNat, by omega⟩
      obtain ⟨o, ho⟩ : ∃ o : Nat, offsetI L D ix = (o : Int) := ⟨(offsetI L D ix).toNat, by omega⟩
      rw [ho] at h2 h3
      rw [hw] at hwd hxl
      have hlen : o * wd + wd ≤ X.length := by
        have h5 : ((o : Int) + 1) * wd ≤ sizeI L D * wd := Int.mul_le_mul_of_nonneg_right (by omega) (by omega)
        rw [← hxl, Int.add_mul, Int.one_mul] at h5
        exact_mod_cast h5
      exact ⟨o, wd, ho, ho, rfl, hw, by omega, by omega, by omega, hlen, hrb⟩

set_option maxHeartbeats 1600000 in
/-- (Tensor).elem: the part of Data. -/
theorem elem_part {b off cx mx ml cl md cd : Nat} {al ad : Option Addr} {k p q : Int} {w : World} (wd n : Nat) (hw : widthI k q = (wd : Int)) (hw1 : 1 ≤ wd) (hw2 : wd ≤ 6) (hn : n ≤ 4096) (hlen : n * wd + wd ≤ mx) (hcc : mx ≤ cx) :
    Calls Try.prog 88 #[tenV (.slice al ml cl) (.slice ad md cd) (.slice (some ⟨b, off, none⟩) mx cx), ringV k p q, .int .i64 n] w fun e w' => e = .returned (.slice (some ⟨b, off + n * wd, none⟩) wd (cx - n * wd)) ∧ Below w.heap.size w w' := by
  have H0 : Hid (Held w ((w.alloc (.cells #[.slice al ml cl, .slice ad md cd, .slice (some ⟨b, off, none⟩) mx cx] 28)).alloc (.cells #[.int .i64 k, .int .i64 p, .int .i64 q] 31)) (ringTen (w.heap.size + 1) w.heap.size k p q (.slice al ml cl) (.slice ad md cd) (.slice (some ⟨b, off, none⟩) mx cx))) := by
    have h := ((Held.refl w).box3 (.slice al ml cl) (.slice ad md cd) (.slice (some ⟨b, off, none⟩) mx cx) 28).box3 (.int .i64 k) (.int .i64 p) (.int .i64 q) 31
    simp only [World.size_alloc] at h
    exact h
  obtain ⟨s, hs⟩ : ∃ s, s = n * wd := ⟨_, rfl⟩
  have hsb : s ≤ 24576 := by rw [hs]; exact Nat.mul_le_mul hn hw2
  rw [← hs] at hlen ⊢
  have HW := Lib.hid hw
  have hm1 : (n : Int) * (wd : Int) = (s : Int) := by rw [hs]; simp
  have hm2 : ((n : Int) + 1) * (wd : Int) = ((s + wd : Nat) : Int) := by rw [Int.add_mul, Int.one_mul, hm1]; simp
  obtain ⟨se, hse⟩ : ∃ se, se = s + wd := ⟨_, rfl⟩
  rw [← hse] at hm2
  have hw3 : IntKind.i64.wrap ((s : Int)) = s := IntWalk.i64_in _ (by omega)
  have hw4 : IntKind.i64.wrap ((se : Int)) = se := IntWalk.i64_in _ (by omega)
  have hw5 : IntKind.i64.wrap ((n : Int) + 1) = (n : Int) + 1 := IntWalk.i64_in _ (by omega)
  have hg1 : (0 : Int) ≤ (s : Int) := by omega
  have hg2 : (s : Int) ≤ (se : Int) := by omega
  have hg3 : (se : Int) ≤ (cx : Int) := by omega
  have hne : ¬ cx = s := by omega
  have HE : Hid (Value.slice (some ⟨b, off + s, none⟩) (se - s) (cx - s) = .slice (some ⟨b, off + s, none⟩) wd (cx - s)) := by show _ = _; rw [hse, Nat.add_sub_cancel_left]
  clear hw hs hse hlen hcc
  go_enter Try.func88, Try.ntmps88
  go_wp2_with fail
  refine (Held.call H0 (width_impl k p q _)).mono ?_
  rw [HW.out]
  rintro e w1 ⟨rfl, H1, c0, c1, c2, d0, d1, d2, -⟩
  go_wp2
  go_ret
  exact ⟨by rw [← HE.out]; rfl, H1.out.1⟩

set_option maxHeartbeats 1600000 in
theorem elem_at_impl {B : Nat} {lv dv xv iv : Value} {k p q : Int} {L D X ix : List Int} {w : World} (h : RdT B w lv dv xv L D X) (hi : Rd B w iv (ints ix)) (hB : B ≤ w.heap.size) (hn : LenT L D X) (hni : ix.length ≤ 281474976710656) (hI : allI L) :
    Calls Try.prog 52 #[ringV k p q, tenV lv dv xv, iv] w (NewRow w (elemAtL k p q L D X ix)) := by
  have H0 := Lib.hid (Held.ringTen w k p q lv dv xv 31 28)
  have HT := Lib.hid h
  have HIX := Lib.hid hi
  have HN := Lib.hid hn
  have HB0 := Lib.hid hB
  obtain ⟨al, cl, rfl, -⟩ := ints_form h.l
  obtain ⟨ad, cd, rfl, -⟩ := ints_form h.d
  obtain ⟨ax, cx, rfl, -⟩ := ints_form h.x
  have HFI := Lib.hid (find_impl (k := k) (p := p) (n := q) (HT.out.below H0.out.1 HB0.out) (HIX.out.below H0.out.1 HB0.out) (Nat.le_trans HB0.out H0.out.1.size) HN.out hni hI)
  obtain ⟨f, hf⟩ : ∃ f, f = findT k p q L D X ix := ⟨_, rfl⟩
  rw [← hf] at HFI
  have hcs := findT_cases k p q L D X ix
  rw [← hf] at hcs
  clear h hi hB hn hni hI hf
  rcases hcs with ⟨rfl, hno⟩ | ⟨o, wd, rfl, ho, ht, hw, hw1, hw2, ho2, hlen, -⟩
  · have HF : Hid (elemAtL k p q L D X ix = []) := by show _ = _; exact if_neg hno
    clear hno
    obtain ⟨ml, hml⟩ : ∃ m, m = L.length := ⟨_, rfl⟩
    obtain ⟨md, hmd⟩ : ∃ m, m = D.length := ⟨_, rfl⟩
    obtain ⟨mx, hmx⟩ : ∃ m, m = X.length := ⟨_, rfl⟩
    rw [← hml, ← hmd, ← hmx] at H0 HT HFI ⊢
    clear hml hmd hmx
    go_enter Try.func52, Try.ntmps52
    go_wp2_with fail
    refine (Held.call H0 HFI.out).mono ?_
    rintro e w1 ⟨rfl, H1, c0, c1, c2, d0, d1, d2, -⟩
    go_wp2
    go_ret
    exact ⟨_, rfl, by rw [HF.out]; exact ⟨World.ownsRow_nil _ _ _ _, (fun g hg => by cases hg), Nat.le_refl _⟩, H1.out.1⟩
  · have HF : Hid (elemAtL k p q L D X ix = getL wd X o) := by
      show _ = _
      unfold elemAtL
      rw [if_pos ⟨by omega, ht⟩, ho, hw]
      rfl
    obtain ⟨b, off, cx', e, hbB, hcc, hc⟩ : ∃ b off cx', Value.slice ax X.length cx = .slice (some ⟨b, off, none⟩) X.length cx' ∧ b < B ∧ X.length ≤ cx' ∧ ∀ i (hi : i < X.length), w.cell? ⟨b, off + i, none⟩ = some (.int .i64 X[i]) := by
      rcases HT.out.x.ints_cases with ⟨rfl, -⟩ | h
      · simp at hlen; omega
      · exact h
    cases e
    have HGL := Lib.hid (getL_len (w := wd) (X := X) (n := o) hlen)
    have HC : Hid (∀ i (h : i < (getL wd X o).length), w.cell? ⟨b, off + o * wd + i, none⟩ = some (.int .i64 (getL wd X o)[i])) := Lib.hid fun i hi => by
      have hi2 : i < wd := by rw [HGL.out] at hi; exact hi
      have e1 : (getL wd X o)[i]? = X[o * wd + i]? := getL_at hi2
      have hlt : o * wd + i < X.length := by omega
      rw [List.getElem?_eq_getElem hi, List.getElem?_eq_getElem hlt] at e1
      injection e1 with e2
      rw [e2, ← hc _ hlt, Nat.add_assoc]
    have HBS := Lib.hid (Nat.lt_of_lt_of_le hbB HB0.out)
    have HLN := Lib.hid hlen
    obtain ⟨ml, hml⟩ : ∃ m, m = L.length := ⟨_, rfl⟩
    obtain ⟨md, hmd⟩ : ∃ m, m = D.length := ⟨_, rfl⟩
    obtain ⟨mx, hmx⟩ : ∃ m, m = X.length := ⟨_, rfl⟩
    have HM := Lib.hid hmx
    rw [← hmx] at hcc
    rw [← hml, ← hmd, ← hmx] at H0 HT HFI ⊢
    have HEP := Lib.hid (fun (w1 : World) => elem_part (b := b) (off := off) (cx := cx) (mx := mx) (ml := ml) (cl := cl) (md := md) (cd := cd) (al := al) (ad := ad) (k := k) (p := p) (q := q) (w := w1) wd o hw hw1 hw2 ho2 (by rw [HM.out]; exact HLN.out) hcc)
    clear hml hmd hmx ho ht hw hlen hc hbB hcc
    go_enter Try.func52, Try.ntmps52
    go_wp2_with fail
    refine (Held.call H0 HFI.out).mono ?_
    rintro e w1 ⟨rfl, H1, c0, c1, c2, d0, d1, d2, -⟩
    go_wp2_with fail
    refine (Held.call H1 (HEP.out w1)).mono ?_
    clear c0 c1 c2 d0 d1 d2
    rintro e w2 ⟨rfl, H2, -⟩
    go_wp2_with fail
    refine (clone_row b (off + o * wd) (cx - o * wd) wd (getL wd X o) w2 HGL.out (by omega) (Nat.lt_of_lt_of_le HBS.out H2.out.1.size) (fun i hi => (H2.out.1.cell (p := ⟨b, off + o * wd + i, none⟩) HBS.out).trans (HC.out i hi))).mono ?_
    rintro e w3 ⟨v, rfl, ho, hb⟩
    have RES : Hid (NewRow w (elemAtL k p q L D X ix) (.returned v) w3) := Lib.hid ⟨v, rfl, by rw [HF.out]; exact ⟨⟨ho.1.1, ho.1.2.imp id (fun ⟨g, cap, cur, e, hb, q⟩ => ⟨g, cap, cur, e, Nat.le_trans H2.out.1.size hb, q⟩)⟩, ho.2.1, ho.2.2⟩, H2.out.1.trans (hb.mono H2.out.1.size)⟩
    clear ho hb
    go_wp2
    go_ret
    exact RES.out
end Go.Proofs.Ytfdjlahaiogabab
