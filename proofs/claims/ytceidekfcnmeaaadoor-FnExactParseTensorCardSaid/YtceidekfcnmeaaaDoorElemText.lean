
/- FormatElem and ParseElem of both. -/
import Derived.Test.YtceidekfcnmeaaaDoorJoinText
import Derived.Test.YtceidekfcnmeaaaDoorImplParse
import Derived.Test.YtceidekfcnmeaaaDoorElem
import Derived.Test.YtceidekfcnmeaaaDoorLawKit
namespace Go.Proofs.YtceidekfcnmeaaaDoor
set_option maxRecDepth 20000
open Go.RowKit

noncomputable def fmtElem (k p n : Int) (xs : List Int) : List UInt8 := if okElemB k p n xs = true then joinL [44] (texts xs) else []
theorem fmtElem_no {k p n : Int} {xs : List Int} (h : okElemB k p n xs = false) : fmtElem k p n xs = [] := by simp [fmtElem, h]
theorem fmtElem_yes {k p n : Int} {xs : List Int} (h : okElemB k p n xs = true) : fmtElem k p n xs = joinL [44] (texts xs) := by simp [fmtElem, h]

set_option maxHeartbeats 800000 in
theorem fmt_elem_spec_full (a : Option Addr) (cap m : Nat) (k p n : Int) (xs : List Int) (w : World) (B : Nat) (hr : Rd B w (.slice a m cap) (ints xs)) (hB : B ≤ w.heap.size) (hx : xs.length = m) (hn : m ≤ 1048576) (hI : allI xs)
    (ha : 0 < m → ∃ b off, a = some ⟨b, off, none⟩ ∧ b < B ∧ ∀ i (h : i < xs.length), w.cell? ⟨b, off + i, none⟩ = some (.int .i64 xs[i])) :
    Calls Tryd.prog 6 #[ringV k p n, .slice a m cap] w fun e w' => e = .returned (.string ⟨(fmtElem k p n xs).toArray⟩) ∧ Below w.heap.size w w' := by
  have HA := Lib.hid ha
  have HN := Lib.hid hx
  have HI := Lib.hid hI
  obtain ⟨i0, hi, hz0, hz1, hz2⟩ := info_parts infoStr
  have J0 := Lib.hid hi
  have J1 := Lib.hid hz0
  have J2 := Lib.hid hz1
  have J3 := Lib.hid hz2
  have I0 := Lib.hid (Inv.box w k p n 26)
  have HRD := Lib.hid (hr.below I0.out.1 hB)
  have HBB := Lib.hid (Nat.le_trans hB I0.out.1.size)
  have HCALL := Lib.hid (elem_ok_spec (k := k) (p := p) (n := n) HRD.out HBB.out (by rw [HN.out]; omega))
  have HBW := Lib.hid hB
  clear ha hx hI hi hz0 hz1 hz2 hr hB
  cases hok : okElemB k p n xs with
  | false =>
    rw [hok] at HCALL
    rw [fmtElem_no hok]
    clear hok
    go_enter Tryd.func6, Tryd.ntmps6
    go_wp2_with fail
    refine (Inv.call I0 HCALL.out).mono ?_
    rintro e w1 ⟨rfl, I1, c0, c1, c2⟩
    go_wp2
    go_ret
    exact ⟨rfl, I1.out.1⟩
  | true =>
    rw [hok] at HCALL
    rw [fmtElem_yes hok]
    clear hok
    go_enter Tryd.func6, Tryd.ntmps6
    go_wp2_with fail
    refine (Inv.call I0 HCALL.out).mono ?_
    rintro e w1 ⟨rfl, I1, c0, c1, c2⟩
    clear c0 c1 c2
    go_wp2
    go_loopw [5, 15] (fun v i wr => ∃ j : Nat, j ≤ m ∧ i = .int .i64 j ∧ Hid (wr.ownsRow w1.heap.size 9 1 v j (strs (texts (xs.take j)))) ∧ Hid (Below w1.heap.size w1 wr)) (fun _ i _ => m - (intOf i).toNat)
    case atStart => exact ⟨0, by omega, rfl, World.ownsRow_made w1 #[] 0 (Nat.le_refl _) (by unfold maxLen; omega) rfl, (Below.refl _ _).alloc (Nat.le_refl _) _⟩
    case round =>
      obtain ⟨j, hj, rfl, HO, HB⟩ := hrel
      by_cases hlt : j < m
      · obtain ⟨b, off, rfl, hbw, hcell⟩ := HA.out (by omega)
        obtain ⟨z, c1, Z1⟩ := ints_cell HN.out hcell hlt
        have c2 : wr.cell? ⟨b, off + j, none⟩ = some (.int .i64 z) := ((I1.out.1.trans (HB.out.mono I1.out.1.size)).cell (p := ⟨b, off + j, none⟩) (Nat.lt_of_lt_of_le hbw HBW.out)).trans c1
        have hz := inI_at HI.out Z1.out
        have HZ := Lib.hid hz
        clear hcell c1 hz hbw
        go_wp2_with fail
        refine (fmt_any z wr HZ.out.1 HZ.out.2).mono ?_
        rintro e w2 ⟨rfl, hb1⟩
        have HO1 := Lib.hid (own_below HO.out hb1)
        have HB1 := Lib.hid (HB.out.trans (hb1.mono HB.out.size))
        have hz1 := HB1.out.size
        have HS := Lib.hid hz1
        clear hb1 hz1
        go_wp2_with (at_builtin; go_must (refine wpList_append_own _ rfl _ _ 44 rfl w1.heap.size 9 i0 (.string ⟨#[]⟩) 1 16 Tryd.underlying44 J0.out J1.out J2.out J3.out rfl (by decide) _ _ _ rfl (HO1.out.alloc _) ⟨w2.heap.size, 0, none⟩ 1 1 [.string ⟨(Lib.itoa z).toArray⟩] rfl rfl (cell_one_new _ _ _) ?c2 ?c3 ?c4 ?c5 ?_))
        case c2 => intro u hu; simp at hu; subst hu; rfl
        case c3 => unfold maxLen; omega
        case c4 => omega
        case c5 => have := HS.out; simp; omega
        intro v' w4 hown2 hgrow2 _
        have HO2 := Lib.hid hown2
        have HB2 := Lib.hid ((HB1.out.alloc HS.out _).grown hgrow2 (by have := HS.out; simp; omega) (fun g hg => (HO1.out.lt g hg).1))
        clear hown2 hgrow2
        go_wp2
        go_roundw
        case rel => exact ⟨j + 1, by omega, by go_num, by have h := HO2.out; rw [← strs_snoc xs j z Z1.out] at h; exact h, HB2.out⟩
        case measure => simp [intOf]; omega
      · obtain rfl : j = m := by omega
        have e : xs.take j = xs := List.take_of_length_le (by rw [HN.out]; omega)
        have HR := Lib.hid (show Rd wr.heap.size wr _ (strs (texts xs)) from e ▸ Rd.of_own HO.out)
        go_wp2_with fail
        refine (spec_join ⟨#[44]⟩ HR.out (by rw [texts_len, HN.out]; omega) (by have := join_len 44 xs HI.out; rw [HN.out] at this; show (joinL [44] (texts xs)).length ≤ _; omega)).mono ?_
        rintro e w2 ⟨rfl, rfl⟩
        go_wp2
        go_ret
        exact ⟨rfl, I1.out.1.trans (HB.out.mono I1.out.1.size)⟩
theorem fmt_elem_spec {B : Nat} {v : Value} {k p n : Int} {xs : List Int} {w : World} (h : Rd B w v (ints xs)) (hB : B ≤ w.heap.size) (hn : xs.length ≤ 1048576) (hI : allI xs) :
    Calls Tryd.prog 6 #[ringV k p n, v] w fun e w' => e = .returned (.string ⟨(fmtElem k p n xs).toArray⟩) ∧ Below w.heap.size w w' := by
  obtain ⟨a, cap, rfl, ha⟩ := ints_form h
  exact fmt_elem_spec_full a cap _ k p n xs w B h hB rfl hn hI ha

/-- (Ring).holds of one list, laid in a new block. -/
theorem holds_one {B g : Nat} {w : World} {v : Value} {k p n : Int} {xs : List Int} (h : Rd B w v (ints xs)) (hB : B ≤ w.heap.size) (hl : xs.length ≤ 281474976710656) (hg : g = w.heap.size) (T : TypeId) :
    Calls Tryd.prog 23 #[ringV k p n, .slice (some ⟨g, 0, none⟩) 1 1] (w.alloc (.cells #[v] T)) fun e w' => e = .returned (.bool (okElemB k p n xs)) ∧ Below w.heap.size w w' := by
  subst hg
  have hb := (Below.refl w.heap.size w).alloc (Nat.le_refl _) (.cells #[v] T)
  refine (holds_impl (B := w.heap.size + 1) (k := k) (p := p) (n := n) (RdRows.one (B := B) (h.below hb hB) hB (by simp)) (by simp) (by simp) (by simpa using hl)).mono ?_
  rintro e w1 ⟨rfl, hb1⟩
  exact ⟨by simp [okElemB, holdsB], hb.trans (hb1.mono (by simp))⟩

set_option maxHeartbeats 400000 in
/-- impl.elemText: the numbers with commas between them. -/
theorem elem_text {B : Nat} {v : Value} {xs : List Int} {w : World} (h : Rd B w v (ints xs)) (hB : B ≤ w.heap.size) (hn : xs.length ≤ 1048576) (hI : allI xs) (htab : Lib.TabIs Tryd.prog w "internal/strconv.uint64pow10" .u64 Lib.pow10Tab) :
    Calls Tryd.prog 24 #[v] w fun e w' => e = .returned (.string ⟨(joinL [44] (texts xs)).toArray⟩) ∧ Below w.heap.size w w' := by
  have HH := Lib.hid h
  have HI := Lib.hid hI
  have HT := Lib.hid htab
  clear h hI htab
  go_enter Tryd.func24, Tryd.ntmps24
  go_wp2_with fail
  refine (joins_any 44 HH.out hB hn HI.out HT.out).mono ?_
  rintro e w1 ⟨rfl, hb⟩
  go_wp2
  go_ret
  exact ⟨rfl, hb⟩
set_option maxHeartbeats 800000 in
theorem fmt_elem_impl {B : Nat} {v : Value} {k p n : Int} {xs : List Int} {w : World} (h : Rd B w v (ints xs)) (hB : B ≤ w.heap.size) (hn : xs.length ≤ 1048576) (hI : allI xs) (htab : Lib.TabIs Tryd.prog w "internal/strconv.uint64pow10" .u64 Lib.pow10Tab) :
    Calls Tryd.prog 9 #[ringV k p n, v] w fun e w' => e = .returned (.string ⟨(fmtElem k p n xs).toArray⟩) ∧ Below w.heap.size w w' := by
  have hg := tab_size htab
  have I0 := Lib.hid (Inv.box w k p n 26)
  have HRD := Lib.hid (h.below I0.out.1 hB)
  have HBB := Lib.hid (Nat.le_trans hB I0.out.1.size)
  have HT := Lib.hid htab
  have HG := Lib.hid hg
  have HI := Lib.hid hI
  have HN := Lib.hid hn
  obtain ⟨a, cap, rfl, -⟩ := ints_form h
  obtain ⟨m, hm⟩ : ∃ m, m = xs.length := ⟨_, rfl⟩
  rw [← hm] at HRD ⊢
  have HCALL := Lib.hid (holds_one (g := w.heap.size + 1) (k := k) (p := p) (n := n) HRD.out HBB.out (by omega) (by simp) 24)
  clear h hB hn hI htab hg hm
  cases hok : okElemB k p n xs with
  | false =>
    rw [hok] at HCALL
    rw [fmtElem_no hok]
    clear hok
    go_enter Tryd.func9, Tryd.ntmps9
    go_wp2_with fail
    refine HCALL.out.mono ?_
    rintro e w1 ⟨rfl, hb⟩
    have I1 := Lib.hid (I0.out.step hb)
    clear hb
    go_wp2
    go_ret
    exact ⟨rfl, I1.out.1⟩
  | true =>
    rw [hok] at HCALL
    rw [fmtElem_yes hok]
    clear hok
    go_enter Tryd.func9, Tryd.ntmps9
    go_wp2_with fail
    refine HCALL.out.mono ?_
    rintro e w1 ⟨rfl, hb⟩
    have I1 := Lib.hid (I0.out.step hb)
    have HR1 := Lib.hid (HRD.out.below hb HBB.out)
    have Z1 := Lib.hid (Nat.le_trans HBB.out hb.size)
    clear hb
    go_wp2_with fail
    refine (elem_text HR1.out Z1.out HN.out HI.out (tab_below I1.out.1 HG.out HT.out)).mono ?_
    rintro e w2 ⟨rfl, hb2⟩
    go_wp2
    go_ret
    exact ⟨rfl, I1.out.1.trans (hb2.mono I1.out.1.size)⟩

/-- What reading a text as an element gives. -/
def ElemAtT (k p n : Int) (s : ByteArray) (zs : List Int) (b : Bool) : Prop :=
  (b = true ∧ SI 44 s zs true ∧ okElemB k p n zs = true) ∨ (b = false ∧ zs = [] ∧ ∀ ys, SI 44 s ys true → okElemB k p n ys = false)
theorem ElemAtT.unique {k p n : Int} {s : ByteArray} {zs zs' : List Int} {b b' : Bool} (h : ElemAtT k p n s zs b) (h' : ElemAtT k p n s zs' b') : zs = zs' ∧ b = b' := by
  rcases h with ⟨rfl, h1, h2⟩ | ⟨rfl, rfl, h1⟩ <;> rcases h' with ⟨rfl, h1', h2'⟩ | ⟨rfl, rfl, h1'⟩
  · exact ⟨(h1.unique h1').1, rfl⟩
  · rw [h1' _ h1] at h2; cases h2
  · rw [h1 _ h1'] at h2'; cases h2'
  · exact ⟨rfl, rfl⟩
theorem ElemAtT.len {k p n : Int} {s : ByteArray} {zs : List Int} {b : Bool} (h : ElemAtT k p n s zs b) : zs.length ≤ s.size + 1 := by
  rcases h with ⟨-, h, -⟩ | ⟨-, rfl, -⟩
  · exact h.len
  · simp
theorem elem_fail {k p n : Int} {s : ByteArray} {zs : List Int} (h : SI 44 s zs false) : ElemAtT k p n s [] false := .inr ⟨rfl, rfl, fun ys hy => by have := (h.unique hy).2; cases this⟩
theorem elem_bad {k p n : Int} {s : ByteArray} {zs : List Int} (h : SI 44 s zs true) (hb : okElemB k p n zs = false) : ElemAtT k p n s [] false := .inr ⟨rfl, rfl, fun ys hy => by rw [(hy.unique h).1]; exact hb⟩
/-- How a parser of elements ends. -/
def ElemTPost (k p n : Int) (s : ByteArray) (w : World) (e : Ending) (w' : World) : Prop :=
  ∃ v zs b, e = .returned (.tuple #[v, .bool b]) ∧ ElemAtT k p n s zs b ∧ w'.ownsRow w.heap.size 3 1 v zs.length (ints zs) ∧ Below w.heap.size w w'
theorem elem_mk {k p n : Int} {s : ByteArray} {w : World} {e : Ending} {w' : World} (v : Value) (zs : List Int) (b : Bool) (he : e = .returned (.tuple #[v, .bool b])) (h : ElemAtT k p n s zs b) (ho : w'.ownsRow w.heap.size 3 1 v zs.length (ints zs)) (hb : Below w.heap.size w w') : ElemTPost k p n s w e w' := ⟨v, zs, b, he, h, ho, hb⟩

end Go.Proofs.YtceidekfcnmeaaaDoor
