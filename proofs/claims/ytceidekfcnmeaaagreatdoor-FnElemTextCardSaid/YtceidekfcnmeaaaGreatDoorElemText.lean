
/- FormatElem and ParseElem of both. -/
import Derived.Test.YtceidekfcnmeaaaGreatDoorJoinText
import Derived.Test.YtceidekfcnmeaaaGreatDoorImplParse
import Derived.Test.YtceidekfcnmeaaaGreatDoorElem
import Derived.Test.YtceidekfcnmeaaaGreatDoorLawKit
namespace Go.Proofs.YtceidekfcnmeaaaGreatDoor
set_option maxRecDepth 20000
open Go.RowKit

noncomputable def fmtElem (k p n : Int) (xs : List Int) : List UInt8 := if okElemB k p n xs = true then joinL [44] (texts xs) else []
theorem fmtElem_no {k p n : Int} {xs : List Int} (h : okElemB k p n xs = false) : fmtElem k p n xs = [] := by simp [fmtElem, h]
theorem fmtElem_yes {k p n : Int} {xs : List Int} (h : okElemB k p n xs = true) : fmtElem k p n xs = joinL [44] (texts xs) := by simp [fmtElem, h]

/-- (Ring).holds of one list, laid in a new block. -/
theorem holds_one {B g : Nat} {w : World} {v : Value} {k p n : Int} {xs : List Int} (h : Rd B w v (ints xs)) (hB : B ≤ w.heap.size) (hl : xs.length ≤ 281474976710656) (hg : g = w.heap.size) (T : TypeId) :
    Calls Tryz.prog 27 #[ringV k p n, .slice (some ⟨g, 0, none⟩) 1 1] (w.alloc (.cells #[v] T)) fun e w' => e = .returned (.bool (okElemB k p n xs)) ∧ Below w.heap.size w w' := by
  subst hg
  have hb := (Below.refl w.heap.size w).alloc (Nat.le_refl _) (.cells #[v] T)
  refine (holds_impl (B := w.heap.size + 1) (k := k) (p := p) (n := n) (RdRows.one (B := B) (h.below hb hB) hB (by simp)) (by simp) (by simp) (by simpa using hl)).mono ?_
  rintro e w1 ⟨rfl, hb1⟩
  exact ⟨by simp [okElemB, holdsB], hb.trans (hb1.mono (by simp))⟩

set_option maxHeartbeats 400000 in
/-- impl.elemText: the numbers with commas between them. -/
theorem elem_text {B : Nat} {v : Value} {xs : List Int} {w : World} (h : Rd B w v (ints xs)) (hB : B ≤ w.heap.size) (hn : xs.length ≤ 1048576) (hI : allI xs) (htab : Lib.TabIs Tryz.prog w "internal/strconv.uint64pow10" .u64 Lib.pow10Tab) :
    Calls Tryz.prog 28 #[v] w fun e w' => e = .returned (.string ⟨(joinL [44] (texts xs)).toArray⟩) ∧ Below w.heap.size w w' := by
  have HH := Lib.hid h
  have HI := Lib.hid hI
  have HT := Lib.hid htab
  clear h hI htab
  go_enter Tryz.func28, Tryz.ntmps28
  go_wp2_with fail
  refine (joins_any 44 HH.out hB hn HI.out HT.out).mono ?_
  rintro e w1 ⟨rfl, hb⟩
  go_wp2
  go_ret
  exact ⟨rfl, hb⟩
set_option maxHeartbeats 800000 in
theorem fmt_elem_impl {B : Nat} {v : Value} {k p n : Int} {xs : List Int} {w : World} (h : Rd B w v (ints xs)) (hB : B ≤ w.heap.size) (hn : xs.length ≤ 1048576) (hI : allI xs) (htab : Lib.TabIs Tryz.prog w "internal/strconv.uint64pow10" .u64 Lib.pow10Tab) :
    Calls Tryz.prog 10 #[ringV k p n, v] w fun e w' => e = .returned (.string ⟨(fmtElem k p n xs).toArray⟩) ∧ Below w.heap.size w w' := by
  have hg := tab_size htab
  have I0 := Lib.hid (Inv.box w k p n 24)
  have HRD := Lib.hid (h.below I0.out.1 hB)
  have HBB := Lib.hid (Nat.le_trans hB I0.out.1.size)
  have HT := Lib.hid htab
  have HG := Lib.hid hg
  have HI := Lib.hid hI
  have HN := Lib.hid hn
  obtain ⟨a, cap, rfl, -⟩ := ints_form h
  obtain ⟨m, hm⟩ : ∃ m, m = xs.length := ⟨_, rfl⟩
  rw [← hm] at HRD ⊢
  have HCALL := Lib.hid (holds_one (g := w.heap.size + 1) (k := k) (p := p) (n := n) HRD.out HBB.out (by omega) (by simp) 26)
  clear h hB hn hI htab hg hm
  cases hok : okElemB k p n xs with
  | false =>
    rw [hok] at HCALL
    rw [fmtElem_no hok]
    clear hok
    go_enter Tryz.func10, Tryz.ntmps10
    go_wp2_with fail
    refine HCALL.out.mono ?_
    rintro e w1 ⟨rfl, hb⟩
    have I1 := Lib.hid (I0.out.step hb)
    clear hb
    go_wp2
    go_ret
    exact ⟨rfl, I1.out.1⟩
  | true =>
    rw [hok] at HCALL
    rw [fmtElem_yes hok]
    clear hok
    go_enter Tryz.func10, Tryz.ntmps10
    go_wp2_with fail
    refine HCALL.out.mono ?_
    rintro e w1 ⟨rfl, hb⟩
    have I1 := Lib.hid (I0.out.step hb)
    have HR1 := Lib.hid (HRD.out.below hb HBB.out)
    have Z1 := Lib.hid (Nat.le_trans HBB.out hb.size)
    clear hb
    go_wp2_with fail
    refine (elem_text HR1.out Z1.out HN.out HI.out (tab_below I1.out.1 HG.out HT.out)).mono ?_
    rintro e w2 ⟨rfl, hb2⟩
    go_wp2
    go_ret
    exact ⟨rfl, I1.out.1.trans (hb2.mono I1.out.1.size)⟩

/-- What reading a text as an element gives. -/
def ElemAtT (k p n : Int) (s : ByteArray) (zs : List Int) (b : Bool) : Prop :=
  (b = true ∧ SI 44 s zs true ∧ okElemB k p n zs = true) ∨ (b = false ∧ zs = [] ∧ ∀ ys, SI 44 s ys true → okElemB k p n ys = false)
theorem ElemAtT.unique {k p n : Int} {s : ByteArray} {zs zs' : List Int} {b b' : Bool} (h : ElemAtT k p n s zs b) (h' : ElemAtT k p n s zs' b') : zs = zs' ∧ b = b' := by
  rcases h with ⟨rfl, h1, h2⟩ | ⟨rfl, rfl, h1⟩ <;> rcases h' with ⟨rfl, h1', h2'⟩ | ⟨rfl, rfl, h1'⟩
  · exact ⟨(h1.unique h1').1, rfl⟩
  · rw [h1' _ h1] at h2; cases h2
  · rw [h1 _ h1'] at h2'; cases h2'
  · exact ⟨rfl, rfl⟩
theorem ElemAtT.len {k p n : Int} {s : ByteArray} {zs : List Int} {b : Bool} (h : ElemAtT k p n s zs b) : zs.length ≤ s.size + 1 := by
  rcases h with ⟨-, h, -⟩ | ⟨-, rfl, -⟩
  · exact h.len
  · simp
theorem elem_fail {k p n : Int} {s : ByteArray} {zs : List Int} (h : SI 44 s zs false) : ElemAtT k p n s [] false := .inr ⟨rfl, rfl, fun ys hy => by have := (h.unique hy).2; cases this⟩
theorem elem_bad {k p n : Int} {s : ByteArray} {zs : List Int} (h : SI 44 s zs true) (hb : okElemB k p n zs = false) : ElemAtT k p n s [] false := .inr ⟨rfl, rfl, fun ys hy => by rw [(hy.unique h).1]; exact hb⟩
/-- How a parser of elements ends. -/
def ElemTPost (k p n : Int) (s : ByteArray) (w : World) (e : Ending) (w' : World) : Prop :=
  ∃ v zs b, e = .returned (.tuple #[v, .bool b]) ∧ ElemAtT k p n s zs b ∧ w'.ownsRow w.heap.size 3 1 v zs.length (ints zs) ∧ Below w.heap.size w w'
theorem elem_mk {k p n : Int} {s : ByteArray} {w : World} {e : Ending} {w' : World} (v : Value) (zs : List Int) (b : Bool) (he : e = .returned (.tuple #[v, .bool b])) (h : ElemAtT k p n s zs b) (ho : w'.ownsRow w.heap.size 3 1 v zs.length (ints zs)) (hb : Below w.heap.size w w') : ElemTPost k p n s w e w' := ⟨v, zs, b, he, h, ho, hb⟩

set_option maxHeartbeats 1600000 in
theorem parse_elem_impl (k p n : Int) (s : ByteArray) (w : World) (hs : s.size ≤ 1048576) (hv : LibVars w) :
    Calls Tryz.prog 9 #[ringV k p n, .string s] w (ElemTPost k p n s w) := by
  have I0 := Lib.hid (Inv.box w k p n 24)
  have HV := Lib.hid (hv.below I0.out.1)
  have HS := Lib.hid hs
  clear hv hs
  go_enter Tryz.func9, Tryz.ntmps9
  go_wp2_with fail
  refine (splits_any 44 s _ (by omega) HS.out HV.out).mono ?_
  rintro e w1 ⟨v, zs, ok, rfl, hsi, hown, hb1⟩
  have I1 := Lib.hid (I0.out.step hb1)
  have HSI := Lib.hid hsi
  have HO := Lib.hid (hown.mono (Nat.le_of_lt (show w.heap.size < (w.alloc (.cells (ringC k p n) 24)).heap.size by simp)))
  have hl := hsi.len
  clear hsi hown hb1
  cases ok with
  | false =>
    have HF := Lib.hid (elem_fail (k := k) (p := p) (n := n) HSI.out)
    clear hl
    go_wp2
    go_ret2
    exact elem_mk _ [] false rfl HF.out (World.ownsRow_nil _ _ _ _) I1.out.1
  | true =>
    obtain ⟨c0, c1, c2⟩ := I1.out.cells
    have hl2 : zs.length ≤ 281474976710656 := by have := HS.out; omega
    have hcall := holds_one (k := k) (p := p) (n := n) (Rd.of_own HO.out) (Nat.le_refl _) hl2 rfl 26
    obtain ⟨a, cap, rfl, -⟩ := ints_form (Rd.of_own HO.out)
    obtain ⟨nl, hnl⟩ : ∃ nl, nl = zs.length := ⟨_, rfl⟩
    rw [← hnl] at hcall HO ⊢
    have HNL := Lib.hid hnl
    clear hnl
    cases hok : okElemB k p n zs with
    | false =>
      rw [hok] at hcall
      have HCALL := Lib.hid hcall
      have HF := Lib.hid (elem_bad HSI.out hok)
      clear hl hl2 hcall hok
      go_wp2_with fail
      refine HCALL.out.mono ?_
      rintro e w2 ⟨rfl, hb2⟩
      have I2 := Lib.hid (I1.out.step hb2)
      clear hb2
      go_wp2
      go_ret2
      exact elem_mk _ [] false rfl HF.out (World.ownsRow_nil _ _ _ _) I2.out.1
    | true =>
      rw [hok] at hcall
      have HCALL := Lib.hid hcall
      have HF : Hid (ElemAtT k p n s zs true) := .inl ⟨rfl, HSI.out, hok⟩
      clear hl hl2 hcall hok
      go_wp2_with fail
      refine HCALL.out.mono ?_
      rintro e w2 ⟨rfl, hb2⟩
      have I2 := Lib.hid (I1.out.step hb2)
      have HO2 := Lib.hid (ownb HO.out hb2)
      clear hb2
      go_wp2
      go_ret2
      exact elem_mk _ zs true rfl HF.out (HNL.out ▸ HO2.out) I2.out.1

end Go.Proofs.YtceidekfcnmeaaaGreatDoor
