
/- spec.SetElem. -/
import Derived.Test.YtlmhnlepdfdceaaTenPut
import Derived.Test.YtlmhnlepdfdceaaOffset
namespace Go.Proofs.Ytlmhnlepdfdceaa
set_option maxRecDepth 20000
set_option maxRecDepth 20000
open Go.RowKit

theorem Bx.grown {w0 w w' : World} {r : Nat} {a b c : Value} {row : Option Nat} (h : Bx w0 w r a b c) (hg : w.grownBy w' row) (hne : ∀ g, row = some g → r ≠ g ∧ w0.heap.size ≤ g) : Bx w0 w' r a b c := by
  have hb : w'.heap[r]? = w.heap[r]? := hg.block r h.lt (fun e => (hne r e.symm).1 rfl)
  have hc : ∀ o, w'.cell? ⟨r, o, none⟩ = w.cell? ⟨r, o, none⟩ := fun o => World.cell?_of_block (w := w) hb
  refine ⟨h.bel.grown hg h.bel.size (fun j hj => (hne j hj).2), (hc 0).trans h.c0, (hc 1).trans h.c1, (hc 2).trans h.c2, fun j => ?_, Nat.lt_of_lt_of_le h.lt hg.size, h.lo⟩
  rw [← h.fr j]
  simp only [World.frozen?, hb]
abbrev Three (w0 w : World) (k p q : Int) (lv dv xv a b c : Value) : Prop := Bx w0 w w0.heap.size (.int .i64 k) (.int .i64 p) (.int .i64 q) ∧ Bx w0 w (w0.heap.size + 1) lv dv xv ∧ Bx w0 w (w0.heap.size + 1 + 1) a b c
/-- Three boxes at the beginning. -/
theorem Three.start (w : World) (k p q : Int) (x y z a b c : Value) (T T2 T3 : TypeId) :
    Three w (((w.alloc (.cells #[.int .i64 k, .int .i64 p, .int .i64 q] T)).alloc (.cells #[x, y, z] T2)).alloc (.cells #[a, b, c] T3)) k p q x y z a b c := by
  obtain ⟨h1, h2⟩ := Bx.two w (.int .i64 k) (.int .i64 p) (.int .i64 q) x y z T T2
  have h3 := Bx.new h2.bel a b c T3
  simp only [World.size_alloc] at h3
  exact ⟨h1.alloc _, h2.alloc _, h3⟩
theorem Three.step {w0 w w' : World} {k p q : Int} {lv dv xv a b c : Value} (h : Three w0 w k p q lv dv xv a b c) (hb : Below w.heap.size w w') : Three w0 w' k p q lv dv xv a b c := ⟨h.1.step hb, h.2.1.step hb, h.2.2.step hb⟩
theorem Three.cells {w0 w : World} {k p q : Int} {lv dv xv a b c : Value} (h : Three w0 w k p q lv dv xv a b c) :
    w.cell? ⟨w0.heap.size, 0, none⟩ = some (.int .i64 k) ∧ w.cell? ⟨w0.heap.size, 1, none⟩ = some (.int .i64 p) ∧ w.cell? ⟨w0.heap.size, 2, none⟩ = some (.int .i64 q) ∧ w.cell? ⟨w0.heap.size + 1, 0, none⟩ = some lv ∧ w.cell? ⟨w0.heap.size + 1, 1, none⟩ = some dv ∧ w.cell? ⟨w0.heap.size + 1, 2, none⟩ = some xv := ⟨h.1.c0, h.1.c1, h.1.c2, h.2.1.c0, h.2.1.c1, h.2.1.c2⟩
theorem Three.ans {w0 w : World} {k p q : Int} {lv dv xv a b c : Value} (h : Three w0 w k p q lv dv xv a b c) :
    w.cell? ⟨w0.heap.size + 1 + 1, 0, none⟩ = some a ∧ w.cell? ⟨w0.heap.size + 1 + 1, 1, none⟩ = some b ∧ w.cell? ⟨w0.heap.size + 1 + 1, 2, none⟩ = some c ∧ w.frozen? ⟨w0.heap.size + 1 + 1, 0, none⟩ = false ∧ w.frozen? ⟨w0.heap.size + 1 + 1, 1, none⟩ = false ∧ w.frozen? ⟨w0.heap.size + 1 + 1, 2, none⟩ = false := ⟨h.2.2.c0, h.2.2.c1, h.2.2.c2, h.2.2.fr 0, h.2.2.fr 1, h.2.2.fr 2⟩

noncomputable def setB (k p q : Int) (L D X ix x : List Int) : Bool := decide (0 ≤ offsetI L D ix) && (tensorB k p q L D X && okElemB k p q x)
noncomputable def setElemL (k q : Int) (L D X ix x : List Int) : List Int := putL X ((offsetI L D ix).toNat * (widthI k q).toNat) x
set_option maxHeartbeats 1600000 in
theorem set_elem_spec {B : Nat} {lv dv xv iv ev : Value} {k p q : Int} {L D X ix x : List Int} {w : World} (h : RdT B w lv dv xv L D X) (hi : Rd B w iv (ints ix)) (he : Rd B w ev (ints x)) (hB : B ≤ w.heap.size) (hn : LenT L D X) (hni : ix.length ≤ 281474976710656) (hne : x.length ≤ 281474976710656) :
    Calls Try.prog 30 #[ringV k p q, tenV lv dv xv, iv, ev] w (NewTen w (if setB k p q L D X ix x = true then L else []) (if setB k p q L D X ix x = true then D else []) (if setB k p q L D X ix x = true then setElemL k q L D X ix x else [])) := by
  have HT := Lib.hid h
  have HIX := Lib.hid hi
  have HE := Lib.hid he
  have HN := Lib.hid hn
  have HB0 := Lib.hid hB
  obtain ⟨al, cl, rfl, -⟩ := ints_form h.l
  obtain ⟨ad, cd, rfl, -⟩ := ints_form h.d
  obtain ⟨ax, cx, rfl, -⟩ := ints_form h.x
  obtain ⟨ml, hml⟩ : ∃ m, m = L.length := ⟨_, rfl⟩
  obtain ⟨md, hmd⟩ : ∃ m, m = D.length := ⟨_, rfl⟩
  obtain ⟨mx, hmx⟩ : ∃ m, m = X.length := ⟨_, rfl⟩
  rw [← hml, ← hmd, ← hmx] at HT ⊢
  have T0 := Lib.hid (Three.start w k p q (.slice al ml cl) (.slice ad md cd) (.slice ax mx cx) nilV nilV nilV 34 27 27)
  have HOF := Lib.hid (offset_of_spec (HT.out.below T0.out.1.bel HB0.out) (HIX.out.below T0.out.1.bel HB0.out) (Nat.le_trans HB0.out T0.out.1.bel.size) HN.out hni)
  have HOK := Lib.hid (fun (w1 : World) (hb : Below w.heap.size w w1) => tensor_ok_spec (k := k) (p := p) (n := q) (HT.out.below hb HB0.out) (Nat.le_trans HB0.out hb.size) HN.out)
  have HEO := Lib.hid (fun (w1 : World) (hb : Below w.heap.size w w1) => elem_ok_spec (k := k) (p := p) (n := q) (HE.out.below hb HB0.out) (Nat.le_trans HB0.out hb.size) hne)
  have HCP := Lib.hid (fun (w1 : World) (hb : Below w.heap.size w w1) (h1 : L.length ≤ 1099511627776) (h2 : D.length ≤ 1099511627776) (h3 : X.length ≤ 1099511627776) => copy_spec (HT.out.below hb HB0.out) (Nat.le_trans HB0.out hb.size) h1 h2 h3)
  obtain ⟨o, ho⟩ : ∃ o, o = offsetI L D ix := ⟨_, rfl⟩
  obtain ⟨tb, htb⟩ : ∃ b, b = tensorB k p q L D X := ⟨_, rfl⟩
  obtain ⟨eb, heb⟩ : ∃ b, b = okElemB k p q x := ⟨_, rfl⟩
  obtain ⟨sb, hsb⟩ : ∃ b, b = setB k p q L D X ix x := ⟨_, rfl⟩
  rw [← ho] at HOF
  rw [← htb] at HOK
  rw [← heb] at HEO
  rw [← hsb]
  have HSB : Hid (sb = (decide (0 ≤ o) && (tb && eb))) := by show _ = _; rw [hsb, ho, htb, heb]; rfl
  have HO := Lib.hid ho
  have HTB := Lib.hid htb
  have HEB := Lib.hid heb
  have hor := offsetI_range L D ix
  rw [← ho] at hor
  have HML := Lib.hid (And.intro hml (And.intro hmd hmx))
  clear h hi he hB hn hni hne hml hmd hmx ho htb heb hsb
  obtain ⟨r0, r1, r2, s0, s1, s2⟩ := T0.out.cells
  rcases hor with rfl | ⟨hs0, hin, ho1, ho2, ho3, ho4⟩
  · obtain rfl : sb = false := by rw [HSB.out]; simp
    simp only [Bool.false_eq_true, if_false]
    go_enter Try.func30, Try.ntmps30
    go_wp2_with fail
    refine HOF.out.mono ?_
    clear r0 r1 r2 s0 s1 s2
    rintro e w1 ⟨rfl, hb⟩
    have T1 := Lib.hid (T0.out.step hb)
    clear hb
    obtain ⟨t0, t1, t2, f0, f1, f2⟩ := T1.out.ans
    go_wp2
    refine bodyPost_ret (v := tenV nilV nilV nilV) (by simp [results, Try.results30, go_sem, t0, t1, t2]) rfl ?_
    exact NewTen.nils (((T1.out.1.bel.setCell (by simp; omega) _).setCell (by simp; omega) _).setCell (by simp; omega) _)
  · rw [← ho1] at ho2 ho3
    obtain ⟨oz, rfl⟩ : ∃ oz : Nat, o = (oz : Int) := ⟨o.toNat, by omega⟩
    have HSZ := Lib.hid ho3
    have ho5 : oz ≤ 4096 := by omega
    clear hs0 hin ho1 ho2 ho3 ho4
    cases tb with
    | false =>
      obtain rfl : sb = false := by rw [HSB.out]; simp
      simp only [Bool.false_eq_true, if_false]
      go_enter Try.func30, Try.ntmps30
      go_wp2_with fail
      refine HOF.out.mono ?_
      clear r0 r1 r2 s0 s1 s2
      rintro e w1 ⟨rfl, hb⟩
      have T1 := Lib.hid (T0.out.step hb)
      clear hb
      obtain ⟨r0, r1, r2, s0, s1, s2⟩ := T1.out.cells
      go_wp2_with fail
      refine (HOK.out _ T1.out.1.bel).mono ?_
      clear r0 r1 r2 s0 s1 s2
      rintro e w2 ⟨rfl, hb⟩
      have T2 := Lib.hid (T1.out.step hb)
      clear hb
      obtain ⟨t0, t1, t2, f0, f1, f2⟩ := T2.out.ans
      go_wp2
      refine bodyPost_ret (v := tenV nilV nilV nilV) (by simp [results, Try.results30, go_sem, t0, t1, t2]) rfl ?_
      exact NewTen.nils (((T2.out.1.bel.setCell (by simp; omega) _).setCell (by simp; omega) _).setCell (by simp; omega) _)
    | true =>
      cases eb with
      | false =>
        obtain rfl : sb = false := by rw [HSB.out]; simp
        simp only [Bool.false_eq_true, if_false]
        go_enter Try.func30, Try.ntmps30
        go_wp2_with fail
        refine HOF.out.mono ?_
        clear r0 r1 r2 s0 s1 s2
        rintro e w1 ⟨rfl, hb⟩
        have T1 := Lib.hid (T0.out.step hb)
        clear hb
        obtain ⟨r0, r1, r2, s0, s1, s2⟩ := T1.out.cells
        go_wp2_with fail
        refine (HOK.out _ T1.out.1.bel).mono ?_
        clear r0 r1 r2 s0 s1 s2
        rintro e w2 ⟨rfl, hb⟩
        have T2 := Lib.hid (T1.out.step hb)
        clear hb
        obtain ⟨r0, r1, r2, s0, s1, s2⟩ := T2.out.cells
        go_wp2_with fail
        refine (HEO.out _ T2.out.1.bel).mono ?_
        clear r0 r1 r2 s0 s1 s2
        rintro e w3 ⟨rfl, hb⟩
        have T3 := Lib.hid (T2.out.step hb)
        clear hb
        obtain ⟨t0, t1, t2, f0, f1, f2⟩ := T3.out.ans
        go_wp2
        refine bodyPost_ret (v := tenV nilV nilV nilV) (by simp [results, Try.results30, go_sem, t0, t1, t2]) rfl ?_
        exact NewTen.nils (((T3.out.1.bel.setCell (by simp; omega) _).setCell (by simp; omega) _).setCell (by simp; omega) _)
      | true =>
        obtain rfl : sb = true := by rw [HSB.out]; simp
        simp only [if_true]
        go_enter Try.func30, Try.ntmps30
        go_wp2_with fail
        refine HOF.out.mono ?_
        clear r0 r1 r2 s0 s1 s2
        rintro e w1 ⟨rfl, hb⟩
        have T1 := Lib.hid (T0.out.step hb)
        clear hb
        obtain ⟨r0, r1, r2, s0, s1, s2⟩ := T1.out.cells
        go_wp2_with fail
        refine (HOK.out _ T1.out.1.bel).mono ?_
        clear r0 r1 r2 s0 s1 s2
        rintro e w2 ⟨rfl, hb⟩
        have T2 := Lib.hid (T1.out.step hb)
        clear hb
        obtain ⟨r0, r1, r2, s0, s1, s2⟩ := T2.out.cells
        go_wp2_with fail
        refine (HEO.out _ T2.out.1.bel).mono ?_
        clear r0 r1 r2 s0 s1 s2
        rintro e w3 ⟨rfl, hb⟩
        have T3 := Lib.hid (T2.out.step hb)
        clear hb
        obtain ⟨r0, r1, r2, s0, s1, s2⟩ := T3.out.cells
        obtain ⟨hrb, hs0, hxl, -⟩ := tensorB_inv HTB.out.symm
        have hsz := sizeI_cases L D
        obtain ⟨hL1, hL2, hS1⟩ : L.length ≤ 12 ∧ L.length = D.length ∧ sizeI L D ≤ 4096 := by
          rcases hsz with h | ⟨h1, h2, h3, h4⟩
          · omega
          · exact ⟨h2.1, h2.2.1, by omega⟩
        have hwd := ring_width hrb
        have hev : (x.length : Int) = widthI k q := by
          have h := HEB.out
          have h2 : elemB k p q x = true := by unfold okElemB at h; rw [hrb] at h; simpa using h.symm
          exact (elemB_true.1 h2).1
        obtain ⟨wd, hw⟩ : ∃ wd : Nat, widthI k q = (wd : Int) := ⟨(widthI k q).toNat, by omega⟩
        rw [hw] at hwd hxl hev
        have hlen : oz * wd + wd ≤ X.length := by
          have h1 : ((oz : Int) + 1) * wd ≤ sizeI L D * wd := Int.mul_le_mul_of_nonneg_right (by have := HSZ.out; omega) (by omega)
          rw [← hxl, Int.add_mul, Int.one_mul] at h1
          exact_mod_cast h1
        have hX : X.length ≤ 24576 := by
          have h1 : sizeI L D * wd ≤ 4096 * 6 := by
            refine Int.le_trans (Int.mul_le_mul_of_nonneg_right hS1 (by omega)) ?_
            omega
          omega
        have HP := Lib.hid (And.intro hw (And.intro hwd (And.intro hev (And.intro hlen hX))))
        have HSE : Hid (setElemL k q L D X ix x = putL X (oz * wd) x) := by
          show _ = _
          unfold setElemL
          rw [← HO.out, hw]
          rfl
        have HQ := HCP.out _ T3.out.1.bel (by omega) (by omega) (by omega)
        have HCQ := Lib.hid HQ
        clear HQ HCP hrb hs0 hxl hsz hL1 hL2 hS1 hwd hev hw hlen hX
        go_wp2_with fail
        refine HCQ.out.mono ?_
        clear r0 r1 r2 s0 s1 s2
        rintro e w4 ⟨l', d', x', rfl, hO, hb⟩
        have T4 := Lib.hid (T3.out.step hb)
        have Z4 := Lib.hid hb.size
        have AP := Lib.hid hO.2
        obtain ⟨o1, o2, o3⟩ := hO.rows
        obtain ⟨a1, c1, rfl, -⟩ := ints_form o1.rd
        obtain ⟨a2, c2, rfl, -⟩ := ints_form o2.rd
        obtain ⟨a3, c3, rfl, -⟩ := ints_form o3.rd
        rw [← HML.out.1] at o1 AP ⊢
        rw [← HML.out.2.1] at o2 AP ⊢
        rw [← HML.out.2.2] at o3 AP ⊢
        have BX := Lib.hid (Bx.new T4.out.1.bel (.slice a1 ml c1) (.slice a2 md c2) (.slice a3 mx c3) 27)
        have hal := (Below.refl w4.heap.size w4).alloc (Nat.le_refl _) (.cells #[.slice a1 ml c1, .slice a2 md c2, .slice a3 mx c3] 27)
        have T5 := Lib.hid (T4.out.step hal)
        have P1 := Lib.hid (o1.below hal (Nat.le_refl _))
        have P2 := Lib.hid (o2.below hal (Nat.le_refl _))
        have P3 := Lib.hid (o3.below hal (Nat.le_refl _))
        clear hO hb o1 o2 o3 hal
        obtain ⟨r0, r1, r2, -, -, -⟩ := T5.out.cells
        have lt4 := T4.out.2.2.lt
        have hput := put_spec (k := k) (p := p) (q := q) wd oz ml c1 md c2 a1 a2 rfl rfl P3.out (HE.out.below T5.out.1.bel HB0.out) (Nat.le_trans HB0.out T3.out.1.bel.size) HP.out.1 (by have := HP.out.2.1.1; omega) (by have := HP.out.2.1.2; omega) (by have := HP.out.2.2.1; omega) ho5 HP.out.2.2.2.1 (by have := HP.out.2.2.2.2; omega)
        have HPUT := Lib.hid hput
        clear hput
        go_wp2_with fail
        refine HPUT.out.mono ?_
        clear r0 r1 r2
        rintro e w6 ⟨rfl, ho, hg⟩
        have hz6 := hg.size
        rw [World.size_alloc] at hz6
        have lo3 := T3.out.1.bel.size
        have lt3 := T3.out.2.2.lt
        have inside : ∀ g, Value.ownBlock (.slice a3 mx c3) = some g → w3.heap.size ≤ g ∧ g < w4.heap.size := fun g hg => ⟨P3.out.lo g hg, P3.out.2.1 g hg⟩
        have T6 := Lib.hid (T5.out.2.2.grown hg (fun g e => ⟨by have := inside g e; omega, by have := inside g e; omega⟩))
        have BX6 := Lib.hid (BX.out.grown hg (fun g e => ⟨by have := inside g e; omega, by have := inside g e; omega⟩))
        obtain ⟨p12, p13, p23⟩ := AP.out.out
        have Q1 := Lib.hid (P1.out.apart hg (apart_symm p13))
        have Q2 := Lib.hid (P2.out.apart hg (apart_symm p23))
        have Q3 := Lib.hid ho
        clear ho hg inside p12 p13 p23
        obtain ⟨-, t0, t1, t2, fr, -, -⟩ := T6.out
        obtain ⟨-, b0, b1, b2, -⟩ := BX6.out
        have f0 := fr 0
        have f1 := fr 1
        have f2 := fr 2
        clear fr
        go_wp2
        refine bodyPost_ret (v := tenV (.slice a1 ml c1) (.slice a2 md c2) (.slice a3 mx c3)) (by simp [results, Try.results30, go_sem, t0, t1, t2]) rfl ?_
        rw [HSE.out]
        refine ⟨_, _, _, rfl, ?_, ((T6.out.bel.setCell (by simp; omega) _).setCell (by simp; omega) _).setCell (by simp; omega) _⟩
        exact OwnG.wide (lo := w3.heap.size) (hi := w4.heap.size) (OwnG.of3 AP.out (Own.set (Own.set (Own.set Q1.out (by omega) _) (by omega) _) (by omega) _) (Own.set (Own.set (Own.set Q2.out (by omega) _) (by omega) _) (by omega) _) (Own.set (Own.set (Own.set Q3.out (by omega) _) (by omega) _) (by omega) _)) lo3 (by simp; omega) (by simp)
end Go.Proofs.Ytlmhnlepdfdceaa
