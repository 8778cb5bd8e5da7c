
/- The law FnHoms, walked. -/
import Derived.Test.YtfdjlahaiogababEnvHom
import Derived.Deep.RegionHeld3
namespace Go.Proofs.Ytfdjlahaiogabab
set_option maxRecDepth 20000
open Go.RowKit

set_option maxHeartbeats 400000 in
theorem law_homs_big (a : Option Addr) (n c : Nat) (w : World) (hb : 1048576 < n) (hc : n ≤ 281474976710656) :
    Calls Try.prog 16 #[.slice a n c] w fun e w' => e = .returned (.bool true) ∧ Below w.heap.size w w' := by
  go_enter Try.func16, Try.ntmps16
  go_wp2
  go_ret
  exact ⟨rfl, Below.refl _ _⟩

set_option maxHeartbeats 100000000 in
set_option maxRecDepth 100000 in
theorem law_homs_small (a : Option Addr) (n c : Nat) (bs : List UInt8) (w : World) (hn : bs.length = n) (hs : n ≤ 1048576) (hr : Rd w.heap.size w (.slice a n c) (bytes8 bs)) :
    Calls Try.prog 16 #[.slice a n c] w fun e w' => e = .returned (.bool true) ∧ Below w.heap.size w w' := by
  have HR := Lib.hid hr
  have HN := Lib.hid (show bs.length ≤ 1048576 by omega)
  clear hr hn
  go_enter Try.func16, Try.ntmps16
  go_wp2_with fail
  refine (make_hom 0 (by omega) HR.out HN.out).mono ?_
  rintro e w1 ⟨fk, fp, fn, tk, tp, tn, hk, ha, rfl, hh, hb1⟩
  have HH := Lib.hid hh
  have HB1 := Lib.hid hb1
  have HR1 := Lib.hid ((HR.out.below hb1 (Nat.le_refl _)).mono hb1.size)
  clear hh hb1
  have HF := Lib.hid (homB_parts HH.out).1
  have HT := Lib.hid (homB_parts HH.out).2.1
  have HP := Lib.hid (hom_any HH.out)
  have EN : Hid (EnvH w (((w1.alloc (.cells (ringC fk fp fn) 31)).alloc (.cells (ringC tk tp tn) 31)).alloc (.cells (homC hk ha) 45)) w1.heap.size fk fp fn tk tp tn hk ha [] []) := Lib.hid (by
    have h := Inv3.box w1 fk fp fn tk tp tn hk ha 31 45
    exact ⟨⟨HB1.out.trans (h.bel.mono HB1.out.size), HB1.out.size, h.lt, h.fr, h.to, h.h0, h.h1⟩, (fun x hx => by cases hx), (fun x hx => by cases hx)⟩)
  have HR2 : Hid (Rd (((w1.alloc (.cells (ringC fk fp fn) 31)).alloc (.cells (ringC tk tp tn) 31)).alloc (.cells (homC hk ha) 45)).heap.size (((w1.alloc (.cells (ringC fk fp fn) 31)).alloc (.cells (ringC tk tp tn) 31)).alloc (.cells (homC hk ha) 45)) (.slice a n c) (bytes8 bs)) := Lib.hid (by
    have h := (Inv3.box w1 fk fp fn tk tp tn hk ha 31 45).bel
    exact (HR1.out.below h (Nat.le_refl _)).mono h.size)
  go_wp2_with fail
  refine (make_elem 10 (by omega) HF.out HR2.out HN.out).mono ?_
  rintro e w2 ⟨uxs, xs, rfl, hel, ho, hb⟩
  have EN := Lib.hid ((EN.out.step hb).addL (ho.rd.mono ho.2.2) hel)
  have Exs := Lib.hid hel
  have HR3 := Lib.hid ((HR2.out.below hb (Nat.le_refl _)).mono hb.size)
  clear hel ho hb
  obtain ⟨c0, c1, c2, d0, d1, d2, e0, e1⟩ := EN.out.1.cells
  go_wp2_with fail
  refine (make_elem 20 (by omega) HF.out HR3.out HN.out).mono ?_
  rintro e w3 ⟨uys, ys, rfl, hel, ho, hb⟩
  have EN := Lib.hid ((EN.out.step hb).addL (ho.rd.mono ho.2.2) hel)
  have Eys := Lib.hid hel
  have HR4 := Lib.hid ((HR3.out.below hb (Nat.le_refl _)).mono hb.size)
  clear hel ho hb c0 c1 c2 d0 d1 d2 e0 e1
  obtain ⟨c0, c1, c2, d0, d1, d2, e0, e1⟩ := EN.out.1.cells
  go_wp2_with fail
  refine (eh_apply (va := uxs) (xs := xs) EN HH.out (by repeat (first | exact List.Mem.head _ | apply List.Mem.tail))).mono ?_
  rintro e w4 ⟨vxs, rfl, EN⟩
  clear c0 c1 c2 d0 d1 d2 e0 e1
  obtain ⟨c0, c1, c2, d0, d1, d2, e0, e1⟩ := EN.out.1.cells
  go_wp2_with fail
  refine (eh_apply (va := uys) (xs := ys) EN HH.out (by repeat (first | exact List.Mem.head _ | apply List.Mem.tail))).mono ?_
  rintro e w5 ⟨vys, rfl, EN⟩
  clear c0 c1 c2 d0 d1 d2 e0 e1
  obtain ⟨c0, c1, c2, d0, d1, d2, e0, e1⟩ := EN.out.1.cells
  have Z := Lib.hid HP.out.zero
  have O := Lib.hid HP.out.one
  have S := Lib.hid (HP.out.plus xs ys Exs.out Eys.out)
  have T := Lib.hid (HP.out.times xs ys Exs.out Eys.out)
  have EN := Lib.hid EN.out.drew
  go_wp2_with fail
  try simp only [List.append]
  have AR1 := Lib.hid True.intro
  have AR2 := Lib.hid True.intro
  have AR3 := Lib.hid True.intro
  have AR4 := Lib.hid True.intro
  have AR5 := Lib.hid True.intro
  have AR6 := Lib.hid True.intro
  have AR7 := Lib.hid True.intro
  have AR8 := Lib.hid True.intro
  have AR9 := Lib.hid True.intro
  have AR10 := Lib.hid True.intro
  have AR11 := Lib.hid True.intro
  have AR12 := Lib.hid True.intro
  have AR13 := Lib.hid True.intro
  have AR14 := Lib.hid True.intro
  have AR15 := Lib.hid True.intro
  have AR16 := Lib.hid True.intro
  have AR17 := Lib.hid True.intro
  have AR18 := Lib.hid True.intro
  go_region_held3 (fun w' => w'.cell? ⟨w1.heap.size, 0, none⟩ = some (.int .i64 fk) ∧ w'.cell? ⟨w1.heap.size, 1, none⟩ = some (.int .i64 fp) ∧ w'.cell? ⟨w1.heap.size, 2, none⟩ = some (.int .i64 fn) ∧ w'.cell? ⟨w1.heap.size + 1, 0, none⟩ = some (.int .i64 tk) ∧ w'.cell? ⟨w1.heap.size + 1, 1, none⟩ = some (.int .i64 tp) ∧ w'.cell? ⟨w1.heap.size + 1, 2, none⟩ = some (.int .i64 tn) ∧ w'.cell? ⟨w1.heap.size + 1 + 1, 0, none⟩ = some (.int .i64 hk) ∧ w'.cell? ⟨w1.heap.size + 1 + 1, 1, none⟩ = some (.int .i64 ha)) (first | exact ⟨c0, c1, c2, d0, d1, d2, e0, e1⟩) (first
    | (go_at_call 72; have AR := AR1; clear AR AR1; refine (eh_hom EN HH.out).mono ?_; rintro e w10 ⟨rfl, EN⟩; obtain ⟨c0, c1, c2, d0, d1, d2, e0, e1⟩ := EN.out.1.cells)
    | (go_at_call 66; have AR := AR2; clear AR AR2; refine (eh_ok (va := vxs) (xs := imageL fk tk tp tn hk ha xs) EN HT.out (by repeat (first | exact List.Mem.head _ | apply List.Mem.tail))).mono ?_; rintro e w11 ⟨rfl, EN⟩; obtain ⟨c0, c1, c2, d0, d1, d2, e0, e1⟩ := EN.out.1.cells)
    | (go_at_call 67; have AR := AR3; clear AR AR3; refine (eh_zeroL EN HF.out).mono ?_; rintro e w12 ⟨a1, rfl, EN⟩; obtain ⟨c0, c1, c2, d0, d1, d2, e0, e1⟩ := EN.out.1.cells)
    | (go_at_call 71; have AR := AR4; clear AR AR4; refine (eh_apply (va := a1) (xs := zeroL fk fp fn) EN HH.out (by repeat (first | exact List.Mem.head _ | apply List.Mem.tail))).mono ?_; rintro e w13 ⟨a2, rfl, EN⟩; obtain ⟨c0, c1, c2, d0, d1, d2, e0, e1⟩ := EN.out.1.cells)
    | (go_at_call 67; have AR := AR5; clear AR AR5; refine (eh_zeroM EN HT.out).mono ?_; rintro e w14 ⟨a3, rfl, EN⟩; obtain ⟨c0, c1, c2, d0, d1, d2, e0, e1⟩ := EN.out.1.cells)
    | (go_at_call 51; have AR := AR6; clear AR AR6; refine (eh_ints (va := a2) (vb := a3) EN HT.out (by repeat (first | exact List.Mem.head _ | apply List.Mem.tail)) (by repeat (first | exact List.Mem.head _ | apply List.Mem.tail)) Z.out).mono ?_; rintro e w15 ⟨rfl, EN⟩; obtain ⟨c0, c1, c2, d0, d1, d2, e0, e1⟩ := EN.out.1.cells)
    | (go_at_call 68; have AR := AR7; clear AR AR7; refine (eh_oneL EN HF.out).mono ?_; rintro e w16 ⟨b1, rfl, EN⟩; obtain ⟨c0, c1, c2, d0, d1, d2, e0, e1⟩ := EN.out.1.cells)
    | (go_at_call 71; have AR := AR8; clear AR AR8; refine (eh_apply (va := b1) (xs := oneL fk fp fn) EN HH.out (by repeat (first | exact List.Mem.head _ | apply List.Mem.tail))).mono ?_; rintro e w17 ⟨b2, rfl, EN⟩; obtain ⟨c0, c1, c2, d0, d1, d2, e0, e1⟩ := EN.out.1.cells)
    | (go_at_call 68; have AR := AR9; clear AR AR9; refine (eh_oneM EN HT.out).mono ?_; rintro e w18 ⟨b3, rfl, EN⟩; obtain ⟨c0, c1, c2, d0, d1, d2, e0, e1⟩ := EN.out.1.cells)
    | (go_at_call 51; have AR := AR10; clear AR AR10; refine (eh_ints (va := b2) (vb := b3) EN HT.out (by repeat (first | exact List.Mem.head _ | apply List.Mem.tail)) (by repeat (first | exact List.Mem.head _ | apply List.Mem.tail)) O.out).mono ?_; rintro e w19 ⟨rfl, EN⟩; obtain ⟨c0, c1, c2, d0, d1, d2, e0, e1⟩ := EN.out.1.cells)
    | (go_at_call 55; have AR := AR11; clear AR AR11; refine (eh_addL (va := uxs) (vb := uys) (xs := xs) (ys := ys) EN HF.out (by repeat (first | exact List.Mem.head _ | apply List.Mem.tail)) (by repeat (first | exact List.Mem.head _ | apply List.Mem.tail))).mono ?_; rintro e w20 ⟨s1, rfl, EN⟩; obtain ⟨c0, c1, c2, d0, d1, d2, e0, e1⟩ := EN.out.1.cells)
    | (go_at_call 71; have AR := AR12; clear AR AR12; refine (eh_apply (va := s1) (xs := plusL fk fp xs ys) EN HH.out (by repeat (first | exact List.Mem.head _ | apply List.Mem.tail))).mono ?_; rintro e w21 ⟨s2, rfl, EN⟩; obtain ⟨c0, c1, c2, d0, d1, d2, e0, e1⟩ := EN.out.1.cells)
    | (go_at_call 55; have AR := AR13; clear AR AR13; refine (eh_addM (va := vxs) (vb := vys) (xs := imageL fk tk tp tn hk ha xs) (ys := imageL fk tk tp tn hk ha ys) EN HT.out (by repeat (first | exact List.Mem.head _ | apply List.Mem.tail)) (by repeat (first | exact List.Mem.head _ | apply List.Mem.tail))).mono ?_; rintro e w22 ⟨s3, rfl, EN⟩; obtain ⟨c0, c1, c2, d0, d1, d2, e0, e1⟩ := EN.out.1.cells)
    | (go_at_call 51; have AR := AR14; clear AR AR14; refine (eh_ints (va := s2) (vb := s3) EN HT.out (by repeat (first | exact List.Mem.head _ | apply List.Mem.tail)) (by repeat (first | exact List.Mem.head _ | apply List.Mem.tail)) S.out).mono ?_; rintro e w23 ⟨rfl, EN⟩; obtain ⟨c0, c1, c2, d0, d1, d2, e0, e1⟩ := EN.out.1.cells)
    | (go_at_call 65; have AR := AR15; clear AR AR15; refine (eh_mulL (va := uxs) (vb := uys) (xs := xs) (ys := ys) EN HF.out (by repeat (first | exact List.Mem.head _ | apply List.Mem.tail)) (by repeat (first | exact List.Mem.head _ | apply List.Mem.tail))).mono ?_; rintro e w24 ⟨t1, rfl, EN⟩; obtain ⟨c0, c1, c2, d0, d1, d2, e0, e1⟩ := EN.out.1.cells)
    | (go_at_call 71; have AR := AR16; clear AR AR16; refine (eh_apply (va := t1) (xs := timesL fk fp xs ys) EN HH.out (by repeat (first | exact List.Mem.head _ | apply List.Mem.tail))).mono ?_; rintro e w25 ⟨t2, rfl, EN⟩; obtain ⟨c0, c1, c2, d0, d1, d2, e0, e1⟩ := EN.out.1.cells)
    | (go_at_call 65; have AR := AR17; clear AR AR17; refine (eh_mulM (va := vxs) (vb := vys) (xs := imageL fk tk tp tn hk ha xs) (ys := imageL fk tk tp tn hk ha ys) EN HT.out (by repeat (first | exact List.Mem.head _ | apply List.Mem.tail)) (by repeat (first | exact List.Mem.head _ | apply List.Mem.tail))).mono ?_; rintro e w26 ⟨t3, rfl, EN⟩; obtain ⟨c0, c1, c2, d0, d1, d2, e0, e1⟩ := EN.out.1.cells)
    | (go_at_call 51; have AR := AR18; clear AR AR18; refine (eh_ints (va := t2) (vb := t3) EN HT.out (by repeat (first | exact List.Mem.head _ | apply List.Mem.tail)) (by repeat (first | exact List.Mem.head _ | apply List.Mem.tail)) T.out).mono ?_; rintro e w27 ⟨rfl, EN⟩; obtain ⟨c0, c1, c2, d0, d1, d2, e0, e1⟩ := EN.out.1.cells))
  all_goals
    go_wp2
    go_ret
    exact ⟨rfl, EN.out.1.bel⟩

theorem law_homs {v : Value} {bs : List UInt8} {w : World} (hr : Rd w.heap.size w v (bytes8 bs)) (hl : bs.length ≤ 281474976710656) :
    Calls Try.prog 16 #[v] w fun e w' => e = .returned (.bool true) ∧ Below w.heap.size w w' := by
  obtain ⟨a, cap, rfl, -⟩ := bytes_cell hr
  by_cases hs : bs.length ≤ 1048576
  · exact law_homs_small a _ cap bs w rfl hs hr
  · exact law_homs_big a _ cap w (by omega) hl
end Go.Proofs.Ytfdjlahaiogabab
