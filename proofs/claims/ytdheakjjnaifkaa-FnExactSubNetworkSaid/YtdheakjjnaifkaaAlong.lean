
/- (Tensor).along: the elements at the offsets of these axes. -/
import Derived.Test.YtdheakjjnaifkaaAxes
import Derived.Test.YtdheakjjnaifkaaElemRd
import Derived.Test.YtdheakjjnaifkaaZero
import Derived.Test.YtdheakjjnaifkaaElemImpl
import Derived.Test.YtdheakjjnaifkaaPermSpec
namespace Go.Proofs.Ytdheakjjnaifkaa
set_option maxRecDepth 20000
open Go.RowKit

theorem Own.slice {w : World} {lo hi : Nat} {v : Value} {xs : List Int} (h : Own w lo hi v xs) : ∃ a n c, v = .slice a n c := by
  obtain ⟨a, c, e, -⟩ := ints_form h.rd
  exact ⟨a, _, c, e⟩
/-- The labels of axes. -/
def labA (AX : List AxE) : List Int := AX.map fun a => a.1
theorem labA_len (AX : List AxE) : (labA AX).length = AX.length := by simp [labA]
theorem dimsA_len (AX : List AxE) : (dimsA AX).length = AX.length := by simp [dimsA]
theorem labA_step {AX : List AxE} {j : Nat} {n d s : Int} (h : AX[j]? = some (n, d, s)) : labA (AX.take j) ++ [n] = labA (AX.take (j + 1)) := by
  rw [List.take_add_one, h]; simp [labA]
theorem dimsA_step {AX : List AxE} {j : Nat} {n d s : Int} (h : AX[j]? = some (n, d, s)) : dimsA (AX.take j) ++ [d] = dimsA (AX.take (j + 1)) := by
  rw [List.take_add_one, h]; simp [dimsA]
theorem cell_one_at {w : World} {b : Nat} (x : Value) (t : TypeId) (e : w.heap.size = b) : ∀ j u, [x][j]? = some u → (w.alloc (.cells #[x] t)).cell? ((⟨b, 0, none⟩ : Addr).add j) = some u := by
  subst e; exact cell_one_new w x t
/-- The elements at these offsets, the first c of them. -/
def alongL (wd : Nat) (X : List Int) (st : Int) (offs : List Int) (c : Nat) : List Int := (offs.take c).flatMap fun o => getL wd X (st + o).toNat
theorem alongL_succ {wd : Nat} {X offs : List Int} {st : Int} {c : Nat} {o : Int} (h : offs[c]? = some o) : alongL wd X st offs (c + 1) = alongL wd X st offs c ++ getL wd X (st + o).toNat := by
  unfold alongL
  rw [List.take_add_one, h]; simp
theorem alongL_len {wd : Nat} {X offs : List Int} {st : Int} (h : ∀ o ∈ offs, (st + o).toNat * wd + wd ≤ X.length) (c : Nat) (hc : c ≤ offs.length) : (alongL wd X st offs c).length = c * wd := by
  induction c with
  | zero => simp [alongL]
  | succ c ih =>
    have hm : offs[c]? = some offs[c] := List.getElem?_eq_getElem (by omega)
    rw [alongL_succ hm, List.length_append, ih (by omega), getL_len (h _ (List.getElem_mem _)), Nat.add_mul, Nat.one_mul]

set_option maxHeartbeats 6400000 in
theorem along_full {B B' m N ml md mx wd cl cd cx ca offx bx0 : Nat} {k p q : Int} (st : Int) {X : List Int} {AX : List AxE} {al ad aa : Option Addr} {w : World} (hP : PA AX) (hm : AX.length = m) (hN : (offsA AX).length = N) (hN2 : N ≤ 4096) (hw : widthI k q = (wd : Int)) (hw1 : 1 ≤ wd) (hw6 : wd ≤ 6) (hoff : ∀ o ∈ offsA AX, 0 ≤ st + o ∧ st + o ≤ 4096 ∧ (st + o).toNat * wd + wd ≤ X.length) (hmx : mx = X.length) (hcx : mx ≤ cx) (hx : Rd B w (.slice (some ⟨bx0, offx, none⟩) mx cx) (ints X)) (ha : RdA B' w (.slice aa m ca) AX) (hB : B ≤ w.heap.size) (hB' : B' ≤ w.heap.size) :
    Calls Try.prog 95 #[tenV (.slice al ml cl) (.slice ad md cd) (.slice (some ⟨bx0, offx, none⟩) mx cx), ringV k p q, .int .i64 st, .slice aa m ca] w (NewTen w (labA AX) (dimsA AX) (alongL wd X st (offsA AX) N)) := by
  have P := Lib.hid hP
  have HM := Lib.hid hm
  have HN := Lib.hid hN
  have HO := Lib.hid hoff
  have HW := Lib.hid hw
  have HX := Lib.hid hx
  have HA := Lib.hid ha
  have HB := Lib.hid (And.intro hB hB')
  have HMX := Lib.hid hmx
  have HCX := Lib.hid hcx
  have m24 : m ≤ 200 := by have := hP.m12; omega
  obtain ⟨NW, hNW⟩ : ∃ z, z = N * wd := ⟨_, rfl⟩
  have HNW := Lib.hid hNW
  have hNWb : NW ≤ 24576 := by rw [hNW]; exact Nat.mul_le_mul hN2 hw6
  have hNW2 : wrap64 ((N : Int) * (wd : Int)) = (NW : Int) := by
    have h0 : (N : Int) * (wd : Int) = (NW : Int) := by rw [hNW, Int.natCast_mul]
    rw [h0]; unfold wrap64; omega
  obtain ⟨i0, hi, hz0, hz1, hz2⟩ := info_parts infoInt
  have J0 := Lib.hid hi
  have J1 := Lib.hid hz0
  have J2 := Lib.hid hz1
  have J3 := Lib.hid hz2
  have S0 : Hid (Rs w (((w.alloc (.cells #[.slice al ml cl, .slice ad md cd, .slice (some ⟨bx0, offx, none⟩) mx cx] 55)).alloc (.cells #[.int .i64 k, .int .i64 p, .int .i64 q] 30)).alloc (.cells #[nilV, nilV, nilV] 55)) [(w.heap.size + 1 + 1, nilV, nilV, nilV), (w.heap.size + 1, .int .i64 k, .int .i64 p, .int .i64 q), (w.heap.size, .slice al ml cl, .slice ad md cd, .slice (some ⟨bx0, offx, none⟩) mx cx)] [(nilV, labA (AX.take 0)), (nilV, dimsA (AX.take 0))]) := by
    have h := ((((Rs.start w).box (.slice al ml cl) (.slice ad md cd) (.slice (some ⟨bx0, offx, none⟩) mx cx) 55).box (.int .i64 k) (.int .i64 p) (.int .i64 q) 30).box nilV nilV nilV 55).nil.nil
    simp only [World.size_alloc] at h
    exact h
  generalize hbs : [(w.heap.size + 1 + 1, nilV, nilV, nilV), (w.heap.size + 1, Value.int .i64 k, Value.int .i64 p, Value.int .i64 q), (w.heap.size, Value.slice al ml cl, Value.slice ad md cd, Value.slice (some ⟨bx0, offx, none⟩) mx cx)] = bs at S0
  have HBS := Lib.hid hbs
  clear hP hm hN hoff hw hx ha hB hB' hmx hcx hi hz0 hz1 hz2 hNW hbs
  go_enter Try.func95, Try.ntmps95
  go_wp2
  go_loopw [9, 10, 19] (fun u v i wr => ∃ (j ca cb : Nat) (ga gb : Option Addr), j ≤ m ∧ i = .int .i64 j ∧ u = .slice ga j ca ∧ v = .slice gb j cb ∧ Hid (Rs w wr bs [(.slice ga j ca, labA (AX.take j)), (.slice gb j cb, dimsA (AX.take j))])) (fun _ _ i _ => m - (intOf i).toNat)
  case atStart => exact ⟨0, 0, 0, none, none, by omega, rfl, rfl, rfl, S0⟩
  case round =>
    clear S0
    obtain ⟨j, c1, c2, ga, gb, hj, rfl, rfl, rfl, HR⟩ := hrel
    by_cases hlt : j < m
    · obtain ⟨⟨n, d, s⟩, X1⟩ : ∃ a, Hid (AX[j]? = some a) := ⟨_, List.getElem?_eq_getElem (by have := HM.out; omega)⟩
      obtain ⟨b, off, rfl, -, e1, e2, e3⟩ := (HA.out.below HR.out.bel HB.out.2).at X1.out
      dsimp only at e1 e2 e3
      have R1 := Lib.hid (HR.out.box (.int .i64 n) (.int .i64 d) (.int .i64 s) 111)
      have A1 := Lib.hid (R1.out.alloc (.cells #[.int .i64 n] 3))
      have HLA : Hid ((labA (AX.take j)).length = j) := Lib.hid (by rw [labA_len, List.length_take, HM.out]; omega)
      have HDA : Hid ((dimsA (AX.take j)).length = j) := Lib.hid (by rw [dimsA_len, List.length_take, HM.out]; omega)
      have O1 := Lib.hid (A1.out.row (List.mem_cons_self) HLA.out : World.ownsRow _ w.heap.size 3 1 (.slice ga j c1) j (ints (labA (AX.take j))))
      go_wp2_with (at_builtin; go_must (refine wpList_append_lies _ rfl _ _ 25 rfl w.heap.size 3 i0 (.int .i64 0) 1 8 Try.underlying25 J0.out J1.out J2.out J3.out rfl (by decide) _ j (ints (labA (AX.take j))) rfl O1.out ⟨wr.heap.size + 1, 0, none⟩ 1 1 [.int .i64 n] rfl rfl (cell_one_at _ _ (by simp)) ?c2 (by decide) ?c3 ?c4 ?c5 _ rfl ?_))
      case c2 => first | rfl | (intro u hu; simp at hu; subst hu; rfl)
      case c3 => unfold maxLen; omega
      case c4 => omega
      case c5 => exact A1.out.bel.size
      intro g1 cap1 w2 hown hgrow hl1 _
      have R2 := Lib.hid (A1.out.app1 HLA.out hown hgrow (by simp only [World.size_alloc] at hl1 ⊢; exact hl1))
      rw [labA_step X1.out] at R2
      obtain ⟨⟨-, o1, -⟩, -⟩ := R2.out.at (r := wr.heap.size) (a := .int .i64 n) (b := .int .i64 d) (c := .int .i64 s) (by simp)
      have A2 := Lib.hid (R2.out.swap.alloc (.cells #[.int .i64 d] 3))
      have O2 := Lib.hid (A2.out.row (List.mem_cons_self) HDA.out : World.ownsRow _ w.heap.size 3 1 (.slice gb j c2) j (ints (dimsA (AX.take j))))
      clear hown hgrow hl1 O1 A1 R1 HR e1 e2 e3
      go_wp2_with (at_builtin; go_must (refine wpList_append_lies _ rfl _ _ 25 rfl w.heap.size 3 i0 (.int .i64 0) 1 8 Try.underlying25 J0.out J1.out J2.out J3.out rfl (by decide) _ j (ints (dimsA (AX.take j))) rfl O2.out ⟨w2.heap.size, 0, none⟩ 1 1 [.int .i64 d] rfl rfl (cell_one_at _ _ rfl) ?c2 (by decide) ?c3 ?c4 ?c5 _ rfl ?_))
      case c2 => first | rfl | (intro u hu; simp at hu; subst hu; rfl)
      case c3 => unfold maxLen; omega
      case c4 => omega
      case c5 => exact A2.out.bel.size
      intro g2 cap2 w3 hown hgrow hl1 _
      have R3 := Lib.hid (A2.out.app1 HDA.out hown hgrow (by simp only [World.size_alloc] at hl1 ⊢; exact hl1))
      rw [dimsA_step X1.out] at R3
      have R4 := Lib.hid (R3.out.swap.subB (bs' := bs) (List.Sublist.cons _ (List.Sublist.refl _)))
      clear hown hgrow hl1 O2 A2 R2 R3 o1
      go_wp2
      go_roundw
      case rel => exact ⟨j + 1, cap1, cap2, some ⟨g1, 0, none⟩, some ⟨g2, 0, none⟩, by omega, by go_num, rfl, rfl, R4⟩
      case measure => simp [intOf]; omega
    · obtain rfl : j = m := by omega
      have E1 : Hid (AX.take j = AX) := Lib.hid (List.take_of_length_le (by rw [HM.out]; exact Nat.le_refl _))
      rw [E1.out] at HR
      have HOF := Lib.hid (offsets_impl P.out (HA.out.below HR.out.bel HB.out.2) (Nat.le_trans HB.out.2 HR.out.bel.size))
      go_wp2_with fail
      refine HOF.out.mono ?_
      rintro e w4 ⟨vO, rfl, ho, hb⟩
      obtain ⟨aO, cO, rfl, -⟩ := ints_form ho.rd
      have R5 := Lib.hid (HR.out.new hb ho)
      rw [HN.out] at R5 ⊢
      clear ho hb HOF HR
      obtain ⟨⟨q0, q1, q2⟩, -⟩ := R5.out.at (r := w.heap.size + 1) (a := .int .i64 k) (b := .int .i64 p) (c := .int .i64 q) (by rw [← HBS.out]; simp)
      have HWI := Lib.hid (width_impl k p q w4)
      rw [HW.out] at HWI
      go_wp2_with fail
      refine HWI.out.mono ?_
      rintro e w5 ⟨rfl, hb⟩
      have R6 := Lib.hid (R5.out.step hb)
      clear hb HWI q0 q1 q2 R5
      go_wp2_with (at_make; go_must (refine wpList_make_own _ rfl _ _ 25 rfl w5.heap.size 3 i0 (.int .i64 0) 1 Try.underlying25 J0.out J1.out J2.out .i64 .i64 _ NW rfl rfl hNW2 (by rw [J3.out]; omega) (by unfold maxLen; omega) (Nat.le_refl _) ?_))
      intro w6 hown hgrow
      have R7 := Lib.hid (R6.out.empty hown hgrow)
      obtain ⟨gX, hgX⟩ : ∃ gX, gX = w5.heap.size := ⟨_, rfl⟩
      rw [← hgX] at R7 ⊢
      clear hown hgrow R6 hgX
      go_wp2
      go_loopw [14, 44] (fun u i wr => ∃ (c g nn cg : Nat), c ≤ N ∧ i = .int .i64 c ∧ u = .slice (some ⟨g, 0, none⟩) nn cg ∧ nn ≤ 24576 ∧ Hid (nn = c * wd) ∧ Hid (Rs w wr bs [(.slice (some ⟨g, 0, none⟩) nn cg, alongL wd X st (offsA AX) c), (.slice aO N cO, offsA AX), (.slice ga j c1, labA AX), (.slice gb j c2, dimsA AX)])) (fun _ i _ => N - (intOf i).toNat)
      case atStart => exact ⟨0, gX, 0, NW, by omega, rfl, rfl, by omega, Lib.hid (by simp), R7⟩
      case round =>
        clear R7
        obtain ⟨c, g, nn, cX, hc, rfl, rfl, hnn, HNN, HR⟩ := hrel
        by_cases hlt : c < N
        · obtain ⟨oz, hoff⟩ : ∃ o, Hid ((offsA AX)[c]? = some o) := ⟨_, Lib.hid (List.getElem?_eq_getElem (by rw [HN.out]; exact hlt))⟩
          obtain ⟨ho0, ho1, ho3⟩ := HO.out oz (List.mem_of_getElem? hoff.out)
          obtain ⟨o, ho⟩ : ∃ z : Nat, st + oz = (z : Int) := ⟨(st + oz).toNat, by omega⟩
          have how : wrap64 (st + oz) = (o : Int) := by rw [ho] at ho0 ho1 ⊢; unfold wrap64; omega
          have HOO := Lib.hid ho
          rw [ho] at ho0 ho1 ho3
          rw [Int.toNat_natCast] at ho3
          obtain ⟨gO, rfl, -, -, hcO, -⟩ := (HR.out.own1 (v := .slice aO N cO) (xs := offsA AX) (by simp)).slot HN.out (by omega)
          have e1 := hcO c oz hoff.out
          obtain ⟨⟨t0, t1, t2⟩, -⟩ := HR.out.at (r := w.heap.size) (a := .slice al ml cl) (b := .slice ad md cd) (c := .slice (some ⟨bx0, offx, none⟩) mx cx) (by rw [← HBS.out]; simp)
          obtain ⟨⟨q0, q1, q2⟩, -⟩ := HR.out.at (r := w.heap.size + 1) (a := .int .i64 k) (b := .int .i64 p) (c := .int .i64 q) (by rw [← HBS.out]; simp)
          have HEL := Lib.hid (elem_part (b := bx0) (off := offx) (cx := cx) (mx := mx) (ml := ml) (cl := cl) (md := md) (cd := cd) (al := al) (ad := ad) (k := k) (p := p) (q := q) (w := wr) wd o HW.out hw1 hw6 (by omega) (by rw [HMX.out]; exact ho3) HCX.out)
          have HSU : Hid (alongL wd X st (offsA AX) c ++ getL wd X o = alongL wd X st (offsA AX) (c + 1)) := Lib.hid (by rw [alongL_succ hoff.out, HOO.out, Int.toNat_natCast])
          have HGL := Lib.hid (getL_len ho3)
          have NB : Hid (nn + wd = (c + 1) * wd ∧ nn + wd ≤ 24576) := Lib.hid (by
            have h : nn + wd = (c + 1) * wd := by rw [HNN.out, Nat.add_mul, Nat.one_mul]
            exact ⟨h, by rw [h]; exact Nat.le_trans (Nat.mul_le_mul (show c + 1 ≤ 4096 by omega) hw6) (by omega)⟩)
          have HPL : Hid ((alongL wd X st (offsA AX) c).length = nn) := Lib.hid (by rw [alongL_len (fun o ho => (HO.out o ho).2.2) c (by rw [HN.out]; omega), HNN.out])
          have HO3 := Lib.hid ho3
          clear ho0 ho1 ho3 ho hcO
          go_wp2_with fail
          refine HEL.out.mono ?_
          rintro e w7 ⟨rfl, hb⟩
          have R8 := Lib.hid (HR.out.step hb)
          have HNW9 : Hid (∀ i u, (ints (getL wd X o))[i]? = some u → w7.cell? ((⟨bx0, offx + o * wd, none⟩ : Addr).add i) = some u) := Lib.hid (fun i u hu => by
            have hadd : (⟨bx0, offx + o * wd, none⟩ : Addr).add i = ⟨bx0, offx + (o * wd + i), none⟩ := by unfold Addr.add; split <;> simp_all [Nat.add_assoc]
            rw [hadd]
            unfold ints at hu
            rw [List.getElem?_map] at hu
            obtain ⟨x, hx, rfl⟩ := Option.map_eq_some_iff.1 hu
            obtain ⟨b', off', e', -, hcell⟩ := ((HX.out.below (HR.out.step hb).bel HB.out.1)).cellAt (getL_some hx)
            cases e'
            exact hcell)
          have O8 := Lib.hid (R8.out.row (v := .slice (some ⟨g, 0, none⟩) nn cX) (xs := alongL wd X st (offsA AX) c) (by simp) HPL.out)
          clear hb HR HEL t0 t1 t2 q0 q1 q2 e1
          go_wp2_with (at_builtin; go_must (refine wpList_append_lies _ rfl _ _ 25 rfl w.heap.size 3 i0 (.int .i64 0) 1 8 Try.underlying25 J0.out J1.out J2.out J3.out rfl (by decide) _ nn (ints (alongL wd X st (offsA AX) c)) rfl O8.out ⟨bx0, offx + o * wd, none⟩ wd (cx - o * wd) (ints (getL wd X o)) rfl ?c1 HNW9.out (one_cells _) ?c2 ?c3 ?c4 ?c5 _ rfl ?_))
          case c1 => rw [ints_len, HGL.out, Nat.mul_one]
          case c2 => exact hw1
          case c3 => unfold maxLen; have := NB.out.2; omega
          case c4 => have := NB.out.2; omega
          case c5 => exact R8.out.bel.size
          intro g1 cap1 w8 hown hgrow hl1 _
          rw [← ints_append] at hown
          have happ := R8.out.app hown (by rw [List.length_append, HPL.out, HGL.out]) hgrow hl1
          rw [HSU.out] at happ
          have R9 := Lib.hid happ
          clear hown hgrow hl1 happ O8 R8 HNW9
          go_wp2
          go_roundw
          case rel => exact ⟨c + 1, g1, nn + wd, cap1, by omega, by go_num, rfl, NB.out.2, NB.out.1, R9⟩
          case measure => simp [intOf]; omega
        · obtain rfl : c = N := by omega
          obtain ⟨⟨t0, t1, t2⟩, f0, f1, f2⟩ := HR.out.at (r := w.heap.size + 1 + 1) (a := nilV) (b := nilV) (c := nilV) (by rw [← HBS.out]; simp)
          have h1 : Rs w wr [(w.heap.size + 1 + 1, nilV, nilV, nilV)] [(.slice ga j c1, labA AX), (.slice gb j c2, dimsA AX), (.slice (some ⟨g, 0, none⟩) nn cX, alongL wd X st (offsA AX) c)] := ((HR.out.sub (rows' := [(.slice (some ⟨g, 0, none⟩) nn cX, alongL wd X st (offsA AX) c), (.slice ga j c1, labA AX), (.slice gb j c2, dimsA AX)]) (List.Sublist.cons_cons _ (List.Sublist.cons _ (List.Sublist.refl _)))).perm (List.Perm.trans (List.Perm.swap _ _ _) (List.Perm.cons _ (List.Perm.swap _ _ _)))).subB (by rw [← HBS.out]; exact List.Sublist.cons_cons _ (List.nil_sublist _))
          have HF := Lib.hid h1
          clear h1 HR
          go_wp2
          refine bodyPost_ret (v := tenV (.slice ga j c1) (.slice gb j c2) (.slice (some ⟨g, 0, none⟩) nn cX)) (by simp [results, Try.results95, go_sem, t0, t1, t2]) rfl ?_
          have R9 := HF.out.set3 (.slice ga j c1) (.slice gb j c2) (.slice (some ⟨g, 0, none⟩) nn cX)
          exact ⟨_, _, _, rfl, R9.ownG, R9.bel⟩
/-- (Tensor).along. -/
theorem along_impl {B B' wd : Nat} {lv dv xv av : Value} {k p q : Int} (st : Int) {L D X : List Int} {AX : List AxE} {w : World} (hP : PA AX) (hN2 : prodL (dimsA AX) ≤ 4096) (hw : widthI k q = (wd : Int)) (hw1 : 1 ≤ wd) (hw6 : wd ≤ 6) (hoff : ∀ o ∈ offsA AX, 0 ≤ st + o ∧ st + o ≤ 4096 ∧ (st + o).toNat * wd + wd ≤ X.length) (h : RdT B w lv dv xv L D X) (ha : RdA B' w av AX) (hB : B ≤ w.heap.size) (hB' : B' ≤ w.heap.size) :
    Calls Try.prog 95 #[tenV lv dv xv, ringV k p q, .int .i64 st, av] w (NewTen w (labA AX) (dimsA AX) (alongL wd X st (offsA AX) (offsA AX).length)) := by
  obtain ⟨al, cl, rfl, -⟩ := ints_form h.l
  obtain ⟨ad, cd, rfl, -⟩ := ints_form h.d
  obtain ⟨aa, ca, rfl⟩ := ha.form
  have hl := hP.len AX.length
  rw [List.take_of_length_le (Nat.le_refl _)] at hl
  have h1 := prodL_pos (dimsA_ge hP)
  have hX : 0 < X.length := by
    cases hoffs : offsA AX with
    | nil => rw [hoffs] at hl; simp at hl; omega
    | cons o r => have := (hoff o (by rw [hoffs]; simp)).2.2; omega
  rcases h.x.ints_cases with ⟨rfl, -⟩ | ⟨b, off, cx, rfl, -, hcx, -⟩
  · simp at hX
  · exact along_full st hP rfl rfl (by omega) hw hw1 hw6 hoff rfl hcx h.x ha hB hB'
end Go.Proofs.Ytdheakjjnaifkaa
