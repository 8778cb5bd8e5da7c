
/- impl.offsetsOf: where the elements are, for axes with strides. -/
import Derived.Test.YtceidekfcnmeaaaGreatTensorOk
import Derived.Test.YtceidekfcnmeaaaGreatPermSpec
import Derived.Deep.AppendLies
import Derived.OwnWalk
import Derived.Test.YtceidekfcnmeaaaGreatIndexIn
import Derived.StillTailTactics
import Derived.Deep.LoopGhost
namespace Go.Proofs.YtceidekfcnmeaaaGreat
set_option maxRecDepth 20000
open Go.RowKit

/-- A slice of axes that is only read. -/
def RdA (B : Nat) (w : World) (v : Value) (AX : List AxE) : Prop :=
  (AX = [] ∧ ∃ a cap, v = .slice a 0 cap) ∨
  ∃ b off cap, v = .slice (some ⟨b, off, none⟩) AX.length cap ∧ b < B ∧ ∀ i (a : AxE), AX[i]? = some a → w.cell? ⟨b, off + i * 3, none⟩ = some (.int .i64 a.1) ∧ w.cell? ⟨b, off + i * 3 + 1, none⟩ = some (.int .i64 a.2.1) ∧ w.cell? ⟨b, off + i * 3 + 2, none⟩ = some (.int .i64 a.2.2)
theorem RdA.below {B B' : Nat} {w w' : World} {v : Value} {AX : List AxE} (h : RdA B w v AX) (hb : Below B' w w') (hB : B ≤ B') : RdA B w' v AX := by
  rcases h with h | ⟨b, off, cap, hv, hlt, hc⟩
  · exact .inl h
  · refine .inr ⟨b, off, cap, hv, hlt, fun i a hi => ?_⟩
    obtain ⟨h1, h2, h3⟩ := hc i a hi
    exact ⟨(hb.cell (p := ⟨b, _, none⟩) (Nat.lt_of_lt_of_le hlt hB)).trans h1, (hb.cell (p := ⟨b, _, none⟩) (Nat.lt_of_lt_of_le hlt hB)).trans h2, (hb.cell (p := ⟨b, _, none⟩) (Nat.lt_of_lt_of_le hlt hB)).trans h3⟩
theorem RdA.mono {B B' : Nat} {w : World} {v : Value} {AX : List AxE} (h : RdA B w v AX) (hB : B ≤ B') : RdA B' w v AX := by
  rcases h with h | ⟨b, off, cap, hv, hlt, hc⟩
  · exact .inl h
  · exact .inr ⟨b, off, cap, hv, Nat.lt_of_lt_of_le hlt hB, hc⟩
theorem RdA.form {B : Nat} {w : World} {v : Value} {AX : List AxE} (h : RdA B w v AX) : ∃ a cap, v = .slice a AX.length cap := by
  rcases h with ⟨rfl, a, cap, rfl⟩ | ⟨b, off, cap, rfl, -⟩
  · exact ⟨a, cap, rfl⟩
  · exact ⟨_, cap, rfl⟩
theorem RdA.at {B m cap : Nat} {w : World} {p : Option Addr} {AX : List AxE} {i : Nat} {a : AxE} (h : RdA B w (.slice p m cap) AX) (hi : AX[i]? = some a) : ∃ b off, p = some ⟨b, off, none⟩ ∧ b < B ∧ w.cell? ⟨b, off + i * 3, none⟩ = some (.int .i64 a.1) ∧ w.cell? ⟨b, off + i * 3 + 1, none⟩ = some (.int .i64 a.2.1) ∧ w.cell? ⟨b, off + i * 3 + 2, none⟩ = some (.int .i64 a.2.2) := by
  rcases h with ⟨rfl, -⟩ | ⟨b, off, ca, e, hlt, hc⟩
  · simp at hi
  · cases e
    exact ⟨b, off, rfl, hlt, hc i a hi⟩

/-- What offsetsOf asks of its axes. -/
structure PA (AX : List AxE) : Prop where
  m12 : AX.length ≤ 24
  dD : ∀ a ∈ AX, 1 ≤ a.2.1 ∧ a.2.1 ≤ 8
  sD : ∀ a ∈ AX, 0 ≤ a.2.2 ∧ a.2.2 ≤ 8192
  pD : prodL (dimsA AX) ≤ 65536
theorem dimsA_ge {AX : List AxE} (h : PA AX) : ∀ d ∈ dimsA AX, 1 ≤ d := fun d hd => by
  obtain ⟨a, ha, rfl⟩ := List.mem_map.1 hd
  exact (h.dD a ha).1
theorem prod_prefix {D : List Int} (hD : ∀ d ∈ D, 1 ≤ d) (j : Nat) : 1 ≤ prodL (D.take j) ∧ prodL (D.take j) ≤ prodL D := by
  have h1 := prodL_pos (D := D.take j) (fun d hd => hD d (List.mem_of_mem_take hd))
  have h2 := prodL_pos (D := D.drop j) (fun d hd => hD d (List.mem_of_mem_drop hd))
  have h3 : prodL D = prodL (D.take j) * prodL (D.drop j) := by
    conv => lhs; rw [← List.take_append_drop j D]
    unfold prodL
    rw [List.foldl_append, foldl_mul]
    rfl
  refine ⟨h1, ?_⟩
  have := Int.mul_le_mul_of_nonneg_left h2 (show 0 ≤ prodL (D.take j) by omega)
  rw [Int.mul_one] at this
  omega
theorem PA.len {AX : List AxE} (h : PA AX) (j : Nat) : (offsA (AX.take j)).length ≤ 65536 ∧ ((offsA (AX.take j)).length : Int) = prodL (dimsA (AX.take j)) := by
  have e : dimsA (AX.take j) = (dimsA AX).take j := by simp [dimsA, List.map_take]
  have h1 := prod_prefix (dimsA_ge h) j
  have h2 := h.pD
  rw [offsA_is _ _ rfl (fun a ha => (h.dD a (List.mem_of_mem_take ha)).1), List.length_map, List.length_range, e]
  omega
theorem PA.range {AX : List AxE} (h : PA AX) : ∀ j, j ≤ AX.length → ∀ o ∈ offsA (AX.take j), 0 ≤ o ∧ o ≤ (j : Int) * 65536 := by
  intro j
  induction j with
  | zero => intro _ o ho; simp [offsA] at ho; omega
  | succ j ih =>
    intro hj o ho
    have ha : AX[j] ∈ AX := List.getElem_mem (by omega)
    rw [List.take_add_one, List.getElem?_eq_getElem (by omega)] at ho
    rw [Option.toList_some, offsA_snoc] at ho
    obtain ⟨o', ho', h2⟩ := List.mem_flatMap.1 ho
    obtain ⟨v, hv, rfl⟩ := List.mem_map.1 h2
    have h3 := ih (by omega) o' ho'
    have h4 := h.dD _ ha
    have h5 := h.sD _ ha
    have h6 : v < (AX[j]).2.1.toNat := List.mem_range.1 hv
    have h7 : 0 ≤ (v : Int) * (AX[j]).2.2 := Int.mul_nonneg (by omega) h5.1
    have h8 : (v : Int) * (AX[j]).2.2 ≤ 8 * 8192 := Int.mul_le_mul (by omega) h5.2 h5.1 (by omega)
    omega
theorem longerA_snoc (xs : List Int) (o : Int) (a : AxE) : longerA (xs ++ [o]) a = longerA xs a ++ (List.range a.2.1.toNat).map fun v : Nat => o + (v : Int) * a.2.2 := by simp [longerA]
theorem longerA_len (xs : List Int) (a : AxE) : (longerA xs a).length = xs.length * a.2.1.toNat := by
  induction xs with
  | nil => simp [longerA]
  | cons x xs ih =>
    have e : longerA (x :: xs) a = ((List.range a.2.1.toNat).map fun v : Nat => x + (v : Int) * a.2.2) ++ longerA xs a := by simp [longerA]
    rw [e, List.length_append, ih, List.length_map, List.length_range, List.length_cons, Nat.add_mul, Nat.one_mul, Nat.add_comm]
/-- An empty row that make has made. -/
theorem Rs.empty {w0 wr w' : World} {bs : List BxE} {rows : List RowE} {n : Nat} (h : Rs w0 wr bs rows) (ho : w'.ownsRow wr.heap.size 3 1 (.slice (some ⟨wr.heap.size, 0, none⟩) 0 n) 0 []) (hg : wr.grownBy w' none) :
    Rs w0 w' bs ((.slice (some ⟨wr.heap.size, 0, none⟩) 0 n, []) :: rows) :=
  h.new ((Below.refl _ _).grown hg (Nat.le_refl _) (fun k hk => by cases hk)) (Own.of (n := 0) (xs := []) ho rfl)
/-- A row of one integer. -/
theorem Rs.lit1 {w0 wr : World} {bs : List BxE} {rows : List RowE} (h : Rs w0 wr bs rows) (x : Int) : Rs w0 (wr.alloc (.cells #[.int .i64 x] 3)) bs ((.slice (some ⟨wr.heap.size, 0, none⟩) 1 1, [x]) :: rows) := by
  refine h.new ((Below.refl _ _).alloc (Nat.le_refl _) _) (Own.of (n := 1) ?_ rfl)
  exact World.ownsRow_lit wr #[.int .i64 x] 1 (Nat.le_refl _) (by unfold maxLen; omega) rfl
theorem Rs.app1' {w0 wr w' : World} {bs : List BxE} {rows : List RowE} {v : Value} {xs : List Int} {x : Int} {g n cap : Nat} (h : Rs w0 wr bs ((v, xs) :: rows)) (hn : xs.length = n) (ho : w'.ownsRow w0.heap.size 3 1 (.slice (some ⟨g, 0, none⟩) (n + 1) cap) (n + 1) (ints xs ++ [.int .i64 x])) (hg : wr.grownBy w' v.ownBlock) (hl : v.ownBlock = some g ∨ g = wr.heap.size) :
    Rs w0 w' bs ((.slice (some ⟨g, 0, none⟩) (n + 1) cap, xs ++ [x]) :: rows) := by
  have e : ints xs ++ [.int .i64 x] = ints (xs ++ [x]) := by simp [ints]
  rw [e] at ho
  exact h.app ho (by simp [hn]) hg hl

set_option maxHeartbeats 3200000 in
theorem offsets_full {B m cap : Nat} {p : Option Addr} {AX : List AxE} {w : World} (hP : PA AX) (hm : AX.length = m) (h : RdA B w (.slice p m cap) AX) (hB : B ≤ w.heap.size) :
    Calls Tryz.prog 57 #[.slice p m cap] w (NewRow w (offsA AX)) := by
  have P := Lib.hid hP
  have HM := Lib.hid hm
  have HA := Lib.hid h
  have HB := Lib.hid hB
  have m24 : m ≤ 24 := by have := hP.m12; omega
  obtain ⟨i0, hi, hz0, hz1, hz2⟩ := info_parts infoInt
  have J0 := Lib.hid hi
  have J1 := Lib.hid hz0
  have J2 := Lib.hid hz1
  have J3 := Lib.hid hz2
  have S0 := Lib.hid ((Rs.start w).lit1 0)
  clear hP hm h hB hi hz0 hz1 hz2
  go_enter Tryz.func57, Tryz.ntmps57
  go_wp2
  go_loopw [3, 13] (fun u i wr => ∃ (j g nn cg : Nat), j ≤ m ∧ i = .int .i64 j ∧ u = .slice (some ⟨g, 0, none⟩) nn cg ∧ nn ≤ 65536 ∧ Hid ((offsA (AX.take j)).length = nn) ∧ Hid (Rs w wr [] [(.slice (some ⟨g, 0, none⟩) nn cg, offsA (AX.take j))])) (fun _ i _ => m - (intOf i).toNat)
  case atStart => exact ⟨0, _, 1, 1, by omega, rfl, rfl, by omega, Lib.hid rfl, S0⟩
  case round =>
    clear S0
    obtain ⟨j, g, nn, cg, hj, rfl, rfl, hnn, HL, HR⟩ := hrel
    by_cases hlt : j < m
    · obtain ⟨⟨n, d, s⟩, X1⟩ : ∃ a, Hid (AX[j]? = some a) := ⟨_, List.getElem?_eq_getElem (by have := HM.out; omega)⟩
      obtain ⟨b, off, rfl, -, e1, e2, e3⟩ := (HA.out.below HR.out.bel HB.out).at X1.out
      dsimp only at e1 e2 e3
      have hd := P.out.dD _ (List.mem_of_getElem? X1.out)
      have hs := P.out.sD _ (List.mem_of_getElem? X1.out)
      dsimp only at hd hs
      obtain ⟨dn, rfl⟩ : ∃ dn : Nat, d = (dn : Int) := ⟨d.toNat, by omega⟩
      have hpl := P.out.len (j + 1)
      rw [List.take_add_one, X1.out, Option.toList_some, offsA_snoc, longerA_len, HL.out] at hpl
      have hN : wrap64 ((nn : Int) * (dn : Int)) = ((nn * dn : Nat) : Int) := by
        have h0 : (nn : Int) * (dn : Int) = ((nn * dn : Nat) : Int) := by rw [Int.natCast_mul]
        rw [h0]
        have h1 : nn * dn ≤ 65536 := hpl.1
        generalize nn * dn = M at h1
        unfold wrap64; omega
      obtain ⟨N, hN2⟩ : ∃ N, N = nn * dn := ⟨_, rfl⟩
      have HNP : Hid (N = nn * dn ∧ N ≤ 65536) := Lib.hid ⟨hN2, by rw [hN2]; exact hpl.1⟩
      rw [← hN2] at hN
      have R1 := Lib.hid (HR.out.box (.int .i64 n) (.int .i64 (dn : Int)) (.int .i64 s) 77)
      clear hpl hN2
      go_wp2_with (at_make; go_must (refine wpList_make_own _ rfl _ _ 26 rfl (wr.heap.size + 1) 3 i0 (.int .i64 0) 1 Tryz.underlying26 J0.out J1.out J2.out .i64 .i64 _ N rfl rfl hN (by rw [J3.out]; have := HNP.out.2; omega) (by unfold maxLen; have := HNP.out.2; omega) (by simp) ?_))
      intro w1 hown hgrow
      have hnew := R1.out.empty (n := N) (w' := w1) (by simp only [World.size_alloc] at hown ⊢; exact hown) hgrow
      simp only [World.size_alloc] at hnew
      have R2 := Lib.hid hnew
      obtain ⟨bx, hbx⟩ : ∃ bx, bx = wr.heap.size := ⟨_, rfl⟩
      rw [← hbx] at R2 ⊢
      clear hown hgrow hnew hN R1 HR e1 e2 e3 hbx
      go_wp2
      go_loopw [6, 25] (fun u i ws => ∃ (y gu lu cu : Nat), y ≤ nn ∧ i = .int .i64 y ∧ u = .slice (some ⟨gu, 0, none⟩) lu cu ∧ lu ≤ 65536 ∧ Hid (lu = y * dn) ∧ Hid (Rs w ws [(bx, .int .i64 n, .int .i64 (dn : Int), .int .i64 s)] [(.slice (some ⟨gu, 0, none⟩) lu cu, longerA ((offsA (AX.take j)).take y) (n, (dn : Int), s)), (.slice (some ⟨g, 0, none⟩) nn cg, offsA (AX.take j))])) (fun _ i _ => nn - (intOf i).toNat)
      case atStart => exact ⟨0, _, 0, N, by omega, rfl, rfl, by omega, Lib.hid (by simp), by simpa [longerA] using R2⟩
      case round =>
        clear R2
        obtain ⟨y, gu, lu, cu, hy, rfl, rfl, hlu, HLU, HR⟩ := hrel
        by_cases hlty : y < nn
        · obtain ⟨o, O1⟩ : ∃ o, Hid ((offsA (AX.take j))[y]? = some o) := ⟨_, List.getElem?_eq_getElem (by rw [HL.out]; exact hlty)⟩
          have ho := P.out.range j (by rw [HM.out]; exact hj) o (List.mem_of_getElem? O1.out)
          obtain ⟨g6, e6, -, -, hc6, -⟩ := (HR.out.own1 (v := .slice (some ⟨g, 0, none⟩) nn cg) (xs := offsA (AX.take j)) (by simp)).slot HL.out (by omega)
          cases e6
          have k6 := hc6 y o O1.out
          obtain ⟨⟨t0, t1, t2⟩, -⟩ := HR.out.at (r := bx) (a := .int .i64 n) (b := .int .i64 (dn : Int)) (c := .int .i64 s) (by simp)
          clear hc6
          go_wp2
          go_loopw [6, 31] (fun u i ws => ∃ (z gu lz cu : Nat), z ≤ dn ∧ i = .int .i64 z ∧ u = .slice (some ⟨gu, 0, none⟩) lz cu ∧ lz ≤ 65536 ∧ Hid (lz = y * dn + z) ∧ Hid (Rs w ws [(bx, .int .i64 n, .int .i64 (dn : Int), .int .i64 s)] [(.slice (some ⟨gu, 0, none⟩) lz cu, longerA ((offsA (AX.take j)).take y) (n, (dn : Int), s) ++ (List.range z).map fun v : Nat => o + (v : Int) * s), (.slice (some ⟨g, 0, none⟩) nn cg, offsA (AX.take j))])) (fun _ i _ => dn - (intOf i).toNat)
          case atStart => exact ⟨0, gu, lu, cu, by omega, rfl, rfl, hlu, Lib.hid (by rw [HLU.out]; rfl), by simpa using HR⟩
          case round =>
            clear HR hlu HLU t0 t1 t2 k6
            obtain ⟨z, gu, lz, cu, hz, rfl, rfl, hlz, HLZ, HR⟩ := hrel
            obtain ⟨⟨-, t1, t2⟩, -⟩ := HR.out.at (r := bx) (a := .int .i64 n) (b := .int .i64 (dn : Int)) (c := .int .i64 s) (by simp)
            by_cases hltz : z < dn
            · have hlz1 : lz + 1 ≤ 65536 := by
                have h1 := HNP.out
                have h2 := HLZ.out
                have h3 := Nat.mul_le_mul_right dn (show y + 1 ≤ nn by omega)
                rw [Nat.add_mul, Nat.one_mul] at h3
                omega
              have h7 : 0 ≤ (z : Int) * s := Int.mul_nonneg (by omega) hs.1
              have h8 : (z : Int) * s ≤ 8 * 8192 := Int.mul_le_mul (by omega) hs.2 hs.1 (by omega)
              have hw1 : wrap64 ((z : Int) * s) = (z : Int) * s := by unfold wrap64; omega
              have hw2 : wrap64 (o + (z : Int) * s) = o + (z : Int) * s := by unfold wrap64; omega
              have HLEN : Hid ((longerA ((offsA (AX.take j)).take y) (n, (dn : Int), s) ++ (List.range z).map fun v : Nat => o + (v : Int) * s).length = lz) := Lib.hid (by
                rw [List.length_append, longerA_len, List.length_take, HL.out, List.length_map, List.length_range, HLZ.out, Nat.min_eq_left hy]
                rfl)
              have A1 := Lib.hid (HR.out.alloc (.cells #[.int .i64 (o + (z : Int) * s)] 3))
              have O2 := Lib.hid (A1.out.row (List.mem_cons_self) HLEN.out : World.ownsRow _ w.heap.size 3 1 (.slice (some ⟨gu, 0, none⟩) lz cu) lz _)
              have hws := A1.out.bel.size
              clear h7 h8
              go_wp2_with (at_builtin; go_must (refine wpList_append_lies _ rfl _ _ 26 rfl w.heap.size 3 i0 (.int .i64 0) 1 8 Tryz.underlying26 J0.out J1.out J2.out J3.out rfl (by decide) _ lz _ rfl O2.out ⟨wr.heap.size, 0, none⟩ 1 1 [.int .i64 (o + (z : Int) * s)] rfl rfl (cell_one_new _ _ _) ?c2 (by decide) ?c3 ?c4 ?c5 _ rfl ?_))
              case c2 => first | rfl | (intro u hu; simp at hu; subst hu; rfl)
              case c3 => unfold maxLen; omega
              case c4 => omega
              case c5 => exact hws
              intro g1 cap1 w2 hown hgrow hl1 _
              have happ := A1.out.app1' HLEN.out hown hgrow (by rw [World.size_alloc]; exact hl1)
              have R3 : Hid (Rs w w2 [(bx, .int .i64 n, .int .i64 (dn : Int), .int .i64 s)] [(.slice (some ⟨g1, 0, none⟩) (lz + 1) cap1, longerA ((offsA (AX.take j)).take y) (n, (dn : Int), s) ++ (List.range (z + 1)).map fun v : Nat => o + (v : Int) * s), (.slice (some ⟨g, 0, none⟩) nn cg, offsA (AX.take j))]) := Lib.hid (by
                rw [List.range_succ, List.map_append, ← List.append_assoc]
                exact happ)
              clear hown hgrow hl1 happ O2 A1 HLEN hws
              go_wp2
              go_roundw
              case rel => exact ⟨z + 1, g1, lz + 1, cap1, by omega, by go_num, rfl, hlz1, Lib.hid (by rw [HLZ.out, Nat.add_assoc]), R3⟩
              case measure => simp [intOf]; omega
            · obtain rfl : z = dn := by omega
              have R4 : Hid (Rs w wr [(bx, .int .i64 n, .int .i64 (z : Int), .int .i64 s)] [(.slice (some ⟨gu, 0, none⟩) lz cu, longerA ((offsA (AX.take j)).take (y + 1)) (n, (z : Int), s)), (.slice (some ⟨g, 0, none⟩) nn cg, offsA (AX.take j))]) := Lib.hid (by
                rw [List.take_add_one, O1.out, Option.toList_some, longerA_snoc]
                exact HR.out)
              clear HR
              go_wp2
              go_roundw
              case rel => exact ⟨y + 1, gu, lz, cu, by omega, by go_num, rfl, hlz, Lib.hid (by rw [HLZ.out, Nat.add_mul, Nat.one_mul]), R4⟩
              case measure => simp [intOf]; omega
        · obtain rfl : y = nn := by omega
          have HLL : Hid ((offsA (AX.take (j + 1))).length = lu) := Lib.hid (by
            rw [List.take_add_one, X1.out, Option.toList_some, offsA_snoc, longerA_len, HL.out, HLU.out]
            rfl)
          have R5 : Hid (Rs w wr [] [(.slice (some ⟨gu, 0, none⟩) lu cu, offsA (AX.take (j + 1)))]) := Lib.hid (by
            have h := HR.out
            rw [List.take_of_length_le (by rw [HL.out]; exact Nat.le_refl _)] at h
            rw [List.take_add_one, X1.out, Option.toList_some, offsA_snoc]
            exact (h.sub (List.Sublist.cons_cons _ (List.Sublist.cons _ (List.Sublist.refl _)))).subB (List.Sublist.cons _ (List.Sublist.refl _)))
          clear HR
          go_wp2
          go_roundw
          case rel => exact ⟨j + 1, gu, lu, cu, by omega, by go_num, rfl, hlu, HLL, R5⟩
          case measure => simp [intOf]; omega
    · obtain rfl : j = m := by omega
      have h := HR.out
      rw [List.take_of_length_le (by rw [HM.out]; exact Nat.le_refl _)] at h HL
      go_wp2
      go_ret
      exact ⟨_, rfl, Own.of (n := nn) (h.row (List.mem_cons_self) HL.out) HL.out, h.bel⟩
theorem offsets_impl {B : Nat} {v : Value} {AX : List AxE} {w : World} (hP : PA AX) (h : RdA B w v AX) (hB : B ≤ w.heap.size) :
    Calls Tryz.prog 57 #[v] w (NewRow w (offsA AX)) := by
  obtain ⟨p, cap, rfl⟩ := h.form
  exact offsets_full hP rfl h hB
end Go.Proofs.YtceidekfcnmeaaaGreat
namespace Go.Proofs.YtceidekfcnmeaaaGreat
set_option maxRecDepth 20000
open Go.RowKit Go.Shelf

attribute [local go_sem] Oper.semAt_some

theorem infoAxis : (Tryz.prog.info? 77).map (fun i => (i.zero, i.size, i.bytes)) = some (some (.agg #[.int .i64 0, .int .i64 0, .int .i64 0]), 3, 24) := by kernel_rfl
/-- The cells of axes. -/
def cellsA (AX : List AxE) : List Value := AX.flatMap fun a => [.int .i64 a.1, .int .i64 a.2.1, .int .i64 a.2.2]
theorem cellsA_len (AX : List AxE) : (cellsA AX).length = AX.length * 3 := by
  induction AX with
  | nil => rfl
  | cons a r ih =>
    have e : cellsA (a :: r) = [.int .i64 a.1, .int .i64 a.2.1, .int .i64 a.2.2] ++ cellsA r := rfl
    rw [e, List.length_append, ih]
    simp; omega
theorem cellsA_at : ∀ {AX : List AxE} {i : Nat} {a : AxE}, AX[i]? = some a → (cellsA AX)[i * 3]? = some (.int .i64 a.1) ∧ (cellsA AX)[i * 3 + 1]? = some (.int .i64 a.2.1) ∧ (cellsA AX)[i * 3 + 2]? = some (.int .i64 a.2.2) := by
  intro AX
  induction AX with
  | nil => intro i a h; simp at h
  | cons b r ih =>
    intro i a h
    have e : cellsA (b :: r) = [.int .i64 b.1, .int .i64 b.2.1, .int .i64 b.2.2] ++ cellsA r := rfl
    cases i with
    | zero => simp at h; subst h; simp [e]
    | succ i =>
      have h' : r[i]? = some a := by simpa using h
      obtain ⟨h1, h2, h3⟩ := ih h'
      rw [e]
      refine ⟨?_, ?_, ?_⟩
      · rw [List.getElem?_append_right (by simp; omega)]
        rw [show (i + 1) * 3 - [Value.int IntKind.i64 b.1, Value.int IntKind.i64 b.2.1, Value.int IntKind.i64 b.2.2].length = i * 3 by simp; omega]; exact h1
      · rw [List.getElem?_append_right (by simp; omega)]
        rw [show (i + 1) * 3 + 1 - [Value.int IntKind.i64 b.1, Value.int IntKind.i64 b.2.1, Value.int IntKind.i64 b.2.2].length = i * 3 + 1 by simp; omega]; exact h2
      · rw [List.getElem?_append_right (by simp; omega)]
        rw [show (i + 1) * 3 + 2 - [Value.int IntKind.i64 b.1, Value.int IntKind.i64 b.2.1, Value.int IntKind.i64 b.2.2].length = i * 3 + 2 by simp; omega]; exact h3
/-- A list of cells that has all axes' cells is theirs. -/
theorem cellsA_is {AX : List AxE} {cs : List Value} (hl : cs.length = AX.length * 3) (h : ∀ i a, AX[i]? = some a → cs[i * 3]? = some (.int .i64 a.1) ∧ cs[i * 3 + 1]? = some (.int .i64 a.2.1) ∧ cs[i * 3 + 2]? = some (.int .i64 a.2.2)) : cs = cellsA AX := by
  apply List.ext_getElem?
  intro k
  by_cases hk : k < AX.length * 3
  · have hi : k / 3 < AX.length := by omega
    have h1 := h (k / 3) _ (List.getElem?_eq_getElem hi)
    have h2 := cellsA_at (List.getElem?_eq_getElem hi)
    have h3 : k = k / 3 * 3 ∨ k = k / 3 * 3 + 1 ∨ k = k / 3 * 3 + 2 := by omega
    rcases h3 with e | e | e
    · rw [e, h1.1, h2.1]
    · rw [e, h1.2.1, h2.2.1]
    · rw [e, h1.2.2, h2.2.2]
  · rw [List.getElem?_eq_none (by omega), List.getElem?_eq_none (by rw [cellsA_len]; omega)]
/-- A row of axes of the call's own. -/
def OwnA (w : World) (lo hi : Nat) (v : Value) (AX : List AxE) : Prop :=
  w.ownsRow lo 77 3 v AX.length (cellsA AX) ∧ (∀ g, v.ownBlock = some g → g < hi) ∧ hi ≤ w.heap.size
theorem OwnA.rd {w : World} {lo hi : Nat} {v : Value} {AX : List AxE} (h : OwnA w lo hi v AX) : RdA hi w v AX := by
  rcases h.1.2 with ⟨rfl, h0⟩ | ⟨g, cap, cur, rfl, hlo, hg, h1, h2, h3, h4⟩
  · have hx : AX = [] := by
      cases AX with
      | nil => rfl
      | cons x r => simp at h0
    subst hx
    exact .inl ⟨rfl, _, _, rfl⟩
  · refine .inr ⟨g, 0, cap, rfl, h.2.1 g rfl, fun i a hi => ?_⟩
    have hil := (List.getElem?_eq_some_iff.1 hi).1
    obtain ⟨e1, e2, e3⟩ := cellsA_at hi
    refine ⟨?_, ?_, ?_⟩
    · rw [Nat.zero_add, h.1.cellAt _ (by omega)]; exact e1
    · rw [Nat.zero_add, h.1.cellAt _ (by omega)]; exact e2
    · rw [Nat.zero_add, h.1.cellAt _ (by omega)]; exact e3
/-- What a function that makes a row of axes answers. -/
def NewRowA (w : World) (AX : List AxE) (e : Ending) (w' : World) : Prop := ∃ r, e = .returned r ∧ OwnA w' w.heap.size w'.heap.size r AX ∧ Below w.heap.size w w'

/-- The call's memory: the row of axes, its box, the box of the stride. -/
def AxF (w : World) (V : Nat) (dv : Value) (m : Nat) (c : Int) (cs : List Value) (W : World) : Prop :=
  (W.cell? ⟨V + 1, 0, none⟩ = some (.int .i64 c) ∧ W.frozen? ⟨V + 1, 0, none⟩ = false) ∧ W.cell? ⟨V, 0, none⟩ = some (.slice (some ⟨w.heap.size + 1, 0, none⟩) m m) ∧ W.cell? ⟨w.heap.size, 1, none⟩ = some dv ∧
    W.ownsRow w.heap.size 77 3 (.slice (some ⟨w.heap.size + 1, 0, none⟩) m m) m cs ∧ Below w.heap.size w W
theorem AxF.drew {w W : World} {V m : Nat} {dv : Value} {c : Int} {cs : List Value} (h : AxF w V dv m c cs W) : AxF w V dv m c cs W.drew := ⟨h.1, h.2.1, h.2.2.1, h.2.2.2.1, h.2.2.2.2.drew⟩
theorem AxF.put {w W : World} {V m : Nat} {dv : Value} {c : Int} {cs : List Value} (h : AxF w V dv m c cs W) (hV : w.heap.size + 1 < V) (j : Nat) (u : Value) : AxF w V dv m c (cs.set j u) (W.setCell ⟨w.heap.size + 1, j, none⟩ u) := by
  obtain ⟨⟨h1, h2⟩, h3, h4, h5, h6⟩ := h
  refine ⟨⟨?_, ?_⟩, ?_, ?_, (h5.stored j u).1, h6.setCell (p := ⟨w.heap.size + 1, j, none⟩) (by show w.heap.size ≤ w.heap.size + 1; omega) _⟩
  · exact (World.cell?_of_block (w := W) (Below.heap_setCell W ⟨w.heap.size + 1, j, none⟩ _ (V + 1) (by show V + 1 ≠ w.heap.size + 1; omega))).trans h1
  · rw [World.frozen?_setCell]; exact h2
  · exact (World.cell?_of_block (w := W) (Below.heap_setCell W ⟨w.heap.size + 1, j, none⟩ _ V (by show V ≠ w.heap.size + 1; omega))).trans h3
  · exact (World.cell?_of_block (w := W) (Below.heap_setCell W ⟨w.heap.size + 1, j, none⟩ _ w.heap.size (by show w.heap.size ≠ w.heap.size + 1; omega))).trans h4
theorem AxF.stride {w W : World} {V m : Nat} {dv : Value} {c : Int} {cs : List Value} (h : AxF w V dv m c cs W) (hV : w.heap.size + 1 < V) (c' : Int) : AxF w V dv m c' cs (W.setCell ⟨V + 1, 0, none⟩ (.int .i64 c')) := by
  obtain ⟨⟨h1, h2⟩, h3, h4, h5, h6⟩ := h
  refine ⟨⟨World.cell?_setCell_same' _ _ _ (by rw [h1]; rfl), ?_⟩, ?_, ?_, ?_, h6.setCell (p := ⟨V + 1, 0, none⟩) (by show w.heap.size ≤ V + 1; omega) _⟩
  · rw [World.frozen?_setCell]; exact h2
  · exact (World.cell?_of_block (w := W) (Below.heap_setCell W ⟨V + 1, 0, none⟩ _ V (by show V ≠ V + 1; omega))).trans h3
  · exact (World.cell?_of_block (w := W) (Below.heap_setCell W ⟨V + 1, 0, none⟩ _ w.heap.size (by show w.heap.size ≠ V + 1; omega))).trans h4
  · exact h5.kept (row := some (V + 1)) (grownBy_setCell' W (V + 1) (.int .i64 c')) (.inr (by simp [Value.ownBlock]; omega))
/-- The last axes are written; the stride is the product of their dimensions. -/
def AxP (L D : List Int) (m : Nat) (c : Int) (cs : List Value) (pre : List (AxisOf L)) : Prop :=
  LastOnes m pre → c = prodL (D.drop (m - pre.length)) ∧ ∀ i a, m - pre.length ≤ i → (axesL L D)[i]? = some a → cs[i * 3]? = some (.int .i64 a.1) ∧ cs[i * 3 + 1]? = some (.int .i64 a.2.1) ∧ cs[i * 3 + 2]? = some (.int .i64 a.2.2)
theorem AxP.step {L D : List Int} {m q : Nat} {c n d : Int} {cs : List Value} {pre : List (AxisOf L)} {x : AxisOf L} (h : AxP L D m c cs pre) (hq : x.1.1 = q) (hn : L[q]? = some n) (hd : D[q]? = some d) (hD : ∀ d ∈ D, 1 ≤ d) (hP : prodL D ≤ 4096) (hl : cs.length = m * 3) (hLm : L.length = m) :
    AxP L D m (wrap64 (c * d)) (((cs.set (q * 3) (.int .i64 n)).set (q * 3 + 1) (.int .i64 d)).set (q * 3 + 2) (.int .i64 c)) (pre ++ [x]) := fun hx => by
  obtain ⟨h1, h2⟩ := hx.init
  obtain ⟨h3, h4⟩ := h h1
  have hqm : q < m := by rw [← hLm]; exact (List.getElem?_eq_some_iff.1 hn).1
  have e1 : m - pre.length = q + 1 := by omega
  have e2 : m - (pre ++ [x]).length = q := by simp; omega
  rw [e1] at h3 h4
  rw [e2]
  have e3 : prodL (D.drop q) = c * d := by
    have hqd := (List.getElem?_eq_some_iff.1 hd).1
    rw [List.drop_eq_getElem_cons hqd, prodL_cons, ← h3, Int.mul_comm]
    rw [(List.getElem?_eq_some_iff.1 hd).2]
  have e4 : wrap64 (c * d) = c * d := by
    have k1 := prodL_pos (D := D.drop q) (fun d hd => hD d (List.mem_of_mem_drop hd))
    have k2 : prodL (D.drop q) ≤ prodL D := by
      have k3 := prodL_pos (D := D.take q) (fun d hd => hD d (List.mem_of_mem_take hd))
      have k4 : prodL D = prodL (D.take q) * prodL (D.drop q) := by
        conv => lhs; rw [← List.take_append_drop q D]
        unfold prodL
        rw [List.foldl_append, foldl_mul]
        rfl
      have k5 := Int.mul_le_mul_of_nonneg_right k3 (show 0 ≤ prodL (D.drop q) by omega)
      rw [Int.one_mul] at k5
      omega
    unfold wrap64; omega
  refine ⟨by rw [e4, e3], fun i a hi ha => ?_⟩
  by_cases e : i = q
  · subst e
    rw [axesL_at hn hd] at ha
    injection ha with ha
    subst ha
    have l1 : (((cs.set (i * 3) (Value.int .i64 n)).set (i * 3 + 1) (.int .i64 d)).set (i * 3 + 2) (.int .i64 c)).length = m * 3 := by simp [hl]
    refine ⟨?_, ?_, ?_⟩
    · rw [List.getElem?_set_ne (by omega), List.getElem?_set_ne (by omega), List.getElem?_set_self (by omega)]
    · rw [List.getElem?_set_ne (by omega), List.getElem?_set_self (by simp; omega)]
    · rw [List.getElem?_set_self (by simp; omega), h3]
  · obtain ⟨g1, g2, g3⟩ := h4 i a (by omega) ha
    refine ⟨?_, ?_, ?_⟩
    · rw [List.getElem?_set_ne (by omega), List.getElem?_set_ne (by omega), List.getElem?_set_ne (by omega)]; exact g1
    · rw [List.getElem?_set_ne (by omega), List.getElem?_set_ne (by omega), List.getElem?_set_ne (by omega)]; exact g2
    · rw [List.getElem?_set_ne (by omega), List.getElem?_set_ne (by omega), List.getElem?_set_ne (by omega)]; exact g3
/-- What holds behind some rounds. -/
def AxInv (w : World) (V : Nat) (dv : Value) (L D : List Int) (m : Nat) (pre : List (AxisOf L)) (W : World) : Prop :=
  ∃ (c : Int) (cs : List Value), AxF w V dv m c cs W ∧ AxP L D m c cs pre
theorem AxInv.own (w : World) (V : Nat) (dv : Value) (L D : List Int) (m B : Nat) (hB : w.heap.size ≤ B) : OwnFrom B (AxInv w V dv L D m) := fun pre A A' row hs hg hr => by
  obtain ⟨c, cs, ⟨⟨h1, h2⟩, h3, h4, h5, h6⟩, h7⟩ := hs
  have hr' := fun r e => (hr r e).2
  refine ⟨c, cs, ⟨⟨cell_kept h1 hg hr', (frozen_kept h1 hg hr').trans h2⟩, cell_kept h3 hg hr', cell_kept h4 hg hr', ?_, h6.grown hg h6.size (fun k e => Nat.le_trans hB (hr k e).1)⟩, h7⟩
  refine h5.kept hg ?_
  rcases h5.2 with ⟨h, -⟩ | ⟨g, cap, cur, e, -, hgg, -⟩
  · cases h
  · refine .inr fun e2 => ?_
    obtain ⟨o, ho, hc⟩ := hr' g (by rw [← e2]; cases e; rfl)
    rw [hgg] at ho
    cases ho
    simp [Obj.isCells] at hc

set_option maxRecDepth 100000 in
/-- A row of axes that a make has laid: no longer than it is. -/
def NewRowM (w : World) (AX : List AxE) (e : Ending) (w' : World) : Prop := ∃ g, e = .returned (.slice (some ⟨g, 0, none⟩) AX.length AX.length) ∧ OwnA w' w.heap.size w'.heap.size (.slice (some ⟨g, 0, none⟩) AX.length AX.length) AX ∧ Below w.heap.size w w'
set_option maxHeartbeats 4000000 in
theorem axes_full (F : Fence) (k : Nat) (h3 : F.fn 50) (h5 : F.fn 86) (h7 : F.fn 110) (hro : F.round = none) (hk : 3 ≤ k) (b off cap m B cd : Nat) (a ad : Option Addr) (xv : Value) (L D : List Int) (w : World) (h1 : L.length = m) (h2 : D.length = m) (hm : m ≤ 12) (ha : 0 < m → a = some ⟨b, off, none⟩)
    (hD : ∀ d ∈ D, 1 ≤ d ∧ d ≤ 8) (hP : prodL D ≤ 4096) (hb : b < w.heap.size) (hI : ∀ j, j < m → w.cell? ⟨b, off + j, none⟩ = some (.int .i64 (L[j]?.getD 0))) (hd : Rd B w (.slice ad m cd) (ints D)) (hB : B ≤ w.heap.size) :
    CallsIn F k Tryz.prog 50 #[tenV (.slice a m cap) (.slice ad m cd) xv] w (NewRowM w (axesL L D)) := by
  have hk1 : 1 ≤ k := by omega
  obtain ⟨i0, hi, hz0, hz1, hz2⟩ := info_parts infoAxis
  have L1 := Lib.hid h1
  have L2 := Lib.hid h2
  have HD := Lib.hid hD
  have HP := Lib.hid hP
  have HA := Lib.hid ha
  have HI := Lib.hid hI
  have HDD := Lib.hid hd
  have HB := Lib.hid hB
  clear h1 h2 hD hP ha hI hd hB
  refine callsIn_of_wp_marks Tryz.func50 rfl h3 ?_ hro
  simp only [Tryz.ntmps50, List.size_toArray, List.length_cons, List.length_nil, Nat.reduceAdd, Nat.reduceSub, Array.replicate_succ, Array.replicate_zero, List.push_toArray, List.append_toArray, List.nil_append, List.cons_append]
  gi_wp2_with (first | (gi_at_make; refine make_full_in _ rfl _ _ 75 rfl w.heap.size 77 i0 (.agg #[.int .i64 0, .int .i64 0, .int .i64 0]) 3 Tryz.underlying75 hi hz0 hz1 .i64 .i64 _ _ m rfl rfl rfl rfl (by rw [hz2]; omega) (by unfold maxLen; omega) (by simp) ?_; intro w1 hown hgrow; have T1 := ((((Bx.new (Below.refl _ w) (.slice a m cap) (.slice ad m cd) xv 28).grown hgrow (fun k hk => by cases hk)).step ((Below.refl _ _).alloc (Nat.le_refl _) (.cells #[.slice (some ⟨w.heap.size + 1, 0, none⟩) m m] 75))).step ((Below.refl _ _).alloc (Nat.le_refl _) (.cells #[.int .i64 1] 3))); have t0 := T1.c0; have T2 := Lib.hid T1; clear T1) | (gi_at_call 86; refine (back_in F (k - 1) h5 hro _ _ _ _).mono ?_; rintro e w' ⟨rfl, rfl⟩))
  simp only [World.size_alloc] at hown
  obtain ⟨V, hV0⟩ : ∃ V, V = w1.heap.size := ⟨_, rfl⟩
  have hVl : w.heap.size + 1 < V := by have := hown.lt (w.heap.size + 1) (by simp [Value.ownBlock]); omega
  have hb1 : Below w.heap.size w w1 := ((Below.refl w.heap.size w).alloc (Nat.le_refl _) (.cells #[.slice a m cap, .slice ad m cd, xv] 28)).grown hgrow (by simp) (fun j hj => by cases hj)
  have bS := Boxed.new ((w1.alloc (.cells #[.slice (some ⟨w.heap.size + 1, 0, none⟩) m m] 75)).alloc (.cells #[.int .i64 1] 3)) 26 (.slice a m cap)
  have bC := (Boxed.new (w1.alloc (.cells #[.slice (some ⟨w.heap.size + 1, 0, none⟩) m m] 75)) 3 (.int .i64 1)).alloc (.cells #[.slice a m cap] 26)
  have bV := ((Boxed.new w1 75 (.slice (some ⟨w.heap.size + 1, 0, none⟩) m m)).alloc (.cells #[.int .i64 1] 3)).alloc (.cells #[.slice a m cap] 26)
  have hB0 : Below w.heap.size w (((w1.alloc (.cells #[.slice (some ⟨w.heap.size + 1, 0, none⟩) m m] 75)).alloc (.cells #[.int .i64 1] 3)).alloc (.cells #[.slice a m cap] 26)) := ((hb1.alloc hb1.size _).alloc (by simp; omega) _).alloc (by simp; omega) _
  have hS := bS.cell
  simp only [World.size_alloc] at hS
  rw [← hV0] at hS
  have hF0 : AxF w V (.slice ad m cd) m 1 (madeCells (Value.agg #[.int .i64 0, .int .i64 0, .int .i64 0]).cells (m * 3)).toList (((w1.alloc (.cells #[.slice (some ⟨w.heap.size + 1, 0, none⟩) m m] 75)).alloc (.cells #[.int .i64 1] 3)).alloc (.cells #[.slice a m cap] 26)) := by
    refine ⟨⟨?_, ?_⟩, ?_, ?_, ((hown.alloc _).alloc _).alloc _, hB0⟩
    · have h := bC.cell; simp only [World.size_alloc] at h; rw [hV0]; exact h
    · have h := bC.frozen; simp only [World.size_alloc] at h; rw [hV0]; exact h
    · rw [hV0]; exact bV.cell
    · exact (T2.out.step ((Below.refl _ _).alloc (Nat.le_refl _) _)).c1
  have hsz : (((w1.alloc (.cells #[.slice (some ⟨w.heap.size + 1, 0, none⟩) m m] 75)).alloc (.cells #[.int .i64 1] 3)).alloc (.cells #[.slice a m cap] 26)).heap.size = V + 1 + 1 + 1 := by rw [hV0]; simp
  have clen := hown.1
  have e1 : w1.heap.size + 1 + 1 = V + 1 + 1 := by rw [hV0]
  have e2 : w1.heap.size + 1 = V + 1 := by rw [hV0]
  rw [← hV0]
  generalize hW0 : ((w1.alloc (.cells #[.slice (some ⟨w.heap.size + 1, 0, none⟩) m m] 75)).alloc (.cells #[.int .i64 1] 3)).alloc (.cells #[.slice a m cap] 26) = W0 at hB0 hS hF0 hsz ⊢
  generalize (madeCells (Value.agg #[.int .i64 0, .int .i64 0, .int .i64 0]).cells (m * 3)).toList = cs0 at hF0 clen
  clear hW0 hb1 bS bC bV hown hgrow t0 T2 e1 e2 hV0
  refine wpIn_rangeFunc_ownG hro hk1 (gf := 110) (lb := #[.pointer (some ⟨V + 1 + 1, 0, none⟩)]) rfl h7 (enters_of Tryz.func110 (by kernel_rfl) rfl)
    (back3_stops F (k - 1) h7 hro (by omega) (V + 1 + 1) b off m cap a L L1.out HA.out (by omega) W0 (by omega) (by omega) hS (fun j hj => (hB0.cell (p := ⟨b, off + j, none⟩) hb).trans (HI.out j hj))) (fun h k => h.trans k) (Keeps2.turn (by omega) (by omega)) (Below.refl _ _) (fun _ => rfl)
    (AxInv w V (.slice ad m cd) L D m) (fun _ _ _ => False) (AxInv.own w V (.slice ad m cd) L D m _ (by omega)) (fun _ _ _ _ _ hs _ _ => hs)
    ⟨1, cs0, hF0, fun _ => ⟨by
      show (1 : Int) = prodL (D.drop (m - 0))
      rw [List.drop_of_length_le (by rw [L2.out]; exact Nat.le_refl _)]; rfl, fun i x hi hx => by
      have h1 := (List.getElem?_eq_some_iff.1 hx).1
      rw [axesL_len, L1.out] at h1
      simp only [List.length_nil] at hi
      omega⟩⟩
    (fun x => { tmps := #[tenV (.slice a m cap) (.slice ad m cd) xv, .pointer (some ⟨w.heap.size, 0, none⟩), .slice none 0 0, .pointer (some ⟨V, 0, none⟩), .pointer (some ⟨V + 1, 0, none⟩), .int .i64 (x.1.1 : Int), .int .i64 x.1.2, .pointer (some ⟨w.heap.size, 0, none⟩), .slice a m cap, .int .i64 (m : Int), .slice (some ⟨w.heap.size + 1, 0, none⟩) m m, .pointer (some ⟨w.heap.size, 0, none⟩), .slice a m cap, .func (.func 110) #[] #[.pointer (some ⟨V + 1 + 1, 0, none⟩)], .int .i64 (x.1.1 : Int), .int .i64 x.1.2, undef, undef, undef, undef, undef, undef, undef, undef, undef, undef, undef, undef, undef, undef, undef, undef, undef, undef, undef], defers := [] }) ?assign ?body ?done ?stop
  case assign =>
    intro l x W K hK
    gi_wp2
    exact hK
  case body =>
    rintro l pre x W ⟨c, cs, hF, hP⟩ _
    have hx := x.2
    obtain ⟨nxt, hnxt⟩ : ∃ z, z = pre ++ [x] := ⟨_, rfl⟩
    rw [← hnxt]
    generalize hqe : x.1.1 = q at hx ⊢
    generalize hne : x.1.2 = n at hx ⊢
    have hq : q < m := by have := (List.getElem?_eq_some_iff.1 hx).1; have := L1.out; omega
    obtain ⟨d, hd⟩ : ∃ d, D[q]? = some d := ⟨_, List.getElem?_eq_getElem (by have := L2.out; omega)⟩
    have HQE := Lib.hid hqe
    have HNX := Lib.hid hnxt
    have hbel := hF.2.2.2.2
    obtain ⟨bd, offd, rfl, hbd, kd0⟩ := HDD.out.cellAt hd
    have hbd2 : bd < w.heap.size := Nat.lt_of_lt_of_le hbd HB.out
    have kd := (hbel.cell (p := ⟨bd, offd + q, none⟩) hbd2).trans kd0
    have KD := Lib.hid kd0
    have clen2 : cs.length = m * 3 := hF.2.2.2.1.1
    have t1 := hF.2.2.1
    have v0 := hF.2.1
    have s0 := hF.1.1
    have sf := hF.1.2
    have r0 : W.cell? ⟨w.heap.size + 1, q * 3, none⟩ = some (cs[q * 3]'(by omega)) := by
      rw [hF.2.2.2.1.cellAt _ (by omega)]; exact List.getElem?_eq_getElem _
    have r1 : W.cell? ⟨w.heap.size + 1, q * 3 + 1, none⟩ = some (cs[q * 3 + 1]'(by omega)) := by
      rw [hF.2.2.2.1.cellAt _ (by omega)]; exact List.getElem?_eq_getElem _
    have r2 : W.cell? ⟨w.heap.size + 1, q * 3 + 2, none⟩ = some (cs[q * 3 + 2]'(by omega)) := by
      rw [hF.2.2.2.1.cellAt _ (by omega)]; exact List.getElem?_eq_getElem _
    have f0 := hF.2.2.2.1.frozenAt (q * 3)
    have f1 := hF.2.2.2.1.frozenAt (q * 3 + 1)
    have f2 := hF.2.2.2.1.frozenAt (q * 3 + 2)
    have HF := Lib.hid hF
    have HPP := Lib.hid hP
    have HX := Lib.hid hx
    have HDQ := Lib.hid hd
    have HBD := Lib.hid hbd2
    clear hF hP hx hd hqe hne hnxt hbel hbd hbd2 kd0
    gi_wp2
    refine wpIn_region_reads 11 (by kernel_rfl) (by kernel_rfl) (by kernel_rfl) ?_
    simp only [List.take_succ_cons, List.take_zero, List.drop_succ_cons, List.drop_zero]
    repeat still_step
    refine wpStill_nil ?_
    change wpList _ _ _ _ _ W.drew
    go_wp2
    have HF6 := Lib.hid (((HF.out.put hVl (q * 3) (.int .i64 n)).put hVl (q * 3 + 1) (.int .i64 d)).put hVl (q * 3 + 2) (.int .i64 c))
    have HKO := Lib.hid (((KeepsOthers.setCell W ⟨w.heap.size + 1, q * 3, none⟩ (.int .i64 n)).trans (KeepsOthers.setCell _ ⟨w.heap.size + 1, q * 3 + 1, none⟩ (.int .i64 d))).trans (KeepsOthers.setCell _ ⟨w.heap.size + 1, q * 3 + 2, none⟩ (.int .i64 c)))
    have HK2 := Lib.hid (((Keeps2.set (b := V + 1 + 1) (c := b) (W := W) (p := ⟨w.heap.size + 1, q * 3, none⟩) (by show w.heap.size + 1 ≠ V + 1 + 1; omega) (by show w.heap.size + 1 ≠ b; omega) (.int .i64 n)).trans (Keeps2.set (p := ⟨w.heap.size + 1, q * 3 + 1, none⟩) (by show w.heap.size + 1 ≠ V + 1 + 1; omega) (by show w.heap.size + 1 ≠ b; omega) (.int .i64 d))).trans (Keeps2.set (p := ⟨w.heap.size + 1, q * 3 + 2, none⟩) (by show w.heap.size + 1 ≠ V + 1 + 1; omega) (by show w.heap.size + 1 ≠ b; omega) (.int .i64 c)))
    have HP6 := Lib.hid (HPP.out.step HQE.out HX.out HDQ.out (fun d hd => (HD.out d hd).1) HP.out clen2 L1.out)
    generalize hW6 : (((W.setCell ⟨w.heap.size + 1, q * 3, none⟩ (.int .i64 n)).setCell ⟨w.heap.size + 1, q * 3 + 1, none⟩ (.int .i64 d)).setCell ⟨w.heap.size + 1, q * 3 + 2, none⟩ (.int .i64 c)) = W6 at HF6 HKO HK2 ⊢
    generalize ((cs.set (q * 3) (Value.int .i64 n)).set (q * 3 + 1) (.int .i64 d)).set (q * 3 + 2) (.int .i64 c) = cs6 at HF6 HP6
    clear hW6 t1 v0 s0 sf r0 r1 r2 f0 f1 f2 kd HF HPP clen2
    have t1 : W6.drew.cell? ⟨w.heap.size, 1, none⟩ = some (.slice (some ⟨bd, offd, none⟩) m cd) := HF6.out.2.2.1
    have s0 : W6.drew.cell? ⟨V + 1, 0, none⟩ = some (.int .i64 c) := HF6.out.1.1
    have sf : W6.drew.frozen? ⟨V + 1, 0, none⟩ = false := HF6.out.1.2
    have kd : W6.drew.cell? ⟨bd, offd + q, none⟩ = some (.int .i64 d) := (HF6.out.2.2.2.2.cell (p := ⟨bd, offd + q, none⟩) HBD.out).trans KD.out
    refine wpIn_region_reads 7 (by kernel_rfl) (by kernel_rfl) (by kernel_rfl) ?_
    simp only [List.take_succ_cons, List.take_zero, List.drop_succ_cons, List.drop_zero]
    repeat still_step
    refine wpStill_nil ?_
    change wpList _ _ _ _ _ W6.drew.drew
    go_wp2
    rw [HNX.out]
    exact ⟨(((HKO.out.trans (KeepsOthers.setCell W6 ⟨V + 1, 0, none⟩ (.int .i64 (wrap64 (c * d))))).trans (KeepsOthers.drew _)).trans (KeepsOthers.drew _)).from _,
      HK2.out.trans (Keeps2.set (p := ⟨V + 1, 0, none⟩) (by show V + 1 ≠ V + 1 + 1; omega) (by show V + 1 ≠ b; omega) _),
      wrap64 (c * d), cs6, ((HF6.out.stride hVl (wrap64 (c * d))).drew).drew, HP6.out⟩
  case done =>
    rintro E ys W hE ⟨hys, hyl⟩ ⟨c, cs, ⟨⟨hc, hf⟩, hv, ht, ho, hB⟩, hP⟩ hK
    have hl : (axesL L D).length = m := by rw [axesL_len, L1.out]
    have e : cs = cellsA (axesL L D) := cellsA_is (by rw [hl]; exact ho.1) (fun i x hx => (hP hys).2 i x (by omega) hx)
    subst e
    gi_wp2
    refine ⟨by simp, .inl ⟨_, _, rfl, run_takeDeferred hK, ?_⟩⟩
    have h9 := ho.kept (row := some E) (grownBy_putObj' W E (.deferred none)) (.inr (by simp [Value.ownBlock]; omega))
    refine ⟨_, results_tmp rfl _ _ _, w.heap.size + 1, by rw [hl]; rfl, ⟨by rw [hl]; exact h9, fun g hg => by exact (h9.lt g hg).2, Nat.le_refl _⟩, hB.trans (belowK_b (w := w) (Nat.le_refl _) W E _ _ (by omega) hK rfl rfl)⟩
  case stop =>
    rintro E c pre W _ _ h _
    exact h.elim
theorem axes_made {B : Nat} {lv dv xv : Value} {L D X : List Int} {w : World} (h : RdT B w lv dv xv L D X) (hB : B ≤ w.heap.size) (hw : 0 < w.heap.size) (hl : L.length = D.length) (hm : L.length ≤ 12) (hD : ∀ d ∈ D, 1 ≤ d ∧ d ≤ 8) (hP : prodL D ≤ 4096) :
    Calls Tryz.prog 50 #[tenV lv dv xv] w (NewRowM w (axesL L D)) := by
  refine (callsIn_wide (n := 3)).1 ?_
  have hd := h.d
  obtain ⟨ad, cd, rfl, -⟩ := ints_form h.d
  rw [← hl] at hd ⊢
  rcases h.l.ints_cases with ⟨rfl, a, cap, rfl⟩ | ⟨b, off, cap, rfl, hb, -, hc⟩
  · exact axes_full _ 3 trivial trivial trivial rfl (Nat.le_refl _) 0 0 cap 0 B cd a ad xv [] D w rfl hl.symm (by omega) (fun h => absurd h (by omega)) hD hP hw (fun j hj => absurd hj (by omega)) hd hB
  · exact axes_full _ 3 trivial trivial trivial rfl (Nat.le_refl _) b off cap _ B cd _ ad xv L D w rfl hl.symm hm (fun _ => rfl) hD hP (Nat.lt_of_lt_of_le hb hB) (fun j hj => by rw [hc j hj]; simp [hj]) hd hB
theorem axes_impl {B : Nat} {lv dv xv : Value} {L D X : List Int} {w : World} (h : RdT B w lv dv xv L D X) (hB : B ≤ w.heap.size) (hw : 0 < w.heap.size) (hl : L.length = D.length) (hm : L.length ≤ 12) (hD : ∀ d ∈ D, 1 ≤ d ∧ d ≤ 8) (hP : prodL D ≤ 4096) :
    Calls Tryz.prog 50 #[tenV lv dv xv] w (NewRowA w (axesL L D)) := by
  exact (axes_made h hB hw hl hm hD hP).mono fun e w' ⟨g, he, ho, hb⟩ => ⟨_, he, ho, hb⟩
end Go.Proofs.YtceidekfcnmeaaaGreat
namespace Go.Proofs.YtceidekfcnmeaaaGreat
set_option maxRecDepth 20000
open Go.RowKit

theorem ax_ne {AX BX : List AxE} {j : Nat} {x y : AxE} (hx : AX[j]? = some x) (hy : BX[j]? = some y) (h : x ≠ y) : decide (AX = BX) = false :=
  decide_eq_false fun e => by
    rw [e, hy] at hx
    exact h (Option.some.inj hx).symm
set_option maxHeartbeats 1600000 in
theorem equal_axes_full {B B' m ca cb : Nat} {p q : Option Addr} {AX BX : List AxE} {w : World} (h1 : AX.length = m) (h2 : BX.length = m) (hm : m ≤ 281474976710656) (ha : RdA B w (.slice p m ca) AX) (hb : RdA B' w (.slice q m cb) BX) (hB : B ≤ w.heap.size) (hB' : B' ≤ w.heap.size) :
    Calls Tryz.prog 49 #[.slice p m ca, .slice q m cb] w fun e w' => e = .returned (.bool (decide (AX = BX))) ∧ Below w.heap.size w w' := by
  have L1 := Lib.hid h1
  have L2 := Lib.hid h2
  have RA := Lib.hid ha
  have RB := Lib.hid hb
  have HB := Lib.hid (And.intro hB hB')
  obtain ⟨r, hr⟩ : ∃ r, r = decide (AX = BX) := ⟨_, rfl⟩
  rw [← hr]
  have HR := Lib.hid hr
  clear h1 h2 ha hb hr hB hB'
  go_enter Tryz.func49, Tryz.ntmps49
  go_wp2
  go_loopw [13] (fun i wr => ∃ j : Nat, j ≤ m ∧ i = .int .i64 j ∧ Hid (Below w.heap.size w wr) ∧ Hid (AX.take j = BX.take j)) (fun i _ => m - (intOf i).toNat)
  case atStart => exact ⟨0, by omega, rfl, Lib.hid (Below.refl _ _), Lib.hid (by simp)⟩
  case round =>
    obtain ⟨j, hj, rfl, HBL, HEQ⟩ := hrel
    by_cases hlt : j < m
    · obtain ⟨⟨x1, x2, x3⟩, X1⟩ : ∃ a, Hid (AX[j]? = some a) := ⟨_, List.getElem?_eq_getElem (by rw [L1.out]; exact hlt)⟩
      obtain ⟨⟨y1, y2, y3⟩, Y1⟩ : ∃ a, Hid (BX[j]? = some a) := ⟨_, List.getElem?_eq_getElem (by rw [L2.out]; exact hlt)⟩
      obtain ⟨b, off, rfl, -, a1, a2, a3⟩ := (RA.out.below HBL.out HB.out.1).at X1.out
      obtain ⟨b', off', rfl, -, c1, c2, c3⟩ := (RB.out.below HBL.out HB.out.2).at Y1.out
      dsimp only at a1 a2 a3 c1 c2 c3
      by_cases hxy : (x1, x2, x3) = (y1, y2, y3)
      · obtain ⟨rfl, rfl, rfl⟩ : x1 = y1 ∧ x2 = y2 ∧ x3 = y3 := by simpa using hxy
        have HE2 : Hid (AX.take (j + 1) = BX.take (j + 1)) := Lib.hid (by rw [List.take_add_one, List.take_add_one, HEQ.out, X1.out, Y1.out])
        have HB2 := Lib.hid HBL.out.drew
        clear hxy
        go_wp2_with fail
        go_still_tail 8, (by kernel_rfl)
        change wpList _ _ _ _ _ wr.drew
        go_wp2
        go_roundw
        case rel => exact ⟨j + 1, by omega, by go_num, HB2, HE2⟩
        case measure => simp [intOf]; omega
      · have HF : Hid (r = false) := Lib.hid (by rw [HR.out]; exact ax_ne X1.out Y1.out hxy)
        have HXY := Lib.hid hxy
        have HB2 := Lib.hid HBL.out.drew
        clear hxy
        go_wp2_with fail
        go_still_tail 8, (by kernel_rfl)
        change wpList _ _ _ _ _ wr.drew
        go_wp2
        case roundEnd =>
          rename_i e1 e2 e3
          exact absurd (by rw [e1, e2, e3]) HXY.out
        all_goals
          go_ret
          exact ⟨by rw [HF.out]; rfl, HB2.out⟩
    · obtain rfl : j = m := by omega
      have HT : Hid (r = true) := Lib.hid (by
        have h := HEQ.out
        rw [List.take_of_length_le (by rw [L1.out]; exact Nat.le_refl _), List.take_of_length_le (by rw [L2.out]; exact Nat.le_refl _)] at h
        rw [HR.out, h]; simp)
      go_wp2
      go_ret
      exact ⟨by rw [HT.out]; rfl, HBL.out⟩
theorem equal_axes {B B' : Nat} {u v : Value} {AX BX : List AxE} {w : World} (ha : RdA B w u AX) (hb : RdA B' w v BX) (hB : B ≤ w.heap.size) (hB' : B' ≤ w.heap.size) (h1 : AX.length ≤ 281474976710656) :
    Calls Tryz.prog 49 #[u, v] w fun e w' => e = .returned (.bool (decide (AX = BX))) ∧ Below w.heap.size w w' := by
  obtain ⟨p, ca, rfl⟩ := ha.form
  obtain ⟨q, cb, rfl⟩ := hb.form
  by_cases hl : AX.length = BX.length
  · rw [← hl] at hb ⊢
    exact equal_axes_full rfl hl.symm h1 ha hb hB hB'
  · have hf : decide (AX = BX) = false := decide_eq_false fun e => hl (by rw [e])
    rw [hf]
    obtain ⟨m, hm⟩ : ∃ m, m = AX.length := ⟨_, rfl⟩
    obtain ⟨n, hn⟩ : ∃ m, m = BX.length := ⟨_, rfl⟩
    rw [← hm, ← hn] at hl ⊢
    clear hm hn ha hb
    have q1 : ((m : Int) != (n : Int)) = true := by simp; omega
    go_enter Tryz.func49, Tryz.ntmps49
    go_wp2
    go_ret
    exact ⟨rfl, Below.refl _ _⟩
/-- Two tensors have the same axes just where they have the same labels and dimensions. -/
theorem axes_same {L D L' D' : List Int} (h : L.length = D.length) (h' : L'.length = D'.length) : decide (axesL L D = axesL L' D') = (decide (L = L') && decide (D = D')) := by
  by_cases e : axesL L D = axesL L' D'
  · have hl : L.length = L'.length := by
      have := congrArg List.length e
      rwa [axesL_len, axesL_len] at this
    have key : ∀ i, i < L.length → L[i]? = L'[i]? ∧ D[i]? = D'[i]? := fun i hi => by
      have h1 := axesL_at (List.getElem?_eq_getElem hi) (List.getElem?_eq_getElem (show i < D.length by omega))
      have h2 := axesL_at (List.getElem?_eq_getElem (show i < L'.length by omega)) (List.getElem?_eq_getElem (show i < D'.length by omega))
      rw [e, h2] at h1
      injection h1 with h1
      injection h1 with h3 h4
      injection h4 with h4 h5
      rw [List.getElem?_eq_getElem hi, List.getElem?_eq_getElem (show i < L'.length by omega), List.getElem?_eq_getElem (show i < D.length by omega), List.getElem?_eq_getElem (show i < D'.length by omega), h3, h4]
      exact ⟨rfl, rfl⟩
    have e1 : L = L' := by
      apply List.ext_getElem?
      intro i
      by_cases hi : i < L.length
      · exact (key i hi).1
      · rw [List.getElem?_eq_none (by omega), List.getElem?_eq_none (by omega)]
    have e2 : D = D' := by
      apply List.ext_getElem?
      intro i
      by_cases hi : i < L.length
      · exact (key i hi).2
      · rw [List.getElem?_eq_none (by omega), List.getElem?_eq_none (by omega)]
    simp [e1, e2]
  · rw [decide_eq_false e]
    by_cases e1 : L = L'
    · by_cases e2 : D = D'
      · exact absurd (by rw [e1, e2]) e
      · simp [e2]
    · simp [e1]
end Go.Proofs.YtceidekfcnmeaaaGreat
