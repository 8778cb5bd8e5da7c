
/- impl.offsetsOf: where the elements are, for axes with strides. -/
import Derived.Test.YtdheakjjnaifkaaTensorOk
import Derived.Test.YtdheakjjnaifkaaPermSpec
import Derived.Deep.AppendLies
import Derived.OwnWalk
import Derived.Test.YtdheakjjnaifkaaIndexIn
import Derived.StillTailTactics
import Derived.Deep.LoopGhost
namespace Go.Proofs.Ytdheakjjnaifkaa
set_option maxRecDepth 20000
open Go.RowKit

/-- A slice of axes that is only read. -/
def RdA (B : Nat) (w : World) (v : Value) (AX : List AxE) : Prop :=
  (AX = [] ∧ ∃ a cap, v = .slice a 0 cap) ∨
  ∃ b off cap, v = .slice (some ⟨b, off, none⟩) AX.length cap ∧ b < B ∧ ∀ i (a : AxE), AX[i]? = some a → w.cell? ⟨b, off + i * 3, none⟩ = some (.int .i64 a.1) ∧ w.cell? ⟨b, off + i * 3 + 1, none⟩ = some (.int .i64 a.2.1) ∧ w.cell? ⟨b, off + i * 3 + 2, none⟩ = some (.int .i64 a.2.2)
theorem RdA.below {B B' : Nat} {w w' : World} {v : Value} {AX : List AxE} (h : RdA B w v AX) (hb : Below B' w w') (hB : B ≤ B') : RdA B w' v AX := by
  rcases h with h | ⟨b, off, cap, hv, hlt, hc⟩
  · exact .inl h
  · refine .inr ⟨b, off, cap, hv, hlt, fun i a hi => ?_⟩
    obtain ⟨h1, h2, h3⟩ := hc i a hi
    exact ⟨(hb.cell (p := ⟨b, _, none⟩) (Nat.lt_of_lt_of_le hlt hB)).trans h1, (hb.cell (p := ⟨b, _, none⟩) (Nat.lt_of_lt_of_le hlt hB)).trans h2, (hb.cell (p := ⟨b, _, none⟩) (Nat.lt_of_lt_of_le hlt hB)).trans h3⟩
theorem RdA.mono {B B' : Nat} {w : World} {v : Value} {AX : List AxE} (h : RdA B w v AX) (hB : B ≤ B') : RdA B' w v AX := by
  rcases h with h | ⟨b, off, cap, hv, hlt, hc⟩
  · exact .inl h
  · exact .inr ⟨b, off, cap, hv, Nat.lt_of_lt_of_le hlt hB, hc⟩
theorem RdA.form {B : Nat} {w : World} {v : Value} {AX : List AxE} (h : RdA B w v AX) : ∃ a cap, v = .slice a AX.length cap := by
  rcases h with ⟨rfl, a, cap, rfl⟩ | ⟨b, off, cap, rfl, -⟩
  · exact ⟨a, cap, rfl⟩
  · exact ⟨_, cap, rfl⟩
theorem RdA.at {B m cap : Nat} {w : World} {p : Option Addr} {AX : List AxE} {i : Nat} {a : AxE} (h : RdA B w (.slice p m cap) AX) (hi : AX[i]? = some a) : ∃ b off, p = some ⟨b, off, none⟩ ∧ b < B ∧ w.cell? ⟨b, off + i * 3, none⟩ = some (.int .i64 a.1) ∧ w.cell? ⟨b, off + i * 3 + 1, none⟩ = some (.int .i64 a.2.1) ∧ w.cell? ⟨b, off + i * 3 + 2, none⟩ = some (.int .i64 a.2.2) := by
  rcases h with ⟨rfl, -⟩ | ⟨b, off, ca, e, hlt, hc⟩
  · simp at hi
  · cases e
    exact ⟨b, off, rfl, hlt, hc i a hi⟩

/-- What offsetsOf asks of its axes. -/
structure PA (AX : List AxE) : Prop where
  m12 : AX.length ≤ 200
  dD : ∀ a ∈ AX, 1 ≤ a.2.1 ∧ a.2.1 ≤ 8
  sD : ∀ a ∈ AX, 0 ≤ a.2.2 ∧ a.2.2 ≤ 65536
  pD : prodL (dimsA AX) ≤ 65536
theorem dimsA_ge {AX : List AxE} (h : PA AX) : ∀ d ∈ dimsA AX, 1 ≤ d := fun d hd => by
  obtain ⟨a, ha, rfl⟩ := List.mem_map.1 hd
  exact (h.dD a ha).1
theorem prod_prefix {D : List Int} (hD : ∀ d ∈ D, 1 ≤ d) (j : Nat) : 1 ≤ prodL (D.take j) ∧ prodL (D.take j) ≤ prodL D := by
  have h1 := prodL_pos (D := D.take j) (fun d hd => hD d (List.mem_of_mem_take hd))
  have h2 := prodL_pos (D := D.drop j) (fun d hd => hD d (List.mem_of_mem_drop hd))
  have h3 : prodL D = prodL (D.take j) * prodL (D.drop j) := by
    conv => lhs; rw [← List.take_append_drop j D]
    unfold prodL
    rw [List.foldl_append, foldl_mul]
    rfl
  refine ⟨h1, ?_⟩
  have := Int.mul_le_mul_of_nonneg_left h2 (show 0 ≤ prodL (D.take j) by omega)
  rw [Int.mul_one] at this
  omega
theorem PA.len {AX : List AxE} (h : PA AX) (j : Nat) : (offsA (AX.take j)).length ≤ 65536 ∧ ((offsA (AX.take j)).length : Int) = prodL (dimsA (AX.take j)) := by
  have e : dimsA (AX.take j) = (dimsA AX).take j := by simp [dimsA, List.map_take]
  have h1 := prod_prefix (dimsA_ge h) j
  have h2 := h.pD
  rw [offsA_is _ _ rfl (fun a ha => (h.dD a (List.mem_of_mem_take ha)).1), List.length_map, List.length_range, e]
  omega
theorem PA.range {AX : List AxE} (h : PA AX) : ∀ j, j ≤ AX.length → ∀ o ∈ offsA (AX.take j), 0 ≤ o ∧ o ≤ (j : Int) * 524288 := by
  intro j
  induction j with
  | zero => intro _ o ho; simp [offsA] at ho; omega
  | succ j ih =>
    intro hj o ho
    have ha : AX[j] ∈ AX := List.getElem_mem (by omega)
    rw [List.take_add_one, List.getElem?_eq_getElem (by omega)] at ho
    rw [Option.toList_some, offsA_snoc] at ho
    obtain ⟨o', ho', h2⟩ := List.mem_flatMap.1 ho
    obtain ⟨v, hv, rfl⟩ := List.mem_map.1 h2
    have h3 := ih (by omega) o' ho'
    have h4 := h.dD _ ha
    have h5 := h.sD _ ha
    have h6 : v < (AX[j]).2.1.toNat := List.mem_range.1 hv
    have h7 : 0 ≤ (v : Int) * (AX[j]).2.2 := Int.mul_nonneg (by omega) h5.1
    have h8 : (v : Int) * (AX[j]).2.2 ≤ 8 * 65536 := Int.mul_le_mul (by omega) h5.2 h5.1 (by omega)
    omega
theorem longerA_snoc (xs : List Int) (o : Int) (a : AxE) : longerA (xs ++ [o]) a = longerA xs a ++ (List.range a.2.1.toNat).map fun v : Nat => o + (v : Int) * a.2.2 := by simp [longerA]
theorem longerA_len (xs : List Int) (a : AxE) : (longerA xs a).length = xs.length * a.2.1.toNat := by
  induction xs with
  | nil => simp [longerA]
  | cons x xs ih =>
    have e : longerA (x :: xs) a = ((List.range a.2.1.toNat).map fun v : Nat => x + (v : Int) * a.2.2) ++ longerA xs a := by simp [longerA]
    rw [e, List.length_append, ih, List.length_map, List.length_range, List.length_cons, Nat.add_mul, Nat.one_mul, Nat.add_comm]
/-- An empty row that make has made. -/
theorem Rs.empty {w0 wr w' : World} {bs : List BxE} {rows : List RowE} {n : Nat} (h : Rs w0 wr bs rows) (ho : w'.ownsRow wr.heap.size 3 1 (.slice (some ⟨wr.heap.size, 0, none⟩) 0 n) 0 []) (hg : wr.grownBy w' none) :
    Rs w0 w' bs ((.slice (some ⟨wr.heap.size, 0, none⟩) 0 n, []) :: rows) :=
  h.new ((Below.refl _ _).grown hg (Nat.le_refl _) (fun k hk => by cases hk)) (Own.of (n := 0) (xs := []) ho rfl)
/-- A row of one integer. -/
theorem Rs.lit1 {w0 wr : World} {bs : List BxE} {rows : List RowE} (h : Rs w0 wr bs rows) (x : Int) : Rs w0 (wr.alloc (.cells #[.int .i64 x] 3)) bs ((.slice (some ⟨wr.heap.size, 0, none⟩) 1 1, [x]) :: rows) := by
  refine h.new ((Below.refl _ _).alloc (Nat.le_refl _) _) (Own.of (n := 1) ?_ rfl)
  exact World.ownsRow_lit wr #[.int .i64 x] 1 (Nat.le_refl _) (by unfold maxLen; omega) rfl
theorem Rs.app1' {w0 wr w' : World} {bs : List BxE} {rows : List RowE} {v : Value} {xs : List Int} {x : Int} {g n cap : Nat} (h : Rs w0 wr bs ((v, xs) :: rows)) (hn : xs.length = n) (ho : w'.ownsRow w0.heap.size 3 1 (.slice (some ⟨g, 0, none⟩) (n + 1) cap) (n + 1) (ints xs ++ [.int .i64 x])) (hg : wr.grownBy w' v.ownBlock) (hl : v.ownBlock = some g ∨ g = wr.heap.size) :
    Rs w0 w' bs ((.slice (some ⟨g, 0, none⟩) (n + 1) cap, xs ++ [x]) :: rows) := by
  have e : ints xs ++ [.int .i64 x] = ints (xs ++ [x]) := by simp [ints]
  rw [e] at ho
  exact h.app ho (by simp [hn]) hg hl

set_option maxHeartbeats 3200000 in
theorem offsets_full {B m cap : Nat} {p : Option Addr} {AX : List AxE} {w : World} (hP : PA AX) (hm : AX.length = m) (h : RdA B w (.slice p m cap) AX) (hB : B ≤ w.heap.size) :
    Calls Try.prog 107 #[.slice p m cap] w (NewRow w (offsA AX)) := by
  have P := Lib.hid hP
  have HM := Lib.hid hm
  have HA := Lib.hid h
  have HB := Lib.hid hB
  have m24 : m ≤ 200 := by have := hP.m12; omega
  obtain ⟨i0, hi, hz0, hz1, hz2⟩ := info_parts infoInt
  have J0 := Lib.hid hi
  have J1 := Lib.hid hz0
  have J2 := Lib.hid hz1
  have J3 := Lib.hid hz2
  have S0 := Lib.hid ((Rs.start w).lit1 0)
  clear hP hm h hB hi hz0 hz1 hz2
  go_enter Try.func107, Try.ntmps107
  go_wp2
  go_loopw [3, 13] (fun u i wr => ∃ (j g nn cg : Nat), j ≤ m ∧ i = .int .i64 j ∧ u = .slice (some ⟨g, 0, none⟩) nn cg ∧ nn ≤ 65536 ∧ Hid ((offsA (AX.take j)).length = nn) ∧ Hid (Rs w wr [] [(.slice (some ⟨g, 0, none⟩) nn cg, offsA (AX.take j))])) (fun _ i _ => m - (intOf i).toNat)
  case atStart => exact ⟨0, _, 1, 1, by omega, rfl, rfl, by omega, Lib.hid rfl, S0⟩
  case round =>
    clear S0
    obtain ⟨j, g, nn, cg, hj, rfl, rfl, hnn, HL, HR⟩ := hrel
    by_cases hlt : j < m
    · obtain ⟨⟨n, d, s⟩, X1⟩ : ∃ a, Hid (AX[j]? = some a) := ⟨_, List.getElem?_eq_getElem (by have := HM.out; omega)⟩
      obtain ⟨b, off, rfl, -, e1, e2, e3⟩ := (HA.out.below HR.out.bel HB.out).at X1.out
      dsimp only at e1 e2 e3
      have hd := P.out.dD _ (List.mem_of_getElem? X1.out)
      have hs := P.out.sD _ (List.mem_of_getElem? X1.out)
      dsimp only at hd hs
      obtain ⟨dn, rfl⟩ : ∃ dn : Nat, d = (dn : Int) := ⟨d.toNat, by omega⟩
      have hpl := P.out.len (j + 1)
      rw [List.take_add_one, X1.out, Option.toList_some, offsA_snoc, longerA_len, HL.out] at hpl
      have hN : wrap64 ((nn : Int) * (dn : Int)) = ((nn * dn : Nat) : Int) := by
        have h0 : (nn : Int) * (dn : Int) = ((nn * dn : Nat) : Int) := by rw [Int.natCast_mul]
        rw [h0]
        have h1 : nn * dn ≤ 65536 := hpl.1
        generalize nn * dn = M at h1
        unfold wrap64; omega
      obtain ⟨N, hN2⟩ : ∃ N, N = nn * dn := ⟨_, rfl⟩
      have HNP : Hid (N = nn * dn ∧ N ≤ 65536) := Lib.hid ⟨hN2, by rw [hN2]; exact hpl.1⟩
      rw [← hN2] at hN
      have R1 := Lib.hid (HR.out.box (.int .i64 n) (.int .i64 (dn : Int)) (.int .i64 s) 111)
      clear hpl hN2
      go_wp2_with (at_make; go_must (refine wpList_make_own _ rfl _ _ 25 rfl (wr.heap.size + 1) 3 i0 (.int .i64 0) 1 Try.underlying25 J0.out J1.out J2.out .i64 .i64 _ N rfl rfl hN (by rw [J3.out]; have := HNP.out.2; omega) (by unfold maxLen; have := HNP.out.2; omega) (by simp) ?_))
      intro w1 hown hgrow
      have hnew := R1.out.empty (n := N) (w' := w1) (by simp only [World.size_alloc] at hown ⊢; exact hown) hgrow
      simp only [World.size_alloc] at hnew
      have R2 := Lib.hid hnew
      obtain ⟨bx, hbx⟩ : ∃ bx, bx = wr.heap.size := ⟨_, rfl⟩
      rw [← hbx] at R2 ⊢
      clear hown hgrow hnew hN R1 HR e1 e2 e3 hbx
      go_wp2
      go_loopw [6, 25] (fun u i ws => ∃ (y gu lu cu : Nat), y ≤ nn ∧ i = .int .i64 y ∧ u = .slice (some ⟨gu, 0, none⟩) lu cu ∧ lu ≤ 65536 ∧ Hid (lu = y * dn) ∧ Hid (Rs w ws [(bx, .int .i64 n, .int .i64 (dn : Int), .int .i64 s)] [(.slice (some ⟨gu, 0, none⟩) lu cu, longerA ((offsA (AX.take j)).take y) (n, (dn : Int), s)), (.slice (some ⟨g, 0, none⟩) nn cg, offsA (AX.take j))])) (fun _ i _ => nn - (intOf i).toNat)
      case atStart => exact ⟨0, _, 0, N, by omega, rfl, rfl, by omega, Lib.hid (by simp), by simpa [longerA] using R2⟩
      case round =>
        clear R2
        obtain ⟨y, gu, lu, cu, hy, rfl, rfl, hlu, HLU, HR⟩ := hrel
        by_cases hlty : y < nn
        · obtain ⟨o, O1⟩ : ∃ o, Hid ((offsA (AX.take j))[y]? = some o) := ⟨_, List.getElem?_eq_getElem (by rw [HL.out]; exact hlty)⟩
          have ho := P.out.range j (by rw [HM.out]; exact hj) o (List.mem_of_getElem? O1.out)
          obtain ⟨g6, e6, -, -, hc6, -⟩ := (HR.out.own1 (v := .slice (some ⟨g, 0, none⟩) nn cg) (xs := offsA (AX.take j)) (by simp)).slot HL.out (by omega)
          cases e6
          have k6 := hc6 y o O1.out
          obtain ⟨⟨t0, t1, t2⟩, -⟩ := HR.out.at (r := bx) (a := .int .i64 n) (b := .int .i64 (dn : Int)) (c := .int .i64 s) (by simp)
          clear hc6
          go_wp2
          go_loopw [6, 31] (fun u i ws => ∃ (z gu lz cu : Nat), z ≤ dn ∧ i = .int .i64 z ∧ u = .slice (some ⟨gu, 0, none⟩) lz cu ∧ lz ≤ 65536 ∧ Hid (lz = y * dn + z) ∧ Hid (Rs w ws [(bx, .int .i64 n, .int .i64 (dn : Int), .int .i64 s)] [(.slice (some ⟨gu, 0, none⟩) lz cu, longerA ((offsA (AX.take j)).take y) (n, (dn : Int), s) ++ (List.range z).map fun v : Nat => o + (v : Int) * s), (.slice (some ⟨g, 0, none⟩) nn cg, offsA (AX.take j))])) (fun _ i _ => dn - (intOf i).toNat)
          case atStart => exact ⟨0, gu, lu, cu, by omega, rfl, rfl, hlu, Lib.hid (by rw [HLU.out]; rfl), by simpa using HR⟩
          case round =>
            clear HR hlu HLU t0 t1 t2 k6
            obtain ⟨z, gu, lz, cu, hz, rfl, rfl, hlz, HLZ, HR⟩ := hrel
            obtain ⟨⟨-, t1, t2⟩, -⟩ := HR.out.at (r := bx) (a := .int .i64 n) (b := .int .i64 (dn : Int)) (c := .int .i64 s) (by simp)
            by_cases hltz : z < dn
            · have hlz1 : lz + 1 ≤ 65536 := by
                have h1 := HNP.out
                have h2 := HLZ.out
                have h3 := Nat.mul_le_mul_right dn (show y + 1 ≤ nn by omega)
                rw [Nat.add_mul, Nat.one_mul] at h3
                omega
              have h7 : 0 ≤ (z : Int) * s := Int.mul_nonneg (by omega) hs.1
              have h8 : (z : Int) * s ≤ 8 * 65536 := Int.mul_le_mul (by omega) hs.2 hs.1 (by omega)
              have hw1 : wrap64 ((z : Int) * s) = (z : Int) * s := by unfold wrap64; omega
              have hw2 : wrap64 (o + (z : Int) * s) = o + (z : Int) * s := by unfold wrap64; omega
              have HLEN : Hid ((longerA ((offsA (AX.take j)).take y) (n, (dn : Int), s) ++ (List.range z).map fun v : Nat => o + (v : Int) * s).length = lz) := Lib.hid (by
                rw [List.length_append, longerA_len, List.length_take, HL.out, List.length_map, List.length_range, HLZ.out, Nat.min_eq_left hy]
                rfl)
              have A1 := Lib.hid (HR.out.alloc (.cells #[.int .i64 (o + (z : Int) * s)] 3))
              have O2 := Lib.hid (A1.out.row (List.mem_cons_self) HLEN.out : World.ownsRow _ w.heap.size 3 1 (.slice (some ⟨gu, 0, none⟩) lz cu) lz _)
              have hws := A1.out.bel.size
              clear h7 h8
              go_wp2_with (at_builtin; go_must (refine wpList_append_lies _ rfl _ _ 25 rfl w.heap.size 3 i0 (.int .i64 0) 1 8 Try.underlying25 J0.out J1.out J2.out J3.out rfl (by decide) _ lz _ rfl O2.out ⟨wr.heap.size, 0, none⟩ 1 1 [.int .i64 (o + (z : Int) * s)] rfl rfl (cell_one_new _ _ _) ?c2 (by decide) ?c3 ?c4 ?c5 _ rfl ?_))
              case c2 => first | rfl | (intro u hu; simp at hu; subst hu; rfl)
              case c3 => unfold maxLen; omega
              case c4 => omega
              case c5 => exact hws
              intro g1 cap1 w2 hown hgrow hl1 _
              have happ := A1.out.app1' HLEN.out hown hgrow (by rw [World.size_alloc]; exact hl1)
              have R3 : Hid (Rs w w2 [(bx, .int .i64 n, .int .i64 (dn : Int), .int .i64 s)] [(.slice (some ⟨g1, 0, none⟩) (lz + 1) cap1, longerA ((offsA (AX.take j)).take y) (n, (dn : Int), s) ++ (List.range (z + 1)).map fun v : Nat => o + (v : Int) * s), (.slice (some ⟨g, 0, none⟩) nn cg, offsA (AX.take j))]) := Lib.hid (by
                rw [List.range_succ, List.map_append, ← List.append_assoc]
                exact happ)
              clear hown hgrow hl1 happ O2 A1 HLEN hws
              go_wp2
              go_roundw
              case rel => exact ⟨z + 1, g1, lz + 1, cap1, by omega, by go_num, rfl, hlz1, Lib.hid (by rw [HLZ.out, Nat.add_assoc]), R3⟩
              case measure => simp [intOf]; omega
            · obtain rfl : z = dn := by omega
              have R4 : Hid (Rs w wr [(bx, .int .i64 n, .int .i64 (z : Int), .int .i64 s)] [(.slice (some ⟨gu, 0, none⟩) lz cu, longerA ((offsA (AX.take j)).take (y + 1)) (n, (z : Int), s)), (.slice (some ⟨g, 0, none⟩) nn cg, offsA (AX.take j))]) := Lib.hid (by
                rw [List.take_add_one, O1.out, Option.toList_some, longerA_snoc]
                exact HR.out)
              clear HR
              go_wp2
              go_roundw
              case rel => exact ⟨y + 1, gu, lz, cu, by omega, by go_num, rfl, hlz, Lib.hid (by rw [HLZ.out, Nat.add_mul, Nat.one_mul]), R4⟩
              case measure => simp [intOf]; omega
        · obtain rfl : y = nn := by omega
          have HLL : Hid ((offsA (AX.take (j + 1))).length = lu) := Lib.hid (by
            rw [List.take_add_one, X1.out, Option.toList_some, offsA_snoc, longerA_len, HL.out, HLU.out]
            rfl)
          have R5 : Hid (Rs w wr [] [(.slice (some ⟨gu, 0, none⟩) lu cu, offsA (AX.take (j + 1)))]) := Lib.hid (by
            have h := HR.out
            rw [List.take_of_length_le (by rw [HL.out]; exact Nat.le_refl _)] at h
            rw [List.take_add_one, X1.out, Option.toList_some, offsA_snoc]
            exact (h.sub (List.Sublist.cons_cons _ (List.Sublist.cons _ (List.Sublist.refl _)))).subB (List.Sublist.cons _ (List.Sublist.refl _)))
          clear HR
          go_wp2
          go_roundw
          case rel => exact ⟨j + 1, gu, lu, cu, by omega, by go_num, rfl, hlu, HLL, R5⟩
          case measure => simp [intOf]; omega
    · obtain rfl : j = m := by omega
      have h := HR.out
      rw [List.take_of_length_le (by rw [HM.out]; exact Nat.le_refl _)] at h HL
      go_wp2
      go_ret
      exact ⟨_, rfl, Own.of (n := nn) (h.row (List.mem_cons_self) HL.out) HL.out, h.bel⟩
theorem offsets_impl {B : Nat} {v : Value} {AX : List AxE} {w : World} (hP : PA AX) (h : RdA B w v AX) (hB : B ≤ w.heap.size) :
    Calls Try.prog 107 #[v] w (NewRow w (offsA AX)) := by
  obtain ⟨p, cap, rfl⟩ := h.form
  exact offsets_full hP rfl h hB
end Go.Proofs.Ytdheakjjnaifkaa
namespace Go.Proofs.Ytdheakjjnaifkaa
set_option maxRecDepth 20000
open Go.RowKit Go.Shelf

attribute [local go_sem] Oper.semAt_some

theorem infoAxis : (Try.prog.info? 111).map (fun i => (i.zero, i.size, i.bytes)) = some (some (.agg #[.int .i64 0, .int .i64 0, .int .i64 0]), 3, 24) := by kernel_rfl
/-- The cells of axes. -/
def cellsA (AX : List AxE) : List Value := AX.flatMap fun a => [.int .i64 a.1, .int .i64 a.2.1, .int .i64 a.2.2]
theorem cellsA_len (AX : List AxE) : (cellsA AX).length = AX.length * 3 := by
  induction AX with
  | nil => rfl
  | cons a r ih =>
    have e : cellsA (a :: r) = [.int .i64 a.1, .int .i64 a.2.1, .int .i64 a.2.2] ++ cellsA r := rfl
    rw [e, List.length_append, ih]
    simp; omega
theorem cellsA_at : ∀ {AX : List AxE} {i : Nat} {a : AxE}, AX[i]? = some a → (cellsA AX)[i * 3]? = some (.int .i64 a.1) ∧ (cellsA AX)[i * 3 + 1]? = some (.int .i64 a.2.1) ∧ (cellsA AX)[i * 3 + 2]? = some (.int .i64 a.2.2) := by
  intro AX
  induction AX with
  | nil => intro i a h; simp at h
  | cons b r ih =>
    intro i a h
    have e : cellsA (b :: r) = [.int .i64 b.1, .int .i64 b.2.1, .int .i64 b.2.2] ++ cellsA r := rfl
    cases i with
    | zero => simp at h; subst h; simp [e]
    | succ i =>
      have h' : r[i]? = some a := by simpa using h
      obtain ⟨h1, h2, h3⟩ := ih h'
      rw [e]
      refine ⟨?_, ?_, ?_⟩
      · rw [List.getElem?_append_right (by simp; omega)]
        rw [show (i + 1) * 3 - [Value.int IntKind.i64 b.1, Value.int IntKind.i64 b.2.1, Value.int IntKind.i64 b.2.2].length = i * 3 by simp; omega]; exact h1
      · rw [List.getElem?_append_right (by simp; omega)]
        rw [show (i + 1) * 3 + 1 - [Value.int IntKind.i64 b.1, Value.int IntKind.i64 b.2.1, Value.int IntKind.i64 b.2.2].length = i * 3 + 1 by simp; omega]; exact h2
      · rw [List.getElem?_append_right (by simp; omega)]
        rw [show (i + 1) * 3 + 2 - [Value.int IntKind.i64 b.1, Value.int IntKind.i64 b.2.1, Value.int IntKind.i64 b.2.2].length = i * 3 + 2 by simp; omega]; exact h3
/-- A list of cells that has all axes' cells is theirs. -/
theorem cellsA_is {AX : List AxE} {cs : List Value} (hl : cs.length = AX.length * 3) (h : ∀ i a, AX[i]? = some a → cs[i * 3]? = some (.int .i64 a.1) ∧ cs[i * 3 + 1]? = some (.int .i64 a.2.1) ∧ cs[i * 3 + 2]? = some (.int .i64 a.2.2)) : cs = cellsA AX := by
  apply List.ext_getElem?
  intro k
  by_cases hk : k < AX.length * 3
  · have hi : k / 3 < AX.length := by omega
    have h1 := h (k / 3) _ (List.getElem?_eq_getElem hi)
    have h2 := cellsA_at (List.getElem?_eq_getElem hi)
    have h3 : k = k / 3 * 3 ∨ k = k / 3 * 3 + 1 ∨ k = k / 3 * 3 + 2 := by omega
    rcases h3 with e | e | e
    · rw [e, h1.1, h2.1]
    · rw [e, h1.2.1, h2.2.1]
    · rw [e, h1.2.2, h2.2.2]
  · rw [List.getElem?_eq_none (by omega), List.getElem?_eq_none (by rw [cellsA_len]; omega)]
/-- A row of axes of the call's own. -/
def OwnA (w : World) (lo hi : Nat) (v : Value) (AX : List AxE) : Prop :=
  w.ownsRow lo 111 3 v AX.length (cellsA AX) ∧ (∀ g, v.ownBlock = some g → g < hi) ∧ hi ≤ w.heap.size
theorem OwnA.rd {w : World} {lo hi : Nat} {v : Value} {AX : List AxE} (h : OwnA w lo hi v AX) : RdA hi w v AX := by
  rcases h.1.2 with ⟨rfl, h0⟩ | ⟨g, cap, cur, rfl, hlo, hg, h1, h2, h3, h4⟩
  · have hx : AX = [] := by
      cases AX with
      | nil => rfl
      | cons x r => simp at h0
    subst hx
    exact .inl ⟨rfl, _, _, rfl⟩
  · refine .inr ⟨g, 0, cap, rfl, h.2.1 g rfl, fun i a hi => ?_⟩
    have hil := (List.getElem?_eq_some_iff.1 hi).1
    obtain ⟨e1, e2, e3⟩ := cellsA_at hi
    refine ⟨?_, ?_, ?_⟩
    · rw [Nat.zero_add, h.1.cellAt _ (by omega)]; exact e1
    · rw [Nat.zero_add, h.1.cellAt _ (by omega)]; exact e2
    · rw [Nat.zero_add, h.1.cellAt _ (by omega)]; exact e3
/-- What a function that makes a row of axes answers. -/
def NewRowA (w : World) (AX : List AxE) (e : Ending) (w' : World) : Prop := ∃ r, e = .returned r ∧ OwnA w' w.heap.size w'.heap.size r AX ∧ Below w.heap.size w w'

theorem gb_set {w W : World} {r : Option Nat} (h : w.grownBy W r) (p : Addr) (hp : some p.block = r ∨ w.heap.size ≤ p.block) (u : Value) : w.grownBy (W.setCell p u) r :=
  ⟨h.os, h.tape, h.output, by simpa using h.size, fun k hk hr => (Below.heap_setCell W p u k (fun e => by subst e; exact hp.elim (fun hp => hr hp) (fun hp => by omega))).trans (h.block k hk hr)⟩
theorem gb_grown {w W W2 : World} {r r2 : Option Nat} (h : w.grownBy W r) (h2 : W.grownBy W2 r2) (hr : ∀ k, r2 = some k → w.heap.size ≤ k ∨ r = some k) : w.grownBy W2 r :=
  ⟨h2.os.trans h.os, h2.tape.trans h.tape, h2.output.trans h.output, Nat.le_trans h.size h2.size, fun k hk hk2 => (h2.block k (Nat.lt_of_lt_of_le hk h.size) (fun e => (hr k e.symm).elim (fun h3 => by omega) (fun h3 => hk2 h3.symm))).trans (h.block k hk hk2)⟩
theorem gb_below {w W W2 : World} {r : Option Nat} {B : Nat} (h : w.grownBy W r) (h2 : Below B W W2) (hB : W.heap.size ≤ B) : w.grownBy W2 r :=
  gb_grown h (r2 := none) ⟨h2.os, h2.tape, h2.output, h2.size, fun k hk _ => h2.block k (Nat.lt_of_lt_of_le hk hB)⟩ (fun k e => by cases e)
/-- An axis that Backward yields: its place, label and dimension; the stride is whatever lies there. -/
abbrev AxAt (L D : List Int) := { x : Nat × Int × Int × Int // L[x.1]? = some x.2.1 ∧ D[x.1]? = some x.2.2.1 }
/-- These are the last axes, the last one first. -/
def LastAx {L D : List Int} (m : Nat) (pre : List (AxAt L D)) : Prop := ∀ (i : Nat) (x : AxAt L D), pre[i]? = some x → x.1.1 + i + 1 = m
theorem LastAx.nil {L D : List Int} (m : Nat) : LastAx (L := L) (D := D) m [] := fun i x h => by simp at h
theorem LastAx.snoc {L D : List Int} {m : Nat} {pre : List (AxAt L D)} {x : AxAt L D} (h : LastAx m pre) (hx : x.1.1 + pre.length + 1 = m) : LastAx m (pre ++ [x]) := fun i y hy => by
  by_cases hi : i < pre.length
  · rw [List.getElem?_append_left hi] at hy
    exact h i y hy
  · by_cases e : i = pre.length
    · subst e
      simp at hy
      subst hy
      exact hx
    · rw [List.getElem?_eq_none (by simp; omega)] at hy
      cases hy
theorem LastAx.init {L D : List Int} {m : Nat} {pre : List (AxAt L D)} {x : AxAt L D} (h : LastAx m (pre ++ [x])) : LastAx m pre ∧ x.1.1 + pre.length + 1 = m :=
  ⟨fun i y hy => h i y (by rw [List.getElem?_append_left (List.getElem?_eq_some_iff.1 hy).1]; exact hy), h pre.length x (by simp)⟩
/-- The slice's box, the labels and the dimensions of the row are as they were; the strides are integers still. -/
def KeepsA (Bs g m : Nat) (W W' : World) : Prop :=
  (∀ o, W'.cell? ⟨Bs, o, none⟩ = W.cell? ⟨Bs, o, none⟩) ∧ ∀ i, i < m → W'.cell? ⟨g, i * 3, none⟩ = W.cell? ⟨g, i * 3, none⟩ ∧ W'.cell? ⟨g, i * 3 + 1, none⟩ = W.cell? ⟨g, i * 3 + 1, none⟩ ∧ ∀ s : Int, W.cell? ⟨g, i * 3 + 2, none⟩ = some (.int .i64 s) → ∃ s' : Int, W'.cell? ⟨g, i * 3 + 2, none⟩ = some (.int .i64 s')
theorem KeepsA.refl (Bs g m : Nat) (W : World) : KeepsA Bs g m W W := ⟨fun _ => rfl, fun _ _ => ⟨rfl, rfl, fun s h => ⟨s, h⟩⟩⟩
theorem KeepsA.trans {Bs g m : Nat} {A B C : World} (h : KeepsA Bs g m A B) (k : KeepsA Bs g m B C) : KeepsA Bs g m A C :=
  ⟨fun o => (k.1 o).trans (h.1 o), fun i hi => ⟨(k.2 i hi).1.trans (h.2 i hi).1, (k.2 i hi).2.1.trans (h.2 i hi).2.1, fun s hs => by
    obtain ⟨s1, h1⟩ := (h.2 i hi).2.2 s hs
    exact (k.2 i hi).2.2 s1 h1⟩⟩
theorem KeepsA.blocks {Bs g m : Nat} {W W' : World} (h1 : W'.heap[Bs]? = W.heap[Bs]?) (h2 : W'.heap[g]? = W.heap[g]?) : KeepsA Bs g m W W' :=
  ⟨fun _ => World.cell?_of_block (w := W) h1, fun _ _ => ⟨World.cell?_of_block (w := W) h2, World.cell?_of_block (w := W) h2, fun s hs => ⟨s, (World.cell?_of_block (w := W) h2).trans hs⟩⟩⟩
theorem KeepsA.turn {Bs g m : Nat} {w : World} (hb : Bs < w.heap.size) (hg : g < w.heap.size) (W : World) (l : Nat) (o o' : Obj) (hl : w.heap.size ≤ l) (h0 : W.heap[l]? = some o) (_ : o.isCells = false) (_ : o.isWalk = false) : KeepsA Bs g m W (W.putObj l o') := by
  have h := grownBy_putObj' W l o'
  have h1 := (Array.getElem?_eq_some_iff.1 h0).1
  exact .blocks (h.block Bs (by omega) (fun e => by cases e; omega)) (h.block g (by omega) (fun e => by cases e; omega))
theorem KeepsA.else {Bs g m : Nat} {W : World} {p : Addr} (hb : p.block ≠ Bs) (hc : p.block ≠ g) (u : Value) : KeepsA Bs g m W (W.setCell p u) :=
  .blocks (Below.heap_setCell W p u Bs (fun e => hb e.symm)) (Below.heap_setCell W p u g (fun e => hc e.symm))
theorem KeepsA.alloc {Bs g m : Nat} {W : World} (hb : Bs < W.heap.size) (hg : g < W.heap.size) (o : Obj) : KeepsA Bs g m W (W.alloc o) :=
  .blocks ((Below.refl _ W).alloc (Nat.le_refl _) o |>.block Bs hb) ((Below.refl _ W).alloc (Nat.le_refl _) o |>.block g hg)
theorem KeepsA.drew {Bs g m : Nat} {W W' : World} (h : KeepsA Bs g m W W') : KeepsA Bs g m W W'.drew := h
theorem KeepsA.stride {Bs g m : Nat} {W : World} (hb : g ≠ Bs) (q : Nat) (s : Int) : KeepsA Bs g m W (W.setCell ⟨g, q * 3 + 2, none⟩ (.int .i64 s)) := by
  refine ⟨fun _ => World.cell?_of_block (w := W) (Below.heap_setCell W _ _ Bs (fun e => hb e.symm)), fun i _ => ⟨?_, ?_, fun s0 h0 => ?_⟩⟩
  · exact World.cell?_setCell_other _ _ _ _ (fun e => by injection e with _ e; omega)
  · exact World.cell?_setCell_other _ _ _ _ (fun e => by injection e with _ e; omega)
  · by_cases hi : i = q
    · subst hi
      exact ⟨s, World.cell?_setCell_same' _ _ _ (by rw [h0]; rfl)⟩
    · exact ⟨s0, (World.cell?_setCell_other _ _ _ _ (fun e => by injection e with _ e; omega)).trans h0⟩

set_option maxRecDepth 100000 in
set_option maxHeartbeats 2000000 in
/-- slices.Backward's closure over axes whose strides the loop's body may change. -/
theorem back5_in (F : Fence) (n : Nat) (hf : F.fn 129) (hro : F.round = none) (hn : 1 ≤ n) (l Bs g m cap : Nat) (a : Option Addr) (L D : List Int) (hL : L.length = m) (hD : D.length = m) (ha : 0 < m → a = some ⟨g, 0, none⟩) (hreach : m ≤ 1000000) (J Jx : List (AxAt L D) → World → Prop)
    (hY : ∀ pre (x : AxAt L D) W, J pre W → pre.length < m → YieldAt F (n - 1) Try.prog l #[.int .i64 (x.1.1 : Int), .agg #[.int .i64 x.1.2.1, .int .i64 x.1.2.2.1, .int .i64 x.1.2.2.2]] W fun e W' =>
      (e = .returned (.bool true) ∧ J (pre ++ [x]) W' ∧ KeepsA Bs g m W W') ∨ (e = .returned (.bool false) ∧ Jx (pre ++ [x]) W'))
    (W : World) (hBs : W.cell? ⟨Bs, 0, none⟩ = some (.slice a m cap)) (hc : ∀ j n d, L[j]? = some n → D[j]? = some d → W.cell? ⟨g, j * 3, none⟩ = some (.int .i64 n) ∧ W.cell? ⟨g, j * 3 + 1, none⟩ = some (.int .i64 d) ∧ ∃ s : Int, W.cell? ⟨g, j * 3 + 2, none⟩ = some (.int .i64 s)) (h0 : J [] W) :
    CallsIn F n Try.prog 129 #[.func (.yield l) #[] #[], .pointer (some ⟨Bs, 0, none⟩)] W fun e W' => (∃ v, e = .returned v) ∧
      ((∃ ys : List (AxAt L D), (LastAx m ys ∧ ys.length = m) ∧ J ys W') ∨ (∃ pre : List (AxAt L D), True ∧ Jx pre W')) := by
  refine callsIn_of_wp Try.func129 rfl hf ?_ hro
  simp only [Try.ntmps129, List.size_toArray, List.length_cons, List.length_nil, Nat.reduceAdd, Nat.reduceSub, Array.replicate_succ, Array.replicate_zero, List.push_toArray, List.append_toArray, List.nil_append, List.cons_append]
  have hw : IntKind.i64.wrap ((m : Int) - 1) = (m : Int) - 1 := IntWalk.i64_in _ (by omega)
  have HA := Lib.hid ha
  have HC := Lib.hid hc
  have HLD := Lib.hid (And.intro hL hD)
  clear ha hc hL hD
  gi_wp2
  gi_loopw [3] (fun i wr => ∃ (q : Nat) (pre : List (AxAt L D)), q ≤ m ∧ i = .int .i64 ((q : Int) - 1) ∧ Hid (LastAx m pre ∧ pre.length = m - q) ∧ J pre wr ∧ Hid (KeepsA Bs g m W wr))
    (fun i _ => (intOf i + 1).toNat)
  case atStart => exact ⟨m, [], Nat.le_refl _, rfl, ⟨LastAx.nil _, by simp⟩, h0, Lib.hid (KeepsA.refl _ _ _ _)⟩
  case round =>
    obtain ⟨q, pre, hq, rfl, HPRE, hJs, HNX⟩ := hrel
    cases q with
    | zero =>
      gi_wp2
      go_end0
      exact ⟨⟨_, rfl⟩, .inl ⟨pre, ⟨HPRE.out.1, by have := HPRE.out.2; omega⟩, hJs⟩⟩
    | succ q =>
      obtain rfl := HA.out (by omega)
      obtain ⟨nn, hnn⟩ : ∃ nn, Hid (L[q]? = some nn) := ⟨_, List.getElem?_eq_getElem (by have := HLD.out; omega)⟩
      obtain ⟨dd, hdd⟩ : ∃ dd, Hid (D[q]? = some dd) := ⟨_, List.getElem?_eq_getElem (by have := HLD.out; omega)⟩
      obtain ⟨k1, k2, s0, k3⟩ := HC.out q nn dd hnn.out hdd.out
      obtain ⟨r1, r2, r3⟩ := HNX.out.2 q (by omega)
      have e1' := r1.trans k1
      have e2' := r2.trans k2
      obtain ⟨ss, e3'⟩ := r3 s0 k3
      have hbs : wr.cell? ⟨Bs, 0, none⟩ = some (.slice (some ⟨g, 0, none⟩) m cap) := (HNX.out.1 0).trans hBs
      have hpl : pre.length < m := by have := HPRE.out.2; omega
      obtain ⟨fn, tmps, assign, body, hy, hR⟩ := hY pre ⟨(q, nn, dd, ss), hnn.out, hdd.out⟩ wr hJs hpl
      dsimp only at hy
      have e1 : ((q + 1 : Nat) : Int) - 1 = (q : Int) := by omega
      have HPRE2 : Hid (LastAx m (pre ++ [⟨(q, nn, dd, ss), hnn.out, hdd.out⟩]) ∧ (pre ++ [(⟨(q, nn, dd, ss), hnn.out, hdd.out⟩ : AxAt L D)]).length = m - q) :=
        ⟨HPRE.out.1.snoc (by have := HPRE.out.2; show q + pre.length + 1 = m; omega), by have := HPRE.out.2; simp; omega⟩
      have hw2 : IntKind.i64.wrap ((q : Int) - 1) = (q : Int) - 1 := IntWalk.i64_in _ (by omega)
      clear hpl HPRE k1 k2 k3 r1 r2 r3
      rw [e1]
      gi_wp2
      refine hR.mono ?_
      rintro e W3 (⟨rfl, hJ3, hk3⟩ | ⟨rfl, hJx3⟩)
      · gi_wp2
        go_roundw
        case rel => exact ⟨q, _, by omega, rfl, HPRE2, hJ3, Lib.hid (HNX.out.trans hk3)⟩
        case measure => simp [intOf]
      · gi_wp2
        refine bodyPost_ret (results_none rfl _ _ _) rfl ?_
        exact ⟨⟨_, rfl⟩, .inr ⟨_, trivial, hJx3⟩⟩
theorem back5_stops (F : Fence) (n : Nat) (hf : F.fn 129) (hro : F.round = none) (hn : 1 ≤ n) (Bs g m cap : Nat) (a : Option Addr) (L D : List Int) (hL : L.length = m) (hD : D.length = m) (ha : 0 < m → a = some ⟨g, 0, none⟩) (hreach : m ≤ 1000000) (w : World) (hBs : Bs < w.heap.size) (hg : g < w.heap.size)
    (hc : w.cell? ⟨Bs, 0, none⟩ = some (.slice a m cap)) (hI : ∀ j n d, L[j]? = some n → D[j]? = some d → w.cell? ⟨g, j * 3, none⟩ = some (.int .i64 n) ∧ w.cell? ⟨g, j * 3 + 1, none⟩ = some (.int .i64 d) ∧ ∃ s : Int, w.cell? ⟨g, j * 3 + 2, none⟩ = some (.int .i64 s)) :
    SeqStopsK F n Try.prog 129 #[.pointer (some ⟨Bs, 0, none⟩)] (fun x : AxAt L D => #[Value.int .i64 (x.1.1 : Int), .agg #[.int .i64 x.1.2.1, .int .i64 x.1.2.2.1, .int .i64 x.1.2.2.2]]) (KeepsA Bs g m) (fun ys => LastAx m ys ∧ ys.length = m)
      (fun _ => True) m w := fun l J Jx W hW _ _ hY h0 =>
  back5_in F n hf hro hn l Bs g m cap a L D hL hD ha hreach J Jx hY W ((hW.cell (p := ⟨Bs, 0, none⟩) hBs).trans hc) (fun j n d hn hd => by
    obtain ⟨h1, h2, s, h3⟩ := hI j n d hn hd
    exact ⟨(hW.cell (p := ⟨g, _, none⟩) hg).trans h1, (hW.cell (p := ⟨g, _, none⟩) hg).trans h2, s, (hW.cell (p := ⟨g, _, none⟩) hg).trans h3⟩) h0
set_option maxHeartbeats 1000000 in
theorem backA_in (F : Fence) (n : Nat) (hf : F.fn 116) (hro : F.round = none) (a : Option Addr) (len cap : Nat) (w : World) :
    CallsIn F n Try.prog 116 #[.slice a len cap] w fun e w' => e = .returned (.func (.func 129) #[] #[.pointer (some ⟨w.heap.size, 0, none⟩)]) ∧ w' = w.alloc (.cells #[.slice a len cap] 108) := by
  refine callsIn_of_wp Try.func116 rfl hf ?_ hro
  simp only [Try.ntmps116, List.size_toArray, List.length_cons, List.length_nil, Nat.reduceAdd, Nat.reduceSub, Array.replicate_succ, Array.replicate_zero, List.push_toArray, List.append_toArray, List.nil_append, List.cons_append]
  gi_wp2
  go_ret
  exact ⟨rfl, rfl⟩
/-- The call's memory: the row of axes, the box of its slice, the box of the stride. -/
structure StrF (w : World) (lo m cap : Nat) (a : Option Addr) (c : Int) (cs : List Value) (W : World) : Prop where
  s : W.cell? ⟨w.heap.size + 1, 0, none⟩ = some (.int .i64 c)
  f : W.frozen? ⟨w.heap.size + 1, 0, none⟩ = false
  v : W.cell? ⟨w.heap.size, 0, none⟩ = some (.slice a m cap)
  o : W.ownsRow lo 111 3 (.slice a m cap) m cs
  g : w.grownBy W (Value.slice a m cap).ownBlock
  z : w.heap.size + 1 + 1 < W.heap.size
theorem StrF.drew {w W : World} {lo m cap : Nat} {a : Option Addr} {c : Int} {cs : List Value} (h : StrF w lo m cap a c cs W) : StrF w lo m cap a c cs W.drew := ⟨h.s, h.f, h.v, h.o, ⟨h.g.os, h.g.tape, h.g.output, h.g.size, h.g.block⟩, h.z⟩
theorem StrF.grown {w W W2 : World} {lo m cap B : Nat} {a : Option Addr} {c : Int} {cs : List Value} {row : Option Nat} (h : StrF w lo m cap a c cs W) (hB : w.heap.size ≤ B) (hg : W.grownBy W2 row) (hr : ∀ r, row = some r → B ≤ r ∧ ∃ o : Obj, W.heap[r]? = some o ∧ o.isCells = false) : StrF w lo m cap a c cs W2 := by
  have hr' := fun r e => (hr r e).2
  refine ⟨cell_kept h.s hg hr', (frozen_kept h.s hg hr').trans h.f, cell_kept h.v hg hr', ?_, gb_grown h.g hg (fun k e => .inl (Nat.le_trans hB (hr k e).1)), Nat.lt_of_lt_of_le h.z hg.size⟩
  refine h.o.kept hg ?_
  rcases h.o.2 with ⟨h, -⟩ | ⟨g, cap, cur, e, -, hgg, -⟩
  · cases h; exact .inl rfl
  · refine .inr fun e2 => ?_
    obtain ⟨o, ho, hc⟩ := hr' g (by rw [← e2]; cases e; rfl)
    rw [hgg] at ho
    cases ho
    simp [Obj.isCells] at hc
theorem StrF.box {w W : World} {lo m cap : Nat} {a : Option Addr} {c : Int} {cs : List Value} (h : StrF w lo m cap a c cs W) (o : Obj) : StrF w lo m cap a c cs (W.alloc o) :=
  h.grown (B := w.heap.size) (row := none) (Nat.le_refl _) (World.grownBy_alloc W o none) (fun r e => by cases e)
theorem StrF.put {w W : World} {lo m cap g : Nat} {c : Int} {cs : List Value} (h : StrF w lo m cap (some ⟨g, 0, none⟩) c cs W) (hg : g < w.heap.size) (j : Nat) (u : Value) : StrF w lo m cap (some ⟨g, 0, none⟩) c (cs.set j u) (W.setCell ⟨g, j, none⟩ u) := by
  refine ⟨?_, ?_, ?_, (h.o.stored j u).1, gb_set h.g ⟨g, j, none⟩ (.inl rfl) u, by simpa using h.z⟩
  · exact (World.cell?_of_block (w := W) (Below.heap_setCell W ⟨g, j, none⟩ _ (w.heap.size + 1) (by show w.heap.size + 1 ≠ g; omega))).trans h.s
  · rw [World.frozen?_setCell]; exact h.f
  · exact (World.cell?_of_block (w := W) (Below.heap_setCell W ⟨g, j, none⟩ _ w.heap.size (by show w.heap.size ≠ g; omega))).trans h.v
theorem StrF.stride {w W : World} {lo m cap : Nat} {a : Option Addr} {c : Int} {cs : List Value} (h : StrF w lo m cap a c cs W) (hg : ∀ k, (Value.slice a m cap).ownBlock = some k → k < w.heap.size) (c' : Int) : StrF w lo m cap a c' cs (W.setCell ⟨w.heap.size + 1, 0, none⟩ (.int .i64 c')) := by
  refine ⟨World.cell?_setCell_same' _ _ _ (by rw [h.s]; rfl), ?_, ?_, ?_, gb_set h.g _ (.inr (by show w.heap.size ≤ w.heap.size + 1; omega)) _, by simpa using h.z⟩
  · rw [World.frozen?_setCell]; exact h.f
  · exact (World.cell?_of_block (w := W) (Below.heap_setCell W ⟨w.heap.size + 1, 0, none⟩ _ w.heap.size (by show w.heap.size ≠ w.heap.size + 1; omega))).trans h.v
  · refine h.o.kept (row := some (w.heap.size + 1)) (grownBy_setCell' W (w.heap.size + 1) (.int .i64 c')) ?_
    cases hv : (Value.slice a m cap).ownBlock with
    | none => exact .inl rfl
    | some k => exact .inr (fun e => by injection e with e; have := hg k hv; omega)
/-- The cells have the labels and dimensions, strides that are integers, and the last of them are right. -/
def StrP (L D : List Int) (m : Nat) (c : Int) (cs : List Value) (pre : List (AxAt L D)) : Prop :=
  (∀ i n d, L[i]? = some n → D[i]? = some d → cs[i * 3]? = some (.int .i64 n) ∧ cs[i * 3 + 1]? = some (.int .i64 d) ∧ ∃ s : Int, cs[i * 3 + 2]? = some (.int .i64 s)) ∧
  (LastAx m pre → c = prodL (D.drop (m - pre.length)) ∧ ∀ i a, m - pre.length ≤ i → (axesL L D)[i]? = some a → cs[i * 3 + 2]? = some (.int .i64 a.2.2))
theorem StrP.step {L D : List Int} {m q : Nat} {c n d : Int} {cs : List Value} {pre : List (AxAt L D)} {x : AxAt L D} (h : StrP L D m c cs pre) (hq : x.1.1 = q) (hn : L[q]? = some n) (hd : D[q]? = some d) (hD : ∀ d ∈ D, 1 ≤ d) (hP : prodL D ≤ 1000000000) (hl : cs.length = m * 3) (hLm : L.length = m) :
    StrP L D m (wrap64 (c * d)) (cs.set (q * 3 + 2) (.int .i64 c)) (pre ++ [x]) := by
  have hqm : q < m := by rw [← hLm]; exact (List.getElem?_eq_some_iff.1 hn).1
  refine ⟨fun i n d hi hd => ?_, fun hx => ?_⟩
  · obtain ⟨g1, g2, s, g3⟩ := h.1 i n d hi hd
    refine ⟨by rw [List.getElem?_set_ne (by omega)]; exact g1, by rw [List.getElem?_set_ne (by omega)]; exact g2, ?_⟩
    by_cases e : i = q
    · subst e
      exact ⟨c, List.getElem?_set_self (by omega)⟩
    · exact ⟨s, by rw [List.getElem?_set_ne (by omega)]; exact g3⟩
  obtain ⟨h1, h2⟩ := hx.init
  obtain ⟨h3, h4⟩ := h.2 h1
  have e1 : m - pre.length = q + 1 := by omega
  have e2 : m - (pre ++ [x]).length = q := by simp; omega
  rw [e1] at h3 h4
  rw [e2]
  have e3 : prodL (D.drop q) = c * d := by
    have hqd := (List.getElem?_eq_some_iff.1 hd).1
    rw [List.drop_eq_getElem_cons hqd, prodL_cons, ← h3, Int.mul_comm]
    rw [(List.getElem?_eq_some_iff.1 hd).2]
  have e4 : wrap64 (c * d) = c * d := by
    have k1 := prodL_pos (D := D.drop q) (fun d hd => hD d (List.mem_of_mem_drop hd))
    have k2 : prodL (D.drop q) ≤ prodL D := by
      have k3 := prodL_pos (D := D.take q) (fun d hd => hD d (List.mem_of_mem_take hd))
      have k4 : prodL D = prodL (D.take q) * prodL (D.drop q) := by
        conv => lhs; rw [← List.take_append_drop q D]
        unfold prodL
        rw [List.foldl_append, foldl_mul]
        rfl
      have k5 := Int.mul_le_mul_of_nonneg_right k3 (show 0 ≤ prodL (D.drop q) by omega)
      rw [Int.one_mul] at k5
      omega
    unfold wrap64; omega
  refine ⟨by rw [e4, e3], fun i a hi ha => ?_⟩
  by_cases e : i = q
  · subst e
    rw [axesL_at hn hd] at ha
    injection ha with ha
    subst ha
    rw [List.getElem?_set_self (by omega), h3]
  · rw [List.getElem?_set_ne (by omega)]; exact h4 i a (by omega) ha
/-- What holds behind some rounds. -/
def StrInv (w : World) (lo cap : Nat) (a : Option Addr) (L D : List Int) (m : Nat) (pre : List (AxAt L D)) (W : World) : Prop :=
  ∃ (c : Int) (cs : List Value), StrF w lo m cap a c cs W ∧ StrP L D m c cs pre
theorem StrInv.own (w : World) (lo cap : Nat) (a : Option Addr) (L D : List Int) (m B : Nat) (hB : w.heap.size ≤ B) : OwnFrom B (StrInv w lo cap a L D m) := fun pre A A' row hs hg hr => by
  obtain ⟨c, cs, h1, h2⟩ := hs
  exact ⟨c, cs, h1.grown hB hg hr, h2⟩
theorem gb_belowK {w W : World} {r : Option Nat} (h : w.grownBy W r) (E : Nat) (o : Obj) (hE : w.heap.size ≤ E) : w.grownBy (W.putObj E o) r :=
  gb_grown h (grownBy_putObj' W E o) (fun k e => by cases e; exact .inl hE)

set_option maxRecDepth 100000 in
set_option maxHeartbeats 4000000 in
theorem strides_full (F : Fence) (k : Nat) (h3 : F.fn 106) (h5 : F.fn 116) (h7 : F.fn 129) (hro : F.round = none) (hk : 3 ≤ k) (lo g m cap : Nat) (a : Option Addr) (L D : List Int) (cs0 : List Value) (w : World) (h1 : L.length = m) (h2 : D.length = m) (hm : m ≤ 1000) (ha : 0 < m → a = some ⟨g, 0, none⟩) (hg : g ≤ w.heap.size) (hga : 0 < m → g < w.heap.size)
    (hD : ∀ d ∈ D, 1 ≤ d) (hP : prodL D ≤ 1000000000) (hw : w.ownsRow lo 111 3 (.slice a m cap) m cs0)
    (hc : ∀ i n d, L[i]? = some n → D[i]? = some d → cs0[i * 3]? = some (.int .i64 n) ∧ cs0[i * 3 + 1]? = some (.int .i64 d) ∧ ∃ s : Int, cs0[i * 3 + 2]? = some (.int .i64 s)) :
    CallsIn F k Try.prog 106 #[.slice a m cap] w fun e w' => e = .returned (.tuple #[]) ∧ w'.ownsRow lo 111 3 (.slice a m cap) m (cellsA (axesL L D)) ∧ w.grownBy w' (Value.slice a m cap).ownBlock := by
  have hk1 : 1 ≤ k := by omega
  have L1 := Lib.hid h1
  have L2 := Lib.hid h2
  have HD := Lib.hid hD
  have HP := Lib.hid hP
  have HA := Lib.hid ha
  have HG := Lib.hid (And.intro hg hga)
  have HC := Lib.hid hc
  have HW := Lib.hid hw
  have HLT : Hid (∀ k, (Value.slice a m cap).ownBlock = some k → k < w.heap.size) := Lib.hid (fun k hk => (hw.lt k hk).2)
  clear h1 h2 hD hP ha hg hga hc hw
  refine callsIn_of_wp_marks Try.func106 rfl h3 ?_ hro
  simp only [Try.ntmps106, List.size_toArray, List.length_cons, List.length_nil, Nat.reduceAdd, Nat.reduceSub, Array.replicate_succ, Array.replicate_zero, List.push_toArray, List.append_toArray, List.nil_append, List.cons_append]
  gi_wp2_with (gi_at_call 116; refine (backA_in F (k - 1) h5 hro _ _ _ _).mono ?_; rintro e w' ⟨rfl, rfl⟩)
  have hsz : (((w.alloc (.cells #[.slice a m cap] 108)).alloc (.cells #[.int .i64 1] 3)).alloc (.cells #[.slice a m cap] 108)).heap.size = w.heap.size + 1 + 1 + 1 := by simp
  have bS := Boxed.new ((w.alloc (.cells #[.slice a m cap] 108)).alloc (.cells #[.int .i64 1] 3)) 108 (.slice a m cap)
  have bC := (Boxed.new (w.alloc (.cells #[.slice a m cap] 108)) 3 (.int .i64 1)).alloc (.cells #[.slice a m cap] 108)
  have bV := ((Boxed.new w 108 (.slice a m cap)).alloc (.cells #[.int .i64 1] 3)).alloc (.cells #[.slice a m cap] 108)
  have hS := bS.cell
  simp only [World.size_alloc] at hS
  have hF0 : StrF w lo m cap a 1 cs0 (((w.alloc (.cells #[.slice a m cap] 108)).alloc (.cells #[.int .i64 1] 3)).alloc (.cells #[.slice a m cap] 108)) := by
    refine ⟨?_, ?_, bV.cell, ((HW.out.alloc _).alloc _).alloc _, gb_grown (gb_grown (World.grownBy_alloc w _ _) (World.grownBy_alloc _ _ none) (fun k e => by cases e)) (World.grownBy_alloc _ _ none) (fun k e => by cases e), by simp⟩
    · have h := bC.cell; simp only [World.size_alloc] at h; exact h
    · have h := bC.frozen; simp only [World.size_alloc] at h; exact h
  have HF0 := Lib.hid hF0
  generalize hW0 : ((w.alloc (.cells #[.slice a m cap] 108)).alloc (.cells #[.int .i64 1] 3)).alloc (.cells #[.slice a m cap] 108) = W0 at hS hF0 HF0 hsz ⊢
  clear hW0 bS bC bV HW
  refine wpIn_rangeFunc_ownH hro hk1 (gf := 129) (lb := #[.pointer (some ⟨w.heap.size + 1 + 1, 0, none⟩)]) rfl h7 (enters_of Try.func129 (by kernel_rfl) rfl)
    (back5_stops F (k - 1) h7 hro (by omega) (w.heap.size + 1 + 1) g m cap a L D L1.out L2.out HA.out (by omega) W0 (by omega) (by have := HG.out.1; omega) hS (fun j n d hn hd => by
      have hj : j < m := by rw [← L1.out]; exact (List.getElem?_eq_some_iff.1 hn).1
      have ho := HF0.out.o
      rw [HA.out (by omega)] at ho
      have hl := ho.1
      obtain ⟨c1, c2, s, c3⟩ := HC.out j n d hn hd
      exact ⟨by rw [ho.cellAt _ (by omega)]; exact c1, by rw [ho.cellAt _ (by omega)]; exact c2, s, by rw [ho.cellAt _ (by omega)]; exact c3⟩)) (fun h k => h.trans k) (KeepsA.turn (by omega) (by have := HG.out.1; omega)) (Below.refl _ _) (fun _ => rfl)
    (StrInv w lo cap a L D m) (fun _ _ _ => False) (StrInv.own w lo cap a L D m _ (by omega)) (fun _ _ _ _ _ hs _ _ => hs)
    ⟨1, cs0, hF0, HC.out, fun _ => ⟨by
      show (1 : Int) = prodL (D.drop (m - 0))
      rw [List.drop_of_length_le (by rw [L2.out]; exact Nat.le_refl _)]; rfl, fun i x hi hx => by
      have h1 := (List.getElem?_eq_some_iff.1 hx).1
      rw [axesL_len, L1.out] at h1
      simp only [List.length_nil] at hi
      omega⟩⟩
    (fun x a' W => ∃ nb, w.heap.size + 1 + 1 < nb ∧ nb < W.heap.size ∧ a' = { tmps := #[.slice a m cap, .pointer (some ⟨w.heap.size, 0, none⟩), .pointer (some ⟨w.heap.size + 1, 0, none⟩), .int .i64 (x.1.1 : Int), .pointer (some ⟨nb, 0, none⟩), .slice a m cap, .func (.func 129) #[] #[.pointer (some ⟨w.heap.size + 1 + 1, 0, none⟩)], .int .i64 (x.1.1 : Int), .agg #[.int .i64 x.1.2.1, .int .i64 x.1.2.2.1, .int .i64 x.1.2.2.2], undef, undef, undef, undef, undef, undef, undef, undef, undef], defers := [] } ∧ W.cell? ⟨nb, 1, none⟩ = some (.int .i64 x.1.2.2.1))
    (fun x a' pre A A' row hs hg hr => by
      obtain ⟨nb, h1, h2, h3, h4⟩ := hs
      exact ⟨nb, h1, Nat.lt_of_lt_of_le h2 hg.size, h3, cell_kept h4 hg (fun r e => (hr r e).2)⟩) ?assign ?body ?done ?stop
  case assign =>
    intro l pre x W K hI hK
    have HK := Lib.hid hK
    have HII := Lib.hid hI
    clear hK hI
    gi_wp2
    obtain ⟨c, cs, hF, hP⟩ := HII.out
    have hz := hF.z
    have hg1 := HG.out.1
    exact HK.out _ _ ((KeepsOthers.alloc W _).from _) (KeepsA.alloc (by omega) (by omega) _) ⟨c, cs, hF.box _, hP⟩ ⟨W.heap.size, hz, by simp, rfl, (Bx.new (Below.refl _ W) _ _ _ _).c1⟩
  case body =>
    rintro l pre ⟨⟨q, n, d, s⟩, hxn, hxd⟩ a' W hl hlr ⟨c, cs, hF, hP⟩ ⟨nb, hnb, hnbW, rfl, hcd⟩ _
    dsimp only at hxn hxd hcd
    obtain ⟨nxt, hnxt⟩ : ∃ z, z = pre ++ [(⟨(q, n, d, s), hxn, hxd⟩ : AxAt L D)] := ⟨_, rfl⟩
    rw [← hnxt]
    have hq : q < m := by have := (List.getElem?_eq_some_iff.1 hxn).1; have := L1.out; omega
    obtain rfl := HA.out (by omega)
    have hgw := HG.out.2 (by omega)
    have HF := Lib.hid hF
    have HPP := Lib.hid hP
    have HN := Lib.hid hnxt
    have clen := hF.o.1
    have v0 := hF.v
    have s0 := hF.s
    have sf := hF.f
    have r2 : W.cell? ⟨g, q * 3 + 2, none⟩ = some (cs[q * 3 + 2]'(by omega)) := by
      rw [hF.o.cellAt _ (by omega)]; exact List.getElem?_eq_getElem _
    have f2 := hF.o.frozenAt (q * 3 + 2)
    have hne1 : ¬ g = w.heap.size + 1 := by omega
    have hne2 : ¬ w.heap.size + 1 = g := by omega
    have hne3 : ¬ nb = g := by omega
    clear hF hP hnxt
    gi_wp2
    have HP6 := HPP.out.step (x := ⟨(q, n, d, s), hxn, hxd⟩) rfl hxn hxd HD.out HP.out clen L1.out
    rw [HN.out]
    exact ⟨((KeepsOthers.setCell W ⟨g, q * 3 + 2, none⟩ (.int .i64 c)).trans (KeepsOthers.setCell _ ⟨w.heap.size + 1, 0, none⟩ _)).from _, (KeepsA.stride (by omega) q c).trans (KeepsA.else (p := ⟨w.heap.size + 1, 0, none⟩) (by show w.heap.size + 1 ≠ w.heap.size + 1 + 1; omega) (by show w.heap.size + 1 ≠ g; omega) _), wrap64 (c * d), _, (HF.out.put hgw _ _).stride HLT.out _, HP6⟩
  case done =>
    rintro E ys W hE ⟨hys, hyl⟩ ⟨c, cs, hF, hP⟩ hK
    have hl : (axesL L D).length = m := by rw [axesL_len, L1.out]
    have e : cs = cellsA (axesL L D) := cellsA_is (by rw [hl]; exact hF.o.1) (fun i x hx => by
      have hi := (List.getElem?_eq_some_iff.1 hx).1
      rw [hl] at hi
      have hn := List.getElem?_eq_getElem (show i < L.length by rw [L1.out]; exact hi)
      have hd := List.getElem?_eq_getElem (show i < D.length by rw [L2.out]; exact hi)
      have h1 := axesL_at hn hd
      rw [hx] at h1
      injection h1 with h1
      subst h1
      obtain ⟨k1, k2, -⟩ := hP.1 i _ _ hn hd
      exact ⟨k1, k2, (hP.2 hys).2 i _ (by omega) hx⟩)
    subst e
    gi_wp2
    refine ⟨by simp, .inl ⟨_, _, rfl, run_takeDeferred hK, ?_⟩⟩
    have h9 := hF.grown (B := w.heap.size) (Nat.le_refl _) (grownBy_putObj' W E (.deferred none)) (fun r e => by cases e; exact ⟨by omega, _, hK, rfl⟩)
    exact ⟨_, results_none rfl _ _ _, rfl, h9.o, h9.g⟩
  case stop =>
    rintro E c pre W _ _ h _
    exact h.elim
/-- setStrides, on a row of axes whose strides are any integers. -/
theorem set_strides {lo m cap : Nat} {a : Option Addr} {L D : List Int} {cs : List Value} {w : World} (h1 : L.length = m) (h2 : D.length = m) (hm : m ≤ 1000) (hw0 : 0 < w.heap.size) (hD : ∀ d ∈ D, 1 ≤ d) (hP : prodL D ≤ 1000000000) (hw : w.ownsRow lo 111 3 (.slice a m cap) m cs)
    (hc : ∀ i n d, L[i]? = some n → D[i]? = some d → cs[i * 3]? = some (.int .i64 n) ∧ cs[i * 3 + 1]? = some (.int .i64 d) ∧ ∃ s : Int, cs[i * 3 + 2]? = some (.int .i64 s)) :
    Calls Try.prog 106 #[.slice a m cap] w fun e w' => e = .returned (.tuple #[]) ∧ w'.ownsRow lo 111 3 (.slice a m cap) m (cellsA (axesL L D)) ∧ w.grownBy w' (Value.slice a m cap).ownBlock := by
  refine (callsIn_wide (n := 3)).1 ?_
  rcases hw.2 with ⟨e, h0⟩ | ⟨g, cap', cur, e, -, hgg, -⟩
  · exact strides_full _ 3 trivial trivial trivial rfl (Nat.le_refl _) lo 0 m cap a L D cs w h1 h2 hm (fun h => by omega) (Nat.zero_le _) (fun h => by omega) hD hP hw hc
  · have hg := (hw.lt g (by rw [e]; rfl)).2
    cases e
    exact strides_full _ 3 trivial trivial trivial rfl (Nat.le_refl _) lo g m cap _ L D cs w h1 h2 hm (fun _ => rfl) (Nat.le_of_lt hg) (fun _ => hg) hD hP hw hc
/-- What holds in the loop of (Tensor).axes: the tensor's box, the row of axes. -/
structure AxS (w W : World) (lv dv : Value) (m : Nat) (cs : List Value) : Prop where
  bel : Below w.heap.size w W
  b0 : W.cell? ⟨w.heap.size, 0, none⟩ = some lv
  b1 : W.cell? ⟨w.heap.size, 1, none⟩ = some dv
  o : W.ownsRow w.heap.size 111 3 (.slice (some ⟨w.heap.size + 1, 0, none⟩) m m) m cs
theorem AxS.put {w W : World} {lv dv : Value} {m : Nat} {cs : List Value} (h : AxS w W lv dv m cs) (j : Nat) (u : Value) : AxS w (W.setCell ⟨w.heap.size + 1, j, none⟩ u) lv dv m (cs.set j u) :=
  ⟨h.bel.setCell (p := ⟨w.heap.size + 1, j, none⟩) (by show w.heap.size ≤ w.heap.size + 1; omega) _,
   (World.cell?_of_block (w := W) (Below.heap_setCell W ⟨w.heap.size + 1, j, none⟩ _ w.heap.size (by show w.heap.size ≠ w.heap.size + 1; omega))).trans h.b0,
   (World.cell?_of_block (w := W) (Below.heap_setCell W ⟨w.heap.size + 1, j, none⟩ _ w.heap.size (by show w.heap.size ≠ w.heap.size + 1; omega))).trans h.b1, (h.o.stored j u).1⟩
/-- The first axes have their labels and dimensions. -/
def AxTo (L D : List Int) (cs : List Value) (j : Nat) : Prop := ∀ i n d, i < j → L[i]? = some n → D[i]? = some d → cs[i * 3]? = some (.int .i64 n) ∧ cs[i * 3 + 1]? = some (.int .i64 d) ∧ ∃ s : Int, cs[i * 3 + 2]? = some (.int .i64 s)
theorem AxTo.step {L D : List Int} {cs : List Value} {j m : Nat} {n d : Int} (h : AxTo L D cs j) (hn : L[j]? = some n) (hd : D[j]? = some d) (hl : cs.length = m * 3) (hj : j < m) : AxTo L D (((cs.set (j * 3) (.int .i64 n)).set (j * 3 + 1) (.int .i64 d)).set (j * 3 + 2) (.int .i64 0)) (j + 1) := fun i n' d' hi hn' hd' => by
  by_cases e : i = j
  · subst e
    rw [hn] at hn'
    rw [hd] at hd'
    cases hn'
    cases hd'
    refine ⟨?_, ?_, 0, ?_⟩
    · rw [List.getElem?_set_ne (by omega), List.getElem?_set_ne (by omega), List.getElem?_set_self (by omega)]
    · rw [List.getElem?_set_ne (by omega), List.getElem?_set_self (by simp; omega)]
    · rw [List.getElem?_set_self (by simp; omega)]
  · obtain ⟨g1, g2, s, g3⟩ := h i n' d' (by omega) hn' hd'
    refine ⟨?_, ?_, s, ?_⟩
    · rw [List.getElem?_set_ne (by omega), List.getElem?_set_ne (by omega), List.getElem?_set_ne (by omega)]; exact g1
    · rw [List.getElem?_set_ne (by omega), List.getElem?_set_ne (by omega), List.getElem?_set_ne (by omega)]; exact g2
    · rw [List.getElem?_set_ne (by omega), List.getElem?_set_ne (by omega), List.getElem?_set_ne (by omega)]; exact g3
/-- A row of axes that a make has laid: no longer than it is. -/
def NewRowM (w : World) (AX : List AxE) (e : Ending) (w' : World) : Prop := ∃ g, e = .returned (.slice (some ⟨g, 0, none⟩) AX.length AX.length) ∧ OwnA w' w.heap.size w'.heap.size (.slice (some ⟨g, 0, none⟩) AX.length AX.length) AX ∧ Below w.heap.size w w'
set_option maxHeartbeats 4000000 in
theorem axes_full {B m cl cd : Nat} {al ad : Option Addr} {xv : Value} {L D : List Int} {w : World} (hl : Rd B w (.slice al m cl) (ints L)) (hd : Rd B w (.slice ad m cd) (ints D)) (hB : B ≤ w.heap.size) (h1 : L.length = m) (h2 : D.length = m) (hm : m ≤ 12) (hD : ∀ d ∈ D, 1 ≤ d ∧ d ≤ 8) (hP : prodL D ≤ 4096) :
    Calls Try.prog 94 #[tenV (.slice al m cl) (.slice ad m cd) xv] w (NewRowM w (axesL L D)) := by
  obtain ⟨i0, hi, hz0, hz1, hz2⟩ := info_parts infoAxis
  have J0 := Lib.hid hi
  have J1 := Lib.hid hz0
  have J2 := Lib.hid hz1
  have J3 := Lib.hid hz2
  have RL := Lib.hid hl
  have RD := Lib.hid hd
  have HB := Lib.hid hB
  have L1 := Lib.hid h1
  have L2 := Lib.hid h2
  have HD := Lib.hid hD
  have HP := Lib.hid hP
  have b0 := (Bx.new (Below.refl _ w) (.slice al m cl) (.slice ad m cd) xv 55)
  have BX := Lib.hid b0
  clear hi hz0 hz1 hz2 hl hd hB h1 h2 hD hP b0
  go_enter Try.func94, Try.ntmps94
  go_wp2_with (at_make; go_must (refine wpList_make_full _ rfl _ _ 108 rfl w.heap.size 111 i0 (.agg #[.int .i64 0, .int .i64 0, .int .i64 0]) 3 Try.underlying108 J0.out J1.out J2.out .i64 .i64 _ _ m rfl rfl rfl rfl (by rw [J3.out]; omega) (by unfold maxLen; omega) (by simp) ?_); intro w1 hown hgrow; have T1 := Lib.hid (BX.out.grown hgrow (fun k hk => by cases hk)); have t0 := T1.out.c0)
  have S0 : Hid (AxS w w1 (.slice al m cl) (.slice ad m cd) m (madeCells (Value.agg #[.int .i64 0, .int .i64 0, .int .i64 0]).cells (m * 3)).toList) := Lib.hid ⟨((Below.refl w.heap.size w).alloc (Nat.le_refl _) (.cells #[.slice al m cl, .slice ad m cd, xv] 55)).grown hgrow (by simp) (fun j hj => by cases hj), T1.out.c0, T1.out.c1, by simp only [World.size_alloc] at hown; exact hown⟩
  clear hown hgrow t0 T1 BX
  obtain ⟨⟨z0, z1, -⟩, -⟩ : (w1.cell? ⟨w.heap.size, 0, none⟩ = some (.slice al m cl) ∧ w1.cell? ⟨w.heap.size, 1, none⟩ = some (.slice ad m cd) ∧ True) ∧ True := ⟨⟨S0.out.b0, S0.out.b1, trivial⟩, trivial⟩
  go_wp2
  go_loopw [13] (fun i wr => ∃ (j : Nat) (cs : List Value), j ≤ m ∧ i = .int .i64 j ∧ Hid (AxS w wr (.slice al m cl) (.slice ad m cd) m cs) ∧ Hid (AxTo L D cs j)) (fun i _ => m - (intOf i).toNat)
  case atStart => exact ⟨0, _, by omega, rfl, S0, Lib.hid (fun i n d hi => absurd hi (Nat.not_lt_zero _))⟩
  case round =>
    clear S0 z0 z1
    obtain ⟨j, cs, hj, rfl, HS, HT⟩ := hrel
    by_cases hlt : j < m
    · obtain ⟨n, X1⟩ : ∃ n, Hid (L[j]? = some n) := ⟨_, List.getElem?_eq_getElem (by rw [L1.out]; exact hlt)⟩
      obtain ⟨d, D1⟩ : ∃ d, Hid (D[j]? = some d) := ⟨_, List.getElem?_eq_getElem (by rw [L2.out]; exact hlt)⟩
      obtain ⟨b1, o1, rfl, -, e1⟩ := (RL.out.below HS.out.bel HB.out).cellAt X1.out
      obtain ⟨b2, o2, rfl, -, e2⟩ := (RD.out.below HS.out.bel HB.out).cellAt D1.out
      have z0 := HS.out.b0
      have z1 := HS.out.b1
      have clen := HS.out.o.1
      have r0 : wr.cell? ⟨w.heap.size + 1, j * 3, none⟩ = some (cs[j * 3]'(by omega)) := by
        rw [HS.out.o.cellAt _ (by omega)]; exact List.getElem?_eq_getElem _
      have r1 : wr.cell? ⟨w.heap.size + 1, j * 3 + 1, none⟩ = some (cs[j * 3 + 1]'(by omega)) := by
        rw [HS.out.o.cellAt _ (by omega)]; exact List.getElem?_eq_getElem _
      have r2 : wr.cell? ⟨w.heap.size + 1, j * 3 + 2, none⟩ = some (cs[j * 3 + 2]'(by omega)) := by
        rw [HS.out.o.cellAt _ (by omega)]; exact List.getElem?_eq_getElem _
      have f0 := HS.out.o.frozenAt (j * 3)
      have f1 := HS.out.o.frozenAt (j * 3 + 1)
      have f2 := HS.out.o.frozenAt (j * 3 + 2)
      have HS2 := Lib.hid (((HS.out.put (j * 3) (.int .i64 n)).put (j * 3 + 1) (.int .i64 d)).put (j * 3 + 2) (.int .i64 0))
      have HT2 := Lib.hid (HT.out.step X1.out D1.out clen hlt)
      go_wp2
      go_roundw
      case rel => exact ⟨j + 1, _, by omega, by go_num, HS2, HT2⟩
      case measure => simp [intOf]; omega
    · obtain rfl : j = m := by omega
      have HST := Lib.hid (set_strides (lo := w.heap.size) L1.out L2.out (by omega) (by have := HS.out.bel.size; have := (HS.out.o.lt (w.heap.size + 1) rfl).2; omega) (fun d hd => (HD.out d hd).1) (by have := HP.out; omega) HS.out.o (fun i n d hn hd => HT.out i n d (by rw [← L1.out]; exact (List.getElem?_eq_some_iff.1 hn).1) hn hd))
      go_wp2_with fail
      refine HST.out.mono ?_
      rintro e w2 ⟨rfl, ho, hg⟩
      have RES : Hid (NewRowM w (axesL L D) (.returned (.slice (some ⟨w.heap.size + 1, 0, none⟩) j j)) w2) := Lib.hid (by
        have hl : (axesL L D).length = j := by rw [axesL_len, L1.out]
        refine ⟨w.heap.size + 1, by rw [hl], ⟨by rw [hl]; exact ho, fun g hg => (ho.lt g (by rw [hl] at hg; exact hg)).2, Nat.le_refl _⟩, ?_⟩
        exact HS.out.bel.grown hg HS.out.bel.size (fun k hk => by simp [Value.ownBlock] at hk; omega))
      clear ho hg HST
      go_wp2
      go_ret
      exact RES.out
theorem axes_made {B : Nat} {lv dv xv : Value} {L D X : List Int} {w : World} (h : RdT B w lv dv xv L D X) (hB : B ≤ w.heap.size) (_hw : 0 < w.heap.size) (hl : L.length = D.length) (hm : L.length ≤ 12) (hD : ∀ d ∈ D, 1 ≤ d ∧ d ≤ 8) (hP : prodL D ≤ 4096) :
    Calls Try.prog 94 #[tenV lv dv xv] w (NewRowM w (axesL L D)) := by
  have h1 := h.l
  have h2 := h.d
  obtain ⟨al, cl, rfl, -⟩ := ints_form h.l
  obtain ⟨ad, cd, rfl, -⟩ := ints_form h.d
  rw [← hl] at h2 ⊢
  exact axes_full h1 h2 hB rfl hl.symm hm hD hP
theorem axes_impl {B : Nat} {lv dv xv : Value} {L D X : List Int} {w : World} (h : RdT B w lv dv xv L D X) (hB : B ≤ w.heap.size) (hw : 0 < w.heap.size) (hl : L.length = D.length) (hm : L.length ≤ 12) (hD : ∀ d ∈ D, 1 ≤ d ∧ d ≤ 8) (hP : prodL D ≤ 4096) :
    Calls Try.prog 94 #[tenV lv dv xv] w (NewRowA w (axesL L D)) := by
  exact (axes_made h hB hw hl hm hD hP).mono fun e w' ⟨g, he, ho, hb⟩ => ⟨_, he, ho, hb⟩
end Go.Proofs.Ytdheakjjnaifkaa
namespace Go.Proofs.Ytdheakjjnaifkaa
set_option maxRecDepth 20000
open Go.RowKit

theorem ax_ne {AX BX : List AxE} {j : Nat} {x y : AxE} (hx : AX[j]? = some x) (hy : BX[j]? = some y) (h : x ≠ y) : decide (AX = BX) = false :=
  decide_eq_false fun e => by
    rw [e, hy] at hx
    exact h (Option.some.inj hx).symm
/-- Two tensors have the same axes just where they have the same labels and dimensions. -/
theorem axes_same {L D L' D' : List Int} (h : L.length = D.length) (h' : L'.length = D'.length) : decide (axesL L D = axesL L' D') = (decide (L = L') && decide (D = D')) := by
  by_cases e : axesL L D = axesL L' D'
  · have hl : L.length = L'.length := by
      have := congrArg List.length e
      rwa [axesL_len, axesL_len] at this
    have key : ∀ i, i < L.length → L[i]? = L'[i]? ∧ D[i]? = D'[i]? := fun i hi => by
      have h1 := axesL_at (List.getElem?_eq_getElem hi) (List.getElem?_eq_getElem (show i < D.length by omega))
      have h2 := axesL_at (List.getElem?_eq_getElem (show i < L'.length by omega)) (List.getElem?_eq_getElem (show i < D'.length by omega))
      rw [e, h2] at h1
      injection h1 with h1
      injection h1 with h3 h4
      injection h4 with h4 h5
      rw [List.getElem?_eq_getElem hi, List.getElem?_eq_getElem (show i < L'.length by omega), List.getElem?_eq_getElem (show i < D.length by omega), List.getElem?_eq_getElem (show i < D'.length by omega), h3, h4]
      exact ⟨rfl, rfl⟩
    have e1 : L = L' := by
      apply List.ext_getElem?
      intro i
      by_cases hi : i < L.length
      · exact (key i hi).1
      · rw [List.getElem?_eq_none (by omega), List.getElem?_eq_none (by omega)]
    have e2 : D = D' := by
      apply List.ext_getElem?
      intro i
      by_cases hi : i < L.length
      · exact (key i hi).2
      · rw [List.getElem?_eq_none (by omega), List.getElem?_eq_none (by omega)]
    simp [e1, e2]
  · rw [decide_eq_false e]
    by_cases e1 : L = L'
    · by_cases e2 : D = D'
      · exact absurd (by rw [e1, e2]) e
      · simp [e2]
    · simp [e1]
end Go.Proofs.Ytdheakjjnaifkaa
