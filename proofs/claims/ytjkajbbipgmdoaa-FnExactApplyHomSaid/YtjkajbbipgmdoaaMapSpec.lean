/- spec.l03Map, kind by kind. -/
import Derived.Test.YtjkajbbipgmdoaaImage
import Derived.Deep.QuietTactic
import Derived.BigQuiet
namespace Go.Proofs.Ytjkajbbipgmdoaa
open Go.RowKit

theorem new_one_at {w W : World} {v : Int} {g : Nat} (hb : Below w.heap.size w W) (hg : g = W.heap.size) : NewRow w [v] (.returned (.slice (some ⟨g, 0, none⟩) 1 1)) (W.alloc (.cells #[.int .i64 v] 3)) := hg ▸ new_one hb

set_option maxRecDepth 100000 in
set_option maxHeartbeats 1600000 in
theorem map_23 (bx ox cx m : Nat) (fp fn tk tp tn ha x : Int) (w : World) (hbx : bx < w.heap.size) (hx : w.cell? ⟨bx, ox, none⟩ = some (.int .i64 x)) (hm0 : 0 < m)  :
    Calls Try.prog 59 #[ringV 3 fp fn, ringV tk tp tn, homV 2 ha, .slice (some ⟨bx, ox, none⟩) m cx] w (NewRow w (bitL (decide (0 < x)))) := by
  have HV := Lib.hid (Inv3.box w 3 fp fn tk tp tn 2 ha 27 29)
  have HX := Lib.hid ((HV.out.bel.cell (p := ⟨bx, ox, none⟩) hbx).trans hx)
  go_enter Try.func59, Try.ntmps59
  go_wp2
  generalize hW : ((w.alloc (.cells #[.int .i64 3, .int .i64 fp, .int .i64 fn] 27)).alloc (.cells #[.int .i64 tk, .int .i64 tp, .int .i64 tn] 27)).alloc (.cells #[.int .i64 2, .int .i64 ha] 29) = W at HV HX ⊢
  clear hW
  obtain ⟨c0, c1, c2, d0, d1, d2, e0, e1⟩ := HV.out.cells
  have hX := HX.out
  go_still_tail 8, (by kernel_rfl)
  change wpList _ _ _ _ _ W.drew
  have HD := Lib.hid HV.out.bel.drew
  generalize hw2 : W.drew = w2 at HD ⊢
  clear hw2
  go_wp2_with fail
  refine (bit_spec _ _).mono ?_
  intro e w3 h3
  obtain ⟨v, rfl, ho, hb3⟩ := row_pass HD.out h3
  clear h3
  have HO := Lib.hid ho
  have HB := Lib.hid hb3
  clear ho hb3
  go_wp2
  go_ret
  exact ⟨v, rfl, HO.out, HB.out⟩

set_option maxRecDepth 100000 in
set_option maxHeartbeats 1600000 in
theorem map_24 (bx ox cx m : Nat) (fp fn tk tp tn ha x : Int) (w : World) (hbx : bx < w.heap.size) (hx : w.cell? ⟨bx, ox, none⟩ = some (.int .i64 x)) (hm0 : 0 < m)  :
    Calls Try.prog 59 #[ringV 4 fp fn, ringV tk tp tn, homV 2 ha, .slice (some ⟨bx, ox, none⟩) m cx] w (NewRow w (bitL (!decide (0 < x)))) := by
  have HV := Lib.hid (Inv3.box w 4 fp fn tk tp tn 2 ha 27 29)
  have HX := Lib.hid ((HV.out.bel.cell (p := ⟨bx, ox, none⟩) hbx).trans hx)
  go_enter Try.func59, Try.ntmps59
  go_wp2
  generalize hW : ((w.alloc (.cells #[.int .i64 4, .int .i64 fp, .int .i64 fn] 27)).alloc (.cells #[.int .i64 tk, .int .i64 tp, .int .i64 tn] 27)).alloc (.cells #[.int .i64 2, .int .i64 ha] 29) = W at HV HX ⊢
  clear hW
  obtain ⟨c0, c1, c2, d0, d1, d2, e0, e1⟩ := HV.out.cells
  have hX := HX.out
  go_still_tail 8, (by kernel_rfl)
  change wpList _ _ _ _ _ W.drew
  have HD := Lib.hid HV.out.bel.drew
  generalize hw2 : W.drew = w2 at HD ⊢
  clear hw2
  go_wp2_with fail
  refine (bit_spec _ _).mono ?_
  intro e w3 h3
  obtain ⟨v, rfl, ho, hb3⟩ := row_pass HD.out h3
  clear h3
  have HO := Lib.hid ho
  have HB := Lib.hid hb3
  clear ho hb3
  go_wp2
  go_ret
  exact ⟨v, rfl, HO.out, HB.out⟩

set_option maxRecDepth 100000 in
set_option maxHeartbeats 1600000 in
theorem map_3 (bx ox cx m : Nat) (fk fp fn tk tp tn ha x : Int) (w : World) (hbx : bx < w.heap.size) (hx : w.cell? ⟨bx, ox, none⟩ = some (.int .i64 x)) (hm0 : 0 < m) (h1 : 0 ≤ ha) (h2 : ha ≤ 64) :
    Calls Try.prog 59 #[ringV fk fp fn, ringV tk tp tn, homV 3 ha, .slice (some ⟨bx, ox, none⟩) m cx] w (NewRow w (bitL (bits .and .i64 (x / 2 ^ ha.toNat) 1 == 1))) := by
  have HV := Lib.hid (Inv3.box w fk fp fn tk tp tn 3 ha 27 29)
  have HX := Lib.hid ((HV.out.bel.cell (p := ⟨bx, ox, none⟩) hbx).trans hx)
  go_enter Try.func59, Try.ntmps59
  go_wp2
  generalize hW : ((w.alloc (.cells #[.int .i64 fk, .int .i64 fp, .int .i64 fn] 27)).alloc (.cells #[.int .i64 tk, .int .i64 tp, .int .i64 tn] 27)).alloc (.cells #[.int .i64 3, .int .i64 ha] 29) = W at HV HX ⊢
  clear hW
  obtain ⟨c0, c1, c2, d0, d1, d2, e0, e1⟩ := HV.out.cells
  have hX := HX.out
  go_still_tail 8, (by kernel_rfl)
  change wpList _ _ _ _ _ W.drew
  have HD := Lib.hid HV.out.bel.drew
  generalize hw2 : W.drew = w2 at HD ⊢
  clear hw2
  go_wp2_with fail
  refine (bit_spec _ _).mono ?_
  intro e w3 h3
  obtain ⟨v, rfl, ho, hb3⟩ := row_pass HD.out h3
  clear h3
  have HO := Lib.hid ho
  have HB := Lib.hid hb3
  clear ho hb3
  go_wp2
  go_ret
  exact ⟨v, rfl, HO.out, HB.out⟩

set_option maxRecDepth 100000 in
set_option maxHeartbeats 1600000 in
theorem map_4 (bx ox cx m : Nat) (fk fp fn tk tp tn ha x : Int) (w : World) (hbx : bx < w.heap.size) (hx : w.cell? ⟨bx, ox, none⟩ = some (.int .i64 x)) (hm0 : 0 < m)  :
    Calls Try.prog 59 #[ringV fk fp fn, ringV tk tp tn, homV 4 ha, .slice (some ⟨bx, ox, none⟩) m cx] w (NewRow w (bitL (decide (ha ≤ x)))) := by
  have HV := Lib.hid (Inv3.box w fk fp fn tk tp tn 4 ha 27 29)
  have HX := Lib.hid ((HV.out.bel.cell (p := ⟨bx, ox, none⟩) hbx).trans hx)
  go_enter Try.func59, Try.ntmps59
  go_wp2
  generalize hW : ((w.alloc (.cells #[.int .i64 fk, .int .i64 fp, .int .i64 fn] 27)).alloc (.cells #[.int .i64 tk, .int .i64 tp, .int .i64 tn] 27)).alloc (.cells #[.int .i64 4, .int .i64 ha] 29) = W at HV HX ⊢
  clear hW
  obtain ⟨c0, c1, c2, d0, d1, d2, e0, e1⟩ := HV.out.cells
  have hX := HX.out
  go_still_tail 6, (by kernel_rfl)
  change wpList _ _ _ _ _ W.drew
  have HD := Lib.hid HV.out.bel.drew
  generalize hw2 : W.drew = w2 at HD ⊢
  clear hw2
  go_wp2_with fail
  refine (bit_spec _ _).mono ?_
  intro e w3 h3
  obtain ⟨v, rfl, ho, hb3⟩ := row_pass HD.out h3
  clear h3
  have HO := Lib.hid ho
  have HB := Lib.hid hb3
  clear ho hb3
  go_wp2
  go_ret
  exact ⟨v, rfl, HO.out, HB.out⟩

set_option maxRecDepth 100000 in
set_option maxHeartbeats 1600000 in
theorem map_5 (bx ox cx m : Nat) (fk fp fn tk tp tn ha x : Int) (w : World) (hbx : bx < w.heap.size) (hx : w.cell? ⟨bx, ox, none⟩ = some (.int .i64 x)) (hm0 : 0 < m)  :
    Calls Try.prog 59 #[ringV fk fp fn, ringV tk tp tn, homV 5 ha, .slice (some ⟨bx, ox, none⟩) m cx] w (NewRow w ([x])) := by
  have HV := Lib.hid (Inv3.box w fk fp fn tk tp tn 5 ha 27 29)
  have HX := Lib.hid ((HV.out.bel.cell (p := ⟨bx, ox, none⟩) hbx).trans hx)
  go_enter Try.func59, Try.ntmps59
  have hX := HX.out
  go_wp2
  go_ret
  exact new_one_at HV.out.bel (by simp)

set_option maxRecDepth 100000 in
set_option maxHeartbeats 1600000 in
theorem map_8a (bx ox cx m : Nat) (fk fp fn tk tp tn ha x : Int) (w : World) (hbx : bx < w.heap.size) (hx : w.cell? ⟨bx, ox, none⟩ = some (.int .i64 x)) (hm0 : 0 < m) (h1 : (x == 1) = false) (hr : ringB tk tp tn = true) :
    Calls Try.prog 59 #[ringV fk fp fn, ringV tk tp tn, homV 8 ha, .slice (some ⟨bx, ox, none⟩) m cx] w (NewRow w (zeroL tk tp tn)) := by
  have HV := Lib.hid (Inv3.box w fk fp fn tk tp tn 8 ha 27 29)
  have HX := Lib.hid ((HV.out.bel.cell (p := ⟨bx, ox, none⟩) hbx).trans hx)
  have HR := Lib.hid hr
  clear hr
  go_enter Try.func59, Try.ntmps59
  have hX := HX.out
  go_wp2_with fail
  refine (zero_spec tk tp tn _ HR.out).mono ?_
  intro e w3 h3
  obtain ⟨v, rfl, ho, hb3⟩ := row_pass HV.out.bel h3
  clear h3
  have HO := Lib.hid ho
  have HB := Lib.hid hb3
  clear ho hb3
  go_wp2
  go_ret
  exact ⟨v, rfl, HO.out, HB.out⟩

set_option maxRecDepth 100000 in
set_option maxHeartbeats 1600000 in
theorem map_8b (bx ox cx m : Nat) (fk fp fn tk tp tn ha x : Int) (w : World) (hbx : bx < w.heap.size) (hx : w.cell? ⟨bx, ox, none⟩ = some (.int .i64 x)) (hm0 : 0 < m) (h1 : x = 1) (hr : ringB tk tp tn = true) :
    Calls Try.prog 59 #[ringV fk fp fn, ringV tk tp tn, homV 8 ha, .slice (some ⟨bx, ox, none⟩) m cx] w (NewRow w (oneL tk tp tn)) := by
  have HV := Lib.hid (Inv3.box w fk fp fn tk tp tn 8 ha 27 29)
  have HX := Lib.hid ((HV.out.bel.cell (p := ⟨bx, ox, none⟩) hbx).trans hx)
  subst h1
  have HR := Lib.hid hr
  clear hr
  go_enter Try.func59, Try.ntmps59
  have hX := HX.out
  go_wp2_with fail
  refine (one_spec tk tp tn _ HR.out).mono ?_
  intro e w3 h3
  obtain ⟨v, rfl, ho, hb3⟩ := row_pass HV.out.bel h3
  clear h3
  have HO := Lib.hid ho
  have HB := Lib.hid hb3
  clear ho hb3
  go_wp2
  go_ret
  exact ⟨v, rfl, HO.out, HB.out⟩

set_option maxRecDepth 100000 in
set_option maxHeartbeats 1600000 in
theorem map_1 (bx ox cx m : Nat) (fk fp fn tk tp tn ha : Int) (xs : List Int) (w : World) (hbx : bx < w.heap.size) (hm : xs.length = m) (hc : ∀ i (h : i < xs.length), w.cell? ⟨bx, ox + i, none⟩ = some (.int .i64 xs[i])) (hm1 : m ≤ 6) :
    Calls Try.prog 59 #[ringV fk fp fn, ringV tk tp tn, homV 1 ha, .slice (some ⟨bx, ox, none⟩) m cx] w (NewRow w (xs)) := by
  have HV := Lib.hid (Inv3.box w fk fp fn tk tp tn 1 ha 27 29)
  have HM := Lib.hid hm
  have HC : Hid (∀ i (h : i < xs.length), (((w.alloc (.cells (ringC fk fp fn) 27)).alloc (.cells (ringC tk tp tn) 27)).alloc (.cells (homC 1 ha) 29)).cell? ⟨bx, ox + i, none⟩ = some (.int .i64 xs[i])) := Lib.hid (fun i h => (HV.out.bel.cell (p := ⟨bx, ox + i, none⟩) hbx).trans (hc i h))
  clear hm hc
  go_enter Try.func59, Try.ntmps59
  obtain ⟨i0, hi, hz0, hz1, hz2⟩ := info_parts infoInt
  have J0 := Lib.hid hi
  have J1 := Lib.hid hz0
  have J2 := Lib.hid hz1
  have J3 := Lib.hid hz2
  clear hi hz0 hz1 hz2
  have HL : Hid (((((w.alloc (.cells #[.int .i64 fk, .int .i64 fp, .int .i64 fn] 27)).alloc (.cells #[.int .i64 tk, .int .i64 tp, .int .i64 tn] 27)).alloc (.cells #[.int .i64 1, .int .i64 ha] 29)).alloc (.cells #[] 3)).ownsRow w.heap.size 3 1 (.slice (some ⟨w.heap.size + 1 + 1 + 1, 0, none⟩) 0 0) 0 []) := Lib.hid (by
    have h := World.ownsRow_lit (base := w.heap.size) (e := 3) (size := 1) (((w.alloc (.cells #[.int .i64 fk, .int .i64 fp, .int .i64 fn] 27)).alloc (.cells #[.int .i64 tk, .int .i64 tp, .int .i64 tn] 27)).alloc (.cells #[.int .i64 1, .int .i64 ha] 29)) #[] 0 HV.out.bel.size (by unfold maxLen; omega) rfl
    rw [World.size_alloc, World.size_alloc, World.size_alloc] at h
    exact h)
  have HN : Hid (∀ j u, (ints (xs))[j]? = some u → ((((w.alloc (.cells #[.int .i64 fk, .int .i64 fp, .int .i64 fn] 27)).alloc (.cells #[.int .i64 tk, .int .i64 tp, .int .i64 tn] 27)).alloc (.cells #[.int .i64 1, .int .i64 ha] 29)).alloc (.cells #[] 3)).cell? ((⟨bx, ox, none⟩ : Addr).add j) = some u) := Lib.hid (fun j u hj => by
    rw [← news_at (w := ((w.alloc (.cells #[.int .i64 fk, .int .i64 fp, .int .i64 fn] 27)).alloc (.cells #[.int .i64 tk, .int .i64 tp, .int .i64 tn] 27)).alloc (.cells #[.int .i64 1, .int .i64 ha] 29)) (b := bx) (off := ox) (xs := xs) (HC.out) j u hj, Addr.add_lit]
    exact ((Below.refl (((w.alloc (.cells #[.int .i64 fk, .int .i64 fp, .int .i64 fn] 27)).alloc (.cells #[.int .i64 tk, .int .i64 tp, .int .i64 tn] 27)).alloc (.cells #[.int .i64 1, .int .i64 ha] 29)).heap.size (((w.alloc (.cells #[.int .i64 fk, .int .i64 fp, .int .i64 fn] 27)).alloc (.cells #[.int .i64 tk, .int .i64 tp, .int .i64 tn] 27)).alloc (.cells #[.int .i64 1, .int .i64 ha] 29))).alloc (Nat.le_refl _) _).cell (p := ⟨bx, ox + j, none⟩) (Nat.lt_of_lt_of_le hbx HV.out.bel.size))
  go_wp2_with (at_builtin; go_must (refine wpList_append_own _ rfl _ _ 32 rfl w.heap.size 3 i0 (.int .i64 0) 1 8 Try.underlying32 J0.out J1.out J2.out J3.out rfl (by decide) _ _ _ rfl HL.out ⟨bx, ox, none⟩ m cx (ints (xs)) rfl ?c1 HN.out (one_cells _) ?c2 ?c3 ?c4 ?_))
  case c1 => rw [ints_len]; (try rw [List.length_take]); rw [HM.out]; omega
  case c2 => unfold maxLen; omega
  case c3 => omega
  case c4 => have := HV.out.bel.size; simp; omega
  intro v' w2 hown hg _
  have RES : Hid (NewRow w (xs) (.returned v') w2) := Lib.hid ⟨v', rfl, Own.of (n := 0 + m) (by simpa using hown) (by (try rw [List.length_take]); rw [HM.out]; omega), by
    have := (HV.out.bel.alloc HV.out.bel.size (.cells #[] 3)).grown hg (by have := HV.out.bel.size; simp; omega) (fun j hj => by cases hj; simp; omega)
    exact this⟩
  clear hown hg
  go_wp2
  go_ret
  exact RES.out

set_option maxRecDepth 100000 in
set_option maxHeartbeats 1600000 in
theorem map_77 (bx ox cx m q : Nat) (fp fn tk tp ha : Int) (xs : List Int) (w : World) (hbx : bx < w.heap.size) (hm : xs.length = m) (hc : ∀ i (h : i < xs.length), w.cell? ⟨bx, ox + i, none⟩ = some (.int .i64 xs[i])) (hm1 : m ≤ 6) (hqm : q ≤ m) (hmc : m ≤ cx) :
    Calls Try.prog 59 #[ringV 7 fp fn, ringV tk tp (q : Int), homV 7 ha, .slice (some ⟨bx, ox, none⟩) m cx] w (NewRow w (xs.take q)) := by
  have HV := Lib.hid (Inv3.box w 7 fp fn tk tp (q : Int) 7 ha 27 29)
  have HM := Lib.hid hm
  have HC : Hid (∀ i (h : i < xs.length), (((w.alloc (.cells (ringC 7 fp fn) 27)).alloc (.cells (ringC tk tp (q : Int)) 27)).alloc (.cells (homC 7 ha) 29)).cell? ⟨bx, ox + i, none⟩ = some (.int .i64 xs[i])) := Lib.hid (fun i h => (HV.out.bel.cell (p := ⟨bx, ox + i, none⟩) hbx).trans (hc i h))
  clear hm hc
  go_enter Try.func59, Try.ntmps59
  obtain ⟨i0, hi, hz0, hz1, hz2⟩ := info_parts infoInt
  have J0 := Lib.hid hi
  have J1 := Lib.hid hz0
  have J2 := Lib.hid hz1
  have J3 := Lib.hid hz2
  clear hi hz0 hz1 hz2
  have HL : Hid (((((w.alloc (.cells #[.int .i64 7, .int .i64 fp, .int .i64 fn] 27)).alloc (.cells #[.int .i64 tk, .int .i64 tp, .int .i64 (q : Int)] 27)).alloc (.cells #[.int .i64 7, .int .i64 ha] 29)).alloc (.cells #[] 3)).ownsRow w.heap.size 3 1 (.slice (some ⟨w.heap.size + 1 + 1 + 1, 0, none⟩) 0 0) 0 []) := Lib.hid (by
    have h := World.ownsRow_lit (base := w.heap.size) (e := 3) (size := 1) (((w.alloc (.cells #[.int .i64 7, .int .i64 fp, .int .i64 fn] 27)).alloc (.cells #[.int .i64 tk, .int .i64 tp, .int .i64 (q : Int)] 27)).alloc (.cells #[.int .i64 7, .int .i64 ha] 29)) #[] 0 HV.out.bel.size (by unfold maxLen; omega) rfl
    rw [World.size_alloc, World.size_alloc, World.size_alloc] at h
    exact h)
  have HN : Hid (∀ j u, (ints (xs.take q))[j]? = some u → ((((w.alloc (.cells #[.int .i64 7, .int .i64 fp, .int .i64 fn] 27)).alloc (.cells #[.int .i64 tk, .int .i64 tp, .int .i64 (q : Int)] 27)).alloc (.cells #[.int .i64 7, .int .i64 ha] 29)).alloc (.cells #[] 3)).cell? ((⟨bx, ox, none⟩ : Addr).add j) = some u) := Lib.hid (fun j u hj => by
    rw [← news_at (w := ((w.alloc (.cells #[.int .i64 7, .int .i64 fp, .int .i64 fn] 27)).alloc (.cells #[.int .i64 tk, .int .i64 tp, .int .i64 (q : Int)] 27)).alloc (.cells #[.int .i64 7, .int .i64 ha] 29)) (b := bx) (off := ox) (xs := xs.take q) (fun i h => by rw [List.getElem_take]; exact HC.out i (by rw [List.length_take] at h; omega)) j u hj, Addr.add_lit]
    exact ((Below.refl (((w.alloc (.cells #[.int .i64 7, .int .i64 fp, .int .i64 fn] 27)).alloc (.cells #[.int .i64 tk, .int .i64 tp, .int .i64 (q : Int)] 27)).alloc (.cells #[.int .i64 7, .int .i64 ha] 29)).heap.size (((w.alloc (.cells #[.int .i64 7, .int .i64 fp, .int .i64 fn] 27)).alloc (.cells #[.int .i64 tk, .int .i64 tp, .int .i64 (q : Int)] 27)).alloc (.cells #[.int .i64 7, .int .i64 ha] 29))).alloc (Nat.le_refl _) _).cell (p := ⟨bx, ox + j, none⟩) (Nat.lt_of_lt_of_le hbx HV.out.bel.size))
  go_wp2_with (at_builtin; go_must (refine wpList_append_own _ rfl _ _ 32 rfl w.heap.size 3 i0 (.int .i64 0) 1 8 Try.underlying32 J0.out J1.out J2.out J3.out rfl (by decide) _ _ _ rfl HL.out ⟨bx, ox, none⟩ q cx (ints (xs.take q)) rfl ?c1 HN.out (one_cells _) ?c2 ?c3 ?c4 ?_))
  case c1 => rw [ints_len]; (try rw [List.length_take]); rw [HM.out]; omega
  case c2 => unfold maxLen; omega
  case c3 => omega
  case c4 => have := HV.out.bel.size; simp; omega
  intro v' w2 hown hg _
  have RES : Hid (NewRow w (xs.take q) (.returned v') w2) := Lib.hid ⟨v', rfl, Own.of (n := 0 + q) (by simpa using hown) (by (try rw [List.length_take]); rw [HM.out]; omega), by
    have := (HV.out.bel.alloc HV.out.bel.size (.cells #[] 3)).grown hg (by have := HV.out.bel.size; simp; omega) (fun j hj => by cases hj; simp; omega)
    exact this⟩
  clear hown hg
  go_wp2
  go_ret
  exact RES.out

set_option maxRecDepth 100000 in
set_option maxHeartbeats 1600000 in
theorem map_7oa (bx ox cx m : Nat) (fk fp fn tk tp tn ha x : Int) (w : World) (hbx : bx < w.heap.size) (hx : w.cell? ⟨bx, ox, none⟩ = some (.int .i64 x)) (hm0 : 0 < m) (h7 : (fk == 7) = false) (h6 : (fk == 6) = false) (hlt : tp < x) :
    Calls Try.prog 59 #[ringV fk fp fn, ringV tk tp tn, homV 7 ha, .slice (some ⟨bx, ox, none⟩) m cx] w (NewRow w ([tp])) := by
  have HV := Lib.hid (Inv3.box w fk fp fn tk tp tn 7 ha 27 29)
  have HX := Lib.hid ((HV.out.bel.cell (p := ⟨bx, ox, none⟩) hbx).trans hx)
  have hd : decide (tp < x) = true := by simpa using hlt
  go_enter Try.func59, Try.ntmps59
  go_wp2
  generalize hW : ((w.alloc (.cells #[.int .i64 fk, .int .i64 fp, .int .i64 fn] 27)).alloc (.cells #[.int .i64 tk, .int .i64 tp, .int .i64 tn] 27)).alloc (.cells #[.int .i64 7, .int .i64 ha] 29) = W at HV HX ⊢
  clear hW
  obtain ⟨c0, c1, c2, d0, d1, d2, e0, e1⟩ := HV.out.cells
  have hX := HX.out
  go_still_tail 6, (by kernel_rfl)
  change wpList _ _ _ _ _ W.drew
  have HD := Lib.hid HV.out.bel.drew
  generalize hw2 : W.drew = w2 at HD ⊢
  clear hw2
  go_wp2
  go_ret
  exact new_one HD.out

set_option maxRecDepth 100000 in
set_option maxHeartbeats 1600000 in
theorem map_7ob (bx ox cx m : Nat) (fk fp fn tk tp tn ha x : Int) (w : World) (hbx : bx < w.heap.size) (hx : w.cell? ⟨bx, ox, none⟩ = some (.int .i64 x)) (hm0 : 0 < m) (h7 : (fk == 7) = false) (h6 : (fk == 6) = false) (hlt : x ≤ tp) :
    Calls Try.prog 59 #[ringV fk fp fn, ringV tk tp tn, homV 7 ha, .slice (some ⟨bx, ox, none⟩) m cx] w (NewRow w ([x])) := by
  have HV := Lib.hid (Inv3.box w fk fp fn tk tp tn 7 ha 27 29)
  have HX := Lib.hid ((HV.out.bel.cell (p := ⟨bx, ox, none⟩) hbx).trans hx)
  have hd : decide (tp < x) = false := by simp; omega
  go_enter Try.func59, Try.ntmps59
  go_wp2
  generalize hW : ((w.alloc (.cells #[.int .i64 fk, .int .i64 fp, .int .i64 fn] 27)).alloc (.cells #[.int .i64 tk, .int .i64 tp, .int .i64 tn] 27)).alloc (.cells #[.int .i64 7, .int .i64 ha] 29) = W at HV HX ⊢
  clear hW
  obtain ⟨c0, c1, c2, d0, d1, d2, e0, e1⟩ := HV.out.cells
  have hX := HX.out
  go_still_tail 6, (by kernel_rfl)
  change wpList _ _ _ _ _ W.drew
  have HD := Lib.hid HV.out.bel.drew
  generalize hw2 : W.drew = w2 at HD ⊢
  clear hw2
  go_wp2
  go_ret
  exact new_one HD.out

set_option maxRecDepth 100000 in
set_option maxHeartbeats 1600000 in
theorem map_76 (bx ox cx m : Nat) (fp fn tp tn ha x : Int) (w : World) (hbx : bx < w.heap.size) (hx : w.cell? ⟨bx, ox, none⟩ = some (.int .i64 x)) (hm0 : 0 < m) (hr : ringB 6 tp tn = true) :
    Calls Try.prog 59 #[ringV 6 fp fn, ringV 6 tp tn, homV 7 ha, .slice (some ⟨bx, ox, none⟩) m cx] w (NewRow w ([bits .and .i64 x (topI 6 tp tn)])) := by
  have HV := Lib.hid (Inv3.box w 6 fp fn 6 tp tn 7 ha 27 29)
  have HX := Lib.hid ((HV.out.bel.cell (p := ⟨bx, ox, none⟩) hbx).trans hx)
  have HR := Lib.hid hr
  clear hr
  go_enter Try.func59, Try.ntmps59
  go_wp2
  generalize hW : ((w.alloc (.cells #[.int .i64 6, .int .i64 fp, .int .i64 fn] 27)).alloc (.cells #[.int .i64 6, .int .i64 tp, .int .i64 tn] 27)).alloc (.cells #[.int .i64 7, .int .i64 ha] 29) = W at HV HX ⊢
  clear hW
  obtain ⟨c0, c1, c2, d0, d1, d2, e0, e1⟩ := HV.out.cells
  have hX := HX.out
  have HD := Lib.hid HV.out.bel.drew
  have LT := Lib.hid HV.out.lt
  have hbX : bx < W.heap.size := Nat.lt_of_lt_of_le hbx HV.out.bel.size
  have hbR : w.heap.size + 1 < W.heap.size := by have := LT.out; omega
  go_region_held3 (fun w' => w'.cell? ⟨w.heap.size + 1, 0, none⟩ = some (.int .i64 6) ∧ w'.cell? ⟨w.heap.size + 1, 1, none⟩ = some (.int .i64 tp) ∧ w'.cell? ⟨w.heap.size + 1, 2, none⟩ = some (.int .i64 tn) ∧ w'.cell? ⟨bx, ox, none⟩ = some (.int .i64 x)) (first | exact ⟨d0, d1, d2, hX⟩ | exact HK.out _) (first
    | (go_at_call 78; refine (top_spec 6 tp tn _ HR.out).mono ?_; rintro e w2 ⟨rfl, hb2⟩; have HB := Lib.hid (HD.out.trans (hb2.mono HD.out.size)); obtain ⟨d0, d1, d2, hX⟩ := (⟨(hb2.cell (p := ⟨w.heap.size + 1, 0, none⟩) hbR).trans d0, (hb2.cell (p := ⟨w.heap.size + 1, 1, none⟩) hbR).trans d1, (hb2.cell (p := ⟨w.heap.size + 1, 2, none⟩) hbR).trans d2, (hb2.cell (p := ⟨bx, ox, none⟩) hbX).trans hX⟩ : _ ∧ _ ∧ _ ∧ _); have HK := Lib.hid (fun (o : Obj) => (⟨(((Below.refl w2.heap.size w2).alloc (Nat.le_refl _) o).cell (p := ⟨w.heap.size + 1, 0, none⟩) (Nat.lt_of_lt_of_le hbR hb2.size)).trans d0, (((Below.refl w2.heap.size w2).alloc (Nat.le_refl _) o).cell (p := ⟨w.heap.size + 1, 1, none⟩) (Nat.lt_of_lt_of_le hbR hb2.size)).trans d1, (((Below.refl w2.heap.size w2).alloc (Nat.le_refl _) o).cell (p := ⟨w.heap.size + 1, 2, none⟩) (Nat.lt_of_lt_of_le hbR hb2.size)).trans d2, (((Below.refl w2.heap.size w2).alloc (Nat.le_refl _) o).cell (p := ⟨bx, ox, none⟩) (Nat.lt_of_lt_of_le hbX hb2.size)).trans hX⟩ : _ ∧ _ ∧ _ ∧ _)); clear hb2))
  all_goals (go_wp2; go_ret; exact new_one HB.out)

end Go.Proofs.Ytjkajbbipgmdoaa
