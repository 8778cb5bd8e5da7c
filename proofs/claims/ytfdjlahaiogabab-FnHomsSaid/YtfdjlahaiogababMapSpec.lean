
/- spec.l03Map, kind by kind. -/
import Derived.Test.YtfdjlahaiogababImage
import Derived.Deep.QuietTactic
import Derived.BigQuiet
namespace Go.Proofs.Ytfdjlahaiogabab
set_option maxRecDepth 20000
open Go.RowKit

theorem new_one_at {w W : World} {v : Int} {g : Nat} (hb : Below w.heap.size w W) (hg : g = W.heap.size) : NewRow w [v] (.returned (.slice (some ⟨g, 0, none⟩) 1 1)) (W.alloc (.cells #[.int .i64 v] 3)) := hg ▸ new_one hb

set_option maxRecDepth 100000 in
set_option maxHeartbeats 1600000 in
theorem map_23 (bx ox cx m : Nat) (fp fn tk tp tn ha x : Int) (w : World) (hbx : bx < w.heap.size) (hx : w.cell? ⟨bx, ox, none⟩ = some (.int .i64 x)) (hm0 : 0 < m)  :
    Calls Try.prog 141 #[ringV 3 fp fn, ringV tk tp tn, homV 2 ha, .slice (some ⟨bx, ox, none⟩) m cx] w (NewRow w (bitL (decide (0 < x)))) := by
  have HV := Lib.hid (Inv3.box w 3 fp fn tk tp tn 2 ha 31 45)
  have HX := Lib.hid ((HV.out.bel.cell (p := ⟨bx, ox, none⟩) hbx).trans hx)
  go_enter Try.func141, Try.ntmps141
  go_wp2
  generalize hW : ((w.alloc (.cells #[.int .i64 3, .int .i64 fp, .int .i64 fn] 31)).alloc (.cells #[.int .i64 tk, .int .i64 tp, .int .i64 tn] 31)).alloc (.cells #[.int .i64 2, .int .i64 ha] 45) = W at HV HX ⊢
  clear hW
  obtain ⟨c0, c1, c2, d0, d1, d2, e0, e1⟩ := HV.out.cells
  have hX := HX.out
  go_still_tail 8, (by kernel_rfl)
  change wpList _ _ _ _ _ W.drew
  have HD := Lib.hid HV.out.bel.drew
  generalize hw2 : W.drew = w2 at HD ⊢
  clear hw2
  go_wp2_with fail
  refine (bit_spec _ _).mono ?_
  intro e w3 h3
  obtain ⟨v, rfl, ho, hb3⟩ := row_pass HD.out h3
  clear h3
  have HO := Lib.hid ho
  have HB := Lib.hid hb3
  clear ho hb3
  go_wp2
  go_ret
  exact ⟨v, rfl, HO.out, HB.out⟩

set_option maxRecDepth 100000 in
set_option maxHeartbeats 1600000 in
theorem map_24 (bx ox cx m : Nat) (fp fn tk tp tn ha x : Int) (w : World) (hbx : bx < w.heap.size) (hx : w.cell? ⟨bx, ox, none⟩ = some (.int .i64 x)) (hm0 : 0 < m)  :
    Calls Try.prog 141 #[ringV 4 fp fn, ringV tk tp tn, homV 2 ha, .slice (some ⟨bx, ox, none⟩) m cx] w (NewRow w (bitL (!decide (0 < x)))) := by
  have HV := Lib.hid (Inv3.box w 4 fp fn tk tp tn 2 ha 31 45)
  have HX := Lib.hid ((HV.out.bel.cell (p := ⟨bx, ox, none⟩) hbx).trans hx)
  go_enter Try.func141, Try.ntmps141
  go_wp2
  generalize hW : ((w.alloc (.cells #[.int .i64 4, .int .i64 fp, .int .i64 fn] 31)).alloc (.cells #[.int .i64 tk, .int .i64 tp, .int .i64 tn] 31)).alloc (.cells #[.int .i64 2, .int .i64 ha] 45) = W at HV HX ⊢
  clear hW
  obtain ⟨c0, c1, c2, d0, d1, d2, e0, e1⟩ := HV.out.cells
  have hX := HX.out
  go_still_tail 8, (by kernel_rfl)
  change wpList _ _ _ _ _ W.drew
  have HD := Lib.hid HV.out.bel.drew
  generalize hw2 : W.drew = w2 at HD ⊢
  clear hw2
  go_wp2_with fail
  refine (bit_spec _ _).mono ?_
  intro e w3 h3
  obtain ⟨v, rfl, ho, hb3⟩ := row_pass HD.out h3
  clear h3
  have HO := Lib.hid ho
  have HB := Lib.hid hb3
  clear ho hb3
  go_wp2
  go_ret
  exact ⟨v, rfl, HO.out, HB.out⟩

set_option maxRecDepth 100000 in
set_option maxHeartbeats 1600000 in
theorem map_3 (bx ox cx m : Nat) (fk fp fn tk tp tn ha x : Int) (w : World) (hbx : bx < w.heap.size) (hx : w.cell? ⟨bx, ox, none⟩ = some (.int .i64 x)) (hm0 : 0 < m) (h1 : 0 ≤ ha) (h2 : ha ≤ 64) :
    Calls Try.prog 141 #[ringV fk fp fn, ringV tk tp tn, homV 3 ha, .slice (some ⟨bx, ox, none⟩) m cx] w (NewRow w (bitL (bits .and .i64 (x / 2 ^ ha.toNat) 1 == 1))) := by
  have HV := Lib.hid (Inv3.box w fk fp fn tk tp tn 3 ha 31 45)
  have HX := Lib.hid ((HV.out.bel.cell (p := ⟨bx, ox, none⟩) hbx).trans hx)
  go_enter Try.func141, Try.ntmps141
  go_wp2
  generalize hW : ((w.alloc (.cells #[.int .i64 fk, .int .i64 fp, .int .i64 fn] 31)).alloc (.cells #[.int .i64 tk, .int .i64 tp, .int .i64 tn] 31)).alloc (.cells #[.int .i64 3, .int .i64 ha] 45) = W at HV HX ⊢
  clear hW
  obtain ⟨c0, c1, c2, d0, d1, d2, e0, e1⟩ := HV.out.cells
  have hX := HX.out
  go_still_tail 8, (by kernel_rfl)
  change wpList _ _ _ _ _ W.drew
  have HD := Lib.hid HV.out.bel.drew
  generalize hw2 : W.drew = w2 at HD ⊢
  clear hw2
  go_wp2_with fail
  refine (bit_spec _ _).mono ?_
  intro e w3 h3
  obtain ⟨v, rfl, ho, hb3⟩ := row_pass HD.out h3
  clear h3
  have HO := Lib.hid ho
  have HB := Lib.hid hb3
  clear ho hb3
  go_wp2
  go_ret
  exact ⟨v, rfl, HO.out, HB.out⟩

set_option maxRecDepth 100000 in
set_option maxHeartbeats 1600000 in
theorem map_4 (bx ox cx m : Nat) (fk fp fn tk tp tn ha x : Int) (w : World) (hbx : bx < w.heap.size) (hx : w.cell? ⟨bx, ox, none⟩ = some (.int .i64 x)) (hm0 : 0 < m)  :
    Calls Try.prog 141 #[ringV fk fp fn, ringV tk tp tn, homV 4 ha, .slice (some ⟨bx, ox, none⟩) m cx] w (NewRow w (bitL (decide (ha ≤ x)))) := by
  have HV := Lib.hid (Inv3.box w fk fp fn tk tp tn 4 ha 31 45)
  have HX := Lib.hid ((HV.out.bel.cell (p := ⟨bx, ox, none⟩) hbx).trans hx)
  go_enter Try.func141, Try.ntmps141
  go_wp2
  generalize hW : ((w.alloc (.cells #[.int .i64 fk, .int .i64 fp, .int .i64 fn] 31)).alloc (.cells #[.int .i64 tk, .int .i64 tp, .int .i64 tn] 31)).alloc (.cells #[.int .i64 4, .int .i64 ha] 45) = W at HV HX ⊢
  clear hW
  obtain ⟨c0, c1, c2, d0, d1, d2, e0, e1⟩ := HV.out.cells
  have hX := HX.out
  go_still_tail 6, (by kernel_rfl)
  change wpList _ _ _ _ _ W.drew
  have HD := Lib.hid HV.out.bel.drew
  generalize hw2 : W.drew = w2 at HD ⊢
  clear hw2
  go_wp2_with fail
  refine (bit_spec _ _).mono ?_
  intro e w3 h3
  obtain ⟨v, rfl, ho, hb3⟩ := row_pass HD.out h3
  clear h3
  have HO := Lib.hid ho
  have HB := Lib.hid hb3
  clear ho hb3
  go_wp2
  go_ret
  exact ⟨v, rfl, HO.out, HB.out⟩

set_option maxRecDepth 100000 in
set_option maxHeartbeats 1600000 in
theorem map_5 (bx ox cx m : Nat) (fk fp fn tk tp tn ha x : Int) (w : World) (hbx : bx < w.heap.size) (hx : w.cell? ⟨bx, ox, none⟩ = some (.int .i64 x)) (hm0 : 0 < m)  :
    Calls Try.prog 141 #[ringV fk fp fn, ringV tk tp tn, homV 5 ha, .slice (some ⟨bx, ox, none⟩) m cx] w (NewRow w ([x])) := by
  have HV := Lib.hid (Inv3.box w fk fp fn tk tp tn 5 ha 31 45)
  have HX := Lib.hid ((HV.out.bel.cell (p := ⟨bx, ox, none⟩) hbx).trans hx)
  go_enter Try.func141, Try.ntmps141
  have hX := HX.out
  go_wp2
  go_ret
  exact new_one_at HV.out.bel (by simp)

set_option maxRecDepth 100000 in
set_option maxHeartbeats 1600000 in
theorem map_8a (bx ox cx m : Nat) (fk fp fn tk tp tn ha x : Int) (w : World) (hbx : bx < w.heap.size) (hx : w.cell? ⟨bx, ox, none⟩ = some (.int .i64 x)) (hm0 : 0 < m) (h1 : (x == 1) = false) (hr : ringB tk tp tn = true) :
    Calls Try.prog 141 #[ringV fk fp fn, ringV tk tp tn, homV 8 ha, .slice (some ⟨bx, ox, none⟩) m cx] w (NewRow w (zeroL tk tp tn)) := by
  have HV := Lib.hid (Inv3.box w fk fp fn tk tp tn 8 ha 31 45)
  have HX := Lib.hid ((HV.out.bel.cell (p := ⟨bx, ox, none⟩) hbx).trans hx)
  have HR := Lib.hid hr
  clear hr
  go_enter Try.func141, Try.ntmps141
  have hX := HX.out
  go_wp2_with fail
  refine (zero_spec tk tp tn _ HR.out).mono ?_
  intro e w3 h3
  obtain ⟨v, rfl, ho, hb3⟩ := row_pass HV.out.bel h3
  clear h3
  have HO := Lib.hid ho
  have HB := Lib.hid hb3
  clear ho hb3
  go_wp2
  go_ret
  exact ⟨v, rfl, HO.out, HB.out⟩

set_option maxRecDepth 100000 in
set_option maxHeartbeats 1600000 in
theorem map_8b (bx ox cx m : Nat) (fk fp fn tk tp tn ha x : Int) (w : World) (hbx : bx < w.heap.size) (hx : w.cell? ⟨bx, ox, none⟩ = some (.int .i64 x)) (hm0 : 0 < m) (h1 : x = 1) (hr : ringB tk tp tn = true) :
    Calls Try.prog 141 #[ringV fk fp fn, ringV tk tp tn, homV 8 ha, .slice (some ⟨bx, ox, none⟩) m cx] w (NewRow w (oneL tk tp tn)) := by
  have HV := Lib.hid (Inv3.box w fk fp fn tk tp tn 8 ha 31 45)
  have HX := Lib.hid ((HV.out.bel.cell (p := ⟨bx, ox, none⟩) hbx).trans hx)
  subst h1
  have HR := Lib.hid hr
  clear hr
  go_enter Try.func141, Try.ntmps141
  have hX := HX.out
  go_wp2_with fail
  refine (one_spec tk tp tn _ HR.out).mono ?_
  intro e w3 h3
  obtain ⟨v, rfl, ho, hb3⟩ := row_pass HV.out.bel h3
  clear h3
  have HO := Lib.hid ho
  have HB := Lib.hid hb3
  clear ho hb3
  go_wp2
  go_ret
  exact ⟨v, rfl, HO.out, HB.out⟩

set_option maxRecDepth 100000 in
set_option maxHeartbeats 1600000 in
theorem map_1 (bx ox cx m : Nat) (fk fp fn tk tp tn ha : Int) (xs : List Int) (w : World) (hbx : bx < w.heap.size) (hm : xs.length = m) (hc : ∀ i (h : i < xs.length), w.cell? ⟨bx, ox + i, none⟩ = some (.int .i64 xs[i])) (hm1 : m ≤ 6) :
    Calls Try.prog 141 #[ringV fk fp fn, ringV tk tp tn, homV 1 ha, .slice (some ⟨bx, ox, none⟩) m cx] w (NewRow w (xs)) := by
  have HV := Lib.hid (Inv3.box w fk fp fn tk tp tn 1 ha 31 45)
  have HM := Lib.hid hm
  have HC : Hid (∀ i (h : i < xs.length), (((w.alloc (.cells (ringC fk fp fn) 31)).alloc (.cells (ringC tk tp tn) 31)).alloc (.cells (homC 1 ha) 45)).cell? ⟨bx, ox + i, none⟩ = some (.int .i64 xs[i])) := Lib.hid (fun i h => (HV.out.bel.cell (p := ⟨bx, ox + i, none⟩) hbx).trans (hc i h))
  clear hm hc
  go_enter Try.func141, Try.ntmps141
  obtain ⟨i0, hi, hz0, hz1, hz2⟩ := info_parts infoInt
  have J0 := Lib.hid hi
  have J1 := Lib.hid hz0
  have J2 := Lib.hid hz1
  have J3 := Lib.hid hz2
  clear hi hz0 hz1 hz2
  have HL : Hid (((((w.alloc (.cells #[.int .i64 fk, .int .i64 fp, .int .i64 fn] 31)).alloc (.cells #[.int .i64 tk, .int .i64 tp, .int .i64 tn] 31)).alloc (.cells #[.int .i64 1, .int .i64 ha] 45)).alloc (.cells #[] 3)).ownsRow w.heap.size 3 1 (.slice (some ⟨w.heap.size + 1 + 1 + 1, 0, none⟩) 0 0) 0 []) := Lib.hid (by
    have h := World.ownsRow_lit (base := w.heap.size) (e := 3) (size := 1) (((w.alloc (.cells #[.int .i64 fk, .int .i64 fp, .int .i64 fn] 31)).alloc (.cells #[.int .i64 tk, .int .i64 tp, .int .i64 tn] 31)).alloc (.cells #[.int .i64 1, .int .i64 ha] 45)) #[] 0 HV.out.bel.size (by unfold maxLen; omega) rfl
    rw [World.size_alloc, World.size_alloc, World.size_alloc] at h
    exact h)
  have HN : Hid (∀ j u, (ints (xs))[j]? = some u → ((((w.alloc (.cells #[.int .i64 fk, .int .i64 fp, .int .i64 fn] 31)).alloc (.cells #[.int .i64 tk, .int .i64 tp, .int .i64 tn] 31)).alloc (.cells #[.int .i64 1, .int .i64 ha] 45)).alloc (.cells #[] 3)).cell? ((⟨bx, ox, none⟩ : Addr).add j) = some u) := Lib.hid (fun j u hj => by
    rw [← news_at (w := ((w.alloc (.cells #[.int .i64 fk, .int .i64 fp, .int .i64 fn] 31)).alloc (.cells #[.int .i64 tk, .int .i64 tp, .int .i64 tn] 31)).alloc (.cells #[.int .i64 1, .int .i64 ha] 45)) (b := bx) (off := ox) (xs := xs) (HC.out) j u hj, Addr.add_lit]
    exact ((Below.refl (((w.alloc (.cells #[.int .i64 fk, .int .i64 fp, .int .i64 fn] 31)).alloc (.cells #[.int .i64 tk, .int .i64 tp, .int .i64 tn] 31)).alloc (.cells #[.int .i64 1, .int .i64 ha] 45)).heap.size (((w.alloc (.cells #[.int .i64 fk, .int .i64 fp, .int .i64 fn] 31)).alloc (.cells #[.int .i64 tk, .int .i64 tp, .int .i64 tn] 31)).alloc (.cells #[.int .i64 1, .int .i64 ha] 45))).alloc (Nat.le_refl _) _).cell (p := ⟨bx, ox + j, none⟩) (Nat.lt_of_lt_of_le hbx HV.out.bel.size))
  go_wp2_with (at_builtin; go_must (refine wpList_append_own _ rfl _ _ 24 rfl w.heap.size 3 i0 (.int .i64 0) 1 8 Try.underlying24 J0.out J1.out J2.out J3.out rfl (by decide) _ _ _ rfl HL.out ⟨bx, ox, none⟩ m cx (ints (xs)) rfl ?c1 HN.out (one_cells _) ?c2 ?c3 ?c4 ?_))
  case c1 => rw [ints_len]; (try rw [List.length_take]); rw [HM.out]; omega
  case c2 => unfold maxLen; omega
  case c3 => omega
  case c4 => have := HV.out.bel.size; simp; omega
  intro v' w2 hown hg _
  have RES : Hid (NewRow w (xs) (.returned v') w2) := Lib.hid ⟨v', rfl, Own.of (n := 0 + m) (by simpa using hown) (by (try rw [List.length_take]); rw [HM.out]; omega), by
    have := (HV.out.bel.alloc HV.out.bel.size (.cells #[] 3)).grown hg (by have := HV.out.bel.size; simp; omega) (fun j hj => by cases hj; simp; omega)
    exact this⟩
  clear hown hg
  go_wp2
  go_ret
  exact RES.out

set_option maxRecDepth 100000 in
set_option maxHeartbeats 1600000 in
theorem map_77 (bx ox cx m q : Nat) (fp fn tk tp ha : Int) (xs : List Int) (w : World) (hbx : bx < w.heap.size) (hm : xs.length = m) (hc : ∀ i (h : i < xs.length), w.cell? ⟨bx, ox + i, none⟩ = some (.int .i64 xs[i])) (hm1 : m ≤ 6) (hqm : q ≤ m) (hmc : m ≤ cx) :
    Calls Try.prog 141 #[ringV 7 fp fn, ringV tk tp (q : Int), homV 7 ha, .slice (some ⟨bx, ox, none⟩) m cx] w (NewRow w (xs.take q)) := by
  have HV := Lib.hid (Inv3.box w 7 fp fn tk tp (q : Int) 7 ha 31 45)
  have HM := Lib.hid hm
  have HC : Hid (∀ i (h : i < xs.length), (((w.alloc (.cells (ringC 7 fp fn) 31)).alloc (.cells (ringC tk tp (q : Int)) 31)).alloc (.cells (homC 7 ha) 45)).cell? ⟨bx, ox + i, none⟩ = some (.int .i64 xs[i])) := Lib.hid (fun i h => (HV.out.bel.cell (p := ⟨bx, ox + i, none⟩) hbx).trans (hc i h))
  clear hm hc
  go_enter Try.func141, Try.ntmps141
  obtain ⟨i0, hi, hz0, hz1, hz2⟩ := info_parts infoInt
  have J0 := Lib.hid hi
  have J1 := Lib.hid hz0
  have J2 := Lib.hid hz1
  have J3 := Lib.hid hz2
  clear hi hz0 hz1 hz2
  have HL : Hid (((((w.alloc (.cells #[.int .i64 7, .int .i64 fp, .int .i64 fn] 31)).alloc (.cells #[.int .i64 tk, .int .i64 tp, .int .i64 (q : Int)] 31)).alloc (.cells #[.int .i64 7, .int .i64 ha] 45)).alloc (.cells #[] 3)).ownsRow w.heap.size 3 1 (.slice (some ⟨w.heap.size + 1 + 1 + 1, 0, none⟩) 0 0) 0 []) := Lib.hid (by
    have h := World.ownsRow_lit (base := w.heap.size) (e := 3) (size := 1) (((w.alloc (.cells #[.int .i64 7, .int .i64 fp, .int .i64 fn] 31)).alloc (.cells #[.int .i64 tk, .int .i64 tp, .int .i64 (q : Int)] 31)).alloc (.cells #[.int .i64 7, .int .i64 ha] 45)) #[] 0 HV.out.bel.size (by unfold maxLen; omega) rfl
    rw [World.size_alloc, World.size_alloc, World.size_alloc] at h
    exact h)
  have HN : Hid (∀ j u, (ints (xs.take q))[j]? = some u → ((((w.alloc (.cells #[.int .i64 7, .int .i64 fp, .int .i64 fn] 31)).alloc (.cells #[.int .i64 tk, .int .i64 tp, .int .i64 (q : Int)] 31)).alloc (.cells #[.int .i64 7, .int .i64 ha] 45)).alloc (.cells #[] 3)).cell? ((⟨bx, ox, none⟩ : Addr).add j) = some u) := Lib.hid (fun j u hj => by
    rw [← news_at (w := ((w.alloc (.cells #[.int .i64 7, .int .i64 fp, .int .i64 fn] 31)).alloc (.cells #[.int .i64 tk, .int .i64 tp, .int .i64 (q : Int)] 31)).alloc (.cells #[.int .i64 7, .int .i64 ha] 45)) (b := bx) (off := ox) (xs := xs.take q) (fun i h => by rw [List.getElem_take]; exact HC.out i (by rw [List.length_take] at h; omega)) j u hj, Addr.add_lit]
    exact ((Below.refl (((w.alloc (.cells #[.int .i64 7, .int .i64 fp, .int .i64 fn] 31)).alloc (.cells #[.int .i64 tk, .int .i64 tp, .int .i64 (q : Int)] 31)).alloc (.cells #[.int .i64 7, .int .i64 ha] 45)).heap.size (((w.alloc (.cells #[.int .i64 7, .int .i64 fp, .int .i64 fn] 31)).alloc (.cells #[.int .i64 tk, .int .i64 tp, .int .i64 (q : Int)] 31)).alloc (.cells #[.int .i64 7, .int .i64 ha] 45))).alloc (Nat.le_refl _) _).cell (p := ⟨bx, ox + j, none⟩) (Nat.lt_of_lt_of_le hbx HV.out.bel.size))
  go_wp2_with (at_builtin; go_must (refine wpList_append_own _ rfl _ _ 24 rfl w.heap.size 3 i0 (.int .i64 0) 1 8 Try.underlying24 J0.out J1.out J2.out J3.out rfl (by decide) _ _ _ rfl HL.out ⟨bx, ox, none⟩ q cx (ints (xs.take q)) rfl ?c1 HN.out (one_cells _) ?c2 ?c3 ?c4 ?_))
  case c1 => rw [ints_len]; (try rw [List.length_take]); rw [HM.out]; omega
  case c2 => unfold maxLen; omega
  case c3 => omega
  case c4 => have := HV.out.bel.size; simp; omega
  intro v' w2 hown hg _
  have RES : Hid (NewRow w (xs.take q) (.returned v') w2) := Lib.hid ⟨v', rfl, Own.of (n := 0 + q) (by simpa using hown) (by (try rw [List.length_take]); rw [HM.out]; omega), by
    have := (HV.out.bel.alloc HV.out.bel.size (.cells #[] 3)).grown hg (by have := HV.out.bel.size; simp; omega) (fun j hj => by cases hj; simp; omega)
    exact this⟩
  clear hown hg
  go_wp2
  go_ret
  exact RES.out

set_option maxRecDepth 100000 in
set_option maxHeartbeats 1600000 in
theorem map_7oa (bx ox cx m : Nat) (fk fp fn tk tp tn ha x : Int) (w : World) (hbx : bx < w.heap.size) (hx : w.cell? ⟨bx, ox, none⟩ = some (.int .i64 x)) (hm0 : 0 < m) (h7 : (fk == 7) = false) (h6 : (fk == 6) = false) (hlt : tp < x) :
    Calls Try.prog 141 #[ringV fk fp fn, ringV tk tp tn, homV 7 ha, .slice (some ⟨bx, ox, none⟩) m cx] w (NewRow w ([tp])) := by
  have HV := Lib.hid (Inv3.box w fk fp fn tk tp tn 7 ha 31 45)
  have HX := Lib.hid ((HV.out.bel.cell (p := ⟨bx, ox, none⟩) hbx).trans hx)
  have hd : decide (tp < x) = true := by simpa using hlt
  go_enter Try.func141, Try.ntmps141
  go_wp2
  generalize hW : ((w.alloc (.cells #[.int .i64 fk, .int .i64 fp, .int .i64 fn] 31)).alloc (.cells #[.int .i64 tk, .int .i64 tp, .int .i64 tn] 31)).alloc (.cells #[.int .i64 7, .int .i64 ha] 45) = W at HV HX ⊢
  clear hW
  obtain ⟨c0, c1, c2, d0, d1, d2, e0, e1⟩ := HV.out.cells
  have hX := HX.out
  go_still_tail 6, (by kernel_rfl)
  change wpList _ _ _ _ _ W.drew
  have HD := Lib.hid HV.out.bel.drew
  generalize hw2 : W.drew = w2 at HD ⊢
  clear hw2
  go_wp2
  go_ret
  exact new_one HD.out

set_option maxRecDepth 100000 in
set_option maxHeartbeats 1600000 in
theorem map_7ob (bx ox cx m : Nat) (fk fp fn tk tp tn ha x : Int) (w : World) (hbx : bx < w.heap.size) (hx : w.cell? ⟨bx, ox, none⟩ = some (.int .i64 x)) (hm0 : 0 < m) (h7 : (fk == 7) = false) (h6 : (fk == 6) = false) (hlt : x ≤ tp) :
    Calls Try.prog 141 #[ringV fk fp fn, ringV tk tp tn, homV 7 ha, .slice (some ⟨bx, ox, none⟩) m cx] w (NewRow w ([x])) := by
  have HV := Lib.hid (Inv3.box w fk fp fn tk tp tn 7 ha 31 45)
  have HX := Lib.hid ((HV.out.bel.cell (p := ⟨bx, ox, none⟩) hbx).trans hx)
  have hd : decide (tp < x) = false := by simp; omega
  go_enter Try.func141, Try.ntmps141
  go_wp2
  generalize hW : ((w.alloc (.cells #[.int .i64 fk, .int .i64 fp, .int .i64 fn] 31)).alloc (.cells #[.int .i64 tk, .int .i64 tp, .int .i64 tn] 31)).alloc (.cells #[.int .i64 7, .int .i64 ha] 45) = W at HV HX ⊢
  clear hW
  obtain ⟨c0, c1, c2, d0, d1, d2, e0, e1⟩ := HV.out.cells
  have hX := HX.out
  go_still_tail 6, (by kernel_rfl)
  change wpList _ _ _ _ _ W.drew
  have HD := Lib.hid HV.out.bel.drew
  generalize hw2 : W.drew = w2 at HD ⊢
  clear hw2
  go_wp2
  go_ret
  exact new_one HD.out

set_option maxRecDepth 100000 in
set_option maxHeartbeats 1600000 in
theorem map_76 (bx ox cx m : Nat) (fp fn tp tn ha x : Int) (w : World) (hbx : bx < w.heap.size) (hx : w.cell? ⟨bx, ox, none⟩ = some (.int .i64 x)) (hm0 : 0 < m) (hr : ringB 6 tp tn = true) :
    Calls Try.prog 141 #[ringV 6 fp fn, ringV 6 tp tn, homV 7 ha, .slice (some ⟨bx, ox, none⟩) m cx] w (NewRow w ([bits .and .i64 x (topI 6 tp tn)])) := by
  have HV := Lib.hid (Inv3.box w 6 fp fn 6 tp tn 7 ha 31 45)
  have HX := Lib.hid ((HV.out.bel.cell (p := ⟨bx, ox, none⟩) hbx).trans hx)
  have HR := Lib.hid hr
  clear hr
  go_enter Try.func141, Try.ntmps141
  go_wp2
  generalize hW : ((w.alloc (.cells #[.int .i64 6, .int .i64 fp, .int .i64 fn] 31)).alloc (.cells #[.int .i64 6, .int .i64 tp, .int .i64 tn] 31)).alloc (.cells #[.int .i64 7, .int .i64 ha] 45) = W at HV HX ⊢
  clear hW
  obtain ⟨c0, c1, c2, d0, d1, d2, e0, e1⟩ := HV.out.cells
  have hX := HX.out
  have HD := Lib.hid HV.out.bel.drew
  have LT := Lib.hid HV.out.lt
  have hbX : bx < W.heap.size := Nat.lt_of_lt_of_le hbx HV.out.bel.size
  have hbR : w.heap.size + 1 < W.heap.size := by have := LT.out; omega
  go_region_held3 (fun w' => w'.cell? ⟨w.heap.size + 1, 0, none⟩ = some (.int .i64 6) ∧ w'.cell? ⟨w.heap.size + 1, 1, none⟩ = some (.int .i64 tp) ∧ w'.cell? ⟨w.heap.size + 1, 2, none⟩ = some (.int .i64 tn) ∧ w'.cell? ⟨bx, ox, none⟩ = some (.int .i64 x)) (first | exact ⟨d0, d1, d2, hX⟩ | exact HK.out _) (first
    | (go_at_call 139; refine (top_spec 6 tp tn _ HR.out).mono ?_; rintro e w2 ⟨rfl, hb2⟩; have HB := Lib.hid (HD.out.trans (hb2.mono HD.out.size)); obtain ⟨d0, d1, d2, hX⟩ := (⟨(hb2.cell (p := ⟨w.heap.size + 1, 0, none⟩) hbR).trans d0, (hb2.cell (p := ⟨w.heap.size + 1, 1, none⟩) hbR).trans d1, (hb2.cell (p := ⟨w.heap.size + 1, 2, none⟩) hbR).trans d2, (hb2.cell (p := ⟨bx, ox, none⟩) hbX).trans hX⟩ : _ ∧ _ ∧ _ ∧ _); have HK := Lib.hid (fun (o : Obj) => (⟨(((Below.refl w2.heap.size w2).alloc (Nat.le_refl _) o).cell (p := ⟨w.heap.size + 1, 0, none⟩) (Nat.lt_of_lt_of_le hbR hb2.size)).trans d0, (((Below.refl w2.heap.size w2).alloc (Nat.le_refl _) o).cell (p := ⟨w.heap.size + 1, 1, none⟩) (Nat.lt_of_lt_of_le hbR hb2.size)).trans d1, (((Below.refl w2.heap.size w2).alloc (Nat.le_refl _) o).cell (p := ⟨w.heap.size + 1, 2, none⟩) (Nat.lt_of_lt_of_le hbR hb2.size)).trans d2, (((Below.refl w2.heap.size w2).alloc (Nat.le_refl _) o).cell (p := ⟨bx, ox, none⟩) (Nat.lt_of_lt_of_le hbX hb2.size)).trans hX⟩ : _ ∧ _ ∧ _ ∧ _)); clear hb2))
  all_goals (go_wp2; go_ret; exact new_one HB.out)

end Go.Proofs.Ytfdjlahaiogabab
namespace Go.Proofs.Ytfdjlahaiogabab
set_option maxRecDepth 20000
open Go.RowKit

theorem hornV_snoc (a p : Int) (xs : List Int) (x : Int) : hornV a p (xs ++ [x]) = (hornV a p xs * a + x) % p := by simp [hornV]
theorem hornV_range (a p : Int) (hp : 0 < p) (xs : List Int) : 0 ≤ hornV a p xs ∧ hornV a p xs < p := by
  have key : ∀ (xs : List Int) (v : Int), 0 ≤ v → v < p → 0 ≤ xs.foldl (fun v x => (v * a + x) % p) v ∧ xs.foldl (fun v x => (v * a + x) % p) v < p := by
    intro xs
    induction xs with
    | nil => intro v h1 h2; exact ⟨h1, h2⟩
    | cons x xs ih => intro v _ _; exact ih _ (Int.emod_nonneg _ (by omega)) (Int.emod_lt_of_pos _ hp)
  exact key xs 0 (by omega) hp
set_option maxRecDepth 100000 in
set_option maxHeartbeats 1600000 in
theorem map_6 (bx ox cx : Nat) (fp fn tk tp tn ha : Int) (xs : List Int) (w : World) (hbx : bx < w.heap.size) (hm : xs.length = 4) (hc : ∀ i (h : i < xs.length), w.cell? ⟨bx, ox + i, none⟩ = some (.int .i64 xs[i])) (h0 : 0 ≤ ha) (h1 : ha < fp) (h2 : fp ≤ 1000003) (hr : ∀ x ∈ xs, 0 ≤ x ∧ x ≤ 1000003) :
    Calls Try.prog 141 #[ringV 8 fp fn, ringV tk tp tn, homV 6 ha, .slice (some ⟨bx, ox, none⟩) 4 cx] w (NewRow w [hornV ha fp xs.reverse]) := by
  have HV := Lib.hid (Inv3.box w 8 fp fn tk tp tn 6 ha 31 45)
  have HM := Lib.hid hm
  have HC := Lib.hid hc
  have HR := Lib.hid hr
  have H0 := Lib.hid h0
  have H1 := Lib.hid h1
  have H2 := Lib.hid h2
  have hp0 : ¬ fp = 0 := by omega
  clear hm hc hr h0 h1 h2
  go_enter Try.func141, Try.ntmps141
  go_wp2
  go_loopw [9, 10] (fun n i wr => ∃ q : Nat, q ≤ 4 ∧ i = .int .i64 ((q : Int) - 1) ∧ n = .int .i64 (hornV ha fp (xs.drop q).reverse) ∧ Hid (Inv3 w wr w.heap.size 8 fp fn tk tp tn 6 ha)) (fun _ i _ => (intOf i + 1).toNat)
  case atStart => exact ⟨4, by omega, rfl, by rw [List.drop_of_length_le (by rw [HM.out]; omega)]; rfl, HV⟩
  case round =>
    obtain ⟨q, hq, rfl, rfl, HW⟩ := hrel
    clear HV
    cases q with
    | zero =>
      go_wp2
      go_ret
      exact new_one HW.out.bel
    | succ q =>
      have e1 : ((q + 1 : Nat) : Int) - 1 = (q : Int) := by omega
      rw [e1]
      obtain ⟨c0, c1, c2, d0, d1, d2, e0, e1⟩ := HW.out.cells
      obtain ⟨x, hx⟩ : ∃ x, xs[q]? = some x := ⟨_, List.getElem?_eq_getElem (by rw [HM.out]; omega)⟩
      have hxr := HR.out x (List.mem_of_getElem? hx)
      have hcx : wr.cell? ⟨bx, ox + q, none⟩ = some (.int .i64 x) := (HW.out.bel.cell (p := ⟨bx, ox + q, none⟩) hbx).trans (by
        rw [HC.out q (by rw [HM.out]; omega)]
        rw [List.getElem?_eq_getElem (by rw [HM.out]; omega)] at hx
        rw [Option.some.inj hx])
      obtain ⟨v, hv⟩ : ∃ v, v = hornV ha fp (xs.drop (q + 1)).reverse := ⟨_, rfl⟩
      have hvr := hornV_range ha fp (by have := H1.out; have := H0.out; omega) (xs.drop (q + 1)).reverse
      rw [← hv] at hvr ⊢
      have HN : Hid (hornV ha fp (xs.drop q).reverse = (v * ha + x) % fp) := Lib.hid (by rw [drop_step xs q (by rw [HM.out]; omega), hx]; exact (hornV_snoc _ _ _ _).trans (by rw [← hv]; rfl))
      have hva : 0 ≤ v * ha ∧ v * ha ≤ 1000003 * 1000003 := ⟨Int.mul_nonneg hvr.1 H0.out, Int.mul_le_mul (by have := H2.out; omega) (by have := H1.out; have := H2.out; omega) H0.out (by omega)⟩
      obtain ⟨s, hs⟩ : ∃ s, s = v * ha := ⟨_, rfl⟩
      rw [← hs] at hva
      have w1 : IntKind.i64.wrap (v * ha) = s := by rw [← hs]; exact IntWalk.i64_in _ (by omega)
      have w2 : IntKind.i64.wrap (s + x) = s + x := IntWalk.i64_in _ (by omega)
      have w3 : (s + x).tmod fp = (s + x) % fp := Int.tmod_eq_emod_of_nonneg (by omega)
      have w4 : IntKind.i64.wrap ((q : Int) - 1) = (q : Int) - 1 := IntWalk.i64_in _ (by omega)
      have hq4 : (q : Int) < 4 := by omega
      rw [← hs] at HN
      clear hx hxr hv hvr hva hs
      go_wp2_with fail
      go_quiet (fail)
      go_wp2
      go_roundw
      case rel => exact ⟨q, by omega, rfl, by rw [HN.out], Lib.hid (HW.out.step (below_drewN (Below.refl _ _) _))⟩
      case measure => simp [intOf]
end Go.Proofs.Ytfdjlahaiogabab
