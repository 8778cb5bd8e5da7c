
/- image and cut of a checked homomorphism, kind by kind. -/
import Derived.Test.YtfdjlahaiogababHom
import Derived.Test.YtfdjlahaiogababZero
import Derived.Test.YtfdjlahaiogababIndexIn
import Derived.Test.YtfdjlahaiogababTimesOne
import Derived.StillTailTactics
import Derived.Deep.RegionHeld3
namespace Go.Proofs.Ytfdjlahaiogabab
set_option maxRecDepth 20000
open Go.RowKit

def bitL (b : Bool) : List Int := [if b = true then 1 else 0]
def cutL (tk tp tn : Int) (xs : List Int) : List Int := if tk = 7 then xs.take tn.toNat else if tk = 6 then [bits .and .i64 (xs.getD 0 0) (topI 6 tp tn)] else [min (xs.getD 0 0) tp]
def imageL (fk tk tp tn hk ha : Int) (xs : List Int) : List Int :=
  if hk = 2 then bitL (if fk = 4 then xs.getD 0 0 == 0 else decide (0 < xs.getD 0 0))
  else if hk = 3 then bitL (bits .and .i64 (xs.getD 0 0 / 2 ^ ha.toNat) 1 == 1)
  else if hk = 4 then bitL (decide (ha ≤ xs.getD 0 0))
  else if hk = 6 then [hornV ha tp xs.reverse]
  else if hk = 7 then cutL tk tp tn xs
  else if hk = 8 then (if xs.getD 0 0 = 0 then zeroL tk tp tn else oneL tk tp tn)
  else xs.take (widthI tk tn).toNat
theorem NewRow.after2 {w0 w : World} {xs : List Int} {e : Ending} {w' : World} (hb : Below w0.heap.size w0 w) (h : NewRow w xs e w') : NewRow w0 xs e w' := by
  obtain ⟨r, he, ho, h1⟩ := h
  exact ⟨r, he, ⟨ho.1.mono hb.size, ho.2⟩, hb.trans (h1.mono hb.size)⟩
set_option maxHeartbeats 400000 in
theorem bit_impl (b : Bool) (w : World) : Calls Try.prog 143 #[.bool b] w (NewRow w (bitL b)) := by
  cases b <;>
  · go_enter Try.func143, Try.ntmps143
    go_wp2
    go_ret
    exact new_one (Below.refl _ _)
set_option maxHeartbeats 400000 in
theorem bit_spec (b : Bool) (w : World) : Calls Try.prog 171 #[.bool b] w (NewRow w (bitL b)) := by
  cases b <;>
  · go_enter Try.func171, Try.ntmps171
    go_wp2
    go_ret
    exact new_one (Below.refl _ _)
theorem row_pass {w W : World} {zs : List Int} {e : Ending} {w' : World} (hb : Below w.heap.size w W) (h : NewRow W zs e w') : ∃ v, e = .returned v ∧ Own w' w.heap.size w'.heap.size v zs ∧ Below w.heap.size w w' := NewRow.after2 hb h

set_option maxRecDepth 100000 in
set_option maxHeartbeats 800000 in
theorem image_2a (b bx ox cx m : Nat) (fp fn tk tp tn ha x : Int) (w : World) (hB : Box8 w b 4 fp fn tk tp tn 2 ha) (hx : w.cell? ⟨bx, ox, none⟩ = some (.int .i64 x)) (hm0 : 0 < m)  :
    Calls Try.prog 93 #[.pointer (some ⟨b, 0, none⟩), .slice (some ⟨bx, ox, none⟩) m cx] w (NewRow w (bitL (x == 0))) := by
  obtain ⟨c0, c1, c2, c3, c4, c5, c6, c7⟩ := hB
  go_enter Try.func93, Try.ntmps93
  go_wp2_with fail
  refine (bit_impl (x == 0) _).mono ?_
  intro e w3 h3
  obtain ⟨v, rfl, ho, hb3⟩ := row_pass (Below.refl _ _) h3
  clear h3
  have HO := Lib.hid ho
  have HB := Lib.hid hb3
  clear ho hb3
  go_wp2
  go_ret
  exact ⟨v, rfl, HO.out, HB.out⟩

set_option maxRecDepth 100000 in
set_option maxHeartbeats 800000 in
theorem image_2b (b bx ox cx m : Nat) (fk fp fn tk tp tn ha x : Int) (w : World) (hB : Box8 w b fk fp fn tk tp tn 2 ha) (hx : w.cell? ⟨bx, ox, none⟩ = some (.int .i64 x)) (hm0 : 0 < m) (hf : (fk == 4) = false) :
    Calls Try.prog 93 #[.pointer (some ⟨b, 0, none⟩), .slice (some ⟨bx, ox, none⟩) m cx] w (NewRow w (bitL (decide (0 < x)))) := by
  obtain ⟨c0, c1, c2, c3, c4, c5, c6, c7⟩ := hB
  go_enter Try.func93, Try.ntmps93
  go_wp2_with fail
  refine (bit_impl (decide (0 < x)) _).mono ?_
  intro e w3 h3
  obtain ⟨v, rfl, ho, hb3⟩ := row_pass (Below.refl _ _) h3
  clear h3
  have HO := Lib.hid ho
  have HB := Lib.hid hb3
  clear ho hb3
  go_wp2
  go_ret
  exact ⟨v, rfl, HO.out, HB.out⟩

set_option maxRecDepth 100000 in
set_option maxHeartbeats 800000 in
theorem image_3 (b bx ox cx m : Nat) (fk fp fn tk tp tn ha x : Int) (w : World) (hB : Box8 w b fk fp fn tk tp tn 3 ha) (hx : w.cell? ⟨bx, ox, none⟩ = some (.int .i64 x)) (hm0 : 0 < m) (h1 : 0 ≤ ha) (h2 : ha ≤ 64) :
    Calls Try.prog 93 #[.pointer (some ⟨b, 0, none⟩), .slice (some ⟨bx, ox, none⟩) m cx] w (NewRow w (bitL (bits .and .i64 (x / 2 ^ ha.toNat) 1 == 1))) := by
  obtain ⟨c0, c1, c2, c3, c4, c5, c6, c7⟩ := hB
  go_enter Try.func93, Try.ntmps93
  go_wp2
  go_still_tail 11, (by kernel_rfl)
  change wpList _ _ _ _ _ w.drew
  have HD := Lib.hid ((Below.refl w.heap.size w).drew)
  generalize hw2 : w.drew = w2 at HD ⊢
  clear hw2
  go_wp2_with fail
  refine (bit_impl _ _).mono ?_
  intro e w3 h3
  obtain ⟨v, rfl, ho, hb3⟩ := row_pass HD.out h3
  clear h3
  have HO := Lib.hid ho
  have HB := Lib.hid hb3
  clear ho hb3
  go_wp2
  go_ret
  exact ⟨v, rfl, HO.out, HB.out⟩

set_option maxRecDepth 100000 in
set_option maxHeartbeats 800000 in
theorem image_4 (b bx ox cx m : Nat) (fk fp fn tk tp tn ha x : Int) (w : World) (hB : Box8 w b fk fp fn tk tp tn 4 ha) (hx : w.cell? ⟨bx, ox, none⟩ = some (.int .i64 x)) (hm0 : 0 < m)  :
    Calls Try.prog 93 #[.pointer (some ⟨b, 0, none⟩), .slice (some ⟨bx, ox, none⟩) m cx] w (NewRow w (bitL (decide (ha ≤ x)))) := by
  obtain ⟨c0, c1, c2, c3, c4, c5, c6, c7⟩ := hB
  go_enter Try.func93, Try.ntmps93
  go_wp2
  go_still_tail 9, (by kernel_rfl)
  change wpList _ _ _ _ _ w.drew
  have HD := Lib.hid ((Below.refl w.heap.size w).drew)
  generalize hw2 : w.drew = w2 at HD ⊢
  clear hw2
  go_wp2_with fail
  refine (bit_impl _ _).mono ?_
  intro e w3 h3
  obtain ⟨v, rfl, ho, hb3⟩ := row_pass HD.out h3
  clear h3
  have HO := Lib.hid ho
  have HB := Lib.hid hb3
  clear ho hb3
  go_wp2
  go_ret
  exact ⟨v, rfl, HO.out, HB.out⟩

set_option maxRecDepth 100000 in
set_option maxHeartbeats 800000 in
theorem image_8a (b bx ox cx m : Nat) (fk fp fn tk tp tn ha x : Int) (w : World) (hB : Box8 w b fk fp fn tk tp tn 8 ha) (hx : w.cell? ⟨bx, ox, none⟩ = some (.int .i64 x)) (hm0 : 0 < m) (h1 : x = 0) (hr : ringB tk tp tn = true) :
    Calls Try.prog 93 #[.pointer (some ⟨b, 0, none⟩), .slice (some ⟨bx, ox, none⟩) m cx] w (NewRow w (zeroL tk tp tn)) := by
  obtain ⟨c0, c1, c2, c3, c4, c5, c6, c7⟩ := hB
  subst h1
  have HR := Lib.hid hr
  clear hr
  go_enter Try.func93, Try.ntmps93
  go_wp2_with fail
  refine (zero_impl tk tp tn _ HR.out).mono ?_
  intro e w3 h3
  obtain ⟨v, rfl, ho, hb3⟩ := row_pass (Below.refl _ _) h3
  clear h3
  have HO := Lib.hid ho
  have HB := Lib.hid hb3
  clear ho hb3
  go_wp2
  go_ret
  exact ⟨v, rfl, HO.out, HB.out⟩

set_option maxRecDepth 100000 in
set_option maxHeartbeats 800000 in
theorem image_8b (b bx ox cx m : Nat) (fk fp fn tk tp tn ha x : Int) (w : World) (hB : Box8 w b fk fp fn tk tp tn 8 ha) (hx : w.cell? ⟨bx, ox, none⟩ = some (.int .i64 x)) (hm0 : 0 < m) (h1 : (x == 0) = false) (hr : ringB tk tp tn = true) :
    Calls Try.prog 93 #[.pointer (some ⟨b, 0, none⟩), .slice (some ⟨bx, ox, none⟩) m cx] w (NewRow w (oneL tk tp tn)) := by
  obtain ⟨c0, c1, c2, c3, c4, c5, c6, c7⟩ := hB
  have HR := Lib.hid hr
  clear hr
  go_enter Try.func93, Try.ntmps93
  go_wp2_with fail
  refine (one_impl tk tp tn _ HR.out).mono ?_
  intro e w3 h3
  obtain ⟨v, rfl, ho, hb3⟩ := row_pass (Below.refl _ _) h3
  clear h3
  have HO := Lib.hid ho
  have HB := Lib.hid hb3
  clear ho hb3
  go_wp2
  go_ret
  exact ⟨v, rfl, HO.out, HB.out⟩

set_option maxRecDepth 100000 in
set_option maxHeartbeats 800000 in
theorem image_6 (b bx ox cx m : Nat) (fk fp fn tk tp tn ha : Int) (xs : List Int) (w : World) (hB : Box8 w b fk fp fn tk tp tn 6 ha) (hbx : bx < w.heap.size) (hm : xs.length = m) (hc : ∀ i (h : i < xs.length), w.cell? ⟨bx, ox + i, none⟩ = some (.int .i64 xs[i])) (hm1 : m ≤ 6) (h0 : 0 ≤ ha) (h1 : ha < tp) (h2 : tp ≤ 1000003) (hr : ∀ x ∈ xs, 0 ≤ x ∧ x ≤ 1000003) :
    Calls Try.prog 93 #[.pointer (some ⟨b, 0, none⟩), .slice (some ⟨bx, ox, none⟩) m cx] w (NewRow w ([hornV ha tp xs.reverse])) := by
  obtain ⟨c0, c1, c2, c3, c4, c5, c6, c7⟩ := hB
  have HM := Lib.hid hm
  have HC := Lib.hid hc
  have HR := Lib.hid hr
  have H0 := Lib.hid h0
  have H1 := Lib.hid h1
  have H2 := Lib.hid h2
  clear hm hc hr h0 h1 h2
  go_enter Try.func93, Try.ntmps93
  go_wp2
  go_still_tail 11, (by kernel_rfl)
  change wpList _ _ _ _ _ w.drew
  have HD := Lib.hid ((Below.refl w.heap.size w).drew)
  generalize hw2 : w.drew = w2 at HD ⊢
  clear hw2
  go_wp2_with fail
  refine (value_at bx ox cx m xs ha tp _ HM.out hm1 H0.out H1.out H2.out HR.out (Nat.lt_of_lt_of_le hbx HD.out.size) (fun i h => (HD.out.cell (p := ⟨bx, ox + i, none⟩) hbx).trans (HC.out i h))).mono ?_
  rintro e w3 ⟨rfl, hb3⟩
  have HB := Lib.hid (HD.out.trans (hb3.mono HD.out.size))
  clear hb3
  go_wp2
  go_ret
  exact new_one HB.out

set_option maxRecDepth 100000 in
set_option maxHeartbeats 800000 in
theorem image_d1 (b bx ox cx m q : Nat) (fk fp fn tk tp tn ha : Int) (xs : List Int) (w : World) (hB : Box8 w b fk fp fn tk tp tn 1 ha) (hbx : bx < w.heap.size) (hm : xs.length = m) (hc : ∀ i (h : i < xs.length), w.cell? ⟨bx, ox + i, none⟩ = some (.int .i64 xs[i])) (hq : widthI tk tn = (q : Int)) (hqm : q ≤ m) (hm1 : m ≤ 6) (hmc : m ≤ cx) :
    Calls Try.prog 93 #[.pointer (some ⟨b, 0, none⟩), .slice (some ⟨bx, ox, none⟩) m cx] w (NewRow w (xs.take q)) := by
  obtain ⟨c0, c1, c2, c3, c4, c5, c6, c7⟩ := hB
  have HM := Lib.hid hm
  have HC := Lib.hid hc
  clear hm hc
  have HQ := Lib.hid hq
  clear hq
  go_enter Try.func93, Try.ntmps93
  go_wp2_with fail
  refine (width_impl tk tp tn _).mono ?_
  rw [HQ.out]
  rintro e w2 ⟨rfl, hb2⟩
  have HD := Lib.hid hb2
  clear hb2
  go_wp2_with fail
  refine (clone_row bx ox cx q (xs.take q) _ (by rw [List.length_take, HM.out]; omega) (by omega) (Nat.lt_of_lt_of_le hbx HD.out.size) (fun i h => by rw [List.getElem_take]; exact (HD.out.cell (p := ⟨bx, ox + i, none⟩) hbx).trans (HC.out i (by rw [List.length_take] at h; omega)))).mono ?_
  intro e w3 h3
  obtain ⟨v, rfl, ho, hb3⟩ := row_pass HD.out h3
  clear h3
  have HO := Lib.hid ho
  have HB := Lib.hid hb3
  clear ho hb3
  go_wp2
  go_ret
  exact ⟨v, rfl, HO.out, HB.out⟩

set_option maxRecDepth 100000 in
set_option maxHeartbeats 800000 in
theorem image_d5 (b bx ox cx m q : Nat) (fk fp fn tk tp tn ha : Int) (xs : List Int) (w : World) (hB : Box8 w b fk fp fn tk tp tn 5 ha) (hbx : bx < w.heap.size) (hm : xs.length = m) (hc : ∀ i (h : i < xs.length), w.cell? ⟨bx, ox + i, none⟩ = some (.int .i64 xs[i])) (hq : widthI tk tn = (q : Int)) (hqm : q ≤ m) (hm1 : m ≤ 6) (hmc : m ≤ cx) :
    Calls Try.prog 93 #[.pointer (some ⟨b, 0, none⟩), .slice (some ⟨bx, ox, none⟩) m cx] w (NewRow w (xs.take q)) := by
  obtain ⟨c0, c1, c2, c3, c4, c5, c6, c7⟩ := hB
  have HM := Lib.hid hm
  have HC := Lib.hid hc
  clear hm hc
  have HQ := Lib.hid hq
  clear hq
  go_enter Try.func93, Try.ntmps93
  go_wp2_with fail
  refine (width_impl tk tp tn _).mono ?_
  rw [HQ.out]
  rintro e w2 ⟨rfl, hb2⟩
  have HD := Lib.hid hb2
  clear hb2
  go_wp2_with fail
  refine (clone_row bx ox cx q (xs.take q) _ (by rw [List.length_take, HM.out]; omega) (by omega) (Nat.lt_of_lt_of_le hbx HD.out.size) (fun i h => by rw [List.getElem_take]; exact (HD.out.cell (p := ⟨bx, ox + i, none⟩) hbx).trans (HC.out i (by rw [List.length_take] at h; omega)))).mono ?_
  intro e w3 h3
  obtain ⟨v, rfl, ho, hb3⟩ := row_pass HD.out h3
  clear h3
  have HO := Lib.hid ho
  have HB := Lib.hid hb3
  clear ho hb3
  go_wp2
  go_ret
  exact ⟨v, rfl, HO.out, HB.out⟩

set_option maxRecDepth 100000 in
set_option maxHeartbeats 800000 in
theorem cut_7 (b bx ox cx m q : Nat) (fk fp fn tp hk ha : Int) (xs : List Int) (w : World) (hB : Box8 w b fk fp fn 7 tp (q : Int) hk ha) (hbx : bx < w.heap.size) (hm : xs.length = m) (hc : ∀ i (h : i < xs.length), w.cell? ⟨bx, ox + i, none⟩ = some (.int .i64 xs[i])) (hqm : q ≤ m) (hm1 : m ≤ 6) (hmc : m ≤ cx) :
    Calls Try.prog 145 #[.pointer (some ⟨b, 0, none⟩), .slice (some ⟨bx, ox, none⟩) m cx] w (NewRow w (xs.take q)) := by
  obtain ⟨c0, c1, c2, c3, c4, c5, c6, c7⟩ := hB
  have HM := Lib.hid hm
  have HC := Lib.hid hc
  clear hm hc
  have HD := Lib.hid (Below.refl w.heap.size w)
  go_enter Try.func145, Try.ntmps145
  go_wp2_with fail
  refine (clone_row bx ox cx q (xs.take q) _ (by rw [List.length_take, HM.out]; omega) (by omega) (Nat.lt_of_lt_of_le hbx HD.out.size) (fun i h => by rw [List.getElem_take]; exact (HD.out.cell (p := ⟨bx, ox + i, none⟩) hbx).trans (HC.out i (by rw [List.length_take] at h; omega)))).mono ?_
  intro e w3 h3
  obtain ⟨v, rfl, ho, hb3⟩ := row_pass HD.out h3
  clear h3
  have HO := Lib.hid ho
  have HB := Lib.hid hb3
  clear ho hb3
  go_wp2
  go_ret
  exact ⟨v, rfl, HO.out, HB.out⟩

set_option maxRecDepth 100000 in
set_option maxHeartbeats 800000 in
theorem cut_oa (b bx ox cx m : Nat) (fk fp fn tk tp tn hk ha x : Int) (w : World) (hB : Box8 w b fk fp fn tk tp tn hk ha) (hx : w.cell? ⟨bx, ox, none⟩ = some (.int .i64 x)) (hm0 : 0 < m) (h7 : (tk == 7) = false) (h6 : (tk == 6) = false) (hlt : tp < x) :
    Calls Try.prog 145 #[.pointer (some ⟨b, 0, none⟩), .slice (some ⟨bx, ox, none⟩) m cx] w (NewRow w ([tp])) := by
  obtain ⟨c0, c1, c2, c3, c4, c5, c6, c7⟩ := hB
  have hd : decide (tp < x) = true := by simpa using hlt
  go_enter Try.func145, Try.ntmps145
  go_wp2
  go_still_tail 9, (by kernel_rfl)
  change wpList _ _ _ _ _ w.drew
  have HD := Lib.hid ((Below.refl w.heap.size w).drew)
  generalize hw2 : w.drew = w2 at HD ⊢
  clear hw2
  go_wp2
  go_ret
  exact new_one HD.out

set_option maxRecDepth 100000 in
set_option maxHeartbeats 800000 in
theorem cut_ob (b bx ox cx m : Nat) (fk fp fn tk tp tn hk ha x : Int) (w : World) (hB : Box8 w b fk fp fn tk tp tn hk ha) (hx : w.cell? ⟨bx, ox, none⟩ = some (.int .i64 x)) (hm0 : 0 < m) (h7 : (tk == 7) = false) (h6 : (tk == 6) = false) (hlt : x ≤ tp) :
    Calls Try.prog 145 #[.pointer (some ⟨b, 0, none⟩), .slice (some ⟨bx, ox, none⟩) m cx] w (NewRow w ([x])) := by
  obtain ⟨c0, c1, c2, c3, c4, c5, c6, c7⟩ := hB
  have hd : decide (tp < x) = false := by simp; omega
  go_enter Try.func145, Try.ntmps145
  go_wp2
  go_still_tail 9, (by kernel_rfl)
  change wpList _ _ _ _ _ w.drew
  have HD := Lib.hid ((Below.refl w.heap.size w).drew)
  generalize hw2 : w.drew = w2 at HD ⊢
  clear hw2
  go_wp2
  go_ret
  exact new_one HD.out

set_option maxRecDepth 100000 in
set_option maxHeartbeats 800000 in
theorem cut_6 (b bx ox cx m : Nat) (fk fp fn tp tn hk ha x : Int) (w : World) (hB : Box8 w b fk fp fn 6 tp tn hk ha) (hb : b < w.heap.size) (hbx : bx < w.heap.size) (hx : w.cell? ⟨bx, ox, none⟩ = some (.int .i64 x)) (hm0 : 0 < m) (hr : ringB 6 tp tn = true) :
    Calls Try.prog 145 #[.pointer (some ⟨b, 0, none⟩), .slice (some ⟨bx, ox, none⟩) m cx] w (NewRow w ([bits .and .i64 x (topI 6 tp tn)])) := by
  obtain ⟨c0, c1, c2, c3, c4, c5, c6, c7⟩ := hB
  have HR := Lib.hid hr
  have HC := Lib.hid (⟨c3, c4, c5, hx⟩ : _ ∧ _ ∧ _ ∧ _)
  have HD := Lib.hid ((Below.refl w.heap.size w).drew)
  clear hr
  go_enter Try.func145, Try.ntmps145
  go_wp2
  go_region_held3 (fun w' => w'.cell? ⟨b, 3, none⟩ = some (.int .i64 6) ∧ w'.cell? ⟨b, 4, none⟩ = some (.int .i64 tp) ∧ w'.cell? ⟨b, 5, none⟩ = some (.int .i64 tn) ∧ w'.cell? ⟨bx, ox, none⟩ = some (.int .i64 x)) (first | exact ⟨c3, c4, c5, hx⟩ | exact HK.out _) (first
    | (go_at_call 163; refine (top_impl 6 tp tn _ HR.out).mono ?_; rintro e w2 ⟨rfl, hb2⟩; have HB := Lib.hid (HD.out.trans (hb2.mono HD.out.size)); obtain ⟨c3, c4, c5, hx⟩ := (⟨(hb2.cell (p := ⟨b, 3, none⟩) hb).trans HC.out.1, (hb2.cell (p := ⟨b, 4, none⟩) hb).trans HC.out.2.1, (hb2.cell (p := ⟨b, 5, none⟩) hb).trans HC.out.2.2.1, (hb2.cell (p := ⟨bx, ox, none⟩) hbx).trans HC.out.2.2.2⟩ : _ ∧ _ ∧ _ ∧ _); have HK := Lib.hid (fun (o : Obj) => (⟨(((Below.refl w2.heap.size w2).alloc (Nat.le_refl _) o).cell (p := ⟨b, 3, none⟩) (Nat.lt_of_lt_of_le hb HB.out.size)).trans c3, (((Below.refl w2.heap.size w2).alloc (Nat.le_refl _) o).cell (p := ⟨b, 4, none⟩) (Nat.lt_of_lt_of_le hb HB.out.size)).trans c4, (((Below.refl w2.heap.size w2).alloc (Nat.le_refl _) o).cell (p := ⟨b, 5, none⟩) (Nat.lt_of_lt_of_le hb HB.out.size)).trans c5, (((Below.refl w2.heap.size w2).alloc (Nat.le_refl _) o).cell (p := ⟨bx, ox, none⟩) (Nat.lt_of_lt_of_le hbx HB.out.size)).trans hx⟩ : _ ∧ _ ∧ _ ∧ _)); clear hb2))
  all_goals (go_wp2; go_ret; exact new_one HB.out)

set_option maxRecDepth 100000 in
set_option maxHeartbeats 800000 in
theorem image_7 (b bx ox cx m : Nat) (fk fp fn tk tp tn ha : Int) (w : World) (hB : Box8 w b fk fp fn tk tp tn 7 ha) (zs : List Int) (hcut : Calls Try.prog 145 #[.pointer (some ⟨b, 0, none⟩), .slice (some ⟨bx, ox, none⟩) m cx] w (NewRow w zs)) :
    Calls Try.prog 93 #[.pointer (some ⟨b, 0, none⟩), .slice (some ⟨bx, ox, none⟩) m cx] w (NewRow w (zs)) := by
  obtain ⟨c0, c1, c2, c3, c4, c5, c6, c7⟩ := hB
  have HQ := Lib.hid hcut
  clear hcut
  go_enter Try.func93, Try.ntmps93
  go_wp2_with fail
  refine (HQ.out).mono ?_
  intro e w3 h3
  obtain ⟨v, rfl, ho, hb3⟩ := row_pass (Below.refl _ _) h3
  clear h3
  have HO := Lib.hid ho
  have HB := Lib.hid hb3
  clear ho hb3
  go_wp2
  go_ret
  exact ⟨v, rfl, HO.out, HB.out⟩

end Go.Proofs.Ytfdjlahaiogabab
