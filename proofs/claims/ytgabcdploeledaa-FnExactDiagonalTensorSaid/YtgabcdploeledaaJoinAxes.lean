
/- spec.l05Product up to the work of a contraction. -/
import Derived.Test.YtgabcdploeledaaTensorOk
import Derived.Test.YtgabcdploeledaaJoinMath
import Derived.Test.YtgabcdploeledaaPermSpec
import Derived.Deep.RegionHeld3
namespace Go.Proofs.Ytgabcdploeledaa
set_option maxRecDepth 20000
open Go.RowKit

def capW (D : List Int) : Int := D.foldl (fun n d => min (n * d) 65537) 1
theorem capW_snoc (D : List Int) (d : Int) : capW (D ++ [d]) = min (capW D * d) 65537 := by simp [capW, List.foldl_append]
theorem capW_fold {D : List Int} (h : ∀ d ∈ D, 1 ≤ d) : ∀ a : Int, 1 ≤ a → a ≤ 65537 → D.foldl (fun n d => min (n * d) 65537) a = min (a * prodL D) 65537 := by
  induction D with
  | nil => intro a h1 h2; rw [prodL_nil, Int.mul_one]; show a = _; omega
  | cons d r ih =>
    intro a h1 h2
    have hd := h d (by simp)
    have hp := prodL_pos (D := r) (fun x hx => h x (by simp [hx]))
    have e1 : a ≤ a * d := by
      have := Int.mul_le_mul_of_nonneg_left hd (by omega : 0 ≤ a)
      omega
    show r.foldl (fun n d => min (n * d) 65537) (min (a * d) 65537) = _
    rw [ih (fun x hx => h x (by simp [hx])) _ (by omega) (by omega), prodL_cons, ← Int.mul_assoc]
    by_cases hc : a * d ≤ 65537
    · rw [show min (a * d) 65537 = a * d by omega]
    · rw [show min (a * d) 65537 = 65537 by omega]
      have e2 : 65537 ≤ 65537 * prodL r := by
        have := Int.mul_le_mul_of_nonneg_left hp (by omega : (0 : Int) ≤ 65537)
        omega
      have e3 : a * d ≤ a * d * prodL r := by
        have := Int.mul_le_mul_of_nonneg_left hp (by omega : 0 ≤ a * d)
        omega
      omega
theorem capW_is {D : List Int} (h : ∀ d ∈ D, 1 ≤ d) : capW D = min (prodL D) 65537 ∧ 1 ≤ capW D ∧ capW D ≤ 65537 := by
  have e : capW D = min (1 * prodL D) 65537 := capW_fold h 1 (by omega) (by omega)
  have hp := prodL_pos h
  rw [Int.one_mul] at e
  omega
set_option maxHeartbeats 800000 in
theorem product_work_full (a : Option Addr) (cap m B : Nat) (D : List Int) (w : World) (hx : D.length = m) (hn : m ≤ 281474976710656) (hD : ∀ d ∈ D, 1 ≤ d ∧ d ≤ 8) (hr : Rd B w (.slice a m cap) (ints D)) :
    Calls Try.prog 71 #[.slice a m cap, .int .i64 65536] w fun e w' => e = .returned (.int .i64 (capW D)) ∧ w = w' := by
  have L1 := Lib.hid hx
  have HR := Lib.hid hr
  have HD := Lib.hid hD
  clear hx hr hD
  go_enter Try.func71, Try.ntmps71
  go_wp2
  go_loop [5, 10] (fun p i => ∃ (j : Nat) (c : Int), j ≤ m ∧ i = .int .i64 j ∧ p = .int .i64 c ∧ 1 ≤ c ∧ c ≤ 65537 ∧ Hid (capW (D.take j) = c)) (fun _ i => m - (intOf i).toNat)
  case atStart => exact ⟨0, 1, by omega, rfl, rfl, by omega, by omega, rfl⟩
  case round =>
    obtain ⟨j, c, hj, rfl, rfl, hc1, hc2, HC⟩ := hrel
    by_cases hlt : j < m
    · obtain ⟨d, D1⟩ : ∃ d, Hid (D[j]? = some d) := ⟨_, List.getElem?_eq_getElem (by rw [L1.out]; exact hlt)⟩
      obtain ⟨b, off, rfl, e1⟩ : ∃ b off, a = some ⟨b, off, none⟩ ∧ w.cell? ⟨b, off + j, none⟩ = some (.int .i64 d) := by
        rcases HR.out.ints_cases with ⟨h, -⟩ | ⟨b, off, ca, e, hb, -, hc⟩
        · have := L1.out; rw [h] at this; simp at this; omega
        · cases e
          refine ⟨b, off, rfl, ?_⟩
          rw [hc j (by rw [L1.out]; exact hlt)]
          rw [(List.getElem?_eq_some_iff.1 D1.out).2]
      have hd := HD.out d (List.mem_of_getElem? D1.out)
      have hd1 := hd.1
      have hd2 := hd.2
      have hm := mul_inT (c := c) (d := d) (by omega) (by omega) (by omega) (by omega)
      have hlow : 1 ≤ c * d := by
        have := Int.mul_le_mul hc1 hd1 (by omega) (by omega)
        omega
      have hw : IntKind.i64.wrap (c * d) = c * d := IntWalk.i64_in _ (by omega)
      have hstep : capW (D.take (j + 1)) = min (c * d) 65537 := by rw [List.take_add_one, D1.out, Option.toList_some, capW_snoc, HC.out]
      by_cases hgt : 65537 < c * d
      · have HS : Hid (capW (D.take (j + 1)) = 65537) := by show _ = _; rw [hstep]; omega
        have q1 : decide ((65537 : Int) < c * d) = true := by simpa using hgt
        clear hstep hd
        go_wp2
        go_round
        case rel => exact ⟨j + 1, 65537, by omega, by go_num, rfl, by omega, by omega, HS⟩
        case measure => simp [intOf]; omega
      · have HS : Hid (capW (D.take (j + 1)) = c * d) := by show _ = _; rw [hstep]; omega
        have q1 : decide ((65537 : Int) < c * d) = false := by simpa using hgt
        clear hstep hd
        go_wp2
        go_round
        case rel => exact ⟨j + 1, c * d, by omega, by go_num, rfl, by omega, by omega, HS⟩
        case measure => simp [intOf]; omega
    · obtain rfl : j = m := by omega
      have HF : Hid (capW D = c) := by
        have h := HC.out
        rw [List.take_of_length_le (by rw [L1.out]; omega)] at h
        exact h
      go_wp2
      go_ret
      exact ⟨by rw [HF.out]; rfl, rfl⟩
theorem product_work {B : Nat} {v : Value} {D : List Int} {w : World} (h : Rd B w v (ints D)) (hn : D.length ≤ 281474976710656) (hD : ∀ d ∈ D, 1 ≤ d ∧ d ≤ 8) :
    Calls Try.prog 71 #[v, .int .i64 65536] w fun e w' => e = .returned (.int .i64 (capW D)) ∧ w = w' := by
  obtain ⟨a, cap, rfl, -⟩ := ints_form h
  exact product_work_full a cap _ B D w rfl hn hD h
end Go.Proofs.Ytgabcdploeledaa
namespace Go.Proofs.Ytgabcdploeledaa
set_option maxRecDepth 20000
open Go.RowKit

/-- Two new rows and whether they count. -/
def NewRow2B (w : World) (xs ys : List Int) (b : Bool) (e : Ending) (w' : World) : Prop := ∃ u v, e = .returned (.tuple #[u, v, .bool b]) ∧ OwnG w' w.heap.size w'.heap.size [(u, xs), (v, ys)] ∧ Below w.heap.size w w'
theorem FitV.no {L D L' D' : List Int} {j : Nat} {n d : Int} {q : Nat} (hj : L'[j]? = some n) (hd : D'[j]? = some d) (hn : n ∈ L) (hq : L.idxOf n = q) (hne : D.getD q 0 ≠ d) : fitV L D L' D' = false := fitV_false fun h => by
  have h1 := h j n (List.getElem?_eq_some_iff.1 hj).1 hj hn
  rw [hq, getD_at hd] at h1
  exact hne h1
set_option maxHeartbeats 6400000 in
theorem join_spec {B B' : Nat} {lv dv xv lu du xu : Value} {L D X L' D' X' : List Int} {w : World} (ha : RdT B w lv dv xv L D X) (hb : RdT B' w lu du xu L' D' X') (hB : B ≤ w.heap.size) (hB' : B' ≤ w.heap.size) (hax : AxesV L D) (hax' : AxesV L' D') :
    Calls Try.prog 79 #[tenV lv dv xv, tenV lu du xu] w (NewRow2B w (if fitV L D L' D' = true then joinL L L' else []) (if fitV L D L' D' = true then joinD L D L' D' else []) (fitV L D L' D')) := by
  have HA : Hid (RdT w.heap.size w lv dv xv L D X) := Lib.hid ⟨ha.l.mono hB, ha.d.mono hB, ha.x.mono hB⟩
  have HU : Hid (RdT w.heap.size w lu du xu L' D' X') := Lib.hid ⟨hb.l.mono hB', hb.d.mono hB', hb.x.mono hB'⟩
  have HI1 := Lib.hid (fun (w1 : World) (hb : Below w.heap.size w w1) => ints_new (HA.out.below hb (Nat.le_refl _)).l hb.size (by have := hax.1; omega))
  have HI2 := Lib.hid (fun (w1 : World) (hb : Below w.heap.size w w1) => ints_new (HA.out.below hb (Nat.le_refl _)).d hb.size (by have := hax.1; have := hax.2.1; omega))
  obtain ⟨al, cl, rfl, -⟩ := ints_form ha.l
  obtain ⟨ad, cd, rfl, -⟩ := ints_form ha.d
  obtain ⟨ax, cx, rfl, -⟩ := ints_form ha.x
  obtain ⟨bl, kl, rfl, -⟩ := ints_form hb.l
  obtain ⟨bd, kd, rfl, -⟩ := ints_form hb.d
  obtain ⟨bx, kx, rfl, -⟩ := ints_form hb.x
  obtain ⟨m, hm⟩ : ∃ m, m = L.length := ⟨_, rfl⟩
  obtain ⟨m', hm'⟩ : ∃ m, m = L'.length := ⟨_, rfl⟩
  obtain ⟨m3, hm3⟩ : ∃ m, m = X.length := ⟨_, rfl⟩
  obtain ⟨m6, hm6⟩ : ∃ m, m = X'.length := ⟨_, rfl⟩
  have e1 : D.length = m := by rw [hm]; exact hax.2.1.symm
  have e2 : D'.length = m' := by rw [hm']; exact hax'.2.1.symm
  rw [← hm, e1, ← hm3] at HA ⊢
  rw [← hm', e2, ← hm6] at HU ⊢
  rw [← hm] at HI1
  rw [e1] at HI2
  have HLL : Hid (L.length = m ∧ D.length = m ∧ L'.length = m' ∧ D'.length = m') := Lib.hid ⟨hm.symm, e1, hm'.symm, e2⟩
  have H12 : m ≤ 12 := by rw [hm]; exact hax.1
  have H12' : m' ≤ 12 := by rw [hm']; exact hax'.1
  have HND := Lib.hid hax.2.2.2.2
  have HND' := Lib.hid hax'.2.2.2.2
  obtain ⟨i0, hi, hz0, hz1, hz2⟩ := info_parts infoInt
  have J0 := Lib.hid hi
  have J1 := Lib.hid hz0
  have J2 := Lib.hid hz1
  have J3 := Lib.hid hz2
  have R0 : Hid (Rs w ((w.alloc (.cells #[.slice al m cl, .slice ad m cd, .slice ax m3 cx] 28)).alloc (.cells #[.slice bl m' kl, .slice bd m' kd, .slice bx m6 kx] 28)) [(w.heap.size + 1, .slice bl m' kl, .slice bd m' kd, .slice bx m6 kx), (w.heap.size, .slice al m cl, .slice ad m cd, .slice ax m3 cx)] []) := by
    have h := ((Rs.start w).box (.slice al m cl) (.slice ad m cd) (.slice ax m3 cx) 28).box (.slice bl m' kl) (.slice bd m' kd) (.slice bx m6 kx) 28
    simp only [World.size_alloc] at h
    exact h
  obtain ⟨fb, hfb⟩ : ∃ b, b = fitV L D L' D' := ⟨_, rfl⟩
  have HFB := Lib.hid hfb
  rw [← hfb]
  obtain ⟨zl, hzl⟩ : ∃ l, l = (if fb = true then joinL L L' else []) := ⟨_, rfl⟩
  obtain ⟨zd, hzd⟩ : ∃ l, l = (if fb = true then joinD L D L' D' else []) := ⟨_, rfl⟩
  have HNO : Hid (fb = false → zl = [] ∧ zd = []) := Lib.hid (fun h => by subst h; exact ⟨hzl, hzd⟩)
  have HYES : Hid (fb = true → zl = joinL L L' ∧ zd = joinD L D L' D') := Lib.hid (fun h => by subst h; exact ⟨hzl, hzd⟩)
  rw [← hzl, ← hzd]
  clear hzl hzd hfb ha hb hB hB' hax hax' hm hm' hm3 hm6 e1 e2 hi hz0 hz1 hz2
  obtain ⟨⟨a0, a1, a2⟩, -⟩ := R0.out.at (r := w.heap.size) (a := .slice al m cl) (b := .slice ad m cd) (c := .slice ax m3 cx) (by simp)
  go_enter Try.func79, Try.ntmps79
  go_wp2_with fail
  refine (HI1.out _ R0.out.bel).mono ?_
  clear a0 a1 a2
  rintro e w1 ⟨v1, rfl, ho, hb⟩
  have R1 := Lib.hid (R0.out.new hb ho)
  obtain ⟨g1, c1, rfl, -⟩ := ints_form ho.rd
  rw [HLL.out.1] at R1 ⊢
  clear hb ho
  obtain ⟨⟨a0, a1, a2⟩, -⟩ := R1.out.at (r := w.heap.size) (a := .slice al m cl) (b := .slice ad m cd) (c := .slice ax m3 cx) (by simp)
  go_wp2_with fail
  refine (HI2.out _ R1.out.bel).mono ?_
  clear a0 a1 a2
  rintro e w2 ⟨v2, rfl, ho, hb⟩
  have R2 := Lib.hid (R1.out.new hb ho)
  obtain ⟨g2, c2, rfl, -⟩ := ints_form ho.rd
  rw [HLL.out.2.1] at R2 ⊢
  clear hb ho
  generalize hbs : [(w.heap.size + 1, Value.slice bl m' kl, Value.slice bd m' kd, Value.slice bx m6 kx), (w.heap.size, Value.slice al m cl, Value.slice ad m cd, Value.slice ax m3 cx)] = bs at R0 R1 R2
  have HBS := Lib.hid hbs
  clear hbs
  obtain ⟨⟨b0, b1, b2⟩, -⟩ := R2.out.at (r := w.heap.size + 1) (a := .slice bl m' kl) (b := .slice bd m' kd) (c := .slice bx m6 kx) (by rw [← HBS.out]; simp)
  go_wp2
  go_loopw [7, 8, 21] (fun u v i wr => ∃ (j na ca cb : Nat) (ga gb : Option Addr), j ≤ m' ∧ i = .int .i64 j ∧ u = .slice ga na ca ∧ v = .slice gb na cb ∧ na ≤ m + j ∧ m ≤ na ∧ Hid (na = (L ++ restL L (L'.take j)).length) ∧ Hid (FitTo L D L' D' j) ∧ Hid (Rs w wr bs [(.slice gb na cb, D ++ dimsVia L' D' (restL L (L'.take j))), (.slice ga na ca, L ++ restL L (L'.take j))])) (fun _ _ i _ => m' - (intOf i).toNat)
  case atStart => exact ⟨0, m, c1, c2, g1, g2, by omega, rfl, rfl, rfl, by omega, by omega, Lib.hid (by rw [List.take_zero]; show m = (L ++ restL L []).length; simp [restL, HLL.out.1]), fun j n h => by omega, by rw [List.take_zero]; show Hid (Rs w _ bs [(_, D ++ dimsVia L' D' (restL L [])), (_, L ++ restL L [])]); simp only [restL, List.filter_nil, dimsVia, List.map_nil, List.append_nil]; exact R2⟩
  case round =>
    clear R0 R1 R2 b0 b1 b2
    obtain ⟨j, na, ca, cb, ga, gb, hj, rfl, rfl, rfl, hna, hnm, HNA, HFT, HR⟩ := hrel
    obtain ⟨⟨b0, b1, b2⟩, -⟩ := HR.out.at (r := w.heap.size + 1) (a := .slice bl m' kl) (b := .slice bd m' kd) (c := .slice bx m6 kx) (by rw [← HBS.out]; simp)
    have HLD : Hid ((D ++ dimsVia L' D' (restL L (L'.take j))).length = na) := Lib.hid (by rw [HNA.out, List.length_append, List.length_append, HLL.out.1, HLL.out.2.1]; simp [dimsVia])
    by_cases hlt : j < m'
    · obtain ⟨n, X1⟩ : ∃ n, Hid (L'[j]? = some n) := ⟨_, List.getElem?_eq_getElem (by rw [HLL.out.2.2.1]; exact hlt)⟩
      obtain ⟨d, X2⟩ : ∃ d, Hid (D'[j]? = some d) := ⟨_, List.getElem?_eq_getElem (by rw [HLL.out.2.2.2]; exact hlt)⟩
      obtain ⟨b, off, rfl, -, e1⟩ := (HU.out.l.below HR.out.bel (Nat.le_refl _)).cellAt X1.out
      obtain ⟨bb, off2, rfl, -, e2⟩ := (HU.out.d.below HR.out.bel (Nat.le_refl _)).cellAt X2.out
      have HF := Lib.hid (find_spec n (HR.out.rd (v := .slice ga na ca) (xs := L ++ restL L (L'.take j)) (by simp)) (by rw [← HNA.out]; omega))
      by_cases hin : n ∈ L
      · obtain ⟨hfi, hq2⟩ := find_old (M := restL L (L'.take j)) hin
        obtain ⟨q, hq⟩ : ∃ q, L.idxOf n = q := ⟨_, rfl⟩
        rw [hq] at hfi hq2
        rw [hfi] at HF
        have hqm : q < m := by rw [← HLL.out.1]; exact hq2
        obtain ⟨dq, hdq⟩ : ∃ dq, D[q]? = some dq := ⟨_, List.getElem?_eq_getElem (by rw [HLL.out.2.1]; exact hqm)⟩
        obtain ⟨gd, rfl, -, -, hcell, hfz⟩ := (HR.out.own1 (v := .slice gb na cb) (xs := D ++ dimsVia L' D' (restL L (L'.take j))) (by simp)).slot HLD.out (by omega)
        have c3 := hcell q dq (by rw [List.getElem?_append_left (by rw [HLL.out.2.1]; exact hqm)]; exact hdq)
        have hqna : q < na := by omega
        clear hcell hfz hfi hq2
        by_cases hne : dq = d
        · subst hne
          have HFT2 := Lib.hid (HFT.out.old X1.out (fun _ => by rw [hq, getD_at hdq, getD_at X2.out]))
          have ROLD := Lib.hid (rest_old X1.out hin)
          clear hin hq hdq
          go_wp2_with fail
          refine HF.out.mono ?_
          rintro e w3 ⟨rfl, rfl⟩
          go_wp2
          go_region
          all_goals (try go_wp2)
          all_goals
            go_roundw
            case rel => exact ⟨j + 1, na, ca, cb, ga, some ⟨gd, 0, none⟩, by omega, by go_num, rfl, rfl, by omega, by omega, by rw [ROLD.out]; exact HNA, HFT2, by rw [ROLD.out]; exact Lib.hid HR.out.drew⟩
            case measure => simp [intOf]; omega
        · have hfb := FitV.no X1.out X2.out hin hq (by rw [getD_at hdq]; exact hne)
          rw [← HFB.out] at hfb
          subst hfb
          have HZ := Lib.hid (HNO.out rfl)
          have q1 : (dq == d) = false := by simpa using hne
          clear hin hq hdq HNO HYES hne
          go_wp2_with fail
          refine HF.out.mono ?_
          rintro e w3 ⟨rfl, rfl⟩
          go_wp2
          go_region
          all_goals (try go_wp2)
          all_goals refine bodyPost_ret (v := .tuple #[nilV, nilV, .bool false]) (by simp [results, Try.results79, go_sem]) rfl ?_
          all_goals
            rw [HZ.out.1, HZ.out.2]
            exact ⟨_, _, rfl, ⟨fun r hr => by simp at hr; rcases hr with rfl | rfl <;> exact Own.nils (Nat.le_refl _), by simp [ApartG, Value.ownBlock]⟩, HR.out.drew.bel⟩
      · have hfi := find_new HND'.out X1.out hin
        rw [hfi] at HF
        have RNEW := Lib.hid (rest_new X1.out hin)
        have HFT2 := Lib.hid (HFT.out.old X1.out (fun h => absurd h hin))
        have DNEW : Hid (dimsVia L' D' (restL L (L'.take j) ++ [n]) = dimsVia L' D' (restL L (L'.take j)) ++ [d]) := Lib.hid (by rw [dimsVia_app]; congr 1; simp only [dimsVia, List.map_cons, List.map_nil, idxOf_at HND'.out X1.out, getD_at X2.out])
        clear hfi hin
        have A1 := Lib.hid (HR.out.swap.drew.alloc (.cells #[.int .i64 n] 3))
        have O1 := Lib.hid (A1.out.row (List.mem_cons_self) HNA.out.symm : World.ownsRow _ w.heap.size 3 1 (.slice ga na ca) na (ints (L ++ restL L (L'.take j))))
        go_wp2_with fail
        refine HF.out.mono ?_
        rintro e w3 ⟨rfl, rfl⟩
        go_wp2
        go_region
        go_wp2_with (at_builtin; go_must (refine wpList_append_lies _ rfl _ _ 24 rfl w.heap.size 3 i0 (.int .i64 0) 1 8 Try.underlying24 J0.out J1.out J2.out J3.out rfl (by decide) _ na (ints (L ++ restL L (L'.take j))) rfl O1.out ⟨wr.drew.heap.size, 0, none⟩ 1 1 [.int .i64 n] rfl rfl (cell_one_new _ _ _) ?c2 (by decide) ?c3 ?c4 ?c5 _ rfl ?_))
        case c2 => first | rfl | (intro u hu; simp at hu; subst hu; rfl)
        case c3 => unfold maxLen; omega
        case c4 => omega
        case c5 => exact A1.out.bel.size
        intro g1 cap1 w4 hown hgrow hl1 _
        have R4 := Lib.hid (A1.out.app1 HNA.out.symm hown hgrow (by rw [World.size_alloc]; exact hl1))
        rw [List.append_assoc, ← RNEW.out] at R4
        clear hown hgrow hl1 O1 A1 b0 b1 b2 e1 e2
        obtain ⟨⟨b0, b1, b2⟩, -⟩ := R4.out.at (r := w.heap.size + 1) (a := .slice (some ⟨b, off, none⟩) m' kl) (b := .slice (some ⟨bb, off2, none⟩) m' kd) (c := .slice bx m6 kx) (by rw [← HBS.out]; simp)
        obtain ⟨bb', off3, e3, -, e2⟩ := (HU.out.d.below R4.out.bel (Nat.le_refl _)).cellAt X2.out
        cases e3
        have A2 := Lib.hid (R4.out.swap.alloc (.cells #[.int .i64 d] 3))
        have O2 := Lib.hid (A2.out.row (List.mem_cons_self) HLD.out : World.ownsRow _ w.heap.size 3 1 (.slice gb na cb) na (ints (D ++ dimsVia L' D' (restL L (L'.take j)))))
        go_wp2_with (at_builtin; go_must (refine wpList_append_lies _ rfl _ _ 24 rfl w.heap.size 3 i0 (.int .i64 0) 1 8 Try.underlying24 J0.out J1.out J2.out J3.out rfl (by decide) _ na (ints (D ++ dimsVia L' D' (restL L (L'.take j)))) rfl O2.out ⟨w4.heap.size, 0, none⟩ 1 1 [.int .i64 d] rfl rfl (cell_one_new _ _ _) ?c2 (by decide) ?c3 ?c4 ?c5 _ rfl ?_))
        case c2 => first | rfl | (intro u hu; simp at hu; subst hu; rfl)
        case c3 => unfold maxLen; omega
        case c4 => omega
        case c5 => exact A2.out.bel.size
        intro g2 cap2 w5 hown hgrow hl2 _
        have R5 := Lib.hid (A2.out.app1 HLD.out hown hgrow (by rw [World.size_alloc]; exact hl2))
        rw [List.append_assoc, ← DNEW.out, ← RNEW.out] at R5
        have HNA2 : Hid (na + 1 = (L ++ restL L (L'.take (j + 1))).length) := Lib.hid (by rw [RNEW.out, ← List.append_assoc, List.length_append, ← HNA.out]; rfl)
        clear hown hgrow hl2 O2 A2 b0 b1 b2 e2
        go_wp2
        go_roundw
        case rel => exact ⟨j + 1, na + 1, cap1, cap2, some ⟨g1, 0, none⟩, some ⟨g2, 0, none⟩, by omega, by go_num, rfl, rfl, by omega, by omega, HNA2, HFT2, R5⟩
        case measure => simp [intOf]; omega
    · obtain rfl : j = m' := by omega
      have hfb : fb = true := by
        rw [HFB.out]
        refine fitV_true.2 ?_
        have h := HFT.out
        rw [← HLL.out.2.2.1] at h
        exact h
      subst hfb
      have HZ := Lib.hid (HYES.out rfl)
      have E1 : Hid (L'.take j = L') := Lib.hid (List.take_of_length_le (by rw [HLL.out.2.2.1]; exact Nat.le_refl _))
      rw [E1.out] at HR
      clear HNO HYES
      go_wp2
      refine bodyPost_ret (v := .tuple #[.slice ga na ca, .slice gb na cb, .bool true]) (by simp [results, Try.results79, go_sem]) rfl ?_
      rw [HZ.out.1, HZ.out.2]
      exact ⟨_, _, rfl, HR.out.swap.ownG, HR.out.bel⟩
end Go.Proofs.Ytgabcdploeledaa
namespace Go.Proofs.Ytgabcdploeledaa
set_option maxRecDepth 20000
open Go.RowKit

set_option maxHeartbeats 3200000 in
theorem steps_spec {B : Nat} {lv dv xv jv : Value} {L D X J : List Int} {w : World} (h : RdT B w lv dv xv L D X) (hj : Rd B w jv (ints J)) (hB : B ≤ w.heap.size) (hax : AxesV L D) (hP : prodL D ≤ 4096) (hn : J.Nodup) (h24 : J.length ≤ 24) (hs : ∀ n ∈ L, n ∈ J) :
    Calls Try.prog 112 #[tenV lv dv xv, jv] w (NewRow w (stepL L D J)) := by
  have HT : Hid (RdT w.heap.size w lv dv xv L D X) := Lib.hid ⟨h.l.mono hB, h.d.mono hB, h.x.mono hB⟩
  have HJ := Lib.hid (hj.mono hB)
  have HND := Lib.hid (And.intro hax.2.2.2.2 hn)
  have HS := Lib.hid hs
  have HDD := Lib.hid (fun d hd => hax.2.2.2.1 d hd)
  have HP := Lib.hid hP
  obtain ⟨al, cl, rfl, -⟩ := ints_form h.l
  obtain ⟨ad, cd, rfl, -⟩ := ints_form h.d
  obtain ⟨ax, cx, rfl, -⟩ := ints_form h.x
  obtain ⟨aj, cj, rfl, -⟩ := ints_form hj
  obtain ⟨m, hm⟩ : ∃ m, m = L.length := ⟨_, rfl⟩
  obtain ⟨m3, hm3⟩ : ∃ m, m = X.length := ⟨_, rfl⟩
  obtain ⟨mj, hmj⟩ : ∃ m, m = J.length := ⟨_, rfl⟩
  have e1 : D.length = m := by rw [hm]; exact hax.2.1.symm
  rw [← hm, e1, ← hm3] at HT ⊢
  rw [← hmj] at HJ ⊢
  have HLL : Hid (L.length = m ∧ D.length = m ∧ J.length = mj) := Lib.hid ⟨hm.symm, e1, hmj.symm⟩
  have H12 : m ≤ 12 := by rw [hm]; exact hax.1
  have H24 : mj ≤ 24 := by rw [hmj]; exact h24
  obtain ⟨i0, hi, hz0, hz1, hz2⟩ := info_parts infoInt
  have J0 := Lib.hid hi
  have J1 := Lib.hid hz0
  have J2 := Lib.hid hz1
  have J3 := Lib.hid hz2
  have R0 : Hid (Rs w (w.alloc (.cells #[.slice al m cl, .slice ad m cd, .slice ax m3 cx] 28)) [(w.heap.size, .slice al m cl, .slice ad m cd, .slice ax m3 cx)] []) := Lib.hid ((Rs.start w).box (.slice al m cl) (.slice ad m cd) (.slice ax m3 cx) 28)
  obtain ⟨w0, hw0⟩ : ∃ W, W = w.alloc (.cells #[.slice al m cl, .slice ad m cd, .slice ax m3 cx] 28) := ⟨_, rfl⟩
  clear h hj hB hax hP hn h24 hs hm hm3 hmj e1 hi hz0 hz1 hz2
  go_enter Try.func112, Try.ntmps112
  go_wp2_with (at_make; go_must (refine wpList_make_full _ rfl _ _ 24 rfl (w.heap.size + 1) 3 i0 (.int .i64 0) 1 Try.underlying24 J0.out J1.out J2.out .i64 .i64 _ _ mj rfl rfl rfl rfl (by rw [J3.out]; omega) (by unfold maxLen; omega) (by simp) ?_))
  rw [← hw0] at R0 ⊢
  intro w3 hown hgrow
  have hsz : w.heap.size + 1 = w0.heap.size := by rw [hw0]; simp
  rw [hsz] at hown ⊢
  have R1 := Lib.hid (R0.out.made (n := mj) (w' := w3) (by simp only [Value.cells, Nat.mul_one] at hown ⊢; exact hown) hgrow)
  have R2 : Hid (Rs w w3 [(w.heap.size, .slice al m cl, .slice ad m cd, .slice ax m3 cx)] [(.slice (some ⟨w0.heap.size, 0, none⟩) mj mj, stepTo L D J m)]) := Lib.hid (by
    have e := stepTo_none L D J
    rw [HLL.out.1, HLL.out.2.2] at e
    rw [e]
    exact R1.out)
  obtain ⟨g, hg⟩ : ∃ g, g = w0.heap.size := ⟨_, rfl⟩
  rw [← hg] at R2 ⊢
  obtain ⟨⟨a0, a1, a2⟩, -⟩ := R2.out.at (r := w.heap.size) (a := .slice al m cl) (b := .slice ad m cd) (c := .slice ax m3 cx) (by simp)
  clear hown hgrow R0 R1 hw0 hsz hg
  have EP : Hid (prodL (D.drop m) = 1) := Lib.hid (by rw [List.drop_of_length_le (by rw [HLL.out.2.1]; exact Nat.le_refl _), prodL_nil])
  go_wp2
  go_loopw [6, 7] (fun s i wr => ∃ (j : Nat) (c : Int), j ≤ m ∧ i = .int .i64 ((j : Int) - 1) ∧ s = .int .i64 c ∧ Hid (c = prodL (D.drop j)) ∧ Hid (Rs w wr [(w.heap.size, .slice al m cl, .slice ad m cd, .slice ax m3 cx)] [(.slice (some ⟨g, 0, none⟩) mj mj, stepTo L D J j)])) (fun _ i _ => (intOf i + 1).toNat)
  case atStart => exact ⟨m, 1, by omega, rfl, rfl, Lib.hid EP.out.symm, R2⟩
  case round =>
    clear R2 a0 a1 a2
    obtain ⟨j, c, hj, rfl, rfl, HC, HR⟩ := hrel
    cases j with
    | zero =>
      have q0 : ¬ (0 : Int) ≤ ((0 : Nat) : Int) - 1 := by omega
      go_wp2
      go_ret
      have h1 := HR.out.own1 (v := .slice (some ⟨g, 0, none⟩) mj mj) (xs := stepTo L D J 0) (by simp)
      rw [stepTo_all] at h1
      exact ⟨_, rfl, h1, HR.out.bel⟩
    | succ j =>
      have ej : (((j + 1 : Nat) : Int) - 1) = (j : Int) := by omega
      have hlt : j < m := by omega
      obtain ⟨n, X1⟩ : ∃ n, Hid (L[j]? = some n) := ⟨_, List.getElem?_eq_getElem (by rw [HLL.out.1]; exact hlt)⟩
      obtain ⟨d, X2⟩ : ∃ d, Hid (D[j]? = some d) := ⟨_, List.getElem?_eq_getElem (by rw [HLL.out.2.1]; exact hlt)⟩
      obtain ⟨b, off, rfl, -, e1⟩ := (HT.out.l.below HR.out.bel (Nat.le_refl _)).cellAt X1.out
      obtain ⟨b2, off2, rfl, -, e2⟩ := (HT.out.d.below HR.out.bel (Nat.le_refl _)).cellAt X2.out
      have hmem : n ∈ J := HS.out n (List.mem_of_getElem? X1.out)
      obtain ⟨q, hq⟩ : ∃ q, J.idxOf n = q := ⟨_, rfl⟩
      have hql : q < mj := by rw [← hq, ← HLL.out.2.2]; exact List.idxOf_lt_length_iff.2 hmem
      have hJq : J[q]? = some n := by rw [← hq]; exact at_idxOf hmem
      have HF := Lib.hid (find_spec n (HJ.out.below HR.out.bel (Nat.le_refl _)) (by rw [HLL.out.2.2]; omega))
      rw [show findI J n = (q : Int) by unfold findI; rw [if_pos hmem, hq]] at HF
      have HS2 := Lib.hid (HR.out.put (by rw [stepTo_len, HLL.out.2.2]) q c)
      rw [HC.out, ← stepTo_hit HND.out.1 X1.out HND.out.2 hJq, ← HC.out] at HS2
      obtain ⟨cur, hcur⟩ : ∃ x, (stepTo L D J (j + 1))[q]? = some x := ⟨_, List.getElem?_eq_getElem (by rw [stepTo_len, HLL.out.2.2]; exact hql)⟩
      obtain ⟨g', eg, -, -, hcell, hfz⟩ := (HR.out.own1 (v := .slice (some ⟨g, 0, none⟩) mj mj) (xs := stepTo L D J (j + 1)) (by simp)).slot (by rw [stepTo_len, HLL.out.2.2]) (by omega)
      cases eg
      have c3 := hcell q cur hcur
      have f3 := hfz q
      obtain ⟨⟨a0, a1, a2⟩, -⟩ := HR.out.at (r := w.heap.size) (a := .slice (some ⟨b, off, none⟩) m cl) (b := .slice (some ⟨b2, off2, none⟩) m cd) (c := .slice ax m3 cx) (by simp)
      obtain ⟨⟨y0, y1, y2⟩, -⟩ := HS2.out.at (r := w.heap.size) (a := .slice (some ⟨b, off, none⟩) m cl) (b := .slice (some ⟨b2, off2, none⟩) m cd) (c := .slice ax m3 cx) (by simp)
      obtain ⟨b2', off2', ee, -, e3⟩ := (HT.out.d.below HS2.out.bel (Nat.le_refl _)).cellAt X2.out
      cases ee
      have hD1 : ∀ d ∈ D, 1 ≤ d := fun d hd => (HDD.out d hd).1
      have hc1 : 1 ≤ c := by rw [HC.out]; exact drop_pos hD1 _
      have hstep : c * d = prodL (D.drop j) := by rw [HC.out, prodL_drop_succ D j (by rw [HLL.out.2.1]; exact hlt), getD_at X2.out, Int.mul_comm]
      have hcd : 1 ≤ c * d ∧ c * d ≤ 4096 := by rw [hstep]; exact ⟨drop_pos hD1 _, Int.le_trans (prodL_drop_le hD1 j) HP.out⟩
      have hw : IntKind.i64.wrap (c * d) = c * d := IntWalk.i64_in _ (by omega)
      have HST := Lib.hid hstep
      have hcd1 := hcd.1
      have hcd2 := hcd.2
      clear hmem hq hJq hcell hfz hstep hcd hD1 hcur
      rw [ej]
      go_wp2_with fail
      refine HF.out.mono ?_
      rintro e w4 ⟨rfl, rfl⟩
      go_wp2
      go_roundw
      case rel => exact ⟨j, c * d, by omega, by go_num, rfl, HST, HS2⟩
      case measure => simp [intOf]
end Go.Proofs.Ytgabcdploeledaa
