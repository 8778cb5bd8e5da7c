
/- impl.isReordered, impl.PermuteTensor. -/
import Derived.Test.YtgbmacppgaopfaaFreeMap
import Derived.Test.YtgbmacppgaopfaaPermuted
import Derived.Test.YtgbmacppgaopfaaPermSpec
import Derived.Test.YtgbmacppgaopfaaTenOkImpl
namespace Go.Proofs.Ytgbmacppgaopfaa
set_option maxRecDepth 20000
open Go.RowKit Go.Maps

theorem ax_ints {L D : List Int} (h : AxesV L D) : allI L := fun z hz => by
  have := h.2.2.1 z hz
  unfold inI
  omega
theorem nodup_le : ∀ {L M : List Int}, L.Nodup → (∀ x ∈ L, x ∈ M) → L.length ≤ M.length := by
  intro L
  induction L with
  | nil => intro M _ _; simp
  | cons x r ih =>
    intro M hn hs
    have hn' := List.nodup_cons.1 hn
    have hx := hs x (by simp)
    have h1 := ih (M := M.erase x) hn'.2 (fun y hy => (List.mem_erase_of_ne (show y ≠ x by rintro rfl; exact hn'.1 hy)).2 (hs y (by simp [hy])))
    rw [List.length_erase_of_mem hx] at h1
    have h2 := List.length_pos_of_mem hx
    simp only [List.length_cons]
    omega
theorem not_in_take {L' : List Int} {i : Nat} {n : Int} (hn : L'.Nodup) (h : L'[i]? = some n) : n ∉ L'.take i := fun hm => by
  obtain ⟨hl, e⟩ := List.getElem?_eq_some_iff.1 h
  obtain ⟨j, hj, e2⟩ := List.mem_iff_getElem.1 hm
  rw [List.length_take] at hj
  rw [List.getElem_take] at e2
  have := (List.getElem_inj (i := j) (j := i) (h₀ := by omega) (h₁ := hl) hn).1 (by rw [e2, e])
  omega
/-- The first j labels are distinct ones of the others. -/
theorem setTo_step {xs ys : List Int} {j : Nat} {n : Int} (h : SetTo xs ys j) (hn : ys[j]? = some n) (h1 : n ∈ xs) (h2 : n ∉ ys.take j) : SetTo xs ys (j + 1) := fun i m hi hm => by
  by_cases e : i = j
  · subst e
    rw [hn] at hm
    cases hm
    exact ⟨h1, h2⟩
  · exact h i m (by omega) hm
theorem setTo_nodup {xs ys : List Int} : ∀ {j : Nat}, SetTo xs ys j → (ys.take j).Nodup := by
  intro j
  induction j with
  | zero => intro _; simp
  | succ j ih =>
    intro h
    have h1 := ih (fun i m hi hm => h i m (by omega) hm)
    cases hy : ys[j]? with
    | none => rw [List.take_add_one, hy]; simpa using h1
    | some n =>
      rw [List.take_add_one, hy]
      have h2 := (h j n (by omega) hy).2
      exact List.nodup_append.2 ⟨h1, by simp, fun a ha b hb => by simp at hb; subst hb; exact fun e => h2 (e ▸ ha)⟩
theorem setTo_len {xs ys : List Int} {j : Nat} (h : SetTo xs ys j) : (ys.take j).length ≤ xs.length :=
  nodup_le (setTo_nodup h) fun x hx => by
    obtain ⟨i, hi⟩ := List.getElem?_of_mem hx
    have h1 := (List.getElem?_eq_some_iff.1 hi).1
    rw [List.length_take] at h1
    rw [List.getElem?_take_of_lt (by omega)] at hi
    exact (h i x (by omega) hi).1
theorem setV_not {xs ys : List Int} {j : Nat} {n : Int} (hn : ys[j]? = some n) (h : (decide (n ∈ xs) && !decide (n ∈ ys.take j)) = false) : setV xs ys = false :=
  setV_false fun hs => by
    have h1 := hs.1 j n hn
    simp [h1.1, h1.2] at h
theorem setV_end {xs ys : List Int} {m n : Nat} (h : SetTo xs ys m) (hm : ys.length = m) (hn : xs.length = n) : (((n - m : Nat) : Int) == 0) = setV xs ys := by
  have h1 := setTo_len h
  rw [List.take_of_length_le (by omega), hm, hn] at h1
  by_cases e : n = m
  · have hs : SetV xs ys := ⟨fun i k hk => h i k (by have := (List.getElem?_eq_some_iff.1 hk).1; omega) hk, by omega⟩
    rw [setV_true.2 hs]
    simp; omega
  · rw [setV_false fun hs => e (by have := hs.2; omega)]
    simp; omega
set_option maxHeartbeats 1600000 in
theorem reordered_full {B B' m n ca cb : Nat} {a b : Option Addr} {l labels : List Int} {w : World} (h1 : l.length = m) (h2 : labels.length = n) (_hm : m ≤ 281474976710656) (hn : n ≤ 1000) (hnd : labels.Nodup) (hI : allI l) (hJ : allI labels) (ha : Rd B w (.slice a m ca) (ints l)) (hb : Rd B' w (.slice b n cb) (ints labels)) (hB : B ≤ w.heap.size) (hB' : B' ≤ w.heap.size) :
    Calls Try.prog 99 #[.slice a m ca, .slice b n cb] w fun e w' => e = .returned (.bool (setV labels l)) ∧ Below w.heap.size w w' := by
  have L1 := Lib.hid h1
  have L2 := Lib.hid h2
  have ND := Lib.hid hnd
  have HI := Lib.hid hI
  have HJ := Lib.hid hJ
  have RA := Lib.hid (ha.mono hB)
  have RB := Lib.hid (hb.mono hB')
  have hmm := make_hint (n : Int)
  have H0 := Lib.hid (MapB.made w)
  obtain ⟨r, hr⟩ : ∃ r, r = setV labels l := ⟨_, rfl⟩
  rw [← hr]
  have HR := Lib.hid hr
  clear h1 h2 hnd hI hJ ha hb hB hB' hr
  go_enter Try.func99, Try.ntmps99
  go_wp2
  go_loopw [15] (fun i wr => ∃ j : Nat, j ≤ n ∧ i = .int .i64 j ∧ Hid (MapB w wr w.heap.size j (fun x => decide (x ∈ labels.take j)) j)) (fun i _ => n - (intOf i).toNat)
  case atStart => exact ⟨0, by omega, rfl, H0.out.eq (Nat.le_refl _) (fun x => by simp)⟩
  case round =>
    clear H0
    obtain ⟨j, hj, rfl, HM⟩ := hrel
    by_cases hlt : j < n
    · obtain ⟨x, X1⟩ : ∃ x, Hid (labels[j]? = some x) := ⟨_, List.getElem?_eq_getElem (by rw [L2.out]; exact hlt)⟩
      obtain ⟨b1, o1, rfl, -, e1⟩ := (RB.out.below HM.out.1 (Nat.le_refl _)).cellAt X1.out
      have hxi := HJ.out x (List.mem_of_getElem? X1.out)
      have hwf : (Lit.int .i64 x).wf = true := wf_of hxi.1 hxi.2
      have hf : decide (x ∈ labels.take j) = false := decide_eq_false (not_in_take ND.out X1.out)
      clear hxi
      go_wp2_with (first | (refine MapB.store rfl rfl rfl rfl HM (by omega) hf hwf ?_; intro w1 H1) | go_in)
      go_roundw
      case rel => exact ⟨j + 1, by omega, by go_num, H1.out.eq (Nat.le_refl _) (fun y => by
        rw [List.take_add_one, X1.out, Bool.eq_iff_iff]
        simp [or_comm])⟩
      case measure => simp [intOf]; omega
    · obtain rfl : j = n := by omega
      have E1 : Hid (labels.take j = labels) := Lib.hid (List.take_of_length_le (by rw [L2.out]; exact Nat.le_refl _))
      rw [E1.out] at HM
      go_wp2
      go_loopw [24] (fun i wr => ∃ t : Nat, t ≤ m ∧ i = .int .i64 t ∧ Hid (SetTo labels l t) ∧ Hid (MapB w wr w.heap.size j (fun x => decide (x ∈ labels) && !decide (x ∈ l.take t)) (j - t))) (fun i _ => m - (intOf i).toNat)
      case atStart => exact ⟨0, by omega, rfl, Lib.hid (fun i m hi => absurd hi (Nat.not_lt_zero _)), HM.out.eq (Nat.le_refl _) (fun x => by simp)⟩
      case round =>
        clear HM
        obtain ⟨t, ht, rfl, HS, HM⟩ := hrel
        by_cases hlt2 : t < m
        · obtain ⟨x, X1⟩ : ∃ x, Hid (l[t]? = some x) := ⟨_, List.getElem?_eq_getElem (by rw [L1.out]; exact hlt2)⟩
          obtain ⟨b1, o1, rfl, -, e1⟩ := (RA.out.below HM.out.1 (Nat.le_refl _)).cellAt X1.out
          have hxi := HI.out x (List.mem_of_getElem? X1.out)
          have hwf : (Lit.int .i64 x).wf = true := wf_of hxi.1 hxi.2
          clear hxi
          cases hf : (decide (x ∈ labels) && !decide (x ∈ l.take t)) with
          | false =>
            have HF : Hid (r = false) := Lib.hid (by rw [HR.out]; exact setV_not X1.out hf)
            go_wp2_with (first | (refine MapB.look false HM rfl rfl rfl rfl hwf hf ?_) | go_in)
            go_ret
            exact ⟨by rw [HF.out]; rfl, HM.out.1⟩
          | true =>
            have hf2 := hf
            simp only [Bool.and_eq_true, decide_eq_true_eq, Bool.not_eq_true', decide_eq_false_iff_not] at hf2
            have HS2 := Lib.hid (setTo_step HS.out X1.out hf2.1 hf2.2)
            clear hf2
            go_wp2_with (first | (refine MapB.look true HM rfl rfl rfl rfl hwf hf ?_) | (refine MapB.drop rfl rfl rfl rfl HM hf hwf ?_; intro w1 H1) | go_in)
            go_roundw
            case rel => exact ⟨t + 1, by omega, by go_num, HS2, by
              have h := H1.out.eq (m := j) (g := fun x => decide (x ∈ labels) && !decide (x ∈ l.take (t + 1))) (Nat.le_refl _) (fun y => by
                rw [List.take_add_one, X1.out, Bool.eq_iff_iff]
                simp
                constructor
                · rintro ⟨h1, h2, h3⟩; exact ⟨h2, h3, h1⟩
                · rintro ⟨h1, h2, h3⟩; exact ⟨h3, h1, h2⟩)
              rw [Nat.sub_sub] at h
              exact h⟩
            case measure => simp [intOf]; omega
        · obtain rfl : t = m := by omega
          have HE : Hid ((((j - t : Nat) : Int) == 0) = r) := Lib.hid (by rw [HR.out]; exact setV_end HS.out L1.out L2.out)
          go_wp2_with (first | (refine MapB.count rfl rfl rfl HM ?_) | go_in)
          go_ret
          exact ⟨by rw [← HE.out]; rfl, HM.out.1⟩
theorem reordered_impl {B B' : Nat} {u v : Value} {l labels : List Int} {w : World} (hm : l.length ≤ 281474976710656) (hn : labels.length ≤ 1000) (hnd : labels.Nodup) (hI : allI l) (hJ : allI labels) (ha : Rd B w u (ints l)) (hb : Rd B' w v (ints labels)) (hB : B ≤ w.heap.size) (hB' : B' ≤ w.heap.size) :
    Calls Try.prog 99 #[u, v] w fun e w' => e = .returned (.bool (setV labels l)) ∧ Below w.heap.size w w' := by
  obtain ⟨a, ca, rfl, -⟩ := ints_form ha
  obtain ⟨b, cb, rfl, -⟩ := ints_form hb
  exact reordered_full rfl rfl hm hn hnd hI hJ ha hb hB hB'
set_option maxHeartbeats 3200000 in
theorem permute_tensor_impl {B : Nat} {lv dv xv gv : Value} {k p q : Int} {L D X labels : List Int} {w : World} (h : RdT B w lv dv xv L D X) (hg : Rd B w gv (ints labels)) (hB : B ≤ w.heap.size) (hn : LenT L D X) (hng : labels.length ≤ 1099511627776) (hI : allI L) (hG : allI labels) :
    Calls Try.prog 49 #[ringV k p q, tenV lv dv xv, gv] w (NewTen2 w (if permB k p q L D X labels = true then labels else []) (if permB k p q L D X labels = true then dimsVia L D labels else []) (if permB k p q L D X labels = true then permDataL k q L D X labels else []) (permB k p q L D X labels)) := by
  have HT := Lib.hid h
  have HG := Lib.hid hg
  have hGI := hG
  have HB := Lib.hid hB
  have HII := Lib.hid hI
  obtain ⟨al, cl, rfl, -⟩ := ints_form h.l
  obtain ⟨ad, cd, rfl, -⟩ := ints_form h.d
  obtain ⟨ax, cx, rfl, -⟩ := ints_form h.x
  obtain ⟨ag, cg, rfl, -⟩ := ints_form hg
  obtain ⟨ml, hml⟩ : ∃ m, m = L.length := ⟨_, rfl⟩
  obtain ⟨md, hmd⟩ : ∃ m, m = D.length := ⟨_, rfl⟩
  obtain ⟨mx, hmx⟩ : ∃ m, m = X.length := ⟨_, rfl⟩
  obtain ⟨mg, hmg⟩ : ∃ m, m = labels.length := ⟨_, rfl⟩
  rw [← hml, ← hmd, ← hmx] at HT ⊢
  rw [← hmg] at HG ⊢
  have R0 := Lib.hid (Rs.three w k p q (.slice al ml cl) (.slice ad md cd) (.slice ax mx cx) 30 49 49)
  have HOK := Lib.hid (fun (w1 : World) (hb : Below w.heap.size w w1) => tensor_ok_impl (k := k) (p := p) (n := q) (HT.out.below hb HB.out) (Nat.le_trans HB.out hb.size) hn HII.out)
  have HRO := Lib.hid (fun (w1 : World) (hb : Below w.heap.size w w1) (hax : AxesV L D) => reordered_impl (by omega) (by have := hax.1; omega) hax.2.2.2.2 hGI hI (HG.out.below hb HB.out) (HT.out.below hb HB.out).l (Nat.le_trans HB.out hb.size) (Nat.le_trans HB.out hb.size))
  have HPE := Lib.hid (fun (w1 : World) (hb : Below w.heap.size w w1) (ht : tensorB k p q L D X = true) (hs : SetV L labels) => permuted_impl (HT.out.below hb HB.out) (HG.out.below hb HB.out) (Nat.le_trans HB.out hb.size) ht hs)
  obtain ⟨tb, htb⟩ : ∃ b, b = tensorB k p q L D X := ⟨_, rfl⟩
  obtain ⟨sb, hsb⟩ : ∃ b, b = setV L labels := ⟨_, rfl⟩
  obtain ⟨pb, hpb⟩ : ∃ b, b = permB k p q L D X labels := ⟨_, rfl⟩
  rw [← htb] at HOK
  rw [← hsb] at HRO
  rw [← hpb]
  have HPB : Hid (pb = (tb && sb)) := by show _ = _; rw [hpb, htb, hsb]; rfl
  have HTB := Lib.hid htb
  have HSB := Lib.hid hsb
  clear h hg hB hn htb hsb hpb hI hG hGI hml hmd hmx hmg
  obtain ⟨⟨r0, r1, r2⟩, -⟩ := R0.out.at (r := w.heap.size) (a := .int .i64 k) (b := .int .i64 p) (c := .int .i64 q) (by simp)
  obtain ⟨⟨s0, s1, s2⟩, -⟩ := R0.out.at (r := w.heap.size + 1) (a := .slice al ml cl) (b := .slice ad md cd) (c := .slice ax mx cx) (by simp)
  cases tb with
  | false =>
    obtain rfl : pb = false := by rw [HPB.out]; rfl
    simp only [Bool.false_eq_true, if_false]
    clear HPE HRO
    go_enter Try.func49, Try.ntmps49
    go_wp2_with fail
    refine (HOK.out _ R0.out.bel).mono ?_
    rintro e w1 ⟨rfl, hb⟩
    have R1 := Lib.hid (R0.out.step hb)
    clear hb r0 r1 r2 s0 s1 s2
    obtain ⟨⟨t0, t1, t2⟩, f0, f1, f2⟩ := R1.out.at (r := w.heap.size + 1 + 1) (a := nilV) (b := nilV) (c := nilV) (by simp)
    go_wp2
    refine bodyPost_ret (v := .tuple #[tenV nilV nilV nilV, .bool false]) (by simp [results, Try.results49, go_sem, t0, t1, t2]) rfl ?_
    exact NewTen2.nils (((R1.out.bel.setCell (by simp; omega) _).setCell (by simp; omega) _).setCell (by simp; omega) _)
  | true =>
    have HAX := Lib.hid (tensorB_axes HTB.out.symm).1
    cases sb with
    | false =>
      obtain rfl : pb = false := by rw [HPB.out]; rfl
      simp only [Bool.false_eq_true, if_false]
      clear HPE
      go_enter Try.func49, Try.ntmps49
      go_wp2_with fail
      refine (HOK.out _ R0.out.bel).mono ?_
      rintro e w1 ⟨rfl, hb⟩
      have R1 := Lib.hid (R0.out.step hb)
      clear hb r0 r1 r2 s0 s1 s2
      obtain ⟨⟨r0, r1, r2⟩, -⟩ := R1.out.at (r := w.heap.size) (a := .int .i64 k) (b := .int .i64 p) (c := .int .i64 q) (by simp)
      obtain ⟨⟨s0, s1, s2⟩, -⟩ := R1.out.at (r := w.heap.size + 1) (a := .slice al ml cl) (b := .slice ad md cd) (c := .slice ax mx cx) (by simp)
      go_wp2_with fail
      refine (HRO.out _ R1.out.bel HAX.out).mono ?_
      rintro e w2 ⟨rfl, hb⟩
      have R2 := Lib.hid (R1.out.step hb)
      clear hb r0 r1 r2 s0 s1 s2
      obtain ⟨⟨t0, t1, t2⟩, f0, f1, f2⟩ := R2.out.at (r := w.heap.size + 1 + 1) (a := nilV) (b := nilV) (c := nilV) (by simp)
      go_wp2
      refine bodyPost_ret (v := .tuple #[tenV nilV nilV nilV, .bool false]) (by simp [results, Try.results49, go_sem, t0, t1, t2]) rfl ?_
      exact NewTen2.nils (((R2.out.bel.setCell (by simp; omega) _).setCell (by simp; omega) _).setCell (by simp; omega) _)
    | true =>
      obtain rfl : pb = true := by rw [HPB.out]; rfl
      simp only [if_true]
      have HQ := Lib.hid (fun (w1 : World) (hb : Below w.heap.size w w1) => HPE.out w1 hb HTB.out.symm (setV_true.1 HSB.out.symm))
      clear HPE
      go_enter Try.func49, Try.ntmps49
      go_wp2_with fail
      refine (HOK.out _ R0.out.bel).mono ?_
      rintro e w1 ⟨rfl, hb⟩
      have R1 := Lib.hid (R0.out.step hb)
      clear hb r0 r1 r2 s0 s1 s2
      obtain ⟨⟨r0, r1, r2⟩, -⟩ := R1.out.at (r := w.heap.size) (a := .int .i64 k) (b := .int .i64 p) (c := .int .i64 q) (by simp)
      obtain ⟨⟨s0, s1, s2⟩, -⟩ := R1.out.at (r := w.heap.size + 1) (a := .slice al ml cl) (b := .slice ad md cd) (c := .slice ax mx cx) (by simp)
      go_wp2_with fail
      refine (HRO.out _ R1.out.bel HAX.out).mono ?_
      rintro e w2 ⟨rfl, hb⟩
      have R2 := Lib.hid (R1.out.step hb)
      clear hb r0 r1 r2 s0 s1 s2
      obtain ⟨⟨r0, r1, r2⟩, -⟩ := R2.out.at (r := w.heap.size) (a := .int .i64 k) (b := .int .i64 p) (c := .int .i64 q) (by simp)
      obtain ⟨⟨s0, s1, s2⟩, -⟩ := R2.out.at (r := w.heap.size + 1) (a := .slice al ml cl) (b := .slice ad md cd) (c := .slice ax mx cx) (by simp)
      go_wp2_with fail
      refine (HQ.out _ R2.out.bel).mono ?_
      clear r0 r1 r2 s0 s1 s2
      rintro e w5 ⟨l', d', x', rfl, ho, hb⟩
      have R5 := Lib.hid (R2.out.step hb)
      obtain ⟨a1, c1, rfl, -⟩ := ints_form ho.rows.1.rd
      obtain ⟨a2, c2, rfl, -⟩ := ints_form ho.rows.2.1.rd
      obtain ⟨a3, c3, rfl, -⟩ := ints_form ho.rows.2.2.rd
      have lt1 := (R2.out.bx (w.heap.size + 1 + 1, nilV, nilV, nilV) (by simp)).lt
      have hz1 := R2.out.bel.size
      obtain ⟨m1, hm1⟩ : ∃ m, m = labels.length := ⟨_, rfl⟩
      obtain ⟨m2, hm2⟩ : ∃ m, m = (dimsVia L D labels).length := ⟨_, rfl⟩
      obtain ⟨m3, hm3⟩ : ∃ m, m = (permDataL k q L D X labels).length := ⟨_, rfl⟩
      rw [← hm1, ← hm2, ← hm3] at ho ⊢
      have HO := Lib.hid (ho.set3 lt1 (.slice a1 m1 c1) (.slice a2 m2 c2) (.slice a3 m3 c3))
      clear hb ho hm1 hm2 hm3
      obtain ⟨⟨t0, t1, t2⟩, f0, f1, f2⟩ := R5.out.at (r := w.heap.size + 1 + 1) (a := nilV) (b := nilV) (c := nilV) (by simp)
      go_wp2
      refine bodyPost_ret (v := .tuple #[tenV (.slice a1 m1 c1) (.slice a2 m2 c2) (.slice a3 m3 c3), .bool true]) (by simp [results, Try.results49, go_sem, t0, t1, t2]) rfl ?_
      exact ⟨_, _, _, rfl, HO.out.wide hz1 (by simp) (by simp), ((R5.out.bel.setCell (by simp; omega) _).setCell (by simp; omega) _).setCell (by simp; omega) _⟩
end Go.Proofs.Ytgbmacppgaopfaa
