
/- spec.SubNetwork. -/
import Derived.Test.YtdheakjjnaifkaaSubSpec
namespace Go.Proofs.Ytdheakjjnaifkaa
set_option maxRecDepth 20000
open Go.RowKit

theorem dimT_sub {k p q : Int} {ts : List TenE} (h : NetV k p q ts) {x : Int} : ∀ {us : List TenE}, (∀ u ∈ us, u ∈ ts) → InTs us x → dimT us x = dimT ts x := by
  intro us
  induction us with
  | nil => intro _ hx; obtain ⟨_, h, _⟩ := hx; simp at h
  | cons u r ih =>
    intro hs hx
    show (if x ∈ u.1 then dimI u.1 u.2.1 x else dimT r x) = _
    by_cases hu : x ∈ u.1
    · rw [if_pos hu, h.dim (hs u List.mem_cons_self) hu]
    · rw [if_neg hu]
      refine ih (fun v hv => hs v (List.mem_cons_of_mem _ hv)) ?_
      obtain ⟨v, hv, hxv⟩ := hx
      rcases List.mem_cons.1 hv with rfl | hv
      · exact absurd hxv hu
      · exact ⟨v, hv, hxv⟩
theorem ax_sub {ts us : List TenE} (h : AxT ts) (hs : ∀ u ∈ us, u ∈ ts) : AxT us := fun t ht => h t (hs t ht)
/-- Any tensors of a network agree. -/
theorem netV_sub {k p q : Int} {ts us : List TenE} (h : NetV k p q ts) (hs : ∀ u ∈ us, u ∈ ts) : NetV k p q us := fun i t ht => by
  have hm := hs t (List.mem_of_getElem? ht)
  refine ⟨h.ten hm, fun c x hc hx hp => ?_⟩
  have hs2 : ∀ u ∈ us.take i, u ∈ ts := fun u hu => hs u (List.mem_of_mem_take hu)
  have hin := (dimT_pos (ax_sub h.ax hs2)).1 hp
  have hn := (h.ax t hm).2.2.2.2
  rw [dimT_sub h hs2 hin, h.dim hm (List.mem_of_getElem? hx), dimI_at hn hx]
theorem in_pick {ts : List TenE} {l : List Int} {x : Int} (h : OkSub ts.length l) : InTs (pickT ts l) x ↔ ∃ (i : Nat) (t : TenE), (i : Int) ∈ l ∧ ts[i]? = some t ∧ x ∈ t.1 := by
  constructor
  · rintro ⟨t, ht, hx⟩
    unfold pickT at ht
    obtain ⟨y, hy, rfl⟩ := List.mem_map.1 ht
    obtain ⟨h0, h1⟩ := h.1 y hy
    have hlt : y.toNat < ts.length := by omega
    refine ⟨y.toNat, ts[y.toNat], by rw [Int.toNat_of_nonneg h0]; exact hy, List.getElem?_eq_getElem hlt, ?_⟩
    rwa [List.getD_eq_getElem?_getD, List.getElem?_eq_getElem hlt] at hx
  · rintro ⟨i, t, hi, ht, hx⟩
    refine ⟨t, ?_, hx⟩
    unfold pickT
    exact List.mem_map.2 ⟨i, hi, by simp [ht]⟩
theorem in_rest {ts : List TenE} {l : List Int} {x : Int} : InTs (restT ts l ts.length) x ↔ ∃ (i : Nat) (t : TenE), (i : Int) ∉ l ∧ ts[i]? = some t ∧ x ∈ t.1 := by
  constructor
  · rintro ⟨t, ht, hx⟩
    unfold restT at ht
    obtain ⟨y, hy, rfl⟩ := List.mem_map.1 ht
    have hlt := restI_mem hy
    refine ⟨y, ts[y], ?_, List.getElem?_eq_getElem hlt, ?_⟩
    · unfold restI at hy
      simpa using (List.mem_filter.1 hy).2
    · rwa [List.getD_eq_getElem?_getD, List.getElem?_eq_getElem hlt] at hx
  · rintro ⟨i, t, hi, ht, hx⟩
    refine ⟨t, ?_, hx⟩
    unfold restT restI
    exact List.mem_map.2 ⟨i, List.mem_filter.2 ⟨List.mem_range.2 (List.getElem?_eq_some_iff.1 ht).1, by simp [hi]⟩, by simp [ht]⟩
theorem dB_iff {ts : List TenE} (h : AxT ts) {x : Int} : dB ts x = true ↔ InTs ts x := by
  unfold dB
  rw [decide_eq_true_eq, dimT_pos h]
theorem inQ_is {ts : List TenE} {l : List Int} (hax : AxT ts) (h : OkSub ts.length l) (x : Int) : inQ ts (setL l) x = dB (pickT ts l) x := by
  rw [Bool.eq_iff_iff, dB_iff (ax_sub hax (pick_mem h)), in_pick h]
  unfold inQ
  rw [decide_eq_true_eq, and_ne]
  constructor
  · rintro ⟨i, h1, h2⟩
    obtain ⟨t, ht, hx⟩ := (useS_bit ts x i).1 h1
    exact ⟨i, t, (setL_bit (fun k hk => (h.1 k hk).1) i).1 h2, ht, hx⟩
  · rintro ⟨i, t, hi, ht, hx⟩
    exact ⟨i, (useS_bit ts x i).2 ⟨t, ht, hx⟩, (setL_bit (fun k hk => (h.1 k hk).1) i).2 hi⟩
theorem outQ_is {ts : List TenE} {l : List Int} (hax : AxT ts) (hn : ts.length ≤ 12) (h : OkSub ts.length l) (x : Int) : outQ ts (setL l) x = dB (restT ts l ts.length) x := by
  have hs : setL l < 18446744073709551616 := by have := setL_lt h.1 hn; omega
  rw [Bool.eq_iff_iff, dB_iff (ax_sub hax rest_mem), in_rest]
  unfold outQ
  rw [decide_eq_true_eq]
  have e : ∀ i : Nat, i < 64 → ((useS ts x &&& (18446744073709551615 - setL l)).testBit i = true ↔ (useS ts x).testBit i = true ∧ (i : Int) ∉ l) := fun i hi => by
    rw [andNot_bit hs hi, Bool.and_eq_true, Bool.not_eq_true']
    refine and_congr_right fun _ => ?_
    have h1 := setL_bit (fun k hk => (h.1 k hk).1) i
    constructor
    · intro h2 h3
      rw [h1.2 h3] at h2
      cases h2
    · intro h2
      cases hb : (setL l).testBit i with
      | false => rfl
      | true => exact absurd (h1.1 hb) h2
  constructor
  · intro hne
    obtain ⟨i, hi⟩ : ∃ i, (useS ts x &&& (18446744073709551615 - setL l)).testBit i = true := by
      obtain ⟨i, hi⟩ := Nat.exists_testBit_of_ne_zero hne
      exact ⟨i, hi⟩
    have hi2 : i < 64 := by
      rw [Nat.testBit_and, Bool.and_eq_true] at hi
      obtain ⟨t, ht, -⟩ := (useS_bit ts x i).1 hi.1
      have := (List.getElem?_eq_some_iff.1 ht).1
      omega
    obtain ⟨h1, h2⟩ := (e i hi2).1 hi
    obtain ⟨t, ht, hx⟩ := (useS_bit ts x i).1 h1
    exact ⟨i, t, h2, ht, hx⟩
  · rintro ⟨i, t, hi, ht, hx⟩ h0
    have hlt := (List.getElem?_eq_some_iff.1 ht).1
    have h1 := (e i (by omega)).2 ⟨(useS_bit ts x i).2 ⟨t, ht, hx⟩, hi⟩
    rw [h0] at h1
    simp at h1
/-- Both ask for the same open labels. -/
theorem opS_is {ts : List TenE} {O l : List Int} (hax : AxT ts) (hn : ts.length ≤ 12) (h : OkSub ts.length l) : opS ts O l = openL ts O (setL l) := by
  unfold opS openL
  congr 1
  · exact List.filter_congr fun x _ => (inQ_is hax h x).symm
  · unfold labT
    rw [List.filter_filter, List.filter_filter]
    refine List.filter_congr fun x _ => ?_
    have h1 := inQ_is hax h x
    have h2 := outQ_is hax hn h x
    have h3 : dB (pickT ts l) x = true → decide (0 < dimT ts x) = true := fun hp => by
      obtain ⟨t, ht, hx⟩ := (dB_iff (ax_sub hax (pick_mem h))).1 hp
      exact decide_eq_true ((dimT_pos hax).2 ⟨t, pick_mem h t ht, hx⟩)
    unfold midQ qB
    rw [h1, h2]
    show (_ && dB (pickT ts l) x) = _
    cases ha : dB (pickT ts l) x with
    | false => simp
    | true =>
      rw [h3 ha]
      cases dB (restT ts l ts.length) x <;> cases decide (x ∈ O) <;> rfl
theorem open_in {ts : List TenE} {O l : List Int} (hax : AxT ts) (h : OkSub ts.length l) : ∀ x ∈ openL ts O (setL l), InTs (pickT ts l) x := fun x hx => by
  have h1 : inQ ts (setL l) x = true := by
    unfold openL at hx
    rcases List.mem_append.1 hx with hx | hx
    · exact (List.mem_filter.1 hx).2
    · have := (List.mem_filter.1 hx).2
      unfold midQ at this
      rw [Bool.and_eq_true, Bool.and_eq_true] at this
      exact this.1.1
  rw [inQ_is hax h] at h1
  exact (dB_iff (ax_sub hax (pick_mem h))).1 h1
/-- The new network is valid where its labels may be open. -/
theorem netOk_pick {k p q : Int} {ts : List TenE} {O l : List Int} (hN : NetOk k p q ts O) (h : OkSub ts.length l) : NetOk k p q (pickT ts l) (opS ts O l) ↔ SubOk k p q ts O l := by
  have hax := hN.2.2.1.ax
  rw [opS_is hax hN.2.1 h]
  have e : (openL ts O (setL l)).map (dimT (pickT ts l)) = (openL ts O (setL l)).map (dimT ts) := List.map_congr_left fun x hx => dimT_sub hN.2.2.1 (pick_mem h) (open_in hax h x hx)
  have hlen : (pickT ts l).length ≤ 12 := by
    unfold pickT
    rw [List.length_map]
    have := okSub_len h
    have := hN.2.1
    omega
  unfold SubOk
  constructor
  · intro hh
    refine ⟨hN, h, ?_⟩
    have := hh.2.2.2
    rwa [e] at this
  · intro hh
    refine ⟨hN.1, hlen, netV_sub hN.2.2.1 (pick_mem h), ?_⟩
    rw [e]
    exact hh.2.2
end Go.Proofs.Ytdheakjjnaifkaa
namespace Go.Proofs.Ytdheakjjnaifkaa
set_option maxRecDepth 20000
open Go.RowKit

/-- What the model's SubNetwork answers. -/
def SubQ (w : World) (k p q : Int) (ts : List TenE) (O l : List Int) (e : Ending) (w' : World) : Prop :=
  (SubOk k p q ts O l ∧ ∃ tv ov, e = .returned (.tuple #[netV k p q tv ov, .bool true]) ∧ OwnTs w' w.heap.size w'.heap.size tv (pickT ts l) ∧ Own w' w.heap.size w'.heap.size ov (openL ts O (setL l)) ∧ Below w.heap.size w w') ∨
  (¬ SubOk k p q ts O l ∧ e = .returned (.tuple #[netV 0 0 0 nilV nilV, .bool false]) ∧ Below w.heap.size w w')
theorem netOk_opens {k p q : Int} {ts : List TenE} {O l : List Int} (h : NetOk k p q ts O) (h2 : OkSub ts.length l) : (opS ts O l).length ≤ 112 := by
  rw [opS_is h.2.2.1.ax h.2.1 h2]
  have hO : O.length ≤ 12 := by
    rcases sizeI_cases O (O.map (dimT ts)) with h3 | h3
    · have := h.2.2.2; omega
    · exact h3.2.1.1
  unfold openL
  rw [List.length_append]
  have h1 := List.length_filter_le (inQ ts (setL l)) O
  have h2 := List.length_filter_le (midQ ts O (setL l)) (labT ts)
  have h3 := labT_len ts
  omega
set_option maxHeartbeats 6400000 in
theorem sub_network_spec {n cap m co j cl : Nat} {pa po al : Option Addr} {k p q : Int} {ts : List TenE} {O l : List Int} {w : World} (ha : RdTs w.heap.size w (.slice pa n cap) ts) (hcp : n ≤ cap) (ho : Rd w.heap.size w (.slice po m co) (ints O)) (hn : ts.length = n) (hl : LenTs ts) (hc : ∀ t ∈ ts, t.1.length ≤ 1099511627776 ∧ t.2.1.length ≤ 1099511627776 ∧ t.2.2.length ≤ 1099511627776) (hm : O.length = m) (hmm : m ≤ 1048576) (hv : Rd w.heap.size w (.slice al j cl) (ints l)) (hlj : l.length = j) (hjj : j ≤ 1048576) :
    Calls Try.prog 39 #[netV k p q (.slice pa n cap) (.slice po m co), .slice al j cl] w (SubQ w k p q ts O l) := by
  have hnn : n ≤ 1048576 := by rw [← hn]; exact hl.1
  obtain ⟨w1, hw1⟩ : ∃ W, W = (w.alloc (.cells #[.int .i64 k, .int .i64 p, .int .i64 q, .slice pa n cap, .slice po m co] 33)).alloc (.cells #[.int .i64 0, .int .i64 0, .int .i64 0, .slice none 0 0, .slice none 0 0] 33) := ⟨_, rfl⟩
  have h2 := N2.start w (.int .i64 k) (.int .i64 p) (.int .i64 q) (.slice pa n cap) (.slice po m co) (.int .i64 0) (.int .i64 0) (.int .i64 0) nilV nilV 33 33
  have hw2 : w1 = ((w.alloc (.cells #[.int .i64 k, .int .i64 p, .int .i64 q, .slice pa n cap, .slice po m co] 33)).alloc (.cells #[.int .i64 0, .int .i64 0, .int .i64 0, nilV, nilV] 33)) := hw1
  rw [← hw2] at h2
  have T1 := Lib.hid h2
  have HK := Lib.hid (net_ok_spec (k := k) (p := p) (q := q) (w := w1) ((ha.below h2.bel (Nat.le_refl _)).mono h2.bel.size) ((ho.below h2.bel (Nat.le_refl _)).mono h2.bel.size) (fun a n' c e => by cases e; exact hcp) (Nat.le_refl _) (Nat.le_refl _) hl (by rw [hm]; exact hmm))
  have HTS0 := Lib.hid ha
  have HO0 := Lib.hid ho
  have HV0 := Lib.hid hv
  have HW1 := Lib.hid hw1
  have HN := Lib.hid hn
  have HM := Lib.hid hm
  have HLJ := Lib.hid hlj
  have HC := Lib.hid hc
  have HL := Lib.hid hl
  obtain ⟨c0, c1, c2, c3, c4, -⟩ := h2.s
  clear ha ho hn hl hc hm hv hlj hw1 hw2 h2
  go_enter Try.func39, Try.ntmps39
  go_upto_region 1 with fail
  rw [← HW1.out]
  clear HW1
  obtain ⟨z, hz⟩ : ∃ z, z = netB k p q ts O := ⟨_, rfl⟩
  rw [← hz] at HK
  have HZ := Lib.hid hz
  clear hz
  go_wp2_with fail
  refine HK.out.mono ?_
  clear HK c0 c1 c2 c3 c4
  rintro e w2 ⟨rfl, hb2⟩
  have T2 := Lib.hid (T1.out.step hb2)
  clear hb2 T1
  cases z with
  | false =>
    have HX : Hid (¬ SubOk k p q ts O l) := Lib.hid (fun h => by
      have h1 := netB_true.2 h.1
      rw [← HZ.out] at h1
      cases h1)
    obtain ⟨t0, t1, t2, t3, t4, fr, -⟩ := T2.out.r
    have fr0 := fr 0
    have fr1 := fr 1
    have fr2 := fr 2
    have fr3 := fr 3
    have fr4 := fr 4
    clear fr
    go_wp2
    refine bodyPost_ret (v := .tuple #[netV 0 0 0 nilV nilV, .bool false]) (by simp [results, Try.results39, go_sem, t0, t1, t2, t3, t4]) rfl ?_
    exact .inr ⟨HX.out, rfl, below_put5 T2.out.bel (by omega) _ _ _ _ _⟩
  | true =>
    have HVN : Hid (NetOk k p q ts O) := Lib.hid (netB_true.1 HZ.out.symm)
    clear HZ
    go_wp2
    go_loopw [15] (fun ii wr => ∃ i : Nat, i ≤ j ∧ ii = .int .i64 i ∧ Hid (OkSub n (l.take i)) ∧ wr = w2) (fun ii _ => j - (intOf ii).toNat)
    case atStart => exact ⟨0, by omega, rfl, Lib.hid ⟨fun k hk => by simp at hk, by simp⟩, rfl⟩
    case round =>
      obtain ⟨i, hi, rfl, HOI, rfl⟩ := hrel
      by_cases hlt : i < j
      · obtain ⟨x, X1⟩ : ∃ x, Hid (l[i]? = some x) := ⟨_, List.getElem?_eq_getElem (by rw [HLJ.out]; exact hlt)⟩
        have HV2 := Lib.hid (HV0.out.below T2.out.bel (Nat.le_refl _))
        have hcap : i ≤ cl := by
          rcases HV2.out.ints_cases with ⟨h, -⟩ | ⟨b, off, ca, e, hb, hcc, hc⟩
          · have := HLJ.out; rw [h] at this; simp at this; omega
          · cases e; rw [HLJ.out] at hcc; omega
        obtain ⟨b1, o1, rfl, -, e1⟩ := HV2.out.cellAt X1.out
        have HI := Lib.hid (l01_in x 0 ((n : Int) - 1) wr)
        have HF := Lib.hid (find_spec (w := wr) x (HV2.out.take i (by rw [HLJ.out]; omega)) (by rw [List.length_take]; omega))
        have no : ¬ OkSub n l → Hid (¬ SubOk k p q ts O l) := fun h => Lib.hid (fun hh => h (by have := hh.2.1; rwa [HN.out] at this))
        obtain ⟨s0, s1, s2, s3, s4, -⟩ := T2.out.s
        by_cases hr : 0 ≤ x ∧ x < (n : Int)
        · have hin : inB x 0 ((n : Int) - 1) = true := by unfold inB; rw [decide_eq_true hr.1, decide_eq_true (by omega)]; rfl
          rw [hin] at HI
          obtain ⟨z, hz⟩ : ∃ z, z = findI (l.take i) x := ⟨_, rfl⟩
          rw [← hz] at HF
          have hzz : z < 0 ↔ x ∉ l.take i := by rw [hz]; exact findI_neg
          by_cases hneg : z < 0
          · have HO2 := Lib.hid (okSub_take HOI.out X1.out hr.1 hr.2 (hzz.1 hneg))
            have q1 : ¬ (0 : Int) ≤ z := by omega
            clear hin hz hzz no hneg hr
            go_wp2_with fail
            refine HI.out.mono ?_
            rintro e w5 ⟨rfl, rfl⟩
            clear HI
            go_wp2_with fail
            refine HF.out.mono ?_
            rintro e w6 ⟨rfl, rfl⟩
            clear HF e1 s0 s1 s2 s3 s4
            go_wp2
            go_roundw
            case rel => exact ⟨i + 1, by omega, by go_num, HO2, trivial⟩
            case measure => simp [intOf]; omega
          · have HX := no (not_okSub X1.out (.inr (.inr (Classical.byContradiction fun h => hneg (hzz.2 h)))))
            have q1 : (0 : Int) ≤ z := by omega
            obtain ⟨t0, t1, t2, t3, t4, fr, -⟩ := T2.out.r
            have fr0 := fr 0
            have fr1 := fr 1
            have fr2 := fr 2
            have fr3 := fr 3
            have fr4 := fr 4
            clear hin hz hzz no hneg hr fr
            go_wp2_with fail
            refine HI.out.mono ?_
            rintro e w5 ⟨rfl, rfl⟩
            clear HI
            go_wp2_with fail
            refine HF.out.mono ?_
            rintro e w6 ⟨rfl, rfl⟩
            clear HF e1 s0 s1 s2 s3 s4
            go_wp2
            refine bodyPost_ret (v := .tuple #[netV 0 0 0 nilV nilV, .bool false]) (by simp [results, Try.results39, go_sem, t0, t1, t2, t3, t4]) rfl ?_
            exact .inr ⟨HX.out, rfl, below_put5 T2.out.bel (by omega) _ _ _ _ _⟩
        · have hin : inB x 0 ((n : Int) - 1) = false := by
            unfold inB
            by_cases h0 : 0 ≤ x
            · rw [decide_eq_false (show ¬ x ≤ (n : Int) - 1 by omega)]; simp
            · rw [decide_eq_false h0]; rfl
          rw [hin] at HI
          have HX := no (not_okSub X1.out (by
            by_cases h0 : x < 0
            · exact .inl h0
            · exact .inr (.inl (by omega))))
          obtain ⟨t0, t1, t2, t3, t4, fr, -⟩ := T2.out.r
          have fr0 := fr 0
          have fr1 := fr 1
          have fr2 := fr 2
          have fr3 := fr 3
          have fr4 := fr 4
          clear hin no hr HF fr
          go_wp2_with fail
          refine HI.out.mono ?_
          rintro e w5 ⟨rfl, rfl⟩
          clear HI e1 s0 s1 s2 s3 s4
          go_wp2
          refine bodyPost_ret (v := .tuple #[netV 0 0 0 nilV nilV, .bool false]) (by simp [results, Try.results39, go_sem, t0, t1, t2, t3, t4]) rfl ?_
          exact .inr ⟨HX.out, rfl, below_put5 T2.out.bel (by omega) _ _ _ _ _⟩
      · obtain rfl : i = j := by omega
        have e2 : l.take i = l := List.take_of_length_le (by rw [HLJ.out]; exact Nat.le_refl _)
        rw [e2] at HOI
        have hbe := T2.out.bel
        have HSS := Lib.hid (sub_spec (k := k) (p := p) (q := q) (w := wr) ((HTS0.out.below hbe (Nat.le_refl _)).mono hbe.size) ((HO0.out.below hbe (Nat.le_refl _)).mono hbe.size) HN.out HL.out HC.out HM.out hmm ((HV0.out.below hbe (Nat.le_refl _)).mono hbe.size) HLJ.out HOI.out HVN.out.2.2.1.ax)
        have HOI2 : Hid (OkSub ts.length l) := Lib.hid (by rw [HN.out]; exact HOI.out)
        obtain ⟨s0, s1, s2, s3, s4, -⟩ := T2.out.s
        clear e2 hlt hbe
        go_wp2_with fail
        refine HSS.out.mono ?_
        clear HSS s0 s1 s2 s3 s4
        rintro e w5 ⟨tv, ov, rfl, ht5, hc5, ho5, hb5⟩
        obtain ⟨ta, tc, rfl⟩ := ht5.rd.form
        obtain ⟨oa, oc, rfl, -⟩ := ints_form ho5.rd
        obtain ⟨nt, hnt⟩ : ∃ x, x = (pickT ts l).length := ⟨_, rfl⟩
        obtain ⟨no, hno⟩ : ∃ x, x = (opS ts O l).length := ⟨_, rfl⟩
        have hno1 : no ≤ 112 := by rw [hno]; exact netOk_opens HVN.out HOI2.out
        have HPL : Hid (LenTs (pickT ts l)) := Lib.hid ⟨by
          unfold pickT
          rw [List.length_map, HLJ.out]
          omega, fun t ht => HL.out.2 t (pick_mem HOI2.out t ht)⟩
        obtain ⟨W6, hW6⟩ : ∃ W, W = w5.alloc (.cells #[.int .i64 k, .int .i64 p, .int .i64 q, .slice ta nt tc, .slice oa no oc] 33) := ⟨_, rfl⟩
        have hb6 : Below w5.heap.size w5 W6 := by rw [hW6]; exact (Below.refl _ _).alloc (Nat.le_refl _) _
        have HB6 : Hid (B5 W6 w5.heap.size (.int .i64 k) (.int .i64 p) (.int .i64 q) (.slice ta nt tc) (.slice oa no oc)) := Lib.hid (by rw [hW6]; exact B5.new _ _ _ _ _ _ _)
        rw [← hnt] at ht5 hc5 ⊢
        rw [← hno] at ho5 ⊢
        have HT6 := Lib.hid (ht5.below hb6)
        have HO6 := Lib.hid (ho5.below hb6 (Nat.le_refl _))
        have HK2 := Lib.hid (net_ok_spec (k := k) (p := p) (q := q) (w := W6) HT6.out.rd HO6.out.rd hc5 hb6.size hb6.size HPL.out (by rw [← hno]; omega))
        obtain ⟨z, hz⟩ : ∃ z, z = netB k p q (pickT ts l) (opS ts O l) := ⟨_, rfl⟩
        rw [← hz] at HK2
        have HZ := Lib.hid hz
        have T6 := Lib.hid (T2.out.step (hb5.trans (hb6.mono hb5.size)))
        have HW6 := Lib.hid hW6
        obtain ⟨b0, b1, b2, b3, b4, -⟩ := HB6.out
        clear ht5 hc5 ho5 hb5 hb6 hnt hno hW6 hz
        go_upto_region 10 with fail
        rw [← HW6.out]
        clear HW6
        go_wp2_with fail
        refine HK2.out.mono ?_
        clear HK2 b0 b1 b2 b3 b4
        rintro e w7 ⟨rfl, hb7⟩
        have HB7 := Lib.hid (HB6.out.step hb7)
        have T7 := Lib.hid (T6.out.step hb7)
        have HT7 := Lib.hid (HT6.out.below hb7)
        have HO7 := Lib.hid (HO6.out.below hb7 (Nat.le_refl _))
        have HLE := Lib.hid hb7.size
        obtain ⟨t0, t1, t2, t3, t4, fr, -⟩ := T7.out.r
        have fr0 := fr 0
        have fr1 := fr 1
        have fr2 := fr 2
        have fr3 := fr 3
        have fr4 := fr 4
        clear fr hb7 T6 HB6 HT6 HO6
        cases z with
        | false =>
          have HX : Hid (¬ SubOk k p q ts O l) := Lib.hid (fun h => by
            have h1 := netB_true.2 ((netOk_pick HVN.out HOI2.out).2 h)
            rw [← HZ.out] at h1
            cases h1)
          go_wp2
          refine bodyPost_ret (v := .tuple #[netV 0 0 0 nilV nilV, .bool false]) (by simp [results, Try.results39, go_sem, t0, t1, t2, t3, t4]) rfl ?_
          exact .inr ⟨HX.out, rfl, below_put5 T7.out.bel (by omega) _ _ _ _ _⟩
        | true =>
          have HX := Lib.hid ((netOk_pick HVN.out HOI2.out).1 (netB_true.1 HZ.out.symm))
          obtain ⟨b0, b1, b2, b3, b4, -⟩ := HB7.out
          go_wp2
          refine bodyPost_ret (v := .tuple #[netV k p q (.slice ta nt tc) (.slice oa no oc), .bool true]) (by simp [results, Try.results39, go_sem, t0, t1, t2, t3, t4]) rfl ?_
          have hrb := T2.out.r.lt
          have hb1 := T2.out.bel.size
          have h1 := HT7.out.put5 (b := w.heap.size + 1) hrb (.int .i64 k) (.int .i64 p) (.int .i64 q) (.slice ta nt tc) (.slice oa no oc)
          have h2 := HO7.out.put5 (b := w.heap.size + 1) hrb (.int .i64 k) (.int .i64 p) (.int .i64 q) (.slice ta nt tc) (.slice oa no oc)
          have e := opS_is (O := O) HVN.out.2.2.1.ax HVN.out.2.1 HOI2.out
          rw [e] at h2
          refine .inl ⟨HX.out, _, _, rfl, ?_, ?_, below_put5 T7.out.bel (by omega) _ _ _ _ _⟩
          · exact h1.wide hb1 (by simpa using Nat.le_of_lt HB7.out.lt) (Nat.le_refl _)
          · exact own_narrow h2 hb1 (fun g' e => by have := h2.2.1 g' e; have h3 := HB7.out.lt; simp; omega) (Nat.le_refl _)
end Go.Proofs.Ytdheakjjnaifkaa
