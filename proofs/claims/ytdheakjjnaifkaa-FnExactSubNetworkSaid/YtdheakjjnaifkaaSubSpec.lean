
/- spec.l13Sub, spec.SubNetwork. -/
import Derived.Test.YtdheakjjnaifkaaSubImpl
namespace Go.Proofs.Ytdheakjjnaifkaa
set_option maxRecDepth 20000
open Go.RowKit

def dB (ts : List TenE) (x : Int) : Bool := decide (0 < dimT ts x)
/-- The first indices that l doesn't name. -/
def restI (l : List Int) (i : Nat) : List Nat := (List.range i).filter fun k => !decide ((k : Int) ∈ l)
def restT (ts : List TenE) (l : List Int) (i : Nat) : List TenE := (restI l i).map fun k => ts.getD k ([], [], [])
def op3 (ts : List TenE) (O l : List Int) (i : Nat) : List Int := (O.take i).filter (dB (pickT ts l))
def qB (ts : List TenE) (O l : List Int) (x : Int) : Bool := !decide (x ∈ O) && dB (restT ts l ts.length) x
def op4 (ts : List TenE) (O l : List Int) (i : Nat) : List Int := op3 ts O l O.length ++ ((labT (pickT ts l)).take i).filter (qB ts O l)
def opS (ts : List TenE) (O l : List Int) : List Int := O.filter (dB (pickT ts l)) ++ (labT (pickT ts l)).filter (qB ts O l)
theorem restI_yes {l : List Int} {i : Nat} (h : (i : Int) ∉ l) : restI l (i + 1) = restI l i ++ [i] := by
  unfold restI
  rw [List.range_succ, List.filter_append]
  simp [h]
theorem restI_no {l : List Int} {i : Nat} (h : (i : Int) ∈ l) : restI l (i + 1) = restI l i := by
  unfold restI
  rw [List.range_succ, List.filter_append]
  simp [h]
theorem restI_len (l : List Int) (i : Nat) : (restI l i).length ≤ i := by
  unfold restI
  exact Nat.le_trans (List.length_filter_le _ _) (by simp)
theorem restI_mem {l : List Int} {i k : Nat} (h : k ∈ restI l i) : k < i := by
  unfold restI at h
  exact List.mem_range.1 (List.mem_filter.1 h).1
theorem op3_step {ts : List TenE} {O l : List Int} {j : Nat} {x : Int} (h : O[j]? = some x) : op3 ts O l (j + 1) = op3 ts O l j ++ (if dB (pickT ts l) x = true then [x] else []) := by
  unfold op3
  rw [List.take_add_one, h, List.filter_append]
  congr 1
  cases hb : dB (pickT ts l) x <;> simp [hb]
theorem op4_step {ts : List TenE} {O l : List Int} {j : Nat} {x : Int} (h : (labT (pickT ts l))[j]? = some x) : op4 ts O l (j + 1) = op4 ts O l j ++ (if qB ts O l x = true then [x] else []) := by
  unfold op4
  rw [List.take_add_one, h, List.filter_append, List.append_assoc]
  congr 2
  cases hb : qB ts O l x <;> simp [hb]
theorem op4_zero (ts : List TenE) (O l : List Int) : op4 ts O l 0 = op3 ts O l O.length := by simp [op4]
theorem op4_full {ts : List TenE} {O l : List Int} {n : Nat} (h : (labT (pickT ts l)).length = n) : op4 ts O l n = opS ts O l := by
  unfold op4 op3 opS
  rw [List.take_of_length_le (Nat.le_refl _), List.take_of_length_le (by omega)]
theorem pick_mem {ts : List TenE} {l : List Int} (h : OkSub ts.length l) : ∀ t ∈ pickT ts l, t ∈ ts := fun t ht => by
  unfold pickT at ht
  obtain ⟨x, hx, rfl⟩ := List.mem_map.1 ht
  obtain ⟨h0, h1⟩ := h.1 x hx
  have hlt : x.toNat < ts.length := by omega
  rw [List.getD_eq_getElem?_getD, List.getElem?_eq_getElem hlt]
  exact List.getElem_mem hlt
theorem rest_mem {ts : List TenE} {l : List Int} : ∀ t ∈ restT ts l ts.length, t ∈ ts := fun t ht => by
  unfold restT at ht
  obtain ⟨x, hx, rfl⟩ := List.mem_map.1 ht
  have hlt := restI_mem hx
  rw [List.getD_eq_getElem?_getD, List.getElem?_eq_getElem hlt]
  exact List.getElem_mem hlt
theorem okSub_len {n : Nat} {l : List Int} (h : OkSub n l) : l.length ≤ n := by
  have h1 := nodup_short (M := (List.range n).map fun i : Nat => (i : Int)) h.2 (fun x hx => by
    obtain ⟨h0, h1⟩ := h.1 x hx
    exact List.mem_map.2 ⟨x.toNat, List.mem_range.2 (by omega), by omega⟩)
  simpa using h1
/-- What l13Sub answers. -/
def SubS (w : World) (k p q : Int) (ts : List TenE) (O l : List Int) (e : Ending) (w' : World) : Prop :=
  ∃ tv ov, e = .returned (netV k p q tv ov) ∧ OwnTs w' w.heap.size w'.heap.size tv (pickT ts l) ∧ (∀ a n c, tv = .slice a n c → n ≤ c) ∧ Own w' w.heap.size w'.heap.size ov (opS ts O l) ∧ Below w.heap.size w w'

set_option maxHeartbeats 6400000 in
theorem sub_spec {n cap m co j cl : Nat} {pa po al : Option Addr} {k p q : Int} {ts : List TenE} {O l : List Int} {w : World} (ha : RdTs w.heap.size w (.slice pa n cap) ts) (ho : Rd w.heap.size w (.slice po m co) (ints O)) (hn : ts.length = n) (hl : LenTs ts) (hc : ∀ t ∈ ts, t.1.length ≤ 1099511627776 ∧ t.2.1.length ≤ 1099511627776 ∧ t.2.2.length ≤ 1099511627776) (hm : O.length = m) (hmm : m ≤ 1048576) (hv : Rd w.heap.size w (.slice al j cl) (ints l)) (hlj : l.length = j) (hok : OkSub n l) (hax : AxT ts) :
    Calls Try.prog 72 #[netV k p q (.slice pa n cap) (.slice po m co), .slice al j cl] w (SubS w k p q ts O l) := by
  have hjn : j ≤ n := by rw [← hlj]; exact okSub_len hok
  have hnn : n ≤ 1048576 := by rw [← hn]; exact hl.1
  obtain ⟨w1, hw1⟩ : ∃ W, W = (w.alloc (.cells #[.int .i64 k, .int .i64 p, .int .i64 q, .slice pa n cap, .slice po m co] 33)).alloc (.cells #[.int .i64 0, .int .i64 0, .int .i64 0, .slice none 0 0, .slice none 0 0] 33) := ⟨_, rfl⟩
  have h2 := N2.start w (.int .i64 k) (.int .i64 p) (.int .i64 q) (.slice pa n cap) (.slice po m co) (.int .i64 0) (.int .i64 0) (.int .i64 0) nilV nilV 33 33
  have hw2 : w1 = ((w.alloc (.cells #[.int .i64 k, .int .i64 p, .int .i64 q, .slice pa n cap, .slice po m co] 33)).alloc (.cells #[.int .i64 0, .int .i64 0, .int .i64 0, nilV, nilV] 33)) := hw1
  rw [← hw2] at h2
  have T1 := Lib.hid h2
  have HTS0 := Lib.hid ha
  have HO0 := Lib.hid ho
  have HV0 := Lib.hid hv
  have HW1 := Lib.hid hw1
  have HN := Lib.hid hn
  have HM := Lib.hid hm
  have HLJ := Lib.hid hlj
  have HC := Lib.hid hc
  have HL := Lib.hid hl
  have HOK := Lib.hid hok
  have HAX := Lib.hid hax
  obtain ⟨ob, hob⟩ : ∃ b, b = w1.heap.size := ⟨_, rfl⟩
  obtain ⟨w2, hw2'⟩ : ∃ W, W = w1.alloc (.cells #[.int .i64 k, .int .i64 p, .int .i64 q, nilV, nilV] 33) := ⟨_, rfl⟩
  have X2 := NetW.new (Rs.start w1).nil k p q nilV 33
  rw [← hob, ← hw2'] at X2
  have HW2 : Hid (w2 = w1.alloc (.cells #[.int .i64 k, .int .i64 p, .int .i64 q, .slice none 0 0, .slice none 0 0] 33)) := Lib.hid hw2'
  obtain ⟨w3, hw3⟩ : ∃ W, W = w2.alloc (.cells #[] 55) := ⟨_, rfl⟩
  obtain ⟨rb, hrb⟩ : ∃ b, b = w2.heap.size := ⟨_, rfl⟩
  have X3 : Hid (NetX w1 w3 ob k p q nilV nilV nilV [] [(nilV, [])] (.slice (some ⟨rb, 0, none⟩) 0 0) []) := Lib.hid (by
    rw [hw3, hrb]
    exact ⟨X2.step ((Below.refl _ _).alloc (Nat.le_refl _) _), RsT.lit (X2.t.rs.sub (List.nil_sublist _)), fun g hg => by
      simp only [Value.ownBlock, Option.some.injEq] at hg
      subst hg
      have := X2.b5.lt
      exact ⟨by omega, (fun e => by cases e), fun r hr e => by simp at hr; subst hr; cases e⟩⟩)
  have HW3 := Lib.hid hw3
  have HOB := Lib.hid hob
  have HRB := Lib.hid hrb
  obtain ⟨i1, hi, hz0, hz1, hz2⟩ := info_parts infoTensor
  have I0 := Lib.hid hi
  have I1 := Lib.hid hz0
  have I2 := Lib.hid hz1
  have I3 := Lib.hid hz2
  obtain ⟨i0, hi, hz0, hz1, hz2⟩ := info_parts infoInt
  have J0 := Lib.hid hi
  have J1 := Lib.hid hz0
  have J2 := Lib.hid hz1
  have J3 := Lib.hid hz2
  obtain ⟨c0, c1, c2, c3, c4, -⟩ := h2.s
  clear hi hz0 hz1 hz2 ha ho hn hl hc hm hv hlj hok hax hw1 hw2 h2 X2 hob hw2' hw3 hrb
  go_enter Try.func72, Try.ntmps72
  go_upto_region 1 with fail
  rw [← HW1.out]
  clear HW1
  go_upto_region 2 with fail
  rw [← HW2.out, ← HOB.out]
  clear HW2 HOB c0 c1 c2 c3 c4
  go_upto_region 3 with fail
  rw [← HW3.out, ← HRB.out]
  clear HW3 HRB
  go_wp2
  go_loopw [21] (fun ii wr => ∃ (i ct : Nat) (ga : Option Addr) (zs : List (TenW × TenE)), i ≤ j ∧ ii = .int .i64 i ∧ Hid (zs.map (·.2) = pickT ts (l.take i)) ∧ Hid (NetX w1 wr ob k p q (.slice ga i ct) nilV (.slice ga i ct) (zs.map (·.1)) (rowsR zs ++ [(nilV, [])]) (.slice (some ⟨rb, 0, none⟩) 0 0) [])) (fun ii _ => j - (intOf ii).toNat)
  case atStart => exact ⟨0, 0, none, [], by omega, rfl, Lib.hid rfl, X3⟩
  case round =>
    clear X3
    obtain ⟨i, ct, ga, zs, hi, rfl, HZS, HR⟩ := hrel
    by_cases hlt : i < j
    · obtain ⟨x, X1⟩ : ∃ x, Hid (l[i]? = some x) := ⟨_, List.getElem?_eq_getElem (by rw [HLJ.out]; exact hlt)⟩
      obtain ⟨hx0, hx1⟩ := HOK.out.1 x (List.mem_of_getElem? X1.out)
      obtain ⟨y, rfl⟩ : ∃ y : Nat, x = (y : Int) := ⟨x.toNat, by omega⟩
      have hyn : y < n := by omega
      obtain ⟨t, TT1⟩ : ∃ t, Hid (ts[y]? = some t) := ⟨_, List.getElem?_eq_getElem (by rw [HN.out]; exact hyn)⟩
      obtain ⟨bk, ok, a1, d1, a2, d2, a3, d3, hpa, hbw, k0, k1, k2, hT⟩ := HTS0.out.at TT1.out
      subst hpa
      have hlc := HC.out t (List.mem_of_getElem? TT1.out)
      have HCL := Lib.hid (fun (W : World) (hb : Below w.heap.size w W) => copy_spec (hT.below hb (Nat.le_refl _)) hb.size hlc.1 hlc.2.1 hlc.2.2)
      obtain ⟨mL, hmL⟩ : ∃ m, m = t.1.length := ⟨_, rfl⟩
      obtain ⟨mD, hmD⟩ : ∃ m, m = t.2.1.length := ⟨_, rfl⟩
      obtain ⟨mX, hmX⟩ : ∃ m, m = t.2.2.length := ⟨_, rfl⟩
      have HML := Lib.hid hmL
      have HMD := Lib.hid hmD
      have HMX := Lib.hid hmX
      rw [← hmL, ← hmD, ← hmX] at HCL
      rw [← hmL] at k0
      rw [← hmD] at k1
      rw [← hmX] at k2
      have HS6 : Hid (∀ W : World, Below w1.heap.size w1 W → (W.cell? ⟨w.heap.size, 3, none⟩ = some (.slice (some ⟨bk, ok, none⟩) n cap) ∧ W.cell? ⟨bk, ok + y * 3, none⟩ = some (.slice a1 mL d1) ∧ W.cell? ⟨bk, ok + y * 3 + 1, none⟩ = some (.slice a2 mD d2) ∧ W.cell? ⟨bk, ok + y * 3 + 2, none⟩ = some (.slice a3 mX d3))) := Lib.hid (fun W hb => by
        have hbe := T1.out.bel.trans (hb.mono T1.out.bel.size)
        exact ⟨(T1.out.s.step hb).c3, (hbe.cell (p := ⟨bk, ok + y * 3, none⟩) hbw).trans k0, (hbe.cell (p := ⟨bk, ok + y * 3 + 1, none⟩) hbw).trans k1, (hbe.cell (p := ⟨bk, ok + y * 3 + 2, none⟩) hbw).trans k2⟩)
      have hlen : zs.length = i := by
        have h1 := congrArg List.length HZS.out
        unfold pickT at h1
        rw [List.length_map, List.length_map, List.length_take, HLJ.out] at h1
        omega
      have HLEN := Lib.hid hlen
      obtain ⟨bl, ol, rfl, -, el⟩ := (HV0.out.below (T1.out.bel.trans (HR.out.bel.mono T1.out.bel.size)) (Nat.le_refl _)).cellAt X1.out
      have hynI : (y : Int) < n := by omega
      clear hT hbw hlc hmL hmD hmX k0 k1 k2 hlen hx0 hx1
      go_wp2
      clear el
      have RX : Hid ((wr.drew.cell? ⟨w.heap.size, 3, none⟩ = some (.slice (some ⟨bk, ok, none⟩) n cap) ∧ wr.drew.cell? ⟨bk, ok + y * 3, none⟩ = some (.slice a1 mL d1) ∧ wr.drew.cell? ⟨bk, ok + y * 3 + 1, none⟩ = some (.slice a2 mD d2) ∧ wr.drew.cell? ⟨bk, ok + y * 3 + 2, none⟩ = some (.slice a3 mX d3)) ∧ NetX w1 wr.drew ob k p q (.slice ga i ct) nilV (.slice ga i ct) (zs.map (·.1)) (rowsR zs ++ [(nilV, [])]) (.slice (some ⟨rb, 0, none⟩) 0 0) []) := Lib.hid ⟨HS6.out _ (HR.out.bel.trans ((Below.drew (Below.refl wr.heap.size wr)).mono HR.out.bel.size)), HR.out.step (Below.drew (Below.refl _ _))⟩
      clear HR
      refine wp_region_held_drew (S := (fun w' => w'.cell? ⟨w.heap.size, 3, none⟩ = some (.slice (some ⟨bk, ok, none⟩) n cap) ∧ w'.cell? ⟨bk, ok + y * 3, none⟩ = some (.slice a1 mL d1) ∧ w'.cell? ⟨bk, ok + y * 3 + 1, none⟩ = some (.slice a2 mD d2) ∧ w'.cell? ⟨bk, ok + y * 3 + 2, none⟩ = some (.slice a3 mX d3))) (by kernel_rfl) (by (try dsimp only); with_reducible exact RX.out.1) (fun hHeld => ?_)
      obtain ⟨WX, hW⟩ : ∃ W, W = wr.drew := ⟨_, rfl⟩
      rw [← hW] at hHeld RX ⊢
      clear hW
      refine wpAnyH_take (i := 0) (v := ?_) rfl (by kernel_rfl) (by kernel_rfl) (by kernel_rfl) (fun _ _ _ h => h) (Or.inl ⟨by rfl, ?_⟩) (by assumption) ?_
      rotate_left
      · intro w hSw; (try dsimp only at hSw); go_simp <;> with_reducible rfl
      try simp only [Act.put, List.getElem_toArray, List.getElem_cons_zero, List.setIfInBounds_toArray, List.set_cons_zero, List.set_cons_succ]
      refine wpAnyH_take (i := 2) (v := ?_) rfl (by kernel_rfl) (by kernel_rfl) (by kernel_rfl) (fun _ _ _ h => h) (Or.inl ⟨by rfl, ?_⟩) (by assumption) ?_
      rotate_left
      · intro w hSw; (try dsimp only at hSw); go_simp <;> with_reducible rfl
      try simp only [Act.put, List.getElem_toArray, List.getElem_cons_succ, List.getElem_cons_zero, List.setIfInBounds_toArray, List.set_cons_zero, List.set_cons_succ]
      refine wpAnyH_take (i := 3) (v := ?_) rfl (by kernel_rfl) (by kernel_rfl) (by kernel_rfl) (fun _ _ _ h => h) (Or.inl ⟨by rfl, ?_⟩) (by assumption) ?_
      rotate_left
      · intro w hSw; (try dsimp only at hSw); go_simp <;> with_reducible rfl
      try simp only [Act.put, List.getElem_toArray, List.getElem_cons_succ, List.getElem_cons_zero, List.setIfInBounds_toArray, List.set_cons_zero, List.set_cons_succ]
      refine wpAnyH_take (i := 4) (v := ?_) rfl (by kernel_rfl) (by kernel_rfl) (by kernel_rfl) (fun _ _ _ h => h) (Or.inl ⟨by rfl, ?_⟩) (by assumption) ?_
      rotate_left
      · intro w hSw; (try dsimp only at hSw); go_simp <;> with_reducible rfl
      try simp only [Act.put, List.getElem_toArray, List.getElem_cons_succ, List.getElem_cons_zero, List.setIfInBounds_toArray, List.set_cons_zero, List.set_cons_succ]
      refine wpAnyH_take (i := 5) (v := ?_) rfl (by kernel_rfl) (by kernel_rfl) (by kernel_rfl) (fun _ _ _ h => h) (Or.inl ⟨by rfl, ?_⟩) (by assumption) ?_
      rotate_left
      · intro w hSw; (try dsimp only at hSw); go_simp <;> with_reducible rfl
      try simp only [Act.put, List.getElem_toArray, List.getElem_cons_succ, List.getElem_cons_zero, List.setIfInBounds_toArray, List.set_cons_zero, List.set_cons_succ]
      refine wpAnyH_take (i := 6) (v := ?_) rfl (by kernel_rfl) (by kernel_rfl) (by kernel_rfl) (fun _ _ _ h => h) (Or.inl ⟨by rfl, ?_⟩) (by assumption) ?_
      rotate_left
      · intro w hSw; (try dsimp only at hSw); go_simp <;> with_reducible rfl
      try simp only [Act.put, List.getElem_toArray, List.getElem_cons_succ, List.getElem_cons_zero, List.setIfInBounds_toArray, List.set_cons_zero, List.set_cons_succ]
      apply share10 (F := fun (q1 : Option Addr) (e1 : Nat) (q2 : Option Addr) (e2 : Nat) (q3 : Option Addr) (e3 : Nat) (gl : Nat) (gt : Nat) (cn : Nat) (WX : World) => Hid ((WX.cell? ⟨w.heap.size, 3, none⟩ = some (.slice (some ⟨bk, ok, none⟩) n cap) ∧ WX.cell? ⟨bk, ok + y * 3, none⟩ = some (.slice a1 mL d1) ∧ WX.cell? ⟨bk, ok + y * 3 + 1, none⟩ = some (.slice a2 mD d2) ∧ WX.cell? ⟨bk, ok + y * 3 + 2, none⟩ = some (.slice a3 mX d3)) ∧ NetX w1 WX ob k p q (.slice (some ⟨gt, 0, none⟩) (i + 1) cn) nilV (.slice (some ⟨gt, 0, none⟩) (i + 1) cn) (zs.map (·.1) ++ [((.slice q1 mL e1, .slice q2 mD e2, .slice q3 mX e3) : TenW)]) ((.slice q1 mL e1, t.1) :: (.slice q2 mD e2, t.2.1) :: (.slice q3 mX e3, t.2.2) :: (rowsR zs ++ [(nilV, [])])) (.slice (some ⟨rb, 0, none⟩) 0 0) []))
      intro K1_7_8_9_11
      apply share10 (F := fun (q1 : Option Addr) (e1 : Nat) (q2 : Option Addr) (e2 : Nat) (q3 : Option Addr) (e3 : Nat) (gl : Nat) (gt : Nat) (cn : Nat) (WX : World) => Hid ((WX.cell? ⟨w.heap.size, 3, none⟩ = some (.slice (some ⟨bk, ok, none⟩) n cap) ∧ WX.cell? ⟨bk, ok + y * 3, none⟩ = some (.slice a1 mL d1) ∧ WX.cell? ⟨bk, ok + y * 3 + 1, none⟩ = some (.slice a2 mD d2) ∧ WX.cell? ⟨bk, ok + y * 3 + 2, none⟩ = some (.slice a3 mX d3)) ∧ NetX w1 WX ob k p q (.slice ga i ct) nilV (.slice (some ⟨gt, 0, none⟩) (i + 1) cn) (zs.map (·.1) ++ [((.slice q1 mL e1, .slice q2 mD e2, .slice q3 mX e3) : TenW)]) ((.slice q1 mL e1, t.1) :: (.slice q2 mD e2, t.2.1) :: (.slice q3 mX e3, t.2.2) :: (rowsR zs ++ [(nilV, [])])) (.slice (some ⟨rb, 0, none⟩) 0 0) []))
      intro K1_7_8_9
      apply share8 (F := fun (q1 : Option Addr) (e1 : Nat) (q2 : Option Addr) (e2 : Nat) (q3 : Option Addr) (e3 : Nat) (gl : Nat) (WX : World) => Hid ((WX.cell? ⟨w.heap.size, 3, none⟩ = some (.slice (some ⟨bk, ok, none⟩) n cap) ∧ WX.cell? ⟨bk, ok + y * 3, none⟩ = some (.slice a1 mL d1) ∧ WX.cell? ⟨bk, ok + y * 3 + 1, none⟩ = some (.slice a2 mD d2) ∧ WX.cell? ⟨bk, ok + y * 3 + 2, none⟩ = some (.slice a3 mX d3)) ∧ NetX w1 WX ob k p q (.slice ga i ct) nilV (.slice ga i ct) (zs.map (·.1)) ((.slice q1 mL e1, t.1) :: (.slice q2 mD e2, t.2.1) :: (.slice q3 mX e3, t.2.2) :: (rowsR zs ++ [(nilV, [])])) (.slice (some ⟨rb, 0, none⟩) 0 0) [] ∧ NewsAt WX gl [.slice q1 mL e1, .slice q2 mD e2, .slice q3 mX e3]))
      intro K1_7_8
      apply share7 (F := fun (q1 : Option Addr) (e1 : Nat) (q2 : Option Addr) (e2 : Nat) (q3 : Option Addr) (e3 : Nat) (WX : World) => Hid ((WX.cell? ⟨w.heap.size, 3, none⟩ = some (.slice (some ⟨bk, ok, none⟩) n cap) ∧ WX.cell? ⟨bk, ok + y * 3, none⟩ = some (.slice a1 mL d1) ∧ WX.cell? ⟨bk, ok + y * 3 + 1, none⟩ = some (.slice a2 mD d2) ∧ WX.cell? ⟨bk, ok + y * 3 + 2, none⟩ = some (.slice a3 mX d3)) ∧ NetX w1 WX ob k p q (.slice ga i ct) nilV (.slice ga i ct) (zs.map (·.1)) ((.slice q1 mL e1, t.1) :: (.slice q2 mD e2, t.2.1) :: (.slice q3 mX e3, t.2.2) :: (rowsR zs ++ [(nilV, [])])) (.slice (some ⟨rb, 0, none⟩) 0 0) []))
      intro K1_7
      apply share8 (F := fun (q1 : Option Addr) (e1 : Nat) (q2 : Option Addr) (e2 : Nat) (q3 : Option Addr) (e3 : Nat) (gl : Nat) (WX : World) => Hid ((WX.cell? ⟨w.heap.size, 3, none⟩ = some (.slice (some ⟨bk, ok, none⟩) n cap) ∧ WX.cell? ⟨bk, ok + y * 3, none⟩ = some (.slice a1 mL d1) ∧ WX.cell? ⟨bk, ok + y * 3 + 1, none⟩ = some (.slice a2 mD d2) ∧ WX.cell? ⟨bk, ok + y * 3 + 2, none⟩ = some (.slice a3 mX d3)) ∧ NetX w1 WX ob k p q (.slice ga i ct) nilV (.slice ga i ct) (zs.map (·.1)) ((.slice q1 mL e1, t.1) :: (.slice q2 mD e2, t.2.1) :: (.slice q3 mX e3, t.2.2) :: (rowsR zs ++ [(nilV, [])])) (.slice (some ⟨rb, 0, none⟩) 0 0) [] ∧ NewsAt WX gl [.slice q1 mL e1, .slice q2 mD e2, .slice q3 mX e3]))
      intro K7_8
      apply share1 (F := fun (WX : World) => Hid ((WX.cell? ⟨w.heap.size, 3, none⟩ = some (.slice (some ⟨bk, ok, none⟩) n cap) ∧ WX.cell? ⟨bk, ok + y * 3, none⟩ = some (.slice a1 mL d1) ∧ WX.cell? ⟨bk, ok + y * 3 + 1, none⟩ = some (.slice a2 mD d2) ∧ WX.cell? ⟨bk, ok + y * 3 + 2, none⟩ = some (.slice a3 mX d3)) ∧ NetX w1 WX ob k p q (.slice ga i ct) nilV (.slice ga i ct) (zs.map (·.1)) (rowsR zs ++ [(nilV, [])]) (.slice (some ⟨rb, 0, none⟩) 0 0) []))
      intro K1
      apply share7 (F := fun (q1 : Option Addr) (e1 : Nat) (q2 : Option Addr) (e2 : Nat) (q3 : Option Addr) (e3 : Nat) (WX : World) => Hid ((WX.cell? ⟨w.heap.size, 3, none⟩ = some (.slice (some ⟨bk, ok, none⟩) n cap) ∧ WX.cell? ⟨bk, ok + y * 3, none⟩ = some (.slice a1 mL d1) ∧ WX.cell? ⟨bk, ok + y * 3 + 1, none⟩ = some (.slice a2 mD d2) ∧ WX.cell? ⟨bk, ok + y * 3 + 2, none⟩ = some (.slice a3 mX d3)) ∧ NetX w1 WX ob k p q (.slice ga i ct) nilV (.slice ga i ct) (zs.map (·.1)) ((.slice q1 mL e1, t.1) :: (.slice q2 mD e2, t.2.1) :: (.slice q3 mX e3, t.2.2) :: (rowsR zs ++ [(nilV, [])])) (.slice (some ⟨rb, 0, none⟩) 0 0) []))
      intro K7
      focus
        refine wpAnyH_ready (rs := [1, 7]) (by kernel_rfl) (by simp) ?_
        refine AllReadyH.cons rfl (fun K hK => ?_) (AllReadyH.cons rfl (fun K hK => ?_) AllReadyH.nil)
        focus
          (have t3 := RX.out.2.n.b5.c3; go_simp; clear t3)
          refine hK.out _ _ (by (try dsimp only); with_reducible exact RX.out.1) (fun hHeld => ?_)
          clear hK K
          try simp only [Act.put, List.getElem_toArray, List.getElem_cons_succ, List.getElem_cons_zero, List.setIfInBounds_toArray, List.set_cons_zero, List.set_cons_succ]
          exact K1.out WX RX
        focus
          (go_simp; refine (HCL.out WX (T1.out.bel.trans (RX.out.2.bel.mono T1.out.bel.size))).mono ?_; rintro e WY ⟨v1, v2, v3, rfl, ho, hb⟩; obtain ⟨q1, e1, rfl, -⟩ := ints_form ho.rows.1.rd; obtain ⟨q2, e2, rfl, -⟩ := ints_form ho.rows.2.1.rd; obtain ⟨q3, e3, rfl, -⟩ := ints_form ho.rows.2.2.rd; rw [← HML.out, ← HMD.out, ← HMX.out] at ho ⊢; have RY := RX.out.2.new3 hb ho; clear ho hb; replace RX : Hid ((WY.cell? ⟨w.heap.size, 3, none⟩ = some (.slice (some ⟨bk, ok, none⟩) n cap) ∧ WY.cell? ⟨bk, ok + y * 3, none⟩ = some (.slice a1 mL d1) ∧ WY.cell? ⟨bk, ok + y * 3 + 1, none⟩ = some (.slice a2 mD d2) ∧ WY.cell? ⟨bk, ok + y * 3 + 2, none⟩ = some (.slice a3 mX d3)) ∧ NetX w1 WY ob k p q (.slice ga i ct) nilV (.slice ga i ct) (zs.map (·.1)) ((.slice q1 mL e1, t.1) :: (.slice q2 mD e2, t.2.1) :: (.slice q3 mX e3, t.2.2) :: (rowsR zs ++ [(nilV, [])])) (.slice (some ⟨rb, 0, none⟩) 0 0) []) := Lib.hid ⟨HS6.out _ RY.bel, RY⟩; clear RY; obtain ⟨WX, hW⟩ : ∃ W, W = WY := ⟨_, rfl⟩; rw [← hW] at RX ⊢; clear hW; change K _ _)
          refine hK.out _ _ (by (try dsimp only); with_reducible exact RX.out.1) (fun hHeld => ?_)
          clear hK K
          try simp only [Act.put, List.getElem_toArray, List.getElem_cons_succ, List.getElem_cons_zero, List.setIfInBounds_toArray, List.set_cons_zero, List.set_cons_succ]
          exact K7.out q1 e1 q2 e2 q3 e3 WX RX
      focus
        intro q1 e1 q2 e2 q3 e3 WX RX
        have hHeld : ((fun w' => w'.cell? ⟨w.heap.size, 3, none⟩ = some (.slice (some ⟨bk, ok, none⟩) n cap) ∧ w'.cell? ⟨bk, ok + y * 3, none⟩ = some (.slice a1 mL d1) ∧ w'.cell? ⟨bk, ok + y * 3 + 1, none⟩ = some (.slice a2 mD d2) ∧ w'.cell? ⟨bk, ok + y * 3 + 2, none⟩ = some (.slice a3 mX d3))) WX := by (try dsimp only); with_reducible exact RX.out.1
        refine wpAnyH_ready (rs := [1, 8]) (by kernel_rfl) (by simp) ?_
        refine AllReadyH.cons rfl (fun K hK => ?_) (AllReadyH.cons rfl (fun K hK => ?_) AllReadyH.nil)
        focus
          (have t3 := RX.out.2.n.b5.c3; go_simp; clear t3)
          refine hK.out _ _ (by (try dsimp only); with_reducible exact RX.out.1) (fun hHeld => ?_)
          clear hK K
          try simp only [Act.put, List.getElem_toArray, List.getElem_cons_succ, List.getElem_cons_zero, List.setIfInBounds_toArray, List.set_cons_zero, List.set_cons_succ]
          exact K1_7.out q1 e1 q2 e2 q3 e3 WX RX
        focus
          (go_simp; have NW := NewsAt.new WX (.slice q1 mL e1) (.slice q2 mD e2) (.slice q3 mX e3) 55; have RY := RX.out.2.step ((Below.refl _ _).alloc (Nat.le_refl _) (.cells #[.slice q1 mL e1, .slice q2 mD e2, .slice q3 mX e3] 55)); obtain ⟨WY, hW⟩ : ∃ WY, WY = WX.alloc (.cells #[.slice q1 mL e1, .slice q2 mD e2, .slice q3 mX e3] 55) := ⟨_, rfl⟩; obtain ⟨gl, hg⟩ : ∃ z, z = WX.heap.size := ⟨_, rfl⟩; rw [← hW] at RY NW ⊢; rw [← hg] at NW; (try rw [← hg]); clear hW hg; replace RX : Hid ((WY.cell? ⟨w.heap.size, 3, none⟩ = some (.slice (some ⟨bk, ok, none⟩) n cap) ∧ WY.cell? ⟨bk, ok + y * 3, none⟩ = some (.slice a1 mL d1) ∧ WY.cell? ⟨bk, ok + y * 3 + 1, none⟩ = some (.slice a2 mD d2) ∧ WY.cell? ⟨bk, ok + y * 3 + 2, none⟩ = some (.slice a3 mX d3)) ∧ NetX w1 WY ob k p q (.slice ga i ct) nilV (.slice ga i ct) (zs.map (·.1)) ((.slice q1 mL e1, t.1) :: (.slice q2 mD e2, t.2.1) :: (.slice q3 mX e3, t.2.2) :: (rowsR zs ++ [(nilV, [])])) (.slice (some ⟨rb, 0, none⟩) 0 0) [] ∧ NewsAt WY gl [.slice q1 mL e1, .slice q2 mD e2, .slice q3 mX e3]) := Lib.hid ⟨HS6.out _ RY.bel, RY, NW⟩; clear RY; obtain ⟨WX, hW⟩ : ∃ W, W = WY := ⟨_, rfl⟩; rw [← hW] at RX ⊢; clear hW; clear NW)
          refine hK.out _ _ (by (try dsimp only); with_reducible exact RX.out.1) (fun hHeld => ?_)
          clear hK K
          try simp only [Act.put, List.getElem_toArray, List.getElem_cons_succ, List.getElem_cons_zero, List.setIfInBounds_toArray, List.set_cons_zero, List.set_cons_succ]
          exact K7_8.out q1 e1 q2 e2 q3 e3 gl WX RX
      focus
        intro WX RX
        have hHeld : ((fun w' => w'.cell? ⟨w.heap.size, 3, none⟩ = some (.slice (some ⟨bk, ok, none⟩) n cap) ∧ w'.cell? ⟨bk, ok + y * 3, none⟩ = some (.slice a1 mL d1) ∧ w'.cell? ⟨bk, ok + y * 3 + 1, none⟩ = some (.slice a2 mD d2) ∧ w'.cell? ⟨bk, ok + y * 3 + 2, none⟩ = some (.slice a3 mX d3))) WX := by (try dsimp only); with_reducible exact RX.out.1
        refine wpAnyH_ready (rs := [7]) (by kernel_rfl) (by simp) ?_
        refine AllReadyH.cons rfl (fun K hK => ?_) AllReadyH.nil
        focus
          (go_simp; refine (HCL.out WX (T1.out.bel.trans (RX.out.2.bel.mono T1.out.bel.size))).mono ?_; rintro e WY ⟨v1, v2, v3, rfl, ho, hb⟩; obtain ⟨q1, e1, rfl, -⟩ := ints_form ho.rows.1.rd; obtain ⟨q2, e2, rfl, -⟩ := ints_form ho.rows.2.1.rd; obtain ⟨q3, e3, rfl, -⟩ := ints_form ho.rows.2.2.rd; rw [← HML.out, ← HMD.out, ← HMX.out] at ho ⊢; have RY := RX.out.2.new3 hb ho; clear ho hb; replace RX : Hid ((WY.cell? ⟨w.heap.size, 3, none⟩ = some (.slice (some ⟨bk, ok, none⟩) n cap) ∧ WY.cell? ⟨bk, ok + y * 3, none⟩ = some (.slice a1 mL d1) ∧ WY.cell? ⟨bk, ok + y * 3 + 1, none⟩ = some (.slice a2 mD d2) ∧ WY.cell? ⟨bk, ok + y * 3 + 2, none⟩ = some (.slice a3 mX d3)) ∧ NetX w1 WY ob k p q (.slice ga i ct) nilV (.slice ga i ct) (zs.map (·.1)) ((.slice q1 mL e1, t.1) :: (.slice q2 mD e2, t.2.1) :: (.slice q3 mX e3, t.2.2) :: (rowsR zs ++ [(nilV, [])])) (.slice (some ⟨rb, 0, none⟩) 0 0) []) := Lib.hid ⟨HS6.out _ RY.bel, RY⟩; clear RY; obtain ⟨WX, hW⟩ : ∃ W, W = WY := ⟨_, rfl⟩; rw [← hW] at RX ⊢; clear hW; change K _ _)
          refine hK.out _ _ (by (try dsimp only); with_reducible exact RX.out.1) (fun hHeld => ?_)
          clear hK K
          try simp only [Act.put, List.getElem_toArray, List.getElem_cons_succ, List.getElem_cons_zero, List.setIfInBounds_toArray, List.set_cons_zero, List.set_cons_succ]
          exact wpAnyH_listed (by kernel_rfl) (K1_7.out q1 e1 q2 e2 q3 e3 WX RX)
      focus
        intro q1 e1 q2 e2 q3 e3 gl WX RX
        have hHeld : ((fun w' => w'.cell? ⟨w.heap.size, 3, none⟩ = some (.slice (some ⟨bk, ok, none⟩) n cap) ∧ w'.cell? ⟨bk, ok + y * 3, none⟩ = some (.slice a1 mL d1) ∧ w'.cell? ⟨bk, ok + y * 3 + 1, none⟩ = some (.slice a2 mD d2) ∧ w'.cell? ⟨bk, ok + y * 3 + 2, none⟩ = some (.slice a3 mX d3))) WX := by (try dsimp only); with_reducible exact RX.out.1
        refine wpAnyH_ready (rs := [1]) (by kernel_rfl) (by simp) ?_
        refine AllReadyH.cons rfl (fun K hK => ?_) AllReadyH.nil
        focus
          (have t3 := RX.out.2.1.n.b5.c3; go_simp; clear t3)
          refine hK.out _ _ (by (try dsimp only); with_reducible exact RX.out.1) (fun hHeld => ?_)
          clear hK K
          try simp only [Act.put, List.getElem_toArray, List.getElem_cons_succ, List.getElem_cons_zero, List.setIfInBounds_toArray, List.set_cons_zero, List.set_cons_succ]
          exact K1_7_8.out q1 e1 q2 e2 q3 e3 gl WX RX
      focus
        intro q1 e1 q2 e2 q3 e3 WX RX
        have hHeld : ((fun w' => w'.cell? ⟨w.heap.size, 3, none⟩ = some (.slice (some ⟨bk, ok, none⟩) n cap) ∧ w'.cell? ⟨bk, ok + y * 3, none⟩ = some (.slice a1 mL d1) ∧ w'.cell? ⟨bk, ok + y * 3 + 1, none⟩ = some (.slice a2 mD d2) ∧ w'.cell? ⟨bk, ok + y * 3 + 2, none⟩ = some (.slice a3 mX d3))) WX := by (try dsimp only); with_reducible exact RX.out.1
        refine wpAnyH_ready (rs := [8]) (by kernel_rfl) (by simp) ?_
        refine AllReadyH.cons rfl (fun K hK => ?_) AllReadyH.nil
        focus
          (go_simp; have NW := NewsAt.new WX (.slice q1 mL e1) (.slice q2 mD e2) (.slice q3 mX e3) 55; have RY := RX.out.2.step ((Below.refl _ _).alloc (Nat.le_refl _) (.cells #[.slice q1 mL e1, .slice q2 mD e2, .slice q3 mX e3] 55)); obtain ⟨WY, hW⟩ : ∃ WY, WY = WX.alloc (.cells #[.slice q1 mL e1, .slice q2 mD e2, .slice q3 mX e3] 55) := ⟨_, rfl⟩; obtain ⟨gl, hg⟩ : ∃ z, z = WX.heap.size := ⟨_, rfl⟩; rw [← hW] at RY NW ⊢; rw [← hg] at NW; (try rw [← hg]); clear hW hg; replace RX : Hid ((WY.cell? ⟨w.heap.size, 3, none⟩ = some (.slice (some ⟨bk, ok, none⟩) n cap) ∧ WY.cell? ⟨bk, ok + y * 3, none⟩ = some (.slice a1 mL d1) ∧ WY.cell? ⟨bk, ok + y * 3 + 1, none⟩ = some (.slice a2 mD d2) ∧ WY.cell? ⟨bk, ok + y * 3 + 2, none⟩ = some (.slice a3 mX d3)) ∧ NetX w1 WY ob k p q (.slice ga i ct) nilV (.slice ga i ct) (zs.map (·.1)) ((.slice q1 mL e1, t.1) :: (.slice q2 mD e2, t.2.1) :: (.slice q3 mX e3, t.2.2) :: (rowsR zs ++ [(nilV, [])])) (.slice (some ⟨rb, 0, none⟩) 0 0) [] ∧ NewsAt WY gl [.slice q1 mL e1, .slice q2 mD e2, .slice q3 mX e3]) := Lib.hid ⟨HS6.out _ RY.bel, RY, NW⟩; clear RY; obtain ⟨WX, hW⟩ : ∃ W, W = WY := ⟨_, rfl⟩; rw [← hW] at RX ⊢; clear hW; clear NW)
          refine hK.out _ _ (by (try dsimp only); with_reducible exact RX.out.1) (fun hHeld => ?_)
          clear hK K
          try simp only [Act.put, List.getElem_toArray, List.getElem_cons_succ, List.getElem_cons_zero, List.setIfInBounds_toArray, List.set_cons_zero, List.set_cons_succ]
          exact wpAnyH_listed (by kernel_rfl) (K1_7_8.out q1 e1 q2 e2 q3 e3 gl WX RX)
      focus
        intro q1 e1 q2 e2 q3 e3 gl WX RX
        have hHeld : ((fun w' => w'.cell? ⟨w.heap.size, 3, none⟩ = some (.slice (some ⟨bk, ok, none⟩) n cap) ∧ w'.cell? ⟨bk, ok + y * 3, none⟩ = some (.slice a1 mL d1) ∧ w'.cell? ⟨bk, ok + y * 3 + 1, none⟩ = some (.slice a2 mD d2) ∧ w'.cell? ⟨bk, ok + y * 3 + 2, none⟩ = some (.slice a3 mX d3))) WX := by (try dsimp only); with_reducible exact RX.out.1
        refine wpAnyH_ready (rs := [9]) (by kernel_rfl) (by simp) ?_
        refine AllReadyH.cons rfl (fun K hK => ?_) AllReadyH.nil
        focus
          (have O1 : WX.ownsRow w1.heap.size 55 3 (.slice ga i ct) i (cells3 (zs.map (·.1))) := (by have h1 := RX.out.2.1.n.t.own; rwa [List.length_map, HLEN.out] at h1); refine step_append_lies _ rfl (.tmp 26) (.tmp 33) 31 rfl w1.heap.size 55 i1 (.agg #[.slice none 0 0, .slice none 0 0, .slice none 0 0]) 3 72 Try.underlying31 I0.out I1.out I2.out I3.out rfl (by decide) (.slice ga i ct) i (cells3 (zs.map (·.1))) rfl O1 ⟨gl, 0, none⟩ 1 1 [.slice q1 mL e1, .slice q2 mD e2, .slice q3 mX e3] rfl rfl RX.out.2.2 (by intro u hu; simp at hu; rcases hu with rfl | rfl | rfl <;> rfl) (by decide) (by unfold maxLen; omega) (by omega) RX.out.2.1.bel.size _ rfl ?_; intro gt cn WY hown hgrow hl _; have RY := RX.out.2.1.app (u := ((.slice q1 mL e1, .slice q2 mD e2, .slice q3 mX e3) : TenW)) (n := i) (by rw [List.length_map, HLEN.out]) hown hgrow hl; clear hown hgrow hl O1; replace RX : Hid ((WY.cell? ⟨w.heap.size, 3, none⟩ = some (.slice (some ⟨bk, ok, none⟩) n cap) ∧ WY.cell? ⟨bk, ok + y * 3, none⟩ = some (.slice a1 mL d1) ∧ WY.cell? ⟨bk, ok + y * 3 + 1, none⟩ = some (.slice a2 mD d2) ∧ WY.cell? ⟨bk, ok + y * 3 + 2, none⟩ = some (.slice a3 mX d3)) ∧ NetX w1 WY ob k p q (.slice ga i ct) nilV (.slice (some ⟨gt, 0, none⟩) (i + 1) cn) (zs.map (·.1) ++ [((.slice q1 mL e1, .slice q2 mD e2, .slice q3 mX e3) : TenW)]) ((.slice q1 mL e1, t.1) :: (.slice q2 mD e2, t.2.1) :: (.slice q3 mX e3, t.2.2) :: (rowsR zs ++ [(nilV, [])])) (.slice (some ⟨rb, 0, none⟩) 0 0) []) := Lib.hid ⟨HS6.out _ RY.bel, RY⟩; clear RY; obtain ⟨WX, hW⟩ : ∃ W, W = WY := ⟨_, rfl⟩; rw [← hW] at RX ⊢; clear hW)
          refine hK.out _ _ (by (try dsimp only); with_reducible exact RX.out.1) (fun hHeld => ?_)
          clear hK K
          try simp only [Act.put, List.getElem_toArray, List.getElem_cons_succ, List.getElem_cons_zero, List.setIfInBounds_toArray, List.set_cons_zero, List.set_cons_succ]
          refine wpAnyH_take (i := 10) (v := ?_) rfl (by kernel_rfl) (by kernel_rfl) (by kernel_rfl) (fun _ _ _ h => h) (Or.inl ⟨by rfl, ?_⟩) (by assumption) ?_
          rotate_left
          · intro w hSw; (try dsimp only at hSw); go_simp <;> with_reducible rfl
          try simp only [Act.put, List.getElem_toArray, List.getElem_cons_succ, List.getElem_cons_zero, List.setIfInBounds_toArray, List.set_cons_zero, List.set_cons_succ]
          exact K1_7_8_9.out q1 e1 q2 e2 q3 e3 gl gt cn WX RX
      focus
        intro q1 e1 q2 e2 q3 e3 gl gt cn WX RX
        have hHeld : ((fun w' => w'.cell? ⟨w.heap.size, 3, none⟩ = some (.slice (some ⟨bk, ok, none⟩) n cap) ∧ w'.cell? ⟨bk, ok + y * 3, none⟩ = some (.slice a1 mL d1) ∧ w'.cell? ⟨bk, ok + y * 3 + 1, none⟩ = some (.slice a2 mD d2) ∧ w'.cell? ⟨bk, ok + y * 3 + 2, none⟩ = some (.slice a3 mX d3))) WX := by (try dsimp only); with_reducible exact RX.out.1
        refine wpAnyH_ready (rs := [11]) (by kernel_rfl) (by simp) ?_
        refine AllReadyH.cons rfl (fun K hK => ?_) AllReadyH.nil
        focus
          (obtain ⟨-, -, -, t3, -, fr, -⟩ := RX.out.2.n.b5; have fr3 := fr 3; clear fr; go_simp; have RY := RX.out.2.putT; obtain ⟨WY, hW⟩ : ∃ WY, WY = WX.setCell ⟨ob, 3, none⟩ (.slice (some ⟨gt, 0, none⟩) (i + 1) cn) := ⟨_, rfl⟩; rw [← hW] at RY ⊢; clear hW t3 fr3; replace RX : Hid ((WY.cell? ⟨w.heap.size, 3, none⟩ = some (.slice (some ⟨bk, ok, none⟩) n cap) ∧ WY.cell? ⟨bk, ok + y * 3, none⟩ = some (.slice a1 mL d1) ∧ WY.cell? ⟨bk, ok + y * 3 + 1, none⟩ = some (.slice a2 mD d2) ∧ WY.cell? ⟨bk, ok + y * 3 + 2, none⟩ = some (.slice a3 mX d3)) ∧ NetX w1 WY ob k p q (.slice (some ⟨gt, 0, none⟩) (i + 1) cn) nilV (.slice (some ⟨gt, 0, none⟩) (i + 1) cn) (zs.map (·.1) ++ [((.slice q1 mL e1, .slice q2 mD e2, .slice q3 mX e3) : TenW)]) ((.slice q1 mL e1, t.1) :: (.slice q2 mD e2, t.2.1) :: (.slice q3 mX e3, t.2.2) :: (rowsR zs ++ [(nilV, [])])) (.slice (some ⟨rb, 0, none⟩) 0 0) []) := Lib.hid ⟨HS6.out _ RY.bel, RY⟩; clear RY; obtain ⟨WX, hW⟩ : ∃ W, W = WY := ⟨_, rfl⟩; rw [← hW] at RX ⊢; clear hW)
          refine hK.out _ _ (by (try dsimp only); with_reducible exact RX.out.1) (fun hHeld => ?_)
          clear hK K
          try simp only [Act.put, List.getElem_toArray, List.getElem_cons_succ, List.getElem_cons_zero, List.setIfInBounds_toArray, List.set_cons_zero, List.set_cons_succ]
          exact K1_7_8_9_11.out q1 e1 q2 e2 q3 e3 gl gt cn WX RX
      intro q1 e1 q2 e2 q3 e3 gl gt cn WX RX
      refine wpAnyH_done (by kernel_rfl) ?_ _
-- 7 states
      have T10 : Hid (NetX w1 WX ob k p q (.slice (some ⟨gt, 0, none⟩) (i + 1) cn) nilV (.slice (some ⟨gt, 0, none⟩) (i + 1) cn) ((zs ++ [(((.slice q1 mL e1, .slice q2 mD e2, .slice q3 mX e3) : TenW), t)]).map (·.1)) (rowsR (zs ++ [(((.slice q1 mL e1, .slice q2 mD e2, .slice q3 mX e3) : TenW), t)]) ++ [(nilV, [])]) (.slice (some ⟨rb, 0, none⟩) 0 0) []) := Lib.hid (by
        rw [List.map_append, rowsR_snoc]
        exact RX.out.2)
      have HZ2 : Hid ((zs ++ [(((.slice q1 mL e1, .slice q2 mD e2, .slice q3 mX e3) : TenW), t)]).map (·.2) = pickT ts (l.take (i + 1))) := Lib.hid (by
        rw [List.map_append, HZS.out, pickT_snoc ts l X1.out TT1.out]
        rfl)
      clear RX hHeld
      go_wp2
      go_roundw
      case rel => exact ⟨i + 1, cn, some ⟨gt, 0, none⟩, _, by omega, by go_num, HZ2, T10⟩
      case measure => simp [intOf]; omega
    · obtain rfl : i = j := by omega
      have e2 : l.take i = l := List.take_of_length_le (by rw [HLJ.out]; exact Nat.le_refl _)
      rw [e2] at HZS
      have HPL : Hid (LenTs (pickT ts l) ∧ AxT (pickT ts l)) := Lib.hid ⟨⟨by
        unfold pickT
        rw [List.length_map, HLJ.out]
        omega, fun t ht => HL.out.2 t (pick_mem (by rw [HN.out]; exact HOK.out) t ht)⟩, fun t ht => HAX.out t (pick_mem (by rw [HN.out]; exact HOK.out) t ht)⟩
      have HRL : Hid (LenTs (restT ts l ts.length) ∧ AxT (restT ts l ts.length)) := Lib.hid ⟨⟨by
        unfold restT
        rw [List.length_map]
        have := restI_len l ts.length
        rw [HN.out] at this ⊢
        omega, fun t ht => HL.out.2 t (rest_mem t ht)⟩, fun t ht => HAX.out t (rest_mem t ht)⟩
      obtain ⟨us0, hR3, hul, hur⟩ := HTS0.out
      have HR3 := Lib.hid hR3
      have HUL := Lib.hid hul
      have HUR := Lib.hid hur
      obtain ⟨V0, hV0⟩ : ∃ f : Nat → List TenW, f = fun i2 => (restI l i2).map fun x => us0.getD x (nilV, nilV, nilV) := ⟨_, rfl⟩
      have HV := Lib.hid hV0
      have X4 : Hid (NetX w1 wr ob k p q (.slice ga i ct) nilV (.slice ga i ct) (zs.map (·.1)) (rowsR zs ++ [(nilV, [])]) (.slice (some ⟨rb, 0, none⟩) 0 0) (V0 0)) := Lib.hid (by rw [hV0]; exact HR.out)
      have T2 := Lib.hid (T1.out.step HR.out.bel)
      obtain ⟨c0, c1, c2, c3, c4, -⟩ := T2.out.s
      clear hR3 hul hur hV0 e2 hlt HR
      go_wp2
      clear c0 c1 c2 c3 c4 T2
      go_loopw [6, 40] (fun sv ii wq => ∃ (i2 z2 cr : Nat) (gr : Option Addr), i2 ≤ n ∧ z2 ≤ i2 ∧ sv = .slice gr z2 cr ∧ ii = .int .i64 i2 ∧ Hid ((restI l i2).length = z2) ∧ Hid (NetX w1 wq ob k p q (.slice ga i ct) nilV (.slice ga i ct) (zs.map (·.1)) (rowsR zs ++ [(nilV, [])]) (.slice gr z2 cr) (V0 i2))) (fun _ ii _ => n - (intOf ii).toNat)
      case atStart => exact ⟨0, 0, 0, some ⟨rb, 0, none⟩, by omega, by omega, rfl, rfl, Lib.hid rfl, X4⟩
      case round =>
        clear X4
        obtain ⟨i2, z2, cr, gr, hi2, hz2l, rfl, rfl, HZL, HR⟩ := hrel
        by_cases hlt : i2 < n
        · obtain ⟨t, TT1⟩ : ∃ t, Hid (ts[i2]? = some t) := ⟨_, List.getElem?_eq_getElem (by rw [HN.out]; exact hlt)⟩
          obtain ⟨⟨u1, u2, u3⟩, UU1⟩ : ∃ u, Hid (us0[i2]? = some u) := ⟨_, List.getElem?_eq_getElem (by rw [HUL.out, HN.out]; exact hlt)⟩
          have hT := HUR.out i2 _ t UU1.out TT1.out
          obtain ⟨a1, d1, e1, -⟩ := ints_form hT.l
          obtain ⟨a2, d2, e2, -⟩ := ints_form hT.d
          obtain ⟨a3, d3, e3, -⟩ := ints_form hT.x
          simp only at e1 e2 e3
          subst e1 e2 e3
          obtain ⟨mL, hmL⟩ : ∃ m, m = t.1.length := ⟨_, rfl⟩
          obtain ⟨mD, hmD⟩ : ∃ m, m = t.2.1.length := ⟨_, rfl⟩
          obtain ⟨mX, hmX⟩ : ∃ m, m = t.2.2.length := ⟨_, rfl⟩
          rw [← hmL, ← hmD, ← hmX] at UU1
          obtain ⟨bk, ok, cap', hpa, hbw, hcl⟩ : ∃ b off cap', Value.slice pa n cap = .slice (some ⟨b, off, none⟩) us0.length cap' ∧ b < w.heap.size ∧ ∀ i (u : TenW), us0[i]? = some u → w.cell? ⟨b, off + i * 3, none⟩ = some u.1 ∧ w.cell? ⟨b, off + i * 3 + 1, none⟩ = some u.2.1 ∧ w.cell? ⟨b, off + i * 3 + 2, none⟩ = some u.2.2 := by
            rcases HR3.out with ⟨h, -⟩ | h
            · exfalso
              have h1 := UU1.out
              rw [h] at h1
              simp at h1
            · exact h
          injection hpa with hpa hpn hpc
          subst hpa
          obtain ⟨k0, k1, k2⟩ := hcl i2 _ UU1.out
          have hbe := T1.out.bel.trans (HR.out.bel.mono T1.out.bel.size)
          replace k0 := (hbe.cell (p := ⟨bk, ok + i2 * 3, none⟩) hbw).trans k0
          replace k1 := (hbe.cell (p := ⟨bk, ok + i2 * 3 + 1, none⟩) hbw).trans k1
          replace k2 := (hbe.cell (p := ⟨bk, ok + i2 * 3 + 2, none⟩) hbw).trans k2
          simp only at k0 k1 k2
          obtain ⟨WB, hWB⟩ : ∃ W, W = wr.alloc (.cells #[.slice a1 mL d1, .slice a2 mD d2, .slice a3 mX d3] 55) := ⟨_, rfl⟩
          have XB : Hid (NetX w1 WB ob k p q (.slice ga i ct) nilV (.slice ga i ct) (zs.map (·.1)) (rowsR zs ++ [(nilV, [])]) (.slice gr z2 cr) (V0 i2)) := Lib.hid (by rw [hWB]; exact HR.out.step ((Below.refl _ _).alloc (Nat.le_refl _) _))
          have tb : WB.cell? ⟨wr.heap.size, 0, none⟩ = some (.slice a1 mL d1) ∧ WB.cell? ⟨wr.heap.size, 1, none⟩ = some (.slice a2 mD d2) ∧ WB.cell? ⟨wr.heap.size, 2, none⟩ = some (.slice a3 mX d3) := by rw [hWB]; simp
          have HWB := Lib.hid hWB
          have HF := Lib.hid (find_spec (w := WB) (i2 : Int) (HV0.out.below (T1.out.bel.trans (XB.out.bel.mono T1.out.bel.size)) (Nat.le_refl _)) (by rw [HLJ.out]; omega))
          obtain ⟨z, hz⟩ : ∃ z, z = findI l (i2 : Int) := ⟨_, rfl⟩
          rw [← hz] at HF
          have hzz : z < 0 ↔ (i2 : Int) ∉ l := by rw [hz]; exact findI_neg
          have HZZ := Lib.hid hzz
          clear hT hmL hmD hmX hpn hpc hcl hbw hbe hWB hz hzz HR
          go_upto_region 11 with fail
          rw [← HWB.out]
          clear HWB k0 k1 k2
          obtain ⟨t0, t1, t2⟩ := tb
          go_wp2_with fail
          refine HF.out.mono ?_
          clear HF
          rintro e w5 ⟨rfl, rfl⟩
          by_cases hneg : z < 0
          · have hnm := HZZ.out.1 hneg
            have HE : Hid (V0 i2 ++ [((.slice a1 mL d1, .slice a2 mD d2, .slice a3 mX d3) : TenW)] = V0 (i2 + 1)) := Lib.hid (by
              rw [HV.out]
              simp only
              rw [restI_yes hnm, List.map_append]
              simp [UU1.out])
            have HZ6 : Hid ((restI l (i2 + 1)).length = z2 + 1) := Lib.hid (by rw [restI_yes hnm, List.length_append, HZL.out]; rfl)
            have hVL : (V0 i2).length = z2 := by rw [HV.out]; simp only; rw [List.length_map]; exact HZL.out
            have HVL := Lib.hid hVL
            have X6 := Lib.hid (XB.out.step ((Below.refl _ _).alloc (Nat.le_refl _) (.cells #[.slice a1 mL d1, .slice a2 mD d2, .slice a3 mX d3] 55)))
            have N6 := Lib.hid (NewsAt.new WB (.slice a1 mL d1) (.slice a2 mD d2) (.slice a3 mX d3) 55)
            have O6 : Hid ((WB.alloc (.cells #[.slice a1 mL d1, .slice a2 mD d2, .slice a3 mX d3] 55)).ownsRow w1.heap.size 55 3 (.slice gr z2 cr) z2 (cells3 (V0 i2))) := Lib.hid (by
              have h1 := X6.out.r.own
              rwa [HVL.out] at h1)
            clear hnm hVL
            go_wp2_with (at_builtin; go_must (refine wpList_append_lies _ rfl _ _ 31 rfl w1.heap.size 55 i1 (.agg #[.slice none 0 0, .slice none 0 0, .slice none 0 0]) 3 72 Try.underlying31 I0.out I1.out I2.out I3.out rfl (by decide) _ z2 _ rfl O6.out ⟨WB.heap.size, 0, none⟩ 1 1 [.slice a1 mL d1, .slice a2 mD d2, .slice a3 mX d3] rfl rfl N6.out ?c2 (by decide) ?c3 ?c4 ?c5 _ rfl ?_))
            case c2 => first | exact ⟨rfl, rfl, rfl⟩ | (intro u hu; simp at hu; rcases hu with rfl | rfl | rfl <;> rfl)
            case c3 => unfold maxLen; omega
            case c4 => omega
            case c5 => exact X6.out.bel.size
            intro g9 cap9 w9 hown hgrow hl9 _
            have X9 := X6.out.appV (u := (.slice a1 mL d1, .slice a2 mD d2, .slice a3 mX d3)) (n := z2) HVL.out hown hgrow (by first | exact hl9 | simpa using hl9)
            rw [HE.out] at X9
            have X10 := Lib.hid X9
            clear X9 hown hgrow hl9 t0 t1 t2 X6 N6 O6 XB hneg
            go_wp2
            go_roundw
            case rel => exact ⟨i2 + 1, z2 + 1, cap9, some ⟨g9, 0, none⟩, by omega, by omega, rfl, by go_num, HZ6, X10⟩
            case measure => simp [intOf]; omega
          · have hm : (i2 : Int) ∈ l := Classical.byContradiction fun h => hneg (HZZ.out.2 h)
            have X10 : Hid (NetX w1 WB ob k p q (.slice ga i ct) nilV (.slice ga i ct) (zs.map (·.1)) (rowsR zs ++ [(nilV, [])]) (.slice gr z2 cr) (V0 (i2 + 1))) := Lib.hid (by
              have h1 := XB.out
              rw [HV.out] at h1 ⊢
              simp only at h1 ⊢
              rw [restI_no hm]
              exact h1)
            have HZ6 : Hid ((restI l (i2 + 1)).length = z2) := Lib.hid (by rw [restI_no hm]; exact HZL.out)
            clear hm t0 t1 t2 XB
            go_wp2
            go_roundw
            case rel => exact ⟨i2 + 1, z2, cr, gr, by omega, by omega, rfl, by go_num, HZ6, X10⟩
            case measure => simp [intOf]; omega
        · obtain rfl : i2 = n := by omega
          have HRR : Hid (∀ (W : World) (ov : Value) (rows : List RowE), NetX w1 W ob k p q (.slice ga i ct) ov (.slice ga i ct) (zs.map (·.1)) rows (.slice gr z2 cr) (V0 i2) → RdTs W.heap.size W (.slice gr z2 cr) (restT ts l ts.length)) := Lib.hid (fun W ov rows h => by
            refine ⟨V0 i2, h.r.rd3, ?_, fun j u t hu ht => ?_⟩
            · rw [HV.out, HN.out]
              unfold restT
              simp
            · have hbe := T1.out.bel.trans (h.bel.mono T1.out.bel.size)
              rw [HV.out] at hu
              simp only at hu
              unfold restT at ht
              rw [HN.out] at ht
              rw [List.getElem?_map] at hu ht
              cases hq : (restI l i2)[j]? with
              | none => rw [hq] at hu; cases hu
              | some x =>
                rw [hq] at hu ht
                simp only [Option.map_some, Option.some.injEq] at hu ht
                have hx := restI_mem (List.mem_of_getElem? hq)
                have hx1 : x < ts.length := by rw [HN.out]; exact hx
                have hx2 : x < us0.length := by rw [HUL.out]; exact hx1
                rw [List.getD_eq_getElem?_getD, List.getElem?_eq_getElem hx2] at hu
                rw [List.getD_eq_getElem?_getD, List.getElem?_eq_getElem hx1] at ht
                simp only [Option.getD_some] at hu ht
                have h1 := HUR.out x u t (by rw [List.getElem?_eq_getElem hx2, hu]) (by rw [List.getElem?_eq_getElem hx1, ht])
                exact (h1.below hbe (Nat.le_refl _)).mono3 hbe.size)
          have X4 : Hid (NetX w1 wr ob k p q (.slice ga i ct) nilV (.slice ga i ct) (zs.map (·.1)) (rowsR zs ++ [(nilV, op3 ts O l 0)]) (.slice gr z2 cr) (V0 i2)) := Lib.hid HR.out
          have HZ0 : Hid ((op3 ts O l 0).length = 0) := Lib.hid rfl
          have T2 := Lib.hid (T1.out.step HR.out.bel)
          obtain ⟨c0, c1, c2, c3, c4, -⟩ := T2.out.s
          clear hlt HR
          go_wp2
          clear c0 c1 c2 c3 c4 T2
          go_loopw [57] (fun ii wq => ∃ (i3 z3 c3 : Nat) (g3 : Option Addr), i3 ≤ m ∧ z3 ≤ i3 ∧ ii = .int .i64 i3 ∧ Hid ((op3 ts O l i3).length = z3) ∧ Hid (NetX w1 wq ob k p q (.slice ga i ct) (.slice g3 z3 c3) (.slice ga i ct) (zs.map (·.1)) (rowsR zs ++ [(.slice g3 z3 c3, op3 ts O l i3)]) (.slice gr z2 cr) (V0 i2))) (fun ii _ => m - (intOf ii).toNat)
          case atStart => exact ⟨0, 0, 0, none, by omega, by omega, rfl, HZ0, X4⟩
          case round =>
            clear X4 HZ0
            obtain ⟨i3, z3, c3, g3, hi3, hz3, rfl, HZ3, HR⟩ := hrel
            by_cases hlt : i3 < m
            · obtain ⟨x, X1⟩ : ∃ x, Hid (O[i3]? = some x) := ⟨_, List.getElem?_eq_getElem (by rw [HM.out]; exact hlt)⟩
              obtain ⟨b1, o1, rfl, -, e1⟩ := (HO0.out.below (T1.out.bel.trans (HR.out.bel.mono T1.out.bel.size)) (Nat.le_refl _)).cellAt X1.out
              have ST := Lib.hid (op3_step (ts := ts) (l := l) X1.out)
              have hrdt := HR.out.n.rdT
              rw [HZS.out] at hrdt
              have HD := Lib.hid (dim_spec (x := x) hrdt (Nat.le_refl _) HPL.out.1 HPL.out.2)
              obtain ⟨z, hz⟩ : ∃ z, z = dimT (pickT ts l) x := ⟨_, rfl⟩
              rw [← hz] at HD
              have HZZ : Hid (dB (pickT ts l) x = decide (0 < z)) := Lib.hid (by unfold dB; rw [hz])
              have t3 := HR.out.n.b5.c3
              clear hrdt hz
              go_wp2_with fail
              refine HD.out.mono ?_
              clear HD e1 t3
              rintro e w5 ⟨rfl, hb5⟩
              have X5 := Lib.hid (HR.out.step hb5)
              clear HR hb5
              by_cases hpos : 0 < z
              · have HE : Hid (op3 ts O l i3 ++ [x] = op3 ts O l (i3 + 1)) := Lib.hid (by rw [ST.out, HZZ.out, decide_eq_true hpos]; simp)
                have A5 := Lib.hid (X5.out.step ((Below.refl _ _).alloc (Nat.le_refl _) (.cells #[.int .i64 x] 3)))
                have O5 := Lib.hid (A5.out.n.t.rs.row (v := .slice g3 z3 c3) (List.mem_append_right _ List.mem_cons_self) HZ3.out)
                have t4 := X5.out.n.b5.c4
                clear X5
                go_wp2_with (at_builtin; go_must (refine wpList_append_lies _ rfl _ _ 25 rfl w1.heap.size 3 i0 (.int .i64 0) 1 8 Try.underlying25 J0.out J1.out J2.out J3.out rfl (by decide) _ z3 (ints (op3 ts O l i3)) rfl O5.out ⟨w5.heap.size, 0, none⟩ 1 1 [.int .i64 x] rfl rfl (cell_one_new _ _ _) ?c2 (by decide) ?c3 ?c4 ?c5 _ rfl ?_))
                case c2 => first | rfl | (intro u hu; simp at hu; subst hu; rfl)
                case c3 => unfold maxLen; omega
                case c4 => omega
                case c5 => exact A5.out.bel.size
                intro g9 cap9 w9 hown hgrow hl9 _
                have X6 := A5.out.appO HZ3.out hown hgrow (by first | exact hl9 | simpa using hl9)
                rw [HE.out] at X6
                have X7 := Lib.hid X6
                have X8 := Lib.hid (X6.putO (.slice (some ⟨g9, 0, none⟩) (z3 + 1) cap9))
                have HZ6 : Hid ((op3 ts O l (i3 + 1)).length = z3 + 1) := Lib.hid (by rw [← HE.out, List.length_append, HZ3.out]; rfl)
                have u4 := X6.n.b5.c4
                have fr4 := X6.n.b5.fr 4
                clear X6 hown hgrow hl9 A5 O5 t4
                go_wp2
                go_roundw
                case rel => exact ⟨i3 + 1, z3 + 1, cap9, some ⟨g9, 0, none⟩, by omega, by omega, by go_num, HZ6, X8⟩
                case measure => simp [intOf]; omega
              · have HE : Hid (op3 ts O l i3 = op3 ts O l (i3 + 1)) := Lib.hid (by rw [ST.out, HZZ.out, decide_eq_false hpos]; simp)
                rw [HE.out] at HZ3 X5
                go_wp2
                go_roundw
                case rel => exact ⟨i3 + 1, z3, c3, g3, by omega, by omega, by go_num, HZ3, X5⟩
                case measure => simp [intOf]; omega
            · obtain rfl : i3 = m := by omega
              obtain ⟨LT, hLT⟩ : ∃ L, L = labT (pickT ts l) := ⟨_, rfl⟩
              obtain ⟨nl, hnl⟩ : ∃ z, z = LT.length := ⟨_, rfl⟩
              have hnl1 : nl ≤ 100 := by rw [hnl, hLT]; exact labT_len _
              have hrdt := HR.out.n.rdT
              rw [HZS.out] at hrdt
              have HLS := Lib.hid (labels_spec hrdt (Nat.le_refl _) HPL.out.1 HPL.out.2)
              rw [← hLT] at HLS
              have HLT := Lib.hid hLT
              have HNL := Lib.hid hnl
              have t3 := HR.out.n.b5.c3
              have HZ0 : Hid ((op4 ts O l 0).length = z3) := Lib.hid (by rw [op4_zero, HM.out]; exact HZ3.out)
              clear hrdt hLT hnl hlt
              go_wp2_with fail
              refine HLS.out.mono ?_
              clear HLS t3
              rintro e w5 ⟨lv, rfl, ho5, hb5⟩
              obtain ⟨la, lc, rfl, -⟩ := ints_form ho5.rd
              rw [← HNL.out] at ho5 ⊢
              have X5 : Hid (NetX w1 w5 ob k p q (.slice ga i ct) (.slice g3 z3 c3) (.slice ga i ct) (zs.map (·.1)) (((.slice la nl lc, LT) :: rowsR zs) ++ [(.slice g3 z3 c3, op4 ts O l 0)]) (.slice gr z2 cr) (V0 i2)) := Lib.hid (by
                have h1 := HR.out.new1 hb5 ho5
                rw [op4_zero, HM.out]
                exact h1)
              clear HR HZ3 ho5 hb5
              go_wp2
              go_loopw [77] (fun ii wq => ∃ (i4 z4 c4 : Nat) (g4 : Option Addr), i4 ≤ nl ∧ z4 ≤ i3 + i4 ∧ ii = .int .i64 i4 ∧ Hid ((op4 ts O l i4).length = z4) ∧ Hid (NetX w1 wq ob k p q (.slice ga i ct) (.slice g4 z4 c4) (.slice ga i ct) (zs.map (·.1)) (((.slice la nl lc, LT) :: rowsR zs) ++ [(.slice g4 z4 c4, op4 ts O l i4)]) (.slice gr z2 cr) (V0 i2))) (fun ii _ => nl - (intOf ii).toNat)
              case atStart => exact ⟨0, z3, c3, g3, by omega, by omega, rfl, HZ0, X5⟩
              case round =>
                clear X5 HZ0
                obtain ⟨i4, z4, c4, g4, hi4, hz4, rfl, HZ4, HR⟩ := hrel
                by_cases hlt : i4 < nl
                · obtain ⟨x, X1⟩ : ∃ x, Hid (LT[i4]? = some x) := ⟨_, List.getElem?_eq_getElem (by rw [← HNL.out]; exact hlt)⟩
                  obtain ⟨b1, o1, rfl, -, e1⟩ := (HR.out.n.t.rs.rd (v := .slice la nl lc) (xs := LT) (List.mem_append_left _ List.mem_cons_self)).cellAt X1.out
                  have ST := Lib.hid (op4_step (ts := ts) (O := O) (l := l) (j := i4) (x := x) (by rw [← HLT.out]; exact X1.out))
                  have T2 := Lib.hid (T1.out.step HR.out.bel)
                  have hbe := T2.out.bel
                  have HF := Lib.hid (find_spec (w := wr) x (HO0.out.below hbe (Nat.le_refl _)) (by rw [HM.out]; omega))
                  obtain ⟨z, hz⟩ : ∃ z, z = findI O x := ⟨_, rfl⟩
                  rw [← hz] at HF
                  have HZZ : Hid (z < 0 ↔ x ∉ O) := Lib.hid (by rw [hz]; exact findI_neg)
                  obtain ⟨y, hy⟩ : ∃ y, y = dimT (restT ts l ts.length) x := ⟨_, rfl⟩
                  have HD : Hid (Calls Try.prog 46 #[.slice gr z2 cr, .int .i64 x] wr fun e w' => e = .returned (.int .i64 y) ∧ Below wr.heap.size wr w') := Lib.hid (by
                    rw [hy]
                    exact dim_spec (HRR.out _ _ _ HR.out) (Nat.le_refl _) HRL.out.1 HRL.out.2)
                  have HYY : Hid (dB (restT ts l ts.length) x = decide (0 < y)) := Lib.hid (by unfold dB; rw [hy])
                  have c4 := T2.out.s.c4
                  clear hbe hz hy T2
                  by_cases hneg : z < 0
                  · have hno := HZZ.out.1 hneg
                    go_wp2_with fail
                    refine HF.out.mono ?_
                    clear HF e1 c4
                    rintro e w5 ⟨rfl, rfl⟩
                    go_wp2_with fail
                    refine HD.out.mono ?_
                    clear HD
                    rintro e w6 ⟨rfl, hb6⟩
                    have X6 := Lib.hid (HR.out.step hb6)
                    clear HR hb6
                    by_cases hpos : 0 < y
                    · have HE : Hid (op4 ts O l i4 ++ [x] = op4 ts O l (i4 + 1)) := Lib.hid (by
                        have hq : qB ts O l x = true := by unfold qB; rw [HYY.out, decide_eq_true hpos, decide_eq_false hno]; rfl
                        rw [ST.out, hq]; simp)
                      have A5 := Lib.hid (X6.out.step ((Below.refl _ _).alloc (Nat.le_refl _) (.cells #[.int .i64 x] 3)))
                      have O5 := Lib.hid (A5.out.n.t.rs.row (v := .slice g4 z4 c4) (List.mem_append_right _ List.mem_cons_self) HZ4.out)
                      have t4 := X6.out.n.b5.c4
                      clear X6 hno
                      go_wp2_with (at_builtin; go_must (refine wpList_append_lies _ rfl _ _ 25 rfl w1.heap.size 3 i0 (.int .i64 0) 1 8 Try.underlying25 J0.out J1.out J2.out J3.out rfl (by decide) _ z4 (ints (op4 ts O l i4)) rfl O5.out ⟨w6.heap.size, 0, none⟩ 1 1 [.int .i64 x] rfl rfl (cell_one_new _ _ _) ?c2 (by decide) ?c3 ?c4 ?c5 _ rfl ?_))
                      case c2 => first | rfl | (intro u hu; simp at hu; subst hu; rfl)
                      case c3 => unfold maxLen; omega
                      case c4 => omega
                      case c5 => exact A5.out.bel.size
                      intro g9 cap9 w9 hown hgrow hl9 _
                      have X6 := A5.out.appO HZ4.out hown hgrow (by first | exact hl9 | simpa using hl9)
                      rw [HE.out] at X6
                      have X8 := Lib.hid (X6.putO (.slice (some ⟨g9, 0, none⟩) (z4 + 1) cap9))
                      have HZ6 : Hid ((op4 ts O l (i4 + 1)).length = z4 + 1) := Lib.hid (by rw [← HE.out, List.length_append, HZ4.out]; rfl)
                      have u4 := X6.n.b5.c4
                      have fr4 := X6.n.b5.fr 4
                      clear X6 hown hgrow hl9 A5 O5 t4
                      go_wp2
                      go_roundw
                      case rel => exact ⟨i4 + 1, z4 + 1, cap9, some ⟨g9, 0, none⟩, by omega, by omega, by go_num, HZ6, X8⟩
                      case measure => simp [intOf]; omega
                    · have HE : Hid (op4 ts O l i4 = op4 ts O l (i4 + 1)) := Lib.hid (by
                        have hq : qB ts O l x = false := by unfold qB; rw [HYY.out, decide_eq_false hpos]; simp
                        rw [ST.out, hq]; simp)
                      rw [HE.out] at HZ4 X6
                      clear hno
                      go_wp2
                      go_roundw
                      case rel => exact ⟨i4 + 1, z4, c4, g4, by omega, by omega, by go_num, HZ4, X6⟩
                      case measure => simp [intOf]; omega
                  · have hyes : x ∈ O := Classical.byContradiction fun h => hneg (HZZ.out.2 h)
                    have HE : Hid (op4 ts O l i4 = op4 ts O l (i4 + 1)) := Lib.hid (by
                      have hq : qB ts O l x = false := by unfold qB; rw [decide_eq_true hyes]; rfl
                      rw [ST.out, hq]; simp)
                    rw [HE.out] at HZ4 HR
                    clear hyes
                    go_wp2_with fail
                    refine HF.out.mono ?_
                    clear HF e1 c4
                    rintro e w5 ⟨rfl, rfl⟩
                    go_wp2
                    go_roundw
                    case rel => exact ⟨i4 + 1, z4, c4, g4, by omega, by omega, by go_num, HZ4, HR⟩
                    case measure => simp [intOf]; omega
                · obtain rfl : i4 = nl := by omega
                  have hW : NetW w1 wr ob k p q (.slice ga i ct) (.slice g4 z4 c4) (.slice ga i ct) (zs.map (·.1)) (rowsR zs ++ ((.slice la i4 lc, LT) :: [(.slice g4 z4 c4, op4 ts O l i4)])) := HR.out.n.perm (by
                    exact (List.perm_middle (a := ((.slice la i4 lc, LT) : RowE)) (l₁ := rowsR zs) (l₂ := [(.slice g4 z4 c4, op4 ts O l i4)])).symm)
                  have OT := Lib.hid hW.ownTs
                  rw [HZS.out] at OT
                  have OO := Lib.hid (HR.out.n.t.rs.own1 (v := .slice g4 z4 c4) (xs := op4 ts O l i4) (List.mem_append_right _ List.mem_cons_self))
                  rw [op4_full (by rw [← HLT.out]; exact HNL.out.symm)] at OO
                  have T9 := Lib.hid (T1.out.step HR.out.bel)
                  have HRB := Lib.hid T1.out.r.lt
                  obtain ⟨b0, b1, b2, b3, b4, -⟩ := HR.out.n.b5
                  obtain ⟨t0, t1, t2, t3, t4, fr, -⟩ := T9.out.r
                  have fr0 := fr 0
                  have fr1 := fr 1
                  have fr2 := fr 2
                  have fr3 := fr 3
                  have fr4 := fr 4
                  have HCAP : Hid (∀ a n c, Value.slice ga i ct = .slice a n c → n ≤ c) := Lib.hid (by
                    intro a n c e
                    rcases hW.t.own.2 with ⟨e2, h0⟩ | ⟨g, cap, cur, e2, -, -, hnc, -⟩
                    · cases e2; cases e; omega
                    · cases e2; cases e; exact hnc)
                  clear fr hlt HR hW
                  go_wp2
                  refine bodyPost_ret (v := netV k p q (.slice ga i ct) (.slice g4 z4 c4)) (by simp [results, Try.results72, go_sem, t0, t1, t2, t3, t4]) rfl ?_
                  have h1 := OT.out.put5 (b := w.heap.size + 1) HRB.out (.int .i64 k) (.int .i64 p) (.int .i64 q) (.slice ga i ct) (.slice g4 z4 c4)
                  have h2 := OO.out.put5 (b := w.heap.size + 1) HRB.out (.int .i64 k) (.int .i64 p) (.int .i64 q) (.slice ga i ct) (.slice g4 z4 c4)
                  refine ⟨_, _, rfl, ?_, HCAP.out, ?_, below_put5 T9.out.bel (by omega) _ _ _ _ _⟩
                  · exact h1.wide T1.out.bel.size (by simp) (Nat.le_refl _)
                  · exact own_narrow h2 T1.out.bel.size (fun g' e => by have := h2.2.1 g' e; simpa using this) (Nat.le_refl _)
end Go.Proofs.Ytdheakjjnaifkaa
