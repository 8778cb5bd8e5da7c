
/- (Tensor).slice: all slices at once. -/
import Derived.Test.YtdheakjjnaifkaaFind
import Derived.Test.YtdheakjjnaifkaaRa
import Derived.Test.YtdheakjjnaifkaaAlong
import Derived.Test.YtdheakjjnaifkaaSliceMath
namespace Go.Proofs.Ytdheakjjnaifkaa
set_option maxRecDepth 20000
open Go.RowKit

theorem axesL_mem {L D : List Int} {a : AxE} (h : a ∈ axesL L D) : ∃ i, i < L.length ∧ a = (L.getD i 0, D.getD i 0, prodL (D.drop (i + 1))) := by
  unfold axesL at h
  obtain ⟨i, hi, e⟩ := List.mem_map.1 h
  exact ⟨i, List.mem_range.1 hi, e.symm⟩
theorem TF.strides {k p q : Int} {L D X : List Int} {wd N : Nat} (h : TF k p q L D X wd N) (i : Nat) : 1 ≤ prodL (D.drop (i + 1)) ∧ prodL (D.drop (i + 1)) ≤ 4096 := by
  have h1 := prodL_pos (D := D.drop (i + 1)) (fun d hd => h.dim d (List.mem_of_mem_drop hd))
  have h2 := prodL_drop_le h.dim (i + 1)
  have h3 := h.pr
  have h4 := h.n1
  omega
theorem TF.paC {k p q : Int} {L D X : List Int} {wd N : Nat} (h : TF k p q L D X wd N) (c : Int → Option Int) : PA (restA c (axesL L D)) := by
  have hl := h.ax.2.1
  refine ⟨?_, fun a ha => ?_, fun a ha => ?_, ?_⟩
  · refine Nat.le_trans (List.length_filter_le _ _) ?_
    rw [axesL_len]; have := h.ax.1; omega
  · obtain ⟨i, hi, rfl⟩ := axesL_mem (List.mem_filter.1 ha).1
    show 1 ≤ D.getD i 0 ∧ D.getD i 0 ≤ 8
    rw [List.getD_eq_getElem?_getD, List.getElem?_eq_getElem (show i < D.length by omega)]
    exact h.ax.2.2.2.1 _ (List.getElem_mem _)
  · obtain ⟨i, hi, rfl⟩ := axesL_mem (List.mem_filter.1 ha).1
    have := h.strides i
    dsimp only
    omega
  · rw [(rest_axes c L D hl).2]
    have h1 := prodL_subD (fixD_sub (c := c) hl) h.dim
    have h3 := h.pr
    have h4 := h.n1
    omega
theorem restA_none {c : Int → Option Int} {AX : List AxE} {j : Nat} {n d s : Int} (h : AX[j]? = some (n, d, s)) (hc : c n = none) : restA c (AX.take (j + 1)) = restA c (AX.take j) ++ [(n, d, s)] ∧ startA c (AX.take (j + 1)) = startA c (AX.take j) := by
  rw [List.take_add_one, h]
  refine ⟨?_, ?_⟩
  · unfold restA; rw [List.filter_append]; simp [hc]
  · unfold startA; rw [List.map_append, isum_append]; simp [hc, isum]
theorem restA_some {c : Int → Option Int} {AX : List AxE} {j : Nat} {n d s v : Int} (h : AX[j]? = some (n, d, s)) (hc : c n = some v) : restA c (AX.take (j + 1)) = restA c (AX.take j) ∧ startA c (AX.take (j + 1)) = startA c (AX.take j) + v * s := by
  rw [List.take_add_one, h]
  refine ⟨?_, ?_⟩
  · unfold restA; rw [List.filter_append]; simp [hc]
  · unfold startA; rw [List.map_append, isum_append]; simp [hc, isum]
def OkTo (L D : List Int) (c : Int → Option Int) (j : Nat) : Prop := ∀ (z : Nat) (n d v : Int), z < j → L[z]? = some n → D[z]? = some d → c n = some v → 0 ≤ v ∧ v < d
theorem OkTo.step {L D : List Int} {c : Int → Option Int} {j : Nat} {n d : Int} (h : OkTo L D c j) (hn : L[j]? = some n) (hd : D[j]? = some d) (h1 : ∀ v, c n = some v → 0 ≤ v ∧ v < d) : OkTo L D c (j + 1) := by
  intro z m e v hz hm he hc
  by_cases hj : z < j
  · exact h z m e v hj hm he hc
  · obtain rfl : z = j := by omega
    rw [hn] at hm
    rw [hd] at he
    injection hm with hm
    injection he with he
    subst hm he
    exact h1 v hc
theorem OkTo.all {L D : List Int} {c : Int → Option Int} (hl : L.length = D.length) (h : OkTo L D c L.length) : OkC (L.map c) D := by
  refine ⟨by rw [List.length_map, hl], fun i v d h1 h2 => ?_⟩
  rw [List.getElem?_map] at h1
  obtain ⟨n, hn, hc⟩ := Option.map_eq_some_iff.1 h1
  exact h i n d v (List.getElem?_eq_some_iff.1 hn).1 hn h2 hc
open Classical in
noncomputable def okB (L D KL VL : List Int) : Bool := decide (OkC (L.map (cK KL VL)) D)
open Classical in
theorem okB_false {L D KL VL : List Int} (h : ¬ OkC (L.map (cK KL VL)) D) : okB L D KL VL = false := decide_eq_false h
open Classical in
theorem okB_true {L D KL VL : List Int} (h : OkC (L.map (cK KL VL)) D) : okB L D KL VL = true := decide_eq_true h
open Classical in
theorem okB_yes {L D KL VL : List Int} (h : okB L D KL VL = true) : OkC (L.map (cK KL VL)) D := of_decide_eq_true h

set_option maxHeartbeats 6400000 in
theorem cut_full {B mk ck cv : Nat} {al ad ax ak av : Option Addr} {m mx cl cd cx : Nat} {k p q : Int} {L D X KL VL : List Int} {w : World} (ht : tensorB k p q L D X = true) (hm : L.length = m) (hmk : KL.length = mk) (hmv : VL.length = mk) (hkl : mk ≤ 281474976710656) (hvI : allI VL) (h : RdT B w (.slice al m cl) (.slice ad m cd) (.slice ax mx cx) L D X) (hk : Rd B w (.slice ak mk ck) (ints KL)) (hv : Rd B w (.slice av mk cv) (ints VL)) (hB : B ≤ w.heap.size) :
    Calls Try.prog 63 #[tenV (.slice al m cl) (.slice ad m cd) (.slice ax mx cx), ringV k p q, .agg #[.slice ak mk ck, .slice av mk cv]] w (NewTen2 w (if okB L D KL VL = true then fixL (cK KL VL) L else []) (if okB L D KL VL = true then fixD (cK KL VL) L D else []) (if okB L D KL VL = true then fixX (widthI k q).toNat (cK KL VL) L D X else []) (okB L D KL VL)) := by
  have FT := TF.of ht
  obtain ⟨wd, hwd⟩ : ∃ wd, wd = (widthI k q).toNat := ⟨_, rfl⟩
  obtain ⟨N, hN⟩ : ∃ N, N = (prodL D).toNat := ⟨_, rfl⟩
  rw [← hwd, ← hN] at FT
  rw [← hwd]
  have hlD : L.length = D.length := FT.ax.2.1
  obtain ⟨c, hc⟩ : ∃ c, c = cK KL VL := ⟨_, rfl⟩
  obtain ⟨fb, hfb⟩ : ∃ b, b = okB L D KL VL := ⟨_, rfl⟩
  rw [← hfb, ← hc]
  obtain ⟨zl, hzl⟩ : ∃ l, l = (if fb = true then fixL c L else []) := ⟨_, rfl⟩
  obtain ⟨zd, hzd⟩ : ∃ l, l = (if fb = true then fixD c L D else []) := ⟨_, rfl⟩
  obtain ⟨zx, hzx⟩ : ∃ l, l = (if fb = true then fixX wd c L D X else []) := ⟨_, rfl⟩
  have HNO : Hid (fb = false → zl = [] ∧ zd = [] ∧ zx = []) := Lib.hid (fun h => by subst h; exact ⟨hzl, hzd, hzx⟩)
  have HYES : Hid (fb = true → zl = fixL c L ∧ zd = fixD c L D ∧ zx = fixX wd c L D X) := Lib.hid (fun h => by subst h; exact ⟨hzl, hzd, hzx⟩)
  rw [← hzl, ← hzd, ← hzx]
  clear hzl hzd hzx
  have HNV : Hid (∀ (z : Nat) (n d v : Int), L[z]? = some n → D[z]? = some d → c n = some v → ¬ (0 ≤ v ∧ v < d) → fb = false) := Lib.hid (fun z n d v h1 h2 h3 h4 => by
    rw [hfb]
    rw [hc] at h3
    exact okB_false (ok_not h1 h2 h3 h4))
  have HYS : Hid (OkTo L D c m → fb = true) := Lib.hid (fun h => by
    rw [hfb]
    rw [hc, ← hm] at h
    exact okB_true (h.all hlD))
  have HVI : Hid (∀ n v, c n = some v → -9223372036854775808 ≤ v ∧ v ≤ 9223372036854775807) := Lib.hid (fun n v h => by
    rw [hc] at h
    by_cases hn : n ∈ KL
    · rw [cK_some hn] at h
      injection h with h
      subst h
      have hi := List.idxOf_lt_length_iff.2 hn
      have e : VL[KL.idxOf n]? = some VL[KL.idxOf n] := List.getElem?_eq_getElem (by omega)
      rw [getD_at e]
      exact hvI _ (List.getElem_mem _)
    · rw [cK_none hn] at h; cases h)
  have R0 : Hid (Rs w ((((w.alloc (.cells #[.slice al m cl, .slice ad m cd, .slice ax mx cx] 55)).alloc (.cells #[.int .i64 k, .int .i64 p, .int .i64 q] 30)).alloc (.cells #[.slice ak mk ck, .slice av mk cv] 68)).alloc (.cells #[nilV, nilV, nilV] 55)) [(w.heap.size + 1 + 1 + 1, nilV, nilV, nilV), (w.heap.size + 1, .int .i64 k, .int .i64 p, .int .i64 q), (w.heap.size, .slice al m cl, .slice ad m cd, .slice ax mx cx)] []) := by
    have h := ((((Rs.start w).box (.slice al m cl) (.slice ad m cd) (.slice ax mx cx) 55).box (.int .i64 k) (.int .i64 p) (.int .i64 q) 30).alloc (.cells #[.slice ak mk ck, .slice av mk cv] 68)).box nilV nilV nilV 55
    simp only [World.size_alloc] at h
    exact h
  have HFX : Hid (((((w.alloc (.cells #[.slice al m cl, .slice ad m cd, .slice ax mx cx] 55)).alloc (.cells #[.int .i64 k, .int .i64 p, .int .i64 q] 30)).alloc (.cells #[.slice ak mk ck, .slice av mk cv] 68)).alloc (.cells #[nilV, nilV, nilV] 55)).cell? ⟨w.heap.size + 1 + 1, 0, none⟩ = some (.slice ak mk ck) ∧ ((((w.alloc (.cells #[.slice al m cl, .slice ad m cd, .slice ax mx cx] 55)).alloc (.cells #[.int .i64 k, .int .i64 p, .int .i64 q] 30)).alloc (.cells #[.slice ak mk ck, .slice av mk cv] 68)).alloc (.cells #[nilV, nilV, nilV] 55)).cell? ⟨w.heap.size + 1 + 1, 1, none⟩ = some (.slice av mk cv)) := Lib.hid (by
    have hb : Below (w.heap.size + 1 + 1 + 1) (((w.alloc (.cells #[.slice al m cl, .slice ad m cd, .slice ax mx cx] 55)).alloc (.cells #[.int .i64 k, .int .i64 p, .int .i64 q] 30)).alloc (.cells #[.slice ak mk ck, .slice av mk cv] 68)) ((((w.alloc (.cells #[.slice al m cl, .slice ad m cd, .slice ax mx cx] 55)).alloc (.cells #[.int .i64 k, .int .i64 p, .int .i64 q] 30)).alloc (.cells #[.slice ak mk ck, .slice av mk cv] 68)).alloc (.cells #[nilV, nilV, nilV] 55)) := (Below.refl _ _).alloc (by simp) _
    exact ⟨(hb.cell (p := ⟨w.heap.size + 1 + 1, 0, none⟩) (Nat.lt_succ_self _)).trans (by simp [World.cell?_alloc_at]), (hb.cell (p := ⟨w.heap.size + 1 + 1, 1, none⟩) (Nat.lt_succ_self _)).trans (by simp [World.cell?_alloc_at])⟩)
  generalize hW : ((((w.alloc (.cells #[.slice al m cl, .slice ad m cd, .slice ax mx cx] 55)).alloc (.cells #[.int .i64 k, .int .i64 p, .int .i64 q] 30)).alloc (.cells #[.slice ak mk ck, .slice av mk cv] 68)).alloc (.cells #[nilV, nilV, nilV] 55)) = W at R0 HFX
  have HT : Hid (RdT w.heap.size w (.slice al m cl) (.slice ad m cd) (.slice ax mx cx) L D X) := Lib.hid ⟨h.l.mono hB, h.d.mono hB, h.x.mono hB⟩
  have HK : Hid (Rd w.heap.size w (.slice ak mk ck) (ints KL)) := Lib.hid (hk.mono hB)
  have HV : Hid (Rd w.heap.size w (.slice av mk cv) (ints VL)) := Lib.hid (hv.mono hB)
  have HAX := Lib.hid (axes_impl (HT.out.below R0.out.bel (Nat.le_refl _)) R0.out.bel.size (by rw [← hW]; simp) hlD FT.ax.1 FT.ax.2.2.2.1 (by have := FT.pr; have := FT.n1; omega))
  rw [← hW] at R0 HFX HAX
  have HFT := Lib.hid FT
  have HL : Hid (L.length = m ∧ D.length = m ∧ (axesL L D).length = m) := Lib.hid ⟨hm, by rw [← hlD, hm], by rw [axesL_len, hm]⟩
  have HKV : Hid (KL.length = VL.length ∧ KL.length = mk) := Lib.hid ⟨by rw [hmk, hmv], hmk⟩
  have HC := Lib.hid hc
  have h12 : m ≤ 12 := by rw [← hm]; exact FT.ax.1
  obtain ⟨i1, hi, hz0, hz1, hz2⟩ := info_parts infoAxis
  have K0 := Lib.hid hi
  have K1 := Lib.hid hz0
  have K2 := Lib.hid hz1
  have K3 := Lib.hid hz2
  obtain ⟨⟨t0, t1, t2⟩, -⟩ := R0.out.at (r := w.heap.size) (a := .slice al m cl) (b := .slice ad m cd) (c := .slice ax mx cx) (by simp)
  clear ht hm hmk hmv hvI h hk hv hB FT hwd hN hlD hc hfb hW hi hz0 hz1 hz2
  go_enter Try.func63, Try.ntmps63
  go_wp2_with fail
  refine HAX.out.mono ?_
  rintro e w2 ⟨vA, rfl, ho, hb⟩
  have RA := Lib.hid ho.rd
  have S2 := Lib.hid (R0.out.step hb)
  have FX2 : Hid (w2.cell? ⟨w.heap.size + 1 + 1, 0, none⟩ = some (.slice ak mk ck) ∧ w2.cell? ⟨w.heap.size + 1 + 1, 1, none⟩ = some (.slice av mk cv) ∧ w.heap.size + 1 + 1 + 1 < w2.heap.size) := Lib.hid (by
    refine ⟨(hb.cell (p := ⟨w.heap.size + 1 + 1, 0, none⟩) (by simp)).trans HFX.out.1, (hb.cell (p := ⟨w.heap.size + 1 + 1, 1, none⟩) (by simp)).trans HFX.out.2, ?_⟩
    have := hb.size
    simp at this
    omega)
  obtain ⟨aA, cA, rfl⟩ := RA.out.form
  rw [HL.out.2.2] at RA ⊢
  have Z0 : Hid (Ra w2 w2 [] [(nilV, restA c ((axesL L D).take 0))]) := Lib.hid (Ra.start w2).nil
  have HO0 : Hid (OkTo L D c 0) := Lib.hid (fun z n d v h => by omega)
  have hst0 : startA c ((axesL L D).take 0) = 0 := rfl
  clear ho hb HAX HFX R0 t0 t1 t2
  go_wp2
  go_loopw [8, 9, 17] (fun u sv iv wr => ∃ (j nr cr : Nat) (ga : Option Addr) (st : Int), j ≤ m ∧ iv = .int .i64 j ∧ u = .slice ga nr cr ∧ sv = .int .i64 st ∧ nr ≤ j ∧ 0 ≤ st ∧ st ≤ j * 32768 ∧ Hid (nr = (restA c ((axesL L D).take j)).length) ∧ Hid (st = startA c ((axesL L D).take j)) ∧ Hid (OkTo L D c j) ∧ Hid (Ra w2 wr [] [(.slice ga nr cr, restA c ((axesL L D).take j))])) (fun _ _ iv _ => m - (intOf iv).toNat)
  case atStart => exact ⟨0, 0, 0, none, 0, by omega, rfl, rfl, rfl, by omega, by omega, by omega, rfl, rfl, HO0, Z0⟩
  case round =>
    clear Z0 HO0 hst0
    obtain ⟨j, nr, cr, ga, st, hj, rfl, rfl, rfl, hnr, hst0, hst1, HNR, HST, HOK, HR⟩ := hrel
    have SW := Lib.hid (S2.out.step HR.out.bel)
    by_cases hlt : j < m
    · obtain ⟨n, X1⟩ : ∃ n, Hid (L[j]? = some n) := ⟨_, List.getElem?_eq_getElem (by rw [HL.out.1]; exact hlt)⟩
      obtain ⟨d, X2⟩ : ∃ d, Hid (D[j]? = some d) := ⟨_, List.getElem?_eq_getElem (by rw [HL.out.2.1]; exact hlt)⟩
      obtain ⟨s, hs⟩ : ∃ s, s = prodL (D.drop (j + 1)) := ⟨_, rfl⟩
      have hax := axesL_at X1.out X2.out
      rw [← hs] at hax
      have HAX := Lib.hid hax
      have hsb : 1 ≤ s ∧ s ≤ 4096 := by rw [hs]; exact HFT.out.strides j
      have hdb : 1 ≤ d ∧ d ≤ 8 := HFT.out.ax.2.2.2.1 d (List.mem_of_getElem? X2.out)
      obtain ⟨bA, offA, rfl, -, a1, a2, a3⟩ := (RA.out.below HR.out.bel (Nat.le_refl _)).at hax
      dsimp only at a1 a2 a3
      have R1 := Lib.hid (HR.out.box (.int .i64 n) (.int .i64 d) (.int .i64 s) 111)
      have e0 : (wr.alloc (.cells #[.int .i64 n, .int .i64 d, .int .i64 s] 111)).cell? ⟨w.heap.size + 1 + 1, 0, none⟩ = some (.slice ak mk ck) := (R1.out.bel.cell (p := ⟨w.heap.size + 1 + 1, 0, none⟩) (by have := FX2.out.2.2; show w.heap.size + 1 + 1 < _; omega)).trans FX2.out.1
      have e1 : (wr.alloc (.cells #[.int .i64 n, .int .i64 d, .int .i64 s] 111)).cell? ⟨w.heap.size + 1 + 1, 1, none⟩ = some (.slice av mk cv) := (R1.out.bel.cell (p := ⟨w.heap.size + 1 + 1, 1, none⟩) (by have := FX2.out.2.2; show w.heap.size + 1 + 1 < _; omega)).trans FX2.out.2.1
      have SW1 := S2.out.step R1.out.bel
      have HFD := Lib.hid (find_int n (HK.out.below SW1.bel (Nat.le_refl _)) (HV.out.below SW1.bel (Nat.le_refl _)) SW1.bel.size HKV.out.1 (by rw [HKV.out.2]; exact hkl))
      rw [← HC.out] at HFD
      clear hax hs SW1
      obtain ⟨on, hon⟩ : ∃ x, x = c n := ⟨_, rfl⟩
      rw [← hon] at HFD
      go_wp2_with fail
      refine HFD.out.mono ?_
      rintro e w3 ⟨rfl, hb⟩
      have R2 := Lib.hid (R1.out.step hb)
      have SW2 := Lib.hid (S2.out.step R2.out.bel)
      clear hb HFD e0 e1 a1 a2 a3 R1 HR SW
      obtain ⟨⟨b0, b1, b2⟩, -⟩ := R2.out.at (r := wr.heap.size) (a := .int .i64 n) (b := .int .i64 d) (c := .int .i64 s) (by simp)
      cases on with
      | none =>
        have hrs := restA_none HAX.out hon.symm
        have HOK2 := Lib.hid (HOK.out.step X1.out X2.out (fun v h => by rw [← hon] at h; cases h))
        have HSS : Hid (st = startA c ((axesL L D).take (j + 1))) := Lib.hid (by rw [hrs.2]; exact HST.out)
        have HRS := Lib.hid hrs.1
        have A1 := Lib.hid (R2.out.alloc (.cells #[.int .i64 n, .int .i64 d, .int .i64 s] 111))
        have O1 := Lib.hid (A1.out.row (v := .slice ga nr cr) (AX := restA c ((axesL L D).take j)) (by simp) HNR.out.symm : World.ownsRow _ w2.heap.size _ 3 (.slice ga nr cr) nr _)
        clear hrs hon
        go_wp2_with (at_builtin; go_must (refine wpList_append_lies _ rfl _ _ 108 rfl w2.heap.size 111 i1 (.agg #[.int .i64 0, .int .i64 0, .int .i64 0]) 3 24 Try.underlying108 K0.out K1.out K2.out K3.out rfl (by decide) _ nr _ rfl O1.out ⟨w3.heap.size, 0, none⟩ 1 1 [.int .i64 n, .int .i64 d, .int .i64 s] rfl rfl (cell3_at _ _ _ _ rfl) ?c2 (by decide) ?c3 ?c4 ?c5 _ rfl ?_))
        case c2 => first | rfl | (intro u hu; simp at hu; rcases hu with rfl | rfl | rfl <;> rfl)
        case c3 => unfold maxLen; omega
        case c4 => omega
        case c5 => exact A1.out.bel.size
        intro g1 cap1 w4 hown hgrow hl1 _
        have R3 := Lib.hid ((A1.out.app (x := (n, d, s)) (n := nr) HNR.out.symm hown hgrow (by simp only [World.size_alloc] at hl1 ⊢; exact hl1)).subB (bs' := []) (List.nil_sublist _))
        rw [← HRS.out] at R3
        have HNR2 : Hid (nr + 1 = (restA c ((axesL L D).take (j + 1))).length) := Lib.hid (by rw [HRS.out, List.length_append, ← HNR.out]; rfl)
        clear hown hgrow hl1 O1 A1 R2 b0 b1 b2
        go_wp2
        go_roundw
        case rel => exact ⟨j + 1, nr + 1, cap1, some ⟨g1, 0, none⟩, st, by omega, by go_num, rfl, rfl, by omega, by omega, by omega, HNR2, HSS, HOK2, R3⟩
        case measure => simp [intOf]; omega
      | some v =>
        have hvi := HVI.out n v hon.symm
        by_cases hin : 0 ≤ v ∧ v < d
        case neg =>
          obtain rfl : fb = false := HNV.out j n d v X1.out X2.out hon.symm hin
          obtain ⟨rfl, rfl, rfl⟩ := HNO.out (by simp)
          obtain ⟨⟨o0, o1, o2⟩, f0, f1, f2⟩ := SW2.out.at (r := w.heap.size + 1 + 1 + 1) (a := nilV) (b := nilV) (c := nilV) (by simp)
          clear hon
          by_cases hv0 : v < 0
          · have q1 : decide (v < 0) = true := by simpa using hv0
            go_wp2
            refine bodyPost_ret (v := .tuple #[tenV nilV nilV nilV, .bool false]) (by simp [results, Try.results63, go_sem, o0, o1, o2]) rfl ?_
            exact NewTen2.nils (((SW2.out.bel.setCell (by simp; omega) _).setCell (by simp; omega) _).setCell (by simp; omega) _)
          · have q1 : decide (v < 0) = false := by simpa using hv0
            have q2 : decide (d ≤ v) = true := by simp; omega
            go_wp2
            refine bodyPost_ret (v := .tuple #[tenV nilV nilV nilV, .bool false]) (by simp [results, Try.results63, go_sem, o0, o1, o2]) rfl ?_
            exact NewTen2.nils (((SW2.out.bel.setCell (by simp; omega) _).setCell (by simp; omega) _).setCell (by simp; omega) _)
        have hrs := restA_some HAX.out hon.symm
        have HOK2 := Lib.hid (HOK.out.step X1.out X2.out (fun u h => by rw [← hon] at h; injection h with h; subst h; exact hin))
        have q1 : decide (v < 0) = false := by simp; omega
        have q2 : decide (d ≤ v) = false := by simp; omega
        have hvs : 0 ≤ v * s ∧ v * s ≤ 32768 := by
          have h1 := Int.mul_le_mul (show v ≤ 8 by omega) hsb.2 (by omega) (by omega)
          have h2 := Int.mul_nonneg hin.1 (show 0 ≤ s by omega)
          omega
        have HSS : Hid (st + v * s = startA c ((axesL L D).take (j + 1))) := Lib.hid (by rw [hrs.2, ← HST.out])
        have HNR2 : Hid (nr = (restA c ((axesL L D).take (j + 1))).length) := Lib.hid (by rw [hrs.1]; exact HNR.out)
        have R3 : Hid (Ra w2 w3 [] [(.slice ga nr cr, restA c ((axesL L D).take (j + 1)))]) := Lib.hid (by rw [hrs.1]; exact R2.out.subB (List.nil_sublist _))
        have w1' : wrap64 (v * s) = v * s := by unfold wrap64; omega
        have w2' : wrap64 (st + v * s) = st + v * s := by unfold wrap64; omega
        clear hrs hon hin R2
        go_wp2
        go_roundw
        case rel => exact ⟨j + 1, nr, cr, ga, st + v * s, by omega, by go_num, rfl, rfl, by omega, by omega, by omega, HNR2, HSS, HOK2, R3⟩
        case measure => simp [intOf]; omega
    · obtain rfl : m = j := by omega
      have E1 : Hid ((axesL L D).take m = axesL L D) := Lib.hid (List.take_of_length_le (by rw [HL.out.2.2]; exact Nat.le_refl _))
      rw [E1.out] at HR HST
      obtain rfl : fb = true := HYS.out HOK.out
      have HY3 := Lib.hid (HYES.out (by simp))
      have hl := HFT.out.ax.2.1
      have hok : OkC (L.map c) D := OkTo.all hl (by rw [HL.out.1]; exact HOK.out)
      have hoff : ∀ o ∈ offsA (restA c (axesL L D)), 0 ≤ st + o ∧ st + o ≤ 4096 ∧ (st + o).toNat * wd + wd ≤ X.length := fun o ho => by
        have h1 := offs_fix hl hok HFT.out.dim o ho
        rw [← HST.out] at h1
        have h2 := HFT.out.pr
        have h3 := HFT.out.n1
        exact ⟨h1.1, by omega, HFT.out.room _ (by omega)⟩
      have hpd : prodL (dimsA (restA c (axesL L D))) ≤ 4096 := by
        rw [(rest_axes c L D hl).2]
        have h1 := prodL_subD (fixD_sub (c := c) hl) HFT.out.dim
        have h2 := HFT.out.pr
        have h3 := HFT.out.n1
        omega
      have HAL := Lib.hid (along_impl (k := k) (p := p) st (HFT.out.paC c) hpd HFT.out.hw HFT.out.w6.1 HFT.out.w6.2 hoff (HT.out.below SW.out.bel (Nat.le_refl _)) (HR.out.rd (v := .slice ga nr cr) (AX := restA c (axesL L D)) (by simp)) SW.out.bel.size (Nat.le_refl _))
      rw [show labA (restA c (axesL L D)) = fixL c L from (rest_axes c L D hl).1, (rest_axes c L D hl).2, show alongL wd X st (offsA (restA c (axesL L D))) (offsA (restA c (axesL L D))).length = fixX wd c L D X from by unfold alongL; rw [List.take_of_length_le (Nat.le_refl _), HST.out]; exact fixX_offs hl HFT.out.dim, ← HY3.out.1, ← HY3.out.2.1, ← HY3.out.2.2] at HAL
      obtain ⟨⟨t0, t1, t2⟩, -⟩ := SW.out.at (r := w.heap.size) (a := .slice al m cl) (b := .slice ad m cd) (c := .slice ax mx cx) (by simp)
      obtain ⟨⟨r0, r1, r2⟩, -⟩ := SW.out.at (r := w.heap.size + 1) (a := .int .i64 k) (b := .int .i64 p) (c := .int .i64 q) (by simp)
      have HR3 : Hid (w2.heap.size ≤ wr.heap.size) := Lib.hid HR.out.bel.size
      clear HOK HR hoff hpd hok hl HST HNR
      go_wp2_with fail
      refine HAL.out.mono ?_
      rintro e w5 ⟨v1, v2, v3, rfl, ho, hb⟩
      obtain ⟨b1, n1, d1, rfl⟩ := (show Own _ _ _ v1 zl from ho.1 (v1, zl) (by simp)).slice
      obtain ⟨b2, n2, d2, rfl⟩ := (show Own _ _ _ v2 zd from ho.1 (v2, zd) (by simp)).slice
      obtain ⟨b3, n3, d3, rfl⟩ := (show Own _ _ _ v3 zx from ho.1 (v3, zx) (by simp)).slice
      have S5 := Lib.hid (SW.out.step hb)
      have R5 := Lib.hid ((Rs.start wr).new3 hb ho)
      obtain ⟨⟨t0, t1, t2⟩, f0, f1, f2⟩ := S5.out.at (r := w.heap.size + 1 + 1 + 1) (a := nilV) (b := nilV) (c := nilV) (by simp)
      clear ho hb HAL r0 r1 r2
      go_wp2
      refine bodyPost_ret (v := .tuple #[tenV (.slice b1 n1 d1) (.slice b2 n2 d2) (.slice b3 n3 d3), .bool true]) (by simp [results, Try.results63, go_sem, t0, t1, t2]) rfl ?_
      have hwlr : w.heap.size + 1 + 1 + 1 < wr.heap.size := by have := HR3.out; have := FX2.out.2.2; omega
      have h2 := (R5.out.ownG.set3 (r := w.heap.size + 1 + 1 + 1) hwlr (.slice b1 n1 d1) (.slice b2 n2 d2) (.slice b3 n3 d3))
      refine ⟨_, _, _, rfl, OwnG.wide h2 (by omega) (by simp) (Nat.le_refl _), ?_⟩
      have hz : w.heap.size ≤ w.heap.size + 1 + 1 + 1 := by omega
      exact (((S5.out.bel.setCell (p := ⟨w.heap.size + 1 + 1 + 1, 0, none⟩) hz _).setCell (p := ⟨w.heap.size + 1 + 1 + 1, 1, none⟩) hz _).setCell (p := ⟨w.heap.size + 1 + 1 + 1, 2, none⟩) hz _)
theorem cut_impl {B B' : Nat} {lv dv xv kv vv : Value} {k p q : Int} {L D X KL VL : List Int} {w : World} (ht : tensorB k p q L D X = true) (hKV : KL.length = VL.length) (hkl : KL.length ≤ 281474976710656) (hvI : allI VL) (h : RdT B w lv dv xv L D X) (hk : Rd B' w kv (ints KL)) (hv : Rd B' w vv (ints VL)) (hB : B ≤ w.heap.size) (hB' : B' ≤ w.heap.size) :
    Calls Try.prog 63 #[tenV lv dv xv, ringV k p q, .agg #[kv, vv]] w (NewTen2 w (if okB L D KL VL = true then fixL (cK KL VL) L else []) (if okB L D KL VL = true then fixD (cK KL VL) L D else []) (if okB L D KL VL = true then fixX (widthI k q).toNat (cK KL VL) L D X else []) (okB L D KL VL)) := by
  have hT : RdT w.heap.size w lv dv xv L D X := ⟨h.l.mono hB, h.d.mono hB, h.x.mono hB⟩
  have hlD := (TF.of ht).ax.2.1
  obtain ⟨al, cl, rfl, -⟩ := ints_form h.l
  obtain ⟨ad, cd, rfl, -⟩ := ints_form h.d
  obtain ⟨ax, cx, rfl, -⟩ := ints_form h.x
  obtain ⟨ak, ck, rfl, -⟩ := ints_form hk
  obtain ⟨av, cv, rfl, -⟩ := ints_form hv
  rw [← hlD] at hT ⊢
  have hv2 := hv.mono hB'
  rw [← hKV] at hv2 ⊢
  exact cut_full ht rfl rfl hKV.symm hkl hvI hT (hk.mono hB') hv2 (Nat.le_refl _)

end Go.Proofs.Ytdheakjjnaifkaa
