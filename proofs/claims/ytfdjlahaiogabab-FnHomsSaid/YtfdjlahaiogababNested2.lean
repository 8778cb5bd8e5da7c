
/- laws.toIntSS, eqIntSS, markIntSS. -/
import Derived.Test.YtfdjlahaiogababDrawn
import Derived.Deep.QuietTactic
import Derived.BigQuiet
import Derived.Deep.RegionHeld3
namespace Go.Proofs.Ytfdjlahaiogabab
set_option maxRecDepth 20000
open Go.RowKit

theorem RdRows.mono {B B' : Nat} {w : World} {v : Value} {rows : List (List Int)} (h : RdRows B w v rows) (hB : B ≤ B') : RdRows B' w v rows := by
  obtain ⟨vs, h1, h2, h3⟩ := h
  exact ⟨vs, h1.mono hB, h2, fun i hi => let ⟨u, e, hu⟩ := h3 i hi; ⟨u, e, hu.mono hB⟩⟩
theorem OwnRows.hi {w : World} {lo hi : Nat} {v : Value} {rows : List (List Int)} (h : OwnRows w lo hi v rows) : hi ≤ w.heap.size := by
  obtain ⟨vs, β, h1, h2, h3, h4, h5, h6, h7⟩ := h
  exact h6
theorem rows_form {B : Nat} {v : Value} {rows : List (List Int)} {w : World} (h : RdRows B w v rows) : ∃ a cap, v = .slice a rows.length cap ∧
    ∀ i (h : i < rows.length), ∃ b off u, a = some ⟨b, off, none⟩ ∧ b < B ∧ w.cell? ⟨b, off + i, none⟩ = some u ∧ Rd B w u (ints rows[i]) := by
  obtain ⟨vs, h1, h2, h3⟩ := h
  rcases h1 with ⟨rfl, a, cap, rfl⟩ | ⟨b, off, cap, rfl, hb, hc, hcell⟩
  · refine ⟨a, cap, by rw [← h2]; rfl, fun i hi => ?_⟩
    rw [← h2] at hi; simp at hi
  · refine ⟨_, cap, by rw [h2], fun i hi => ?_⟩
    obtain ⟨u, hu, hrd⟩ := h3 i hi
    exact ⟨b, off, u, rfl, hb, hcell i u hu, hrd⟩
/-- One row, as a round of a loop over rows meets it. -/
theorem row_take {B : Nat} {a : Option Addr} {rows : List (List Int)} {w : World} {n j : Nat} (hn : n = rows.length) (h : Hid (∀ i (h : i < rows.length), ∃ b off u, a = some ⟨b, off, none⟩ ∧ b < B ∧ w.cell? ⟨b, off + i, none⟩ = some u ∧ Rd B w u (ints rows[i]))) (hj : j < n) :
    ∃ xs b off au len cu, rows[j]? = some xs ∧ len = xs.length ∧ a = some ⟨b, off, none⟩ ∧ b < B ∧ w.cell? ⟨b, off + j, none⟩ = some (.slice au len cu) ∧ Rd B w (.slice au len cu) (ints xs) := by
  obtain ⟨b, off, u, ha, hb, hc, hrd⟩ := h.out j (by omega)
  obtain ⟨au, cu, rfl, -⟩ := ints_form hrd
  exact ⟨rows[j]'(by omega), b, off, au, _, cu, List.getElem?_eq_getElem _, rfl, ha, hb, hc, hrd⟩

theorem Rd.heap {B : Nat} {w w1 : World} {v : Value} {xs : List Value} (h : Rd B w v xs) (hh : w1.heap = w.heap) : Rd B w1 v xs := by
  rcases h with h | ⟨b, off, cap, hv, hlt, hcp, hc⟩
  · exact .inl h
  · exact .inr ⟨b, off, cap, hv, hlt, hcp, fun i u hi => (World.cell?_of_block (w := w) (by rw [hh])).trans (hc i u hi)⟩
theorem eq_ints_heap {B B' : Nat} {va vb : Value} {xs : List Int} {w : World} (w1 : World) (ha : Rd B w va (ints xs)) (hb : Rd B' w vb (ints xs)) (hn : xs.length ≤ 281474976710656) (hh : w1.heap = w.heap) :
    Calls Try.prog 28 #[va, vb] w1 fun e w' => e = .returned (.bool true) ∧ ∃ q, w' = w1.drewN q :=
  (eq_ints (ha.heap hh) (hb.heap hh) hn).mono fun _ _ ⟨h1, h2⟩ => ⟨h1.trans (by rw [decide_eq_true rfl]), h2⟩
set_option maxHeartbeats 800000 in
theorem eq_nested {B B' : Nat} {va vb : Value} {rows : List (List Int)} {w : World} (ha : RdRows B w va rows) (hb : RdRows B' w vb rows) (hn : rows.length ≤ 281474976710656) (hlen : ∀ xs ∈ rows, xs.length ≤ 281474976710656) :
    Calls Try.prog 61 #[va, vb] w fun e w' => e = .returned (.bool true) ∧ Below w.heap.size w w' := by
  obtain ⟨a, ca, rfl, hca⟩ := rows_form ha
  obtain ⟨b, cb, rfl, hcb⟩ := rows_form hb
  obtain ⟨n, hnn⟩ : ∃ n, n = rows.length := ⟨_, rfl⟩
  rw [← hnn] at hn ⊢
  have HN := Lib.hid hnn
  have HA := Lib.hid hca
  have HBB := Lib.hid hcb
  have HLN := Lib.hid hlen
  clear ha hb hca hcb hlen hnn
  go_enter Try.func61, Try.ntmps61
  go_wp2
  go_loopw [5] (fun i wr => ∃ j : Nat, j ≤ n ∧ i = .int .i64 j ∧ ∃ q, wr = w.drewN q) (fun i _ => n - (intOf i).toNat)
  case atStart => exact ⟨0, by omega, rfl, 0, rfl⟩
  case round =>
    obtain ⟨j, hj, rfl, q, rfl⟩ := hrel
    by_cases hlt : j < n
    · obtain ⟨xs, ba, oa, ua, la, cua, hx, hla, rfl, -, c1, r1⟩ := row_take HN.out HA hlt
      obtain ⟨ys, bb, ob, ub, lb, cub, hy, hlb, rfl, -, c2, r2⟩ := row_take HN.out HBB hlt
      obtain rfl : xs = ys := Option.some.inj (hx.symm.trans hy)
      have hl := HLN.out xs (List.mem_of_getElem? hx)
      have R1 := Lib.hid r1
      have R2 := Lib.hid r2
      have HL := Lib.hid hl
      clear hx hy hla hlb r1 r2 hl
      go_wp2
      go_region_held3 (fun w' => w'.cell? ⟨ba, oa + j, none⟩ = some (.slice ua la cua) ∧ w'.cell? ⟨bb, ob + j, none⟩ = some (.slice ub lb cub)) (first | exact ⟨c1, c2⟩) (first | (go_at_call 28; refine (eq_ints_heap _ R1.out R2.out HL.out (by rfl)).mono ?_; rintro e w1 ⟨rfl, q1, rfl⟩))
      go_wp2
      go_roundw
      case rel => exact ⟨j + 1, by omega, by go_num, _, by first | rfl | (simp only [World.drewN_drewN]; rfl)⟩
      case measure => simp [intOf]; omega
    · obtain rfl : j = n := by omega
      go_wp2
      go_ret
      exact ⟨rfl, below_drewN (Below.refl _ _) q⟩

set_option maxHeartbeats 1600000 in
theorem to_nested {B : Nat} {v : Value} {rows : List (List Int)} {w : World} (h : RdRows B w v rows) (hB : B ≤ w.heap.size) (hn : rows.length ≤ 1048576) (hlen : ∀ xs ∈ rows, xs.length ≤ 17592186044416) :
    Calls Try.prog 59 #[v] w (NewRows w rows) := by
  obtain ⟨a, ca, rfl, hca⟩ := rows_form h
  obtain ⟨n, hnn⟩ : ∃ n, n = rows.length := ⟨_, rfl⟩
  rw [← hnn] at hn ⊢
  have HN := Lib.hid hnn
  have HA := Lib.hid hca
  have HLN := Lib.hid hlen
  clear h hca hlen hnn
  obtain ⟨i0, hi, hz0, hz1, hz2⟩ := info_parts infoRow
  go_enter Try.func59, Try.ntmps59
  go_wp2_with (at_make; refine wpList_make_full _ rfl _ _ 72 rfl w.heap.size 24 i0 (.slice none 0 0) 1 Try.underlying72 hi hz0 hz1 .i64 .i64 _ _ n rfl rfl rfl rfl (by rw [hz2]; omega) (by unfold maxLen; omega) (by simp) ?_; intro w1 hown hgrow)
  have OW := Lib.hid hown
  have hb1 := (Below.refl w.heap.size w).grown hgrow (Nat.le_refl _) (fun j hj => by cases hj)
  have hz := (hown.lt w.heap.size rfl).2
  have HB := Lib.hid hb1
  clear hown hgrow hb1 hi hz0 hz1 hz2
  go_loopw [4] (fun i wr => ∃ (k : Nat) (cs : List Value) (β : Nat → Nat), k ≤ n ∧ i = .int .i64 k ∧ Hid (wr.ownsRow w.heap.size 24 1 (.slice (some ⟨w.heap.size, 0, none⟩) n n) n cs) ∧ Hid (w.heap.size < β 0 ∧ (∀ i j, i ≤ j → β i ≤ β j) ∧ (∀ i, k ≤ i → β i = wr.heap.size) ∧ ∀ i (h : i < rows.length), i < k → ∃ u, cs[i]? = some u ∧ Own wr (β i) (β (i + 1)) u rows[i]) ∧ Hid (Below w.heap.size w wr)) (fun i _ => n - (intOf i).toNat)
  case atStart => exact ⟨0, _, fun _ => w1.heap.size, by omega, rfl, OW, ⟨hz, fun _ _ _ => Nat.le_refl _, fun _ _ => rfl, fun i _ h => by omega⟩, HB⟩
  case round =>
    clear OW HB hz
    obtain ⟨k, cs, β, hk, rfl, HO, HC, HBW⟩ := hrel
    by_cases hlt : k < n
    · obtain ⟨xs, b, off, au, len, cu, hx, hle, rfl, hbB, c1, r1⟩ := row_take HN.out HA hlt
      have c2 : wr.cell? ⟨b, off + k, none⟩ = some (.slice au len cu) := (HBW.out.cell (p := ⟨b, off + k, none⟩) (by simpa using Nat.lt_of_lt_of_le hbB hB)).trans c1
      have R1 := Lib.hid (r1.below HBW.out hB)
      have HX := Lib.hid hx
      have HL := Lib.hid (HLN.out xs (List.mem_of_getElem? hx))
      have HZ := Lib.hid (Nat.le_trans hB HBW.out.size)
      clear c1 r1 hx hle hbB
      go_wp2_with fail
      refine (to_row R1.out HZ.out HL.out).mono ?_
      rintro e w2 ⟨v2, rfl, ho2, hb2⟩
      obtain ⟨a2, cc2, rfl, -⟩ := ints_form ho2.rd
      obtain ⟨l2, hl2⟩ : ∃ l2, l2 = xs.length := ⟨_, rfl⟩
      rw [← hl2] at ho2 ⊢
      obtain ⟨v2, hv2⟩ : ∃ v2, v2 = Value.slice a2 l2 cc2 := ⟨_, rfl⟩
      rw [← hv2] at ho2
      have HV2 := Lib.hid hv2
      have hgrow2 := hb2.size
      have HO2 := Lib.hid (HO.out.kept (row := none) ⟨hb2.os, hb2.tape, hb2.output, hb2.size, fun j hj _ => hb2.block j hj⟩ (.inr (by simp [Value.ownBlock])))
      have clen : cs.length = n := by have := HO.out.1; omega
      have c3 : w2.cell? ⟨w.heap.size, k, none⟩ = some (cs[k]'(by omega)) := by
        rw [HO2.out.cellAt k (by omega)]; exact List.getElem?_eq_getElem _
      have f3 := HO2.out.frozenAt k
      have HG := (HO2.out.lt w.heap.size rfl).2
      have ST := Lib.hid (HO2.out.stored k v2)
      have KO : Hid (KeptOut w2 (w2.setCell ⟨w.heap.size, k, none⟩ v2) w.heap.size (w.heap.size + 1)) := Lib.hid (KeptOut.of ST.out.2 (fun g hg => by cases hg; omega))
      have HB2 := Lib.hid (HBW.out.trans (hb2.mono HBW.out.size))
      have NEW : Hid (w.heap.size < (fun i => if i ≤ k then β i else w2.heap.size) 0 ∧ (∀ i j, i ≤ j → (fun i => if i ≤ k then β i else w2.heap.size) i ≤ (fun i => if i ≤ k then β i else w2.heap.size) j) ∧ (∀ i, k + 1 ≤ i → (fun i => if i ≤ k then β i else w2.heap.size) i = (w2.setCell ⟨w.heap.size, k, none⟩ v2).heap.size) ∧ ∀ i (h : i < rows.length), i < k + 1 → ∃ u, (cs.set k v2)[i]? = some u ∧ Own (w2.setCell ⟨w.heap.size, k, none⟩ v2) ((fun i => if i ≤ k then β i else w2.heap.size) i) ((fun i => if i ≤ k then β i else w2.heap.size) (i + 1)) u rows[i]) := by
        obtain ⟨n1, n2, n3, n4⟩ := HC.out
        have n5 := n3 k (Nat.le_refl _)
        refine ⟨by simpa using n1, fun i j hij => ?_, fun i hi => ?_, fun i hi hik => ?_⟩
        · have h1 := n2 i j hij
          have h2 := n2 i (max i k) (by omega)
          have h3 := n3 (max i k) (by omega)
          by_cases e1 : i ≤ k
          · by_cases e2 : j ≤ k
            · simp only [e1, e2, if_true]; exact h1
            · simp only [e1, e2, if_true, if_false]; omega
          · simp only [e1, if_false, show ¬ j ≤ k from by omega]; omega
        · simp only [show ¬ i ≤ k from by omega, if_false]; simp
        · by_cases e1 : i = k
          · subst e1
            refine ⟨v2, List.getElem?_set_self (by omega), ?_⟩
            simp only [Nat.le_refl, if_true, show ¬ i + 1 ≤ i from by omega, if_false]
            have hxs : rows[i] = xs := (List.getElem?_eq_some_iff.1 HX.out).2
            rw [hxs, n5]
            exact KO.out.own ho2 (.inr (by have := HG; have := (HO.out.lt w.heap.size rfl).2; omega))
          · obtain ⟨u, hu, how⟩ := n4 i hi (by omega)
            refine ⟨u, by rw [List.getElem?_set_ne (by omega)]; exact hu, ?_⟩
            simp only [show i ≤ k from by omega, show i + 1 ≤ k from by omega, if_true]
            have h1 := n2 0 i (Nat.zero_le _)
            exact KO.out.own (how.below hb2 (Nat.le_refl _)) (.inr (by omega))
      have HB3 : Hid (Below w.heap.size w (w2.setCell ⟨w.heap.size, k, none⟩ v2)) := Lib.hid (HB2.out.setCell (Nat.le_refl _) _)
      have ST1 := Lib.hid ST.out.1
      rw [HV2.out] at ST1 NEW HB3
      clear ho2 hb2 HG ST KO HO2 hl2 hv2 HV2
      go_wp2
      go_roundw
      case rel => exact ⟨k + 1, cs.set k (.slice a2 l2 cc2), (fun i => if i ≤ k then β i else w2.heap.size), by omega, by go_num, ST1.out, NEW, HB3⟩
      case measure => simp [intOf]; omega
    · obtain rfl : k = n := by omega
      go_wp2
      go_ret
      obtain ⟨n1, n2, n3, n4⟩ := HC.out
      have hl : rows.length = k := HN.out.symm
      refine ⟨_, rfl, ⟨cs, β, ?_, by rw [hl]; exact HO.out, fun g hg => by cases hg; exact n1, n2, by rw [hl, n3 k (Nat.le_refl _)]; exact Nat.le_refl _, Nat.le_refl _, Nat.le_of_lt n1, fun i hi => n4 i hi (by omega)⟩, HBW.out⟩
      have := HO.out.1
      omega

/-- What marking rows answers. -/
def MarkPost (s lo hi : Nat) (rows : List (List Int)) (w : World) (e : Ending) (w' : World) : Prop := e = .returned (.int .i64 ((s + totL rows : Nat) : Int)) ∧ KeptOut w w' lo hi
set_option maxHeartbeats 1600000 in
theorem mark_nested {lo hi : Nat} {v : Value} {rows : List (List Int)} {w : World} {z : Int} (s : Nat) (hz : z = (s : Int)) (h : OwnRows w lo hi v rows) (hn : rows.length ≤ 1048576) (ht : totL rows ≤ 1048576) (hs : s ≤ 1073741824) :
    Calls Try.prog 62 #[v, .int .i64 z] w (MarkPost s lo hi rows w) := by
  subst hz
  obtain ⟨vs, β, h1, h2, h3, h4, h5, h6, h7, h8⟩ := h
  have hsl : ∃ a cap, v = .slice a rows.length cap ∧ ∀ i u, vs[i]? = some u → ∃ g, a = some ⟨g, 0, none⟩ ∧ w.cell? ⟨g, i, none⟩ = some u ∧ g < β 0 ∧ g < w.heap.size := by
    rcases h2.2 with ⟨rfl, hn0⟩ | ⟨g, cap, cur, rfl, -⟩
    · exact ⟨none, 0, by rw [hn0], fun i u hi => by
        have := (List.getElem?_eq_some_iff.1 hi).1
        omega⟩
    · refine ⟨_, cap, rfl, fun i u hi => ⟨g, rfl, ?_, h3 g rfl, (h2.lt g rfl).2⟩⟩
      have := (List.getElem?_eq_some_iff.1 hi).1
      rw [h2.cellAt i (by omega)]
      exact hi
  obtain ⟨a, cap, rfl, hcl⟩ := hsl
  obtain ⟨n, hnn⟩ : ∃ n, n = rows.length := ⟨_, rfl⟩
  rw [← hnn] at hn ⊢
  have HN := Lib.hid hnn
  have HCL := Lib.hid hcl
  have H4 := Lib.hid h4
  have H5 := Lib.hid (⟨h5, h6, h7⟩ : β rows.length ≤ hi ∧ hi ≤ w.heap.size ∧ lo ≤ β 0)
  have H8 := Lib.hid h8
  clear h1 h2 h3 h4 h5 h6 h7 h8 hcl hnn
  go_enter Try.func62, Try.ntmps62
  go_wp2
  go_loopw [1, 5] (fun q i wr => ∃ (j k : Nat), j ≤ n ∧ i = .int .i64 j ∧ q = .int .i64 (k : Int) ∧ k ≤ 1074790400 ∧ Hid (k = s + totL (rows.take j)) ∧ Hid (KeptOut w wr (β 0) (β j))) (fun _ i _ => n - (intOf i).toNat)
  case atStart => exact ⟨0, s, by omega, rfl, rfl, by omega, by show s = s + totL (rows.take 0); simp [totL], KeptOut.refl _ _ _⟩
  case round =>
    obtain ⟨j, k, hj, rfl, rfl, hk, HS, HK⟩ := hrel
    by_cases hlt : j < n
    · have hj2 : j < rows.length := by rw [← HN.out]; exact hlt
      obtain ⟨u, hu, how⟩ := H8.out j hj2
      obtain ⟨g, rfl, c1, hg, hg2⟩ := HCL.out j u hu
      obtain ⟨xs, hxs⟩ : ∃ xs, xs = rows[j] := ⟨_, rfl⟩
      rw [← hxs] at how
      have hget : rows[j]? = some xs := by rw [hxs]; exact List.getElem?_eq_getElem _
      obtain ⟨au, cu, rfl, -⟩ := ints_form how.rd
      obtain ⟨len, hlen⟩ : ∃ len, len = xs.length := ⟨_, rfl⟩
      rw [← hlen] at how c1 hu
      have htl := tot_at hget
      have htt := tot_step hget
      have htm := tot_le rows (j + 1)
      have hm1 := H4.out 0 j (Nat.zero_le _)
      have hm2 := H4.out j (j + 1) (by omega)
      have c2 : wr.cell? ⟨g, 0 + j, none⟩ = some (.slice au len cu) := by rw [Nat.zero_add]; exact HK.out.cell c1 hg2 (.inl hg)
      have OWN := Lib.hid (HK.out.own how (.inr (Nat.le_refl _)))
      obtain ⟨k2, hk2⟩ : ∃ k2, k2 = k + xs.length := ⟨_, rfl⟩
      have hk2b : k2 ≤ 1074790400 := by have := HS.out; omega
      have HK2 := Lib.hid hk2
      have HXL := Lib.hid (show xs.length ≤ 4611686018427387904 by omega)
      have HTT := Lib.hid htt
      have HM := Lib.hid (⟨hm1, hm2⟩ : _ ∧ _)
      rw [Nat.zero_add] at c2
      clear how hu c1 hget hxs hlen htl htt htm hm1 hm2 hk2
      go_wp2_with fail
      refine (marks_from k rfl OWN.out HXL.out (by omega)).mono ?_
      rw [← HK2.out]
      rintro e w2 ⟨rfl, ho, hgb⟩
      have KO : Hid (KeptOut w w2 (β 0) (β (j + 1))) := Lib.hid ((HK.out.wide (Nat.le_refl _) HM.out.2).trans ((KeptOut.of hgb (fun g hg => ⟨OWN.out.lo g hg, OWN.out.2.1 g hg⟩)).wide HM.out.1 (Nat.le_refl _)))
      clear ho hgb
      go_wp2
      go_roundw
      case rel => exact ⟨j + 1, k2, by omega, by go_num, rfl, hk2b, by show _ = _; rw [HTT.out, HK2.out, HS.out]; omega, KO⟩
      case measure => simp [intOf]; omega
    · obtain rfl : j = n := by omega
      have HF := Lib.hid (show s + totL rows = k by rw [HS.out, tot_all (by rw [← HN.out]; exact Nat.le_refl _)])
      go_wp2
      go_ret
      exact ⟨by rw [HF.out]; rfl, HK.out.wide H5.out.2.2 (by rw [HN.out]; exact H5.out.1)⟩
end Go.Proofs.Ytfdjlahaiogabab
