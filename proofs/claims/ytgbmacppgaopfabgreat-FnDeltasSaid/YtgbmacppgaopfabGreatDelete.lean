
/- slices.Delete at axes, of one axis. -/
import Derived.Test.YtgbmacppgaopfabGreatJoinImpl
import Derived.Deep.RegionLaw
import Derived.Laws.IdiomCopy
namespace Go.Proofs.YtgbmacppgaopfabGreat
set_option maxRecDepth 20000
open Go.RowKit

theorem grown_refl (w : World) (r : Option Nat) : w.grownBy w r := ⟨rfl, rfl, rfl, Nat.le_refl _, fun _ _ _ => rfl⟩
theorem grownBy_cells (g : Nat) : ∀ (vs : List Value) (o : Nat) (w : World), w.grownBy (w.setCells g o vs) (some g) := by
  intro vs
  induction vs with
  | nil => intro o w; exact grown_refl w _
  | cons v vs ih => intro o w; exact (grownBy_set w g o v).trans (ih (o + 1) _)
/-- 'clear' of one axis. -/
theorem run_clear_axis (w : World) (ty : TypeId) (b o c : Nat) (hc : ∀ j, j < 3 → (w.cell? ⟨b, o + j, none⟩).isSome = true) (hf : ∀ j, j < 3 → w.frozen? ⟨b, o + j, none⟩ = false) :
    (Builtin.clear_ #[83] ty #[.slice (some ⟨b, o, none⟩) 1 c]).run Tryz.prog w = .ok (.tuple #[]) (w.setCells b o [.int .i64 0, .int .i64 0, .int .i64 0]) := by
  have hst := run_storeCells_cells (P := Tryz.prog) b o [.int .i64 0, .int .i64 0, .int .i64 0] 0 w (by simpa using hc) (by simpa using hf) (by intro v hv'; simp at hv'; subst hv'; rfl)
  simp only [Nat.add_zero] at hst
  have hz := Tryz.zeroValue85
  have hzc : (Builtin.zeroCells (Value.agg #[.int .i64 0, .int .i64 0, .int .i64 0]).cells 1).toList = [.int .i64 0, .int .i64 0, .int .i64 0] := by kernel_rfl
  simp [Builtin.clear_, run_underlying Tryz.underlying83, hz, hzc, hst]

/-- slices.Delete of one axis. -/
theorem delete_axis {lo g m cap j j' : Nat} {AX : List AxE} {w : World} (hm : AX.length = m) (hm24 : m ≤ 24) (hj : j < m) (hj' : j' = j + 1) (hcap : m ≤ cap) (hO : w.ownsRow lo 85 3 (.slice (some ⟨g, 0, none⟩) m cap) m (cellsA AX)) :
    Calls Tryz.prog 65 #[.slice (some ⟨g, 0, none⟩) m cap, .int .i64 j, .int .i64 j'] w fun e w' => e = .returned (.slice (some ⟨g, 0, none⟩) (m - 1) cap) ∧ (∀ i (a : AxE), (AX.eraseIdx j)[i]? = some a → w'.cell? ⟨g, i * 3, none⟩ = some (.int .i64 a.1) ∧ w'.cell? ⟨g, i * 3 + 1, none⟩ = some (.int .i64 a.2.1) ∧ w'.cell? ⟨g, i * 3 + 2, none⟩ = some (.int .i64 a.2.2)) ∧ w.grownBy w' (some g) := by
  obtain ⟨i1, hi, hz0, hz1, hz2⟩ := info_parts infoAxis
  have hcl : (cellsA AX).length = m * 3 := by rw [cellsA_len, hm]
  have hcell : ∀ i, i < m * 3 → w.cell? ⟨g, i, none⟩ = (cellsA AX)[i]? := fun i hi => hO.cellAt i hi
  have hsome : ∀ i, i < m * 3 → (w.cell? ⟨g, i, none⟩).isSome = true := fun i hi => by rw [hcell i hi, List.getElem?_eq_getElem (by omega)]; rfl
  have hfr : ∀ i, w.frozen? ⟨g, i, none⟩ = false := fun i => hO.frozenAt i
  obtain ⟨news, hnews⟩ : ∃ l, l = cellsA (AX.drop (j + 1)) := ⟨_, rfl⟩
  have hnl : news.length = (m - j') * 3 := by rw [hnews, cellsA_len, List.length_drop, hm, hj']
  have hnat : ∀ t, t < news.length → news[t]? = (cellsA AX)[j' * 3 + t]? := fun t ht => by
    have e : AX = AX.take (j + 1) ++ AX.drop (j + 1) := (List.take_append_drop _ _).symm
    rw [hnews]
    conv => rhs; rw [e, cellsA_app]
    have hl : (cellsA (AX.take (j + 1))).length = j' * 3 := by rw [cellsA_len, List.length_take, hm, hj']; omega
    rw [List.getElem?_append_right (by omega), hl, Nat.add_sub_cancel_left]
  have hone : ∀ u ∈ news, u.oneCell' = true := fun u hu => by
    rw [hnews] at hu
    unfold cellsA at hu
    obtain ⟨a, -, ha⟩ := List.mem_flatMap.1 hu
    simp at ha
    rcases ha with rfl | rfl | rfl <;> rfl
  obtain ⟨A, hA, hsrc⟩ : ∃ A : Addr, (if cap = j' then some (⟨g, 0, none⟩ : Addr) else some ⟨g, j' * 3, none⟩) = some A ∧ Hid (∀ t u, news[t]? = some u → w.drew.cell? (A.add t) = some u) := by
    by_cases h : cap = j'
    · refine ⟨⟨g, 0, none⟩, by simp [h], Lib.hid fun t u hu => ?_⟩
      have h0 : news.length = 0 := by rw [hnl]; omega
      rw [List.length_eq_zero_iff.1 h0] at hu
      simp at hu
    · refine ⟨⟨g, j' * 3, none⟩, by simp [h], Lib.hid fun t u hu => ?_⟩
      have ht := (List.getElem?_eq_some_iff.1 hu).1
      have hadd : (⟨g, j' * 3, none⟩ : Addr).add t = ⟨g, j' * 3 + t, none⟩ := by unfold Addr.add; split <;> simp_all
      rw [hadd]
      rw [hnat t ht] at hu
      exact (hcell (j' * 3 + t) (by omega)).trans hu
  have s1 := Lib.hid hnl
  have s2 := Lib.hid hone
  have s3 : Hid (∀ t, t < news.length → (w.drew.cell? ⟨g, 0 + j * 3 + t, none⟩).isSome = true ∧ w.drew.frozen? ⟨g, 0 + j * 3 + t, none⟩ = false) := Lib.hid (fun t ht => by
    rw [Nat.zero_add]
    exact ⟨hsome (j * 3 + t) (by omega), hfr _⟩)
  obtain ⟨W1, hW1⟩ : ∃ W1, W1 = w.drew.setCells g (0 + j * 3) news := ⟨_, rfl⟩
  have hW : Hid (W1 = w.drew.setCells g (0 + j * 3) news) := Lib.hid hW1
  have hg1 : w.grownBy W1 (some g) := by
    rw [hW1]
    have h := grownBy_cells g news (0 + j * 3) w.drew
    exact ⟨h.os, h.tape, h.output, h.size, h.block⟩
  have hin1 : ∀ t, t < (m - j') * 3 → W1.cell? ⟨g, j * 3 + t, none⟩ = (cellsA AX)[j' * 3 + t]? := fun t ht => by
    rw [hW1]
    have h := World.cell?_setCells_in g news (0 + j * 3) w.drew (fun q hq => (s3.out q hq).1) t (by rw [hnl]; exact ht)
    rw [Nat.zero_add] at h ⊢
    rw [h, ← hnat t (by rw [hnl]; exact ht), List.getElem?_eq_getElem (by rw [hnl]; exact ht)]
  have hout1 : ∀ i, i < j * 3 → W1.cell? ⟨g, i, none⟩ = (cellsA AX)[i]? := fun i hi => by
    rw [hW1, World.cell?_setCells_out g news (0 + j * 3) w.drew ⟨g, i, none⟩ (fun _ _ => .inl (by show i < 0 + j * 3; omega))]
    exact hcell i (by omega)
  have hs1 : ∀ i, i < m * 3 → (W1.cell? ⟨g, i, none⟩).isSome = true := fun i hi => by
    by_cases h1 : i < j * 3
    · rw [hout1 i h1, List.getElem?_eq_getElem (by omega)]; rfl
    · by_cases h2 : i < j * 3 + (m - j') * 3
      · have h := hin1 (i - j * 3) (by omega)
        rw [show j * 3 + (i - j * 3) = i by omega] at h
        rw [h, List.getElem?_eq_getElem (by omega)]; rfl
      · rw [hW1, World.cell?_setCells_out g news (0 + j * 3) w.drew ⟨g, i, none⟩ (fun _ _ => .inr (by show 0 + j * 3 + news.length ≤ i; omega))]
        exact hsome i hi
  have hf1 : ∀ i, W1.frozen? ⟨g, i, none⟩ = false := fun i => by rw [hW1, World.frozen?_setCells]; exact hfr i
  have hcr0 := fun ty => run_clear_axis W1 ty g ((m - 1) * 3) (cap - (m - 1)) (fun t ht => hs1 _ (by omega)) (fun t _ => hf1 _)
  obtain ⟨W2, hW2⟩ : ∃ W2, W2 = W1.setCells g ((m - 1) * 3) [.int .i64 0, .int .i64 0, .int .i64 0] := ⟨_, rfl⟩
  have HFIN : Hid ((∀ i (a : AxE), (AX.eraseIdx j)[i]? = some a → W2.cell? ⟨g, i * 3, none⟩ = some (.int .i64 a.1) ∧ W2.cell? ⟨g, i * 3 + 1, none⟩ = some (.int .i64 a.2.1) ∧ W2.cell? ⟨g, i * 3 + 2, none⟩ = some (.int .i64 a.2.2)) ∧ w.grownBy W2 (some g)) := Lib.hid (by
    refine ⟨fun i a hi => ?_, hg1.trans (by rw [hW2]; exact grownBy_cells g _ _ _)⟩
    have hil := (List.getElem?_eq_some_iff.1 hi).1
    rw [List.length_eraseIdx_of_lt (by omega), hm] at hil
    have hfar : ∀ c, c < 3 → W2.cell? ⟨g, i * 3 + c, none⟩ = W1.cell? ⟨g, i * 3 + c, none⟩ := fun c hc => by
      rw [hW2, World.cell?_setCells_out g _ _ _ ⟨g, i * 3 + c, none⟩ (fun _ _ => .inl (by show i * 3 + c < (m - 1) * 3; omega))]
    have h0 := hfar 0 (by omega)
    have h1 := hfar 1 (by omega)
    have h2 := hfar 2 (by omega)
    rw [Nat.add_zero] at h0
    rw [h0, h1, h2]
    rw [List.getElem?_eraseIdx] at hi
    by_cases hij : i < j
    · rw [if_pos hij] at hi
      obtain ⟨e1, e2, e3⟩ := cellsA_at hi
      exact ⟨(hout1 _ (by omega)).trans e1, (hout1 _ (by omega)).trans e2, (hout1 _ (by omega)).trans e3⟩
    · rw [if_neg hij] at hi
      obtain ⟨e1, e2, e3⟩ := cellsA_at hi
      have k0 := hin1 (i * 3 - j * 3) (by omega)
      have k1 := hin1 (i * 3 + 1 - j * 3) (by omega)
      have k2 := hin1 (i * 3 + 2 - j * 3) (by omega)
      rw [show j * 3 + (i * 3 - j * 3) = i * 3 by omega, show j' * 3 + (i * 3 - j * 3) = (i + 1) * 3 by omega] at k0
      rw [show j * 3 + (i * 3 + 1 - j * 3) = i * 3 + 1 by omega, show j' * 3 + (i * 3 + 1 - j * 3) = (i + 1) * 3 + 1 by omega] at k1
      rw [show j * 3 + (i * 3 + 2 - j * 3) = i * 3 + 2 by omega, show j' * 3 + (i * 3 + 2 - j * 3) = (i + 1) * 3 + 2 by omega] at k2
      exact ⟨k0.trans e1, k1.trans e2, k2.trans e3⟩)
  have hq1 : ((j : Int) == (j' : Int)) = false := by simp; omega
  have hjc : j ≤ cap := by omega
  have hjc' : j' ≤ cap := by omega
  have hmj : j + (m - j') = m - 1 := by omega
  have hcr : ∀ ty, (Builtin.clear_ #[83] ty #[.slice (some ⟨g, (j + (m - j')) * 3, none⟩) (m - (j + (m - j'))) (cap - (j + (m - j')))]).run Tryz.prog W1 = .ok (.tuple #[]) W2 := fun ty => by
    rw [show m - (j + (m - j')) = 1 by omega, hmj, hW2]; exact hcr0 ty
  have hjl : j + (m - j') ≤ m := by omega
  have HMJ := Lib.hid hmj
  have hji : j < j' := by omega
  have hjm : j' ≤ m := by omega
  clear hO hcl hcell hsome hfr hnews hnl hnat hone hg1 hin1 hout1 hs1 hf1 hm hW1 hW2 hj' hmj hcr0
  go_enter Tryz.func65, Tryz.ntmps65
  go_wp2_with fail
  go_region_law (refine step_append_room rfl (.tmp 22) (.tmp 25) 83 rfl 85 i1 3 Tryz.underlying83 hi hz1 g 0 j cap (by simp [Act.eval, Act.put]) A (m - j') (cap - j') news (by simp [Act.eval, Act.put]) s1.out hsrc.out s2.out (by omega) s3.out ?_; rw [← hW.out])
  go_wp2
  go_ret
  exact ⟨by rw [← HMJ.out]; rfl, HFIN.out.1, HFIN.out.2⟩
end Go.Proofs.YtgbmacppgaopfabGreat
