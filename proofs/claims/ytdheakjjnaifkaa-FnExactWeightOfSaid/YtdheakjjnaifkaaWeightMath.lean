
/- Weights of assignments, as mathematics. -/
import Derived.Test.YtdheakjjnaifkaaNetOkSpec
import Derived.Test.YtdheakjjnaifkaaSliceMath
import Derived.Test.YtdheakjjnaifkaaTimesOne
namespace Go.Proofs.Ytdheakjjnaifkaa
set_option maxRecDepth 20000
open Go.RowKit

/-- The values are an assignment of the labels of the tensors. -/
def WOk (ts : List TenE) (V : List Int) : Prop := InIx ((labT ts).map (dimT ts)) V
theorem WOk.at {ts : List TenE} {V : List Int} (h : WOk ts V) {n : Int} (hn : n ∈ labT ts) : 0 ≤ V.getD ((labT ts).idxOf n) 0 ∧ V.getD ((labT ts).idxOf n) 0 < dimT ts n := by
  have h1 := List.idxOf_lt_length_iff.2 hn
  have h2 := h.2 ((labT ts).idxOf n) (by rw [List.length_map]; exact h1)
  have h3 : ((labT ts).map (dimT ts)).getD ((labT ts).idxOf n) 0 = dimT ts n := by
    simp [List.getD_eq_getElem?_getD, h1]
  rw [h3] at h2
  exact h2
theorem via_at {L K V : List Int} {c : Nat} {n : Int} (h : L[c]? = some n) : (viaL L K V).getD c 0 = V.getD (K.idxOf n) 0 := by
  unfold viaL
  rw [List.getD_eq_getElem?_getD, List.getElem?_map, h]; rfl
/-- In each tensor the values of its labels are an index. -/
theorem WOk.ten {k p q : Int} {ts : List TenE} {V : List Int} (h : WOk ts V) (hv : NetV k p q ts) {t : TenE} (ht : t ∈ ts) : InIx t.2.1 (viaL t.1 (labT ts) V) := by
  have hax := hv.ax t ht
  have hl := hax.2.1
  refine ⟨by unfold viaL; rw [List.length_map, hl], fun c hc => ?_⟩
  obtain ⟨n, hn⟩ : ∃ n, t.1[c]? = some n := ⟨_, List.getElem?_eq_getElem (by omega)⟩
  have hm : n ∈ t.1 := List.mem_of_getElem? hn
  rw [via_at hn, ← dimI_at hax.2.2.2.2 hn, ← hv.dim ht hm]
  exact h.at ((mem_labT hv.ax).2 ⟨t, ht, hm⟩)
theorem wok_of {k p q : Int} {ts : List TenE} {V : List Int} (hv : NetV k p q ts) (hV : V.length = (labT ts).length) (h : ∀ t ∈ ts, InIx t.2.1 (viaL t.1 (labT ts) V)) : WOk ts V := by
  refine ⟨by rw [List.length_map, hV], fun i hi => ?_⟩
  rw [List.length_map] at hi
  obtain ⟨n, hn⟩ : ∃ n, (labT ts)[i]? = some n := ⟨_, List.getElem?_eq_getElem hi⟩
  have h3 : ((labT ts).map (dimT ts)).getD i 0 = dimT ts n := by
    simp [List.getD_eq_getElem?_getD, hn]
  rw [h3]
  obtain ⟨t, ht, hm⟩ := (mem_labT hv.ax).1 (List.mem_of_getElem? hn)
  have hax := hv.ax t ht
  obtain ⟨c, hc⟩ := List.getElem?_of_mem hm
  have hlt := (List.getElem?_eq_some_iff.1 hc).1
  have h4 := (h t ht).2 c (by rw [← hax.2.1]; exact hlt)
  rw [via_at hc, idxOf_at (labT_nodup ts) hn, ← dimI_at hax.2.2.2.2 hc, ← hv.dim ht hm] at h4
  exact h4
theorem okc_in {L D K V : List Int} (hl : L.length = D.length) (hs : ∀ n ∈ L, n ∈ K) : OkC (L.map (cK K V)) D ↔ InIx D (viaL L K V) := by
  constructor
  · rintro ⟨-, h⟩
    refine ⟨by unfold viaL; rw [List.length_map, hl], fun c hc => ?_⟩
    obtain ⟨n, hn⟩ : ∃ n, L[c]? = some n := ⟨_, List.getElem?_eq_getElem (by omega)⟩
    obtain ⟨d, hd⟩ : ∃ d, D[c]? = some d := ⟨_, List.getElem?_eq_getElem hc⟩
    rw [via_at hn, List.getD_eq_getElem?_getD (l := D), hd]
    exact h c _ d (by rw [List.getElem?_map, hn]; show some (cK K V n) = _; rw [cK_some (hs n (List.mem_of_getElem? hn))]) hd
  · rintro ⟨-, h⟩
    refine ⟨by rw [List.length_map, hl], fun c v d hc hd => ?_⟩
    have hlt := (List.getElem?_eq_some_iff.1 hd).1
    obtain ⟨n, hn⟩ : ∃ n, L[c]? = some n := ⟨_, List.getElem?_eq_getElem (by omega)⟩
    rw [List.getElem?_map, hn] at hc
    have hc2 : cK K V n = some v := by simpa using hc
    rw [cK_some (hs n (List.mem_of_getElem? hn))] at hc2
    have h1 := h c hlt
    rw [via_at hn, List.getD_eq_getElem?_getD (l := D), hd] at h1
    have h2 : V.getD (K.idxOf n) 0 = v := by simpa using hc2
    rw [h2] at h1
    exact h1
theorem fillC_all {K V : List Int} : ∀ {L ix : List Int}, (∀ n ∈ L, n ∈ K) → fillC (L.map (cK K V)) ix = viaL L K V := by
  intro L
  induction L with
  | nil => intro ix _; rfl
  | cons n r ih =>
    intro ix h
    have h1 : cK K V n = some (V.getD (K.idxOf n) 0) := cK_some (h n List.mem_cons_self)
    show fillC (cK K V n :: r.map (cK K V)) ix = _
    rw [h1]
    show V.getD (K.idxOf n) 0 :: fillC (r.map (cK K V)) ix = _
    rw [ih fun m hm => h m (List.mem_cons_of_mem _ hm)]
    rfl
theorem fixL_all {K V L : List Int} (hs : ∀ n ∈ L, n ∈ K) : fixL (cK K V) L = [] := by
  unfold fixL
  rw [List.filter_eq_nil_iff]
  intro n hn
  rw [cK_some (hs n hn)]
  simp
theorem fixD_all {K V L D : List Int} (hs : ∀ n ∈ L, n ∈ K) : fixD (cK K V) L D = [] := by
  have h := fixD_len (cK K V) L D
  rw [fixL_all hs] at h
  exact List.length_eq_zero_iff.1 h
/-- A tensor whose labels are all fixed has one element. -/
theorem fix_all {wd : Nat} {L D X K V : List Int} (hs : ∀ n ∈ L, n ∈ K) : fixX wd (cK K V) L D X = getL wd X (offI D (viaL L K V)).toNat := by
  unfold fixX
  have hF : ∀ m, fixF (cK K V) L D m = (offI D (viaL L K V)).toNat := fun m => by unfold fixF; rw [fillC_all hs]
  rw [fixD_all hs]
  show gatherL (fun m => getL wd X (fixF (cK K V) L D m)) 1 = _
  rw [show (1 : Nat) = 0 + 1 from rfl, gather_succ, gather_zero, hF, List.nil_append]
open Classical in
noncomputable def weightL (k p q : Int) (ts : List TenE) (O V : List Int) : List Int := if NetOk k p q ts O ∧ WOk ts V then wtL k p (widthI k q).toNat (labT ts) V (oneL k p q) ts else []
open Classical in
theorem weight_yes {k p q : Int} {ts : List TenE} {O V : List Int} (h : NetOk k p q ts O) (h2 : WOk ts V) : weightL k p q ts O V = wtL k p (widthI k q).toNat (labT ts) V (oneL k p q) ts := if_pos ⟨h, h2⟩
open Classical in
theorem weight_no {k p q : Int} {ts : List TenE} {O V : List Int} (h : ¬ (NetOk k p q ts O ∧ WOk ts V)) : weightL k p q ts O V = [] := if_neg h
theorem ten_elem {k p q : Int} {t : TenE} {ix : List Int} (ht : tensorB k p q t.1 t.2.1 t.2.2 = true) (hi : InIx t.2.1 ix) : ElemV k p q (getL (widthI k q).toNat t.2.2 (offI t.2.1 ix).toNat) ∧ (offI t.2.1 ix).toNat ≤ 4096 ∧ (offI t.2.1 ix).toNat * (widthI k q).toNat + (widthI k q).toNat ≤ t.2.2.length := by
  have F := TF.of ht
  have h1 := offP_range F.dim hi t.2.1.length (Nat.le_refl _)
  rw [List.take_length] at h1
  have h2 : 0 ≤ offI t.2.1 ix ∧ offI t.2.1 ix < prodL t.2.1 := h1
  have h3 := F.n1
  have h4 := F.pr
  refine ⟨getL_elem F.hw F.lX F.wX (by omega), by omega, F.room _ (by omega)⟩
theorem wt_elem {k p q : Int} {ts : List TenE} {V : List Int} {K : List Int} (hr : ringB k p q = true) (hv : ∀ t ∈ ts, tensorB k p q t.1 t.2.1 t.2.2 = true ∧ InIx t.2.1 (viaL t.1 K V)) : ElemV k p q (wtL k p (widthI k q).toNat K V (oneL k p q) ts) := by
  induction ts using snoc_ind with
  | h0 => exact oneL_elem hr
  | hs l t ih =>
    rw [wtL_snoc]
    have ht := hv t (by simp)
    exact timesL_elem hr (ih fun u hu => hv u (by simp [hu])) (ten_elem ht.1 ht.2).1
theorem weightL_len (k p q : Int) (ts : List TenE) (O V : List Int) : (weightL k p q ts O V).length ≤ 24576 := by
  by_cases h : NetOk k p q ts O ∧ WOk ts V
  · rw [weight_yes h.1 h.2]
    have h1 := wt_elem (K := labT ts) (V := V) h.1.1 (fun t ht => ⟨h.1.2.2.1.ten ht, h.2.ten h.1.2.2.1 ht⟩)
    have h2 := ring_width h.1.1
    have h3 := h1.1
    omega
  · rw [weight_no h]; simp
end Go.Proofs.Ytdheakjjnaifkaa
