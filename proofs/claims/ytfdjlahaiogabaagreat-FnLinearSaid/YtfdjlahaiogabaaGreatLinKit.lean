
/- Sums and multiples of tensors in every order of axes: what the law FnLinear compares. -/
import Derived.Test.YtfdjlahaiogabaaGreatAssocKit
import Derived.Test.YtfdjlahaiogabaaGreatPermutedMath
import Derived.Test.YtfdjlahaiogabaaGreatAddSpec
import Derived.Test.YtfdjlahaiogabaaGreatZeroImpl
import Derived.Deep.RegionLaw
import Derived.Test.YtfdjlahaiogabaaGreatAddImpl
import Derived.Test.YtfdjlahaiogabaaGreatScaleImpl
namespace Go.Proofs.YtfdjlahaiogabaaGreat
set_option maxRecDepth 20000

/-- Where the element with n indices before it lies, the axes put in another order. -/
def permF (L D labels : List Int) (n : Nat) : Nat := (offI D (viaL L labels (idxL (dimsVia L D labels) (n : Int)))).toNat
structure LinT (k p q : Int) (wd N : Nat) (L D X : List Int) : Prop where
  rg : ringB k p q = true
  hw : widthI k q = (wd : Int)
  w1 : 1 ≤ wd ∧ wd ≤ 6
  ax : AxesV L D
  pr : prodL D = (N : Int)
  n1 : 1 ≤ N ∧ N ≤ 4096
  lX : X.length = N * wd
  wX : Within (topI k p q) X
theorem LinT.of {k p q : Int} {L D X : List Int} (ht : tensorB k p q L D X = true) : LinT k p q (widthI k q).toNat (prodL D).toNat L D X := by
  have hrb := (tensorB_inv ht).1
  have hwd := ring_width hrb
  have hf := TenF.of (wd := (widthI k q).toNat) ht (by omega)
  exact ⟨hrb, by omega, by omega, hf.ax, hf.pr, hf.n1, hf.lX, hf.wX⟩
section
variable {k p q : Int} {wd N : Nat} {L D X : List Int}
theorem LinT.dim (h : LinT k p q wd N L D X) : ∀ d ∈ D, 1 ≤ d := fun d hd => (h.ax.2.2.2.1 d hd).1
theorem LinT.yes (h : LinT k p q wd N L D X) : tensorB k p q L D X = true := by
  have h1 := h.pr
  have h2 := h.n1
  exact (tensorB_of h.rg h.ax (by omega) (by rw [h.pr, h.hw, h.lX, Int.natCast_mul]) h.wX).1
theorem LinT.get (h : LinT k p q wd N L D X) {i : Nat} (hi : i < N) : ElemV k p q (getL wd X i) := getL_elem h.hw h.lX h.wX hi
theorem LinT.gather (h : LinT k p q wd N L D X) {f : Nat → List Int} (hf : ∀ i, i < N → ElemV k p q (f i)) : LinT k p q wd N L D (gatherL f N) := by
  refine ⟨h.rg, h.hw, h.w1, h.ax, h.pr, h.n1, gather_len _ fun i hi => ?_, gather_within fun i hi => (hf i hi).2⟩
  have h1 := (hf i hi).1
  have h2 := h.hw
  omega
theorem LinT.at (h : LinT k p q wd N L D X) {f : Nat → List Int} (hf : ∀ i, i < N → ElemV k p q (f i)) {i : Nat} (hi : i < N) : getL wd (gatherL f N) i = f i :=
  gather_get (fun j hj => by have h1 := (hf j hj).1; have h2 := h.hw; omega) hi
theorem LinT.permLt (h : LinT k p q wd N L D X) {A : List Int} (hA : A.Perm L) (n : Nat) : permF L D A n < N := by
  have hs := setV_perm hA h.ax.2.2.2.2
  obtain ⟨o, h1, h2, -⟩ := (PF.of h.yes hs).off n
  unfold Go.Proofs.YtfdjlahaiogabaaGreat.permF
  rw [h1, Int.toNat_natCast]
  have := h.pr
  omega
theorem LinT.perm (h : LinT k p q wd N L D X) (A : List Int) : permDataL k q L D X A = gatherL (fun n => getL wd X (Go.Proofs.YtfdjlahaiogabaaGreat.permF L D A n)) N := by
  unfold permDataL permX gatherL
  have h1 : (widthI k q).toNat = wd := by have := h.hw; omega
  have h2 : (prodL D).toNat = N := by have := h.pr; omega
  rw [h1, h2]
  rfl
/-- The tensor with its axes in another order. -/
theorem LinT.turn (h : LinT k p q wd N L D X) {A : List Int} (hA : A.Perm L) : LinT k p q wd N A (dimsVia L D A) (permDataL k q L D X A) := by
  have h1 := perm_ok h.yes hA
  have h2 := LinT.of h1.2.1
  have h3 : (widthI k q).toNat = wd := by have := h.hw; omega
  have h4 : (prodL (dimsVia L D A)).toNat = N := by rw [h1.2.2]; have := h.pr; omega
  rw [h3, h4] at h2
  exact h2
theorem LinT.back (h : LinT k p q wd N L D X) {A : List Int} (hA : A.Perm L) : dimsVia A (dimsVia L D A) L = D ∧ permDataL k q A (dimsVia L D A) (permDataL k q L D X A) L = X := by
  have h1 := perm_perm h.yes hA (List.Perm.refl L)
  have h2 := perm_back h.yes
  exact ⟨h1.1.trans h2.1, h1.2.trans h2.2⟩
theorem LinT.fit (h : LinT k p q wd N L D X) {A Y : List Int} (hA : A.Perm L) (hY : LinT k p q wd N A (dimsVia L D A) Y) : fitB k p q L D X A (dimsVia L D A) Y = true := by
  have hb : dimsVia A (dimsVia L D A) L = D := (h.back hA).1
  unfold fitB bothB
  rw [h.yes, hY.yes, setV_true.2 (setV_perm hA h.ax.2.2.2.2), decide_eq_true hb]
  rfl
theorem LinT.fit' (h : LinT k p q wd N L D X) {A Y : List Int} (hA : A.Perm L) (hY : LinT k p q wd N A (dimsVia L D A) Y) : fitB k p q A (dimsVia L D A) Y L D X = true := by
  have hl : L.length = D.length := h.ax.2.1
  unfold fitB bothB
  rw [h.yes, hY.yes, setV_true.2 (setV_perm hA.symm hY.ax.2.2.2.2), decide_eq_true rfl]
  rfl
theorem LinT.join (h : LinT k p q wd N L D X) (L' D' X' : List Int) (pr : Bool) : joinTenL k p q L D X L' D' X' pr = gatherL (joinF k p wd X (permDataL k q L' D' X' L) pr) N := by
  have h1 : (widthI k q).toNat = wd := by have := h.hw; omega
  have h2 : (prodL D).toNat = N := by have := h.pr; omega
  unfold joinTenL
  rw [h1, h2]
end
/-- t, and u = y with its axes in the order A: their sums, multiples, products. -/
structure LinR (k p q : Int) (L D X A UD UX x aX bX sX uX cX tX dX zX fX : List Int) : Prop where
  fa : fitB k p q L D X A UD UX = true
  fb : fitB k p q A UD UX L D X = true
  ea : aX = joinTenL k p q L D X A UD UX false
  eb : bX = joinTenL k p q A UD UX L D X false
  ta : tensorB k p q L D aX = true
  tb : tensorB k p q A UD bX = true
  sm : sameB k p q L D aX A UD bX = true
  ss : scaleB k p q L D X x = true
  su : scaleB k p q A UD UX x = true
  es : sX = scaleTenL k p q D X x
  eu : uX = scaleTenL k p q UD UX x
  ts : tensorB k p q L D sX = true
  tu : tensorB k p q A UD uX = true
  fc : fitB k p q L D sX A UD uX = true
  ec : cX = joinTenL k p q L D sX A UD uX false
  st : scaleB k p q L D aX x = true
  et : cX = scaleTenL k p q D aX x
  ed : dX = joinTenL k p q L D X A UD UX true
  tz : tensorB k p q L D zX = true
  ez : zX = zeroTenL k p q D
  zb : zeroTenB k p q L D = true
  ff : fitB k p q L D zX L D X = true
  ef : X = joinTenL k p q L D zX L D X false
  tc : tensorB k p q L D cX = true
  td : tensorB k p q L D dX = true
theorem lin_all {k p q : Int} {wd N : Nat} {L D X Y A x : List Int} (h : LinT k p q wd N L D X) (hy : LinT k p q wd N L D Y) (hA : A.Perm L) (hx : ElemV k p q x) :
    ∃ aX bX sX uX cX dX zX, LinR k p q L D X A (dimsVia L D A) (permDataL k q L D Y A) x aX bX sX uX cX cX dX zX X := by
  have hu := hy.turn hA
  have hbk := hy.back hA
  have hwd : (widthI k q).toNat = wd := by have := h.hw; omega
  have hN : (prodL D).toNat = N := by have := h.pr; omega
  have hNu : (prodL (dimsVia L D A)).toNat = N := by have := hu.pr; omega
  have jE : ∀ {X Y : List Int}, LinT k p q wd N L D X → LinT k p q wd N L D Y → ∀ pr i, i < N → ElemV k p q (joinF k p wd X Y pr i) := fun h1 h2 pr i hi => joinF_elem h1.rg h1.hw h1.lX h2.lX h1.wX h2.wX pr hi
  have sE : ∀ {L D X : List Int}, LinT k p q wd N L D X → ∀ i, i < N → ElemV k p q (scaleF k p wd x X i) := fun h1 i hi => timesL_elem h1.rg hx (h1.get hi)
  -- the sums
  have ea : joinTenL k p q L D X A (dimsVia L D A) (permDataL k q L D Y A) false = gatherL (joinF k p wd X Y false) N := by rw [h.join, hbk.2]
  have ha := h.gather (jE h hy false)
  have eb : joinTenL k p q A (dimsVia L D A) (permDataL k q L D Y A) L D X false = permDataL k q L D (gatherL (joinF k p wd X Y false) N) A := by
    rw [hu.join, ha.perm A]
    refine gather_congr fun i hi => ?_
    have hs := h.permLt hA i
    rw [h.at (jE h hy false) hs]
    unfold joinF
    rw [if_neg (by simp), if_neg (by simp), hy.perm A, h.perm A, hy.at (fun j _ => hy.get (hy.permLt hA j)) hi, h.at (fun j _ => h.get (h.permLt hA j)) hi]
    exact plusL_comm h.rg (hy.get hs) (h.get hs)
  -- the multiples
  have es : ∀ {L D X : List Int}, LinT k p q wd N L D X → scaleTenL k p q D X x = gatherL (scaleF k p wd x X) N := fun h1 => by
    unfold scaleTenL
    rw [hwd, show (prodL _).toNat = N from by have := h1.pr; omega]
  have hs := h.gather (sE h)
  have hsy := hy.gather (sE hy)
  have eu : scaleTenL k p q (dimsVia L D A) (permDataL k q L D Y A) x = permDataL k q L D (gatherL (scaleF k p wd x Y) N) A := by
    rw [es hu, hsy.perm A]
    refine gather_congr fun i hi => ?_
    have hp := hy.permLt hA i
    rw [hy.at (sE hy) hp]
    unfold scaleF
    rw [hy.perm A, hy.at (fun j _ => hy.get (hy.permLt hA j)) hi]
  have hsu := hsy.turn hA
  have ec : joinTenL k p q L D (gatherL (scaleF k p wd x X) N) A (dimsVia L D A) (permDataL k q L D (gatherL (scaleF k p wd x Y) N) A) false = gatherL (scaleF k p wd x (gatherL (joinF k p wd X Y false) N)) N := by
    rw [hs.join, (hsy.back hA).2]
    refine gather_congr fun i hi => ?_
    have h1 := h.get hi
    have h2 := hy.get hi
    unfold joinF scaleF
    rw [if_neg (by simp)]
    rw [h.at (f := fun i => timesL k p x (getL wd X i)) (fun j hj => timesL_elem h.rg hx (h.get hj)) hi, h.at (f := fun i => timesL k p x (getL wd Y i)) (fun j hj => timesL_elem h.rg hx (hy.get hj)) hi]
    rw [h.at (f := fun i => if false = true then timesL k p (getL wd X i) (getL wd Y i) else plusL k p (getL wd X i) (getL wd Y i)) (fun j hj => jE h hy false j hj) hi, if_neg (by simp)]
    rw [times_comm h.rg hx h1, times_comm h.rg hx h2, times_comm h.rg hx (plusL_elem h.rg h1 h2)]
    exact (distr h.rg h1 h2 hx).symm
  -- zero
  have hz0 : ElemV k p q (zeroL k p q) := zeroL_elem h.rg
  have ez : zeroTenL k p q D = gatherL (fun _ => zeroL k p q) N := by
    unfold zeroTenL
    rw [hN]
    have hr : ∀ M, repL (zeroL k p q) M = gatherL (fun _ => zeroL k p q) M := by
      intro M
      induction M with
      | zero => rfl
      | succ M ih => rw [repL_succ, gather_succ, ih]
    exact hr N
  have hz := h.gather (f := fun _ => zeroL k p q) (fun _ _ => hz0)
  have hsz : sizeI L D = prodL D := sizeI_of h.ax (by have := h.pr; have := h.n1; omega)
  have hbx := perm_back h.yes
  have ef : joinTenL k p q L D (gatherL (fun _ => zeroL k p q) N) L D X false = X := by
    rw [hz.join, hbx.2]
    conv => rhs; rw [← gather_self h.lX]
    refine gather_congr fun i hi => ?_
    unfold joinF
    rw [if_neg (by simp), h.at (f := fun _ => zeroL k p q) (fun _ _ => hz0) hi]
    exact plusL_zero_left h.rg (h.get hi)
  have hself : LinT k p q wd N L (dimsVia L D L) X := by rw [hbx.1]; exact h
  refine ⟨_, _, _, _, _, _, _, h.fit hA hu, h.fit' hA hu, rfl, rfl, ?_, ?_, ?_, ?_, ?_, rfl, rfl, ?_, ?_, ?_, rfl, ?_, ?_, rfl, ?_, rfl, ?_, ?_, ?_, ?_, ?_⟩
  · rw [ea]; exact ha.yes
  · rw [eb]; exact (ha.turn hA).yes
  · rw [ea, eb]; exact (same_perm ha.yes hA).2.2.2
  · unfold scaleB; rw [h.yes, elemB_true.2 hx]; rfl
  · unfold scaleB; rw [hu.yes, elemB_true.2 hx]; rfl
  · rw [es h]; exact hs.yes
  · rw [eu]; exact hsu.yes
  · rw [es h, eu]; exact hs.fit hA hsu
  · unfold scaleB; rw [ea, ha.yes, elemB_true.2 hx]; rfl
  · rw [es h, eu, ea, es ha, ec]
  · rw [ez]; exact hz.yes
  · unfold zeroTenB; rw [h.rg, hsz, decide_eq_true (by have := h.pr; have := h.n1; omega)]; rfl
  · have := hz.fit (A := L) (List.Perm.refl L) hself
    rw [hbx.1] at this
    rw [ez]; exact this
  · rw [ez, ef]
  · rw [es h, eu, ec]; exact (ha.gather (sE ha)).yes
  · rw [h.join, hbk.2]; exact (h.gather (jE h hy true)).yes
theorem lab_perm {L D A : List Int} (h : Lab6 L D) (hA : A.Perm L) : Lab6 A (dimsVia L D A) := by
  refine ⟨hA.nodup_iff.2 h.nd, fun x hx => h.rg x (hA.subset hx), ?_⟩
  unfold dimsVia
  apply List.map_congr_left
  intro n hn
  rw [h.dm]
  exact dimI_g (hA.subset hn)
/-- The contraction over all labels is the product, element by element. -/
theorem lin_pair {k p q : Int} {wd N : Nat} {L D X Y A : List Int} (h : LinT k p q wd N L D X) (hy : LinT k p q wd N L D Y) (hA : A.Perm L) (h6 : Lab6 L D) :
    pairB k p q L D X A (dimsVia L D A) (permDataL k q L D Y A) L = true ∧ keepL (joinL L A) L = L ∧ keepD (joinL L A) (joinD L D A (dimsVia L D A)) L = D ∧ pairL k p q L D X A (dimsVia L D A) (permDataL k q L D Y A) L = joinTenL k p q L D X A (dimsVia L D A) (permDataL k q L D Y A) true := by
  have hu := hy.turn hA
  have hbk := hy.back hA
  have hwd : (widthI k q).toNat = wd := by have := h.hw; omega
  have hN : (prodL D).toNat = N := by have := h.pr; omega
  have h6u := lab_perm h6 hA
  have hT := Ten6.of h.hw h6 h.yes
  have hU := Ten6.of h.hw h6u hu.yes
  have hr0 : restL L A = [] := rest_none fun n hn => hA.subset hn
  have hj : joinL L A = L := by unfold joinL; rw [hr0, List.append_nil]
  have hjd : joinD L D A (dimsVia L D A) = D := by unfold joinD; rw [hr0]; simp [dimsVia]
  have hp := pair_all (keep := L) h.rg h.hw hT hU (fun n hn => by rw [hj] at hn; exact hn)
  rw [hj, hjd] at hp ⊢
  refine ⟨six_ok L h.yes hu.yes h6 h6u, hp.1, hp.2.1, ?_⟩
  rw [hp.2.2, h.join, hbk.2, hN]
  refine gather_congr fun n hn => ?_
  have hn2 : (n : Int) < prodL D := by have := h.pr; omega
  unfold termJ joinF
  rw [if_pos rfl, off_self h6.nd h6.leneq h.dim hn2]
  have e1 : offJ A (dimsVia L D A) L D n = permF A (dimsVia L D A) L n := by
    unfold offJ permF
    rw [hbk.1]
  have e2 : getL wd Y n = getL wd (permDataL k q L D Y A) (permF A (dimsVia L D A) L n) := by
    conv => lhs; rw [← hbk.2, hu.perm L]
    exact hy.at (fun j _ => hu.get (hu.permLt hA.symm j)) hn
  rw [e1, e2]
end Go.Proofs.YtfdjlahaiogabaaGreat
namespace Go.Proofs.YtfdjlahaiogabaaGreat
set_option maxRecDepth 20000
open Go.RowKit

set_option maxHeartbeats 6400000 in
theorem make_like {v lv dv xv : Value} {bts : List UInt8} {k p q : Int} {L D X : List Int} {w : World} (n : Nat) (hn : n ≤ 1000) (hk : ringB k p q = true) (hr : Rd w.heap.size w v (bytes8 bts)) (hl : bts.length ≤ 1048576) (ha : RdT w.heap.size w lv dv xv L D X) (ht : tensorB k p q L D X = true) :
    Calls Tryz.prog 17 #[v, .int .i64 n, ringV k p q, tenV lv dv xv] w fun e w' => ∃ A Y, A.Perm L ∧ tensorB k p q L D Y = true ∧ NewS w A (dimsVia L D A) (permDataL k q L D Y A) id e w' := by
  have HT := Lib.hid ha
  have HR := Lib.hid hr
  have HL := Lib.hid hl
  have HK := Lib.hid hk
  have HTT := Lib.hid ht
  obtain ⟨ab, cb0, rfl, -⟩ := bytes_cell hr
  obtain ⟨al, cl, rfl, -⟩ := ints_form ha.l
  obtain ⟨ad, cd, rfl, -⟩ := ints_form ha.d
  obtain ⟨ax, cx, rfl, -⟩ := ints_form ha.x
  obtain ⟨m1, hm1⟩ : ∃ m, m = L.length := ⟨_, rfl⟩
  obtain ⟨m2, hm2⟩ : ∃ m, m = D.length := ⟨_, rfl⟩
  obtain ⟨m3, hm3⟩ : ∃ m, m = X.length := ⟨_, rfl⟩
  rw [← hm1, ← hm2, ← hm3] at HT ⊢
  have R0 : Hid (Rs w (((w.alloc (.cells #[.int .i64 k, .int .i64 p, .int .i64 q] 24)).alloc (.cells #[.slice al m1 cl, .slice ad m2 cd, .slice ax m3 cx] 28)).alloc (.cells #[nilV, nilV, nilV] 28)) [(w.heap.size + 1 + 1, nilV, nilV, nilV), (w.heap.size + 1, .slice al m1 cl, .slice ad m2 cd, .slice ax m3 cx), (w.heap.size, .int .i64 k, .int .i64 p, .int .i64 q)] []) := by
    have h := ((((Rs.start w).box (.int .i64 k) (.int .i64 p) (.int .i64 q) 24).box (.slice al m1 cl) (.slice ad m2 cd) (.slice ax m3 cx) 28).box (nilV) (nilV) (nilV) 28)
    simp only [World.size_alloc] at h
    exact h
  have hax := (tensor_axes ht)
  have hf := (PF.of ht (setV_perm (List.Perm.refl L) hax.2.2.2.2))
  have HAX := Lib.hid hax
  obtain ⟨N, hN⟩ : ∃ N, N = (prodL D).toNat := ⟨_, rfl⟩
  have HPN : Hid (prodL D = (N : Int) ∧ 1 ≤ N ∧ N ≤ 4096) := Lib.hid (by rw [hN]; exact ⟨hf.pD, hf.n1⟩)
  have HLM : Hid (L.length = m1 ∧ D.length = m2) := Lib.hid ⟨hm1.symm, hm2.symm⟩
  have HCA := Lib.hid (cur_at n hn ((HR.out.below R0.out.bel (Nat.le_refl _)).mono R0.out.bel.size) HL.out)
  obtain ⟨⟨r0, r1, r2⟩, -⟩ := R0.out.at (r := w.heap.size) (a := .int .i64 k) (b := .int .i64 p) (c := .int .i64 q) (by simp)
  obtain ⟨⟨s0, s1, s2⟩, -⟩ := R0.out.at (r := w.heap.size + 1) (a := .slice al m1 cl) (b := .slice ad m2 cd) (c := .slice ax m3 cx) (by simp)
  clear ha hr hl hk ht hm1 hm2 hm3 hax hf hN hn
  go_enter Tryz.func17, Tryz.ntmps17
  go_wp2_with fail
  generalize (((w.alloc (.cells #[.int .i64 k, .int .i64 p, .int .i64 q] 24)).alloc (.cells #[.slice al m1 cl, .slice ad m2 cd, .slice ax m3 cx] 28)).alloc (.cells #[nilV, nilV, nilV] 28)) = V at R0 HCA r0 r1 r2 s0 s1 s2 ⊢
  refine HCA.out.mono ?_
  clear r0 r1 r2 s0 s1 s2 HCA
  rintro e w2 ⟨cb, rfl, hc, hb⟩
  have HC := Lib.hid hc
  have HB2 := Lib.hid hb
  have R2 := Lib.hid (R0.out.step hb)
  have HKB := Lib.hid (fun (W : World) (hk : KeptOut w2 W cb (cb + 1)) => hk.below HB2.out HC.out.lo.1 HB2.out.size)
  clear hc hb
  obtain ⟨⟨r0, r1, r2⟩, -⟩ := R2.out.at (r := w.heap.size) (a := .int .i64 k) (b := .int .i64 p) (c := .int .i64 q) (by simp)
  obtain ⟨⟨s0, s1, s2⟩, -⟩ := R2.out.at (r := w.heap.size + 1) (a := .slice al m1 cl) (b := .slice ad m2 cd) (c := .slice ax m3 cx) (by simp)
  have HRL := Lib.hid (fun (W : World) (hk : KeptOut w2 W cb (cb + 1)) => (HT.out.below (R0.out.step (HKB.out W hk)).bel (Nat.le_refl _)))
  have HFI := Lib.hid (draw_fill (lv := .slice al m1 cl) (dv := .slice ad m2 cd) (L := L) (D := D) N HK.out HC.out (fun W hk => (HRL.out W hk).l.mono R2.out.bel.size) (fun W hk => (HRL.out W hk).d.mono R2.out.bel.size) HAX.out.1 (by rw [← HAX.out.2.1]; exact HAX.out.1) HAX.out.2.2.2.1 HPN.out.1 HPN.out.2.2)
  go_wp2_with fail
  refine HFI.out.mono ?_
  clear r0 r1 r2 s0 s1 s2 HFI
  rintro e w3 ⟨l', d', x', Y, rfl, hyl, hyw, ho, hc3, hk3⟩
  have HTY : Hid (tensorB k p q L D Y = true) := Lib.hid (tensorB_of HK.out HAX.out (by have := HPN.out; omega) hyl hyw).1
  have C3 := Lib.hid ((RsC.start HC.out).drawnG hk3 hc3 ho)
  obtain ⟨a1, c1, rfl, -⟩ := ints_form ho.rows.1.rd
  obtain ⟨a2, c2, rfl, -⟩ := ints_form ho.rows.2.1.rd
  obtain ⟨a3, c3, rfl, -⟩ := ints_form ho.rows.2.2.rd
  obtain ⟨m4, hm4⟩ : ∃ m, m = Y.length := ⟨_, rfl⟩
  rw [HLM.out.1, HLM.out.2, ← hm4] at C3 ⊢
  have C4 := Lib.hid (C3.out.box (.slice a1 m1 c1) (.slice a2 m2 c2) (.slice a3 m4 c3) 28).drew
  have hz3 := C3.out.size
  clear hyl hyw ho hc3 hk3 hm4 C3 HC
  simp only [List.cons_append, List.nil_append] at C4
  have C4' := C4.out
  obtain ⟨ub, hub⟩ : ∃ g, g = w3.heap.size := ⟨_, rfl⟩
  have HUB : Hid (V.heap.size ≤ ub) := Lib.hid (by rw [hub]; exact Nat.le_trans HB2.out.size hz3)
  clear hz3
  go_wp2
  generalize hW3 : w3.alloc (.cells #[.slice a1 m1 c1, .slice a2 m2 c2, .slice a3 m4 c3] 28) = w4 at C4 C4' ⊢
  rw [← hub] at C4 C4' ⊢
  clear hW3 C4' hub
  have RX := Lib.hid (R0.out.step (HKB.out _ C4.out.kept))
  obtain ⟨⟨r0, r1, r2⟩, -⟩ := RX.out.at (r := w.heap.size) (a := .int .i64 k) (b := .int .i64 p) (c := .int .i64 q) (by simp)
  obtain ⟨⟨s0, s1, s2⟩, -⟩ := RX.out.at (r := w.heap.size + 1) (a := .slice al m1 cl) (b := .slice ad m2 cd) (c := .slice ax m3 cx) (by simp)
  obtain ⟨⟨u0, u1, u2⟩, -⟩ := C4.out.at (r := ub) (a := .slice a1 m1 c1) (b := .slice a2 m2 c2) (c := .slice a3 m4 c3) (by simp)
  refine wp_region_held_drew (S := (fun w' => w'.cell? ⟨w.heap.size, 0, none⟩ = some (.int .i64 k) ∧ w'.cell? ⟨w.heap.size, 1, none⟩ = some (.int .i64 p) ∧ w'.cell? ⟨w.heap.size, 2, none⟩ = some (.int .i64 q) ∧ w'.cell? ⟨w.heap.size + 1, 0, none⟩ = some (.slice al m1 cl) ∧ w'.cell? ⟨w.heap.size + 1, 1, none⟩ = some (.slice ad m2 cd) ∧ w'.cell? ⟨w.heap.size + 1, 2, none⟩ = some (.slice ax m3 cx) ∧ w'.cell? ⟨ub, 0, none⟩ = some (.slice a1 m1 c1) ∧ w'.cell? ⟨ub, 1, none⟩ = some (.slice a2 m2 c2) ∧ w'.cell? ⟨ub, 2, none⟩ = some (.slice a3 m4 c3))) (by kernel_rfl) (by (try dsimp only); exact ⟨r0, r1, r2, s0, s1, s2, u0, u1, u2⟩) (fun hHeld => ?_)
  refine wpAnyH_take (i := 0) (v := ?_) rfl (by kernel_rfl) (by kernel_rfl) (by kernel_rfl) (fun _ _ _ h => h) (Or.inl ⟨by rfl, ?_⟩) (by assumption) ?_
  rotate_left
  · intro w hSw; (try dsimp only at hSw); go_simp <;> with_reducible rfl
  try simp only [Act.put, List.getElem_toArray, List.getElem_cons_zero, List.setIfInBounds_toArray, List.set_cons_zero, List.set_cons_succ]
  refine wpAnyH_take (i := 1) (v := ?_) rfl (by kernel_rfl) (by kernel_rfl) (by kernel_rfl) (fun _ _ _ h => h) (Or.inl ⟨by rfl, ?_⟩) (by assumption) ?_
  rotate_left
  · intro w hSw; (try dsimp only at hSw); go_simp <;> with_reducible rfl
  try simp only [Act.put, List.getElem_toArray, List.getElem_cons_succ, List.getElem_cons_zero, List.setIfInBounds_toArray, List.set_cons_zero, List.set_cons_succ]
  refine wpAnyH_take (i := 2) (v := ?_) rfl (by kernel_rfl) (by kernel_rfl) (by kernel_rfl) (fun _ _ _ h => h) (Or.inl ⟨by rfl, ?_⟩) (by assumption) ?_
  rotate_left
  · intro w hSw; (try dsimp only at hSw); go_simp <;> with_reducible rfl
  try simp only [Act.put, List.getElem_toArray, List.getElem_cons_succ, List.getElem_cons_zero, List.setIfInBounds_toArray, List.set_cons_zero, List.set_cons_succ]
  refine wpAnyH_take (i := 3) (v := ?_) rfl (by kernel_rfl) (by kernel_rfl) (by kernel_rfl) (fun _ _ _ h => h) (Or.inl ⟨by rfl, ?_⟩) (by assumption) ?_
  rotate_left
  · intro w hSw; (try dsimp only at hSw); go_simp <;> with_reducible rfl
  try simp only [Act.put, List.getElem_toArray, List.getElem_cons_succ, List.getElem_cons_zero, List.setIfInBounds_toArray, List.set_cons_zero, List.set_cons_succ]
  refine wpAnyH_take (i := 4) (v := ?_) rfl (by kernel_rfl) (by kernel_rfl) (by kernel_rfl) (fun _ _ _ h => h) (Or.inl ⟨by rfl, ?_⟩) (by assumption) ?_
  rotate_left
  · intro w hSw; (try dsimp only at hSw); go_simp <;> with_reducible rfl
  try simp only [Act.put, List.getElem_toArray, List.getElem_cons_succ, List.getElem_cons_zero, List.setIfInBounds_toArray, List.set_cons_zero, List.set_cons_succ]
  refine wpAnyH_ready (rs := [5]) (by kernel_rfl) (by simp) ?_
  refine AllReadyH.cons rfl (fun K hK => ?_) AllReadyH.nil
  go_simp
  (go_at_call 51; refine (shuffle C4.out.cur (HT.out.l.below RX.out.bel (Nat.le_refl _)) RX.out.bel.size (by have := HAX.out.1; omega)).mono ?_; rintro e w5 ⟨v', A, rfl, hp, ho, hc, hk⟩; have HP := Lib.hid hp; have C5 := Lib.hid (C4.out.drawn hk hc ho); clear r0 r1 r2 s0 s1 s2 u0 u1 u2 RX hp ho hc hk; have RX := Lib.hid (R0.out.step (HKB.out _ C5.out.kept)); obtain ⟨⟨r0, r1, r2⟩, -⟩ := RX.out.at (r := w.heap.size) (a := .int .i64 k) (b := .int .i64 p) (c := .int .i64 q) (by simp); obtain ⟨⟨s0, s1, s2⟩, -⟩ := RX.out.at (r := w.heap.size + 1) (a := .slice al m1 cl) (b := .slice ad m2 cd) (c := .slice ax m3 cx) (by simp); obtain ⟨⟨u0, u1, u2⟩, -⟩ := C5.out.at (r := ub) (a := .slice a1 m1 c1) (b := .slice a2 m2 c2) (c := .slice a3 m4 c3) (by simp))
  go_wp2_with fail
  refine hK.out _ _ (by (try dsimp only); exact ⟨r0, r1, r2, s0, s1, s2, u0, u1, u2⟩) (fun hHeld => ?_)
  clear hK K
  try simp only [Act.put, List.getElem_toArray, List.getElem_cons_succ, List.getElem_cons_zero, List.setIfInBounds_toArray, List.set_cons_zero, List.set_cons_succ]
  refine wpAnyH_ready (rs := [6]) (by kernel_rfl) (by simp) ?_
  refine AllReadyH.cons rfl (fun K hK => ?_) AllReadyH.nil
  go_simp
  (go_at_call 50; refine (permute_spec (k := k) (p := p) (q := q) (L := L) (D := D) (X := Y) (labels := A) ⟨C5.out.rd (u := .slice a1 m1 c1) (xs := L) (by simp), C5.out.rd (u := .slice a2 m2 c2) (xs := D) (by simp), C5.out.rd (u := .slice a3 m4 c3) (xs := Y) (by simp)⟩ (C5.out.rd (u := v') (xs := A) (by simp)) (Nat.le_refl _) HTY.out (setV_perm HP.out HAX.out.2.2.2.2)).mono ?_; rintro e w6 ⟨l', d', x', rfl, ho, hb⟩; have HB6 := Lib.hid hb; have hlt := C5.out.size; have hne : ub ≠ w.heap.size + 1 + 1 := (by have h1 := (R0.out.bx (w.heap.size + 1 + 1, nilV, nilV, nilV) (by simp)).lt; have h2 := HUB.out; omega); obtain ⟨b1, g1, rfl, -⟩ := ints_form ho.rows.1.rd; obtain ⟨b2, g2, rfl, -⟩ := ints_form ho.rows.2.1.rd; obtain ⟨b3, g3, rfl, -⟩ := ints_form ho.rows.2.2.rd; obtain ⟨q2, hq2⟩ : ∃ m, m = (dimsVia L D A).length := ⟨_, rfl⟩; obtain ⟨q3, hq3⟩ : ∃ m, m = (permX (widthI k q).toNat L D Y A (prodL D).toNat).length := ⟨_, rfl⟩; have hqA : A.length = m1 := (by rw [HP.out.length_eq, HLM.out.1]); rw [hqA, ← hq2, ← hq3] at ho ⊢; have HO := Lib.hid ho; have RZ := Lib.hid ((RX.out.step hb).permB (List.Perm.refl _)); clear r0 r1 r2 s0 s1 s2 hq2 hq3 hqA ho RX; have RX := RZ; obtain ⟨⟨r0, r1, r2⟩, -⟩ := RX.out.at (r := w.heap.size) (a := .int .i64 k) (b := .int .i64 p) (c := .int .i64 q) (by simp); obtain ⟨⟨s0, s1, s2⟩, -⟩ := RX.out.at (r := w.heap.size + 1) (a := .slice al m1 cl) (b := .slice ad m2 cd) (c := .slice ax m3 cx) (by simp); have C6 := Lib.hid (C5.out.step hb); clear u0 u1 u2 hb; obtain ⟨⟨u0, u1, u2⟩, -⟩ := C6.out.at (r := ub) (a := .slice a1 m1 c1) (b := .slice a2 m2 c2) (c := .slice a3 m4 c3) (by simp))
  go_wp2_with fail
  refine hK.out _ _ (by (try dsimp only); exact ⟨r0, r1, r2, s0, s1, s2, u0, u1, u2⟩) (fun hHeld => ?_)
  clear hK K
  try simp only [Act.put, List.getElem_toArray, List.getElem_cons_succ, List.getElem_cons_zero, List.setIfInBounds_toArray, List.set_cons_zero, List.set_cons_succ]
  refine wpAnyH_ready (rs := [7]) (by kernel_rfl) (by simp) ?_
  refine AllReadyH.cons rfl (fun K hK => ?_) AllReadyH.nil
  (obtain ⟨⟨o0, o1, o2⟩, f0, f1, f2⟩ := RX.out.at (r := w.heap.size + 1 + 1) (a := nilV) (b := nilV) (c := nilV) (by simp))
  go_simp
  (clear r0 r1 r2 s0 s1 s2; have u0 := set3_far (a := .slice b1 m1 g1) (b := .slice b2 q2 g2) (c := .slice b3 q3 g3) hne u0; have u1 := set3_far (a := .slice b1 m1 g1) (b := .slice b2 q2 g2) (c := .slice b3 q3 g3) hne u1; have u2 := set3_far (a := .slice b1 m1 g1) (b := .slice b2 q2 g2) (c := .slice b3 q3 g3) hne u2; have RY := Lib.hid (RX.out.set3 (.slice b1 m1 g1) (.slice b2 q2 g2) (.slice b3 q3 g3)); obtain ⟨⟨r0, r1, r2⟩, -⟩ := RY.out.at (r := w.heap.size) (a := .int .i64 k) (b := .int .i64 p) (c := .int .i64 q) (by simp); obtain ⟨⟨s0, s1, s2⟩, -⟩ := RY.out.at (r := w.heap.size + 1) (a := .slice al m1 cl) (b := .slice ad m2 cd) (c := .slice ax m3 cx) (by simp))
  refine hK.out _ _ (by (try dsimp only); exact ⟨r0, r1, r2, s0, s1, s2, u0, u1, u2⟩) (fun hHeld => ?_)
  clear hK K
  try simp only [Act.put, List.getElem_toArray, List.getElem_cons_succ, List.getElem_cons_zero, List.setIfInBounds_toArray, List.set_cons_zero, List.set_cons_succ]
  refine wpAnyH_done (by kernel_rfl) ?_ _
  all_goals
    have hz1 := (R0.out.step (HKB.out _ C5.out.kept)).bel.size
    have lt1 : w.heap.size + 1 + 1 < w5.heap.size := ((R0.out.step (HKB.out _ C5.out.kept)).bx (w.heap.size + 1 + 1, nilV, nilV, nilV) (by simp)).lt
    have HF := Lib.hid (HO.out.set3 lt1 (.slice b1 m1 g1) (.slice b2 q2 g2) (.slice b3 q3 g3))
    go_wp2
    refine bodyPost_ret (v := tenV (.slice b1 m1 g1) (.slice b2 q2 g2) (.slice b3 q3 g3)) (by simp [results, Tryz.results17, go_sem, o0, o1, o2]) rfl ?_
    refine ⟨A, Y, HP.out, HTY.out, NewS.of (f := id) (HF.out.wide hz1 (by simp) (by simp)) RY.out.bel⟩
end Go.Proofs.YtfdjlahaiogabaaGreat
namespace Go.Proofs.YtfdjlahaiogabaaGreat
set_option maxRecDepth 20000
open Go.RowKit

theorem NewS.of2 {w w' : World} {L D X : List Int} {e : Ending} (h : NewTen2 w L D X true e w') : NewS w L D X (fun t => .tuple #[t, .bool true]) e w' := by
  obtain ⟨lv, dv, xv, rfl, ho, hb⟩ := h
  exact NewS.of (f := fun t => .tuple #[t, .bool true]) ho hb
theorem NewS.of1 {w w' : World} {L D X : List Int} {e : Ending} (h : NewTen w L D X e w') : NewS w L D X id e w' := by
  obtain ⟨lv, dv, xv, rfl, ho, hb⟩ := h
  exact NewS.of (f := id) ho hb
theorem ten_len {k p q : Int} {L D X : List Int} (h : tensorB k p q L D X = true) : LenT L D X := by
  have h1 := ten_lens h
  exact ⟨by omega, by omega, by omega⟩
theorem ten_ints {k p q : Int} {L D X : List Int} (h : tensorB k p q L D X = true) : allI L := fun z hz => by
  have := (tensor_axes h).2.2.1 z hz
  exact ⟨by omega, by omega⟩
section
variable {B B' : Nat} {lv dv xv lu du xu : Value} {k p q : Int} {L D X L' D' X' Y : List Int} {w : World}
theorem add_yes (h : fitB k p q L D X L' D' X' = true) (he : Y = joinTenL k p q L D X L' D' X' false) (ha : RdT B w lv dv xv L D X) (hb : RdT B' w lu du xu L' D' X') (hB : B ≤ w.heap.size) (hB' : B' ≤ w.heap.size) :
    Calls Tryz.prog 13 #[ringV k p q, tenV lv dv xv, tenV lu du xu] w (NewS w L D Y fun t => .tuple #[t, .bool true]) := by
  have hp := both_parts h
  have hq := add_tensors_impl (k := k) (p := p) (q := q) ha hb hB hB' (ten_len hp.1) (ten_len hp.2.1) (ten_ints hp.1) (ten_ints hp.2.1)
  rw [h] at hq
  simp only [if_true] at hq
  rw [he]
  exact hq.mono fun e w' h => NewS.of2 h
theorem mul_yes (h : fitB k p q L D X L' D' X' = true) (he : Y = joinTenL k p q L D X L' D' X' true) (ha : RdT B w lv dv xv L D X) (hb : RdT B' w lu du xu L' D' X') (hB : B ≤ w.heap.size) (hB' : B' ≤ w.heap.size) :
    Calls Tryz.prog 20 #[ringV k p q, tenV lv dv xv, tenV lu du xu] w (NewS w L D Y fun t => .tuple #[t, .bool true]) := by
  have hp := both_parts h
  have hq := multiply_tensors_impl (k := k) (p := p) (q := q) ha hb hB hB' (ten_len hp.1) (ten_len hp.2.1) (ten_ints hp.1) (ten_ints hp.2.1)
  rw [h] at hq
  simp only [if_true] at hq
  rw [he]
  exact hq.mono fun e w' h => NewS.of2 h
theorem pair_lin {B'' : Nat} {kv : Value} {keep PL PD : List Int} (h : pairB k p q L D X L' D' X' keep = true) (eL : keepL (joinL L L') keep = PL) (eD : keepD (joinL L L') (joinD L D L' D') keep = PD) (eX : pairL k p q L D X L' D' X' keep = Y) (ha : RdT B w lv dv xv L D X) (hb : RdT B' w lu du xu L' D' X') (hk : Rd B'' w kv (ints keep)) (hB : B ≤ w.heap.size) (hB' : B' ≤ w.heap.size) (hB'' : B'' ≤ w.heap.size) (hkl : keep.length ≤ 4096) :
    Calls Tryz.prog 21 #[ringV k p q, tenV lv dv xv, tenV lu du xu, kv] w (NewS w PL PD Y fun t => .tuple #[t, .bool true]) := by
  have hp := pairB_parts h
  have hq := contract_pair_impl (k := k) (p := p) (q := q) ha hb hk hB hB' hB'' (ten_len hp.1) (ten_len hp.2.1) (by omega) (ten_ints hp.1) (ten_ints hp.2.1)
  rw [h, eL, eD, eX] at hq
  simp only [if_true] at hq
  exact hq.mono fun e w' h => NewS.of2 h
theorem scale_yes {gv : Value} {x : List Int} (h : scaleB k p q L D X x = true) (he : Y = scaleTenL k p q D X x) (ha : RdT B w lv dv xv L D X) (hg : Rd B' w gv (ints x)) (hB : B ≤ w.heap.size) (hB' : B' ≤ w.heap.size) (hx : x.length ≤ 4096) :
    Calls Tryz.prog 19 #[ringV k p q, tenV lv dv xv, gv] w (NewS w L D Y id) := by
  have ht : tensorB k p q L D X = true := by
    unfold scaleB at h
    simp only [Bool.and_eq_true] at h
    exact h.1
  have hT : RdT w.heap.size w lv dv xv L D X := ⟨ha.l.mono hB, ha.d.mono hB, ha.x.mono hB⟩
  have hq := scale_tensor_impl (k := k) (p := p) (q := q) hT (hg.mono hB') (Nat.le_refl _) (ten_len ht) (by omega) (ten_ints ht)
  rw [h] at hq
  simp only [if_true] at hq
  rw [he]
  exact hq.mono fun e w' h => NewS.of1 h
theorem zero_yes (h : zeroTenB k p q L D = true) (he : Y = zeroTenL k p q D) (hT : tensorB k p q L D X = true) (hl : Rd B w lv (ints L)) (hd : Rd B w dv (ints D)) (hB : B ≤ w.heap.size) :
    Calls Tryz.prog 9 #[ringV k p q, lv, dv] w (NewS w L D Y fun t => .tuple #[t, .bool true]) := by
  have hn := ten_lens hT
  have hq := zero_tensor_impl (k := k) (p := p) (q := q) hl hd hB (by omega) (by omega) (ten_ints hT)
  rw [h] at hq
  simp only [if_true] at hq
  rw [he]
  exact hq.mono fun e w' h => by
    obtain ⟨lv, dv, xv, rfl, ho, hb⟩ := h
    exact NewS.of (f := fun t => .tuple #[t, .bool true]) ho hb
theorem same_lin (h : sameB k p q L D X L' D' X' = true) (ht : tensorB k p q L D X = true) (hu : tensorB k p q L' D' X' = true) (ha : RdT B w lv dv xv L D X) (hb : RdT B' w lu du xu L' D' X') (hB : B ≤ w.heap.size) (hB' : B' ≤ w.heap.size) :
    Calls Tryz.prog 15 #[ringV k p q, tenV lv dv xv, tenV lu du xu] w fun e w' => e = .returned (.bool true) ∧ Below w.heap.size w w' := by
  have hq := same_tensor_impl (k := k) (p := p) (q := q) ha hb hB hB' (ten_len ht) (ten_len hu) (ten_ints ht) (ten_ints hu)
  rw [h] at hq
  exact hq
end
end Go.Proofs.YtfdjlahaiogabaaGreat
