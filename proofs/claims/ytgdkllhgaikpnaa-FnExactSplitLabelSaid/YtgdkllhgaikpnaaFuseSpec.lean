
/- spec.FuseLabels. -/
import Derived.Test.YtgdkllhgaikpnaaPermSpec
import Derived.Test.YtgdkllhgaikpnaaSliceMath
import Derived.Test.YtgdkllhgaikpnaaJoinMath
import Derived.Test.YtgdkllhgaikpnaaLet
import Derived.Test.YtgdkllhgaikpnaaAlong
import Derived.Deep.AppendLies
namespace Go.Proofs.Ytgdkllhgaikpnaa
set_option maxRecDepth 20000
open Go.RowKit

/-- Some different labels of the list. -/
def SubV (L F : List Int) : Prop := SetTo L F F.length
noncomputable instance (L F : List Int) : Decidable (SubV L F) := Classical.propDecidable _
noncomputable def subB (L F : List Int) : Bool := decide (SubV L F)
theorem subB_true {L F : List Int} : subB L F = true ↔ SubV L F := by unfold subB; exact decide_eq_true_iff
theorem SubV.mem {L F : List Int} (h : SubV L F) {n : Int} (hn : n ∈ F) : n ∈ L := by
  obtain ⟨i, hi⟩ := List.getElem?_of_mem hn
  exact (h i n (List.getElem?_eq_some_iff.1 hi).1 hi).1
theorem SubV.nodup {L F : List Int} (h : SubV L F) : F.Nodup := List.pairwise_iff_getElem.2 fun i j hi hj hij he =>
  (h j F[j] hj (List.getElem?_eq_getElem hj)).2 (List.mem_iff_getElem?.2 ⟨i, by rw [List.getElem?_take_of_lt hij, List.getElem?_eq_getElem hi, he]⟩)
theorem subV_of {L F : List Int} (hn : F.Nodup) (hs : ∀ n ∈ F, n ∈ L) : SubV L F := fun i n _ hi => ⟨hs n (List.mem_of_getElem? hi), fun hm => by
  obtain ⟨j, hj⟩ := List.mem_iff_getElem?.1 hm
  have hlt := (List.getElem?_eq_some_iff.1 hj).1
  rw [List.length_take] at hlt
  rw [List.getElem?_take_of_lt (by omega)] at hj
  obtain ⟨h1, e1⟩ := List.getElem?_eq_some_iff.1 hi
  obtain ⟨h2, e2⟩ := List.getElem?_eq_some_iff.1 hj
  have := (List.getElem_inj (h₀ := h1) (h₁ := h2) hn).1 (by rw [e1, e2])
  omega⟩
/-- The labels that stay, then those that go. -/
def regL (L F : List Int) : List Int := restL F L ++ F
noncomputable def regX (k q : Int) (L D X F : List Int) : List Int := permDataL k q L D X (regL L F)
theorem rest_perm {L F : List Int} (hn : L.Nodup) (h : SubV L F) : (regL L F).Perm L := by
  have hp : (L.filter (fun n => decide (n ∈ F))).Perm F := by
    refine (List.perm_ext_iff_of_nodup (hn.filter _) h.nodup).2 fun n => ?_
    simp only [List.mem_filter, decide_eq_true_eq]
    exact ⟨fun h => h.2, fun hF => ⟨h.mem hF, hF⟩⟩
  have h2 := (List.filter_append_perm (fun n => decide (n ∈ F)) L)
  have e : restL F L = L.filter (fun n => !decide (n ∈ F)) := by
    unfold restL
    exact List.filter_congr fun n _ => by simp
  unfold regL
  rw [e]
  exact (List.perm_append_comm.trans ((hp.symm.append_right _))).trans h2
theorem rest_setV {L F : List Int} (hn : L.Nodup) : SetV L (regL L F) ↔ SubV L F := by
  constructor
  · intro h
    have hp := h.perm
    have hnd : (regL L F).Nodup := hp.symm.nodup hn
    unfold regL at hnd
    exact subV_of (List.nodup_append.1 hnd).2.1 fun n hF => hp.subset (by unfold regL; exact List.mem_append_right _ hF)
  · intro h
    exact setV_perm (rest_perm hn h) hn
def fuseL (L F : List Int) (c : Int) : List Int := restL F L ++ [c]
def fuseD (L D F : List Int) : List Int := dimsVia L D (restL F L) ++ [prodL (dimsVia L D F)]
noncomputable def fuseB (k p q : Int) (L D X F : List Int) (c : Int) : Bool := tensorB k p q L D X && (decide (1 ≤ F.length) && (subB L F && decide (0 ≤ sizeI (fuseL L F c) (fuseD L D F))))
theorem dims_app (L D A B : List Int) : dimsVia L D (A ++ B) = dimsVia L D A ++ dimsVia L D B := by simp [dimsVia]
/-- The dimensions of the labels that go. -/
theorem fuse_dims {k p q : Int} {L D X F : List Int} (ht : tensorB k p q L D X = true) (hs : SubV L F) : (∀ d ∈ dimsVia L D F, 1 ≤ d ∧ d ≤ 8) ∧ capI (dimsVia L D F) = prodL (dimsVia L D F) ∧ prodL (dimsVia L D (restL F L)) * prodL (dimsVia L D F) = prodL D ∧ 1 ≤ prodL (dimsVia L D (restL F L)) ∧ 1 ≤ prodL (dimsVia L D F) ∧ prodL (dimsVia L D F) ≤ 4096 := by
  have FT := TF.of ht
  have hP := PF.of ht ((rest_setV FT.ax.2.2.2.2).2 hs)
  have h1 := hP.dims
  unfold regL at h1
  rw [dims_app] at h1
  have ha : ∀ d ∈ dimsVia L D (restL F L), 1 ≤ d ∧ d ≤ 8 := fun d hd => h1.1 d (List.mem_append_left _ hd)
  have hb : ∀ d ∈ dimsVia L D F, 1 ≤ d ∧ d ≤ 8 := fun d hd => h1.1 d (List.mem_append_right _ hd)
  have p1 := prodL_pos (fun d hd => (ha d hd).1)
  have p2 := prodL_pos (fun d hd => (hb d hd).1)
  have h2 := h1.2.1
  rw [prodL_app] at h2
  have h3 := FT.pr
  have h4 := FT.n1
  have h5 : 1 * prodL (dimsVia L D F) ≤ prodL (dimsVia L D (restL F L)) * prodL (dimsVia L D F) := Int.mul_le_mul_of_nonneg_right p1 (by omega)
  have h6 := (capI_is (fun d hd => (hb d hd).1)).1
  exact ⟨hb, by omega, by omega, p1, p2, by omega⟩

set_option maxHeartbeats 1600000 in
theorem rest_spec {B m m2 m3 mf cl cd cx cf : Nat} {al ad ax af : Option Addr} {L D X F : List Int} {w : World} (ha : RdT B w (.slice al m cl) (.slice ad m2 cd) (.slice ax m3 cx) L D X) (hf : Rd B w (.slice af mf cf) (ints F)) (hB : B ≤ w.heap.size) (hm : L.length = m) (h12 : m ≤ 1048576) (hmf : F.length ≤ 281474976710656) :
    Calls Try.prog 45 #[tenV (.slice al m cl) (.slice ad m2 cd) (.slice ax m3 cx), .slice af mf cf] w (NewRow w (restL F L)) := by
  have HT := Lib.hid ha
  have HF := Lib.hid hf
  have HB := Lib.hid hB
  have HM := Lib.hid hm
  obtain ⟨i0, hi, hz0, hz1, hz2⟩ := info_parts infoInt
  have J0 := Lib.hid hi
  have J1 := Lib.hid hz0
  have J2 := Lib.hid hz1
  have J3 := Lib.hid hz2
  have S0 : Hid (Rs w (w.alloc (.cells #[.slice al m cl, .slice ad m2 cd, .slice ax m3 cx] 28)) [(w.heap.size, .slice al m cl, .slice ad m2 cd, .slice ax m3 cx)] []) := Lib.hid ((Rs.start w).box (.slice al m cl) (.slice ad m2 cd) (.slice ax m3 cx) 28)
  have S1 := S0.out.lit
  simp only [World.size_alloc] at S1
  have S2 : Hid (Rs w _ [(w.heap.size, .slice al m cl, .slice ad m2 cd, .slice ax m3 cx)] [(.slice (some ⟨w.heap.size + 1, 0, none⟩) 0 0, restL F (L.take 0))]) := Lib.hid S1
  obtain ⟨⟨s0, s1, s2⟩, -⟩ := S2.out.at (r := w.heap.size) (a := .slice al m cl) (b := .slice ad m2 cd) (c := .slice ax m3 cx) (by simp)
  clear ha hf hB hm hi hz0 hz1 hz2 S0 S1
  go_enter Try.func45, Try.ntmps45
  go_wp2
  generalize hbs : [(w.heap.size, Value.slice al m cl, Value.slice ad m2 cd, Value.slice ax m3 cx)] = bs at S2
  go_loopw [5, 12] (fun u i wr => ∃ (j na ca : Nat) (ga : Option Addr), j ≤ m ∧ i = .int .i64 j ∧ u = .slice ga na ca ∧ na ≤ j ∧ Hid ((restL F (L.take j)).length = na) ∧ Hid (Rs w wr bs [(.slice ga na ca, restL F (L.take j))])) (fun _ i _ => m - (intOf i).toNat)
  case atStart => exact ⟨0, 0, 0, _, by omega, rfl, rfl, by omega, by show _ = 0; simp [restL], S2⟩
  case round =>
    clear S2 s0 s1 s2
    obtain ⟨j, na, ca, ga, hj, rfl, rfl, hna, HNA, HR⟩ := hrel
    by_cases hlt : j < m
    · obtain ⟨n, X1⟩ : ∃ n, Hid (L[j]? = some n) := ⟨_, List.getElem?_eq_getElem (by rw [HM.out]; exact hlt)⟩
      obtain ⟨b, off, rfl, -, e1⟩ := (HT.out.l.below HR.out.bel HB.out).cellAt X1.out
      have HFI := Lib.hid (find_spec n (HF.out.below HR.out.bel HB.out) hmf)
      by_cases hmem : n ∈ F
      · have hz : ¬ findI F n < 0 := fun h => findI_neg.1 h hmem
        have q1 : decide (findI F n < 0) = false := by simpa using hz
        have E1 : Hid (restL F (L.take (j + 1)) = restL F (L.take j)) := Lib.hid (rest_old X1.out hmem)
        obtain ⟨z, hzz⟩ : ∃ z, z = findI F n := ⟨_, rfl⟩
        rw [← hzz] at HFI q1
        clear hz hmem hzz
        go_wp2_with fail
        refine HFI.out.mono ?_
        rintro e w1 ⟨rfl, rfl⟩
        go_wp2
        go_roundw
        case rel => exact ⟨j + 1, na, ca, ga, by omega, by go_num, rfl, by omega, by rw [E1.out]; exact HNA, by rw [E1.out]; exact HR⟩
        case measure => simp [intOf]; omega
      · have hz : findI F n < 0 := findI_neg.2 hmem
        have q1 : decide (findI F n < 0) = true := by simpa using hz
        have E1 : Hid (restL F (L.take (j + 1)) = restL F (L.take j) ++ [n]) := Lib.hid (rest_new X1.out hmem)
        have HNA2 : Hid ((restL F (L.take (j + 1))).length = na + 1) := Lib.hid (by rw [E1.out, List.length_append, HNA.out]; rfl)
        obtain ⟨z, hzz⟩ : ∃ z, z = findI F n := ⟨_, rfl⟩
        rw [← hzz] at HFI q1
        have A1 := Lib.hid (HR.out.alloc (.cells #[.int .i64 n] 3))
        have O1 := Lib.hid (A1.out.row (List.mem_cons_self) HNA.out : World.ownsRow _ w.heap.size 3 1 (.slice ga na ca) na (ints (restL F (L.take j))))
        clear hz hmem hzz
        go_wp2_with fail
        refine HFI.out.mono ?_
        rintro e w1 ⟨rfl, rfl⟩
        go_wp2_with (at_builtin; go_must (refine wpList_append_lies _ rfl _ _ 26 rfl w.heap.size 3 i0 (.int .i64 0) 1 8 Try.underlying26 J0.out J1.out J2.out J3.out rfl (by decide) _ na (ints (restL F (L.take j))) rfl O1.out ⟨wr.heap.size, 0, none⟩ 1 1 [.int .i64 n] rfl rfl (cell_one_new _ _ _) ?c2 (by decide) ?c3 ?c4 ?c5 _ rfl ?_))
        case c2 => first | rfl | (intro u hu; simp at hu; subst hu; rfl)
        case c3 => unfold maxLen; omega
        case c4 => omega
        case c5 => exact A1.out.bel.size
        intro g1 cap1 w2 hown hgrow hl1 _
        have R2 := Lib.hid (A1.out.app1 HNA.out hown hgrow (by rw [World.size_alloc]; exact hl1))
        rw [← E1.out] at R2
        clear hown hgrow hl1 O1 A1
        go_wp2
        go_roundw
        case rel => exact ⟨j + 1, na + 1, cap1, _, by omega, by go_num, rfl, by omega, HNA2, R2⟩
        case measure => simp [intOf]; omega
    · obtain rfl : j = m := by omega
      have E1 : Hid (L.take j = L) := Lib.hid (List.take_of_length_le (by rw [HM.out]; exact Nat.le_refl _))
      rw [E1.out] at HR
      go_wp2
      go_ret
      exact ⟨_, rfl, HR.out.own1 (v := .slice ga na ca) (by simp), HR.out.bel⟩
theorem reg_tensor {k p q : Int} {L D X F : List Int} (ht : tensorB k p q L D X = true) (hs : SubV L F) : (regX k q L D X F).length = (prodL D).toNat * (widthI k q).toNat ∧ (regX k q L D X F).length ≤ 24576 := by
  have FT := TF.of ht
  have hP := PF.of ht ((rest_setV FT.ax.2.2.2.2).2 hs)
  have h1 := hP.len (prodL D).toNat
  refine ⟨h1, ?_⟩
  have e : (regX k q L D X F).length = (prodL D).toNat * (widthI k q).toNat := h1
  rw [e]
  exact Nat.le_trans (Nat.mul_le_mul hP.n1.2 hP.w6.2) (by omega)
theorem regX_small {k p q : Int} {L D X F : List Int} (ht : tensorB k p q L D X = true) (hs : SubV L F) : (regX k q L D X F).length ≤ 281474976710656 := Nat.le_trans (reg_tensor ht hs).2 (by omega)
theorem Rd.drop {B : Nat} {w : World} {b off m cap : Nat} {xs : List Int} (h : Rd B w (.slice (some ⟨b, off, none⟩) m cap) (ints xs)) (j : Nat) (hj : j < xs.length) : Rd B w (.slice (some ⟨b, off + j, none⟩) (m - j) (cap - j)) (ints (xs.drop j)) := by
  rcases h.ints_cases with ⟨rfl, -⟩ | ⟨b2, off2, ca, e, hb, hc, hcell⟩
  · simp at hj
  · cases e
    refine .inr ⟨b, off + j, cap - j, by rw [ints_len, List.length_drop], hb, by rw [ints_len, List.length_drop]; omega, fun i u hi => ?_⟩
    unfold ints at hi
    rw [List.getElem?_map] at hi
    obtain ⟨x, hx, rfl⟩ := Option.map_eq_some_iff.1 hi
    rw [List.getElem?_drop] at hx
    obtain ⟨h1, h2⟩ := List.getElem?_eq_some_iff.1 hx
    rw [Nat.add_assoc, hcell _ h1, h2]
/-- Where a list that is not empty lies. -/
theorem rd_some {B : Nat} {w : World} {a : Option Addr} {m cap : Nat} {xs : List Int} (h : Rd B w (.slice a m cap) (ints xs)) (hm : xs.length = m) (h0 : 0 < m) : ∃ b off, a = some ⟨b, off, none⟩ ∧ Hid (∀ j u, (ints xs)[j]? = some u → w.cell? ((⟨b, off, none⟩ : Addr).add j) = some u) := by
  rcases h.ints_cases with ⟨rfl, -⟩ | ⟨b, off, ca, e, -, -, hc⟩
  · simp at hm; omega
  · cases e
    exact ⟨b, off, rfl, Lib.hid (news_at hc)⟩
theorem sub_not {L F : List Int} {j : Nat} {n : Int} (hn : F[j]? = some n) (h : n ∉ L ∨ n ∈ F.take j) : subB L F = false := by
  cases hb : subB L F with
  | false => rfl
  | true =>
    have h1 := subB_true.1 hb j n (List.getElem?_eq_some_iff.1 hn).1 hn
    rcases h with h | h
    · exact absurd h1.1 h
    · exact absurd h h1.2
theorem sub_end {L F : List Int} (h : SetTo L F F.length) : subB L F = true := subB_true.2 h
set_option maxHeartbeats 16000000 in
theorem fuse_labels_spec {B : Nat} {lv dv xv fv : Value} {k p q c : Int} {L D X F : List Int} {w : World} (ha : RdT B w lv dv xv L D X) (hf : Rd B w fv (ints F)) (hB : B ≤ w.heap.size) (hn : LenT L D X) (hmf : F.length ≤ 1048576) :
    Calls Try.prog 18 #[ringV k p q, tenV lv dv xv, fv, .int .i64 c] w (NewTen2 w (if fuseB k p q L D X F c = true then fuseL L F c else []) (if fuseB k p q L D X F c = true then fuseD L D F else []) (if fuseB k p q L D X F c = true then regX k q L D X F else []) (fuseB k p q L D X F c)) := by
  have HT : Hid (RdT w.heap.size w lv dv xv L D X) := Lib.hid ⟨ha.l.mono hB, ha.d.mono hB, ha.x.mono hB⟩
  have HF : Hid (Rd w.heap.size w fv (ints F)) := Lib.hid (hf.mono hB)
  obtain ⟨al, cl, rfl, -⟩ := ints_form ha.l
  obtain ⟨ad, cd, rfl, -⟩ := ints_form ha.d
  obtain ⟨ax, cx, rfl, -⟩ := ints_form ha.x
  obtain ⟨af, cf, rfl, -⟩ := ints_form hf
  obtain ⟨m1, hm1⟩ : ∃ m, m = L.length := ⟨_, rfl⟩
  obtain ⟨m2, hm2⟩ : ∃ m, m = D.length := ⟨_, rfl⟩
  obtain ⟨m3, hm3⟩ : ∃ m, m = X.length := ⟨_, rfl⟩
  obtain ⟨mf, hmm⟩ : ∃ m, m = F.length := ⟨_, rfl⟩
  rw [← hm1, ← hm2, ← hm3] at HT
  rw [← hmm] at HF hmf
  rw [← hm1, ← hm2, ← hm3, ← hmm]
  have HM := Lib.hid (And.intro hm1 (And.intro hm2 (And.intro hm3 hmm)))
  obtain ⟨i0, hi, hz0, hz1, hz2⟩ := info_parts infoInt
  have J0 := Lib.hid hi
  have J1 := Lib.hid hz0
  have J2 := Lib.hid hz1
  have J3 := Lib.hid hz2
  have R0 : Hid (Rs w (((w.alloc (.cells #[.int .i64 k, .int .i64 p, .int .i64 q] 31)).alloc (.cells #[.slice al m1 cl, .slice ad m2 cd, .slice ax m3 cx] 28)).alloc (.cells #[nilV, nilV, nilV] 28)) [(w.heap.size + 1 + 1, nilV, nilV, nilV), (w.heap.size + 1, .slice al m1 cl, .slice ad m2 cd, .slice ax m3 cx), (w.heap.size, .int .i64 k, .int .i64 p, .int .i64 q)] []) := by
    have h := ((((Rs.start w).box (.int .i64 k) (.int .i64 p) (.int .i64 q) 31).box (.slice al m1 cl) (.slice ad m2 cd) (.slice ax m3 cx) 28).box (nilV) (nilV) (nilV) 28)
    simp only [World.size_alloc] at h
    exact h
  have OKA := Lib.hid (fun (w1 : World) (hb : Below w.heap.size w w1) => tensor_ok_spec (k := k) (p := p) (n := q) (HT.out.below hb (Nat.le_refl _)) hb.size hn)
  obtain ⟨tb, htb⟩ : ∃ x, x = tensorB k p q L D X := ⟨_, rfl⟩
  obtain ⟨sb, hsb⟩ : ∃ x, x = subB L F := ⟨_, rfl⟩
  obtain ⟨s, hs⟩ : ∃ x, x = sizeI (fuseL L F c) (fuseD L D F) := ⟨_, rfl⟩
  obtain ⟨fb, hfb⟩ : ∃ x, x = fuseB k p q L D X F c := ⟨_, rfl⟩
  have HFB : Hid (fb = (tb && (decide (1 ≤ mf) && (sb && decide (0 ≤ s))))) := Lib.hid (by rw [hfb, htb, hsb, hs, hmm]; rfl)
  have HTB := Lib.hid htb
  have HSB := Lib.hid hsb
  have HS := Lib.hid hs
  rw [← htb] at OKA
  rw [← hfb]
  obtain ⟨zl, hzl⟩ : ∃ l, l = (if fb = true then fuseL L F c else []) := ⟨_, rfl⟩
  obtain ⟨zd, hzd⟩ : ∃ l, l = (if fb = true then fuseD L D F else []) := ⟨_, rfl⟩
  obtain ⟨zx, hzx⟩ : ∃ l, l = (if fb = true then regX k q L D X F else []) := ⟨_, rfl⟩
  have HNO : Hid (fb = false → zl = [] ∧ zd = [] ∧ zx = []) := Lib.hid (fun h => by subst h; exact ⟨hzl, hzd, hzx⟩)
  have HYES : Hid (fb = true → zl = fuseL L F c ∧ zd = fuseD L D F ∧ zx = regX k q L D X F) := Lib.hid (fun h => by subst h; exact ⟨hzl, hzd, hzx⟩)
  rw [← hzl, ← hzd, ← hzx]
  clear ha hf hB hn hm1 hm2 hm3 hmm htb hsb hs hfb hzl hzd hzx hi hz0 hz1 hz2
  obtain ⟨⟨r0, r1, r2⟩, -⟩ := R0.out.at (r := w.heap.size) (a := .int .i64 k) (b := .int .i64 p) (c := .int .i64 q) (by simp)
  obtain ⟨⟨s0, s1, s2⟩, -⟩ := R0.out.at (r := w.heap.size + 1) (a := .slice al m1 cl) (b := .slice ad m2 cd) (c := .slice ax m3 cx) (by simp)
  cases tb with
  | false =>
    obtain rfl : fb = false := by rw [HFB.out]; rfl
    go_enter Try.func18, Try.ntmps18
    go_wp2_with fail
    refine (OKA.out _ R0.out.bel).mono ?_
    clear r0 r1 r2 s0 s1 s2
    rintro e w1 ⟨rfl, hb⟩
    have R1 := Lib.hid (R0.out.step hb)
    clear hb
    obtain ⟨rfl, rfl, rfl⟩ := HNO.out (by simp)
    obtain ⟨⟨t0, t1, t2⟩, f0, f1, f2⟩ := R1.out.at (r := w.heap.size + 1 + 1) (a := nilV) (b := nilV) (c := nilV) (by simp)
    go_wp2
    refine bodyPost_ret (v := .tuple #[tenV nilV nilV nilV, .bool false]) (by simp [results, Try.results18, go_sem, t0, t1, t2]) rfl ?_
    exact NewTen2.nils (((R1.out.bel.setCell (by simp; omega) _).setCell (by simp; omega) _).setCell (by simp; omega) _)
  | true =>
  by_cases hf1 : mf < 1
  · have q1 : decide ((mf : Int) < 1) = true := by simp; omega
    obtain rfl : fb = false := by rw [HFB.out, decide_eq_false (show ¬ 1 ≤ mf by omega)]; simp
    go_enter Try.func18, Try.ntmps18
    go_wp2_with fail
    refine (OKA.out _ R0.out.bel).mono ?_
    clear r0 r1 r2 s0 s1 s2
    rintro e w1 ⟨rfl, hb⟩
    have R1 := Lib.hid (R0.out.step hb)
    clear hb
    obtain ⟨rfl, rfl, rfl⟩ := HNO.out (by simp)
    obtain ⟨⟨t0, t1, t2⟩, f0, f1, f2⟩ := R1.out.at (r := w.heap.size + 1 + 1) (a := nilV) (b := nilV) (c := nilV) (by simp)
    go_wp2
    refine bodyPost_ret (v := .tuple #[tenV nilV nilV nilV, .bool false]) (by simp [results, Try.results18, go_sem, t0, t1, t2]) rfl ?_
    exact NewTen2.nils (((R1.out.bel.setCell (by simp; omega) _).setCell (by simp; omega) _).setCell (by simp; omega) _)
  have q1 : decide ((mf : Int) < 1) = false := by simp; omega
  have FT := Lib.hid (TF.of HTB.out.symm)
  have h12 : m1 ≤ 12 := by rw [HM.out.1]; exact FT.out.ax.1
  go_enter Try.func18, Try.ntmps18
  go_wp2_with fail
  refine (OKA.out _ R0.out.bel).mono ?_
  clear r0 r1 r2 s0 s1 s2
  rintro e w1 ⟨rfl, hb⟩
  have R1 := Lib.hid (R0.out.step hb)
  clear hb R0 OKA
  go_wp2
  go_loopw [28] (fun i wr => ∃ j : Nat, j ≤ mf ∧ i = .int .i64 j ∧ Hid (SetTo L F j) ∧ w1 = wr) (fun i _ => mf - (intOf i).toNat)
  case atStart => exact ⟨0, by omega, rfl, fun i n hi => by omega, rfl⟩
  case round =>
    obtain ⟨j, hj, rfl, HI, rfl⟩ := hrel
    obtain ⟨⟨s0, s1, s2⟩, -⟩ := R1.out.at (r := w.heap.size + 1) (a := .slice al m1 cl) (b := .slice ad m2 cd) (c := .slice ax m3 cx) (by simp)
    by_cases hlt : j < mf
    · obtain ⟨n, N1⟩ : ∃ n, Hid (F[j]? = some n) := ⟨_, List.getElem?_eq_getElem (by rw [← HM.out.2.2.2]; exact hlt)⟩
      have HF1 := Lib.hid (HF.out.below R1.out.bel (Nat.le_refl _))
      obtain ⟨b2, off2, rfl, hbB, e2⟩ := HF1.out.cellAt N1.out
      have hcap : j ≤ cf := by
        rcases HF1.out.ints_cases with ⟨h, -⟩ | ⟨b, off, ca, e, hb, hcc, hc⟩
        · have := HM.out.2.2.2; rw [h] at this; simp at this; omega
        · cases e; rw [← HM.out.2.2.2] at hcc; omega
      have hfx := find_spec n (HT.out.l.below R1.out.bel (Nat.le_refl _)) (by rw [← HM.out.1]; omega)
      have hfy := find_spec n (HF1.out.take j (by rw [← HM.out.2.2.2]; omega)) (by rw [List.length_take, ← HM.out.2.2.2]; omega)
      by_cases h3 : n ∈ L
      case neg =>
        obtain ⟨z, hz, hz0⟩ : ∃ z, findI L n = z ∧ z < 0 := ⟨_, rfl, findI_neg.2 h3⟩
        rw [hz] at hfx
        have HG := Lib.hid hfx
        obtain rfl : sb = false := by rw [HSB.out]; exact sub_not N1.out (.inl h3)
        obtain rfl : fb = false := by rw [HFB.out]; simp
        have q2 : decide (z < (0 : Int)) = true := by simpa using hz0
        clear hfx hfy hz h3
        go_wp2_with fail
        refine HG.out.mono ?_
        rintro e w2 ⟨rfl, rfl⟩
        obtain ⟨rfl, rfl, rfl⟩ := HNO.out (by simp)
        obtain ⟨⟨t0, t1, t2⟩, f0, f1, f2⟩ := R1.out.at (r := w.heap.size + 1 + 1) (a := nilV) (b := nilV) (c := nilV) (by simp)
        go_wp2
        refine bodyPost_ret (v := .tuple #[tenV nilV nilV nilV, .bool false]) (by simp [results, Try.results18, go_sem, t0, t1, t2]) rfl ?_
        exact NewTen2.nils (((R1.out.bel.setCell (by simp; omega) _).setCell (by simp; omega) _).setCell (by simp; omega) _)
      case pos =>
        obtain ⟨z, hz, hz0⟩ : ∃ z, findI L n = z ∧ 0 ≤ z := ⟨_, rfl, Int.not_lt.1 (fun h => findI_neg.1 h h3)⟩
        rw [hz] at hfx
        have HG := Lib.hid hfx
        have q2 : decide (z < (0 : Int)) = false := by simpa using hz0
        have HMM := Lib.hid h3
        clear hfx hz h3
        by_cases h4 : n ∈ F.take j
        · obtain ⟨u, hu, hu0⟩ : ∃ u, findI (F.take j) n = u ∧ 0 ≤ u := ⟨_, rfl, Int.not_lt.1 (fun h => findI_neg.1 h h4)⟩
          rw [hu] at hfy
          have HH := Lib.hid hfy
          obtain rfl : sb = false := by rw [HSB.out]; exact sub_not N1.out (.inr h4)
          obtain rfl : fb = false := by rw [HFB.out]; simp
          have q3 : decide ((0 : Int) ≤ u) = true := by simpa using hu0
          clear hfy hu h4
          go_wp2_with fail
          refine HG.out.mono ?_
          rintro e w2 ⟨rfl, rfl⟩
          go_wp2_with fail
          refine HH.out.mono ?_
          rintro e w2 ⟨rfl, rfl⟩
          obtain ⟨rfl, rfl, rfl⟩ := HNO.out (by simp)
          obtain ⟨⟨t0, t1, t2⟩, f0, f1, f2⟩ := R1.out.at (r := w.heap.size + 1 + 1) (a := nilV) (b := nilV) (c := nilV) (by simp)
          go_wp2
          refine bodyPost_ret (v := .tuple #[tenV nilV nilV nilV, .bool false]) (by simp [results, Try.results18, go_sem, t0, t1, t2]) rfl ?_
          exact NewTen2.nils (((R1.out.bel.setCell (by simp; omega) _).setCell (by simp; omega) _).setCell (by simp; omega) _)
        · obtain ⟨u, hu, hu0⟩ : ∃ u, findI (F.take j) n = u ∧ u < 0 := ⟨_, rfl, findI_neg.2 h4⟩
          rw [hu] at hfy
          have HH := Lib.hid hfy
          have HSS := Lib.hid (HI.out.step N1.out HMM.out h4)
          have q3 : decide ((0 : Int) ≤ u) = false := by simpa using hu0
          clear hfy hu h4
          go_wp2_with fail
          refine HG.out.mono ?_
          rintro e w2 ⟨rfl, rfl⟩
          go_wp2_with fail
          refine HH.out.mono ?_
          rintro e w2 ⟨rfl, rfl⟩
          go_wp2
          go_roundw
          case rel => exact ⟨j + 1, by omega, by go_num, HSS, trivial⟩
          case measure => simp [intOf]; omega
    · obtain rfl : j = mf := by omega
      have hsub : subB L F = true := sub_end (by rw [← HM.out.2.2.2]; exact HI.out)
      obtain rfl : sb = true := by rw [HSB.out]; exact hsub
      have HSV := Lib.hid (subB_true.1 hsub)
      have HSE := Lib.hid ((rest_setV FT.out.ax.2.2.2.2).2 HSV.out)
      have HFD := Lib.hid (fuse_dims HTB.out.symm HSV.out)
      have HRE := Lib.hid (rest_spec (HT.out.below R1.out.bel (Nat.le_refl _)) (HF.out.below R1.out.bel (Nat.le_refl _)) R1.out.bel.size HM.out.1.symm (by omega) (by rw [← HM.out.2.2.2]; omega))
      obtain ⟨nR, hnR⟩ : ∃ n, n = (restL F L).length := ⟨_, rfl⟩
      have HNR : Hid (nR = (restL F L).length ∧ nR ≤ m1 ∧ nR + j = m1) := Lib.hid (by
        have h := (rest_perm FT.out.ax.2.2.2.2 HSV.out).length_eq
        unfold regL at h
        rw [List.length_append, ← hnR, ← HM.out.2.2.2, ← HM.out.1] at h
        exact ⟨hnR, by omega, h⟩)
      clear hsub hnR HI
      go_wp2_with fail
      refine HRE.out.mono ?_
      clear s0 s1 s2 HRE
      rintro e w2 ⟨vr, rfl, ho, hb⟩
      obtain ⟨aR, cR, rfl, -⟩ := ints_form ho.rd
      rw [← HNR.out.1]
      have RN := Lib.hid (R1.out.new hb ho)
      rw [← HNR.out.1] at RN
      have RX := Lib.hid RN.out.drew
      clear ho hb R1
      obtain ⟨⟨r0, r1, r2⟩, -⟩ := RX.out.at (r := w.heap.size) (a := .int .i64 k) (b := .int .i64 p) (c := .int .i64 q) (by simp)
      obtain ⟨⟨s0, s1, s2⟩, -⟩ := RX.out.at (r := w.heap.size + 1) (a := .slice al m1 cl) (b := .slice ad m2 cd) (c := .slice ax m3 cx) (by simp)
      have hnr4 : nR ≤ 12 := by have := HNR.out; omega
      have HTm := Lib.hid (fun (W : World) (hb : Below w.heap.size w W) => (⟨(HT.out.below hb (Nat.le_refl _)).l.mono hb.size, (HT.out.below hb (Nat.le_refl _)).d.mono hb.size, (HT.out.below hb (Nat.le_refl _)).x.mono hb.size⟩ : RdT W.heap.size W (.slice al m1 cl) (.slice ad m2 cd) (.slice ax m3 cx) L D X))
      have HRL : Hid (restL F L ++ F = regL L F) := Lib.hid rfl
      go_wp2
      refine wp_region_held_drew (S := (fun w' => (w'.cell? ⟨w.heap.size, 0, none⟩ = some (.int .i64 k) ∧ w'.cell? ⟨w.heap.size, 1, none⟩ = some (.int .i64 p) ∧ w'.cell? ⟨w.heap.size, 2, none⟩ = some (.int .i64 q)) ∧ (w'.cell? ⟨w.heap.size + 1, 0, none⟩ = some (.slice al m1 cl) ∧ w'.cell? ⟨w.heap.size + 1, 1, none⟩ = some (.slice ad m2 cd) ∧ w'.cell? ⟨w.heap.size + 1, 2, none⟩ = some (.slice ax m3 cx)))) (by kernel_rfl) (by (try dsimp only); with_reducible exact ⟨⟨r0, r1, r2⟩, ⟨s0, s1, s2⟩⟩) (fun hHeld => ?_)
      refine wpAnyH_take (i := 0) (v := ?_) rfl (by kernel_rfl) (by kernel_rfl) (by kernel_rfl) (fun _ _ _ h => h) (Or.inl ⟨by rfl, ?_⟩) (by assumption) ?_
      rotate_left
      · intro w hSw; (try dsimp only at hSw); go_simp <;> with_reducible rfl
      try simp only [Act.put, List.getElem_toArray, List.getElem_cons_zero, List.setIfInBounds_toArray, List.set_cons_zero, List.set_cons_succ]
      refine wpAnyH_take (i := 1) (v := ?_) rfl (by kernel_rfl) (by kernel_rfl) (by kernel_rfl) (fun _ _ _ h => h) (Or.inl ⟨by rfl, ?_⟩) (by assumption) ?_
      rotate_left
      · intro w hSw; (try dsimp only at hSw); go_simp <;> with_reducible rfl
      try simp only [Act.put, List.getElem_toArray, List.getElem_cons_succ, List.getElem_cons_zero, List.setIfInBounds_toArray, List.set_cons_zero, List.set_cons_succ]
      refine wpAnyH_take (i := 2) (v := ?_) rfl (by kernel_rfl) (by kernel_rfl) (by kernel_rfl) (fun _ _ _ h => h) (Or.inl ⟨by rfl, ?_⟩) (by assumption) ?_
      rotate_left
      · intro w hSw; (try dsimp only at hSw); go_simp <;> with_reducible rfl
      try simp only [Act.put, List.getElem_toArray, List.getElem_cons_succ, List.getElem_cons_zero, List.setIfInBounds_toArray, List.set_cons_zero, List.set_cons_succ]
      refine wpAnyH_take (i := 4) (v := ?_) rfl (by kernel_rfl) (by kernel_rfl) (by kernel_rfl) (fun _ _ _ h => h) (Or.inl ⟨by rfl, ?_⟩) (by assumption) ?_
      rotate_left
      · intro w hSw; (try dsimp only at hSw); go_simp <;> with_reducible rfl
      try simp only [Act.put, List.getElem_toArray, List.getElem_cons_succ, List.getElem_cons_zero, List.setIfInBounds_toArray, List.set_cons_zero, List.set_cons_succ]
      refine wpAnyH_ready (rs := [3, 7]) (by kernel_rfl) (by simp) ?_
      refine AllReadyH.cons rfl (fun K hK => ?_) (AllReadyH.cons rfl (fun K hK => ?_) AllReadyH.nil)
      focus
        go_simp
        (go_at_call 31; refine (ints_new (RX.out.rd (v := .slice aR nR cR) (xs := restL F L) (by simp)) (Nat.le_refl _) (by rw [← HNR.out.1]; omega)).mono ?_; rintro e WX ⟨vc, rfl, ho, hb⟩; obtain ⟨aC, cC, rfl, -⟩ := ints_form ho.rd; rw [← HNR.out.1] at ho ⊢; clear r0 r1 r2 s0 s1 s2; replace RX := Lib.hid (RX.out.new hb ho); clear ho hb; obtain ⟨⟨r0, r1, r2⟩, -⟩ := RX.out.at (r := w.heap.size) (a := .int .i64 k) (b := .int .i64 p) (c := .int .i64 q) (by simp); obtain ⟨⟨s0, s1, s2⟩, -⟩ := RX.out.at (r := w.heap.size + 1) (a := .slice al m1 cl) (b := .slice ad m2 cd) (c := .slice ax m3 cx) (by simp))
        go_wp2_with fail
        refine hK.out _ _ (by (try dsimp only); with_reducible exact ⟨⟨r0, r1, r2⟩, ⟨s0, s1, s2⟩⟩) (fun hHeld => ?_)
        clear hK K
        try simp only [Act.put, List.getElem_toArray, List.getElem_cons_succ, List.getElem_cons_zero, List.setIfInBounds_toArray, List.set_cons_zero, List.set_cons_succ]
        refine wpAnyH_ready (rs := [5, 7]) (by kernel_rfl) (by simp) ?_
        refine AllReadyH.cons rfl (fun K hK => ?_) (AllReadyH.cons rfl (fun K hK => ?_) AllReadyH.nil)
        focus
          (have O1 := Lib.hid (RX.out.row (v := .slice aC nR cC) (xs := restL F L) (by simp) HNR.out.1.symm); have HFW := Lib.hid (HF.out.below RX.out.bel (Nat.le_refl _)); obtain ⟨bf, of, rfl, HNW⟩ := rd_some HFW.out HM.out.2.2.2.symm (by omega); refine step_append_lies _ rfl (.tmp 54) (.tmp 55) 26 rfl w.heap.size 3 i0 (.int .i64 0) 1 8 Try.underlying26 J0.out J1.out J2.out J3.out rfl Nat.one_pos (.slice aC nR cC) nR (ints (restL F L)) rfl O1.out ⟨bf, of, none⟩ j cf (ints F) rfl (by rw [ints_len, ← HM.out.2.2.2, Nat.mul_one]) HNW.out (one_cells _) (by omega) (by unfold maxLen; omega) (by omega) RX.out.bel.size _ rfl ?_; intro gC capC WX hown hgrow hl _; rw [← ints_append] at hown; have h11 := RX.out.app hown (by rw [List.length_append, ← HNR.out.1, ← HM.out.2.2.2]) hgrow hl; rw [HRL.out] at h11; clear r0 r1 r2 s0 s1 s2; replace RX := Lib.hid h11; clear hown hgrow hl h11 O1 HFW HNW; obtain ⟨⟨r0, r1, r2⟩, -⟩ := RX.out.at (r := w.heap.size) (a := .int .i64 k) (b := .int .i64 p) (c := .int .i64 q) (by simp); obtain ⟨⟨s0, s1, s2⟩, -⟩ := RX.out.at (r := w.heap.size + 1) (a := .slice al m1 cl) (b := .slice ad m2 cd) (c := .slice ax m3 cx) (by simp))
          refine hK.out _ _ (by (try dsimp only); with_reducible exact ⟨⟨r0, r1, r2⟩, ⟨s0, s1, s2⟩⟩) (fun hHeld => ?_)
          clear hK K
          try simp only [Act.put, List.getElem_toArray, List.getElem_cons_succ, List.getElem_cons_zero, List.setIfInBounds_toArray, List.set_cons_zero, List.set_cons_succ]
          refine wpAnyH_ready (rs := [6, 7]) (by kernel_rfl) (by simp) ?_
          refine AllReadyH.cons rfl (fun K hK => ?_) (AllReadyH.cons rfl (fun K hK => ?_) AllReadyH.nil)
          focus
            go_simp
            (go_at_call 46; refine (permute_spec (B := _) (HTm.out _ RX.out.bel) (RX.out.rd (v := .slice (some ⟨gC, 0, none⟩) (nR + j) capC) (xs := regL L F) (by simp)) (Nat.le_refl _) HTB.out.symm HSE.out).mono ?_; rintro e WX ⟨l', d', x', rfl, ho, hb⟩; obtain ⟨a1, n1, c1, rfl⟩ := Own.slice ho.rows.1; obtain ⟨a2, n2, c2, rfl⟩ := Own.slice ho.rows.2.1; obtain ⟨a3, n3, c3, rfl⟩ := Own.slice ho.rows.2.2; clear r0 r1 r2 s0 s1 s2; replace RX := Lib.hid (RX.out.new3 hb ho); clear ho hb; obtain ⟨⟨r0, r1, r2⟩, -⟩ := RX.out.at (r := w.heap.size) (a := .int .i64 k) (b := .int .i64 p) (c := .int .i64 q) (by simp); obtain ⟨⟨s0, s1, s2⟩, -⟩ := RX.out.at (r := w.heap.size + 1) (a := .slice al m1 cl) (b := .slice ad m2 cd) (c := .slice ax m3 cx) (by simp))
            go_wp2_with fail
            refine hK.out _ _ (by (try dsimp only); with_reducible exact ⟨⟨r0, r1, r2⟩, ⟨s0, s1, s2⟩⟩) (fun hHeld => ?_)
            clear hK K
            try simp only [Act.put, List.getElem_toArray, List.getElem_cons_succ, List.getElem_cons_zero, List.setIfInBounds_toArray, List.set_cons_zero, List.set_cons_succ]
            refine wpAnyH_ready (rs := [7]) (by kernel_rfl) (by simp) ?_
            refine AllReadyH.cons rfl (fun K hK => ?_) AllReadyH.nil
            go_simp
            ((first | (obtain ⟨WX, gb, hW, hg, RXn⟩ := RX.out.boxX nilV nilV nilV 28; rw [hW]; (try rw [hg])) | (obtain ⟨WZ, gb, hW, hg, RXn⟩ := RN.out.boxX nilV nilV nilV 28; rw [hW]; (try rw [hg]); replace RXn := RXn.drew; clear hW; generalize WZ.drew = WX at RXn ⊢)); clear r0 r1 r2 s0 s1 s2; replace RX := Lib.hid RXn; clear RXn; obtain ⟨⟨r0, r1, r2⟩, -⟩ := RX.out.at (r := w.heap.size) (a := .int .i64 k) (b := .int .i64 p) (c := .int .i64 q) (by simp); obtain ⟨⟨s0, s1, s2⟩, -⟩ := RX.out.at (r := w.heap.size + 1) (a := .slice al m1 cl) (b := .slice ad m2 cd) (c := .slice ax m3 cx) (by simp))
            refine hK.out _ _ (by (try dsimp only); with_reducible exact ⟨⟨r0, r1, r2⟩, ⟨s0, s1, s2⟩⟩) (fun hHeld => ?_)
            clear hK K
            try simp only [Act.put, List.getElem_toArray, List.getElem_cons_succ, List.getElem_cons_zero, List.setIfInBounds_toArray, List.set_cons_zero, List.set_cons_succ]
            refine wpAnyH_ready (rs := [8]) (by kernel_rfl) (by simp) ?_
            refine AllReadyH.cons rfl (fun K hK => ?_) AllReadyH.nil
            (obtain ⟨⟨o0, o1, o2⟩, g0, g1, g2⟩ := RX.out.at List.mem_cons_self)
            go_simp
            (clear o0 o1 o2 g0 g1 g2 r0 r1 r2 s0 s1 s2; replace RX := Lib.hid (RX.out.set3 (.slice a1 n1 c1) (.slice a2 n2 c2) (.slice a3 n3 c3)); obtain ⟨⟨r0, r1, r2⟩, -⟩ := RX.out.at (r := w.heap.size) (a := .int .i64 k) (b := .int .i64 p) (c := .int .i64 q) (by simp); obtain ⟨⟨s0, s1, s2⟩, -⟩ := RX.out.at (r := w.heap.size + 1) (a := .slice al m1 cl) (b := .slice ad m2 cd) (c := .slice ax m3 cx) (by simp))
            refine hK.out _ _ (by (try dsimp only); with_reducible exact ⟨⟨r0, r1, r2⟩, ⟨s0, s1, s2⟩⟩) (fun hHeld => ?_)
            clear hK K
            try simp only [Act.put, List.getElem_toArray, List.getElem_cons_succ, List.getElem_cons_zero, List.setIfInBounds_toArray, List.set_cons_zero, List.set_cons_succ]
            refine wpAnyH_done (by kernel_rfl) ?_ _
          rotate_left 1
          focus
            go_simp
            ((first | (obtain ⟨WX, gb, hW, hg, RXn⟩ := RX.out.boxX nilV nilV nilV 28; rw [hW]; (try rw [hg])) | (obtain ⟨WZ, gb, hW, hg, RXn⟩ := RN.out.boxX nilV nilV nilV 28; rw [hW]; (try rw [hg]); replace RXn := RXn.drew; clear hW; generalize WZ.drew = WX at RXn ⊢)); clear r0 r1 r2 s0 s1 s2; replace RX := Lib.hid RXn; clear RXn; obtain ⟨⟨r0, r1, r2⟩, -⟩ := RX.out.at (r := w.heap.size) (a := .int .i64 k) (b := .int .i64 p) (c := .int .i64 q) (by simp); obtain ⟨⟨s0, s1, s2⟩, -⟩ := RX.out.at (r := w.heap.size + 1) (a := .slice al m1 cl) (b := .slice ad m2 cd) (c := .slice ax m3 cx) (by simp))
            refine hK.out _ _ (by (try dsimp only); with_reducible exact ⟨⟨r0, r1, r2⟩, ⟨s0, s1, s2⟩⟩) (fun hHeld => ?_)
            clear hK K
            try simp only [Act.put, List.getElem_toArray, List.getElem_cons_succ, List.getElem_cons_zero, List.setIfInBounds_toArray, List.set_cons_zero, List.set_cons_succ]
            refine wpAnyH_ready (rs := [6]) (by kernel_rfl) (by simp) ?_
            refine AllReadyH.cons rfl (fun K hK => ?_) AllReadyH.nil
            go_simp
            (go_at_call 46; refine (permute_spec (B := _) (HTm.out _ RX.out.bel) (RX.out.rd (v := .slice (some ⟨gC, 0, none⟩) (nR + j) capC) (xs := regL L F) (by simp)) (Nat.le_refl _) HTB.out.symm HSE.out).mono ?_; rintro e WX ⟨l', d', x', rfl, ho, hb⟩; obtain ⟨a1, n1, c1, rfl⟩ := Own.slice ho.rows.1; obtain ⟨a2, n2, c2, rfl⟩ := Own.slice ho.rows.2.1; obtain ⟨a3, n3, c3, rfl⟩ := Own.slice ho.rows.2.2; clear r0 r1 r2 s0 s1 s2; replace RX := Lib.hid (RX.out.new3 hb ho); clear ho hb; obtain ⟨⟨r0, r1, r2⟩, -⟩ := RX.out.at (r := w.heap.size) (a := .int .i64 k) (b := .int .i64 p) (c := .int .i64 q) (by simp); obtain ⟨⟨s0, s1, s2⟩, -⟩ := RX.out.at (r := w.heap.size + 1) (a := .slice al m1 cl) (b := .slice ad m2 cd) (c := .slice ax m3 cx) (by simp))
            go_wp2_with fail
            refine hK.out _ _ (by (try dsimp only); with_reducible exact ⟨⟨r0, r1, r2⟩, ⟨s0, s1, s2⟩⟩) (fun hHeld => ?_)
            clear hK K
            try simp only [Act.put, List.getElem_toArray, List.getElem_cons_succ, List.getElem_cons_zero, List.setIfInBounds_toArray, List.set_cons_zero, List.set_cons_succ]
            refine wpAnyH_ready (rs := [8]) (by kernel_rfl) (by simp) ?_
            refine AllReadyH.cons rfl (fun K hK => ?_) AllReadyH.nil
            (obtain ⟨⟨o0, o1, o2⟩, g0, g1, g2⟩ := RX.out.at List.mem_cons_self)
            go_simp
            (clear o0 o1 o2 g0 g1 g2 r0 r1 r2 s0 s1 s2; replace RX := Lib.hid (RX.out.set3 (.slice a1 n1 c1) (.slice a2 n2 c2) (.slice a3 n3 c3)); obtain ⟨⟨r0, r1, r2⟩, -⟩ := RX.out.at (r := w.heap.size) (a := .int .i64 k) (b := .int .i64 p) (c := .int .i64 q) (by simp); obtain ⟨⟨s0, s1, s2⟩, -⟩ := RX.out.at (r := w.heap.size + 1) (a := .slice al m1 cl) (b := .slice ad m2 cd) (c := .slice ax m3 cx) (by simp))
            refine hK.out _ _ (by (try dsimp only); with_reducible exact ⟨⟨r0, r1, r2⟩, ⟨s0, s1, s2⟩⟩) (fun hHeld => ?_)
            clear hK K
            try simp only [Act.put, List.getElem_toArray, List.getElem_cons_succ, List.getElem_cons_zero, List.setIfInBounds_toArray, List.set_cons_zero, List.set_cons_succ]
            refine wpAnyH_done (by kernel_rfl) ?_ _
          rotate_left 1
        rotate_left 2
        focus
          go_simp
          ((first | (obtain ⟨WX, gb, hW, hg, RXn⟩ := RX.out.boxX nilV nilV nilV 28; rw [hW]; (try rw [hg])) | (obtain ⟨WZ, gb, hW, hg, RXn⟩ := RN.out.boxX nilV nilV nilV 28; rw [hW]; (try rw [hg]); replace RXn := RXn.drew; clear hW; generalize WZ.drew = WX at RXn ⊢)); clear r0 r1 r2 s0 s1 s2; replace RX := Lib.hid RXn; clear RXn; obtain ⟨⟨r0, r1, r2⟩, -⟩ := RX.out.at (r := w.heap.size) (a := .int .i64 k) (b := .int .i64 p) (c := .int .i64 q) (by simp); obtain ⟨⟨s0, s1, s2⟩, -⟩ := RX.out.at (r := w.heap.size + 1) (a := .slice al m1 cl) (b := .slice ad m2 cd) (c := .slice ax m3 cx) (by simp))
          refine hK.out _ _ (by (try dsimp only); with_reducible exact ⟨⟨r0, r1, r2⟩, ⟨s0, s1, s2⟩⟩) (fun hHeld => ?_)
          clear hK K
          try simp only [Act.put, List.getElem_toArray, List.getElem_cons_succ, List.getElem_cons_zero, List.setIfInBounds_toArray, List.set_cons_zero, List.set_cons_succ]
          refine wpAnyH_ready (rs := [5]) (by kernel_rfl) (by simp) ?_
          refine AllReadyH.cons rfl (fun K hK => ?_) AllReadyH.nil
          (have O1 := Lib.hid (RX.out.row (v := .slice aC nR cC) (xs := restL F L) (by simp) HNR.out.1.symm); have HFW := Lib.hid (HF.out.below RX.out.bel (Nat.le_refl _)); obtain ⟨bf, of, rfl, HNW⟩ := rd_some HFW.out HM.out.2.2.2.symm (by omega); refine step_append_lies _ rfl (.tmp 54) (.tmp 55) 26 rfl w.heap.size 3 i0 (.int .i64 0) 1 8 Try.underlying26 J0.out J1.out J2.out J3.out rfl Nat.one_pos (.slice aC nR cC) nR (ints (restL F L)) rfl O1.out ⟨bf, of, none⟩ j cf (ints F) rfl (by rw [ints_len, ← HM.out.2.2.2, Nat.mul_one]) HNW.out (one_cells _) (by omega) (by unfold maxLen; omega) (by omega) RX.out.bel.size _ rfl ?_; intro gC capC WX hown hgrow hl _; rw [← ints_append] at hown; have h11 := RX.out.app hown (by rw [List.length_append, ← HNR.out.1, ← HM.out.2.2.2]) hgrow hl; rw [HRL.out] at h11; clear r0 r1 r2 s0 s1 s2; replace RX := Lib.hid h11; clear hown hgrow hl h11 O1 HFW HNW; obtain ⟨⟨r0, r1, r2⟩, -⟩ := RX.out.at (r := w.heap.size) (a := .int .i64 k) (b := .int .i64 p) (c := .int .i64 q) (by simp); obtain ⟨⟨s0, s1, s2⟩, -⟩ := RX.out.at (r := w.heap.size + 1) (a := .slice al m1 cl) (b := .slice ad m2 cd) (c := .slice ax m3 cx) (by simp))
          refine hK.out _ _ (by (try dsimp only); with_reducible exact ⟨⟨r0, r1, r2⟩, ⟨s0, s1, s2⟩⟩) (fun hHeld => ?_)
          clear hK K
          try simp only [Act.put, List.getElem_toArray, List.getElem_cons_succ, List.getElem_cons_zero, List.setIfInBounds_toArray, List.set_cons_zero, List.set_cons_succ]
          refine wpAnyH_ready (rs := [6]) (by kernel_rfl) (by simp) ?_
          refine AllReadyH.cons rfl (fun K hK => ?_) AllReadyH.nil
          go_simp
          (go_at_call 46; refine (permute_spec (B := _) (HTm.out _ RX.out.bel) (RX.out.rd (v := .slice (some ⟨gC, 0, none⟩) (nR + j) capC) (xs := regL L F) (by simp)) (Nat.le_refl _) HTB.out.symm HSE.out).mono ?_; rintro e WX ⟨l', d', x', rfl, ho, hb⟩; obtain ⟨a1, n1, c1, rfl⟩ := Own.slice ho.rows.1; obtain ⟨a2, n2, c2, rfl⟩ := Own.slice ho.rows.2.1; obtain ⟨a3, n3, c3, rfl⟩ := Own.slice ho.rows.2.2; clear r0 r1 r2 s0 s1 s2; replace RX := Lib.hid (RX.out.new3 hb ho); clear ho hb; obtain ⟨⟨r0, r1, r2⟩, -⟩ := RX.out.at (r := w.heap.size) (a := .int .i64 k) (b := .int .i64 p) (c := .int .i64 q) (by simp); obtain ⟨⟨s0, s1, s2⟩, -⟩ := RX.out.at (r := w.heap.size + 1) (a := .slice al m1 cl) (b := .slice ad m2 cd) (c := .slice ax m3 cx) (by simp))
          go_wp2_with fail
          refine hK.out _ _ (by (try dsimp only); with_reducible exact ⟨⟨r0, r1, r2⟩, ⟨s0, s1, s2⟩⟩) (fun hHeld => ?_)
          clear hK K
          try simp only [Act.put, List.getElem_toArray, List.getElem_cons_succ, List.getElem_cons_zero, List.setIfInBounds_toArray, List.set_cons_zero, List.set_cons_succ]
          refine wpAnyH_ready (rs := [8]) (by kernel_rfl) (by simp) ?_
          refine AllReadyH.cons rfl (fun K hK => ?_) AllReadyH.nil
          (obtain ⟨⟨o0, o1, o2⟩, g0, g1, g2⟩ := RX.out.at List.mem_cons_self)
          go_simp
          (clear o0 o1 o2 g0 g1 g2 r0 r1 r2 s0 s1 s2; replace RX := Lib.hid (RX.out.set3 (.slice a1 n1 c1) (.slice a2 n2 c2) (.slice a3 n3 c3)); obtain ⟨⟨r0, r1, r2⟩, -⟩ := RX.out.at (r := w.heap.size) (a := .int .i64 k) (b := .int .i64 p) (c := .int .i64 q) (by simp); obtain ⟨⟨s0, s1, s2⟩, -⟩ := RX.out.at (r := w.heap.size + 1) (a := .slice al m1 cl) (b := .slice ad m2 cd) (c := .slice ax m3 cx) (by simp))
          refine hK.out _ _ (by (try dsimp only); with_reducible exact ⟨⟨r0, r1, r2⟩, ⟨s0, s1, s2⟩⟩) (fun hHeld => ?_)
          clear hK K
          try simp only [Act.put, List.getElem_toArray, List.getElem_cons_succ, List.getElem_cons_zero, List.setIfInBounds_toArray, List.set_cons_zero, List.set_cons_succ]
          refine wpAnyH_done (by kernel_rfl) ?_ _
        rotate_left 1
      rotate_left 3
      focus
        go_simp
        ((first | (obtain ⟨WX, gb, hW, hg, RXn⟩ := RX.out.boxX nilV nilV nilV 28; rw [hW]; (try rw [hg])) | (obtain ⟨WZ, gb, hW, hg, RXn⟩ := RN.out.boxX nilV nilV nilV 28; rw [hW]; (try rw [hg]); replace RXn := RXn.drew; clear hW; generalize WZ.drew = WX at RXn ⊢)); clear r0 r1 r2 s0 s1 s2; replace RX := Lib.hid RXn; clear RXn; obtain ⟨⟨r0, r1, r2⟩, -⟩ := RX.out.at (r := w.heap.size) (a := .int .i64 k) (b := .int .i64 p) (c := .int .i64 q) (by simp); obtain ⟨⟨s0, s1, s2⟩, -⟩ := RX.out.at (r := w.heap.size + 1) (a := .slice al m1 cl) (b := .slice ad m2 cd) (c := .slice ax m3 cx) (by simp))
        refine hK.out _ _ (by (try dsimp only); with_reducible exact ⟨⟨r0, r1, r2⟩, ⟨s0, s1, s2⟩⟩) (fun hHeld => ?_)
        clear hK K
        try simp only [Act.put, List.getElem_toArray, List.getElem_cons_succ, List.getElem_cons_zero, List.setIfInBounds_toArray, List.set_cons_zero, List.set_cons_succ]
        refine wpAnyH_ready (rs := [3]) (by kernel_rfl) (by simp) ?_
        refine AllReadyH.cons rfl (fun K hK => ?_) AllReadyH.nil
        go_simp
        (go_at_call 31; refine (ints_new (RX.out.rd (v := .slice aR nR cR) (xs := restL F L) (by simp)) (Nat.le_refl _) (by rw [← HNR.out.1]; omega)).mono ?_; rintro e WX ⟨vc, rfl, ho, hb⟩; obtain ⟨aC, cC, rfl, -⟩ := ints_form ho.rd; rw [← HNR.out.1] at ho ⊢; clear r0 r1 r2 s0 s1 s2; replace RX := Lib.hid (RX.out.new hb ho); clear ho hb; obtain ⟨⟨r0, r1, r2⟩, -⟩ := RX.out.at (r := w.heap.size) (a := .int .i64 k) (b := .int .i64 p) (c := .int .i64 q) (by simp); obtain ⟨⟨s0, s1, s2⟩, -⟩ := RX.out.at (r := w.heap.size + 1) (a := .slice al m1 cl) (b := .slice ad m2 cd) (c := .slice ax m3 cx) (by simp))
        go_wp2_with fail
        refine hK.out _ _ (by (try dsimp only); with_reducible exact ⟨⟨r0, r1, r2⟩, ⟨s0, s1, s2⟩⟩) (fun hHeld => ?_)
        clear hK K
        try simp only [Act.put, List.getElem_toArray, List.getElem_cons_succ, List.getElem_cons_zero, List.setIfInBounds_toArray, List.set_cons_zero, List.set_cons_succ]
        refine wpAnyH_ready (rs := [5]) (by kernel_rfl) (by simp) ?_
        refine AllReadyH.cons rfl (fun K hK => ?_) AllReadyH.nil
        (have O1 := Lib.hid (RX.out.row (v := .slice aC nR cC) (xs := restL F L) (by simp) HNR.out.1.symm); have HFW := Lib.hid (HF.out.below RX.out.bel (Nat.le_refl _)); obtain ⟨bf, of, rfl, HNW⟩ := rd_some HFW.out HM.out.2.2.2.symm (by omega); refine step_append_lies _ rfl (.tmp 54) (.tmp 55) 26 rfl w.heap.size 3 i0 (.int .i64 0) 1 8 Try.underlying26 J0.out J1.out J2.out J3.out rfl Nat.one_pos (.slice aC nR cC) nR (ints (restL F L)) rfl O1.out ⟨bf, of, none⟩ j cf (ints F) rfl (by rw [ints_len, ← HM.out.2.2.2, Nat.mul_one]) HNW.out (one_cells _) (by omega) (by unfold maxLen; omega) (by omega) RX.out.bel.size _ rfl ?_; intro gC capC WX hown hgrow hl _; rw [← ints_append] at hown; have h11 := RX.out.app hown (by rw [List.length_append, ← HNR.out.1, ← HM.out.2.2.2]) hgrow hl; rw [HRL.out] at h11; clear r0 r1 r2 s0 s1 s2; replace RX := Lib.hid h11; clear hown hgrow hl h11 O1 HFW HNW; obtain ⟨⟨r0, r1, r2⟩, -⟩ := RX.out.at (r := w.heap.size) (a := .int .i64 k) (b := .int .i64 p) (c := .int .i64 q) (by simp); obtain ⟨⟨s0, s1, s2⟩, -⟩ := RX.out.at (r := w.heap.size + 1) (a := .slice al m1 cl) (b := .slice ad m2 cd) (c := .slice ax m3 cx) (by simp))
        refine hK.out _ _ (by (try dsimp only); with_reducible exact ⟨⟨r0, r1, r2⟩, ⟨s0, s1, s2⟩⟩) (fun hHeld => ?_)
        clear hK K
        try simp only [Act.put, List.getElem_toArray, List.getElem_cons_succ, List.getElem_cons_zero, List.setIfInBounds_toArray, List.set_cons_zero, List.set_cons_succ]
        refine wpAnyH_ready (rs := [6]) (by kernel_rfl) (by simp) ?_
        refine AllReadyH.cons rfl (fun K hK => ?_) AllReadyH.nil
        go_simp
        (go_at_call 46; refine (permute_spec (B := _) (HTm.out _ RX.out.bel) (RX.out.rd (v := .slice (some ⟨gC, 0, none⟩) (nR + j) capC) (xs := regL L F) (by simp)) (Nat.le_refl _) HTB.out.symm HSE.out).mono ?_; rintro e WX ⟨l', d', x', rfl, ho, hb⟩; obtain ⟨a1, n1, c1, rfl⟩ := Own.slice ho.rows.1; obtain ⟨a2, n2, c2, rfl⟩ := Own.slice ho.rows.2.1; obtain ⟨a3, n3, c3, rfl⟩ := Own.slice ho.rows.2.2; clear r0 r1 r2 s0 s1 s2; replace RX := Lib.hid (RX.out.new3 hb ho); clear ho hb; obtain ⟨⟨r0, r1, r2⟩, -⟩ := RX.out.at (r := w.heap.size) (a := .int .i64 k) (b := .int .i64 p) (c := .int .i64 q) (by simp); obtain ⟨⟨s0, s1, s2⟩, -⟩ := RX.out.at (r := w.heap.size + 1) (a := .slice al m1 cl) (b := .slice ad m2 cd) (c := .slice ax m3 cx) (by simp))
        go_wp2_with fail
        refine hK.out _ _ (by (try dsimp only); with_reducible exact ⟨⟨r0, r1, r2⟩, ⟨s0, s1, s2⟩⟩) (fun hHeld => ?_)
        clear hK K
        try simp only [Act.put, List.getElem_toArray, List.getElem_cons_succ, List.getElem_cons_zero, List.setIfInBounds_toArray, List.set_cons_zero, List.set_cons_succ]
        refine wpAnyH_ready (rs := [8]) (by kernel_rfl) (by simp) ?_
        refine AllReadyH.cons rfl (fun K hK => ?_) AllReadyH.nil
        (obtain ⟨⟨o0, o1, o2⟩, g0, g1, g2⟩ := RX.out.at List.mem_cons_self)
        go_simp
        (clear o0 o1 o2 g0 g1 g2 r0 r1 r2 s0 s1 s2; replace RX := Lib.hid (RX.out.set3 (.slice a1 n1 c1) (.slice a2 n2 c2) (.slice a3 n3 c3)); obtain ⟨⟨r0, r1, r2⟩, -⟩ := RX.out.at (r := w.heap.size) (a := .int .i64 k) (b := .int .i64 p) (c := .int .i64 q) (by simp); obtain ⟨⟨s0, s1, s2⟩, -⟩ := RX.out.at (r := w.heap.size + 1) (a := .slice al m1 cl) (b := .slice ad m2 cd) (c := .slice ax m3 cx) (by simp))
        refine hK.out _ _ (by (try dsimp only); with_reducible exact ⟨⟨r0, r1, r2⟩, ⟨s0, s1, s2⟩⟩) (fun hHeld => ?_)
        clear hK K
        try simp only [Act.put, List.getElem_toArray, List.getElem_cons_succ, List.getElem_cons_zero, List.setIfInBounds_toArray, List.set_cons_zero, List.set_cons_succ]
        refine wpAnyH_done (by kernel_rfl) ?_ _
      rotate_left 1
      all_goals
        clear r0 r1 r2 s0 s1 s2
        generalize ((WX.setCell ⟨gb, 0, none⟩ (.slice a1 n1 c1)).setCell ⟨gb, 1, none⟩ (.slice a2 n2 c2)).setCell ⟨gb, 2, none⟩ (.slice a3 n3 c3) = w4 at RX ⊢
        obtain ⟨gz1, hgz1⟩ : ∃ b, b = [(w.heap.size + 1 + 1, nilV, nilV, nilV), (w.heap.size + 1, Value.slice al m1 cl, Value.slice ad m2 cd, Value.slice ax m3 cx), (w.heap.size, Value.int .i64 k, Value.int .i64 p, Value.int .i64 q)] := ⟨_, rfl⟩
        have R4 : Hid (Rs w w4 ((gb, .slice a1 n1 c1, .slice a2 n2 c2, .slice a3 n3 c3) :: gz1) [(.slice a1 n1 c1, regL L F), (.slice a2 n2 c2, dimsVia L D (regL L F)), (.slice a3 n3 c3, regX k q L D X F), (.slice aR nR cR, restL F L)]) := Lib.hid (by rw [hgz1]; exact RX.out.sub (List.Sublist.cons_cons _ (List.Sublist.cons_cons _ (List.Sublist.cons_cons _ (List.Sublist.cons _ (List.Sublist.refl _))))))
        have HBS := Lib.hid hgz1
        clear RX RN hgz1
        have hdl : (dimsVia L D (regL L F)).length = nR + j := by rw [dimsVia_len]; unfold regL; rw [List.length_append, ← HNR.out.1, ← HM.out.2.2.2]
        have hrl : (regL L F).length = nR + j := by unfold regL; rw [List.length_append, ← HNR.out.1, ← HM.out.2.2.2]
        obtain ⟨hn1, hn2⟩ : n1 = nR + j ∧ n2 = nR + j := by
          obtain ⟨_, _, h1, -⟩ := ints_form (R4.out.rd (v := .slice a1 n1 c1) (xs := regL L F) (by simp))
          obtain ⟨_, _, h2, -⟩ := ints_form (R4.out.rd (v := .slice a2 n2 c2) (xs := dimsVia L D (regL L F)) (by simp))
          simp only [Value.slice.injEq] at h1 h2
          exact ⟨by rw [h1.2.1, hrl], by rw [h2.2.1, hdl]⟩
        subst hn1 hn2
        obtain ⟨gd, hgd⟩ : ∃ gd, a2 = some ⟨gd, 0, none⟩ := by
          obtain ⟨g, cap, e, -⟩ := own_form (R4.out.own1 (v := .slice a2 (nR + j) c2) (xs := dimsVia L D (regL L F)) (by simp)) hdl (by omega)
          cases e
          exact ⟨g, rfl⟩
        subst hgd
        have hc2 : nR + j ≤ c2 := by
          have h := (R4.out.own (.slice (some ⟨gd, 0, none⟩) (nR + j) c2, dimsVia L D (regL L F)) (by simp)).2
          rcases h with ⟨e, -⟩ | ⟨g, cap, cur, e, -, -, h2, -⟩
          · cases e
          · simp only [Value.slice.injEq, Option.some.injEq] at e
            rw [e.2.2]; rw [hdl] at h2; exact h2
        have hcne : ¬ nR = c2 := by omega
        have hle1 : nR ≤ nR + j := by omega
        have e1 : (dimsVia L D (regL L F)).drop nR = dimsVia L D F := by unfold regL; rw [dims_app]; exact List.drop_left' (by rw [dimsVia_len, ← HNR.out.1])
        have e2 : (dimsVia L D (regL L F)).take nR = dimsVia L D (restL F L) := by unfold regL; rw [dims_app]; exact List.take_left' (by rw [dimsVia_len, ← HNR.out.1])
        have HD2 := Lib.hid (And.intro hdl e2)
        have hdr := (R4.out.rd (v := .slice (some ⟨gd, 0, none⟩) (nR + j) c2) (xs := dimsVia L D (regL L F)) (by simp)).drop nR (by rw [hdl]; omega)
        rw [e1, Nat.zero_add, show nR + j - nR = j by omega] at hdr
        obtain ⟨P, hP⟩ : ∃ P, P = prodL (dimsVia L D F) := ⟨_, rfl⟩
        have HPP := Lib.hid hP
        have HPR := Lib.hid (product_spec hdr (by rw [dimsVia_len, ← HM.out.2.2.2]; omega) HFD.out.1)
        rw [HFD.out.2.1, ← hP] at HPR
        have HI1 := Lib.hid (ints_new (R4.out.rd (v := .slice aR nR cR) (xs := restL F L) (by simp)) (Nat.le_refl _) (by rw [← HNR.out.1]; omega))
        obtain ⟨⟨o0, o1, o2⟩, -⟩ := R4.out.at (r := gb) (a := .slice a1 (nR + j) c1) (b := .slice (some ⟨gd, 0, none⟩) (nR + j) c2) (c := .slice a3 n3 c3) (by simp)
        clear hdl hrl e1 e2 hdr hP
        go_wp2_with fail
        refine HPR.out.mono ?_
        rintro e w5 ⟨rfl, rfl⟩
        go_wp2_with fail
        refine HI1.out.mono ?_
        clear o0 o1 o2 HI1 HPR
        rintro e w5 ⟨vc, rfl, ho, hb⟩
        obtain ⟨aC, cC, rfl, -⟩ := ints_form ho.rd
        rw [← HNR.out.1] at ho ⊢
        have R5 := Lib.hid (R4.out.new hb ho)
        clear ho hb R4
        have A1 := Lib.hid (R5.out.alloc (.cells #[.int .i64 c] 3))
        have O1 := Lib.hid (A1.out.row (List.mem_cons_self) HNR.out.1.symm : World.ownsRow _ w.heap.size 3 1 (.slice aC nR cC) nR (ints (restL F L)))
        obtain ⟨⟨o0, o1, o2⟩, g0, g1, g2⟩ := A1.out.at (r := gb) (a := .slice a1 (nR + j) c1) (b := .slice (some ⟨gd, 0, none⟩) (nR + j) c2) (c := .slice a3 n3 c3) (by simp)
        go_wp2_with (at_builtin; go_must (refine wpList_append_lies _ rfl _ _ 26 rfl w.heap.size 3 i0 (.int .i64 0) 1 8 Try.underlying26 J0.out J1.out J2.out J3.out rfl (by decide) _ nR (ints (restL F L)) rfl O1.out ⟨w5.heap.size, 0, none⟩ 1 1 [.int .i64 c] rfl rfl (cell_one_new _ _ _) ?d2 (by decide) ?d3 ?d4 ?d5 _ rfl ?_))
        case d2 => first | rfl | (intro u hu; simp at hu; subst hu; rfl)
        case d3 => unfold maxLen; omega
        case d4 => omega
        case d5 => exact A1.out.bel.size
        intro gL capL w6 hown hgrow hl1 _
        have R6 := Lib.hid (A1.out.app1 HNR.out.1.symm hown hgrow (by rw [World.size_alloc]; exact hl1))
        have R7 : Hid (Rs w (w6.setCell ⟨gb, 0, none⟩ (.slice (some ⟨gL, 0, none⟩) (nR + 1) capL)) ((gb, .slice (some ⟨gL, 0, none⟩) (nR + 1) capL, .slice (some ⟨gd, 0, none⟩) (nR + j) c2, .slice a3 n3 c3) :: gz1) [(.slice (some ⟨gL, 0, none⟩) (nR + 1) capL, fuseL L F c), (.slice a1 (nR + j) c1, regL L F), (.slice (some ⟨gd, 0, none⟩) (nR + j) c2, dimsVia L D (regL L F)), (.slice a3 n3 c3, regX k q L D X F), (.slice aR nR cR, restL F L)]) := Lib.hid (R6.out.first (.slice (some ⟨gL, 0, none⟩) (nR + 1) capL))
        clear hown hgrow hl1 O1 A1 R5 o0 o1 o2 g0 g1 g2
        obtain ⟨⟨o0, o1, o2⟩, g0, g1, g2⟩ := R6.out.at (r := gb) (a := .slice a1 (nR + j) c1) (b := .slice (some ⟨gd, 0, none⟩) (nR + j) c2) (c := .slice a3 n3 c3) (by simp)
        have htk := (R7.out.rd (v := .slice (some ⟨gd, 0, none⟩) (nR + j) c2) (xs := dimsVia L D (regL L F)) (by simp)).take nR (by rw [HD2.out.1]; omega)
        rw [HD2.out.2] at htk
        have HI2 := Lib.hid (ints_new htk (Nat.le_refl _) (by rw [dimsVia_len, ← HNR.out.1]; omega))
        clear htk
        go_wp2_with fail
        refine HI2.out.mono ?_
        clear o0 o1 o2 g0 g1 g2 HI2
        rintro e w8 ⟨vE, rfl, ho, hb⟩
        obtain ⟨aE, cE, rfl, -⟩ := ints_form ho.rd
        have HDE : Hid ((dimsVia L D (restL F L)).length = nR) := Lib.hid (by rw [dimsVia_len, ← HNR.out.1])
        rw [HDE.out] at ho ⊢
        have R8 := Lib.hid (R7.out.new hb ho)
        clear ho hb R6 R7
        have A2 := Lib.hid (R8.out.alloc (.cells #[.int .i64 P] 3))
        have O2 := Lib.hid (A2.out.row (List.mem_cons_self) HDE.out : World.ownsRow _ w.heap.size 3 1 (.slice aE nR cE) nR (ints (dimsVia L D (restL F L))))
        obtain ⟨⟨o0, o1, o2⟩, g0, g1, g2⟩ := A2.out.at (r := gb) (a := .slice (some ⟨gL, 0, none⟩) (nR + 1) capL) (b := .slice (some ⟨gd, 0, none⟩) (nR + j) c2) (c := .slice a3 n3 c3) (by simp)
        go_wp2_with (at_builtin; go_must (refine wpList_append_lies _ rfl _ _ 26 rfl w.heap.size 3 i0 (.int .i64 0) 1 8 Try.underlying26 J0.out J1.out J2.out J3.out rfl (by decide) _ nR (ints (dimsVia L D (restL F L))) rfl O2.out ⟨w8.heap.size, 0, none⟩ 1 1 [.int .i64 P] rfl rfl (cell_one_new _ _ _) ?d2 (by decide) ?d3 ?d4 ?d5 _ rfl ?_))
        case d2 => first | rfl | (intro u hu; simp at hu; subst hu; rfl)
        case d3 => unfold maxLen; omega
        case d4 => omega
        case d5 => exact A2.out.bel.size
        intro gE capE w9 hown hgrow hl1 _
        have R9 := Lib.hid (A2.out.app1 HDE.out hown hgrow (by rw [World.size_alloc]; exact hl1))
        have HFU : Hid (dimsVia L D (restL F L) ++ [P] = fuseD L D F) := Lib.hid (by rw [HPP.out]; rfl)
        rw [HFU.out] at R9
        have R10 : Hid (Rs w (w9.setCell ⟨gb, 1, none⟩ (.slice (some ⟨gE, 0, none⟩) (nR + 1) capE)) ((gb, .slice (some ⟨gL, 0, none⟩) (nR + 1) capL, .slice (some ⟨gE, 0, none⟩) (nR + 1) capE, .slice a3 n3 c3) :: gz1) [(.slice (some ⟨gL, 0, none⟩) (nR + 1) capL, fuseL L F c), (.slice (some ⟨gE, 0, none⟩) (nR + 1) capE, fuseD L D F), (.slice a3 n3 c3, regX k q L D X F)]) := Lib.hid (by
          have h := R9.out.setB 1 (.slice (some ⟨gE, 0, none⟩) (nR + 1) capE)
          simp only [if_true, if_false, Nat.one_ne_zero, Nat.reduceEqDiff] at h
          exact (h.sub (rows' := [(.slice (some ⟨gE, 0, none⟩) (nR + 1) capE, fuseD L D F), (.slice (some ⟨gL, 0, none⟩) (nR + 1) capL, fuseL L F c), (.slice a3 n3 c3, regX k q L D X F)]) (List.Sublist.cons_cons _ (List.Sublist.cons_cons _ (List.Sublist.cons _ (List.Sublist.cons _ (List.Sublist.cons_cons _ (List.nil_sublist _))))))).swap)
        clear hown hgrow hl1 O2 A2 R8 o0 o1 o2 g0 g1 g2
        obtain ⟨⟨o0, o1, o2⟩, g0, g1, g2⟩ := R9.out.at (r := gb) (a := .slice (some ⟨gL, 0, none⟩) (nR + 1) capL) (b := .slice (some ⟨gd, 0, none⟩) (nR + j) c2) (c := .slice a3 n3 c3) (by simp)
        have HSZ := Lib.hid (size_spec (B := (w9.setCell ⟨gb, 1, none⟩ (.slice (some ⟨gE, 0, none⟩) (nR + 1) capE)).heap.size) ⟨R10.out.rd (v := .slice (some ⟨gL, 0, none⟩) (nR + 1) capL) (xs := fuseL L F c) (by simp), R10.out.rd (v := .slice (some ⟨gE, 0, none⟩) (nR + 1) capE) (xs := fuseD L D F) (by simp), R10.out.rd (v := .slice a3 n3 c3) (xs := regX k q L D X F) (by simp)⟩ (Nat.le_refl _) ⟨by unfold fuseL; rw [List.length_append, ← HNR.out.1]; simp; omega, by unfold fuseD; rw [List.length_append, HDE.out]; simp; omega, regX_small HTB.out.symm HSV.out⟩)
        rw [← HS.out] at HSZ
        go_wp2_with fail
        refine HSZ.out.mono ?_
        clear o0 o1 o2 g0 g1 g2 HSZ R9
        rintro e w10 ⟨rfl, hb⟩
        have R11 := Lib.hid (R10.out.step hb)
        clear hb R10
        by_cases hs0 : 0 ≤ s
        case neg =>
            have q3 : decide (s < 0) = true := by simpa using hs0
            obtain rfl : fb = false := by rw [HFB.out, decide_eq_false hs0]; simp
            obtain ⟨rfl, rfl, rfl⟩ := HNO.out (by simp)
            obtain ⟨⟨t0, t1, t2⟩, f0, f1, f2⟩ := R11.out.at (r := w.heap.size + 1 + 1) (a := nilV) (b := nilV) (c := nilV) (by rw [HBS.out]; simp)
            go_wp2
            refine bodyPost_ret (v := .tuple #[tenV nilV nilV nilV, .bool false]) (by simp [results, Try.results18, go_sem, t0, t1, t2]) rfl ?_
            exact NewTen2.nils (((R11.out.bel.setCell (by simp; omega) _).setCell (by simp; omega) _).setCell (by simp; omega) _)
        case pos =>
            have q3 : decide (s < 0) = false := by simpa using hs0
            obtain rfl : fb = true := by rw [HFB.out, decide_eq_true hs0, decide_eq_true (show 1 ≤ j by omega)]; rfl
            have HY3 := Lib.hid (HYES.out rfl)
            obtain ⟨⟨t0, t1, t2⟩, f0, f1, f2⟩ := R11.out.at (r := w.heap.size + 1 + 1) (a := nilV) (b := nilV) (c := nilV) (by rw [HBS.out]; simp)
            obtain ⟨⟨o0, o1, o2⟩, -⟩ := R11.out.at (r := gb) (a := .slice (some ⟨gL, 0, none⟩) (nR + 1) capL) (b := .slice (some ⟨gE, 0, none⟩) (nR + 1) capE) (c := .slice a3 n3 c3) (by simp)
            go_wp2
            refine bodyPost_ret (v := .tuple #[tenV (.slice (some ⟨gL, 0, none⟩) (nR + 1) capL) (.slice (some ⟨gE, 0, none⟩) (nR + 1) capE) (.slice a3 n3 c3), .bool true]) (by simp [results, Try.results18, go_sem, t0, t1, t2]) rfl ?_
            have h := R11.out
            rw [HBS.out] at h
            have h2 := h.swapB.set3 (.slice (some ⟨gL, 0, none⟩) (nR + 1) capL) (.slice (some ⟨gE, 0, none⟩) (nR + 1) capE) (.slice a3 n3 c3)
            rw [HY3.out.1, HY3.out.2.1, HY3.out.2.2]
            exact ⟨_, _, _, rfl, h2.ownG, h2.bel⟩
end Go.Proofs.Ytgdkllhgaikpnaa
