
/- A network that a call has made: marked, and held. -/
import Derived.Test.YtdheakjjnaifkaaSubImpl
namespace Go.Proofs.Ytdheakjjnaifkaa
set_option maxRecDepth 20000
open Go.RowKit

theorem OwnG.put2 {w w' : World} {lo hi : Nat} {pre post : List RowE} {u : Value} {xs xs' : List Int} (h : OwnG w lo hi (pre ++ (u, xs) :: post)) (hg : w.grownBy w' u.ownBlock) (ho : Own w' lo hi u xs') : OwnG w' lo hi (pre ++ (u, xs') :: post) := by
  obtain ⟨h1, h2⟩ := h
  have hp := List.pairwise_append.1 h2
  have hq := List.pairwise_cons.1 hp.2.1
  refine ⟨fun r hr => ?_, ?_⟩
  · rcases List.mem_append.1 hr with hr | hr
    · exact (h1 r (List.mem_append.2 (.inl hr))).apart hg (fun g hg' e1 => hp.2.2 r hr (u, xs) List.mem_cons_self g e1 hg')
    · rcases List.mem_cons.1 hr with rfl | hr
      · exact ho
      · exact (h1 r (List.mem_append.2 (.inr (List.mem_cons_of_mem _ hr)))).apart hg (fun g hg' e1 => hq.1 r hr g hg' e1)
  · refine List.pairwise_append.2 ⟨hp.1, List.pairwise_cons.2 ⟨fun r hr => hq.1 r hr, hq.2⟩, fun a ha b hb => ?_⟩
    rcases List.mem_cons.1 hb with rfl | hb
    · exact hp.2.2 a ha (u, xs) List.mem_cons_self
    · exact hp.2.2 a ha b (List.mem_cons_of_mem _ hb)
/-- What marking leaves in tensors. -/
def markT : Nat → List TenE → List TenE
  | _, [] => []
  | s, t :: r => (marksI s t.1.length, marksI (s + t.1.length) t.2.1.length, marksI (s + t.1.length + t.2.1.length) t.2.2.length) :: markT (s + wtT t) r
theorem markT_len : ∀ (ts : List TenE) (s : Nat), (markT s ts).length = ts.length := by
  intro ts
  induction ts with
  | nil => intro s; rfl
  | cons t r ih => intro s; show (markT _ r).length + 1 = _; rw [ih]; rfl
theorem markT_app : ∀ (A B : List TenE) (s : Nat), markT s (A ++ B) = markT s A ++ markT (s + totT A) B := by
  intro A
  induction A with
  | nil => intro B s; simp [markT, totT]
  | cons t r ih =>
    intro B s
    show _ :: markT (s + wtT t) (r ++ B) = (_ :: markT (s + wtT t) r) ++ _
    rw [ih, List.cons_append]
    congr 2
    simp [totT, Nat.add_assoc]
theorem rowsR_mid (za zb : List (TenW × TenE)) (z : TenW × TenE) : rowsR (za ++ z :: zb) = rowsR zb ++ ((z.1.1, z.2.1) :: (z.1.2.1, z.2.2.1) :: (z.1.2.2, z.2.2.2) :: rowsR za) := by simp [rowsR]
theorem zip_mid {us : List TenW} {M1 M2 : List TenE} {u : TenW} {t : TenE} {j : Nat} (hu : us[j]? = some u) (hm : M1.length = j) : us.zip (M1 ++ t :: M2) = (us.take j).zip M1 ++ (u, t) :: (us.drop (j + 1)).zip M2 := by
  have h1 := (List.getElem?_eq_some_iff.1 hu).1
  have h2 := (List.getElem?_eq_some_iff.1 hu).2
  conv => lhs; rw [← List.take_append_drop j us, List.drop_eq_getElem_cons h1, h2]
  rw [List.zip_append (by rw [List.length_take]; omega)]
  rfl
/-- The state while the rows are marked, with what they hold. -/
structure MkX (w0 w : World) (lo hi G n cap : Nat) (cs : List Value) (us : List TenW) (M : List TenE) : Prop where
  ow : w.ownsRow lo 55 3 (.slice (some ⟨G, 0, none⟩) n cap) n cs
  og : OwnG w lo hi (rowsR (us.zip M))
  kp : KeptOut w0 w lo hi
section
variable {w0 w w' : World} {lo hi G n cap j : Nat} {cs : List Value} {us : List TenW} {M1 M2 : List TenE} {u : TenW} {L D X L' : List Int}
theorem MkX.owns (h : MkX w0 w lo hi G n cap cs us (M1 ++ (L, D, X) :: M2)) (hu : us[j]? = some u) (hm : M1.length = j) : Own w lo hi u.1 L ∧ Own w lo hi u.2.1 D ∧ Own w lo hi u.2.2 X := by
  have h1 := h.og
  rw [zip_mid hu hm, rowsR_mid] at h1
  exact ⟨h1.1 (u.1, L) (by simp), h1.1 (u.2.1, D) (by simp), h1.1 (u.2.2, X) (by simp)⟩
theorem MkX.mark1 (h : MkX w0 w lo hi G n cap cs us (M1 ++ (L, D, X) :: M2)) (hu : us[j]? = some u) (hm : M1.length = j) (hf : u.1.ownBlock ≠ some G) (hg : w.grownBy w' u.1.ownBlock) (ho : Own w' lo hi u.1 L') : MkX w0 w' lo hi G n cap cs us (M1 ++ (L', D, X) :: M2) := by
  have h1 := h.og
  rw [zip_mid hu hm, rowsR_mid] at h1
  have h2 := OwnG.put2 (u := u.1) (xs := L) h1 hg ho
  refine ⟨h.ow.kept hg (.inr (fun e => hf e.symm)), ?_, h.kp.trans (KeptOut.of hg (fun g e => ⟨ho.lo g e, ho.2.1 g e⟩))⟩
  rw [zip_mid hu hm, rowsR_mid]
  exact h2
theorem MkX.mark2 (h : MkX w0 w lo hi G n cap cs us (M1 ++ (L, D, X) :: M2)) (hu : us[j]? = some u) (hm : M1.length = j) (hf : u.2.1.ownBlock ≠ some G) (hg : w.grownBy w' u.2.1.ownBlock) (ho : Own w' lo hi u.2.1 L') : MkX w0 w' lo hi G n cap cs us (M1 ++ (L, L', X) :: M2) := by
  have h1 := h.og
  rw [zip_mid hu hm, rowsR_mid, List.append_cons] at h1
  have h2 := OwnG.put2 (u := u.2.1) (xs := D) h1 hg ho
  refine ⟨h.ow.kept hg (.inr (fun e => hf e.symm)), ?_, h.kp.trans (KeptOut.of hg (fun g e => ⟨ho.lo g e, ho.2.1 g e⟩))⟩
  rw [zip_mid hu hm, rowsR_mid, List.append_cons]
  exact h2
theorem MkX.mark3 (h : MkX w0 w lo hi G n cap cs us (M1 ++ (L, D, X) :: M2)) (hu : us[j]? = some u) (hm : M1.length = j) (hf : u.2.2.ownBlock ≠ some G) (hg : w.grownBy w' u.2.2.ownBlock) (ho : Own w' lo hi u.2.2 L') : MkX w0 w' lo hi G n cap cs us (M1 ++ (L, D, L') :: M2) := by
  have h1 := h.og
  rw [zip_mid hu hm, rowsR_mid, List.append_cons, List.append_cons] at h1
  have h2 := OwnG.put2 (u := u.2.2) (xs := X) h1 hg ho
  refine ⟨h.ow.kept hg (.inr (fun e => hf e.symm)), ?_, h.kp.trans (KeptOut.of hg (fun g e => ⟨ho.lo g e, ho.2.1 g e⟩))⟩
  rw [zip_mid hu hm, rowsR_mid, List.append_cons, List.append_cons]
  exact h2
end
theorem zip_parts (zs : List (TenW × TenE)) : (zs.map (·.1)).zip (zs.map (·.2)) = zs := by
  induction zs with
  | nil => rfl
  | cons z r ih => show (z.1, z.2) :: ((r.map (·.1)).zip (r.map (·.2))) = _; rw [ih]
theorem totT_takes (ts : List TenE) (j : Nat) : totT (ts.take j) ≤ totT ts := by
  have e : totT ts = totT (ts.take j) + totT (ts.drop j) := by
    unfold totT
    rw [← List.sum_append, ← List.map_append, List.take_append_drop]
  omega
set_option maxHeartbeats 3200000 in
theorem mark_tensx {lo hi : Nat} {v : Value} {ts : List TenE} {w : World} {z : Int} (s : Nat) (hz : z = (s : Int)) (h : OwnTs w lo hi v ts) (hn : ts.length ≤ 1048576) (hs : s + totT ts ≤ 1073741824) :
    Calls Try.prog 55 #[v, .int .i64 z] w fun e w' => e = .returned (.int .i64 ((s + totT ts : Nat) : Int)) ∧ OwnTs w' lo hi v (markT s ts) ∧ KeptOut w w' lo hi := by
  subst hz
  have hown := h
  obtain ⟨zs, cs, h1, h2, h3, h4, h5, h6⟩ := h
  have hzl : zs.length = ts.length := by rw [← h1, List.length_map]
  rcases h2.2 with ⟨rfl, h0⟩ | ⟨G, cap, cur, rfl, -⟩
  · have hts : ts = [] := List.length_eq_zero_iff.1 h0
    subst hts
    have K0 := Lib.hid (And.intro hown (KeptOut.refl w lo hi))
    go_enter Try.func55, Try.ntmps55
    go_wp2
    go_loopw [1, 5] (fun l i wr => l = .int .i64 (s : Int) ∧ i = .int .i64 (0 : Int) ∧ wr = w) (fun _ _ _ => 0)
    case atStart => exact ⟨rfl, rfl, rfl⟩
    case round =>
      obtain ⟨rfl, rfl, rfl⟩ := hrel
      go_wp2
      go_ret
      exact ⟨by simp [totT], K0.out.1, K0.out.2⟩
  · obtain ⟨us, hus⟩ : ∃ us, us = zs.map (·.1) := ⟨_, rfl⟩
    have M0 : Hid (MkX w w lo hi G ts.length cap cs us (markT s (ts.take 0) ++ ts.drop 0)) := Lib.hid ⟨h2, by
      have e : markT s (ts.take 0) ++ ts.drop 0 = ts := by simp [markT]
      rw [e, hus, ← h1, zip_parts]
      exact h4, KeptOut.refl w lo hi⟩
    have HF : Hid (∀ u ∈ us, u.1.ownBlock ≠ some G ∧ u.2.1.ownBlock ≠ some G ∧ u.2.2.ownBlock ≠ some G) := Lib.hid (fun u hu => by
      rw [hus] at hu
      obtain ⟨z, hz, rfl⟩ := List.mem_map.1 hu
      obtain ⟨m1, m2, m3⟩ := rowsR_mem hz
      have hf := (h5 G rfl).2
      exact ⟨hf _ m1, hf _ m2, hf _ m3⟩)
    have HC : Hid (∀ (i : Nat) (u : TenW), us[i]? = some u → cs[i * 3]? = some u.1 ∧ cs[i * 3 + 1]? = some u.2.1 ∧ cs[i * 3 + 2]? = some u.2.2) := Lib.hid (fun i u hu => by
      rw [hus, List.getElem?_map] at hu
      cases hq : zs[i]? with
      | none => rw [hq] at hu; cases hu
      | some z => rw [hq] at hu; cases hu; exact h3 i z hq)
    have HUL : Hid (us.length = ts.length) := Lib.hid (by rw [hus, List.length_map]; exact hzl)
    have HGH : Hid (G < hi) := Lib.hid (h5 G rfl).1
    have HHI := Lib.hid h6
    have HS := Lib.hid hs
    obtain ⟨n, hnn⟩ : ∃ n, n = ts.length := ⟨_, rfl⟩
    rw [← hnn] at M0 hn HUL ⊢
    have HN := Lib.hid hnn
    clear h1 h2 h3 h4 h5 h6 hs hzl hnn hown hus
    go_enter Try.func55, Try.ntmps55
    go_wp2
    go_loopw [1, 5] (fun l i wr => ∃ (j q : Nat), j ≤ n ∧ i = .int .i64 j ∧ l = .int .i64 q ∧ Hid (q = s + totT (ts.take j)) ∧ Hid (MkX w wr lo hi G n cap cs us (markT s (ts.take j) ++ ts.drop j))) (fun _ i _ => n - (intOf i).toNat)
    case atStart => exact ⟨0, s, by omega, rfl, rfl, (show s = s + totT (ts.take 0) by simp [totT]), M0⟩
    case round =>
      clear M0
      obtain ⟨j, q, hj, rfl, rfl, HQ, HM⟩ := hrel
      by_cases hlt : j < n
      · obtain ⟨⟨L, D, X⟩, T1⟩ : ∃ t, Hid (ts[j]? = some t) := ⟨_, List.getElem?_eq_getElem (by rw [← HN.out]; exact hlt)⟩
        obtain ⟨⟨x1, x2, x3⟩, U1⟩ : ∃ u, Hid (us[j]? = some u) := ⟨_, List.getElem?_eq_getElem (by rw [HUL.out]; exact hlt)⟩
        have hd : ts.drop j = (L, D, X) :: ts.drop (j + 1) := by
          rw [List.drop_eq_getElem_cons (List.getElem?_eq_some_iff.1 T1.out).1, (List.getElem?_eq_some_iff.1 T1.out).2]
        rw [hd] at HM
        obtain ⟨M1, hM1⟩ : ∃ M, M = markT s (ts.take j) := ⟨_, rfl⟩
        obtain ⟨M2, hM2⟩ : ∃ M, M = ts.drop (j + 1) := ⟨_, rfl⟩
        rw [← hM1, ← hM2] at HM
        have HML : Hid (M1.length = j) := Lib.hid (by rw [hM1, markT_len, List.length_take, ← HN.out]; omega)
        obtain ⟨n1, hn1⟩ : ∃ x, x = L.length := ⟨_, rfl⟩
        obtain ⟨n2, hn2⟩ : ∃ x, x = D.length := ⟨_, rfl⟩
        obtain ⟨n3, hn3⟩ : ∃ x, x = X.length := ⟨_, rfl⟩
        have hw := totT_step T1.out
        have hwt : wtT (L, D, X) = n1 + n2 + n3 := by rw [hn1, hn2, hn3]; rfl
        have hle := totT_takes ts (j + 1)
        have hB : q + n1 + n2 + n3 ≤ 1073741824 ∧ q + n1 + n2 + n3 = s + totT (ts.take (j + 1)) := by
          have := HS.out
          have := HQ.out
          omega
        have HB := Lib.hid hB
        have HNX : Hid (markT s (ts.take (j + 1)) ++ ts.drop (j + 1) = M1 ++ (marksI q n1, marksI (q + n1) n2, marksI (q + n1 + n2) n3) :: M2) := Lib.hid (by
          rw [List.take_add_one, T1.out, hM1, hM2, hn1, hn2, hn3]
          show markT s (ts.take j ++ [(L, D, X)]) ++ _ = _
          rw [markT_app, ← HQ.out, List.append_assoc]
          rfl)
        have HLN := Lib.hid (And.intro hn1 (And.intro hn2 hn3))
        have clen : cs.length = n * 3 := HM.out.ow.1
        have HCL : Hid (∀ (W : World) (M : List TenE), MkX w W lo hi G n cap cs us M → W.cell? ⟨G, j * 3, none⟩ = some x1 ∧ W.cell? ⟨G, j * 3 + 1, none⟩ = some x2 ∧ W.cell? ⟨G, j * 3 + 2, none⟩ = some x3) := Lib.hid (fun W M h => by
          obtain ⟨e1, e2, e3⟩ := HC.out j _ U1.out
          exact ⟨(h.ow.cellAt _ (by omega)).trans e1, (h.ow.cellAt _ (by omega)).trans e2, (h.ow.cellAt _ (by omega)).trans e3⟩)
        obtain ⟨f1, f2, f3⟩ := HF.out _ (List.mem_of_getElem? U1.out)
        have F1 := Lib.hid f1
        have F2 := Lib.hid f2
        have F3 := Lib.hid f3
        obtain ⟨o1, o2, o3⟩ := HM.out.owns U1.out HML.out
        have MA := Lib.hid (marks_from q rfl o1 (by rw [← hn1]; omega) (by omega))
        rw [← hn1] at MA
        have k0 := (HCL.out _ _ HM.out).1
        obtain ⟨q1, hq1⟩ : ∃ x, x = q + n1 := ⟨_, rfl⟩
        obtain ⟨q2, hq2⟩ : ∃ x, x = q + n1 + n2 := ⟨_, rfl⟩
        obtain ⟨q3, hq3⟩ : ∃ x, x = q + n1 + n2 + n3 := ⟨_, rfl⟩
        rw [← hq1] at MA
        have HQS := Lib.hid (And.intro hq1 (And.intro hq2 hq3))
        have b1 : q1 ≤ 1073741824 := by omega
        have b2 : q2 ≤ 1073741824 := by omega
        have b0 : q ≤ 1073741824 := by omega
        clear hd hM1 hM2 hn1 hn2 hn3 hw hwt hle hB clen f1 f2 f3 o1 o2 o3 hq1 hq2 hq3
        go_wp2_with fail
        refine MA.out.mono ?_
        clear k0 MA
        rintro e w1 ⟨rfl, o1, g1⟩
        have S1 := Lib.hid (HM.out.mark1 U1.out HML.out F1.out g1 o1)
        clear o1 g1 HM
        obtain ⟨-, o2, -⟩ := S1.out.owns U1.out HML.out
        have MB := Lib.hid (marks_from q1 rfl o2 (by rw [← HLN.out.2.1]; have := HB.out.1; omega) (by omega))
        rw [← HLN.out.2.1, show q1 + n2 = q2 by rw [HQS.out.1, HQS.out.2.1]] at MB
        have k1 := (HCL.out _ _ S1.out).2.1
        clear o2
        go_wp2_with fail
        refine MB.out.mono ?_
        clear k1 MB
        rintro e w2 ⟨rfl, o2, g2⟩
        have S2 := Lib.hid (S1.out.mark2 U1.out HML.out F2.out g2 o2)
        clear o2 g2 S1
        obtain ⟨-, -, o3⟩ := S2.out.owns U1.out HML.out
        have MC := Lib.hid (marks_from q2 rfl o3 (by rw [← HLN.out.2.2]; have := HB.out.1; omega) (by omega))
        rw [← HLN.out.2.2, show q2 + n3 = q3 by rw [HQS.out.2.1, HQS.out.2.2]] at MC
        have k2 := (HCL.out _ _ S2.out).2.2
        clear o3
        go_wp2_with fail
        refine MC.out.mono ?_
        clear k2 MC
        rintro e w3 ⟨rfl, o3, g3⟩
        have S3 : Hid (MkX w w3 lo hi G n cap cs us (markT s (ts.take (j + 1)) ++ ts.drop (j + 1))) := Lib.hid (by
          rw [HNX.out]
          have h1 := S2.out.mark3 U1.out HML.out F3.out g3 o3
          rw [HQS.out.1, HQS.out.2.1] at h1
          exact h1)
        clear o3 g3 S2
        have HQ2 : Hid (q3 = s + totT (ts.take (j + 1))) := Lib.hid (by rw [HQS.out.2.2]; exact HB.out.2)
        go_wp2
        go_roundw
        case rel => exact ⟨j + 1, q3, by omega, by go_num, rfl, HQ2, S3⟩
        case measure => simp [intOf]; omega
      · obtain rfl : j = n := by omega
        have e1 : ts.take j = ts := List.take_of_length_le (by rw [← HN.out]; exact Nat.le_refl _)
        have e2 : ts.drop j = [] := List.drop_of_length_le (by rw [← HN.out]; exact Nat.le_refl _)
        rw [e1, e2, List.append_nil] at HM
        rw [e1] at HQ
        have hml : (markT s ts).length = j := by rw [markT_len, HN.out]
        have HML := Lib.hid hml
        clear e1 e2 hml
        go_wp2
        go_ret
        refine ⟨by rw [HQ.out]; rfl, ⟨us.zip (markT s ts), cs, ?_, by rw [HML.out]; exact HM.out.ow, fun i y hy => ?_, HM.out.og, fun g hg => ?_, Nat.le_trans HHI.out HM.out.kp.2.2.2.1⟩, HM.out.kp⟩
        · exact List.map_snd_zip (by rw [HUL.out, HML.out]; exact Nat.le_refl _)
        · have h1 : us[i]? = some y.1 := (List.getElem?_zip_eq_some.1 hy).1
          exact HC.out i y.1 h1
        · simp only [Value.ownBlock, Option.some.injEq] at hg
          subst hg
          refine ⟨HGH.out, fun r hr => ?_⟩
          unfold rowsR at hr
          obtain ⟨y, hy, hr⟩ := List.mem_flatMap.1 hr
          obtain ⟨f1, f2, f3⟩ := HF.out y.1 (List.of_mem_zip (List.mem_reverse.1 hy)).1
          simp only [List.mem_cons, List.not_mem_nil, or_false] at hr
          rcases hr with rfl | rfl | rfl
          · exact f1
          · exact f2
          · exact f3
set_option maxHeartbeats 3200000 in
theorem held_tensx {lo hi : Nat} {v : Value} {ts : List TenE} {w : World} {z : Int} (s : Nat) (hz : z = (s : Int)) (h : OwnTs w lo hi v (markT s ts)) (hn : ts.length ≤ 1048576) (hs : s + totT ts ≤ 1073741824) :
    Calls Try.prog 76 #[v, .int .i64 z] w fun e w' => e = .returned (.int .i64 ((s + totT ts : Nat) : Int)) ∧ Below w.heap.size w w' := by
  subst hz
  have hml : (markT s ts).length = ts.length := markT_len ts s
  have hR := h.rd.mono (show hi ≤ w.heap.size by obtain ⟨zs, cs, h1, h2, h3, h4, h5, h6⟩ := h; exact h6)
  obtain ⟨a, cap, rfl⟩ := hR.form
  have HR := Lib.hid hR
  have HS := Lib.hid hs
  have B0 := Lib.hid (Below.refl w.heap.size w)
  obtain ⟨n, hnn⟩ : ∃ n, n = ts.length := ⟨_, rfl⟩
  rw [← hnn] at hml hn
  rw [hml] at HR ⊢
  have HN := Lib.hid hnn
  clear h hml hR hs hnn
  go_enter Try.func76, Try.ntmps76
  go_wp2
  go_loopw [1, 5] (fun l i wr => ∃ (j q : Nat), j ≤ n ∧ i = .int .i64 j ∧ l = .int .i64 q ∧ Hid (q = s + totT (ts.take j)) ∧ Hid (Below w.heap.size w wr)) (fun _ i _ => n - (intOf i).toNat)
  case atStart => exact ⟨0, s, by omega, rfl, rfl, (show s = s + totT (ts.take 0) by simp [totT]), B0⟩
  case round =>
    clear B0
    obtain ⟨j, q, hj, rfl, rfl, HQ, HW⟩ := hrel
    by_cases hlt : j < n
    · obtain ⟨⟨L, D, X⟩, T1⟩ : ∃ t, Hid (ts[j]? = some t) := ⟨_, List.getElem?_eq_getElem (by rw [← HN.out]; exact hlt)⟩
      obtain ⟨n1, hn1⟩ : ∃ x, x = L.length := ⟨_, rfl⟩
      obtain ⟨n2, hn2⟩ : ∃ x, x = D.length := ⟨_, rfl⟩
      obtain ⟨n3, hn3⟩ : ∃ x, x = X.length := ⟨_, rfl⟩
      have hmt : (markT s ts)[j]? = some (marksI q n1, marksI (q + n1) n2, marksI (q + n1 + n2) n3) := by
        have h1 := (List.getElem?_eq_some_iff.1 T1.out).1
        have hd : ts = ts.take j ++ (L, D, X) :: ts.drop (j + 1) := by
          conv => lhs; rw [← List.take_append_drop j ts, List.drop_eq_getElem_cons h1, (List.getElem?_eq_some_iff.1 T1.out).2]
        have hl : (markT s (ts.take j)).length = j := by rw [markT_len, List.length_take]; omega
        conv => lhs; rw [hd, markT_app, ← HQ.out]
        rw [List.getElem?_append_right (by omega), hl, Nat.sub_self, hn1, hn2, hn3]
        rfl
      have hw := totT_step T1.out
      have hwt : wtT (L, D, X) = n1 + n2 + n3 := by rw [hn1, hn2, hn3]; rfl
      have hle := totT_takes ts (j + 1)
      have hB : q + n1 + n2 + n3 ≤ 1073741824 ∧ q + n1 + n2 + n3 = s + totT (ts.take (j + 1)) := by
        have := HS.out
        have := HQ.out
        omega
      have HB := Lib.hid hB
      obtain ⟨bk, ok, a1, d1, a2, d2, a3, d3, hpa, hbw, k0, k1, k2, hT⟩ := HR.out.at hmt
      subst hpa
      simp only [marksI_len] at k0 k1 k2 hT
      have HT := Lib.hid (fun (W : World) (hb : Below w.heap.size w W) => hT.below hb (Nat.le_refl _))
      have HCL : Hid (∀ W : World, Below w.heap.size w W → W.cell? ⟨bk, ok + j * 3, none⟩ = some (.slice a1 n1 d1) ∧ W.cell? ⟨bk, ok + j * 3 + 1, none⟩ = some (.slice a2 n2 d2) ∧ W.cell? ⟨bk, ok + j * 3 + 2, none⟩ = some (.slice a3 n3 d3)) := Lib.hid (fun W hb => ⟨(hb.cell (p := ⟨bk, ok + j * 3, none⟩) hbw).trans k0, (hb.cell (p := ⟨bk, ok + j * 3 + 1, none⟩) hbw).trans k1, (hb.cell (p := ⟨bk, ok + j * 3 + 2, none⟩) hbw).trans k2⟩)
      obtain ⟨q1, hq1⟩ : ∃ x, x = q + n1 := ⟨_, rfl⟩
      obtain ⟨q2, hq2⟩ : ∃ x, x = q + n1 + n2 := ⟨_, rfl⟩
      obtain ⟨q3, hq3⟩ : ∃ x, x = q + n1 + n2 + n3 := ⟨_, rfl⟩
      have HQS := Lib.hid (And.intro hq1 (And.intro hq2 hq3))
      have z1 : ¬ (q1 : Int) < 0 := by omega
      have z2 : ¬ (q2 : Int) < 0 := by omega
      have z3 : ¬ (q3 : Int) < 0 := by omega
      have b1 : q1 ≤ 1073741824 ∧ n1 ≤ 1073741824 := by omega
      have b2 : q2 ≤ 1073741824 ∧ n2 ≤ 1073741824 := by omega
      have b3 : q ≤ 1073741824 ∧ n3 ≤ 1073741824 := by omega
      have BB := Lib.hid (And.intro b1 (And.intro b2 b3))
      have MA := Lib.hid (helds_row (w := wr) q rfl (HT.out wr HW.out).l (by omega) (by omega))
      rw [← hq1] at MA
      obtain ⟨k0, -, -⟩ := HCL.out wr HW.out
      clear hmt hw hwt hle hB k1 k2 hT hn1 hn2 hn3 hq1 hq2 hq3 b1 b2 b3
      go_wp2_with fail
      refine MA.out.mono ?_
      clear k0 MA
      rintro e w1 ⟨rfl, hb1⟩
      have HW1 := Lib.hid (HW.out.trans (hb1.mono HW.out.size))
      have MB := Lib.hid (helds_row (w := w1) (z := (q1 : Int)) (q + n1) (by rw [HQS.out.1]) (HT.out w1 HW1.out).d (by have := BB.out; omega) (by have := BB.out; omega))
      rw [show q + n1 + n2 = q2 by rw [HQS.out.2.1]] at MB
      obtain ⟨-, k1, -⟩ := HCL.out w1 HW1.out
      clear hb1
      go_wp2_with fail
      refine MB.out.mono ?_
      clear k1 MB
      rintro e w2 ⟨rfl, hb2⟩
      have HW2 := Lib.hid (HW1.out.trans (hb2.mono HW1.out.size))
      have MC := Lib.hid (helds_row (w := w2) (z := (q2 : Int)) (q + n1 + n2) (by rw [HQS.out.2.1]) (HT.out w2 HW2.out).x (by have := BB.out; omega) (by have := BB.out; omega))
      rw [show q + n1 + n2 + n3 = q3 by rw [HQS.out.2.2]] at MC
      obtain ⟨-, -, k2⟩ := HCL.out w2 HW2.out
      clear hb2
      go_wp2_with fail
      refine MC.out.mono ?_
      clear k2 MC
      rintro e w3 ⟨rfl, hb3⟩
      have HW3 := Lib.hid (HW2.out.trans (hb3.mono HW2.out.size))
      have HQ2 : Hid (q3 = s + totT (ts.take (j + 1))) := Lib.hid (by rw [HQS.out.2.2]; exact HB.out.2)
      clear hb3
      go_wp2
      go_roundw
      case rel => exact ⟨j + 1, q3, by omega, by go_num, rfl, HQ2, HW3⟩
      case measure => simp [intOf]; omega
    · obtain rfl : j = n := by omega
      have e1 : ts.take j = ts := List.take_of_length_le (by rw [← HN.out]; exact Nat.le_refl _)
      rw [e1] at HQ
      go_wp2
      go_ret
      exact ⟨by rw [HQ.out]; rfl, HW.out⟩
end Go.Proofs.Ytdheakjjnaifkaa
namespace Go.Proofs.Ytdheakjjnaifkaa
set_option maxRecDepth 20000
open Go.RowKit

section
variable {w w' : World} {lo hi : Nat} {tv ov : Value} {ts : List TenE} {O : List Int}
theorem OwnTs.le {w : World} {lo hi : Nat} {v : Value} {ts : List TenE} (h : OwnTs w lo hi v ts) : hi ≤ w.heap.size := by
  obtain ⟨zs, cs, h1, h2, h3, h4, h5, h6⟩ := h
  exact h6
theorem OwnNetR.le (h : OwnNetR w lo hi tv ov ts O) : hi ≤ w.heap.size := by
  obtain ⟨m, h1, h2, h3, h4⟩ := h
  exact h4.le
theorem OwnNetR.below (h : OwnNetR w lo hi tv ov ts O) (hb : Below w.heap.size w w') : OwnNetR w' lo hi tv ov ts O := by
  obtain ⟨m, h1, h2, h3, h4⟩ := h
  exact ⟨m, h1, h2, h3.below hb (Nat.le_refl _), h4.below hb⟩
theorem OwnNetR.kept {l h' : Nat} (h : OwnNetR w lo hi tv ov ts O) (hk : KeptOut w w' l h') (hd : hi ≤ l ∨ h' ≤ lo) : OwnNetR w' lo hi tv ov ts O := by
  obtain ⟨m, h1, h2, h3, h4⟩ := h
  exact ⟨m, h1, h2, ((OwnG.one h3).kept hk (by omega)).row, h4.kept hk (by omega)⟩
theorem OwnNetR.tens (h : OwnNetR w lo hi tv ov ts O) : RdTs w.heap.size w tv ts := by
  obtain ⟨m, h1, h2, h3, h4⟩ := h
  exact h4.rd.mono h4.le
theorem OwnNetR.opens (h : OwnNetR w lo hi tv ov ts O) : Rd w.heap.size w ov (ints O) := by
  obtain ⟨m, h1, h2, h3, h4⟩ := h
  exact h3.rd.mono h3.2.2
theorem OwnNetR.nil (w : World) (lo : Nat) (h : lo ≤ w.heap.size) : OwnNetR w lo w.heap.size nilV nilV [] [] :=
  ⟨w.heap.size, h, Nat.le_refl _, Own.nil w lo, [], [], rfl, World.ownsRow_nil _ _ _ _, (fun i z hi => by simp at hi), ⟨fun r hr => by simp [rowsR] at hr, by simp [rowsR]; exact List.Pairwise.nil⟩, (fun g hg => by cases hg), Nat.le_refl _⟩
end
set_option maxHeartbeats 1600000 in
theorem mark_netR {lo hi : Nat} {k p q : Int} {tv ov : Value} {ts : List TenE} {O : List Int} {w : World} {z : Int} (s : Nat) (hz : z = (s : Int)) (h : OwnNetR w lo hi tv ov ts O) (hn : ts.length ≤ 1048576) (hs : s + totT ts + O.length ≤ 1073741824) :
    Calls Try.prog 20 #[netV k p q tv ov, .int .i64 z] w fun e w' => e = .returned (.int .i64 ((s + totT ts + O.length : Nat) : Int)) ∧ OwnNetR w' lo hi tv ov (markT s ts) (marksI (s + totT ts) O.length) ∧ KeptOut w w' lo hi := by
  subst hz
  have hle := h.le
  obtain ⟨m, h1, h2, h4, h3⟩ := h
  obtain ⟨a, ca, rfl⟩ := h3.rd.form
  obtain ⟨ao, co, rfl, -⟩ := ints_form h4.rd
  obtain ⟨n, hnn⟩ : ∃ n, n = ts.length := ⟨_, rfl⟩
  obtain ⟨l, hll⟩ : ∃ n, n = O.length := ⟨_, rfl⟩
  obtain ⟨W0, hW0⟩ : ∃ V, V = w.alloc (.cells #[.int .i64 k, .int .i64 p, .int .i64 q, .slice a n ca, .slice ao l co] 33) := ⟨_, rfl⟩
  have hb0 : Below w.heap.size w W0 := by rw [hW0]; exact (Below.refl _ _).alloc (Nat.le_refl _) _
  have hc : W0.cell? ⟨w.heap.size, 3, none⟩ = some (.slice a n ca) ∧ W0.cell? ⟨w.heap.size, 4, none⟩ = some (.slice ao l co) ∧ w.heap.size < W0.heap.size := by rw [hW0]; simp
  have HMT := Lib.hid (mark_tensx s rfl (h3.below hb0) hn (by omega))
  have HO := Lib.hid (h4.below hb0 (Nat.le_refl _))
  obtain ⟨s1, hs1⟩ : ∃ x, x = s + totT ts := ⟨_, rfl⟩
  rw [← hs1] at HMT
  rw [← hnn] at HMT
  rw [← hll] at HO
  rw [← hs1, ← hll, ← hnn]
  have HB0 := Lib.hid hb0
  have HC := Lib.hid hc
  have HW0 := Lib.hid hW0
  have HL := Lib.hid hll
  have HH := Lib.hid (And.intro h1 (And.intro h2 hle))
  have hs2 : s1 + l ≤ 1073741824 := by omega
  obtain ⟨c3, c4, -⟩ := hc
  clear h1 h2 h3 h4 hle hb0 hW0 hnn hll hn hs hs1
  go_enter Try.func20, Try.ntmps20
  go_upto_region 1 with fail
  rw [← HW0.out]
  clear HW0
  go_wp2_with fail
  refine HMT.out.mono ?_
  clear HMT c3
  rintro e w1 ⟨rfl, ot1, hk⟩
  have OT1 := Lib.hid ot1
  have c4 := hk.cell c4 HC.out.2.2 (.inr HH.out.2.2)
  have HK1 := Lib.hid hk
  have HO1 := Lib.hid ((OwnG.one HO.out).kept hk (.inl (Nat.le_refl _)))
  have HM2 := Lib.hid (marks_row s1 rfl HO1.out (by rw [← HL.out]; omega) (by omega))
  rw [← HL.out] at HM2
  have HLE1 := Lib.hid (Nat.le_trans (Nat.le_trans HH.out.2.2 HB0.out.size) hk.2.2.2.1)
  clear hk HO ot1
  go_wp2_with fail
  refine HM2.out.mono ?_
  clear HM2 c4
  rintro e w2 ⟨rfl, oo2, hk⟩
  have OO2 := Lib.hid oo2
  have HK2 := Lib.hid hk
  have OT2 := Lib.hid (OT1.out.kept hk (.inr (Nat.le_refl _)))
  have HLE2 := Lib.hid (Nat.le_trans HLE1.out hk.2.2.2.1)
  clear hk HO1 oo2
  go_wp2
  go_ret
  refine ⟨rfl, ⟨m, HH.out.1, HH.out.2.1, OO2.out.row, OT2.out⟩, ?_⟩
  exact ((KeptOut.of_below HB0.out).trans (HK1.out.wide HH.out.1 (Nat.le_refl _))).trans (HK2.out.wide (Nat.le_refl _) HH.out.2.1)
set_option maxHeartbeats 1600000 in
theorem held_netR {lo hi : Nat} {k p q : Int} {tv ov : Value} {ts : List TenE} {O : List Int} {w : World} {z : Int} (s : Nat) (hz : z = (s : Int)) (h : OwnNetR w lo hi tv ov (markT s ts) (marksI (s + totT ts) O.length)) (hn : ts.length ≤ 1048576) (hs : s + totT ts + O.length ≤ 1073741824) :
    Calls Try.prog 41 #[netV k p q tv ov, .int .i64 z] w fun e w' => e = .returned (.int .i64 ((s + totT ts + O.length : Nat) : Int)) ∧ Below w.heap.size w w' := by
  subst hz
  have hoo := h.opens
  obtain ⟨a, ca, rfl⟩ := h.tens.form
  obtain ⟨ao, co, rfl, -⟩ := ints_form hoo
  obtain ⟨m, h1, h2, h4, h3⟩ := h
  rw [marksI_len] at hoo h4 ⊢
  obtain ⟨n, hnn⟩ : ∃ n, n = (markT s ts).length := ⟨_, rfl⟩
  obtain ⟨l, hll⟩ : ∃ n, n = O.length := ⟨_, rfl⟩
  rw [← hnn] at h3 ⊢
  rw [← hll] at hoo h4 hs ⊢
  obtain ⟨W0, hW0⟩ : ∃ V, V = w.alloc (.cells #[.int .i64 k, .int .i64 p, .int .i64 q, .slice a n ca, .slice ao l co] 33) := ⟨_, rfl⟩
  have hb0 : Below w.heap.size w W0 := by rw [hW0]; exact (Below.refl _ _).alloc (Nat.le_refl _) _
  have N0 : Hid (B5 W0 w.heap.size (.int .i64 k) (.int .i64 p) (.int .i64 q) (.slice a n ca) (.slice ao l co)) := Lib.hid (by rw [hW0]; exact B5.new _ _ _ _ _ _ _)
  have HH := Lib.hid (held_tensx s rfl (h3.below hb0) hn (by omega))
  obtain ⟨s1, hs1⟩ : ∃ x, x = s + totT ts := ⟨_, rfl⟩
  rw [← hs1] at HH hoo h4 hs ⊢
  have z1 : ¬ (s1 : Int) < 0 := by omega
  have z2 : ¬ ((s1 + l : Nat) : Int) < 0 := by omega
  have HO := Lib.hid hoo
  have B0 := Lib.hid hb0
  have HW0 := Lib.hid hW0
  obtain ⟨c0, c1, c2, c3, c4, -⟩ := N0.out
  clear h1 h2 h3 h4 hoo hb0 hnn hll hW0 hs1
  go_enter Try.func41, Try.ntmps41
  go_upto_region 1 with fail
  rw [← HW0.out]
  clear HW0
  go_wp2_with fail
  refine HH.out.mono ?_
  clear HH c0 c1 c2 c3 c4
  rintro e w1 ⟨rfl, hb⟩
  have N1 := Lib.hid (N0.out.step hb)
  have B1 := Lib.hid (B0.out.trans (hb.mono B0.out.size))
  have HR := Lib.hid (helds_row (w := w1) s1 rfl (HO.out.below B1.out (Nat.le_refl _)) (by omega) (by omega))
  obtain ⟨c0, c1, c2, c3, c4, -⟩ := N1.out
  clear hb
  go_wp2_with fail
  refine HR.out.mono ?_
  clear HR c0 c1 c2 c3 c4
  rintro e w2 ⟨rfl, hb⟩
  have B2 := Lib.hid (B1.out.trans (hb.mono B1.out.size))
  clear hb
  go_wp2
  go_ret
  exact ⟨rfl, B2.out⟩
end Go.Proofs.Ytdheakjjnaifkaa
