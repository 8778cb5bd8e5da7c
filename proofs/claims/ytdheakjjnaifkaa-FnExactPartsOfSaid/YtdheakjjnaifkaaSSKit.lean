
/- Rows of rows of the call's own in the laws' walks: compared, written, held. -/
import Derived.Test.YtdheakjjnaifkaaPartsImpl
import Derived.Test.YtdheakjjnaifkaaBx
import Derived.Deep.QuietTactic
import Derived.BigQuiet
import Derived.Deep.RegionHeld3
namespace Go.Proofs.Ytdheakjjnaifkaa
set_option maxRecDepth 20000
open Go.RowKit

theorem row_form0 {w : World} {base n : Nat} {E : TypeId} {v : Value} {cs : List Value} (h : w.ownsRow base E 1 v n cs) : ∃ a c, v = .slice a n c := by
  rcases h.2 with ⟨rfl, h0⟩ | ⟨g, cap, cur, rfl, -⟩
  · subst h0; exact ⟨_, _, rfl⟩
  · exact ⟨_, _, rfl⟩
theorem rows_form0 {B : Nat} {v : Value} {rows : List (List Int)} {w : World} (h : RdRows B w v rows) : ∃ a cap, v = .slice a rows.length cap ∧
    ∀ i (h : i < rows.length), ∃ b off u, a = some ⟨b, off, none⟩ ∧ b < B ∧ w.cell? ⟨b, off + i, none⟩ = some u ∧ Rd B w u (ints rows[i]) := by
  obtain ⟨vs, h1, h2, h3⟩ := h
  rcases h1 with ⟨rfl, a, cap, rfl⟩ | ⟨b, off, cap, rfl, hb, hc, hcell⟩
  · refine ⟨a, cap, by rw [← h2]; rfl, fun i hi => ?_⟩
    rw [← h2] at hi; simp at hi
  · refine ⟨_, cap, by rw [h2], fun i hi => ?_⟩
    obtain ⟨u, hu, hrd⟩ := h3 i hi
    exact ⟨b, off, u, rfl, hb, hcell i u hu, hrd⟩
theorem row_take0 {B : Nat} {a : Option Addr} {rows : List (List Int)} {w : World} {n j : Nat} (hn : n = rows.length) (h : Hid (∀ i (h : i < rows.length), ∃ b off u, a = some ⟨b, off, none⟩ ∧ b < B ∧ w.cell? ⟨b, off + i, none⟩ = some u ∧ Rd B w u (ints rows[i]))) (hj : j < n) :
    ∃ xs b off au len cu, rows[j]? = some xs ∧ len = xs.length ∧ a = some ⟨b, off, none⟩ ∧ b < B ∧ w.cell? ⟨b, off + j, none⟩ = some (.slice au len cu) ∧ Rd B w (.slice au len cu) (ints xs) := by
  obtain ⟨b, off, u, ha, hb, hc, hrd⟩ := h.out j (by omega)
  obtain ⟨au, cu, rfl, -⟩ := ints_form hrd
  exact ⟨rows[j]'(by omega), b, off, au, _, cu, List.getElem?_eq_getElem _, rfl, ha, hb, hc, hrd⟩
theorem Rd.heap0 {B : Nat} {w w1 : World} {v : Value} {xs : List Value} (h : Rd B w v xs) (hh : w1.heap = w.heap) : Rd B w1 v xs := by
  rcases h with h | ⟨b, off, cap, hv, hlt, hcp, hc⟩
  · exact .inl h
  · exact .inr ⟨b, off, cap, hv, hlt, hcp, fun i u hi => (World.cell?_of_block (w := w) (by rw [hh])).trans (hc i u hi)⟩
theorem eq_ints_heap0 {B B' : Nat} {va vb : Value} {xs : List Int} {w : World} (w1 : World) (ha : Rd B w va (ints xs)) (hb : Rd B' w vb (ints xs)) (hn : xs.length ≤ 281474976710656) (hh : w1.heap = w.heap) :
    Calls Try.prog 19 #[va, vb] w1 fun e w' => e = .returned (.bool true) ∧ ∃ q, w' = w1.drewN q :=
  (eq_ints (ha.heap0 hh) (hb.heap0 hh) hn).mono fun _ _ ⟨h1, h2⟩ => ⟨h1.trans (by rw [decide_eq_true rfl]), h2⟩
set_option maxHeartbeats 1600000 in
theorem eq_ss {B B' : Nat} {va vb : Value} {rows : List (List Int)} {w : World} (ha : RdRows B w va rows) (hb : RdRows B' w vb rows) (hn : rows.length ≤ 281474976710656) (hlen : ∀ xs ∈ rows, xs.length ≤ 281474976710656) :
    Calls Try.prog 34 #[va, vb] w fun e w' => e = .returned (.bool true) ∧ Below w.heap.size w w' := by
  obtain ⟨a, ca, rfl, hca⟩ := rows_form0 ha
  obtain ⟨b, cb, rfl, hcb⟩ := rows_form0 hb
  obtain ⟨n, hnn⟩ : ∃ n, n = rows.length := ⟨_, rfl⟩
  rw [← hnn] at hn ⊢
  have HN := Lib.hid hnn
  have HA := Lib.hid hca
  have HBB := Lib.hid hcb
  have HLN := Lib.hid hlen
  clear ha hb hca hcb hlen hnn
  go_enter Try.func34, Try.ntmps34
  go_wp2
  go_loopw [5] (fun i wr => ∃ j : Nat, j ≤ n ∧ i = .int .i64 j ∧ ∃ q, wr = w.drewN q) (fun i _ => n - (intOf i).toNat)
  case atStart => exact ⟨0, by omega, rfl, 0, rfl⟩
  case round =>
    obtain ⟨j, hj, rfl, q, rfl⟩ := hrel
    by_cases hlt : j < n
    · obtain ⟨xs, ba, oa, ua, la, cua, hx, hla, rfl, -, c1, r1⟩ := row_take0 HN.out HA hlt
      obtain ⟨ys, bb, ob, ub, lb, cub, hy, hlb, rfl, -, c2, r2⟩ := row_take0 HN.out HBB hlt
      obtain rfl : xs = ys := Option.some.inj (hx.symm.trans hy)
      have hl := HLN.out xs (List.mem_of_getElem? hx)
      have R1 := Lib.hid r1
      have R2 := Lib.hid r2
      have HL := Lib.hid hl
      clear hx hy hla hlb r1 r2 hl
      go_wp2
      go_region_held3 (fun w' => w'.cell? ⟨ba, oa + j, none⟩ = some (.slice ua la cua) ∧ w'.cell? ⟨bb, ob + j, none⟩ = some (.slice ub lb cub)) (first | exact ⟨c1, c2⟩) (first | (go_at_call 19; refine (eq_ints_heap0 _ R1.out R2.out HL.out (by rfl)).mono ?_; rintro e w1 ⟨rfl, q1, rfl⟩))
      go_wp2
      go_roundw
      case rel => exact ⟨j + 1, by omega, by go_num, _, by first | rfl | (simp only [World.drewN_drewN]; rfl)⟩
      case measure => simp [intOf]; omega
    · obtain rfl : j = n := by omega
      go_wp2
      go_ret
      exact ⟨rfl, below_drewN (Below.refl _ _) q⟩
theorem OwnSS.rd {w : World} {lo hi : Nat} {v : Value} {us : List RowE} (h : OwnSS w lo hi v us) : RdRows w.heap.size w v (us.map (·.2)) := by
  obtain ⟨h1, h2, h3, h4⟩ := h
  refine ⟨us.map (·.1), Rd.of_own h1, by simp, fun i hi => ?_⟩
  rw [List.length_map] at hi
  refine ⟨us[i].1, by simp [hi], ?_⟩
  have := (h2.1 us[i] (List.getElem_mem _)).rd.mono h4
  simpa using this
theorem OwnSS.below {w w' : World} {lo hi : Nat} {v : Value} {us : List RowE} (h : OwnSS w lo hi v us) (hb : Below w.heap.size w w') : OwnSS w' lo hi v us := by
  obtain ⟨h1, h2, h3, h4⟩ := h
  refine ⟨h1.kept (row := none) ⟨hb.os, hb.tape, hb.output, hb.size, fun j hj _ => hb.block j hj⟩ ?_, h2.below hb (Nat.le_refl _), h3, Nat.le_trans h4 hb.size⟩
  cases v.ownBlock with
  | none => exact .inl rfl
  | some g => exact .inr (by simp)
theorem OwnSS.kept {w w' : World} {lo hi l h' : Nat} {v : Value} {us : List RowE} (h : OwnSS w lo hi v us) (hk : KeptOut w w' l h') (hd : hi ≤ l ∨ h' ≤ lo) : OwnSS w' lo hi v us := by
  obtain ⟨h1, h2, h3, h4⟩ := h
  refine ⟨⟨h1.1, ?_⟩, h2.kept hk hd, h3, Nat.le_trans h4 hk.2.2.2.1⟩
  rcases h1.2 with hn | ⟨g, cap, cur, e, k1, k2, k3⟩
  · exact .inl hn
  · refine .inr ⟨g, cap, cur, e, k1, ?_, k3⟩
    have hlt := (h1.lt g (by rw [e]; rfl))
    have h7 := (h3 g (by rw [e]; rfl)).1
    rw [hk.2.2.2.2 g (by omega) (by omega)]
    exact k2
theorem St.apart {w0 w : World} {S : List (Nat × Nat × Value)} {R : List (Value × List Int)} {O : List Grp} (h : St w0 w S R O) (i j : Nat) {l1 h1 l2 h2 : Nat} {r1 r2 : List (Value × List Int)} (hi : O[i]? = some (l1, h1, r1)) (hj : O[j]? = some (l2, h2, r2)) (ne : i ≠ j) : h1 ≤ l2 ∨ h2 ≤ l1 := by
  obtain ⟨hil, ei⟩ := List.getElem?_eq_some_iff.1 hi
  obtain ⟨hjl, ej⟩ := List.getElem?_eq_some_iff.1 hj
  have hp := List.pairwise_iff_getElem.1 h.dis
  rcases Nat.lt_or_ge i j with hlt | hge
  · have := hp i j hil hjl hlt
    rw [ei, ej] at this
    exact this.symm
  · have := hp j i hjl hil (by omega)
    rw [ei, ej] at this
    exact this
/-- The rows with their marks. -/
def markU : Nat → List RowE → List RowE
  | _, [] => []
  | s, r :: us => (r.1, marksI s r.2.length) :: markU (s + r.2.length) us
def totU (us : List RowE) : Nat := (us.map fun r => r.2.length).sum
theorem markU_app (us vs : List RowE) : ∀ s, markU s (us ++ vs) = markU s us ++ markU (s + totU us) vs := by
  induction us with
  | nil => intro s; simp [markU, totU]
  | cons r us ih =>
    intro s
    show (r.1, marksI s r.2.length) :: markU (s + r.2.length) (us ++ vs) = _
    rw [ih]
    simp [markU, totU, Nat.add_assoc]
theorem markU_fst (us : List RowE) : ∀ s, (markU s us).map (·.1) = us.map (·.1) := by
  induction us with
  | nil => intro s; rfl
  | cons r us ih => intro s; simp [markU, ih]
theorem totU_step {us : List RowE} {j : Nat} {r : RowE} (h : us[j]? = some r) : totU (us.take (j + 1)) = totU (us.take j) + r.2.length := by
  simp [totU, List.take_add_one, h, List.map_append, List.sum_append]
theorem totU_le (us : List RowE) (j : Nat) : totU (us.take j) ≤ totU us := by
  have e : totU us = totU (us.take j) + totU (us.drop j) := by
    unfold totU
    rw [← List.sum_append, ← List.map_append, List.take_append_drop]
  omega
theorem OwnG.put {w w' : World} {lo hi : Nat} {pre post : List RowE} {u : Value} {xs xs' : List Int} (h : OwnG w lo hi (pre ++ (u, xs) :: post)) (hg : w.grownBy w' u.ownBlock) (ho : Own w' lo hi u xs') : OwnG w' lo hi (pre ++ (u, xs') :: post) := by
  obtain ⟨h1, h2⟩ := h
  have hp := List.pairwise_append.1 h2
  have hq := List.pairwise_cons.1 hp.2.1
  refine ⟨fun r hr => ?_, ?_⟩
  · rcases List.mem_append.1 hr with hr | hr
    · exact (h1 r (List.mem_append.2 (.inl hr))).apart hg (fun g hg' e1 => hp.2.2 r hr (u, xs) List.mem_cons_self g e1 hg')
    · rcases List.mem_cons.1 hr with rfl | hr
      · exact ho
      · exact (h1 r (List.mem_append.2 (.inr (List.mem_cons_of_mem _ hr)))).apart hg (fun g hg' e1 => hq.1 r hr g hg' e1)
  · refine List.pairwise_append.2 ⟨hp.1, List.pairwise_cons.2 ⟨fun r hr => hq.1 r hr, hq.2⟩, fun a ha b hb => ?_⟩
    rcases List.mem_cons.1 hb with rfl | hb
    · exact hp.2.2 a ha (u, xs) List.mem_cons_self
    · exact hp.2.2 a ha b (List.mem_cons_of_mem _ hb)
theorem split_at {α : Type} {l : List α} {j : Nat} {x : α} (h : l[j]? = some x) : l = l.take j ++ x :: l.drop (j + 1) := by
  have h1 := (List.getElem?_eq_some_iff.1 h).1
  have h2 := (List.getElem?_eq_some_iff.1 h).2
  conv => lhs; rw [← List.take_append_drop j l, List.drop_eq_getElem_cons h1, h2]
set_option maxHeartbeats 1600000 in
theorem mark_ss {lo hi : Nat} {v : Value} {us : List RowE} {w : World} {z : Int} (s : Nat) (hz : z = (s : Int)) (h : OwnSS w lo hi v us) (hn : us.length ≤ 1048576) (ht : totU us ≤ 1048576) (hs : s ≤ 1073741824) :
    Calls Try.prog 35 #[v, .int .i64 z] w fun e w' => e = .returned (.int .i64 ((s + totU us : Nat) : Int)) ∧ OwnSS w' lo hi v (markU s us) ∧ KeptOut w w' lo hi := by
  subst hz
  obtain ⟨h1, h2, h3, h4⟩ := h
  obtain ⟨n, hnn⟩ : ∃ n, n = us.length := ⟨_, rfl⟩
  rw [← hnn] at h1 hn
  obtain ⟨a, cap, rfl⟩ := row_form0 h1
  have HN := Lib.hid hnn
  have H3 := Lib.hid h3
  have HT := Lib.hid ht
  have HLE := Lib.hid h4
  have M0 : Hid (w.ownsRow lo 25 1 (.slice a n cap) n (us.map (·.1)) ∧ OwnG w lo hi (markU s (us.take 0) ++ us.drop 0) ∧ KeptOut w w lo hi) := Lib.hid ⟨h1, by simpa [markU] using h2, KeptOut.refl _ _ _⟩
  clear h1 h2 h3 h4 hnn ht
  go_enter Try.func35, Try.ntmps35
  go_wp2
  go_loopw [1, 5] (fun q i wr => ∃ (j k : Nat), j ≤ n ∧ i = .int .i64 j ∧ q = .int .i64 (k : Int) ∧ Hid (k = s + totU (us.take j)) ∧ Hid (wr.ownsRow lo 25 1 (.slice a n cap) n (us.map (·.1)) ∧ OwnG wr lo hi (markU s (us.take j) ++ us.drop j) ∧ KeptOut w wr lo hi)) (fun _ i _ => n - (intOf i).toNat)
  case atStart => exact ⟨0, s, by omega, rfl, rfl, Lib.hid (by simp [totU]), M0⟩
  case round =>
    clear M0
    obtain ⟨j, k, hj, rfl, rfl, HS, HK⟩ := hrel
    by_cases hlt : j < n
    · obtain ⟨⟨u, xs⟩, T1⟩ : ∃ r, Hid (us[j]? = some r) := ⟨_, List.getElem?_eq_getElem (by rw [← HN.out]; exact hlt)⟩
      have hk : k ≤ 1074790400 := by have := HS.out; have := totU_le us j; have := HT.out; omega
      have hdrop : us.drop j = (u, xs) :: us.drop (j + 1) := by
        have h1 := (List.getElem?_eq_some_iff.1 T1.out).1
        rw [List.drop_eq_getElem_cons h1, (List.getElem?_eq_some_iff.1 T1.out).2]
      have HOG : Hid (OwnG wr lo hi (markU s (us.take j) ++ (u, xs) :: us.drop (j + 1))) := Lib.hid (by rw [← hdrop]; exact HK.out.2.1)
      have hown : Own wr lo hi u xs := HOG.out.1 (u, xs) (by simp)
      obtain ⟨g, rfl, hg⟩ : ∃ g, a = some ⟨g, 0, none⟩ ∧ lo ≤ g := by
        rcases HK.out.1.2 with ⟨-, h0⟩ | ⟨g, c', cur, e, hl, -⟩
        · omega
        · injection e with e; exact ⟨g, e, hl⟩
      have c1 : wr.cell? ⟨g, j, none⟩ = some u := by
        rw [HK.out.1.cellAt j (by omega)]
        rw [List.getElem?_map, T1.out]; rfl
      obtain ⟨au, cu, rfl, -⟩ := ints_form hown.rd
      obtain ⟨len, hlen⟩ : ∃ len, len = xs.length := ⟨_, rfl⟩
      have hx2 : len ≤ 1048576 := by
        have h1 := totU_step T1.out
        have h2 := totU_le us (j + 1)
        have h3 := HT.out
        dsimp only at h1
        omega
      have HXL := Lib.hid hlen
      rw [← hlen] at hown c1 HOG
      have OWN := Lib.hid hown
      have HTS := Lib.hid (totU_step T1.out)
      clear hdrop hown hlen
      go_wp2_with fail
      refine (marks_from k rfl OWN.out (by rw [← HXL.out]; omega) (by omega)).mono ?_
      rw [← HXL.out]
      rintro e w2 ⟨rfl, ho, hgb⟩
      have HK2 : Hid (w2.ownsRow lo 25 1 (.slice (some ⟨g, 0, none⟩) n cap) n (us.map (·.1)) ∧ OwnG w2 lo hi (markU s (us.take (j + 1)) ++ us.drop (j + 1)) ∧ KeptOut w w2 lo hi) := Lib.hid ⟨HK.out.1.kept hgb (.inr (fun e => (H3.out g rfl).2 (.slice au len cu, xs) (List.mem_of_getElem? (by rw [HXL.out]; exact T1.out)) e.symm)), by
          have h1 := HOG.out.put hgb ho
          rw [List.take_add_one, T1.out]
          show OwnG w2 lo hi (markU s (us.take j ++ [(_, xs)]) ++ us.drop (j + 1))
          rw [markU_app, List.append_assoc]
          show OwnG w2 lo hi (markU s (us.take j) ++ ((_, marksI (s + totU (us.take j)) xs.length) :: us.drop (j + 1)))
          rw [← HS.out, ← HXL.out]
          exact h1, HK.out.2.2.trans (KeptOut.of hgb (fun g hg => ⟨OWN.out.lo g hg, OWN.out.2.1 g hg⟩))⟩
      have HS2 : Hid (k + len = s + totU (us.take (j + 1))) := Lib.hid (by
        have h1 := HTS.out
        rw [h1, HS.out, HXL.out]; omega)
      clear ho hgb HOG OWN
      go_wp2
      go_roundw
      case rel => exact ⟨j + 1, k + len, by omega, by go_num, rfl, HS2, HK2⟩
      case measure => simp [intOf]; omega
    · obtain rfl : j = n := by omega
      have e1 : us.take j = us := List.take_of_length_le (by rw [← HN.out]; exact Nat.le_refl _)
      have e2 : us.drop j = [] := List.drop_of_length_le (by rw [← HN.out]; exact Nat.le_refl _)
      rw [e1, e2, List.append_nil] at HK
      rw [e1] at HS
      have hml : (markU s us).length = j := by rw [HN.out]; have := congrArg List.length (markU_fst us s); simpa using this
      have HML := Lib.hid hml
      clear e1 e2 hml
      go_wp2
      go_ret
      refine ⟨by rw [HS.out]; rfl, ⟨by rw [HML.out, markU_fst]; exact HK.out.1, HK.out.2.1, fun g hg => ⟨(H3.out g hg).1, fun r hr => ?_⟩, Nat.le_trans HLE.out HK.out.2.2.2.2.2.1⟩, HK.out.2.2⟩
      have hm : r.1 ∈ (markU s us).map (·.1) := List.mem_map.2 ⟨r, hr, rfl⟩
      rw [markU_fst] at hm
      obtain ⟨q, hq, e⟩ := List.mem_map.1 hm
      rw [← e]
      exact (H3.out g hg).2 q hq
theorem markU_rd (us : List RowE) (s j : Nat) (r : RowE) (h : us[j]? = some r) : (markU s us)[j]? = some (r.1, marksI (s + totU (us.take j)) r.2.length) := by
  have e := split_at h
  have hlen : (markU s (us.take j)).length = j := by
    have h1 := congrArg List.length (markU_fst (us.take j) s)
    have h2 := (List.getElem?_eq_some_iff.1 h).1
    rw [List.length_map, List.length_map, List.length_take] at h1
    omega
  conv => lhs; rw [e, markU_app]
  rw [List.getElem?_append_right (by omega), hlen, Nat.sub_self]
  rfl
set_option maxHeartbeats 1600000 in
theorem held_ss {lo hi : Nat} {v : Value} {us : List RowE} {w : World} {z : Int} (s : Nat) (hz : z = (s : Int)) (h : OwnSS w lo hi v (markU s us)) (hn : us.length ≤ 1048576) (ht : totU us ≤ 1048576) (hs : s ≤ 1073741824) :
    Calls Try.prog 36 #[v, .int .i64 z] w fun e w' => e = .returned (.int .i64 ((s + totU us : Nat) : Int)) ∧ Below w.heap.size w w' := by
  subst hz
  obtain ⟨n, hnn⟩ : ∃ n, n = us.length := ⟨_, rfl⟩
  have hml : (markU s us).length = n := by rw [hnn]; have := congrArg List.length (markU_fst us s); simpa using this
  have h0 := h
  obtain ⟨h1, h2, h3, h4⟩ := h
  rw [hml] at h1
  rw [← hnn] at hn
  obtain ⟨a, cap, rfl⟩ := row_form0 h1
  have HN := Lib.hid hnn
  have HO := Lib.hid h0
  have H1 := Lib.hid h1
  have HT := Lib.hid ht
  have B0 := Lib.hid (Below.refl w.heap.size w)
  clear h0 h1 h2 h3 h4 hnn ht hml
  go_enter Try.func36, Try.ntmps36
  go_wp2
  go_loopw [1, 5] (fun q i wr => ∃ (j k : Nat), j ≤ n ∧ i = .int .i64 j ∧ q = .int .i64 (k : Int) ∧ Hid (k = s + totU (us.take j)) ∧ Hid (Below w.heap.size w wr)) (fun _ i _ => n - (intOf i).toNat)
  case atStart => exact ⟨0, s, by omega, rfl, rfl, Lib.hid (by simp [totU]), B0⟩
  case round =>
    clear B0
    obtain ⟨j, k, hj, rfl, rfl, HS, HW⟩ := hrel
    by_cases hlt : j < n
    · obtain ⟨⟨u, xs⟩, T1⟩ : ∃ r, Hid (us[j]? = some r) := ⟨_, List.getElem?_eq_getElem (by rw [← HN.out]; exact hlt)⟩
      have hk : k ≤ 1074790400 := by have := HS.out; have := totU_le us j; have := HT.out; omega
      have hmr := markU_rd us s j _ T1.out
      dsimp only at hmr
      have hrow := HO.out.2.1.1 _ (List.mem_of_getElem? hmr)
      obtain ⟨g, rfl, hg⟩ : ∃ g, a = some ⟨g, 0, none⟩ ∧ g < w.heap.size := by
        rcases H1.out.2 with ⟨-, h0⟩ | ⟨g, c', cur, e, hl, -⟩
        · omega
        · injection e with e
          subst e
          exact ⟨g, rfl, (H1.out.lt g rfl).2⟩
      have c1 : wr.cell? ⟨g, j, none⟩ = some u := by
        rw [HW.out.cell (p := ⟨g, j, none⟩) hg, H1.out.cellAt j (by omega), List.getElem?_map, hmr]; rfl
      have hx2 : xs.length ≤ 1048576 := by
        have h1 := totU_step T1.out
        have h2 := totU_le us (j + 1)
        have h3 := HT.out
        dsimp only at h1
        omega
      have HRD : Hid (Rd w.heap.size wr u (ints (marksI (s + totU (us.take j)) xs.length))) := Lib.hid ((hrow.rd.mono hrow.2.2).below HW.out (Nat.le_refl _))
      rw [← HS.out] at HRD
      obtain ⟨len, hlen⟩ : ∃ len, len = xs.length := ⟨_, rfl⟩
      have HXL := Lib.hid hlen
      rw [← hlen] at HRD hx2
      have HTS := Lib.hid (totU_step T1.out)
      have HHR := Lib.hid (helds_row (w := wr) k rfl HRD.out (by omega) (by omega))
      obtain ⟨au, cu, hfe, -⟩ := ints_form HRD.out
      rw [marksI_len] at hfe
      subst hfe
      clear hmr hrow hlen
      go_wp2_with fail
      refine HHR.out.mono ?_
      rintro e w2 ⟨rfl, hb⟩
      have HW2 := Lib.hid (HW.out.trans (hb.mono HW.out.size))
      have HS2 : Hid (k + len = s + totU (us.take (j + 1))) := Lib.hid (by
        have h1 := HTS.out
        rw [h1, HS.out, HXL.out]; omega)
      have hnl : ¬ ((k + len : Nat) : Int) < 0 := by omega
      clear hb HRD HHR c1
      go_wp2
      go_roundw
      case rel => exact ⟨j + 1, k + len, by omega, by go_num, rfl, HS2, HW2⟩
      case measure => simp [intOf]; omega
    · obtain rfl : j = n := by omega
      have e1 : us.take j = us := List.take_of_length_le (by rw [← HN.out]; exact Nat.le_refl _)
      rw [e1] at HS
      clear e1
      go_wp2
      go_ret
      exact ⟨by rw [HS.out]; rfl, HW.out⟩
end Go.Proofs.Ytdheakjjnaifkaa
