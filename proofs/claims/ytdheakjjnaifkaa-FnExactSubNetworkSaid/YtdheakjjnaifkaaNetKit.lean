
/- Networks in the laws' walks: sized, copied, compared, written. -/
import Derived.Test.YtdheakjjnaifkaaTensMark
import Derived.Test.YtdheakjjnaifkaaTensEq
import Derived.Test.YtdheakjjnaifkaaNetOkSpec
namespace Go.Proofs.Ytdheakjjnaifkaa
set_option maxRecDepth 20000
open Go.RowKit

theorem St.box5 {w0 w : World} {S : List (Nat × Nat × Value)} {R : List (Value × List Int)} {O : List Grp} (h : St w0 w S R O) (a b c d e : Value) (T : TypeId) : St w0 (w.alloc (.cells #[a, b, c, d, e] T)) ((w.heap.size, 0, a) :: (w.heap.size, 1, b) :: (w.heap.size, 2, c) :: (w.heap.size, 3, d) :: (w.heap.size, 4, e) :: S) R O := by
  have hs := h.step ((Below.refl _ _).alloc (Nat.le_refl _) (.cells #[a, b, c, d, e] T))
  refine ⟨hs.bel, ⟨by simp [World.cell?_alloc_at], by simp [World.cell?_alloc_at], by simp [World.cell?_alloc_at], by simp [World.cell?_alloc_at], by simp [World.cell?_alloc_at], hs.cells⟩, fun q hq => ?_, hs.rd, hs.own, hs.dis, fun g hg q hq => ?_⟩
  · simp only [List.mem_cons] at hq
    rcases hq with rfl | rfl | rfl | rfl | rfl | hq
    · simp
    · simp
    · simp
    · simp
    · simp
    · exact hs.lt q hq
  · have := (h.own g hg).2.1
    simp only [List.mem_cons] at hq
    rcases hq with rfl | rfl | rfl | rfl | rfl | hq
    · exact .inr this
    · exact .inr this
    · exact .inr this
    · exact .inr this
    · exact .inr this
    · exact hs.box g hg q hq
theorem OwnTs.put {w : World} {lo hi b i : Nat} {v : Value} {ts : List TenE} (h : OwnTs w lo hi v ts) (hb : b < lo) (u : Value) : OwnTs (w.setCell ⟨b, i, none⟩ u) lo hi v ts := by
  obtain ⟨zs, cs, h1, h2, h3, h4, h5, h6⟩ := h
  refine ⟨zs, cs, h1, h2.kept (grownBy_set w b i u) ?_, h3, ⟨fun r hr => Own.set (h4.1 r hr) hb u, h4.2⟩, h5, by simpa using h6⟩
  cases hv : v.ownBlock with
  | none => exact .inl rfl
  | some g =>
    refine .inr fun e => ?_
    have h7 := (h2.lt g hv).1
    injection e with e
    omega
theorem OwnTs.wide {w : World} {lo hi lo' hi' : Nat} {v : Value} {ts : List TenE} (h : OwnTs w lo hi v ts) (h1 : lo' ≤ lo) (h2 : hi ≤ hi') (h3 : hi' ≤ w.heap.size) : OwnTs w lo' hi' v ts := by
  obtain ⟨zs, cs, k1, k2, k3, k4, k5, k6⟩ := h
  exact ⟨zs, cs, k1, ⟨k2.1, k2.2.imp id (fun ⟨g, cap, cur, e, hb, q⟩ => ⟨g, cap, cur, e, Nat.le_trans h1 hb, q⟩)⟩, k3, k4.wide h1 h2 h3, fun g hg => ⟨Nat.lt_of_lt_of_le (k5 g hg).1 h2, (k5 g hg).2⟩, h3⟩
theorem OwnTs.kept {w w' : World} {lo hi l h' : Nat} {v : Value} {ts : List TenE} (h : OwnTs w lo hi v ts) (hk : KeptOut w w' l h') (hd : hi ≤ l ∨ h' ≤ lo) : OwnTs w' lo hi v ts := by
  obtain ⟨zs, cs, h1, h2, h3, h4, h5, h6⟩ := h
  refine ⟨zs, cs, h1, ⟨h2.1, ?_⟩, h3, h4.kept hk hd, h5, Nat.le_trans h6 hk.2.2.2.1⟩
  rcases h2.2 with hn | ⟨g, cap, cur, e, k1, k2, k3⟩
  · exact .inl hn
  · refine .inr ⟨g, cap, cur, e, k1, ?_, k3⟩
    have hlt := (h2.lt g (by rw [e]; rfl))
    have h7 := (h5 g (by rw [e]; rfl)).1
    rw [hk.2.2.2.2 g (by omega) (by omega)]
    exact k2
/-- A network of the call's own. -/
def OwnNet (w : World) (lo hi : Nat) (tv ov : Value) (ts : List TenE) (O : List Int) : Prop := ∃ m, lo ≤ m ∧ m ≤ hi ∧ OwnTs w lo m tv ts ∧ Own w m hi ov O
theorem OwnNet.below {w w' : World} {lo hi : Nat} {tv ov : Value} {ts : List TenE} {O : List Int} (h : OwnNet w lo hi tv ov ts O) (hb : Below w.heap.size w w') : OwnNet w' lo hi tv ov ts O := by
  obtain ⟨m, h1, h2, h3, h4⟩ := h
  exact ⟨m, h1, h2, h3.below hb, h4.below hb (Nat.le_refl _)⟩
theorem OwnNet.le {w : World} {lo hi : Nat} {tv ov : Value} {ts : List TenE} {O : List Int} (h : OwnNet w lo hi tv ov ts O) : hi ≤ w.heap.size := by
  obtain ⟨m, h1, h2, h3, h4⟩ := h
  exact h4.2.2
theorem OwnNet.tens {w : World} {lo hi : Nat} {tv ov : Value} {ts : List TenE} {O : List Int} (h : OwnNet w lo hi tv ov ts O) : RdTs w.heap.size w tv ts := by
  obtain ⟨m, h1, h2, h3, h4⟩ := h
  exact h3.rd.mono (Nat.le_trans h2 h4.2.2)
theorem OwnNet.opens {w : World} {lo hi : Nat} {tv ov : Value} {ts : List TenE} {O : List Int} (h : OwnNet w lo hi tv ov ts O) : Rd w.heap.size w ov (ints O) := by
  obtain ⟨m, h1, h2, h3, h4⟩ := h
  exact h4.rd.mono h4.2.2
theorem OwnNet.cap {w : World} {lo hi : Nat} {tv ov : Value} {ts : List TenE} {O : List Int} (h : OwnNet w lo hi tv ov ts O) : ∀ a n c, tv = .slice a n c → n ≤ c := by
  obtain ⟨m, h1, h2, ⟨zs, cs, -, k2, -⟩, h4⟩ := h
  intro a n c e
  subst e
  rcases k2.2 with ⟨e, h0⟩ | ⟨g, cap, cur, e, -, -, hnc, -⟩
  · cases e; omega
  · cases e; exact hnc
/-- What a function that makes a network answers. -/
def NewNet (w : World) (k p q : Int) (ts : List TenE) (O : List Int) (e : Ending) (w' : World) : Prop := ∃ tv ov, e = .returned (netV k p q tv ov) ∧ OwnNet w' w.heap.size w'.heap.size tv ov ts O ∧ Below w.heap.size w w'
def SzNet (left : Int) (ts : List TenE) (O : List Int) (w : World) (e : Ending) (w' : World) : Prop := ∃ r : Int, e = .returned (.int .i64 r) ∧ Below w.heap.size w w' ∧ -1 ≤ r ∧ r ≤ left ∧ (0 ≤ r → (ts.length : Int) + totT ts + O.length + r = left)
/-- The lengths that the laws may meet. -/
def LenN (ts : List TenE) (O : List Int) : Prop := ts.length ≤ 281474976710656 ∧ (∀ t ∈ ts, t.1.length ≤ 17592186044416 ∧ t.2.1.length ≤ 17592186044416 ∧ t.2.2.length ≤ 17592186044416) ∧ O.length ≤ 17592186044416
set_option maxHeartbeats 1600000 in
theorem sz_network {B B' : Nat} {k p q : Int} {tv ov : Value} {ts : List TenE} {O : List Int} {w : World} (left : Int) (h : RdTs B w tv ts) (ho : Rd B' w ov (ints O)) (hB : B ≤ w.heap.size) (hl : 0 ≤ left) (hl2 : left ≤ 1048576) (hn : LenN ts O) :
    Calls Try.prog 12 #[netV k p q tv ov, .int .i64 left] w (SzNet left ts O w) := by
  obtain ⟨a, cap, rfl⟩ := h.form
  obtain ⟨ao, co, rfl, -⟩ := ints_form ho
  obtain ⟨W0, hW0⟩ : ∃ V, V = w.alloc (.cells #[.int .i64 k, .int .i64 p, .int .i64 q, .slice a ts.length cap, .slice ao O.length co] 27) := ⟨_, rfl⟩
  have hb0 : Below w.heap.size w W0 := by rw [hW0]; exact (Below.refl _ _).alloc (Nat.le_refl _) _
  have N0 : Hid (B5 W0 w.heap.size (.int .i64 k) (.int .i64 p) (.int .i64 q) (.slice a ts.length cap) (.slice ao O.length co)) := Lib.hid (by rw [hW0]; exact B5.new _ _ _ _ _ _ _)
  have HW0 := Lib.hid hW0
  have B0 := Lib.hid hb0
  have HS := Lib.hid (sz_tens left ((h.mono hB).below hb0 (Nat.le_refl _)) hb0.size hl hl2 hn.1 (fun t ht => ⟨by have := hn.2.1 t ht; omega, by have := hn.2.1 t ht; omega, by have := hn.2.1 t ht; omega⟩))
  obtain ⟨c0, c1, c2, c3, c4, -⟩ := N0.out
  obtain ⟨m, hm⟩ : ∃ m, m = O.length := ⟨_, rfl⟩
  have HM := Lib.hid hm
  have hmm : m ≤ 17592186044416 := by rw [hm]; exact hn.2.2
  rw [← hm] at c4 N0 hW0 HW0 ⊢
  obtain ⟨n, hnn⟩ : ∃ n, n = ts.length := ⟨_, rfl⟩
  have HN := Lib.hid hnn
  rw [← hnn] at c3 N0 hW0 HW0 HS ⊢
  clear h ho hB hn hb0 hm hnn hW0
  go_enter Try.func12, Try.ntmps12
  go_upto_region 1 with fail
  rw [← HW0.out]
  clear HW0
  go_wp2_with fail
  refine HS.out.mono ?_
  rintro e w1 ⟨z, rfl, hb, hz1, hz2, hz3⟩
  have HZ := Lib.hid hz3
  have N1 := Lib.hid (N0.out.step hb)
  have B1 := Lib.hid (B0.out.trans (hb.mono B0.out.size))
  clear HS c0 c1 c2 c3 c4 hb hz3
  obtain ⟨c0, c1, c2, c3, c4, -⟩ := N1.out
  by_cases h0 : z < 0
  · go_wp2
    go_ret
    exact ⟨-1, rfl, B1.out, by omega, by omega, fun h => by omega⟩
  · have HS2 := Lib.hid (sz_ints ao co m z w1 (by omega) (by omega) (by omega))
    by_cases h2 : z < (m : Int)
    · rw [if_pos h2] at HS2
      clear h2
      go_wp2_with fail
      refine HS2.out.mono ?_
      rintro e w2 ⟨rfl, rfl⟩
      clear HS2
      go_wp2
      go_ret
      exact ⟨-1, rfl, B1.out, by omega, by omega, fun h => by omega⟩
    · rw [if_neg h2] at HS2
      obtain ⟨y, hy⟩ : ∃ y, y = z - (m : Int) := ⟨_, rfl⟩
      rw [← hy] at HS2
      have HY := Lib.hid hy
      have y0 : ¬ y < 0 := by omega
      clear h2 hy
      go_wp2_with fail
      refine HS2.out.mono ?_
      rintro e w2 ⟨rfl, rfl⟩
      clear HS2
      go_wp2
      go_ret
      have h3 := HZ.out (by omega)
      have h4 := HY.out
      have h5 := HM.out
      exact ⟨y, rfl, B1.out, by omega, by omega, fun h => by omega⟩
theorem B5.set {W : World} {r : Nat} {a b c d e : Value} (h : B5 W r a b c d e) (u : Value) (i : Nat) : B5 (W.setCell ⟨r, i, none⟩ u) r (if i = 0 then u else a) (if i = 1 then u else b) (if i = 2 then u else c) (if i = 3 then u else d) (if i = 4 then u else e) := by
  have near : ∀ (o : Nat) (v : Value), W.cell? ⟨r, o, none⟩ = some v → (W.setCell ⟨r, i, none⟩ u).cell? ⟨r, o, none⟩ = some (if i = o then u else v) := fun o v hc => by
    by_cases e : i = o
    · subst e; rw [if_pos rfl]; exact World.cell?_setCell_same W _ _ hc
    · rw [if_neg e, World.cell?_setCell_other W _ _ _ (by intro q; injection q with q1 q2; exact e q2)]; exact hc
  exact ⟨near 0 _ h.c0, near 1 _ h.c1, near 2 _ h.c2, near 3 _ h.c3, near 4 _ h.c4, fun j => by rw [World.frozen?_setCell]; exact h.fr j, by simpa using h.lt⟩
theorem B5.far {W : World} {r : Nat} {a b c d e : Value} (h : B5 W r a b c d e) {g : Nat} (hg : r ≠ g) (u : Value) (i : Nat) : B5 (W.setCell ⟨g, i, none⟩ u) r a b c d e :=
  h.kept (gb_cell W ⟨g, i, none⟩ u) (fun e => hg (by injection e with e; exact e.symm))
/-- laws.toNetwork under way: the argument's box, the answer's, and the copy's. -/
structure N3 (w wi : World) (a b c d e x0 x1 x2 x3 x4 : Value) : Prop where
  bel : Below w.heap.size w wi
  s : B5 wi w.heap.size a b c d e
  r : B5 wi (w.heap.size + 1) (.int .i64 0) (.int .i64 0) (.int .i64 0) nilV nilV
  o : B5 wi (w.heap.size + 1 + 1) x0 x1 x2 x3 x4
theorem N3.start (w : World) (a b c d e : Value) (T1 T2 : TypeId) : N3 w (((w.alloc (.cells #[a, b, c, d, e] T1)).alloc (.cells #[.int .i64 0, .int .i64 0, .int .i64 0, .slice none 0 0, .slice none 0 0] T2)).alloc (.cells #[.int .i64 0, .int .i64 0, .int .i64 0, .slice none 0 0, .slice none 0 0] T2)) a b c d e (.int .i64 0) (.int .i64 0) (.int .i64 0) nilV nilV := by
  have h1 := B5.new w a b c d e T1
  have h2 := B5.new (w.alloc (.cells #[a, b, c, d, e] T1)) (.int .i64 0) (.int .i64 0) (.int .i64 0) (.slice none 0 0) (.slice none 0 0) T2
  have h3 := B5.new ((w.alloc (.cells #[a, b, c, d, e] T1)).alloc (.cells #[.int .i64 0, .int .i64 0, .int .i64 0, .slice none 0 0, .slice none 0 0] T2)) (.int .i64 0) (.int .i64 0) (.int .i64 0) (.slice none 0 0) (.slice none 0 0) T2
  have st : ∀ (V : World) (bl : Obj), Below V.heap.size V (V.alloc bl) := fun V bl => (Below.refl _ _).alloc (Nat.le_refl _) bl
  have g1 := (h1.step (st _ (.cells #[.int .i64 0, .int .i64 0, .int .i64 0, .slice none 0 0, .slice none 0 0] T2))).step (st _ (.cells #[.int .i64 0, .int .i64 0, .int .i64 0, .slice none 0 0, .slice none 0 0] T2))
  have g2 := h2.step (st _ (.cells #[.int .i64 0, .int .i64 0, .int .i64 0, .slice none 0 0, .slice none 0 0] T2))
  simp only [World.size_alloc] at g2 h3
  exact ⟨(((Below.refl _ _).alloc (Nat.le_refl _) _).alloc (by simp) _).alloc (by simp; omega) _, g1, g2, h3⟩
theorem N3.step {w wi wj : World} {a b c d e x0 x1 x2 x3 x4 : Value} (h : N3 w wi a b c d e x0 x1 x2 x3 x4) (hb : Below wi.heap.size wi wj) : N3 w wj a b c d e x0 x1 x2 x3 x4 :=
  ⟨h.bel.trans (hb.mono h.bel.size), h.s.step hb, h.r.step hb, h.o.step hb⟩
theorem N3.set {w wi : World} {a b c d e x0 x1 x2 x3 x4 : Value} (h : N3 w wi a b c d e x0 x1 x2 x3 x4) (u : Value) (i : Nat) : N3 w (wi.setCell ⟨w.heap.size + 1 + 1, i, none⟩ u) a b c d e (if i = 0 then u else x0) (if i = 1 then u else x1) (if i = 2 then u else x2) (if i = 3 then u else x3) (if i = 4 then u else x4) :=
  ⟨h.bel.setCell (by simp; omega) _, h.s.far (by omega) _ _, h.r.far (by omega) _ _, h.o.set u i⟩
theorem N3.ring {w wi : World} {a b c d e x0 x1 x2 x3 x4 : Value} (h : N3 w wi a b c d e x0 x1 x2 x3 x4) (u0 u1 u2 : Value) : N3 w (((wi.setCell ⟨w.heap.size + 1 + 1, 0, none⟩ u0).setCell ⟨w.heap.size + 1 + 1, 1, none⟩ u1).setCell ⟨w.heap.size + 1 + 1, 2, none⟩ u2) a b c d e u0 u1 u2 x3 x4 := by
  simpa using ((h.set u0 0).set u1 1).set u2 2
theorem N3.tens {w wi : World} {a b c d e x0 x1 x2 x3 x4 : Value} (h : N3 w wi a b c d e x0 x1 x2 x3 x4) (u : Value) : N3 w (wi.setCell ⟨w.heap.size + 1 + 1, 3, none⟩ u) a b c d e x0 x1 x2 u x4 := by simpa using h.set u 3
theorem N3.opens {w wi : World} {a b c d e x0 x1 x2 x3 x4 : Value} (h : N3 w wi a b c d e x0 x1 x2 x3 x4) (u : Value) : N3 w (wi.setCell ⟨w.heap.size + 1 + 1, 4, none⟩ u) a b c d e x0 x1 x2 x3 u := by simpa using h.set u 4
theorem OwnTs.put5 {w : World} {lo hi b : Nat} {v : Value} {ts : List TenE} (h : OwnTs w lo hi v ts) (hb : b < lo) (u0 u1 u2 u3 u4 : Value) : OwnTs (put5 w b u0 u1 u2 u3 u4) lo hi v ts := ((((h.put hb u0).put hb u1).put hb u2).put hb u3).put hb u4
theorem Own.put5 {w : World} {lo hi b : Nat} {v : Value} {xs : List Int} (h : Own w lo hi v xs) (hb : b < lo) (u0 u1 u2 u3 u4 : Value) : Own (put5 w b u0 u1 u2 u3 u4) lo hi v xs := Own.set (Own.set (Own.set (Own.set (Own.set h hb u0) hb u1) hb u2) hb u3) hb u4
theorem size_put5 (w : World) (b : Nat) (u0 u1 u2 u3 u4 : Value) : (put5 w b u0 u1 u2 u3 u4).heap.size = w.heap.size := by simp [put5]
set_option maxHeartbeats 1600000 in
theorem to_network {B B' : Nat} {k p q : Int} {tv ov : Value} {ts : List TenE} {O : List Int} {w : World} (h : RdTs B w tv ts) (ho : Rd B' w ov (ints O)) (hB : B ≤ w.heap.size) (hB' : B' ≤ w.heap.size) (hn : LenN ts O) (hm : ts.length ≤ 1048576) :
    Calls Try.prog 14 #[netV k p q tv ov] w (NewNet w k p q ts O) := by
  obtain ⟨a, cap, rfl⟩ := h.form
  obtain ⟨ao, co, rfl, -⟩ := ints_form ho
  have HT := Lib.hid (h.mono hB)
  have HO := Lib.hid (ho.mono hB')
  have HLN := Lib.hid hn
  obtain ⟨m, hmm⟩ : ∃ m, m = O.length := ⟨_, rfl⟩
  obtain ⟨n, hnn⟩ : ∃ n, n = ts.length := ⟨_, rfl⟩
  rw [← hnn] at hm
  rw [← hmm] at HO
  rw [← hnn] at HT
  rw [← hmm, ← hnn]
  have HM := Lib.hid hmm
  have HN := Lib.hid hnn
  clear h ho hB hB' hn hmm hnn
  go_enter Try.func14, Try.ntmps14
  have T0 := Lib.hid (N3.start w (.int .i64 k) (.int .i64 p) (.int .i64 q) (.slice a n cap) (.slice ao m co) 27 33)
  go_wp2_with fail
  refine (to_ring k p q _).mono ?_
  rintro e w1 ⟨rfl, hb1⟩
  have T1 := Lib.hid (T0.out.step hb1)
  have S1 := Lib.hid (T1.out.ring (.int .i64 k) (.int .i64 p) (.int .i64 q))
  obtain ⟨s0, s1, s2, s3, s4, -⟩ := T1.out.s
  obtain ⟨o0, o1, o2, o3, o4, fo, -⟩ := T1.out.o
  have fo0 := fo 0
  have fo1 := fo 1
  have fo2 := fo 2
  clear fo hb1 T0
  go_wp2_with fail
  clear s0 s1 s2 s3 s4 o0 o1 o2 o3 o4 fo0 fo1 fo2
  refine (to_tens (HT.out.below S1.out.bel (Nat.le_refl _)) S1.out.bel.size (by rw [← HN.out]; exact hm) HLN.out.2.1).mono ?_
  rintro e w2 ⟨tv, rfl, o2, hb2⟩
  have T2 := Lib.hid (S1.out.step hb2)
  obtain ⟨a1, c1, rfl⟩ := o2.rd.form
  have OT := Lib.hid o2
  rw [← HN.out] at OT ⊢
  have Z2 := Lib.hid hb2.size
  have S2 := Lib.hid (T2.out.tens (.slice a1 n c1))
  obtain ⟨s0, s1, s2, s3, s4, -⟩ := T2.out.s
  obtain ⟨q0, q1, q2, q3, q4, fo, -⟩ := T2.out.o
  have fo3 := fo 3
  clear fo hb2 o2
  go_wp2_with fail
  clear s0 s1 s2 s3 s4 q0 q1 q2 q3 q4 fo3
  refine (to_row (HO.out.below S2.out.bel (Nat.le_refl _)) S2.out.bel.size (by rw [← HM.out]; have := HLN.out.2.2; have := HM.out; omega)).mono ?_
  rintro e w3 ⟨ov, rfl, o3, hb3⟩
  have T3 := Lib.hid (S2.out.step hb3)
  obtain ⟨a2, c2, rfl, -⟩ := ints_form o3.rd
  have OO := Lib.hid o3
  have OT3 := Lib.hid ((OT.out.put (b := w.heap.size + 1 + 1) (i := 3) (by simpa using T1.out.o.lt) (.slice a1 n c1)).below hb3)
  rw [← HM.out] at OO ⊢
  have Z3 := Lib.hid hb3.size
  have S3 := Lib.hid (T3.out.opens (.slice a2 m c2))
  obtain ⟨q0, q1, q2, q3, q4, fo, -⟩ := T3.out.o
  have fo4 := fo 4
  obtain ⟨t0, t1, t2, t3, t4, fr, -⟩ := T3.out.r
  have fr0 := fr 0
  have fr1 := fr 1
  have fr2 := fr 2
  have fr3 := fr 3
  have fr4 := fr 4
  clear fo fr hb3 o3 OT
  go_wp2
  refine bodyPost_ret (v := netV k p q (.slice a1 n c1) (.slice a2 m c2)) (by simp [results, Try.results14, go_sem, t0, t1, t2, t3, t4]) rfl ?_
  have z1 := T1.out.o.lt
  have z2 := Z2.out
  have z3 := Z3.out
  simp only [World.size_setCell] at z2 z3
  refine ⟨_, _, rfl, ⟨w2.heap.size, ?_, ?_, ?_, ?_⟩, ?_⟩
  · have := S2.out.bel.size
    simpa using this
  · simpa using z3
  · exact ((OT3.out.put (b := w.heap.size + 1 + 1) (i := 4) (by simpa using z1) _).put5 (b := w.heap.size + 1) (by simp; omega) _ _ _ _ _).wide S1.out.bel.size (Nat.le_refl _) (by simpa [put5] using z3)
  · have hs : Own (w3.setCell ⟨w.heap.size + 1 + 1, 4, none⟩ (.slice a2 m c2)) w2.heap.size w3.heap.size (.slice a2 m c2) O := Own.set (by simpa using OO.out) (by have := T2.out.o.lt; omega) _
    have := hs.put5 (b := w.heap.size + 1) (by have := T2.out.o.lt; omega) (.int .i64 k) (.int .i64 p) (.int .i64 q) (.slice a1 n c1) (.slice a2 m c2)
    simpa [put5] using this
  · have hb := S3.out.bel
    exact ((((hb.setCell (by simp) _).setCell (by simp) _).setCell (by simp) _).setCell (by simp) _).setCell (by simp) _
theorem eq_ringN (k p n : Int) (w : World) : Calls Try.prog 52 #[ringV k p n, ringV k p n] w fun e w' => e = .returned (.bool true) ∧ Below w.heap.size w w' := by
  go_enter Try.func52, Try.ntmps52
  go_wp2
  go_ret
  exact ⟨rfl, ((Below.refl _ _).alloc (Nat.le_refl _) _).alloc (by simp) _⟩
/-- The boxes of two networks. -/
structure N2 (w wi : World) (a b c d e x0 x1 x2 x3 x4 : Value) : Prop where
  bel : Below w.heap.size w wi
  s : B5 wi w.heap.size a b c d e
  r : B5 wi (w.heap.size + 1) x0 x1 x2 x3 x4
theorem N2.start (w : World) (a b c d e x0 x1 x2 x3 x4 : Value) (T1 T2 : TypeId) : N2 w ((w.alloc (.cells #[a, b, c, d, e] T1)).alloc (.cells #[x0, x1, x2, x3, x4] T2)) a b c d e x0 x1 x2 x3 x4 := by
  have h1 := B5.new w a b c d e T1
  have h2 := B5.new (w.alloc (.cells #[a, b, c, d, e] T1)) x0 x1 x2 x3 x4 T2
  have st : ∀ (V : World) (bl : Obj), Below V.heap.size V (V.alloc bl) := fun V bl => (Below.refl _ _).alloc (Nat.le_refl _) bl
  have g1 := h1.step (st _ (.cells #[x0, x1, x2, x3, x4] T2))
  simp only [World.size_alloc] at h2
  exact ⟨((Below.refl _ _).alloc (Nat.le_refl _) _).alloc (by simp) _, g1, h2⟩
theorem N2.step {w wi wj : World} {a b c d e x0 x1 x2 x3 x4 : Value} (h : N2 w wi a b c d e x0 x1 x2 x3 x4) (hb : Below wi.heap.size wi wj) : N2 w wj a b c d e x0 x1 x2 x3 x4 :=
  ⟨h.bel.trans (hb.mono h.bel.size), h.s.step hb, h.r.step hb⟩
set_option maxHeartbeats 1600000 in
theorem eq_network {B B' : Nat} {k p q : Int} {tv ov tu ou : Value} {ts : List TenE} {O : List Int} {w : World} (h : RdTs B w tv ts) (ho : Rd B w ov (ints O)) (h' : RdTs B' w tu ts) (ho' : Rd B' w ou (ints O)) (hB : B ≤ w.heap.size) (hB' : B' ≤ w.heap.size) (hn : LenN ts O) :
    Calls Try.prog 16 #[netV k p q tv ov, netV k p q tu ou] w fun e w' => e = .returned (.bool true) ∧ Below w.heap.size w w' := by
  obtain ⟨a, ca, rfl⟩ := h.form
  obtain ⟨ao, co, rfl, -⟩ := ints_form ho
  obtain ⟨b, cb, rfl⟩ := h'.form
  obtain ⟨bo, do', rfl, -⟩ := ints_form ho'
  have HT := Lib.hid (h.mono hB)
  have HO := Lib.hid (ho.mono hB)
  have HU := Lib.hid (h'.mono hB')
  have HP := Lib.hid (ho'.mono hB')
  have HLN := Lib.hid hn
  obtain ⟨m, hmm⟩ : ∃ m, m = O.length := ⟨_, rfl⟩
  obtain ⟨n, hnn⟩ : ∃ n, n = ts.length := ⟨_, rfl⟩
  rw [← hmm] at HO HP
  rw [← hnn] at HT HU
  rw [← hmm, ← hnn]
  have T0 := Lib.hid (N2.start w (.int .i64 k) (.int .i64 p) (.int .i64 q) (.slice a n ca) (.slice ao m co) (.int .i64 k) (.int .i64 p) (.int .i64 q) (.slice b n cb) (.slice bo m do') 33 33)
  clear h ho h' ho' hB hB' hn hmm hnn
  go_enter Try.func16, Try.ntmps16
  go_wp2_with fail
  refine (eq_ringN k p q _).mono ?_
  rintro e w1 ⟨rfl, hb⟩
  have T1 := Lib.hid (T0.out.step hb)
  clear hb T0
  obtain ⟨s0, s1, s2, s3, s4, -⟩ := T1.out.s
  obtain ⟨r0, r1, r2, r3, r4, -⟩ := T1.out.r
  go_wp2_with fail
  refine (eq_tens (HT.out.below T1.out.bel (Nat.le_refl _)) (HU.out.below T1.out.bel (Nat.le_refl _)) T1.out.bel.size T1.out.bel.size HLN.out.1 (fun t ht => ⟨by have := HLN.out.2.1 t ht; omega, by have := HLN.out.2.1 t ht; omega, by have := HLN.out.2.1 t ht; omega⟩)).mono ?_
  clear s0 s1 s2 s3 s4 r0 r1 r2 r3 r4
  rintro e w2 ⟨rfl, hb⟩
  have T2 := Lib.hid (T1.out.step hb)
  clear hb T1
  obtain ⟨s0, s1, s2, s3, s4, -⟩ := T2.out.s
  obtain ⟨r0, r1, r2, r3, r4, -⟩ := T2.out.r
  go_wp2_with fail
  refine (eq_rows (HO.out.below T2.out.bel (Nat.le_refl _)) (HP.out.below T2.out.bel (Nat.le_refl _)) rfl (by have := HLN.out.2.2; omega)).mono ?_
  clear s0 s1 s2 s3 s4 r0 r1 r2 r3 r4
  rintro e w3 ⟨rfl, hb⟩
  have T3 := Lib.hid (T2.out.step hb)
  clear hb T2
  go_wp2
  go_ret
  exact ⟨rfl, T3.out.bel⟩
set_option maxHeartbeats 1600000 in
theorem mark_network {lo hi : Nat} {k p q : Int} {tv ov : Value} {ts : List TenE} {O : List Int} {w : World} {z : Int} (s : Nat) (hz : z = (s : Int)) (h : OwnNet w lo hi tv ov ts O) (hn : ts.length ≤ 1048576) (hs : s + totT ts + O.length ≤ 1073741824) :
    Calls Try.prog 20 #[netV k p q tv ov, .int .i64 z] w fun e w' => e = .returned (.int .i64 ((s + totT ts + O.length : Nat) : Int)) ∧ KeptOut w w' lo hi := by
  subst hz
  have hle := h.le
  obtain ⟨m, h1, h2, h3, h4⟩ := h
  obtain ⟨a, ca, rfl⟩ := h3.rd.form
  obtain ⟨ao, co, rfl, -⟩ := ints_form h4.rd
  obtain ⟨n, hnn⟩ : ∃ n, n = ts.length := ⟨_, rfl⟩
  obtain ⟨l, hll⟩ : ∃ n, n = O.length := ⟨_, rfl⟩
  obtain ⟨W0, hW0⟩ : ∃ V, V = w.alloc (.cells #[.int .i64 k, .int .i64 p, .int .i64 q, .slice a n ca, .slice ao l co] 33) := ⟨_, rfl⟩
  have hb0 : Below w.heap.size w W0 := by rw [hW0]; exact (Below.refl _ _).alloc (Nat.le_refl _) _
  have hc : W0.cell? ⟨w.heap.size, 3, none⟩ = some (.slice a n ca) ∧ W0.cell? ⟨w.heap.size, 4, none⟩ = some (.slice ao l co) ∧ w.heap.size < W0.heap.size := by rw [hW0]; simp
  have HMT := Lib.hid (mark_tens s rfl (h3.below hb0) hn (by omega))
  have HO := Lib.hid (h4.below hb0 (Nat.le_refl _))
  obtain ⟨s1, hs1⟩ : ∃ x, x = s + totT ts := ⟨_, rfl⟩
  rw [← hs1] at HMT
  rw [← hnn] at HMT
  rw [← hll] at HO
  rw [← hs1, ← hll, ← hnn]
  have HB0 := Lib.hid hb0
  have HC := Lib.hid hc
  have HW0 := Lib.hid hW0
  have HL := Lib.hid hll
  have HH := Lib.hid (And.intro h1 (And.intro h2 hle))
  have hs2 : s1 + l ≤ 1073741824 := by omega
  obtain ⟨c3, c4, -⟩ := hc
  clear h1 h2 h3 h4 hle hb0 hW0 hnn hll hn hs hs1
  go_enter Try.func20, Try.ntmps20
  go_upto_region 1 with fail
  rw [← HW0.out]
  clear HW0
  go_wp2_with fail
  refine HMT.out.mono ?_
  clear HMT c3
  rintro e w1 ⟨rfl, hk⟩
  have c4 := hk.cell c4 HC.out.2.2 (.inr (Nat.le_trans HH.out.2.1 HH.out.2.2))
  have HK1 := Lib.hid hk
  have HO1 := Lib.hid ((OwnG.one HO.out).kept hk (.inr (Nat.le_refl _)))
  have HM2 := Lib.hid (marks_row s1 rfl HO1.out (by rw [← HL.out]; omega) (by omega))
  rw [← HL.out] at HM2
  clear hk HO
  go_wp2_with fail
  refine HM2.out.mono ?_
  clear HM2 c4
  rintro e w2 ⟨rfl, -, hk⟩
  have HK2 := Lib.hid hk
  clear hk HO1
  go_wp2
  go_ret
  refine ⟨rfl, ?_⟩
  exact ((KeptOut.of_below HB0.out).trans (HK1.out.wide (Nat.le_refl _) HH.out.2.1)).trans (HK2.out.wide HH.out.1 (Nat.le_refl _))
end Go.Proofs.Ytdheakjjnaifkaa
