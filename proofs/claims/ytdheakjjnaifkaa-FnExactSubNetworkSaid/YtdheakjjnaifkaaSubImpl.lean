
/- impl.SubNetwork. -/
import Derived.Test.YtdheakjjnaifkaaSubKit
import Derived.Test.YtdheakjjnaifkaaZeroImpl
import Derived.Test.YtdheakjjnaifkaaShare0
namespace Go.Proofs.Ytdheakjjnaifkaa
set_option maxRecDepth 20000
open Go.RowKit

theorem openL_rg {ts : List TenE} {O : List Int} {s : Nat} (h : ∀ x ∈ O, 0 ≤ x ∧ x ≤ 99) : ∀ x ∈ openL ts O s, 0 ≤ x ∧ x ≤ 99 := fun x hx => by
  unfold openL at hx
  rcases List.mem_append.1 hx with hx | hx
  · exact h x (List.mem_filter.1 hx).1
  · have h1 := (List.mem_filter.1 hx).1
    unfold labT at h1
    obtain ⟨y, hy, rfl⟩ := List.mem_map.1 (List.mem_filter.1 h1).1
    have := List.mem_range.1 hy
    omega
def pickT (ts : List TenE) (l : List Int) : List TenE := l.map fun k => ts.getD k.toNat ([], [], [])
/-- The tensors with these indices are a network. -/
def SubOk (k p q : Int) (ts : List TenE) (O l : List Int) : Prop := NetOk k p q ts O ∧ OkSub ts.length l ∧ 0 ≤ sizeI (openL ts O (setL l)) ((openL ts O (setL l)).map (dimT ts))
/-- A network of the call's own, its open labels older than its tensors. -/
def OwnNetR (w : World) (lo hi : Nat) (tv ov : Value) (ts : List TenE) (O : List Int) : Prop := ∃ m, lo ≤ m ∧ m ≤ hi ∧ Own w lo m ov O ∧ OwnTs w m hi tv ts
/-- What SubNetwork answers. -/
def SubR (w : World) (k p q : Int) (ts : List TenE) (O l : List Int) (e : Ending) (w' : World) : Prop :=
  (SubOk k p q ts O l ∧ ∃ tv ov, e = .returned (.tuple #[netV k p q tv ov, .bool true]) ∧ OwnNetR w' w.heap.size w'.heap.size tv ov (pickT ts l) (openL ts O (setL l)) ∧ Below w.heap.size w w') ∨
  (¬ SubOk k p q ts O l ∧ e = .returned (.tuple #[netV 0 0 0 nilV nilV, .bool false]) ∧ Below w.heap.size w w')
theorem NetW.new1 {w0 wr w' : World} {b : Nat} {k p q : Int} {cv ov tv v : Value} {us : List TenW} {rows : List RowE} {xs : List Int} (h : NetW w0 wr b k p q cv ov tv us rows) (hb : Below wr.heap.size wr w') (ho : Own w' wr.heap.size w'.heap.size v xs) : NetW w0 w' b k p q cv ov tv us ((v, xs) :: rows) :=
  ⟨h.b5.step hb, h.lo, h.t.new hb ho, h.farT, fun r hr e => by
    have := h.b5.lt
    rcases List.mem_cons.1 hr with rfl | hr
    · have := ho.lo _ e; omega
    · exact h.farR r hr e⟩
theorem NetW.put5 {w0 wr : World} {b : Nat} {k p q : Int} {cv ov tv : Value} {us : List TenW} {rows : List RowE} (h : NetW w0 wr b k p q cv ov tv us rows) (k' p' q' : Int) (c o : Value) : NetW w0 (put5 wr b (.int .i64 k') (.int .i64 p') (.int .i64 q') c o) b k' p' q' c o tv us rows := by
  have f := fun {W : World} (hh : RsT w0 W [] rows tv us) (i : Nat) (u : Value) => hh.beside h.lo h.farT h.farR i u
  refine ⟨?_, h.lo, f (f (f (f (f h.t 0 _) 1 _) 2 _) 3 _) 4 _, h.farT, h.farR⟩
  simpa [Go.Proofs.Ytdheakjjnaifkaa.put5] using ((((h.b5.set (.int .i64 k') 0).set (.int .i64 p') 1).set (.int .i64 q') 2).set c 3).set o 4
theorem below_put5 {w W : World} {B r : Nat} (h : Below B w W) (hr : B ≤ r) (u0 u1 u2 u3 u4 : Value) : Below B w (put5 W r u0 u1 u2 u3 u4) := ((((h.setCell hr _).setCell hr _).setCell hr _).setCell hr _).setCell hr _

theorem ownsRow_up {w : World} {lo m n size : Nat} {T : TypeId} {v : Value} {cs : List Value} (h : w.ownsRow lo T size v n cs) (hm : ∀ g, v.ownBlock = some g → m ≤ g) : w.ownsRow m T size v n cs :=
  ⟨h.1, h.2.imp id (fun ⟨g, cap, cur, e, _, q⟩ => ⟨g, cap, cur, e, hm g (by rw [e]; rfl), q⟩)⟩
/-- A network under way whose tensors lie above m. -/
structure NetM (m : Nat) (w0 wr : World) (b : Nat) (k p q : Int) (cv ov tv : Value) (us : List TenW) (rows pre : List RowE) : Prop where
  n : NetW w0 wr b k p q cv ov tv us (rows ++ pre)
  le : m ≤ wr.heap.size
  upT : ∀ g, tv.ownBlock = some g → m ≤ g
  upR : ∀ r ∈ rows, ∀ g, r.1.ownBlock = some g → m ≤ g
section
variable {m : Nat} {w0 wr w' : World} {b : Nat} {k p q : Int} {cv ov tv : Value} {us : List TenW} {rows pre : List RowE}
theorem NetM.bel (h : NetM m w0 wr b k p q cv ov tv us rows pre) : Below w0.heap.size w0 wr := h.n.bel
theorem NetM.step (h : NetM m w0 wr b k p q cv ov tv us rows pre) (hb : Below wr.heap.size wr w') : NetM m w0 w' b k p q cv ov tv us rows pre := ⟨h.n.step hb, Nat.le_trans h.le hb.size, h.upT, h.upR⟩
theorem NetM.new3 {a c d : Value} {x y z : List Int} (h : NetM m w0 wr b k p q cv ov tv us rows pre) (hb : Below wr.heap.size wr w') (ho : OwnG w' wr.heap.size w'.heap.size [(a, x), (c, y), (d, z)]) : NetM m w0 w' b k p q cv ov tv us ((a, x) :: (c, y) :: (d, z) :: rows) pre :=
  ⟨h.n.new3 hb ho, Nat.le_trans h.le hb.size, h.upT, fun r hr g e => by
    have := h.le
    rcases List.mem_cons.1 hr with rfl | hr
    · have := ho.rows.1.lo _ e; omega
    · rcases List.mem_cons.1 hr with rfl | hr
      · have := ho.rows.2.1.lo _ e; omega
      · rcases List.mem_cons.1 hr with rfl | hr
        · have := ho.rows.2.2.lo _ e; omega
        · exact h.upR r hr g e⟩
theorem NetM.app {u : TenW} {g n cap : Nat} (h : NetM m w0 wr b k p q cv ov tv us rows pre) (hn : us.length = n) (ho : w'.ownsRow w0.heap.size 55 3 (.slice (some ⟨g, 0, none⟩) (n + 1) cap) (n + 1) (cells3 us ++ [u.1, u.2.1, u.2.2])) (hg : wr.grownBy w' tv.ownBlock) (hl : tv.ownBlock = some g ∨ g = wr.heap.size) : NetM m w0 w' b k p q cv ov (.slice (some ⟨g, 0, none⟩) (n + 1) cap) (us ++ [u]) rows pre :=
  ⟨h.n.app hn ho hg hl, Nat.le_trans h.le hg.size, (fun j e => by
    simp only [Value.ownBlock, Option.some.injEq] at e
    subst e
    rcases hl with hl | hl
    · exact h.upT _ hl
    · have := h.le; omega), h.upR⟩
theorem NetM.putT (h : NetM m w0 wr b k p q cv ov tv us rows pre) : NetM m w0 (wr.setCell ⟨b, 3, none⟩ tv) b k p q tv ov tv us rows pre := ⟨h.n.putT, by simpa using h.le, h.upT, h.upR⟩
end
theorem NetM.ownTs {m : Nat} {w0 wr : World} {b : Nat} {k p q : Int} {cv ov tv : Value} {zs : List (TenW × TenE)} {pre : List RowE} (h : NetM m w0 wr b k p q cv ov tv (zs.map (·.1)) (rowsR zs) pre) : OwnTs wr m wr.heap.size tv (zs.map (·.2)) := by
  have hG := h.n.t.rs.ownG
  refine ⟨zs, cells3 (zs.map (·.1)), rfl, ?_, cells3_zs zs, ⟨fun r hr => ?_, ApartG.of_sub hG.2 (List.sublist_append_left _ _)⟩, fun g hg => ⟨(h.n.t.own.lt g hg).2, fun r hr => h.n.t.farR r (List.mem_append_left _ hr) g hg⟩, Nat.le_refl _⟩
  · have := ownsRow_up h.n.t.own h.upT
    rwa [List.length_map] at this ⊢
  · have ho := hG.1 r (List.mem_append_left _ hr)
    exact ⟨ownsRow_up ho.1 (h.upR r hr), ho.2.1, ho.2.2⟩
/-- The cells of a tensor that is laid down. -/
def NewsAt (W : World) (g : Nat) (cs : List Value) : Prop := ∀ (j : Nat) (u : Value), cs[j]? = some u → W.cell? ((⟨g, 0, none⟩ : Addr).add j) = some u
theorem NewsAt.new (W : World) (a c d : Value) (T : TypeId) : NewsAt (W.alloc (.cells #[a, c, d] T)) W.heap.size [a, c, d] := fun j u hu => by
  have hadd : (⟨W.heap.size, 0, none⟩ : Addr).add j = ⟨W.heap.size, j, none⟩ := by unfold Addr.add; split <;> simp_all
  rw [hadd]
  rcases j with _ | _ | _ | j
  · simp at hu; subst hu; simp
  · simp at hu; subst hu; simp
  · simp at hu; subst hu; simp
  · simp at hu
theorem pickT_snoc (ts : List TenE) (l : List Int) {i y : Nat} {t : TenE} (hi : l[i]? = some (y : Int)) (ht : ts[y]? = some t) : pickT ts (l.take (i + 1)) = pickT ts (l.take i) ++ [t] := by
  unfold pickT
  rw [List.take_add_one, hi, List.map_append]
  simp [ht]
theorem own_narrow {w : World} {lo lo' hi hi' : Nat} {v : Value} {xs : List Int} (h : Own w lo hi v xs) (hl : lo' ≤ lo) (hv : ∀ g, v.ownBlock = some g → g < hi') (h2 : hi' ≤ w.heap.size) : Own w lo' hi' v xs :=
  ⟨ownsRow_up h.1 (fun g e => Nat.le_trans hl (h.lo g e)), hv, h2⟩

set_option maxHeartbeats 6400000 in
theorem sub_full {B n cap m co j cl : Nat} {pa po al : Option Addr} {k p q : Int} {ts : List TenE} {O l : List Int} {w : World} (ha : RdTs B w (.slice pa n cap) ts) (ho : Rd B w (.slice po m co) (ints O)) (hB : B ≤ w.heap.size) (hn : ts.length = n) (hl : LenTs ts) (hI : ∀ t ∈ ts, allI t.1) (hc : ∀ t ∈ ts, t.1.length ≤ 1099511627776 ∧ t.2.1.length ≤ 1099511627776 ∧ t.2.2.length ≤ 1099511627776) (hm : O.length = m) (hmm : m ≤ 1048576) (hJ : allI O) (hv : Rd w.heap.size w (.slice al j cl) (ints l)) (hlj : l.length = j) (hjj : j ≤ 1048576) :
    Calls Try.prog 40 #[netV k p q (.slice pa n cap) (.slice po m co), .slice al j cl] w (SubR w k p q ts O l) := by
  obtain ⟨w1, hw1⟩ : ∃ W, W = (w.alloc (.cells #[.int .i64 k, .int .i64 p, .int .i64 q, .slice pa n cap, .slice po m co] 33)).alloc (.cells #[.int .i64 0, .int .i64 0, .int .i64 0, .slice none 0 0, .slice none 0 0] 33) := ⟨_, rfl⟩
  have h2 := N2.start w (.int .i64 k) (.int .i64 p) (.int .i64 q) (.slice pa n cap) (.slice po m co) (.int .i64 0) (.int .i64 0) (.int .i64 0) nilV nilV 33 33
  have hw2 : w1 = ((w.alloc (.cells #[.int .i64 k, .int .i64 p, .int .i64 q, .slice pa n cap, .slice po m co] 33)).alloc (.cells #[.int .i64 0, .int .i64 0, .int .i64 0, nilV, nilV] 33)) := hw1
  rw [← hw2] at h2
  have hb1 := h2.bel
  have HK := Lib.hid (check_full (k := k) (p := p) (q := q) (w := w1) ((ha.below hb1 hB).mono (Nat.le_trans hB hb1.size)) ((ho.below hb1 hB).mono (Nat.le_trans hB hb1.size)) (Nat.le_refl _) hn hl hI hm hmm hJ)
  have HN2 := Lib.hid h2
  have HTS0 := Lib.hid (ha.mono hB)
  have HO0 := Lib.hid (ho.mono hB)
  have HV0 := Lib.hid hv
  have HW1 := Lib.hid hw1
  have HN := Lib.hid hn
  have HM := Lib.hid hm
  have HLJ := Lib.hid hlj
  have HC := Lib.hid hc
  have HJO := Lib.hid hJ
  have hnn : n ≤ 281474976710656 := by rw [← hn]; exact Nat.le_trans hl.1 (by omega)
  obtain ⟨c0, c1, c2, c3, c4, -⟩ := h2.s
  clear ha ho hB hn hl hI hm hJ hb1 hw1 hw2 h2 hv hlj hc
  obtain ⟨i1, hi, hz0, hz1, hz2⟩ := info_parts infoTensor
  have I0 := Lib.hid hi
  have I1 := Lib.hid hz0
  have I2 := Lib.hid hz1
  have I3 := Lib.hid hz2
  clear hi hz0 hz1 hz2
  go_enter Try.func40, Try.ntmps40
  go_upto_region 1 with fail
  rw [← HW1.out]
  clear HW1
  go_wp2_with fail
  refine HK.out.mono ?_
  clear HK c0 c1 c2 c3 c4
  rintro e w2 (⟨hvn, g, a, b, rfl, hg, ⟨k0, k1, k2, k3, k4, k5, k6⟩, hab, hne, hb2⟩ | ⟨hnv, rfl, hb2⟩)
  · have R2 := Lib.hid (((Rs.start w).step HN2.out.bel).new2 hb2 hab)
    have HVN := Lib.hid hvn
    have T2 := Lib.hid (HN2.out.step hb2)
    have HGL : Hid (g < w2.heap.size) := Lib.hid (World.block_lt_of_cell? _ _ k0)
    have HK0 := Lib.hid (And.intro k0 (And.intro k1 (And.intro k2 (And.intro k3 (And.intro k4 (And.intro k5 k6))))))
    have hn12 : n ≤ 12 := by rw [← HN.out]; exact hvn.2.1
    have HCH := Lib.hid (choose_impl (l := l) (w := w2) k3 (HV0.out.below T2.out.bel (Nat.le_refl _)) HLJ.out hjj hn12)
    clear hab hne hb2 hg hvn HN2 k0 k1 k2 k3 k4 k5 k6
    by_cases hok : OkSub n l
    · have HOK := Lib.hid hok
      have hs4 := setL_lt hok.1 hn12
      obtain ⟨s, hs⟩ : ∃ s, s = setL l := ⟨_, rfl⟩
      rw [subB_true hok, if_pos rfl, ← hs] at HCH
      rw [← hs] at hs4
      have HS := Lib.hid hs
      clear hs hok
      obtain ⟨OL, hOL⟩ : ∃ L, L = openL ts O s := ⟨_, rfl⟩
      obtain ⟨lo, hlo⟩ : ∃ z, z = OL.length := ⟨_, rfl⟩
      have hO12 : O.length ≤ 12 ∧ ∀ x ∈ O, 0 ≤ x ∧ x ≤ 99 := by
        rcases sizeI_cases O (O.map (dimT ts)) with h | h
        · have := HVN.out.2.2.2; omega
        · exact ⟨h.2.1.1, h.2.1.2.2.1⟩
      have HO99 := Lib.hid hO12
      have hlo2 : lo ≤ 112 := by
        rw [hlo, hOL]
        unfold openL
        rw [List.length_append]
        have h1 := List.length_filter_le (inQ ts s) O
        have h2 := List.length_filter_le (midQ ts O s) (labT ts)
        have h3 := labT_len ts
        have h4 := hO12.1
        omega
      have HOL := Lib.hid hOL
      have HLO := Lib.hid hlo
      have HOP : Hid (∀ W : World, Below w2.heap.size w2 W → Calls Try.prog 73 #[.pointer (some ⟨g, 0, none⟩), .int .u64 s] W (NewRow W OL)) := Lib.hid (fun W hb => by
        rw [HOL.out]
        have hbe := T2.out.bel.trans (hb.mono T2.out.bel.size)
        exact open_in_impl ((HTS0.out.below hbe (Nat.le_refl _)).mono hbe.size) ((HO0.out.below hbe (Nat.le_refl _)).mono hbe.size) (((R2.out.rd (v := a) (xs := labT ts) (by simp)).below hb (Nat.le_refl _)).mono hb.size) (Nat.lt_of_lt_of_le HGL.out hb.size) ((hb.cell (p := ⟨g, 3, none⟩) HGL.out).trans HK0.out.2.2.2.1) ((hb.cell (p := ⟨g, 4, none⟩) HGL.out).trans HK0.out.2.2.2.2.1) ((hb.cell (p := ⟨g, 5, none⟩) HGL.out).trans HK0.out.2.2.2.2.2.1) HN.out hn12 HVN.out.2.2.1.ax HM.out hmm (fun x hx => by
          obtain ⟨h0, h1⟩ := HO99.out.2 x hx
          exact ⟨x.toNat, by omega, by omega⟩) hs4)
      have HS7 : Hid (∀ W : World, Below w2.heap.size w2 W → (W.cell? ⟨g, 0, none⟩ = some (.int .i64 k) ∧ W.cell? ⟨g, 1, none⟩ = some (.int .i64 p) ∧ W.cell? ⟨g, 2, none⟩ = some (.int .i64 q))) := Lib.hid (fun W hb => ⟨(hb.cell (p := ⟨g, 0, none⟩) HGL.out).trans HK0.out.1, (hb.cell (p := ⟨g, 1, none⟩) HGL.out).trans HK0.out.2.1, (hb.cell (p := ⟨g, 2, none⟩) HGL.out).trans HK0.out.2.2.1⟩)
      clear hOL hlo hO12
      go_wp2_with fail
      refine HCH.out.mono ?_
      clear HCH
      rintro e w3 ⟨rfl, rfl⟩
      go_wp2
      have RX : Hid ((w2.drew.cell? ⟨g, 0, none⟩ = some (.int .i64 k) ∧ w2.drew.cell? ⟨g, 1, none⟩ = some (.int .i64 p) ∧ w2.drew.cell? ⟨g, 2, none⟩ = some (.int .i64 q)) ∧ Rs w2 w2.drew [] []) := Lib.hid ⟨HS7.out _ (Below.drew (Below.refl _ _)), (Rs.start w2).drew⟩
      refine wp_region_held_drew (S := (fun w' => w'.cell? ⟨g, 0, none⟩ = some (.int .i64 k) ∧ w'.cell? ⟨g, 1, none⟩ = some (.int .i64 p) ∧ w'.cell? ⟨g, 2, none⟩ = some (.int .i64 q))) (by kernel_rfl) (by (try dsimp only); with_reducible exact RX.out.1) (fun hHeld => ?_)
      obtain ⟨WX, hW⟩ : ∃ W, W = w2.drew := ⟨_, rfl⟩
      rw [← hW] at hHeld RX ⊢
      clear hW
      refine wpAnyH_take (i := 0) (v := ?_) rfl (by kernel_rfl) (by kernel_rfl) (by kernel_rfl) (fun _ _ _ h => h) (Or.inl ⟨by rfl, ?_⟩) (by assumption) ?_
      rotate_left
      · intro w hSw; (try dsimp only at hSw); go_simp <;> with_reducible rfl
      try simp only [Act.put, List.getElem_toArray, List.getElem_cons_zero, List.setIfInBounds_toArray, List.set_cons_zero, List.set_cons_succ]
      refine wpAnyH_take (i := 1) (v := ?_) rfl (by kernel_rfl) (by kernel_rfl) (by kernel_rfl) (fun _ _ _ h => h) (Or.inl ⟨by rfl, ?_⟩) (by assumption) ?_
      rotate_left
      · intro w hSw; (try dsimp only at hSw); go_simp <;> with_reducible rfl
      try simp only [Act.put, List.getElem_toArray, List.getElem_cons_succ, List.getElem_cons_zero, List.setIfInBounds_toArray, List.set_cons_zero, List.set_cons_succ]
      refine wpAnyH_take (i := 2) (v := ?_) rfl (by kernel_rfl) (by kernel_rfl) (by kernel_rfl) (fun _ _ _ h => h) (Or.inl ⟨by rfl, ?_⟩) (by assumption) ?_
      rotate_left
      · intro w hSw; (try dsimp only at hSw); go_simp <;> with_reducible rfl
      try simp only [Act.put, List.getElem_toArray, List.getElem_cons_succ, List.getElem_cons_zero, List.setIfInBounds_toArray, List.set_cons_zero, List.set_cons_succ]
      refine wpAnyH_take (i := 3) (v := ?_) rfl (by kernel_rfl) (by kernel_rfl) (by kernel_rfl) (fun _ _ _ h => h) (Or.inl ⟨by rfl, ?_⟩) (by assumption) ?_
      rotate_left
      · intro w hSw; (try dsimp only at hSw); go_simp <;> with_reducible rfl
      try simp only [Act.put, List.getElem_toArray, List.getElem_cons_succ, List.getElem_cons_zero, List.setIfInBounds_toArray, List.set_cons_zero, List.set_cons_succ]
      refine wpAnyH_take (i := 4) (v := ?_) rfl (by kernel_rfl) (by kernel_rfl) (by kernel_rfl) (fun _ _ _ h => h) (Or.inl ⟨by rfl, ?_⟩) (by assumption) ?_
      rotate_left
      · intro w hSw; (try dsimp only at hSw); go_simp <;> with_reducible rfl
      try simp only [Act.put, List.getElem_toArray, List.getElem_cons_succ, List.getElem_cons_zero, List.setIfInBounds_toArray, List.set_cons_zero, List.set_cons_succ]
      refine wpAnyH_take (i := 5) (v := ?_) rfl (by kernel_rfl) (by kernel_rfl) (by kernel_rfl) (fun _ _ _ h => h) (Or.inl ⟨by rfl, ?_⟩) (by assumption) ?_
      rotate_left
      · intro w hSw; (try dsimp only at hSw); go_simp <;> with_reducible rfl
      try simp only [Act.put, List.getElem_toArray, List.getElem_cons_succ, List.getElem_cons_zero, List.setIfInBounds_toArray, List.set_cons_zero, List.set_cons_succ]
      refine wpAnyH_take (i := 6) (v := ?_) rfl (by kernel_rfl) (by kernel_rfl) (by kernel_rfl) (fun _ _ _ h => h) (Or.inl ⟨by rfl, ?_⟩) (by assumption) ?_
      rotate_left
      · intro w hSw; (try dsimp only at hSw); go_simp <;> with_reducible rfl
      try simp only [Act.put, List.getElem_toArray, List.getElem_cons_succ, List.getElem_cons_zero, List.setIfInBounds_toArray, List.set_cons_zero, List.set_cons_succ]
      apply share4 (F := fun (p1 : Option Addr) (c1 : Nat) (gs : Nat) (WX : World) => Hid ((WX.cell? ⟨g, 0, none⟩ = some (.int .i64 k) ∧ WX.cell? ⟨g, 1, none⟩ = some (.int .i64 p) ∧ WX.cell? ⟨g, 2, none⟩ = some (.int .i64 q)) ∧ NetW w2 WX gs k p q nilV (.slice p1 lo c1) nilV [] [((.slice p1 lo c1), OL)]))
      intro K7_9_10
      apply share4 (F := fun (p1 : Option Addr) (c1 : Nat) (gs : Nat) (WX : World) => Hid ((WX.cell? ⟨g, 0, none⟩ = some (.int .i64 k) ∧ WX.cell? ⟨g, 1, none⟩ = some (.int .i64 p) ∧ WX.cell? ⟨g, 2, none⟩ = some (.int .i64 q)) ∧ NetW w2 WX gs 0 0 0 nilV nilV nilV [] [((.slice p1 lo c1), OL)]))
      intro K7_9
      apply share3 (F := fun (p1 : Option Addr) (c1 : Nat) (WX : World) => Hid ((WX.cell? ⟨g, 0, none⟩ = some (.int .i64 k) ∧ WX.cell? ⟨g, 1, none⟩ = some (.int .i64 p) ∧ WX.cell? ⟨g, 2, none⟩ = some (.int .i64 q)) ∧ Rs w2 WX [] [((.slice p1 lo c1), OL)]))
      intro K7
      apply share2 (F := fun (gs : Nat) (WX : World) => Hid ((WX.cell? ⟨g, 0, none⟩ = some (.int .i64 k) ∧ WX.cell? ⟨g, 1, none⟩ = some (.int .i64 p) ∧ WX.cell? ⟨g, 2, none⟩ = some (.int .i64 q)) ∧ NetW w2 WX gs 0 0 0 nilV nilV nilV [] []))
      intro K9
      focus
        refine wpAnyH_ready (rs := [7, 9]) (by kernel_rfl) (by simp) ?_
        refine AllReadyH.cons rfl (fun K hK => ?_) (AllReadyH.cons rfl (fun K hK => ?_) AllReadyH.nil)
        focus
          (go_simp; refine (HOP.out WX RX.out.2.bel).mono ?_; rintro e WY ⟨v1, rfl, ho, hb⟩; obtain ⟨p1, c1, rfl, -⟩ := ints_form ho.rd; rw [← HLO.out] at ho ⊢; have RY := RX.out.2.new hb ho; clear ho hb; replace RX : Hid ((WY.cell? ⟨g, 0, none⟩ = some (.int .i64 k) ∧ WY.cell? ⟨g, 1, none⟩ = some (.int .i64 p) ∧ WY.cell? ⟨g, 2, none⟩ = some (.int .i64 q)) ∧ Rs w2 WY [] [((.slice p1 lo c1), OL)]) := Lib.hid ⟨HS7.out _ RY.bel, RY⟩; clear RY; obtain ⟨WX, hW⟩ : ∃ W, W = WY := ⟨_, rfl⟩; rw [← hW] at RX ⊢; clear hW; change K _ _)
          refine hK.out _ _ (by (try dsimp only); with_reducible exact RX.out.1) (fun hHeld => ?_)
          clear hK K
          try simp only [Act.put, List.getElem_toArray, List.getElem_cons_succ, List.getElem_cons_zero, List.setIfInBounds_toArray, List.set_cons_zero, List.set_cons_succ]
          refine wpAnyH_take (i := 8) (v := ?_) rfl (by kernel_rfl) (by kernel_rfl) (by kernel_rfl) (fun _ _ _ h => h) (Or.inl ⟨by rfl, ?_⟩) (by assumption) ?_
          rotate_left
          · intro w hSw; (try dsimp only at hSw); go_simp <;> with_reducible rfl
          try simp only [Act.put, List.getElem_toArray, List.getElem_cons_succ, List.getElem_cons_zero, List.setIfInBounds_toArray, List.set_cons_zero, List.set_cons_succ]
          exact K7.out p1 c1 WX RX
        focus
          (go_simp; have RY := NetW.new RX.out.2 0 0 0 nilV 33; obtain ⟨WY, hW⟩ : ∃ WY, WY = WX.alloc (.cells #[.int .i64 0, .int .i64 0, .int .i64 0, nilV, nilV] 33) := ⟨_, rfl⟩; obtain ⟨gs, hg⟩ : ∃ z, z = WX.heap.size := ⟨_, rfl⟩; rw [← hW, ← hg] at RY; (try rw [← hg]); have hW2 : WY = WX.alloc (.cells #[.int .i64 0, .int .i64 0, .int .i64 0, .slice none 0 0, .slice none 0 0] 33) := hW; (try rw [← hW2]); clear hW hW2 hg; replace RX : Hid ((WY.cell? ⟨g, 0, none⟩ = some (.int .i64 k) ∧ WY.cell? ⟨g, 1, none⟩ = some (.int .i64 p) ∧ WY.cell? ⟨g, 2, none⟩ = some (.int .i64 q)) ∧ NetW w2 WY gs 0 0 0 nilV nilV nilV [] []) := Lib.hid ⟨HS7.out _ RY.bel, RY⟩; clear RY; obtain ⟨WX, hW⟩ : ∃ W, W = WY := ⟨_, rfl⟩; rw [← hW] at RX ⊢; clear hW)
          refine hK.out _ _ (by (try dsimp only); with_reducible exact RX.out.1) (fun hHeld => ?_)
          clear hK K
          try simp only [Act.put, List.getElem_toArray, List.getElem_cons_succ, List.getElem_cons_zero, List.setIfInBounds_toArray, List.set_cons_zero, List.set_cons_succ]
          exact K9.out gs WX RX
      focus
        intro gs WX RX
        have hHeld : ((fun w' => w'.cell? ⟨g, 0, none⟩ = some (.int .i64 k) ∧ w'.cell? ⟨g, 1, none⟩ = some (.int .i64 p) ∧ w'.cell? ⟨g, 2, none⟩ = some (.int .i64 q))) WX := by (try dsimp only); with_reducible exact RX.out.1
        refine wpAnyH_ready (rs := [7]) (by kernel_rfl) (by simp) ?_
        refine AllReadyH.cons rfl (fun K hK => ?_) AllReadyH.nil
        focus
          (go_simp; refine (HOP.out WX RX.out.2.bel).mono ?_; rintro e WY ⟨v1, rfl, ho, hb⟩; obtain ⟨p1, c1, rfl, -⟩ := ints_form ho.rd; rw [← HLO.out] at ho ⊢; have RY := RX.out.2.new1 hb ho; clear ho hb; replace RX : Hid ((WY.cell? ⟨g, 0, none⟩ = some (.int .i64 k) ∧ WY.cell? ⟨g, 1, none⟩ = some (.int .i64 p) ∧ WY.cell? ⟨g, 2, none⟩ = some (.int .i64 q)) ∧ NetW w2 WY gs 0 0 0 nilV nilV nilV [] [((.slice p1 lo c1), OL)]) := Lib.hid ⟨HS7.out _ RY.bel, RY⟩; clear RY; obtain ⟨WX, hW⟩ : ∃ W, W = WY := ⟨_, rfl⟩; rw [← hW] at RX ⊢; clear hW; change K _ _)
          refine hK.out _ _ (by (try dsimp only); with_reducible exact RX.out.1) (fun hHeld => ?_)
          clear hK K
          try simp only [Act.put, List.getElem_toArray, List.getElem_cons_succ, List.getElem_cons_zero, List.setIfInBounds_toArray, List.set_cons_zero, List.set_cons_succ]
          refine wpAnyH_take (i := 8) (v := ?_) rfl (by kernel_rfl) (by kernel_rfl) (by kernel_rfl) (fun _ _ _ h => h) (Or.inl ⟨by rfl, ?_⟩) (by assumption) ?_
          rotate_left
          · intro w hSw; (try dsimp only at hSw); go_simp <;> with_reducible rfl
          try simp only [Act.put, List.getElem_toArray, List.getElem_cons_succ, List.getElem_cons_zero, List.setIfInBounds_toArray, List.set_cons_zero, List.set_cons_succ]
          exact K7_9.out p1 c1 gs WX RX
      focus
        intro p1 c1 WX RX
        have hHeld : ((fun w' => w'.cell? ⟨g, 0, none⟩ = some (.int .i64 k) ∧ w'.cell? ⟨g, 1, none⟩ = some (.int .i64 p) ∧ w'.cell? ⟨g, 2, none⟩ = some (.int .i64 q))) WX := by (try dsimp only); with_reducible exact RX.out.1
        refine wpAnyH_ready (rs := [9]) (by kernel_rfl) (by simp) ?_
        refine AllReadyH.cons rfl (fun K hK => ?_) AllReadyH.nil
        focus
          (go_simp; have RY := NetW.new RX.out.2 0 0 0 nilV 33; obtain ⟨WY, hW⟩ : ∃ WY, WY = WX.alloc (.cells #[.int .i64 0, .int .i64 0, .int .i64 0, nilV, nilV] 33) := ⟨_, rfl⟩; obtain ⟨gs, hg⟩ : ∃ z, z = WX.heap.size := ⟨_, rfl⟩; rw [← hW, ← hg] at RY; (try rw [← hg]); have hW2 : WY = WX.alloc (.cells #[.int .i64 0, .int .i64 0, .int .i64 0, .slice none 0 0, .slice none 0 0] 33) := hW; (try rw [← hW2]); clear hW hW2 hg; replace RX : Hid ((WY.cell? ⟨g, 0, none⟩ = some (.int .i64 k) ∧ WY.cell? ⟨g, 1, none⟩ = some (.int .i64 p) ∧ WY.cell? ⟨g, 2, none⟩ = some (.int .i64 q)) ∧ NetW w2 WY gs 0 0 0 nilV nilV nilV [] [((.slice p1 lo c1), OL)]) := Lib.hid ⟨HS7.out _ RY.bel, RY⟩; clear RY; obtain ⟨WX, hW⟩ : ∃ W, W = WY := ⟨_, rfl⟩; rw [← hW] at RX ⊢; clear hW)
          refine hK.out _ _ (by (try dsimp only); with_reducible exact RX.out.1) (fun hHeld => ?_)
          clear hK K
          try simp only [Act.put, List.getElem_toArray, List.getElem_cons_succ, List.getElem_cons_zero, List.setIfInBounds_toArray, List.set_cons_zero, List.set_cons_succ]
          exact wpAnyH_listed (by kernel_rfl) (K7_9.out p1 c1 gs WX RX)
      focus
        intro p1 c1 gs WX RX
        have hHeld : ((fun w' => w'.cell? ⟨g, 0, none⟩ = some (.int .i64 k) ∧ w'.cell? ⟨g, 1, none⟩ = some (.int .i64 p) ∧ w'.cell? ⟨g, 2, none⟩ = some (.int .i64 q))) WX := by (try dsimp only); with_reducible exact RX.out.1
        refine wpAnyH_ready (rs := [10]) (by kernel_rfl) (by simp) ?_
        refine AllReadyH.cons rfl (fun K hK => ?_) AllReadyH.nil
        focus
          (obtain ⟨t0, t1, t2, t3, t4, fr, -⟩ := RX.out.2.b5; have fr0 := fr 0; have fr1 := fr 1; have fr2 := fr 2; have fr3 := fr 3; have fr4 := fr 4; clear fr; go_simp; have RY := RX.out.2.put5 k p q nilV (.slice p1 lo c1); obtain ⟨WY, hW⟩ : ∃ WY, WY = put5 WX gs (.int .i64 k) (.int .i64 p) (.int .i64 q) nilV (.slice p1 lo c1) := ⟨_, rfl⟩; rw [← hW] at RY; have hW2 : WY = ((((WX.setCell ⟨gs, 0, none⟩ (.int .i64 k)).setCell ⟨gs, 1, none⟩ (.int .i64 p)).setCell ⟨gs, 2, none⟩ (.int .i64 q)).setCell ⟨gs, 3, none⟩ (.slice none 0 0)).setCell ⟨gs, 4, none⟩ (.slice p1 lo c1) := hW; rw [← hW2]; clear hW hW2 t0 t1 t2 t3 t4 fr0 fr1 fr2 fr3 fr4; replace RX : Hid ((WY.cell? ⟨g, 0, none⟩ = some (.int .i64 k) ∧ WY.cell? ⟨g, 1, none⟩ = some (.int .i64 p) ∧ WY.cell? ⟨g, 2, none⟩ = some (.int .i64 q)) ∧ NetW w2 WY gs k p q nilV (.slice p1 lo c1) nilV [] [((.slice p1 lo c1), OL)]) := Lib.hid ⟨HS7.out _ RY.bel, RY⟩; clear RY; obtain ⟨WX, hW⟩ : ∃ W, W = WY := ⟨_, rfl⟩; rw [← hW] at RX ⊢; clear hW)
          refine hK.out _ _ (by (try dsimp only); with_reducible exact RX.out.1) (fun hHeld => ?_)
          clear hK K
          try simp only [Act.put, List.getElem_toArray, List.getElem_cons_succ, List.getElem_cons_zero, List.setIfInBounds_toArray, List.set_cons_zero, List.set_cons_succ]
          exact K7_9_10.out p1 c1 gs WX RX
      intro p1 c1 gs WX RX
      refine wpAnyH_done (by kernel_rfl) ?_ _
-- 4 states
      obtain ⟨gv, hgv⟩ : ∃ v, v = Value.slice p1 lo c1 := ⟨_, rfl⟩
      have N8 := Lib.hid RX.out.2
      have HOV : Hid (Rd WX.heap.size WX (.slice p1 lo c1) (ints OL) ∧ ∀ g', (Value.slice p1 lo c1).ownBlock = some g' → g' < WX.heap.size) := Lib.hid ⟨RX.out.2.t.rs.rd (by simp), (RX.out.2.t.rs.own1 (v := .slice p1 lo c1) (xs := OL) (by simp)).2.1⟩
      clear hgv gv
      obtain ⟨M, hM⟩ : ∃ m, m = WX.heap.size := ⟨_, rfl⟩
      rw [← hM] at HOV
      obtain ⟨WM, hWM⟩ : ∃ W, W = WX := ⟨_, rfl⟩
      have HM1 : Hid (M = WM.heap.size ∧ Below w2.heap.size w2 WM) := Lib.hid ⟨by rw [hWM, hM], by rw [hWM]; exact N8.out.bel⟩
      obtain ⟨z, hz⟩ : ∃ z, z = decide (0 ≤ sizeI OL (OL.map (dimT ts))) := ⟨_, rfl⟩
      have HCB : Hid (∀ W : World, Below WM.heap.size WM W → Calls Try.prog 74 #[.slice p1 lo c1, .agg #[a, b]] W fun e w' => e = .returned (.bool z) ∧ Below W.heap.size W w') := Lib.hid (fun W hb => by
        have hbe := HM1.out.2.trans (hb.mono HM1.out.2.size)
        rw [hz]
        exact can_full (B := W.heap.size) ((HOV.out.1.below (B' := WM.heap.size) (by rw [hWM] at hb ⊢; exact hb) (by rw [HM1.out.1]; exact Nat.le_refl _)).mono (by rw [HM1.out.1]; exact hb.size)) (((R2.out.rd (v := a) (xs := labT ts) (by simp)).below hbe (Nat.le_refl _)).mono hbe.size) (((R2.out.rd (v := b) (xs := (labT ts).map (dimT ts)) (by simp)).below hbe (Nat.le_refl _)).mono hbe.size) (Nat.le_refl _) HLO.out.symm (by omega) HVN.out.2.2.1.ax (fun x hx => by
          have h1 := openL_rg (ts := ts) (s := s) HO99.out.2 x (by rw [← HOL.out]; exact hx)
          unfold inI; omega))
      have HZ := Lib.hid hz
      have HS8 : Hid (∀ (W : World) (cv tv : Value) (us : List TenW) (rows : List RowE), NetW w2 W gs k p q cv (.slice p1 lo c1) tv us rows → (W.cell? ⟨gs, 4, none⟩ = some (.slice p1 lo c1) ∧ W.cell? ⟨g, 5, none⟩ = some a ∧ W.cell? ⟨g, 6, none⟩ = some b)) := Lib.hid (fun W cv tv us rows h => ⟨h.b5.c4, (h.bel.cell (p := ⟨g, 5, none⟩) HGL.out).trans HK0.out.2.2.2.2.2.1, (h.bel.cell (p := ⟨g, 6, none⟩) HGL.out).trans HK0.out.2.2.2.2.2.2⟩)
      clear hz hHeld HOP HS7 RX
      go_wp2
      have RX : Hid ((WX.drew.cell? ⟨gs, 4, none⟩ = some (.slice p1 lo c1) ∧ WX.drew.cell? ⟨g, 5, none⟩ = some a ∧ WX.drew.cell? ⟨g, 6, none⟩ = some b) ∧ NetW w2 WX.drew gs k p q nilV (.slice p1 lo c1) nilV [] [(.slice p1 lo c1, OL)] ∧ Below WM.heap.size WM WX.drew) := Lib.hid ⟨HS8.out _ _ _ _ _ (N8.out.step (Below.drew (Below.refl _ _))), N8.out.step (Below.drew (Below.refl _ _)), by rw [hWM]; exact Below.drew (Below.refl _ _)⟩
      clear hWM hM N8
      refine wp_region_held_drew (S := (fun w' => w'.cell? ⟨gs, 4, none⟩ = some (.slice p1 lo c1) ∧ w'.cell? ⟨g, 5, none⟩ = some a ∧ w'.cell? ⟨g, 6, none⟩ = some b)) (by kernel_rfl) (by (try dsimp only); with_reducible exact RX.out.1) (fun hHeld => ?_)
      obtain ⟨WX, hW⟩ : ∃ W, W = WX.drew := ⟨_, rfl⟩
      rw [← hW] at hHeld RX ⊢
      clear hW
      refine wpAnyH_take (i := 0) (v := ?_) rfl (by kernel_rfl) (by kernel_rfl) (by kernel_rfl) (fun _ _ _ h => h) (Or.inl ⟨by rfl, ?_⟩) (by assumption) ?_
      rotate_left
      · intro w hSw; (try dsimp only at hSw); go_simp <;> with_reducible rfl
      try simp only [Act.put, List.getElem_toArray, List.getElem_cons_zero, List.setIfInBounds_toArray, List.set_cons_zero, List.set_cons_succ]
      refine wpAnyH_take (i := 1) (v := ?_) rfl (by kernel_rfl) (by kernel_rfl) (by kernel_rfl) (fun _ _ _ h => h) (Or.inl ⟨by rfl, ?_⟩) (by assumption) ?_
      rotate_left
      · intro w hSw; (try dsimp only at hSw); go_simp <;> with_reducible rfl
      try simp only [Act.put, List.getElem_toArray, List.getElem_cons_succ, List.getElem_cons_zero, List.setIfInBounds_toArray, List.set_cons_zero, List.set_cons_succ]
      refine wpAnyH_take (i := 2) (v := ?_) rfl (by kernel_rfl) (by kernel_rfl) (by kernel_rfl) (fun _ _ _ h => h) (Or.inl ⟨by rfl, ?_⟩) (by assumption) ?_
      rotate_left
      · intro w hSw; (try dsimp only at hSw); go_simp <;> with_reducible rfl
      try simp only [Act.put, List.getElem_toArray, List.getElem_cons_succ, List.getElem_cons_zero, List.setIfInBounds_toArray, List.set_cons_zero, List.set_cons_succ]
      refine wpAnyH_take (i := 3) (v := ?_) rfl (by kernel_rfl) (by kernel_rfl) (by kernel_rfl) (fun _ _ _ h => h) (Or.inl ⟨by rfl, ?_⟩) (by assumption) ?_
      rotate_left
      · intro w hSw; (try dsimp only at hSw); go_simp <;> with_reducible rfl
      try simp only [Act.put, List.getElem_toArray, List.getElem_cons_succ, List.getElem_cons_zero, List.setIfInBounds_toArray, List.set_cons_zero, List.set_cons_succ]
      refine wpAnyH_take (i := 4) (v := ?_) rfl (by kernel_rfl) (by kernel_rfl) (by kernel_rfl) (fun _ _ _ h => h) (Or.inl ⟨by rfl, ?_⟩) (by assumption) ?_
      rotate_left
      · intro w hSw; (try dsimp only at hSw); go_simp <;> with_reducible rfl
      try simp only [Act.put, List.getElem_toArray, List.getElem_cons_succ, List.getElem_cons_zero, List.setIfInBounds_toArray, List.set_cons_zero, List.set_cons_succ]
      refine wpAnyH_take (i := 5) (v := ?_) rfl (by kernel_rfl) (by kernel_rfl) (by kernel_rfl) (fun _ _ _ h => h) (Or.inl ⟨by rfl, ?_⟩) (by assumption) ?_
      rotate_left
      · intro w hSw; (try dsimp only at hSw); go_simp <;> with_reducible rfl
      try simp only [Act.put, List.getElem_toArray, List.getElem_cons_succ, List.getElem_cons_zero, List.setIfInBounds_toArray, List.set_cons_zero, List.set_cons_succ]
      apply share1 (F := fun (WX : World) => Hid ((WX.cell? ⟨gs, 4, none⟩ = some (.slice p1 lo c1) ∧ WX.cell? ⟨g, 5, none⟩ = some a ∧ WX.cell? ⟨g, 6, none⟩ = some b) ∧ NetW w2 WX gs k p q nilV (.slice p1 lo c1) nilV [] [(.slice p1 lo c1, OL)] ∧ Below WM.heap.size WM WX))
      intro K6
      focus
        refine wpAnyH_ready (rs := [6]) (by kernel_rfl) (by simp) ?_
        refine AllReadyH.cons rfl (fun K hK => ?_) AllReadyH.nil
        focus
          (go_simp; refine (HCB.out WX RX.out.2.2).mono ?_; rintro e WY ⟨rfl, hb⟩; have RY := RX.out.2.1.step hb; have RZ := RX.out.2.2.trans (hb.mono RX.out.2.2.size); clear hb; replace RX : Hid ((WY.cell? ⟨gs, 4, none⟩ = some (.slice p1 lo c1) ∧ WY.cell? ⟨g, 5, none⟩ = some a ∧ WY.cell? ⟨g, 6, none⟩ = some b) ∧ NetW w2 WY gs k p q nilV (.slice p1 lo c1) nilV [] [(.slice p1 lo c1, OL)] ∧ Below WM.heap.size WM WY) := Lib.hid ⟨HS8.out _ _ _ _ _ RY, RY, RZ⟩; clear RY RZ; obtain ⟨WX, hW⟩ : ∃ W, W = WY := ⟨_, rfl⟩; rw [← hW] at RX ⊢; clear hW; change K _ _)
          refine hK.out _ _ (by (try dsimp only); with_reducible exact RX.out.1) (fun hHeld => ?_)
          clear hK K
          try simp only [Act.put, List.getElem_toArray, List.getElem_cons_succ, List.getElem_cons_zero, List.setIfInBounds_toArray, List.set_cons_zero, List.set_cons_succ]
          refine wpAnyH_take (i := 7) (v := ?_) rfl (by kernel_rfl) (by kernel_rfl) (by kernel_rfl) (fun _ _ _ h => h) (Or.inl ⟨by rfl, ?_⟩) (by assumption) ?_
          rotate_left
          · intro w hSw; (try dsimp only at hSw); go_simp <;> with_reducible rfl
          try simp only [Act.put, List.getElem_toArray, List.getElem_cons_succ, List.getElem_cons_zero, List.setIfInBounds_toArray, List.set_cons_zero, List.set_cons_succ]
          exact K6.out WX RX
      intro WX RX
      refine wpAnyH_done (by kernel_rfl) ?_ _
-- 1 states
      have T9 := Lib.hid (T2.out.step RX.out.2.1.bel)
      cases z with
      | false =>
        have hno : ¬ SubOk k p q ts O l := fun h => by
          have h1 := h.2.2
          rw [← HS.out, ← HOL.out] at h1
          have h2 := HZ.out
          rw [decide_eq_true h1] at h2
          cases h2
        have HX := Lib.hid hno
        obtain ⟨t0, t1, t2, t3, t4, fr, -⟩ := T9.out.r
        have fr0 := fr 0
        have fr1 := fr 1
        have fr2 := fr 2
        have fr3 := fr 3
        have fr4 := fr 4
        clear fr hno RX hHeld
        go_wp2
        refine bodyPost_ret (v := .tuple #[netV 0 0 0 nilV nilV, .bool false]) (by simp [results, Try.results40, go_sem, t0, t1, t2, t3, t4]) rfl ?_
        exact .inr ⟨HX.out, rfl, below_put5 T9.out.bel (by omega) _ _ _ _ _⟩
      | true =>
        have hyes : SubOk k p q ts O l := ⟨HVN.out, by rw [HN.out]; exact HOK.out, by
          rw [← HS.out, ← HOL.out]
          exact of_decide_eq_true HZ.out.symm⟩
        have HYES := Lib.hid hyes
        have L0 : Hid (NetM M w2 WX gs k p q nilV (.slice p1 lo c1) nilV (([] : List (TenW × TenE)).map (·.1)) (rowsR []) [(.slice p1 lo c1, OL)]) := Lib.hid ⟨RX.out.2.1, by rw [HM1.out.1]; exact RX.out.2.2.size, (fun g e => by cases e), fun r hr => by simp [rowsR] at hr⟩
        clear hyes RX hHeld HCB
        simp only [Bool.not_true]
        go_wp2
        go_loopw [46] (fun ii wr => ∃ (i ct : Nat) (ga : Option Addr) (zs : List (TenW × TenE)), i ≤ j ∧ ii = .int .i64 i ∧ Hid (zs.map (·.2) = pickT ts (l.take i)) ∧ Hid (NetM M w2 wr gs k p q (.slice ga i ct) (.slice p1 lo c1) (.slice ga i ct) (zs.map (·.1)) (rowsR zs) [(.slice p1 lo c1, OL)])) (fun ii _ => j - (intOf ii).toNat)
        case atStart => exact ⟨0, 0, none, [], by omega, rfl, Lib.hid rfl, L0⟩
        case round =>
          clear L0 T9
          obtain ⟨i, ct, ga, zs, hi, rfl, HZS, HR⟩ := hrel
          by_cases hlt : i < j
          · obtain ⟨x, X1⟩ : ∃ x, Hid (l[i]? = some x) := ⟨_, List.getElem?_eq_getElem (by rw [HLJ.out]; exact hlt)⟩
            obtain ⟨hx0, hx1⟩ := HOK.out.1 x (List.mem_of_getElem? X1.out)
            obtain ⟨y, rfl⟩ : ∃ y : Nat, x = (y : Int) := ⟨x.toNat, by omega⟩
            have hyn : y < n := by omega
            obtain ⟨t, T1⟩ : ∃ t, Hid (ts[y]? = some t) := ⟨_, List.getElem?_eq_getElem (by rw [HN.out]; exact hyn)⟩
            obtain ⟨bk, ok, a1, d1, a2, d2, a3, d3, hpa, hbw, k0, k1, k2, hT⟩ := HTS0.out.at T1.out
            subst hpa
            have hlc := HC.out t (List.mem_of_getElem? T1.out)
            have HCL := Lib.hid (fun (W : World) (hb : Below w.heap.size w W) => clone_ten (hT.below hb (Nat.le_refl _)) hb.size hlc.1 hlc.2.1 hlc.2.2)
            obtain ⟨mL, hmL⟩ : ∃ m, m = t.1.length := ⟨_, rfl⟩
            obtain ⟨mD, hmD⟩ : ∃ m, m = t.2.1.length := ⟨_, rfl⟩
            obtain ⟨mX, hmX⟩ : ∃ m, m = t.2.2.length := ⟨_, rfl⟩
            have HML := Lib.hid hmL
            have HMD := Lib.hid hmD
            have HMX := Lib.hid hmX
            rw [← hmL, ← hmD, ← hmX] at HCL
            rw [← hmL] at k0
            rw [← hmD] at k1
            rw [← hmX] at k2
            have HS13 : Hid (∀ W : World, Below w2.heap.size w2 W → (W.cell? ⟨g, 3, none⟩ = some (.slice (some ⟨bk, ok, none⟩) n cap) ∧ W.cell? ⟨bk, ok + y * 3, none⟩ = some (.slice a1 mL d1) ∧ W.cell? ⟨bk, ok + y * 3 + 1, none⟩ = some (.slice a2 mD d2) ∧ W.cell? ⟨bk, ok + y * 3 + 2, none⟩ = some (.slice a3 mX d3))) := Lib.hid (fun W hb => by
              have hbe := T2.out.bel.trans (hb.mono T2.out.bel.size)
              exact ⟨(hb.cell (p := ⟨g, 3, none⟩) HGL.out).trans HK0.out.2.2.2.1, (hbe.cell (p := ⟨bk, ok + y * 3, none⟩) hbw).trans k0, (hbe.cell (p := ⟨bk, ok + y * 3 + 1, none⟩) hbw).trans k1, (hbe.cell (p := ⟨bk, ok + y * 3 + 2, none⟩) hbw).trans k2⟩)
            have hlen : zs.length = i := by
              have h1 := congrArg List.length HZS.out
              unfold pickT at h1
              rw [List.length_map, List.length_map, List.length_take, HLJ.out] at h1
              omega
            have HLEN := Lib.hid hlen
            obtain ⟨bl, ol, rfl, -, el⟩ := (HV0.out.below (T2.out.bel.trans (HR.out.bel.mono T2.out.bel.size)) (Nat.le_refl _)).cellAt X1.out
            have hynI : (y : Int) < n := by omega
            clear hT hbw hlc hmL hmD hmX k0 k1 k2 hlen hx0 hx1
            go_wp2
            clear el
            have RX : Hid ((wr.drew.cell? ⟨g, 3, none⟩ = some (.slice (some ⟨bk, ok, none⟩) n cap) ∧ wr.drew.cell? ⟨bk, ok + y * 3, none⟩ = some (.slice a1 mL d1) ∧ wr.drew.cell? ⟨bk, ok + y * 3 + 1, none⟩ = some (.slice a2 mD d2) ∧ wr.drew.cell? ⟨bk, ok + y * 3 + 2, none⟩ = some (.slice a3 mX d3)) ∧ NetM M w2 wr.drew gs k p q (.slice ga i ct) (.slice p1 lo c1) (.slice ga i ct) (zs.map (·.1)) (rowsR zs) [(.slice p1 lo c1, OL)]) := Lib.hid ⟨HS13.out _ (HR.out.bel.trans ((Below.drew (Below.refl wr.heap.size wr)).mono HR.out.bel.size)), HR.out.step (Below.drew (Below.refl _ _))⟩
            clear HR
            refine wp_region_held_drew (S := (fun w' => w'.cell? ⟨g, 3, none⟩ = some (.slice (some ⟨bk, ok, none⟩) n cap) ∧ w'.cell? ⟨bk, ok + y * 3, none⟩ = some (.slice a1 mL d1) ∧ w'.cell? ⟨bk, ok + y * 3 + 1, none⟩ = some (.slice a2 mD d2) ∧ w'.cell? ⟨bk, ok + y * 3 + 2, none⟩ = some (.slice a3 mX d3))) (by kernel_rfl) (by (try dsimp only); with_reducible exact RX.out.1) (fun hHeld => ?_)
            obtain ⟨WX, hW⟩ : ∃ W, W = wr.drew := ⟨_, rfl⟩
            rw [← hW] at hHeld RX ⊢
            clear hW
            refine wpAnyH_take (i := 0) (v := ?_) rfl (by kernel_rfl) (by kernel_rfl) (by kernel_rfl) (fun _ _ _ h => h) (Or.inl ⟨by rfl, ?_⟩) (by assumption) ?_
            rotate_left
            · intro w hSw; (try dsimp only at hSw); go_simp <;> with_reducible rfl
            try simp only [Act.put, List.getElem_toArray, List.getElem_cons_zero, List.setIfInBounds_toArray, List.set_cons_zero, List.set_cons_succ]
            refine wpAnyH_take (i := 2) (v := ?_) rfl (by kernel_rfl) (by kernel_rfl) (by kernel_rfl) (fun _ _ _ h => h) (Or.inl ⟨by rfl, ?_⟩) (by assumption) ?_
            rotate_left
            · intro w hSw; (try dsimp only at hSw); go_simp <;> with_reducible rfl
            try simp only [Act.put, List.getElem_toArray, List.getElem_cons_succ, List.getElem_cons_zero, List.setIfInBounds_toArray, List.set_cons_zero, List.set_cons_succ]
            refine wpAnyH_take (i := 3) (v := ?_) rfl (by kernel_rfl) (by kernel_rfl) (by kernel_rfl) (fun _ _ _ h => h) (Or.inl ⟨by rfl, ?_⟩) (by assumption) ?_
            rotate_left
            · intro w hSw; (try dsimp only at hSw); go_simp <;> with_reducible rfl
            try simp only [Act.put, List.getElem_toArray, List.getElem_cons_succ, List.getElem_cons_zero, List.setIfInBounds_toArray, List.set_cons_zero, List.set_cons_succ]
            refine wpAnyH_take (i := 4) (v := ?_) rfl (by kernel_rfl) (by kernel_rfl) (by kernel_rfl) (fun _ _ _ h => h) (Or.inl ⟨by rfl, ?_⟩) (by assumption) ?_
            rotate_left
            · intro w hSw; (try dsimp only at hSw); go_simp <;> with_reducible rfl
            try simp only [Act.put, List.getElem_toArray, List.getElem_cons_succ, List.getElem_cons_zero, List.setIfInBounds_toArray, List.set_cons_zero, List.set_cons_succ]
            refine wpAnyH_take (i := 5) (v := ?_) rfl (by kernel_rfl) (by kernel_rfl) (by kernel_rfl) (fun _ _ _ h => h) (Or.inl ⟨by rfl, ?_⟩) (by assumption) ?_
            rotate_left
            · intro w hSw; (try dsimp only at hSw); go_simp <;> with_reducible rfl
            try simp only [Act.put, List.getElem_toArray, List.getElem_cons_succ, List.getElem_cons_zero, List.setIfInBounds_toArray, List.set_cons_zero, List.set_cons_succ]
            refine wpAnyH_take (i := 6) (v := ?_) rfl (by kernel_rfl) (by kernel_rfl) (by kernel_rfl) (fun _ _ _ h => h) (Or.inl ⟨by rfl, ?_⟩) (by assumption) ?_
            rotate_left
            · intro w hSw; (try dsimp only at hSw); go_simp <;> with_reducible rfl
            try simp only [Act.put, List.getElem_toArray, List.getElem_cons_succ, List.getElem_cons_zero, List.setIfInBounds_toArray, List.set_cons_zero, List.set_cons_succ]
            refine wpAnyH_take (i := 7) (v := ?_) rfl (by kernel_rfl) (by kernel_rfl) (by kernel_rfl) (fun _ _ _ h => h) (Or.inl ⟨by rfl, ?_⟩) (by assumption) ?_
            rotate_left
            · intro w hSw; (try dsimp only at hSw); go_simp <;> with_reducible rfl
            try simp only [Act.put, List.getElem_toArray, List.getElem_cons_succ, List.getElem_cons_zero, List.setIfInBounds_toArray, List.set_cons_zero, List.set_cons_succ]
            refine wpAnyH_take (i := 8) (v := ?_) rfl (by kernel_rfl) (by kernel_rfl) (by kernel_rfl) (fun _ _ _ h => h) (Or.inl ⟨by rfl, ?_⟩) (by assumption) ?_
            rotate_left
            · intro w hSw; (try dsimp only at hSw); go_simp <;> with_reducible rfl
            try simp only [Act.put, List.getElem_toArray, List.getElem_cons_succ, List.getElem_cons_zero, List.setIfInBounds_toArray, List.set_cons_zero, List.set_cons_succ]
            refine wpAnyH_take (i := 9) (v := ?_) rfl (by kernel_rfl) (by kernel_rfl) (by kernel_rfl) (fun _ _ _ h => h) (Or.inl ⟨by rfl, ?_⟩) (by assumption) ?_
            rotate_left
            · intro w hSw; (try dsimp only at hSw); go_simp <;> with_reducible rfl
            try simp only [Act.put, List.getElem_toArray, List.getElem_cons_succ, List.getElem_cons_zero, List.setIfInBounds_toArray, List.set_cons_zero, List.set_cons_succ]
            apply share10 (F := fun (q1 : Option Addr) (e1 : Nat) (q2 : Option Addr) (e2 : Nat) (q3 : Option Addr) (e3 : Nat) (gl : Nat) (gt : Nat) (cn : Nat) (WX : World) => Hid ((WX.cell? ⟨g, 3, none⟩ = some (.slice (some ⟨bk, ok, none⟩) n cap) ∧ WX.cell? ⟨bk, ok + y * 3, none⟩ = some (.slice a1 mL d1) ∧ WX.cell? ⟨bk, ok + y * 3 + 1, none⟩ = some (.slice a2 mD d2) ∧ WX.cell? ⟨bk, ok + y * 3 + 2, none⟩ = some (.slice a3 mX d3)) ∧ NetM M w2 WX gs k p q (.slice (some ⟨gt, 0, none⟩) (i + 1) cn) (.slice p1 lo c1) (.slice (some ⟨gt, 0, none⟩) (i + 1) cn) (zs.map (·.1) ++ [((.slice q1 mL e1, .slice q2 mD e2, .slice q3 mX e3) : TenW)]) ((.slice q1 mL e1, t.1) :: (.slice q2 mD e2, t.2.1) :: (.slice q3 mX e3, t.2.2) :: rowsR zs) [((.slice p1 lo c1), OL)]))
            intro K1_10_11_12_14
            apply share10 (F := fun (q1 : Option Addr) (e1 : Nat) (q2 : Option Addr) (e2 : Nat) (q3 : Option Addr) (e3 : Nat) (gl : Nat) (gt : Nat) (cn : Nat) (WX : World) => Hid ((WX.cell? ⟨g, 3, none⟩ = some (.slice (some ⟨bk, ok, none⟩) n cap) ∧ WX.cell? ⟨bk, ok + y * 3, none⟩ = some (.slice a1 mL d1) ∧ WX.cell? ⟨bk, ok + y * 3 + 1, none⟩ = some (.slice a2 mD d2) ∧ WX.cell? ⟨bk, ok + y * 3 + 2, none⟩ = some (.slice a3 mX d3)) ∧ NetM M w2 WX gs k p q (.slice ga i ct) (.slice p1 lo c1) (.slice (some ⟨gt, 0, none⟩) (i + 1) cn) (zs.map (·.1) ++ [((.slice q1 mL e1, .slice q2 mD e2, .slice q3 mX e3) : TenW)]) ((.slice q1 mL e1, t.1) :: (.slice q2 mD e2, t.2.1) :: (.slice q3 mX e3, t.2.2) :: rowsR zs) [((.slice p1 lo c1), OL)]))
            intro K1_10_11_12
            apply share8 (F := fun (q1 : Option Addr) (e1 : Nat) (q2 : Option Addr) (e2 : Nat) (q3 : Option Addr) (e3 : Nat) (gl : Nat) (WX : World) => Hid ((WX.cell? ⟨g, 3, none⟩ = some (.slice (some ⟨bk, ok, none⟩) n cap) ∧ WX.cell? ⟨bk, ok + y * 3, none⟩ = some (.slice a1 mL d1) ∧ WX.cell? ⟨bk, ok + y * 3 + 1, none⟩ = some (.slice a2 mD d2) ∧ WX.cell? ⟨bk, ok + y * 3 + 2, none⟩ = some (.slice a3 mX d3)) ∧ NetM M w2 WX gs k p q (.slice ga i ct) (.slice p1 lo c1) (.slice ga i ct) (zs.map (·.1)) ((.slice q1 mL e1, t.1) :: (.slice q2 mD e2, t.2.1) :: (.slice q3 mX e3, t.2.2) :: rowsR zs) [((.slice p1 lo c1), OL)] ∧ NewsAt WX gl [.slice q1 mL e1, .slice q2 mD e2, .slice q3 mX e3]))
            intro K1_10_11
            apply share7 (F := fun (q1 : Option Addr) (e1 : Nat) (q2 : Option Addr) (e2 : Nat) (q3 : Option Addr) (e3 : Nat) (WX : World) => Hid ((WX.cell? ⟨g, 3, none⟩ = some (.slice (some ⟨bk, ok, none⟩) n cap) ∧ WX.cell? ⟨bk, ok + y * 3, none⟩ = some (.slice a1 mL d1) ∧ WX.cell? ⟨bk, ok + y * 3 + 1, none⟩ = some (.slice a2 mD d2) ∧ WX.cell? ⟨bk, ok + y * 3 + 2, none⟩ = some (.slice a3 mX d3)) ∧ NetM M w2 WX gs k p q (.slice ga i ct) (.slice p1 lo c1) (.slice ga i ct) (zs.map (·.1)) ((.slice q1 mL e1, t.1) :: (.slice q2 mD e2, t.2.1) :: (.slice q3 mX e3, t.2.2) :: rowsR zs) [((.slice p1 lo c1), OL)]))
            intro K1_10
            apply share8 (F := fun (q1 : Option Addr) (e1 : Nat) (q2 : Option Addr) (e2 : Nat) (q3 : Option Addr) (e3 : Nat) (gl : Nat) (WX : World) => Hid ((WX.cell? ⟨g, 3, none⟩ = some (.slice (some ⟨bk, ok, none⟩) n cap) ∧ WX.cell? ⟨bk, ok + y * 3, none⟩ = some (.slice a1 mL d1) ∧ WX.cell? ⟨bk, ok + y * 3 + 1, none⟩ = some (.slice a2 mD d2) ∧ WX.cell? ⟨bk, ok + y * 3 + 2, none⟩ = some (.slice a3 mX d3)) ∧ NetM M w2 WX gs k p q (.slice ga i ct) (.slice p1 lo c1) (.slice ga i ct) (zs.map (·.1)) ((.slice q1 mL e1, t.1) :: (.slice q2 mD e2, t.2.1) :: (.slice q3 mX e3, t.2.2) :: rowsR zs) [((.slice p1 lo c1), OL)] ∧ NewsAt WX gl [.slice q1 mL e1, .slice q2 mD e2, .slice q3 mX e3]))
            intro K10_11
            apply share1 (F := fun (WX : World) => Hid ((WX.cell? ⟨g, 3, none⟩ = some (.slice (some ⟨bk, ok, none⟩) n cap) ∧ WX.cell? ⟨bk, ok + y * 3, none⟩ = some (.slice a1 mL d1) ∧ WX.cell? ⟨bk, ok + y * 3 + 1, none⟩ = some (.slice a2 mD d2) ∧ WX.cell? ⟨bk, ok + y * 3 + 2, none⟩ = some (.slice a3 mX d3)) ∧ NetM M w2 WX gs k p q (.slice ga i ct) (.slice p1 lo c1) (.slice ga i ct) (zs.map (·.1)) (rowsR zs) [((.slice p1 lo c1), OL)]))
            intro K1
            apply share7 (F := fun (q1 : Option Addr) (e1 : Nat) (q2 : Option Addr) (e2 : Nat) (q3 : Option Addr) (e3 : Nat) (WX : World) => Hid ((WX.cell? ⟨g, 3, none⟩ = some (.slice (some ⟨bk, ok, none⟩) n cap) ∧ WX.cell? ⟨bk, ok + y * 3, none⟩ = some (.slice a1 mL d1) ∧ WX.cell? ⟨bk, ok + y * 3 + 1, none⟩ = some (.slice a2 mD d2) ∧ WX.cell? ⟨bk, ok + y * 3 + 2, none⟩ = some (.slice a3 mX d3)) ∧ NetM M w2 WX gs k p q (.slice ga i ct) (.slice p1 lo c1) (.slice ga i ct) (zs.map (·.1)) ((.slice q1 mL e1, t.1) :: (.slice q2 mD e2, t.2.1) :: (.slice q3 mX e3, t.2.2) :: rowsR zs) [((.slice p1 lo c1), OL)]))
            intro K10
            focus
              refine wpAnyH_ready (rs := [1, 10]) (by kernel_rfl) (by simp) ?_
              refine AllReadyH.cons rfl (fun K hK => ?_) (AllReadyH.cons rfl (fun K hK => ?_) AllReadyH.nil)
              focus
                (have t3 := RX.out.2.n.b5.c3; go_simp; clear t3)
                refine hK.out _ _ (by (try dsimp only); with_reducible exact RX.out.1) (fun hHeld => ?_)
                clear hK K
                try simp only [Act.put, List.getElem_toArray, List.getElem_cons_succ, List.getElem_cons_zero, List.setIfInBounds_toArray, List.set_cons_zero, List.set_cons_succ]
                exact K1.out WX RX
              focus
                (go_simp; refine (HCL.out WX (T2.out.bel.trans (RX.out.2.bel.mono T2.out.bel.size))).mono ?_; rintro e WY ⟨v1, v2, v3, rfl, ho, hb⟩; obtain ⟨q1, e1, rfl, -⟩ := ints_form ho.rows.1.rd; obtain ⟨q2, e2, rfl, -⟩ := ints_form ho.rows.2.1.rd; obtain ⟨q3, e3, rfl, -⟩ := ints_form ho.rows.2.2.rd; rw [← HML.out, ← HMD.out, ← HMX.out] at ho ⊢; have RY := RX.out.2.new3 hb ho; clear ho hb; replace RX : Hid ((WY.cell? ⟨g, 3, none⟩ = some (.slice (some ⟨bk, ok, none⟩) n cap) ∧ WY.cell? ⟨bk, ok + y * 3, none⟩ = some (.slice a1 mL d1) ∧ WY.cell? ⟨bk, ok + y * 3 + 1, none⟩ = some (.slice a2 mD d2) ∧ WY.cell? ⟨bk, ok + y * 3 + 2, none⟩ = some (.slice a3 mX d3)) ∧ NetM M w2 WY gs k p q (.slice ga i ct) (.slice p1 lo c1) (.slice ga i ct) (zs.map (·.1)) ((.slice q1 mL e1, t.1) :: (.slice q2 mD e2, t.2.1) :: (.slice q3 mX e3, t.2.2) :: rowsR zs) [((.slice p1 lo c1), OL)]) := Lib.hid ⟨HS13.out _ RY.bel, RY⟩; clear RY; obtain ⟨WX, hW⟩ : ∃ W, W = WY := ⟨_, rfl⟩; rw [← hW] at RX ⊢; clear hW; change K _ _)
                refine hK.out _ _ (by (try dsimp only); with_reducible exact RX.out.1) (fun hHeld => ?_)
                clear hK K
                try simp only [Act.put, List.getElem_toArray, List.getElem_cons_succ, List.getElem_cons_zero, List.setIfInBounds_toArray, List.set_cons_zero, List.set_cons_succ]
                exact K10.out q1 e1 q2 e2 q3 e3 WX RX
            focus
              intro q1 e1 q2 e2 q3 e3 WX RX
              have hHeld : ((fun w' => w'.cell? ⟨g, 3, none⟩ = some (.slice (some ⟨bk, ok, none⟩) n cap) ∧ w'.cell? ⟨bk, ok + y * 3, none⟩ = some (.slice a1 mL d1) ∧ w'.cell? ⟨bk, ok + y * 3 + 1, none⟩ = some (.slice a2 mD d2) ∧ w'.cell? ⟨bk, ok + y * 3 + 2, none⟩ = some (.slice a3 mX d3))) WX := by (try dsimp only); with_reducible exact RX.out.1
              refine wpAnyH_ready (rs := [1, 11]) (by kernel_rfl) (by simp) ?_
              refine AllReadyH.cons rfl (fun K hK => ?_) (AllReadyH.cons rfl (fun K hK => ?_) AllReadyH.nil)
              focus
                (have t3 := RX.out.2.n.b5.c3; go_simp; clear t3)
                refine hK.out _ _ (by (try dsimp only); with_reducible exact RX.out.1) (fun hHeld => ?_)
                clear hK K
                try simp only [Act.put, List.getElem_toArray, List.getElem_cons_succ, List.getElem_cons_zero, List.setIfInBounds_toArray, List.set_cons_zero, List.set_cons_succ]
                exact K1_10.out q1 e1 q2 e2 q3 e3 WX RX
              focus
                (go_simp; have NW := NewsAt.new WX (.slice q1 mL e1) (.slice q2 mD e2) (.slice q3 mX e3) 55; have RY := RX.out.2.step ((Below.refl _ _).alloc (Nat.le_refl _) (.cells #[.slice q1 mL e1, .slice q2 mD e2, .slice q3 mX e3] 55)); obtain ⟨WY, hW⟩ : ∃ WY, WY = WX.alloc (.cells #[.slice q1 mL e1, .slice q2 mD e2, .slice q3 mX e3] 55) := ⟨_, rfl⟩; obtain ⟨gl, hg⟩ : ∃ z, z = WX.heap.size := ⟨_, rfl⟩; rw [← hW] at RY NW ⊢; rw [← hg] at NW; (try rw [← hg]); clear hW hg; replace RX : Hid ((WY.cell? ⟨g, 3, none⟩ = some (.slice (some ⟨bk, ok, none⟩) n cap) ∧ WY.cell? ⟨bk, ok + y * 3, none⟩ = some (.slice a1 mL d1) ∧ WY.cell? ⟨bk, ok + y * 3 + 1, none⟩ = some (.slice a2 mD d2) ∧ WY.cell? ⟨bk, ok + y * 3 + 2, none⟩ = some (.slice a3 mX d3)) ∧ NetM M w2 WY gs k p q (.slice ga i ct) (.slice p1 lo c1) (.slice ga i ct) (zs.map (·.1)) ((.slice q1 mL e1, t.1) :: (.slice q2 mD e2, t.2.1) :: (.slice q3 mX e3, t.2.2) :: rowsR zs) [((.slice p1 lo c1), OL)] ∧ NewsAt WY gl [.slice q1 mL e1, .slice q2 mD e2, .slice q3 mX e3]) := Lib.hid ⟨HS13.out _ RY.bel, RY, NW⟩; clear RY; obtain ⟨WX, hW⟩ : ∃ W, W = WY := ⟨_, rfl⟩; rw [← hW] at RX ⊢; clear hW; clear NW)
                refine hK.out _ _ (by (try dsimp only); with_reducible exact RX.out.1) (fun hHeld => ?_)
                clear hK K
                try simp only [Act.put, List.getElem_toArray, List.getElem_cons_succ, List.getElem_cons_zero, List.setIfInBounds_toArray, List.set_cons_zero, List.set_cons_succ]
                exact K10_11.out q1 e1 q2 e2 q3 e3 gl WX RX
            focus
              intro WX RX
              have hHeld : ((fun w' => w'.cell? ⟨g, 3, none⟩ = some (.slice (some ⟨bk, ok, none⟩) n cap) ∧ w'.cell? ⟨bk, ok + y * 3, none⟩ = some (.slice a1 mL d1) ∧ w'.cell? ⟨bk, ok + y * 3 + 1, none⟩ = some (.slice a2 mD d2) ∧ w'.cell? ⟨bk, ok + y * 3 + 2, none⟩ = some (.slice a3 mX d3))) WX := by (try dsimp only); with_reducible exact RX.out.1
              refine wpAnyH_ready (rs := [10]) (by kernel_rfl) (by simp) ?_
              refine AllReadyH.cons rfl (fun K hK => ?_) AllReadyH.nil
              focus
                (go_simp; refine (HCL.out WX (T2.out.bel.trans (RX.out.2.bel.mono T2.out.bel.size))).mono ?_; rintro e WY ⟨v1, v2, v3, rfl, ho, hb⟩; obtain ⟨q1, e1, rfl, -⟩ := ints_form ho.rows.1.rd; obtain ⟨q2, e2, rfl, -⟩ := ints_form ho.rows.2.1.rd; obtain ⟨q3, e3, rfl, -⟩ := ints_form ho.rows.2.2.rd; rw [← HML.out, ← HMD.out, ← HMX.out] at ho ⊢; have RY := RX.out.2.new3 hb ho; clear ho hb; replace RX : Hid ((WY.cell? ⟨g, 3, none⟩ = some (.slice (some ⟨bk, ok, none⟩) n cap) ∧ WY.cell? ⟨bk, ok + y * 3, none⟩ = some (.slice a1 mL d1) ∧ WY.cell? ⟨bk, ok + y * 3 + 1, none⟩ = some (.slice a2 mD d2) ∧ WY.cell? ⟨bk, ok + y * 3 + 2, none⟩ = some (.slice a3 mX d3)) ∧ NetM M w2 WY gs k p q (.slice ga i ct) (.slice p1 lo c1) (.slice ga i ct) (zs.map (·.1)) ((.slice q1 mL e1, t.1) :: (.slice q2 mD e2, t.2.1) :: (.slice q3 mX e3, t.2.2) :: rowsR zs) [((.slice p1 lo c1), OL)]) := Lib.hid ⟨HS13.out _ RY.bel, RY⟩; clear RY; obtain ⟨WX, hW⟩ : ∃ W, W = WY := ⟨_, rfl⟩; rw [← hW] at RX ⊢; clear hW; change K _ _)
                refine hK.out _ _ (by (try dsimp only); with_reducible exact RX.out.1) (fun hHeld => ?_)
                clear hK K
                try simp only [Act.put, List.getElem_toArray, List.getElem_cons_succ, List.getElem_cons_zero, List.setIfInBounds_toArray, List.set_cons_zero, List.set_cons_succ]
                exact wpAnyH_listed (by kernel_rfl) (K1_10.out q1 e1 q2 e2 q3 e3 WX RX)
            focus
              intro q1 e1 q2 e2 q3 e3 gl WX RX
              have hHeld : ((fun w' => w'.cell? ⟨g, 3, none⟩ = some (.slice (some ⟨bk, ok, none⟩) n cap) ∧ w'.cell? ⟨bk, ok + y * 3, none⟩ = some (.slice a1 mL d1) ∧ w'.cell? ⟨bk, ok + y * 3 + 1, none⟩ = some (.slice a2 mD d2) ∧ w'.cell? ⟨bk, ok + y * 3 + 2, none⟩ = some (.slice a3 mX d3))) WX := by (try dsimp only); with_reducible exact RX.out.1
              refine wpAnyH_ready (rs := [1]) (by kernel_rfl) (by simp) ?_
              refine AllReadyH.cons rfl (fun K hK => ?_) AllReadyH.nil
              focus
                (have t3 := RX.out.2.1.n.b5.c3; go_simp; clear t3)
                refine hK.out _ _ (by (try dsimp only); with_reducible exact RX.out.1) (fun hHeld => ?_)
                clear hK K
                try simp only [Act.put, List.getElem_toArray, List.getElem_cons_succ, List.getElem_cons_zero, List.setIfInBounds_toArray, List.set_cons_zero, List.set_cons_succ]
                exact K1_10_11.out q1 e1 q2 e2 q3 e3 gl WX RX
            focus
              intro q1 e1 q2 e2 q3 e3 WX RX
              have hHeld : ((fun w' => w'.cell? ⟨g, 3, none⟩ = some (.slice (some ⟨bk, ok, none⟩) n cap) ∧ w'.cell? ⟨bk, ok + y * 3, none⟩ = some (.slice a1 mL d1) ∧ w'.cell? ⟨bk, ok + y * 3 + 1, none⟩ = some (.slice a2 mD d2) ∧ w'.cell? ⟨bk, ok + y * 3 + 2, none⟩ = some (.slice a3 mX d3))) WX := by (try dsimp only); with_reducible exact RX.out.1
              refine wpAnyH_ready (rs := [11]) (by kernel_rfl) (by simp) ?_
              refine AllReadyH.cons rfl (fun K hK => ?_) AllReadyH.nil
              focus
                (go_simp; have NW := NewsAt.new WX (.slice q1 mL e1) (.slice q2 mD e2) (.slice q3 mX e3) 55; have RY := RX.out.2.step ((Below.refl _ _).alloc (Nat.le_refl _) (.cells #[.slice q1 mL e1, .slice q2 mD e2, .slice q3 mX e3] 55)); obtain ⟨WY, hW⟩ : ∃ WY, WY = WX.alloc (.cells #[.slice q1 mL e1, .slice q2 mD e2, .slice q3 mX e3] 55) := ⟨_, rfl⟩; obtain ⟨gl, hg⟩ : ∃ z, z = WX.heap.size := ⟨_, rfl⟩; rw [← hW] at RY NW ⊢; rw [← hg] at NW; (try rw [← hg]); clear hW hg; replace RX : Hid ((WY.cell? ⟨g, 3, none⟩ = some (.slice (some ⟨bk, ok, none⟩) n cap) ∧ WY.cell? ⟨bk, ok + y * 3, none⟩ = some (.slice a1 mL d1) ∧ WY.cell? ⟨bk, ok + y * 3 + 1, none⟩ = some (.slice a2 mD d2) ∧ WY.cell? ⟨bk, ok + y * 3 + 2, none⟩ = some (.slice a3 mX d3)) ∧ NetM M w2 WY gs k p q (.slice ga i ct) (.slice p1 lo c1) (.slice ga i ct) (zs.map (·.1)) ((.slice q1 mL e1, t.1) :: (.slice q2 mD e2, t.2.1) :: (.slice q3 mX e3, t.2.2) :: rowsR zs) [((.slice p1 lo c1), OL)] ∧ NewsAt WY gl [.slice q1 mL e1, .slice q2 mD e2, .slice q3 mX e3]) := Lib.hid ⟨HS13.out _ RY.bel, RY, NW⟩; clear RY; obtain ⟨WX, hW⟩ : ∃ W, W = WY := ⟨_, rfl⟩; rw [← hW] at RX ⊢; clear hW; clear NW)
                refine hK.out _ _ (by (try dsimp only); with_reducible exact RX.out.1) (fun hHeld => ?_)
                clear hK K
                try simp only [Act.put, List.getElem_toArray, List.getElem_cons_succ, List.getElem_cons_zero, List.setIfInBounds_toArray, List.set_cons_zero, List.set_cons_succ]
                exact wpAnyH_listed (by kernel_rfl) (K1_10_11.out q1 e1 q2 e2 q3 e3 gl WX RX)
            focus
              intro q1 e1 q2 e2 q3 e3 gl WX RX
              have hHeld : ((fun w' => w'.cell? ⟨g, 3, none⟩ = some (.slice (some ⟨bk, ok, none⟩) n cap) ∧ w'.cell? ⟨bk, ok + y * 3, none⟩ = some (.slice a1 mL d1) ∧ w'.cell? ⟨bk, ok + y * 3 + 1, none⟩ = some (.slice a2 mD d2) ∧ w'.cell? ⟨bk, ok + y * 3 + 2, none⟩ = some (.slice a3 mX d3))) WX := by (try dsimp only); with_reducible exact RX.out.1
              refine wpAnyH_ready (rs := [12]) (by kernel_rfl) (by simp) ?_
              refine AllReadyH.cons rfl (fun K hK => ?_) AllReadyH.nil
              focus
                (have O1 : WX.ownsRow w2.heap.size 55 3 (.slice ga i ct) i (cells3 (zs.map (·.1))) := (by have h1 := RX.out.2.1.n.t.own; rwa [List.length_map, HLEN.out] at h1); refine step_append_lies _ rfl (.tmp 51) (.tmp 61) 31 rfl w2.heap.size 55 i1 (.agg #[.slice none 0 0, .slice none 0 0, .slice none 0 0]) 3 72 Try.underlying31 I0.out I1.out I2.out I3.out rfl (by decide) (.slice ga i ct) i (cells3 (zs.map (·.1))) rfl O1 ⟨gl, 0, none⟩ 1 1 [.slice q1 mL e1, .slice q2 mD e2, .slice q3 mX e3] rfl rfl RX.out.2.2 (by intro u hu; simp at hu; rcases hu with rfl | rfl | rfl <;> rfl) (by decide) (by unfold maxLen; omega) (by omega) RX.out.2.1.bel.size _ rfl ?_; intro gt cn WY hown hgrow hl _; have RY := RX.out.2.1.app (u := ((.slice q1 mL e1, .slice q2 mD e2, .slice q3 mX e3) : TenW)) (n := i) (by rw [List.length_map, HLEN.out]) hown hgrow hl; clear hown hgrow hl O1; replace RX : Hid ((WY.cell? ⟨g, 3, none⟩ = some (.slice (some ⟨bk, ok, none⟩) n cap) ∧ WY.cell? ⟨bk, ok + y * 3, none⟩ = some (.slice a1 mL d1) ∧ WY.cell? ⟨bk, ok + y * 3 + 1, none⟩ = some (.slice a2 mD d2) ∧ WY.cell? ⟨bk, ok + y * 3 + 2, none⟩ = some (.slice a3 mX d3)) ∧ NetM M w2 WY gs k p q (.slice ga i ct) (.slice p1 lo c1) (.slice (some ⟨gt, 0, none⟩) (i + 1) cn) (zs.map (·.1) ++ [((.slice q1 mL e1, .slice q2 mD e2, .slice q3 mX e3) : TenW)]) ((.slice q1 mL e1, t.1) :: (.slice q2 mD e2, t.2.1) :: (.slice q3 mX e3, t.2.2) :: rowsR zs) [((.slice p1 lo c1), OL)]) := Lib.hid ⟨HS13.out _ RY.bel, RY⟩; clear RY; obtain ⟨WX, hW⟩ : ∃ W, W = WY := ⟨_, rfl⟩; rw [← hW] at RX ⊢; clear hW)
                refine hK.out _ _ (by (try dsimp only); with_reducible exact RX.out.1) (fun hHeld => ?_)
                clear hK K
                try simp only [Act.put, List.getElem_toArray, List.getElem_cons_succ, List.getElem_cons_zero, List.setIfInBounds_toArray, List.set_cons_zero, List.set_cons_succ]
                refine wpAnyH_take (i := 13) (v := ?_) rfl (by kernel_rfl) (by kernel_rfl) (by kernel_rfl) (fun _ _ _ h => h) (Or.inl ⟨by rfl, ?_⟩) (by assumption) ?_
                rotate_left
                · intro w hSw; (try dsimp only at hSw); go_simp <;> with_reducible rfl
                try simp only [Act.put, List.getElem_toArray, List.getElem_cons_succ, List.getElem_cons_zero, List.setIfInBounds_toArray, List.set_cons_zero, List.set_cons_succ]
                exact K1_10_11_12.out q1 e1 q2 e2 q3 e3 gl gt cn WX RX
            focus
              intro q1 e1 q2 e2 q3 e3 gl gt cn WX RX
              have hHeld : ((fun w' => w'.cell? ⟨g, 3, none⟩ = some (.slice (some ⟨bk, ok, none⟩) n cap) ∧ w'.cell? ⟨bk, ok + y * 3, none⟩ = some (.slice a1 mL d1) ∧ w'.cell? ⟨bk, ok + y * 3 + 1, none⟩ = some (.slice a2 mD d2) ∧ w'.cell? ⟨bk, ok + y * 3 + 2, none⟩ = some (.slice a3 mX d3))) WX := by (try dsimp only); with_reducible exact RX.out.1
              refine wpAnyH_ready (rs := [14]) (by kernel_rfl) (by simp) ?_
              refine AllReadyH.cons rfl (fun K hK => ?_) AllReadyH.nil
              focus
                (obtain ⟨-, -, -, t3, -, fr, -⟩ := RX.out.2.n.b5; have fr3 := fr 3; clear fr; go_simp; have RY := RX.out.2.putT; obtain ⟨WY, hW⟩ : ∃ WY, WY = WX.setCell ⟨gs, 3, none⟩ (.slice (some ⟨gt, 0, none⟩) (i + 1) cn) := ⟨_, rfl⟩; rw [← hW] at RY ⊢; clear hW t3 fr3; replace RX : Hid ((WY.cell? ⟨g, 3, none⟩ = some (.slice (some ⟨bk, ok, none⟩) n cap) ∧ WY.cell? ⟨bk, ok + y * 3, none⟩ = some (.slice a1 mL d1) ∧ WY.cell? ⟨bk, ok + y * 3 + 1, none⟩ = some (.slice a2 mD d2) ∧ WY.cell? ⟨bk, ok + y * 3 + 2, none⟩ = some (.slice a3 mX d3)) ∧ NetM M w2 WY gs k p q (.slice (some ⟨gt, 0, none⟩) (i + 1) cn) (.slice p1 lo c1) (.slice (some ⟨gt, 0, none⟩) (i + 1) cn) (zs.map (·.1) ++ [((.slice q1 mL e1, .slice q2 mD e2, .slice q3 mX e3) : TenW)]) ((.slice q1 mL e1, t.1) :: (.slice q2 mD e2, t.2.1) :: (.slice q3 mX e3, t.2.2) :: rowsR zs) [((.slice p1 lo c1), OL)]) := Lib.hid ⟨HS13.out _ RY.bel, RY⟩; clear RY; obtain ⟨WX, hW⟩ : ∃ W, W = WY := ⟨_, rfl⟩; rw [← hW] at RX ⊢; clear hW)
                refine hK.out _ _ (by (try dsimp only); with_reducible exact RX.out.1) (fun hHeld => ?_)
                clear hK K
                try simp only [Act.put, List.getElem_toArray, List.getElem_cons_succ, List.getElem_cons_zero, List.setIfInBounds_toArray, List.set_cons_zero, List.set_cons_succ]
                exact K1_10_11_12_14.out q1 e1 q2 e2 q3 e3 gl gt cn WX RX
            intro q1 e1 q2 e2 q3 e3 gl gt cn WX RX
            refine wpAnyH_done (by kernel_rfl) ?_ _
-- 7 states
            have T10 : Hid (NetM M w2 WX gs k p q (.slice (some ⟨gt, 0, none⟩) (i + 1) cn) (.slice p1 lo c1) (.slice (some ⟨gt, 0, none⟩) (i + 1) cn) ((zs ++ [(((.slice q1 mL e1, .slice q2 mD e2, .slice q3 mX e3) : TenW), t)]).map (·.1)) (rowsR (zs ++ [(((.slice q1 mL e1, .slice q2 mD e2, .slice q3 mX e3) : TenW), t)])) [(.slice p1 lo c1, OL)]) := Lib.hid (by
              rw [List.map_append, rowsR_snoc]
              exact RX.out.2)
            have HZ2 : Hid ((zs ++ [(((.slice q1 mL e1, .slice q2 mD e2, .slice q3 mX e3) : TenW), t)]).map (·.2) = pickT ts (l.take (i + 1))) := Lib.hid (by
              rw [List.map_append, HZS.out, pickT_snoc ts l X1.out T1.out]
              rfl)
            clear RX hHeld
            go_wp2
            go_roundw
            case rel => exact ⟨i + 1, cn, some ⟨gt, 0, none⟩, _, by omega, by go_num, HZ2, T10⟩
            case measure => simp [intOf]; omega
          · obtain rfl : i = j := by omega
            have e2 : l.take i = l := List.take_of_length_le (by rw [HLJ.out]; exact Nat.le_refl _)
            rw [e2] at HZS
            have OT := Lib.hid HR.out.ownTs
            rw [HZS.out] at OT
            have OO := Lib.hid (HR.out.n.t.rs.own1 (v := .slice p1 lo c1) (xs := OL) (by simp))
            have T9 := Lib.hid (T2.out.step HR.out.bel)
            have HLE := Lib.hid HR.out.le
            have HRB := Lib.hid T2.out.r.lt
            obtain ⟨b0, b1, b2, b3, b4, -⟩ := HR.out.n.b5
            obtain ⟨t0, t1, t2, t3, t4, fr, -⟩ := T9.out.r
            have fr0 := fr 0
            have fr1 := fr 1
            have fr2 := fr 2
            have fr3 := fr 3
            have fr4 := fr 4
            clear fr e2 hlt HR
            go_wp2
            refine bodyPost_ret (v := .tuple #[netV k p q (.slice ga i ct) (.slice p1 lo c1), .bool true]) (by simp [results, Try.results40, go_sem, t0, t1, t2, t3, t4]) rfl ?_
            have hM : w2.heap.size ≤ M := by rw [HM1.out.1]; exact HM1.out.2.size
            have hw := T2.out.bel.size
            have hrb := HRB.out
            have O2 : Own wr w2.heap.size M (.slice p1 lo c1) OL := own_narrow OO.out (Nat.le_refl _) HOV.out.2 HLE.out
            refine .inl ⟨HYES.out, _, _, rfl, ⟨M, by omega, ?_, ?_, ?_⟩, below_put5 T9.out.bel (by omega) _ _ _ _ _⟩
            · simpa using HLE.out
            · have h1 := O2.put5 (b := w.heap.size + 1) hrb (.int .i64 k) (.int .i64 p) (.int .i64 q) (.slice ga i ct) (.slice p1 lo c1)
              rw [← HS.out, ← HOL.out]
              exact own_narrow h1 hw (fun g' e => h1.2.1 g' e) (by simpa using HLE.out)
            · have h1 := OT.out.put5 (b := w.heap.size + 1) (by omega) (.int .i64 k) (.int .i64 p) (.int .i64 q) (.slice ga i ct) (.slice p1 lo c1)
              simpa [put5] using h1
    · have HX : Hid (¬ SubOk k p q ts O l) := Lib.hid (fun h => hok (by have := h.2.1; rwa [HN.out] at this))
      rw [subB_false hok, if_neg (by simp)] at HCH
      clear hok
      go_wp2_with fail
      refine HCH.out.mono ?_
      clear HCH
      rintro e w3 ⟨rfl, rfl⟩
      have T9 := T2
      obtain ⟨t0, t1, t2, t3, t4, fr, -⟩ := T9.out.r
      have fr0 := fr 0
      have fr1 := fr 1
      have fr2 := fr 2
      have fr3 := fr 3
      have fr4 := fr 4
      clear fr
      go_wp2
      refine bodyPost_ret (v := .tuple #[netV 0 0 0 nilV nilV, .bool false]) (by simp [results, Try.results40, go_sem, t0, t1, t2, t3, t4]) rfl ?_
      exact .inr ⟨HX.out, rfl, below_put5 T9.out.bel (by omega) _ _ _ _ _⟩
  · have HX : Hid (¬ SubOk k p q ts O l) := Lib.hid (fun h => hnv h.1)
    have T9 := Lib.hid (HN2.out.step hb2)
    obtain ⟨t0, t1, t2, t3, t4, fr, -⟩ := T9.out.r
    have fr0 := fr 0
    have fr1 := fr 1
    have fr2 := fr 2
    have fr3 := fr 3
    have fr4 := fr 4
    clear fr hnv hb2
    go_wp2
    refine bodyPost_ret (v := .tuple #[netV 0 0 0 nilV nilV, .bool false]) (by simp [results, Try.results40, go_sem, t0, t1, t2, t3, t4]) rfl ?_
    exact .inr ⟨HX.out, rfl, below_put5 T9.out.bel (by omega) _ _ _ _ _⟩
end Go.Proofs.Ytdheakjjnaifkaa
