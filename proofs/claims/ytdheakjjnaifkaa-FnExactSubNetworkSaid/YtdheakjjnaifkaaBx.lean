
/- What a law's walk carries: cells of boxes, lists that are read, groups of rows of the call's own. -/
import Derived.Test.YtdheakjjnaifkaaTensorOk
import Derived.Test.YtdheakjjnaifkaaLawKit
namespace Go.Proofs.Ytdheakjjnaifkaa
set_option maxRecDepth 20000
open Go.RowKit

/-- No two of these rows lie in one block. -/
def ApartG (rows : List (Value × List Int)) : Prop := rows.Pairwise (fun a b => ∀ g, a.1.ownBlock = some g → b.1.ownBlock ≠ some g)
/-- The rows of a group: of the call's own, in blocks from lo to hi, no two in one. -/
def OwnG (w : World) (lo hi : Nat) (rows : List (Value × List Int)) : Prop := (∀ r ∈ rows, Own w lo hi r.1 r.2) ∧ ApartG rows
theorem OwnG.below {w w' : World} {lo hi B : Nat} {rows : List (Value × List Int)} (h : OwnG w lo hi rows) (hb : Below B w w') (hB : w.heap.size ≤ B) : OwnG w' lo hi rows := ⟨fun r hr => (h.1 r hr).below hb hB, h.2⟩
theorem OwnG.kept {w w' : World} {lo hi l h' : Nat} {rows : List (Value × List Int)} (h : OwnG w lo hi rows) (hk : KeptOut w w' l h') (hd : hi ≤ l ∨ h' ≤ lo) : OwnG w' lo hi rows :=
  ⟨fun r hr => by
    have ho := h.1 r hr
    refine ⟨?_, ho.2.1, Nat.le_trans ho.2.2 hk.2.2.2.1⟩
    have hsame : ∀ g, r.1.ownBlock = some g → w'.heap[g]? = w.heap[g]? := fun g hg => hk.2.2.2.2 g (by have := ho.2.1 g hg; have := ho.2.2; omega) (by have := ho.2.1 g hg; have := ho.lo g hg; omega)
    have hrow := ho.1
    have hlt := hrow.lt
    refine ⟨hrow.1, ?_⟩
    rcases hrow.2 with hn | ⟨g, cap, cur, e, h1, h2, h3⟩
    · exact .inl hn
    · exact .inr ⟨g, cap, cur, e, h1, by rw [hsame g (by rw [e]; rfl)]; exact h2, h3⟩, h.2⟩
theorem OwnG.wide {w : World} {lo hi lo' hi' : Nat} {rows : List (Value × List Int)} (h : OwnG w lo hi rows) (h1 : lo' ≤ lo) (h2 : hi ≤ hi') (h3 : hi' ≤ w.heap.size) : OwnG w lo' hi' rows :=
  ⟨fun r hr => ⟨⟨(h.1 r hr).1.1, (h.1 r hr).1.2.imp id (fun ⟨g, cap, cur, e, hb, q⟩ => ⟨g, cap, cur, e, Nat.le_trans h1 hb, q⟩)⟩, fun g hg => Nat.lt_of_lt_of_le ((h.1 r hr).2.1 g hg) h2, h3⟩, h.2⟩

abbrev Grp := Nat × Nat × List (Value × List Int)
structure St (w0 w : World) (S : List (Nat × Nat × Value)) (R : List (Value × List Int)) (O : List Grp) : Prop where
  bel : Below w0.heap.size w0 w
  cells : CellsAt w S
  lt : ∀ x ∈ S, x.1 < w.heap.size
  rd : ∀ r ∈ R, Rd w0.heap.size w r.1 (ints r.2)
  own : ∀ g ∈ O, w0.heap.size ≤ g.1 ∧ g.2.1 ≤ w.heap.size ∧ OwnG w g.1 g.2.1 g.2.2
  dis : O.Pairwise (fun a b => b.2.1 ≤ a.1 ∨ a.2.1 ≤ b.1)
  box : ∀ g ∈ O, ∀ x ∈ S, x.1 < g.1 ∨ g.2.1 ≤ x.1
variable {w0 w w' : World} {S : List (Nat × Nat × Value)} {R : List (Value × List Int)} {O : List Grp}
theorem St.start (w : World) {R : List (Value × List Int)} (h : ∀ r ∈ R, Rd w.heap.size w r.1 (ints r.2)) : St w w [] R [] :=
  ⟨Below.refl _ _, trivial, fun x hx => by simp at hx, h, fun g hg => by simp at hg, List.Pairwise.nil, fun g hg => by simp at hg⟩
theorem St.step (h : St w0 w S R O) (hb : Below w.heap.size w w') : St w0 w' S R O :=
  ⟨h.bel.trans (hb.mono h.bel.size), h.cells.below hb h.lt, fun x hx => Nat.lt_of_lt_of_le (h.lt x hx) hb.size, fun r hr => (h.rd r hr).below hb h.bel.size,
    fun g hg => ⟨(h.own g hg).1, Nat.le_trans (h.own g hg).2.1 hb.size, (h.own g hg).2.2.below hb (Nat.le_refl _)⟩, h.dis, h.box⟩
theorem St.drewN (h : St w0 w S R O) (q : Nat) : St w0 (w.drewN q) S R O := h.step (below_drewN (Below.refl _ _) q)
theorem St.drew (h : St w0 w S R O) : St w0 w.drew S R O := h.drewN 1
theorem St.box3 (h : St w0 w S R O) (x y z : Value) (T : TypeId) : St w0 (w.alloc (.cells #[x, y, z] T)) ((w.heap.size, 0, x) :: (w.heap.size, 1, y) :: (w.heap.size, 2, z) :: S) R O := by
  have hs := h.step ((Below.refl _ _).alloc (Nat.le_refl _) (.cells #[x, y, z] T))
  refine ⟨hs.bel, ⟨by simp [World.cell?_alloc_at], by simp [World.cell?_alloc_at], by simp [World.cell?_alloc_at], hs.cells⟩, fun q hq => ?_, hs.rd, hs.own, hs.dis, fun g hg q hq => ?_⟩
  · simp only [List.mem_cons] at hq
    rcases hq with rfl | rfl | rfl | hq
    · simp
    · simp
    · simp
    · exact hs.lt q hq
  · have := (h.own g hg).2.1
    simp only [List.mem_cons] at hq
    rcases hq with rfl | rfl | rfl | hq
    · exact .inr this
    · exact .inr this
    · exact .inr this
    · exact hs.box g hg q hq
theorem St.box2 (h : St w0 w S R O) (x y : Value) (T : TypeId) : St w0 (w.alloc (.cells #[x, y] T)) ((w.heap.size, 0, x) :: (w.heap.size, 1, y) :: S) R O := by
  have hs := h.step ((Below.refl _ _).alloc (Nat.le_refl _) (.cells #[x, y] T))
  refine ⟨hs.bel, ⟨by simp [World.cell?_alloc_at], by simp [World.cell?_alloc_at], hs.cells⟩, fun q hq => ?_, hs.rd, hs.own, hs.dis, fun g hg q hq => ?_⟩
  · simp only [List.mem_cons] at hq
    rcases hq with rfl | rfl | hq
    · simp
    · simp
    · exact hs.lt q hq
  · have := (h.own g hg).2.1
    simp only [List.mem_cons] at hq
    rcases hq with rfl | rfl | hq
    · exact .inr this
    · exact .inr this
    · exact hs.box g hg q hq
/-- A function has made new rows. -/
theorem St.grp (h : St w0 w S R O) (hb : Below w.heap.size w w') {rows : List (Value × List Int)} (ho : OwnG w' w.heap.size w'.heap.size rows) : St w0 w' S R ((w.heap.size, w'.heap.size, rows) :: O) := by
  have hs := h.step hb
  refine ⟨hs.bel, hs.cells, hs.lt, hs.rd, fun g hg => ?_, List.pairwise_cons.2 ⟨fun g hg => .inl (h.own g hg).2.1, hs.dis⟩, fun g hg x hx => ?_⟩
  · rcases List.mem_cons.1 hg with rfl | hg
    · exact ⟨h.bel.size, Nat.le_refl _, ho⟩
    · exact hs.own g hg
  · rcases List.mem_cons.1 hg with rfl | hg
    · exact .inl (h.lt x hx)
    · exact hs.box g hg x hx
/-- The rows of one group have been written. -/
theorem St.mark (h : St w0 w S R O) (i : Nat) {lo hi : Nat} {rows rows' : List (Value × List Int)} (hi' : O[i]? = some (lo, hi, rows)) (hk : KeptOut w w' lo hi) (ho : OwnG w' lo hi rows') : St w0 w' S R (O.set i (lo, hi, rows')) := by
  have hg := h.own _ (List.mem_of_getElem? hi')
  have hil := (List.getElem?_eq_some_iff.1 hi').1
  refine ⟨hk.below h.bel hg.1 h.bel.size, ?_, fun x hx => Nat.lt_of_lt_of_le (h.lt x hx) hk.2.2.2.1, fun r hr => hk.rd (h.rd r hr) hg.1 h.bel.size, fun g hm => ?_, ?_, fun g hm x hx => ?_⟩
  · have hc := h.cells
    have hl := h.lt
    have hb := h.box _ (List.mem_of_getElem? hi')
    clear h hg hi' hil
    induction S with
    | nil => trivial
    | cons x r ih => exact ⟨hk.cell hc.1 (hl x (by simp)) (hb x (by simp)), ih hc.2 (fun y hy => hl y (by simp [hy])) (fun y hy => hb y (by simp [hy]))⟩
  · obtain ⟨j, hj⟩ := List.getElem?_of_mem hm
    by_cases hji : j = i
    · subst hji
      rw [List.getElem?_set_self hil] at hj
      cases hj
      exact ⟨hg.1, Nat.le_trans hg.2.1 hk.2.2.2.1, ho⟩
    · rw [List.getElem?_set_ne (fun e => hji e.symm)] at hj
      have hgj := h.own g (List.mem_of_getElem? hj)
      refine ⟨hgj.1, Nat.le_trans hgj.2.1 hk.2.2.2.1, hgj.2.2.kept hk ?_⟩
      obtain ⟨hjl, ej⟩ := List.getElem?_eq_some_iff.1 hj
      obtain ⟨_, ei⟩ := List.getElem?_eq_some_iff.1 hi'
      have hp := List.pairwise_iff_getElem.1 h.dis
      rcases Nat.lt_or_ge j i with hlt | hge
      · have := hp j i hjl hil hlt
        rw [ej, ei] at this
        exact this.symm
      · have := hp i j hil hjl (by omega)
        rw [ej, ei] at this
        exact this
  · have e : (O.set i (lo, hi, rows')).map (fun g => (g.1, g.2.1)) = O.map (fun g => (g.1, g.2.1)) := by
      apply List.ext_getElem?
      intro j
      rw [List.getElem?_map, List.getElem?_map]
      by_cases hji : j = i
      · subst hji
        rw [List.getElem?_set_self hil, hi']; rfl
      · rw [List.getElem?_set_ne (fun e => hji e.symm)]
    have h1 : (O.map (fun g => (g.1, g.2.1))).Pairwise (fun a b => b.2 ≤ a.1 ∨ a.2 ≤ b.1) := List.pairwise_map.2 h.dis
    rw [← e] at h1
    exact List.pairwise_map.1 h1
  · rcases List.mem_or_eq_of_mem_set hm with hm | rfl
    · exact h.box g hm x hx
    · exact h.box _ (List.mem_of_getElem? hi') x hx
theorem St.cellAt (h : St w0 w S R O) : CellsAt w S := h.cells
theorem St.rdAt (h : St w0 w S R O) (i : Nat) {v : Value} {xs : List Int} (hi : R[i]? = some (v, xs)) : Rd w0.heap.size w v (ints xs) := h.rd _ (List.mem_of_getElem? hi)
theorem St.grpAt (h : St w0 w S R O) (i : Nat) {lo hi : Nat} {rows : List (Value × List Int)} (hi' : O[i]? = some (lo, hi, rows)) : OwnG w lo hi rows := (h.own _ (List.mem_of_getElem? hi')).2.2
/-- A row of a group, as it is read. -/
theorem St.rowAt (h : St w0 w S R O) (i j : Nat) {lo hi : Nat} {rows : List (Value × List Int)} {v : Value} {xs : List Int} (hi' : O[i]? = some (lo, hi, rows)) (hj : rows[j]? = some (v, xs)) : Rd w.heap.size w v (ints xs) :=
  let ho := (h.own _ (List.mem_of_getElem? hi')).2.2.1 _ (List.mem_of_getElem? hj)
  ho.rd.mono ho.2.2
end Go.Proofs.Ytdheakjjnaifkaa
namespace Go.Proofs.Ytdheakjjnaifkaa
set_option maxRecDepth 20000
open Go.RowKit

/-- What a function that makes a tensor answers. -/
def NewTen (w : World) (L D X : List Int) (e : Ending) (w' : World) : Prop := ∃ lv dv xv, e = .returned (tenV lv dv xv) ∧ OwnG w' w.heap.size w'.heap.size [(lv, L), (dv, D), (xv, X)] ∧ Below w.heap.size w w'
theorem ApartG.three {a b c : Value} {x y z : List Int} (h1 : ∀ g, a.ownBlock = some g → b.ownBlock ≠ some g) (h2 : ∀ g, a.ownBlock = some g → c.ownBlock ≠ some g) (h3 : ∀ g, b.ownBlock = some g → c.ownBlock ≠ some g) : ApartG [(a, x), (b, y), (c, z)] := by
  refine List.pairwise_cons.2 ⟨fun q hq => ?_, List.pairwise_cons.2 ⟨fun q hq => ?_, List.pairwise_cons.2 ⟨fun q hq => by simp at hq, List.Pairwise.nil⟩⟩⟩
  · simp only [List.mem_cons, List.not_mem_nil, or_false] at hq
    rcases hq with rfl | rfl
    · exact h1
    · exact h2
  · simp only [List.mem_cons, List.not_mem_nil, or_false] at hq
    subst hq; exact h3
theorem ApartG.inv {a b c : Value} {x y z : List Int} (h : ApartG [(a, x), (b, y), (c, z)]) (x' y' z' : List Int) : ApartG [(a, x'), (b, y'), (c, z')] := by
  obtain ⟨h1, h2⟩ := List.pairwise_cons.1 h
  obtain ⟨h3, -⟩ := List.pairwise_cons.1 h2
  exact ApartG.three (h1 (b, y) (by simp)) (h1 (c, z) (by simp)) (h3 (c, z) (by simp))
/-- Rows that were made one behind the other. -/
theorem OwnG.three {w : World} {lo m1 m2 hi : Nat} {a b c : Value} {x y z : List Int} (ha : Own w lo m1 a x) (hb : Own w m1 m2 b y) (hc : Own w m2 hi c z) (h1 : lo ≤ m1) (h2 : m1 ≤ m2) (h3 : m2 ≤ hi) : OwnG w lo hi [(a, x), (b, y), (c, z)] := by
  have wide : ∀ {l h : Nat} {v : Value} {xs : List Int}, Own w l h v xs → lo ≤ l → h ≤ hi → Own w lo hi v xs := fun {l h v xs} ho hl hh =>
    ⟨⟨ho.1.1, ho.1.2.imp id (fun ⟨g, cap, cur, e, hb, q⟩ => ⟨g, cap, cur, e, Nat.le_trans hl hb, q⟩)⟩, fun g hg => Nat.lt_of_lt_of_le (ho.2.1 g hg) hh, hc.2.2⟩
  refine ⟨fun r hr => ?_, ApartG.three (fun g hg hg' => ?_) (fun g hg hg' => ?_) (fun g hg hg' => ?_)⟩
  · simp only [List.mem_cons, List.not_mem_nil, or_false] at hr
    rcases hr with rfl | rfl | rfl
    · exact wide ha (Nat.le_refl _) (by omega)
    · exact wide hb h1 h3
    · exact wide hc (by omega) (Nat.le_refl _)
  · have := ha.2.1 g hg; have := hb.lo g hg'; omega
  · have := ha.2.1 g hg; have := hc.lo g hg'; omega
  · have := hb.2.1 g hg; have := hc.lo g hg'; omega

set_option maxHeartbeats 400000 in
theorem sz_ints (a : Option Addr) (cap m : Nat) (left : Int) (w : World) (h0 : 0 ≤ left) (h1 : left ≤ 1048576) (hm : m ≤ 281474976710656) :
    Calls Try.prog 43 #[.slice a m cap, .int .i64 left] w fun e w' => e = .returned (.int .i64 (if left < m then -1 else left - m)) ∧ w = w' := by
  have hw : IntKind.i64.wrap (left - (m : Int)) = left - m := IntWalk.i64_in _ (by omega)
  by_cases h : left < (m : Int)
  · have q1 : decide (left - (m : Int) < 0) = true := by simp; omega
    have q2 : left - (m : Int) < 0 := by omega
    rw [if_pos h]
    clear h
    go_enter Try.func43, Try.ntmps43
    go_wp2
    go_ret
    exact ⟨rfl, rfl⟩
  · have q1 : decide (left - (m : Int) < 0) = false := by simp; omega
    have q2 : ¬ left - (m : Int) < 0 := by omega
    rw [if_neg h]
    clear h
    go_enter Try.func43, Try.ntmps43
    go_wp2
    go_ret
    exact ⟨rfl, rfl⟩

set_option maxHeartbeats 1600000 in
theorem sz_ten_full (al : Option Addr) (ml cl : Nat) (ad : Option Addr) (md cd : Nat) (ax : Option Addr) (mx cx : Nat) (left : Int) (w : World) (h0 : 0 ≤ left) (h1 : left ≤ 1048576) (hl : ml ≤ 281474976710656) (hd : md ≤ 281474976710656) (hx : mx ≤ 281474976710656) :
    Calls Try.prog 77 #[tenV (.slice al ml cl) (.slice ad md cd) (.slice ax mx cx), .int .i64 left] w fun e w' => ∃ z : Int, e = .returned (.int .i64 z) ∧ (z = -1 ∨ (0 ≤ z ∧ (ml : Int) + md + mx + z = left)) ∧ Below w.heap.size w w' := by
  have HB := Lib.hid ((Below.refl w.heap.size w).alloc (Nat.le_refl _) (.cells #[.slice al ml cl, .slice ad md cd, .slice ax mx cx] 98))
  have hf1 := fun w => sz_ints al cl ml left w h0 h1 hl
  by_cases hc1 : left < (ml : Int)
  · rw [if_pos hc1] at hf1
    have HF := Lib.hid hf1
    clear hf1 hc1
    go_enter Try.func77, Try.ntmps77
    go_wp2_with fail
    refine (HF.out _).mono ?_
    rintro e w1 ⟨rfl, rfl⟩
    go_wp2
    go_ret
    exact ⟨-1, rfl, .inl rfl, HB.out⟩
  rw [if_neg hc1] at hf1
  obtain ⟨l1, hl1⟩ : ∃ x, x = left - (ml : Int) := ⟨_, rfl⟩
  rw [← hl1] at hf1
  have HF := Lib.hid hf1
  have h10 : 0 ≤ l1 := by omega
  have q1 : ¬ l1 < 0 := by omega
  have qd1 : decide (l1 < 0) = false := by simpa using h10
  have hf2 := fun w => sz_ints ad cd md l1 w h10 (by omega) hd
  clear hf1
  by_cases hc2 : l1 < (md : Int)
  · rw [if_pos hc2] at hf2
    have HF2 := Lib.hid hf2
    clear hf2 hc2 hc1 hl1
    go_enter Try.func77, Try.ntmps77
    go_wp2_with fail
    refine (HF.out _).mono ?_
    rintro e w1 ⟨rfl, rfl⟩
    go_wp2_with fail
    refine (HF2.out _).mono ?_
    rintro e w1 ⟨rfl, rfl⟩
    go_wp2
    go_ret
    exact ⟨-1, rfl, .inl rfl, HB.out⟩
  rw [if_neg hc2] at hf2
  obtain ⟨l2, hl2⟩ : ∃ x, x = l1 - (md : Int) := ⟨_, rfl⟩
  rw [← hl2] at hf2
  have HF2 := Lib.hid hf2
  have h20 : 0 ≤ l2 := by omega
  have q2 : ¬ l2 < 0 := by omega
  have qd2 : decide (l2 < 0) = false := by simpa using h20
  have hf3 := fun w => sz_ints ax cx mx l2 w h20 (by omega) hx
  clear hf2
  by_cases hc3 : l2 < (mx : Int)
  · rw [if_pos hc3] at hf3
    have HF3 := Lib.hid hf3
    clear hf3 hc3 hc2 hl2 hc1 hl1
    go_enter Try.func77, Try.ntmps77
    go_wp2_with fail
    refine (HF.out _).mono ?_
    rintro e w1 ⟨rfl, rfl⟩
    go_wp2_with fail
    refine (HF2.out _).mono ?_
    rintro e w1 ⟨rfl, rfl⟩
    go_wp2_with fail
    refine (HF3.out _).mono ?_
    rintro e w1 ⟨rfl, rfl⟩
    go_wp2
    go_ret
    exact ⟨-1, rfl, .inl rfl, HB.out⟩
  rw [if_neg hc3] at hf3
  obtain ⟨l3, hl3⟩ : ∃ x, x = l2 - (mx : Int) := ⟨_, rfl⟩
  rw [← hl3] at hf3
  have HF3 := Lib.hid hf3
  have h30 : 0 ≤ l3 := by omega
  have q3 : ¬ l3 < 0 := by omega
  have qd3 : decide (l3 < 0) = false := by simpa using h30
  have HS := Lib.hid (show (ml : Int) + md + mx + l3 = left by omega)
  clear hf3 hc3 hc2 hl2 hc1 hl1 hl3
  go_enter Try.func77, Try.ntmps77
  go_wp2_with fail
  refine (HF.out _).mono ?_
  rintro e w1 ⟨rfl, rfl⟩
  go_wp2_with fail
  refine (HF2.out _).mono ?_
  rintro e w1 ⟨rfl, rfl⟩
  go_wp2_with fail
  refine (HF3.out _).mono ?_
  rintro e w1 ⟨rfl, rfl⟩
  go_wp2
  go_ret
  exact ⟨l3, rfl, .inr ⟨h30, HS.out⟩, HB.out⟩

set_option maxHeartbeats 800000 in
theorem eq_ten {B B' : Nat} {lv dv xv lu du xu : Value} {L D X : List Int} {w : World} (h : RdT B w lv dv xv L D X) (h' : RdT B' w lu du xu L D X) (hB : B ≤ w.heap.size) (hB' : B' ≤ w.heap.size) (hn : LenT L D X) :
    Calls Try.prog 86 #[tenV lv dv xv, tenV lu du xu] w fun e w' => e = .returned (.bool true) ∧ Below w.heap.size w w' := by
  have H0 := Lib.hid (((Held.refl w).box3 lv dv xv 55).box3 lu du xu 55)
  simp only [World.size_alloc] at H0
  have H1 := Lib.hid h
  have H2 := Lib.hid h'
  have HN := Lib.hid hn
  obtain ⟨al, cl, rfl, -⟩ := ints_form h.l
  obtain ⟨ad, cd, rfl, -⟩ := ints_form h.d
  obtain ⟨ax, cx, rfl, -⟩ := ints_form h.x
  obtain ⟨bl, el, rfl, -⟩ := ints_form h'.l
  obtain ⟨bd, ed, rfl, -⟩ := ints_form h'.d
  obtain ⟨bx, ex, rfl, -⟩ := ints_form h'.x
  have HBB := Lib.hid hB
  have HBC := Lib.hid hB'
  obtain ⟨ml, hml⟩ : ∃ m, m = L.length := ⟨_, rfl⟩
  obtain ⟨md, hmd⟩ : ∃ m, m = D.length := ⟨_, rfl⟩
  obtain ⟨mx, hmx⟩ : ∃ m, m = X.length := ⟨_, rfl⟩
  rw [← hml, ← hmd, ← hmx] at H0 H1 H2 ⊢
  clear h h' hB hB' hn hml hmd hmx
  go_enter Try.func86, Try.ntmps86
  go_wp2_with fail
  refine (Held.call H0 (eq_rows (H1.out.below H0.out.1 HBB.out).l (H2.out.below H0.out.1 HBC.out).l rfl HN.out.l)).mono ?_
  rintro e w1 ⟨rfl, G1, a0, a1, a2, b0, b1, b2, -⟩
  go_wp2_with fail
  refine (Held.call G1 (eq_rows (H1.out.below G1.out.1 HBB.out).d (H2.out.below G1.out.1 HBC.out).d rfl HN.out.d)).mono ?_
  clear a0 a1 a2 b0 b1 b2
  rintro e w2 ⟨rfl, G2, a0, a1, a2, b0, b1, b2, -⟩
  go_wp2_with fail
  refine (Held.call G2 (eq_rows (H1.out.below G2.out.1 HBB.out).x (H2.out.below G2.out.1 HBC.out).x rfl HN.out.x)).mono ?_
  clear a0 a1 a2 b0 b1 b2
  rintro e w3 ⟨rfl, G3, -⟩
  go_wp2
  go_ret
  exact ⟨rfl, G3.out.1⟩

/-- laws.toTensor under way: the argument's box, the answer's, and the copy's. -/
structure TT (w wi : World) (lv dv xv a b c : Value) : Prop where
  bel : Below w.heap.size w wi
  s0 : wi.cell? ⟨w.heap.size, 0, none⟩ = some lv
  s1 : wi.cell? ⟨w.heap.size, 1, none⟩ = some dv
  s2 : wi.cell? ⟨w.heap.size, 2, none⟩ = some xv
  r0 : wi.cell? ⟨w.heap.size + 1, 0, none⟩ = some (.slice none 0 0)
  r1 : wi.cell? ⟨w.heap.size + 1, 1, none⟩ = some (.slice none 0 0)
  r2 : wi.cell? ⟨w.heap.size + 1, 2, none⟩ = some (.slice none 0 0)
  o0 : wi.cell? ⟨w.heap.size + 1 + 1, 0, none⟩ = some a
  o1 : wi.cell? ⟨w.heap.size + 1 + 1, 1, none⟩ = some b
  o2 : wi.cell? ⟨w.heap.size + 1 + 1, 2, none⟩ = some c
  fr : ∀ j, wi.frozen? ⟨w.heap.size + 1, j, none⟩ = false
  fo : ∀ j, wi.frozen? ⟨w.heap.size + 1 + 1, j, none⟩ = false
  lt : w.heap.size + 1 + 1 < wi.heap.size
theorem TT.start (w : World) (lv dv xv : Value) (T1 T2 : TypeId) : TT w (((w.alloc (.cells #[lv, dv, xv] T1)).alloc (.cells #[.slice none 0 0, .slice none 0 0, .slice none 0 0] T2)).alloc (.cells #[.slice none 0 0, .slice none 0 0, .slice none 0 0] T2)) lv dv xv (.slice none 0 0) (.slice none 0 0) (.slice none 0 0) := by
  have e1 : (w.alloc (.cells #[lv, dv, xv] T1)).heap.size = w.heap.size + 1 := by simp
  have e2 : ((w.alloc (.cells #[lv, dv, xv] T1)).alloc (.cells #[.slice none 0 0, .slice none 0 0, .slice none 0 0] T2)).heap.size = w.heap.size + 1 + 1 := by simp
  have h := (((Held.refl w).box3 lv dv xv T1).box3 (.slice none 0 0) (.slice none 0 0) (.slice none 0 0) T2).box3 (.slice none 0 0) (.slice none 0 0) (.slice none 0 0) T2
  simp only [World.size_alloc] at h
  obtain ⟨hb, ⟨o0, o1, o2, r0, r1, r2, s0, s1, s2, -⟩, -⟩ := h
  refine ⟨hb, s0, s1, s2, r0, r1, r2, o0, o1, o2, fun j => ?_, fun j => ?_, by simp⟩
  · rw [World.frozen?_alloc_past _ _ _ (by rw [e2]; omega), World.frozen?_alloc_at _ _ _ _ e1.symm]
  · rw [World.frozen?_alloc_at _ _ _ _ e2.symm]
theorem TT.step {w wi wj : World} {lv dv xv a b c : Value} (h : TT w wi lv dv xv a b c) (hb : Below wi.heap.size wi wj) : TT w wj lv dv xv a b c := by
  have hl := h.lt
  have k : ∀ (q o : Nat) (v : Value), q < wi.heap.size → wi.cell? ⟨q, o, none⟩ = some v → wj.cell? ⟨q, o, none⟩ = some v := fun q o v hq hc => (hb.cell (p := ⟨q, o, none⟩) hq).trans hc
  exact ⟨h.bel.trans (hb.mono h.bel.size), k _ _ _ (by omega) h.s0, k _ _ _ (by omega) h.s1, k _ _ _ (by omega) h.s2, k _ _ _ (by omega) h.r0, k _ _ _ (by omega) h.r1, k _ _ _ (by omega) h.r2, k _ _ _ (by omega) h.o0, k _ _ _ (by omega) h.o1, k _ _ _ (by omega) h.o2,
    fun j => (hb.frozen (p := ⟨_, j, none⟩) (show w.heap.size + 1 < _ by omega)).trans (h.fr j), fun j => (hb.frozen (p := ⟨_, j, none⟩) hl).trans (h.fo j), Nat.lt_of_lt_of_le hl hb.size⟩
theorem TT.set {w wi : World} {lv dv xv a b c : Value} (h : TT w wi lv dv xv a b c) (v : Value) (i : Nat) : TT w (wi.setCell ⟨w.heap.size + 1 + 1, i, none⟩ v) lv dv xv (if i = 0 then v else a) (if i = 1 then v else b) (if i = 2 then v else c) := by
  have far : ∀ (q o : Nat) (u : Value), q ≠ w.heap.size + 1 + 1 → wi.cell? ⟨q, o, none⟩ = some u → (wi.setCell ⟨w.heap.size + 1 + 1, i, none⟩ v).cell? ⟨q, o, none⟩ = some u := fun q o u hq hc => by
    rw [World.cell?_setCell_other wi _ _ _ (by intro e; injection e with e1; exact hq e1.symm)]; exact hc
  have near : ∀ (o : Nat) (u : Value), wi.cell? ⟨w.heap.size + 1 + 1, o, none⟩ = some u → (wi.setCell ⟨w.heap.size + 1 + 1, i, none⟩ v).cell? ⟨w.heap.size + 1 + 1, o, none⟩ = some (if i = o then v else u) := fun o u hc => by
    by_cases e : i = o
    · subst e; rw [if_pos rfl]; exact World.cell?_setCell_same wi _ _ hc
    · rw [if_neg e, World.cell?_setCell_other wi _ _ _ (by intro q; injection q with q1 q2; exact e q2)]; exact hc
  exact ⟨h.bel.setCell (by simp; omega) _, far _ _ _ (by omega) h.s0, far _ _ _ (by omega) h.s1, far _ _ _ (by omega) h.s2, far _ _ _ (by omega) h.r0, far _ _ _ (by omega) h.r1, far _ _ _ (by omega) h.r2, near 0 _ h.o0, near 1 _ h.o1, near 2 _ h.o2,
    fun j => by rw [World.frozen?_setCell]; exact h.fr j, fun j => by rw [World.frozen?_setCell]; exact h.fo j, by simpa using h.lt⟩
/-- A row lives through a store below it. -/
theorem Own.set {w : World} {lo hi b i : Nat} {v : Value} {xs : List Int} (h : Own w lo hi v xs) (hb : b < lo) (u : Value) : Own (w.setCell ⟨b, i, none⟩ u) lo hi v xs :=
  h.kept (row := some b) ⟨rfl, rfl, rfl, by simp, fun k _ hk => Below.heap_setCell w ⟨b, i, none⟩ u k (fun e => hk (by rw [e]))⟩ (fun g hg => by cases hg; exact .inl hb)
set_option maxHeartbeats 1600000 in
/-- laws.toTensor: a copy. -/
theorem to_ten {B : Nat} {lv dv xv : Value} {L D X : List Int} {w : World} (h : RdT B w lv dv xv L D X) (hB : B ≤ w.heap.size) (l1 : L.length ≤ 17592186044416) (l2 : D.length ≤ 17592186044416) (l3 : X.length ≤ 17592186044416) :
    Calls Try.prog 83 #[tenV lv dv xv] w (NewTen w L D X) := by
  have H1 := Lib.hid h
  have HBB := Lib.hid hB
  obtain ⟨al, cl, rfl, -⟩ := ints_form h.l
  obtain ⟨ad, cd, rfl, -⟩ := ints_form h.d
  obtain ⟨ax, cx, rfl, -⟩ := ints_form h.x
  obtain ⟨ml, hml⟩ : ∃ m, m = L.length := ⟨_, rfl⟩
  obtain ⟨md, hmd⟩ : ∃ m, m = D.length := ⟨_, rfl⟩
  obtain ⟨mx, hmx⟩ : ∃ m, m = X.length := ⟨_, rfl⟩
  rw [← hml, ← hmd, ← hmx] at H1 ⊢
  have HL := Lib.hid (And.intro l1 (And.intro l2 l3))
  clear h hB hml hmd hmx l1 l2 l3
  go_enter Try.func83, Try.ntmps83
  have T0 := Lib.hid (TT.start w (.slice al ml cl) (.slice ad md cd) (.slice ax mx cx) 98 55)
  go_wp2_with fail
  refine (to_row (H1.out.below T0.out.bel HBB.out).l (Nat.le_trans HBB.out T0.out.bel.size) HL.out.1).mono ?_
  rintro e w1 ⟨v1, rfl, o1, hb1⟩
  have T1 := Lib.hid (T0.out.step hb1)
  have S1 := Lib.hid (T1.out.set v1 0)
  have P1 := Lib.hid (Own.set o1 (b := w.heap.size + 1 + 1) (i := 0) (by simp) v1)
  obtain ⟨a1, c1, rfl, -⟩ := ints_form o1.rd
  obtain ⟨-, s0, s1, s2, -, -, -, o0, -, -, -, fo, -⟩ := T1.out
  have fo0 := fo 0
  have Z1 := Lib.hid hb1.size
  clear fo hb1 o1
  obtain ⟨n1, hn1⟩ : ∃ n, n = L.length := ⟨_, rfl⟩
  rw [← hn1] at S1 P1 ⊢
  clear hn1
  go_wp2_with fail
  clear s0 s1 s2 o0 fo0
  refine (to_row (H1.out.below S1.out.bel HBB.out).d (Nat.le_trans HBB.out S1.out.bel.size) HL.out.2.1).mono ?_
  rintro e w2 ⟨v2, rfl, o2, hb2⟩
  have T2 := Lib.hid (S1.out.step hb2)
  have S2 := Lib.hid (T2.out.set v2 1)
  have P12 := Lib.hid (Own.set (b := w.heap.size + 1 + 1) (i := 1) (P1.out.below hb2 (Nat.le_refl _)) (by simp) v2)
  have P2 := Lib.hid (Own.set o2 (b := w.heap.size + 1 + 1) (i := 1) (by have := T1.out.lt; simp; omega) v2)
  obtain ⟨a2, c2, rfl, -⟩ := ints_form o2.rd
  obtain ⟨-, s0, s1, s2, -, -, -, -, o0, -, -, fo, -⟩ := T2.out
  have fo0 := fo 1
  have Z2 := Lib.hid hb2.size
  clear fo hb2 o2
  obtain ⟨n2, hn2⟩ : ∃ n, n = D.length := ⟨_, rfl⟩
  rw [← hn2] at S2 P2 P12 ⊢
  clear hn2
  go_wp2_with fail
  clear s0 s1 s2 o0 fo0
  refine (to_row (H1.out.below S2.out.bel HBB.out).x (Nat.le_trans HBB.out S2.out.bel.size) HL.out.2.2).mono ?_
  rintro e w3 ⟨v3, rfl, o3, hb3⟩
  have T3 := Lib.hid (S2.out.step hb3)
  have S3 := Lib.hid (T3.out.set v3 2)
  have P13 := Lib.hid (Own.set (b := w.heap.size + 1 + 1) (i := 2) (P12.out.below hb3 (Nat.le_refl _)) (by simp) v3)
  have P23 := Lib.hid (Own.set (b := w.heap.size + 1 + 1) (i := 2) (P2.out.below hb3 (Nat.le_refl _)) (by have := T1.out.lt; simp; omega) v3)
  have P3 := Lib.hid (Own.set o3 (b := w.heap.size + 1 + 1) (i := 2) (by have := T2.out.lt; simp; omega) v3)
  obtain ⟨a3, c3, rfl, -⟩ := ints_form o3.rd
  obtain ⟨-, -, -, -, r0, r1, r2, -, -, o0, -, fo, -⟩ := T3.out
  have fo0 := fo 2
  have Z3 := Lib.hid hb3.size
  clear fo hb3 o3
  obtain ⟨n3, hn3⟩ : ∃ n, n = X.length := ⟨_, rfl⟩
  rw [← hn3] at S3 P3 P13 P23 ⊢
  clear hn3
  obtain ⟨-, -, -, -, t0, t1, t2, q0, q1, q2, fr, -, -⟩ := S3.out
  have f0 := fr 0
  have f1 := fr 1
  have f2 := fr 2
  clear fr
  simp only [if_true, if_false, Nat.one_ne_zero, Nat.zero_ne_one] at q0 q1 q2
  go_wp2
  have s1' : (w1.setCell ⟨w.heap.size + 1 + 1, 0, none⟩ (.slice a1 n1 c1)).heap.size = w1.heap.size := by simp
  have s2' : (w2.setCell ⟨w.heap.size + 1 + 1, 1, none⟩ (.slice a2 n2 c2)).heap.size = w2.heap.size := by simp
  rw [s1'] at P23
  rw [s2'] at P3
  have hz1 := Z1.out
  have hz2 := Z2.out
  have hz3 := Z3.out
  rw [s1'] at hz2
  rw [s2'] at hz3
  have hlt := T1.out.lt
  refine bodyPost_ret (v := tenV (.slice a1 n1 c1) (.slice a2 n2 c2) (.slice a3 n3 c3)) (by simp [results, Try.results83, go_sem, t0, t1, t2]) rfl ⟨_, _, _, rfl, ?_, ?_⟩
  · refine OwnG.wide (lo := w.heap.size + 1 + 1 + 1) (hi := w3.heap.size) (OwnG.three (m1 := w1.heap.size) (m2 := w2.heap.size) (Own.set (Own.set (Own.set (by simpa using P13.out) (by omega) _) (by omega) _) (by omega) _) (Own.set (Own.set (Own.set P23.out (by omega) _) (by omega) _) (by omega) _) (Own.set (Own.set (Own.set P3.out (by omega) _) (by omega) _) (by omega) _) (by simpa using hz1) hz2 hz3) (by omega) (by simp) (by simp)
  · exact ((S3.out.bel.setCell (by simp) _).setCell (by simp) _).setCell (by simp) _

theorem Own.apart {w w' : World} {lo hi : Nat} {v : Value} {xs : List Int} {row : Option Nat} (h : Own w lo hi v xs) (hg : w.grownBy w' row) (hne : ∀ g, row = some g → v.ownBlock ≠ some g) : Own w' lo hi v xs :=
  ⟨h.1.kept (row := row) hg (by
    cases hv : v.ownBlock with
    | none => exact .inl rfl
    | some g => exact .inr (fun e => hne g e.symm hv)), h.2.1, Nat.le_trans h.2.2 hg.size⟩
theorem OwnG.rows {w : World} {lo hi : Nat} {a b c : Value} {x y z : List Int} (h : OwnG w lo hi [(a, x), (b, y), (c, z)]) : Own w lo hi a x ∧ Own w lo hi b y ∧ Own w lo hi c z := ⟨h.1 (a, x) (by simp), h.1 (b, y) (by simp), h.1 (c, z) (by simp)⟩
theorem ApartG.out {a b c : Value} {x y z : List Int} (h : ApartG [(a, x), (b, y), (c, z)]) : (∀ g, a.ownBlock = some g → b.ownBlock ≠ some g) ∧ (∀ g, a.ownBlock = some g → c.ownBlock ≠ some g) ∧ (∀ g, b.ownBlock = some g → c.ownBlock ≠ some g) := by
  obtain ⟨h1, h2⟩ := List.pairwise_cons.1 h
  obtain ⟨h3, -⟩ := List.pairwise_cons.1 h2
  exact ⟨h1 (b, y) (by simp), h1 (c, z) (by simp), h3 (c, z) (by simp)⟩
theorem apart_symm {a b : Value} (h : ∀ g, a.ownBlock = some g → b.ownBlock ≠ some g) : ∀ g, b.ownBlock = some g → a.ownBlock ≠ some g := fun g h1 h2 => h g h2 h1
theorem OwnG.of3 {w : World} {lo hi : Nat} {a b c : Value} {x y z x' y' z' : List Int} (hp : ApartG [(a, x'), (b, y'), (c, z')]) (ha : Own w lo hi a x) (hb : Own w lo hi b y) (hc : Own w lo hi c z) : OwnG w lo hi [(a, x), (b, y), (c, z)] :=
  ⟨fun r hr => by
    simp only [List.mem_cons, List.not_mem_nil, or_false] at hr
    rcases hr with rfl | rfl | rfl
    · exact ha
    · exact hb
    · exact hc, hp.inv x y z⟩
/-- Marks of the three rows of a tensor, from s on. -/
def marksT (s : Nat) (lv dv xv : Value) (L D X : List Int) : List (Value × List Int) := [(lv, marksI s L.length), (dv, marksI (s + L.length) D.length), (xv, marksI (s + L.length + D.length) X.length)]

theorem OwnG.one {w : World} {lo hi : Nat} {v : Value} {xs : List Int} (h : Own w lo hi v xs) : OwnG w lo hi [(v, xs)] :=
  ⟨fun r hr => by simp only [List.mem_cons, List.not_mem_nil, or_false] at hr; subst hr; exact h, List.pairwise_singleton _ _⟩
theorem OwnG.row {w : World} {lo hi : Nat} {v : Value} {xs : List Int} (h : OwnG w lo hi [(v, xs)]) : Own w lo hi v xs := h.1 (v, xs) (by simp)
/-- laws.markIntS on a group of one row. -/
theorem marks_row {lo hi : Nat} {v : Value} {xs : List Int} {w : World} {z : Int} (s : Nat) (hz : z = (s : Int)) (h : OwnG w lo hi [(v, xs)]) (hn : xs.length ≤ 4611686018427387904) (hs : s ≤ 2305843009213693952) :
    Calls Try.prog 21 #[v, .int .i64 z] w fun e w' => e = .returned (.int .i64 ((s + xs.length : Nat) : Int)) ∧ OwnG w' lo hi [(v, marksI s xs.length)] ∧ KeptOut w w' lo hi :=
  (marks_from s hz h.row hn hs).mono fun _ _ ⟨he, ho, hg⟩ => ⟨he, OwnG.one ho, KeptOut.of hg (fun g hg' => ⟨h.row.lo g hg', h.row.2.1 g hg'⟩)⟩
/-- laws.heldIntS in the laws' words. -/
theorem helds_row {B n : Nat} {v : Value} {w : World} {z : Int} (s : Nat) (hz : z = (s : Int)) (hr : Rd B w v (ints (marksI s n))) (hn : n ≤ 4611686018427387904) (hs : s ≤ 2305843009213693952) :
    Calls Try.prog 22 #[v, .int .i64 z] w fun e w' => e = .returned (.int .i64 ((s + n : Nat) : Int)) ∧ Below w.heap.size w w' :=
  Held.quiet (helds_from s hz hr hn hs)
end Go.Proofs.Ytdheakjjnaifkaa
namespace Go.Proofs.Ytdheakjjnaifkaa
set_option maxRecDepth 20000
open Go.RowKit

/-- A box of three cells of the call's own, which may be written. -/
structure Bx (w0 w : World) (r : Nat) (a b c : Value) : Prop where
  bel : Below w0.heap.size w0 w
  c0 : w.cell? ⟨r, 0, none⟩ = some a
  c1 : w.cell? ⟨r, 1, none⟩ = some b
  c2 : w.cell? ⟨r, 2, none⟩ = some c
  fr : ∀ j, w.frozen? ⟨r, j, none⟩ = false
  lt : r < w.heap.size
  lo : w0.heap.size ≤ r
theorem Bx.new {w0 w : World} (h : Below w0.heap.size w0 w) (a b c : Value) (T : TypeId) : Bx w0 (w.alloc (.cells #[a, b, c] T)) w.heap.size a b c :=
  ⟨h.alloc h.size _, by simp [World.cell?_alloc_at], by simp [World.cell?_alloc_at], by simp [World.cell?_alloc_at], fun j => by simp, by simp, h.size⟩
theorem Bx.step {w0 w w' : World} {r : Nat} {a b c : Value} (h : Bx w0 w r a b c) (hb : Below w.heap.size w w') : Bx w0 w' r a b c :=
  ⟨h.bel.trans (hb.mono h.bel.size), (hb.cell (p := ⟨r, 0, none⟩) h.lt).trans h.c0, (hb.cell (p := ⟨r, 1, none⟩) h.lt).trans h.c1, (hb.cell (p := ⟨r, 2, none⟩) h.lt).trans h.c2,
    fun j => (hb.frozen (p := ⟨r, j, none⟩) h.lt).trans (h.fr j), Nat.lt_of_lt_of_le h.lt hb.size, h.lo⟩
theorem Bx.alloc {w0 w : World} {r : Nat} {a b c : Value} (h : Bx w0 w r a b c) (bl : Obj) : Bx w0 (w.alloc bl) r a b c := h.step ((Below.refl _ _).alloc (Nat.le_refl _) bl)
theorem Bx.drewN {w0 w : World} {r : Nat} {a b c : Value} (h : Bx w0 w r a b c) (q : Nat) : Bx w0 (w.drewN q) r a b c := h.step (below_drewN (Below.refl _ _) q)
/-- A store into the box. -/
theorem Bx.set {w0 w : World} {r : Nat} {a b c : Value} (h : Bx w0 w r a b c) (v : Value) (i : Nat) : Bx w0 (w.setCell ⟨r, i, none⟩ v) r (if i = 0 then v else a) (if i = 1 then v else b) (if i = 2 then v else c) := by
  have near : ∀ (o : Nat) (u : Value), w.cell? ⟨r, o, none⟩ = some u → (w.setCell ⟨r, i, none⟩ v).cell? ⟨r, o, none⟩ = some (if i = o then v else u) := fun o u hc => by
    by_cases e : i = o
    · subst e; rw [if_pos rfl]; exact World.cell?_setCell_same w _ _ hc
    · rw [if_neg e, World.cell?_setCell_other w _ _ _ (by intro q; injection q with q1 q2; exact e q2)]; exact hc
  exact ⟨h.bel.setCell h.lo _, near 0 _ h.c0, near 1 _ h.c1, near 2 _ h.c2, fun j => by rw [World.frozen?_setCell]; exact h.fr j, by simpa using h.lt, h.lo⟩
/-- A store into another. -/
theorem Bx.far {w0 w : World} {r : Nat} {a b c : Value} (h : Bx w0 w r a b c) {g : Nat} (hg : r ≠ g) (h0 : w0.heap.size ≤ g) (v : Value) (i : Nat) : Bx w0 (w.setCell ⟨g, i, none⟩ v) r a b c := by
  have far : ∀ (o : Nat), (w.setCell ⟨g, i, none⟩ v).cell? ⟨r, o, none⟩ = w.cell? ⟨r, o, none⟩ := fun o => World.cell?_setCell_other w _ _ _ (by intro e; injection e with e1; exact hg e1.symm)
  exact ⟨h.bel.setCell h0 _, (far 0).trans h.c0, (far 1).trans h.c1, (far 2).trans h.c2, fun j => by rw [World.frozen?_setCell]; exact h.fr j, by simpa using h.lt, h.lo⟩
abbrev nilV : Value := .slice none 0 0
theorem Own.nils {w : World} {lo hi : Nat} (h : hi ≤ w.heap.size) : Own w lo hi nilV [] := ⟨World.ownsRow_nil _ _ _ _, (fun g hg => by cases hg), h⟩
theorem NewTen.nils {w w' : World} (h : Below w.heap.size w w') : NewTen w [] [] [] (.returned (tenV nilV nilV nilV)) w' :=
  ⟨_, _, _, rfl, OwnG.three (Own.nils h.size) (Own.nils (Nat.le_refl _)) (Own.nils (Nat.le_refl _)) (Nat.le_refl _) h.size (Nat.le_refl _), h⟩
/-- Two boxes at the beginning: an argument's, and an answer's. -/
theorem Bx.two (w : World) (a b c x y z : Value) (T T2 : TypeId) : Bx w ((w.alloc (.cells #[a, b, c] T)).alloc (.cells #[x, y, z] T2)) w.heap.size a b c ∧ Bx w ((w.alloc (.cells #[a, b, c] T)).alloc (.cells #[x, y, z] T2)) (w.heap.size + 1) x y z := by
  have h1 := Bx.new (Below.refl w.heap.size w) a b c T
  have h2 := Bx.new h1.bel x y z T2
  simp only [World.size_alloc] at h2
  exact ⟨h1.alloc _, h2⟩

/-- A law's state, with a box of its own that waits for a tensor. -/
structure StB (w0 w : World) (S : List (Nat × Nat × Value)) (R : List (Value × List Int)) (O : List Grp) (b : Nat) : Prop where
  st : St w0 w S R O
  bx : Bx w0 w b nilV nilV nilV
  far : ∀ x ∈ S, x.1 ≠ b
  grp : ∀ g ∈ O, b < g.1 ∨ g.2.1 ≤ b
theorem StB.new {w0 w : World} {S : List (Nat × Nat × Value)} {R : List (Value × List Int)} {O : List Grp} (h : St w0 w S R O) (T : TypeId) : StB w0 (w.alloc (.cells #[nilV, nilV, nilV] T)) S R O w.heap.size :=
  ⟨h.step ((Below.refl _ _).alloc (Nat.le_refl _) _), Bx.new h.bel _ _ _ _, fun x hx => Nat.ne_of_lt (h.lt x hx), fun g hg => .inr (h.own g hg).2.1⟩
theorem StB.step {w0 w w' : World} {S : List (Nat × Nat × Value)} {R : List (Value × List Int)} {O : List Grp} {b : Nat} (h : StB w0 w S R O b) (hb : Below w.heap.size w w') : StB w0 w' S R O b := ⟨h.st.step hb, h.bx.step hb, h.far, h.grp⟩
theorem StB.add {w0 w w' : World} {S : List (Nat × Nat × Value)} {R : List (Value × List Int)} {O : List Grp} {b : Nat} (h : StB w0 w S R O b) (hb : Below w.heap.size w w') {rows : List (Value × List Int)} (ho : OwnG w' w.heap.size w'.heap.size rows) : StB w0 w' S R ((w.heap.size, w'.heap.size, rows) :: O) b :=
  ⟨h.st.grp hb ho, h.bx.step hb, h.far, fun g hg => by
    rcases List.mem_cons.1 hg with rfl | hg
    · exact .inl h.bx.lt
    · exact h.grp g hg⟩
theorem CellsAt.set {w : World} {S : List (Nat × Nat × Value)} (h : CellsAt w S) {g : Nat} (hn : ∀ x ∈ S, x.1 ≠ g) (i : Nat) (v : Value) : CellsAt (w.setCell ⟨g, i, none⟩ v) S := by
  induction S with
  | nil => trivial
  | cons x r ih =>
    refine ⟨?_, ih h.2 (fun y hy => hn y (by simp [hy]))⟩
    rw [World.cell?_setCell_other w _ _ _ (by intro e; injection e with e1; exact hn x (by simp) e1.symm)]
    exact h.1
theorem grownBy_set (w : World) (b i : Nat) (v : Value) : w.grownBy (w.setCell ⟨b, i, none⟩ v) (some b) := grownBy_setCell ⟨rfl, rfl, rfl, Nat.le_refl _, fun _ _ _ => rfl⟩ rfl _
theorem St.set {w0 w : World} {S : List (Nat × Nat × Value)} {R : List (Value × List Int)} {O : List Grp} (h : St w0 w S R O) {b : Nat} (hb : w0.heap.size ≤ b) (far : ∀ x ∈ S, x.1 ≠ b) (grp : ∀ g ∈ O, b < g.1 ∨ g.2.1 ≤ b) (i : Nat) (v : Value) : St w0 (w.setCell ⟨b, i, none⟩ v) S R O :=
  ⟨h.bel.setCell hb _, h.cells.set far i v, fun x hx => by simpa using h.lt x hx, fun r hr => (h.rd r hr).kept (grownBy_set w b i v) h.bel.size (fun g e => by cases e; exact hb),
    fun g hg => ⟨(h.own g hg).1, by simpa using (h.own g hg).2.1, (h.own g hg).2.2.kept (l := b) (h' := b + 1) (KeptOut.of (grownBy_set w b i v) (fun g e => by cases e; exact ⟨Nat.le_refl _, Nat.lt_succ_self _⟩)) (by rcases grp g hg with h | h <;> omega)⟩, h.dis, h.box⟩
/-- The tensor is stored. -/
theorem StB.put {w0 w : World} {S : List (Nat × Nat × Value)} {R : List (Value × List Int)} {O : List Grp} {b : Nat} (h : StB w0 w S R O b) (x y z : Value) :
    St w0 (((w.setCell ⟨b, 0, none⟩ x).setCell ⟨b, 1, none⟩ y).setCell ⟨b, 2, none⟩ z) ((b, 0, x) :: (b, 1, y) :: (b, 2, z) :: S) R O := by
  have s := ((h.st.set h.bx.lo h.far h.grp 0 x).set h.bx.lo h.far h.grp 1 y).set h.bx.lo h.far h.grp 2 z
  have c := ((h.bx.set x 0).set y 1).set z 2
  simp only [if_true, if_false, Nat.one_ne_zero, Nat.zero_ne_one, Nat.reduceEqDiff] at c
  have hl := h.bx.lt
  refine ⟨s.bel, ⟨c.c0, c.c1, c.c2, s.cells⟩, fun q hq => ?_, s.rd, s.own, s.dis, fun g hg q hq => ?_⟩
  · simp only [List.mem_cons] at hq
    rcases hq with rfl | rfl | rfl | hq
    · simpa using hl
    · simpa using hl
    · simpa using hl
    · exact s.lt q hq
  · simp only [List.mem_cons] at hq
    rcases hq with rfl | rfl | rfl | hq
    · exact h.grp g hg
    · exact h.grp g hg
    · exact h.grp g hg
    · exact h.st.box g hg q hq
/-- Groups that are not wanted any more are left out. -/
theorem St.sub {w0 w : World} {S : List (Nat × Nat × Value)} {R : List (Value × List Int)} {O O' : List Grp} (h : St w0 w S R O) (hs : O'.Sublist O) : St w0 w S R O' :=
  ⟨h.bel, h.cells, h.lt, h.rd, fun g hg => h.own g (hs.subset hg), h.dis.sublist hs, fun g hg => h.box g (hs.subset hg)⟩
theorem St.subL {w0 w : World} {S : List (Nat × Nat × Value)} {R : List (Value × List Int)} {O O1 O2 : List Grp} {g : Grp} (h : St w0 w S R O) (e : O1 = O2) (hs : (g :: O2).Sublist O) : St w0 w S R (g :: O1) := e ▸ h.sub hs
theorem St.letter {w0 w : World} {S : List (Nat × Nat × Value)} {R : List (Value × List Int)} {O : List Grp} (_ : Hid (St w0 w S R O)) : ∃ O1, Hid (O1 = O) := ⟨O, Lib.hid rfl⟩
theorem St.keep {w0 w : World} {S : List (Nat × Nat × Value)} {R : List (Value × List Int)} {O : List Grp} (h : St w0 w S R O) (T : TypeId) : CellsAt (w.alloc (.cells #[nilV, nilV, nilV] T)) S := (StB.new h T).st.cells
theorem CellsAt.get {w : World} {S : List (Nat × Nat × Value)} (h : CellsAt w S) : ∀ {i : Nat} {r o : Nat} {u : Value}, S[i]? = some (r, o, u) → w.cell? ⟨r, o, none⟩ = some u := by
  induction S with
  | nil => intro i r o u hi; simp at hi
  | cons x s ih =>
    intro i r o u hi
    cases i with
    | zero => simp only [List.getElem?_cons_zero, Option.some.injEq] at hi; subst hi; exact h.1
    | succ i => rw [List.getElem?_cons_succ] at hi; exact ih h.2 hi
theorem St.cellA {w0 w : World} {S : List (Nat × Nat × Value)} {R : List (Value × List Int)} {O : List Grp} (h : St w0 w S R O) (bl : Obj) (i : Nat) {r o : Nat} {u : Value} (hi : S[i]? = some (r, o, u)) : (w.alloc bl).cell? ⟨r, o, none⟩ = some u :=
  (h.step ((Below.refl _ _).alloc (Nat.le_refl _) bl)).cells.get hi
theorem StB.cell3 {w0 w : World} {S : List (Nat × Nat × Value)} {R : List (Value × List Int)} {O : List Grp} {b : Nat} (h : StB w0 w S R O b) (x y z : Value) (i : Nat) {r o : Nat} {u : Value} (hi : S[i]? = some (r, o, u)) : (((w.setCell ⟨b, 0, none⟩ x).setCell ⟨b, 1, none⟩ y).setCell ⟨b, 2, none⟩ z).cell? ⟨r, o, none⟩ = some u :=
  (((h.st.cells.set h.far 0 x).set h.far 1 y).set h.far 2 z).get hi
/-- The goal's call is met in this world. -/
theorem at_world {P : Program} {f : FuncId} {args : Array Value} {Q : Ending → World → Prop} (w : World) (h : Calls P f args w Q) : Calls P f args w Q := h
end Go.Proofs.Ytdheakjjnaifkaa
