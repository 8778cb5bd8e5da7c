
/- l03Draw, MakeHom: a valid homomorphism. -/
import Derived.Test.YtfdjlahaiogababDrawn
import Derived.Test.YtfdjlahaiogababHomLaw
import Derived.StillTailTactics
import Derived.Deep.RegionHeld3
namespace Go.Proofs.Ytfdjlahaiogabab
set_option maxRecDepth 20000
open Go.RowKit

theorem KeptOut.hom {w w1 : World} {lo hi b : Nat} {k a : Int} (h : KeptOut w w1 lo hi) (hx : HomAt w b k a) (hb : b < w.heap.size) (hd : b < lo ∨ hi ≤ b) : HomAt w1 b k a :=
  ⟨h.cell hx.1 hb hd, h.cell hx.2 hb hd⟩
/-- What is carried along the drawing: the cursor, the three results' variables, from and to. -/
structure DS (w0 w : World) (cb B : Nat) (v : Value) (bs : List UInt8) (b c : Nat) (k p n tk tp tn : Int) : Prop where
  cur : CurOk w cb B v bs
  r2 : BoxAt w b 0 0 0
  r3 : BoxAt w (b + 1) 0 0 0
  r4 : HomAt w (b + 1 + 1) 0 0
  fr : BoxAt w c k p n
  toB : BoxAt w (c + 1) tk tp tn
  frz : ∀ q o, (q = b ∨ q = b + 1 ∨ q = b + 1 + 1 ∨ q = c + 1) → w.frozen? ⟨q, o, none⟩ = false
  bel : KeptOut w0 w cb (cb + 1)
  lt : c + 1 < w.heap.size
  bc : b + 1 + 1 < c
  ne : cb < b
  base : w0.heap.size ≤ b
section
variable {w0 w w1 : World} {cb B b c : Nat} {v : Value} {bs : List UInt8} {k p n tk tp tn : Int}
theorem DS.kept (h : DS w0 w cb B v bs b c k p n tk tp tn) (hk : KeptOut w w1 cb (cb + 1)) (hc : CurOk w1 cb B v bs) : DS w0 w1 cb B v bs b c k p n tk tp tn := by
  have h1 := h.lt
  have h2 := h.bc
  have h3 := h.ne
  exact ⟨hc, hk.box h.r2 (by omega) (.inr (by omega)), hk.box h.r3 (by omega) (.inr (by omega)), hk.hom h.r4 (by omega) (.inr (by omega)), hk.box h.fr (by omega) (.inr (by omega)), hk.box h.toB (by omega) (.inr (by omega)),
    fun q o hq => (hk.frozen (by omega) (.inr (by omega))).trans (h.frz q o hq), h.bel.trans hk, by have := hk.2.2.2.1; omega, h2, h3, h.base⟩
theorem DS.below (h : DS w0 w cb B v bs b c k p n tk tp tn) (hb : Below w.heap.size w w1) : DS w0 w1 cb B v bs b c k p n tk tp tn := h.kept (KeptOut.of_below hb) (h.cur.below hb)
theorem DS.alloc (h : DS w0 w cb B v bs b c k p n tk tp tn) (o : Obj) : DS w0 (w.alloc o) cb B v bs b c k p n tk tp tn := h.below ((Below.refl _ _).alloc (Nat.le_refl _) o)
theorem DS.drew (h : DS w0 w cb B v bs b c k p n tk tp tn) : DS w0 w.drew cb B v bs b c k p n tk tp tn := h.below (Below.drew (Below.refl _ _))
/-- Stores into the variable to. -/
theorem DS.set (h : DS w0 w cb B v bs b c k p n tk tp tn) {o : Nat} (u : Value) {tk' tp' tn' : Int} (ht : BoxAt (w.setCell ⟨c + 1, o, none⟩ u) (c + 1) tk' tp' tn') : DS w0 (w.setCell ⟨c + 1, o, none⟩ u) cb B v bs b c k p n tk' tp' tn' := by
  have h1 := h.lt
  have h2 := h.bc
  have h3 := h.ne
  have hb : Below (c + 1) w (w.setCell ⟨c + 1, o, none⟩ u) := (Below.refl (c + 1) w).setCell (p := ⟨c + 1, o, none⟩) (Nat.le_refl _) u
  exact ⟨h.cur.below_at hb (by omega), h.r2.below hb (by omega), h.r3.below hb (by omega), h.r4.below hb (by omega), h.fr.below hb (by omega), ht, fun q o hq => by rw [World.frozen?_setCell]; exact h.frz q o hq, h.bel.setNew (by show _ ≤ c + 1; have := h.base; omega) u, by simpa using h1, h2, h3, h.base⟩
theorem cell_off (w : World) {g o o' : Nat} (u : Value) (h : o ≠ o') : (w.setCell ⟨g, o, none⟩ u).cell? ⟨g, o', none⟩ = w.cell? ⟨g, o', none⟩ := World.cell?_setCell_other w _ _ _ (by intro e; cases e; exact h rfl)
theorem cell_blk (w : World) {g g' o o' : Nat} (u : Value) (h : g ≠ g') : (w.setCell ⟨g, o, none⟩ u).cell? ⟨g', o', none⟩ = w.cell? ⟨g', o', none⟩ := World.cell?_setCell_other w _ _ _ (by intro e; cases e; exact h rfl)
theorem box_1 (h : BoxAt w c k p n) (y : Int) : BoxAt (w.setCell ⟨c, 1, none⟩ (.int .i64 y)) c k y n :=
  ⟨(cell_off w _ (by omega)).trans h.1, World.cell?_setCell_same' w _ _ (by rw [h.2.1]; rfl), (cell_off w _ (by omega)).trans h.2.2⟩
theorem box_0 (h : BoxAt w c k p n) (y : Int) : BoxAt (w.setCell ⟨c, 0, none⟩ (.int .i64 y)) c y p n :=
  ⟨World.cell?_setCell_same' w _ _ (by rw [h.1]; rfl), (cell_off w _ (by omega)).trans h.2.1, (cell_off w _ (by omega)).trans h.2.2⟩
theorem box_2 (h : BoxAt w c k p n) (y : Int) : BoxAt (w.setCell ⟨c, 2, none⟩ (.int .i64 y)) c k p y :=
  ⟨(cell_off w _ (by omega)).trans h.1, (cell_off w _ (by omega)).trans h.2.1, World.cell?_setCell_same' w _ _ (by rw [h.2.2]; rfl)⟩
theorem DS.put1 (h : DS w0 w cb B v bs b c k p n tk tp tn) (y : Int) : DS w0 (w.setCell ⟨c + 1, 1, none⟩ (.int .i64 y)) cb B v bs b c k p n tk y tn := h.set _ (box_1 h.toB y)
theorem DS.put3 (h : DS w0 w cb B v bs b c k p n tk tp tn) (x y z : Int) : DS w0 (((w.setCell ⟨c + 1, 0, none⟩ (.int .i64 x)).setCell ⟨c + 1, 1, none⟩ (.int .i64 y)).setCell ⟨c + 1, 2, none⟩ (.int .i64 z)) cb B v bs b c k p n x y z := by
  have h1 := h.set (o := 0) _ (box_0 h.toB x)
  have h2 := h1.set (o := 1) _ (box_1 h1.toB y)
  exact h2.set (o := 2) _ (box_2 h2.toB z)
theorem DS.facts (h : DS w0 w cb B v bs b c k p n tk tp tn) : w.cell? ⟨c, 0, none⟩ = some (.int .i64 k) ∧ w.cell? ⟨c, 1, none⟩ = some (.int .i64 p) ∧ w.cell? ⟨c, 2, none⟩ = some (.int .i64 n) ∧
    w.cell? ⟨c + 1, 0, none⟩ = some (.int .i64 tk) ∧ w.cell? ⟨c + 1, 1, none⟩ = some (.int .i64 tp) ∧ w.cell? ⟨c + 1, 2, none⟩ = some (.int .i64 tn) ∧
    w.frozen? ⟨c + 1, 0, none⟩ = false ∧ w.frozen? ⟨c + 1, 1, none⟩ = false ∧ w.frozen? ⟨c + 1, 2, none⟩ = false :=
  ⟨h.fr.1, h.fr.2.1, h.fr.2.2, h.toB.1, h.toB.2.1, h.toB.2.2, h.frz _ 0 (by simp), h.frz _ 1 (by simp), h.frz _ 2 (by simp)⟩
theorem DS.facts2 (h : DS w0 w cb B v bs b c k p n tk tp tn) : w.cell? ⟨b, 0, none⟩ = some (.int .i64 0) ∧ w.cell? ⟨b, 1, none⟩ = some (.int .i64 0) ∧ w.cell? ⟨b, 2, none⟩ = some (.int .i64 0) ∧
    w.cell? ⟨b + 1, 0, none⟩ = some (.int .i64 0) ∧ w.cell? ⟨b + 1, 1, none⟩ = some (.int .i64 0) ∧ w.cell? ⟨b + 1, 2, none⟩ = some (.int .i64 0) ∧ w.cell? ⟨b + 1 + 1, 0, none⟩ = some (.int .i64 0) ∧ w.cell? ⟨b + 1 + 1, 1, none⟩ = some (.int .i64 0) ∧
    w.frozen? ⟨b, 0, none⟩ = false ∧ w.frozen? ⟨b, 1, none⟩ = false ∧ w.frozen? ⟨b, 2, none⟩ = false ∧ w.frozen? ⟨b + 1, 0, none⟩ = false ∧ w.frozen? ⟨b + 1, 1, none⟩ = false ∧ w.frozen? ⟨b + 1, 2, none⟩ = false ∧ w.frozen? ⟨b + 1 + 1, 0, none⟩ = false ∧ w.frozen? ⟨b + 1 + 1, 1, none⟩ = false :=
  ⟨h.r2.1, h.r2.2.1, h.r2.2.2, h.r3.1, h.r3.2.1, h.r3.2.2, h.r4.1, h.r4.2, h.frz _ 0 (by simp), h.frz _ 1 (by simp), h.frz _ 2 (by simp), h.frz _ 0 (by simp), h.frz _ 1 (by simp), h.frz _ 2 (by simp), h.frz _ 0 (by simp), h.frz _ 1 (by simp)⟩
end
/-- Worlds that come of stores into blocks before c. -/
inductive Sets (w : World) (c : Nat) : World → Prop where
  | refl : Sets w c w
  | set {w' : World} {q : Addr} {u : Value} : Sets w c w' → q.block < c → Sets w c (w'.setCell q u)
  | drew {w' : World} : Sets w c w' → Sets w c w'.drew
theorem Sets.cell {w w' : World} {c : Nat} (h : Sets w c w') {b o : Nat} (hb : c ≤ b) : w'.cell? ⟨b, o, none⟩ = w.cell? ⟨b, o, none⟩ := by
  induction h with
  | refl => rfl
  | drew _ ih => exact ih
  | set _ hq ih => exact (World.cell?_of_block (Below.heap_setCell _ _ _ b (by omega))).trans ih
abbrev Six (w : World) (c : Nat) (k p n tk tp tn : Int) : Prop := w.cell? ⟨c, 0, none⟩ = some (.int .i64 k) ∧ w.cell? ⟨c, 1, none⟩ = some (.int .i64 p) ∧ w.cell? ⟨c, 2, none⟩ = some (.int .i64 n) ∧
    w.cell? ⟨c + 1, 0, none⟩ = some (.int .i64 tk) ∧ w.cell? ⟨c + 1, 1, none⟩ = some (.int .i64 tp) ∧ w.cell? ⟨c + 1, 2, none⟩ = some (.int .i64 tn)
theorem DS.six {w0 w : World} {cb B b c : Nat} {v : Value} {bs : List UInt8} {k p n tk tp tn : Int} (h : DS w0 w cb B v bs b c k p n tk tp tn) {w' : World} (hs : Sets w c w') : Six w' c k p n tk tp tn :=
  ⟨(hs.cell (Nat.le_refl _)).trans h.fr.1, (hs.cell (Nat.le_refl _)).trans h.fr.2.1, (hs.cell (Nat.le_refl _)).trans h.fr.2.2, (hs.cell (Nat.le_succ _)).trans h.toB.1, (hs.cell (Nat.le_succ _)).trans h.toB.2.1, (hs.cell (Nat.le_succ _)).trans h.toB.2.2⟩
/-- What a drawn homomorphism answers. -/
def HomPost (cb B : Nat) (v : Value) (bs : List UInt8) (w : World) (e : Ending) (w' : World) : Prop := ∃ fk fp fn tk tp tn hk ha, e = .returned (.tuple #[ringV fk fp fn, ringV tk tp tn, homV hk ha]) ∧ homB fk fp fn tk tp tn hk ha = true ∧ CurOk w' cb B v bs ∧ KeptOut w w' cb (cb + 1)
/-- The eight stores of the results. -/
def put8 (w : World) (b : Nat) (a0 a1 a2 b0 b1 b2 c0 c1 : Value) : World :=
  (((((((w.setCell ⟨b, 0, none⟩ a0).setCell ⟨b, 1, none⟩ a1).setCell ⟨b, 2, none⟩ a2).setCell ⟨b + 1, 0, none⟩ b0).setCell ⟨b + 1, 1, none⟩ b1).setCell ⟨b + 1, 2, none⟩ b2).setCell ⟨b + 1 + 1, 0, none⟩ c0).setCell ⟨b + 1 + 1, 1, none⟩ c1
theorem DS.out {w0 w : World} {cb B b c : Nat} {v : Value} {bs : List UInt8} {k p n tk tp tn : Int} (h : DS w0 w cb B v bs b c k p n tk tp tn) (a0 a1 a2 b0 b1 b2 c0 c1 : Value) : CurOk (put8 w b a0 a1 a2 b0 b1 b2 c0 c1) cb B v bs ∧ KeptOut w0 (put8 w b a0 a1 a2 b0 b1 b2 c0 c1) cb (cb + 1) := by
  have hb := h.base
  refine ⟨h.cur.below_at (B' := b) ?_ h.ne, ?_⟩
  · exact ((((((((Below.refl b w).setCell (by show b ≤ b; omega) _).setCell (by show b ≤ b; omega) _).setCell (by show b ≤ b; omega) _).setCell (by show b ≤ b + 1; omega) _).setCell (by show b ≤ b + 1; omega) _).setCell (by show b ≤ b + 1; omega) _).setCell (by show b ≤ b + 1 + 1; omega) _).setCell (by show b ≤ b + 1 + 1; omega) _
  · exact (((((((h.bel.setNew (by show _ ≤ b; omega) _).setNew (by show _ ≤ b; omega) _).setNew (by show _ ≤ b; omega) _).setNew (by show _ ≤ b + 1; omega) _).setNew (by show _ ≤ b + 1; omega) _).setNew (by show _ ≤ b + 1; omega) _).setNew (by show _ ≤ b + 1 + 1; omega) _).setNew (by show _ ≤ b + 1 + 1; omega) _
theorem hb_of {fk fp fn tk tp tn hk ha : Int} (h1 : ringB fk fp fn = true) (h2 : ringB tk tp tn = true) (h3 : HomV fk fp fn tk tp tn hk ha) : homB fk fp fn tk tp tn hk ha = true := by
  unfold homB
  rw [h1, h2, decide_eq_true h3]; rfl
theorem root_of {a p : Int} (h : RootV a p) : rootI a p = 1 := by
  rcases rootI_cases a p with h1 | h1
  · exact h1.1
  · exact absurd h h1.2
theorem root17 : rootI 2 17 = 1 := root_of (by unfold RootV; decide)
theorem root97 : rootI 64 97 = 1 := root_of (by unfold RootV; decide)
theorem hom_post_still {w0 w : World} {cb B b c : Nat} {v : Value} {bs : List UInt8} {k p n tk tp tn : Int} (h : DS w0 w cb B v bs b c k p n tk tp tn) {x0 x1 x2 y0 y1 y2 z0 z1 : Int} (hh : homB x0 x1 x2 y0 y1 y2 z0 z1 = true) :
    HomPost cb B v bs w0 (.returned (.tuple #[ringV x0 x1 x2, ringV y0 y1 y2, homV z0 z1])) (put8 w b (.int .i64 x0) (.int .i64 x1) (.int .i64 x2) (.int .i64 y0) (.int .i64 y1) (.int .i64 y2) (.int .i64 z0) (.int .i64 z1)) := by
  obtain ⟨h1, h2⟩ := h.out (.int .i64 x0) (.int .i64 x1) (.int .i64 x2) (.int .i64 y0) (.int .i64 y1) (.int .i64 y2) (.int .i64 z0) (.int .i64 z1)
  exact ⟨x0, x1, x2, y0, y1, y2, z0, z1, rfl, hh, h1, h2⟩
theorem hom_post {w0 w : World} {cb B b c : Nat} {v : Value} {bs : List UInt8} {k p n tk tp tn : Int} (h : DS w0 w cb B v bs b c k p n tk tp tn) {x0 x1 x2 y0 y1 y2 z0 z1 : Int} (hh : homB x0 x1 x2 y0 y1 y2 z0 z1 = true) :
    HomPost cb B v bs w0 (.returned (.tuple #[ringV x0 x1 x2, ringV y0 y1 y2, homV z0 z1])) (put8 w b (.int .i64 x0) (.int .i64 x1) (.int .i64 x2) (.int .i64 y0) (.int .i64 y1) (.int .i64 y2) (.int .i64 z0) (.int .i64 z1)).drew := by
  obtain ⟨h1, h2⟩ := h.out (.int .i64 x0) (.int .i64 x1) (.int .i64 x2) (.int .i64 y0) (.int .i64 y1) (.int .i64 y2) (.int .i64 z0) (.int .i64 z1)
  have hb := Below.drew (Below.refl (put8 w b (.int .i64 x0) (.int .i64 x1) (.int .i64 x2) (.int .i64 y0) (.int .i64 y1) (.int .i64 y2) (.int .i64 z0) (.int .i64 z1)).heap.size (put8 w b (.int .i64 x0) (.int .i64 x1) (.int .i64 x2) (.int .i64 y0) (.int .i64 y1) (.int .i64 y2) (.int .i64 z0) (.int .i64 z1)))
  exact ⟨x0, x1, x2, y0, y1, y2, z0, z1, rfl, hh, h1.below hb, h2.trans (KeptOut.of_below hb)⟩
end Go.Proofs.Ytfdjlahaiogabab
namespace Go.Proofs.Ytfdjlahaiogabab
set_option maxRecDepth 20000
open Go.RowKit

set_option maxHeartbeats 12800000 in
set_option maxRecDepth 100000 in
theorem draw_hom {cb B : Nat} {v : Value} {bs : List UInt8} {w : World} (hc : CurOk w cb B v bs) :
    Calls Try.prog 111 #[.pointer (some ⟨cb, 0, none⟩)] w (HomPost cb B v bs w) := by
  have hcb := hc.lo
  have HCB := Lib.hid hcb
  have HW3 := Lib.hid ((((Below.refl w.heap.size w).alloc (Nat.le_refl _) (.cells #[.int .i64 0, .int .i64 0, .int .i64 0] 31)).alloc (by simp) (.cells #[.int .i64 0, .int .i64 0, .int .i64 0] 31)).alloc (by simp; omega) (.cells #[.int .i64 0, .int .i64 0] 45))
  have HC3 := Lib.hid (hc.below HW3.out)
  clear hc hcb
  go_enter Try.func111, Try.ntmps111
  go_wp2_with fail
  refine (draw_ring HC3.out).mono ?_
  rintro e w1 ⟨k, p, n, rfl, hk, hc1, hko⟩
  have hsz : ((((w.alloc (.cells #[.int .i64 0, .int .i64 0, .int .i64 0] 31)).alloc (.cells #[.int .i64 0, .int .i64 0, .int .i64 0] 31)).alloc (.cells #[.int .i64 0, .int .i64 0] 45))).heap.size = w.heap.size + 1 + 1 + 1 := by simp
  have hs1 : w.heap.size + 1 + 1 + 1 ≤ w1.heap.size := by have := hko.2.2.2.1; omega
  have DS0 : Hid (DS w ((w1.alloc (.cells #[.int .i64 k, .int .i64 p, .int .i64 n] 31)).alloc (.cells #[.int .i64 1, .int .i64 0, .int .i64 0] 31)) cb B v bs w.heap.size w1.heap.size k p n 1 0 0) := Lib.hid (by
    have hb1 := (Below.refl w1.heap.size w1).alloc (Nat.le_refl _) (.cells #[.int .i64 k, .int .i64 p, .int .i64 n] 31)
    have hb2 := (Below.refl (w1.alloc (.cells #[.int .i64 k, .int .i64 p, .int .i64 n] 31)).heap.size (w1.alloc (.cells #[.int .i64 k, .int .i64 p, .int .i64 n] 31))).alloc (Nat.le_refl _) (.cells #[.int .i64 1, .int .i64 0, .int .i64 0] 31)
    have hb := hb1.trans (hb2.mono (by simp))
    have hlt := HCB.out.2
    have x2 : BoxAt (((w.alloc (.cells #[.int .i64 0, .int .i64 0, .int .i64 0] 31)).alloc (.cells #[.int .i64 0, .int .i64 0, .int .i64 0] 31)).alloc (.cells #[.int .i64 0, .int .i64 0] 45)) w.heap.size 0 0 0 :=
      (BoxAt.new w 0 0 0 31).below (((Below.refl (w.alloc (.cells (ringC 0 0 0) 31)).heap.size _).alloc (Nat.le_refl _) (.cells #[.int .i64 0, .int .i64 0, .int .i64 0] 31)).alloc (by simp) (.cells #[.int .i64 0, .int .i64 0] 45)) (by simp)
    have x3 : BoxAt (((w.alloc (.cells #[.int .i64 0, .int .i64 0, .int .i64 0] 31)).alloc (.cells #[.int .i64 0, .int .i64 0, .int .i64 0] 31)).alloc (.cells #[.int .i64 0, .int .i64 0] 45)) (w.heap.size + 1) 0 0 0 := by
      have h := (BoxAt.new (w.alloc (.cells #[.int .i64 0, .int .i64 0, .int .i64 0] 31)) 0 0 0 31).below ((Below.refl _ _).alloc (Nat.le_refl _) (.cells #[.int .i64 0, .int .i64 0] 45)) (by simp)
      rw [World.size_alloc] at h
      exact h
    have x4 : HomAt (((w.alloc (.cells #[.int .i64 0, .int .i64 0, .int .i64 0] 31)).alloc (.cells #[.int .i64 0, .int .i64 0, .int .i64 0] 31)).alloc (.cells #[.int .i64 0, .int .i64 0] 45)) (w.heap.size + 1 + 1) 0 0 := by
      have h := HomAt.new ((w.alloc (.cells #[.int .i64 0, .int .i64 0, .int .i64 0] 31)).alloc (.cells #[.int .i64 0, .int .i64 0, .int .i64 0] 31)) 0 0 45
      rw [World.size_alloc, World.size_alloc] at h
      exact h
    have f0 : ∀ q o, (q = w.heap.size ∨ q = w.heap.size + 1 ∨ q = w.heap.size + 1 + 1) → (((w.alloc (.cells #[.int .i64 0, .int .i64 0, .int .i64 0] 31)).alloc (.cells #[.int .i64 0, .int .i64 0, .int .i64 0] 31)).alloc (.cells #[.int .i64 0, .int .i64 0] 45)).frozen? ⟨q, o, none⟩ = false := by
      rintro q o (rfl | rfl | rfl)
      · rw [frozen?_alloc_cells, frozen?_alloc_cells]; simp
      · simp [World.frozen?_alloc_at, World.frozen?_alloc_past]
      · simp [World.frozen?_alloc_at]
    refine ⟨hc1.below hb, (hko.box x2 (by omega) (.inr (by omega))).below hb (by omega), (hko.box x3 (by omega) (.inr (by omega))).below hb (by omega), (hko.hom x4 (by omega) (.inr (by omega))).below hb (by omega),
      (BoxAt.new w1 k p n 31).below hb2 (by simp), ?_, ?_, ((KeptOut.of_below HW3.out).trans hko).trans (KeptOut.of_below hb), by simp, by omega, by omega, Nat.le_refl _⟩
    · have h := BoxAt.new (w1.alloc (.cells #[.int .i64 k, .int .i64 p, .int .i64 n] 31)) 1 0 0 31
      rw [World.size_alloc] at h
      exact h
    · intro q o hq
      by_cases e : q = w1.heap.size + 1
      · subst e; simp
      · have hq2 : q = w.heap.size ∨ q = w.heap.size + 1 ∨ q = w.heap.size + 1 + 1 := by omega
        rw [hb.frozen (p := ⟨q, o, none⟩) (by show q < _; omega), hko.frozen (by omega) (.inr (by omega))]
        exact f0 q o hq2)
  have HK := Lib.hid hk
  have HRC := Lib.hid (ring_cases hk)
  clear hk hc1 hko HC3 HW3 hsz
  obtain ⟨c0, c1, c2, d0, d1, d2, g0, g1, g2⟩ := DS0.out.facts
  have hbc : w.heap.size + 1 + 1 < w1.heap.size := by omega
  have HK0 := Lib.hid HK.out
  clear HK
  rcases HRC.out with ⟨rfl, rfl, rfl⟩ | ⟨rfl, hp1, hp2, rfl⟩ | ⟨rfl, hp1, hp2, rfl⟩ | ⟨rfl, hp1, hp2, rfl⟩ | ⟨rfl, hp1, hp2, rfl⟩ | ⟨rfl, rfl, hp1, hp2⟩ | ⟨rfl, hp1, hp2, hp3, hp4⟩ | ⟨rfl, hp1, hp2, rfl⟩
  · clear HRC
    have DSa := Lib.hid (DS0.out.alloc (.cells #[.int .i64 4, .int .i64 5] 3))
    go_wp2_with fail
    refine (cur_pick (p := w1.heap.size + 1 + 1) (m := 2) (zs := [4, 5]) rfl (by omega) (by omega) DSa.out.cur (by have := HCB.out; omega) (by simp) (fun i hi => by match i, hi with | 0, _ => simp [World.cell?_alloc_at] | 1, _ => simp [World.cell?_alloc_at])).mono ?_
    rintro e w2 ⟨z, rfl, hz, hc, hk⟩
    have DS1 := Lib.hid (DSa.out.kept hk hc)
    clear hc hk
    clear c0 c1 c2 d0 d1 d2 g0 g1 g2
    obtain ⟨c0, c1, c2, d0, d1, d2, g0, g1, g2⟩ := DS1.out.facts
    have HZ := Lib.hid (show z = 4 ∨ z = 5 by simpa using hz)
    clear hz
    go_wp2_with fail
    refine (cur_below 9 (by omega) (by omega) DS1.out.cur).mono ?_
    rintro e w3 ⟨x, rfl, hx, hc, hk⟩
    have DS2 := Lib.hid (DS1.out.kept hk hc)
    clear hc hk
    clear c0 c1 c2 d0 d1 d2 g0 g1 g2
    obtain ⟨c0, c1, c2, d0, d1, d2, g0, g1, g2⟩ := DS2.out.facts
    have DS3 := Lib.hid (DS2.out.put3 z (1 + (x : Int)) 0)
    go_wp2_with fail
    refine (cur_once 3 (by omega) (by omega) DS3.out.cur).mono ?_
    rintro e w4 ⟨y, rfl, hc, hk⟩
    have DS4 := Lib.hid (DS3.out.kept hk hc)
    clear hc hk
    clear c0 c1 c2 d0 d1 d2 g0 g1 g2
    obtain ⟨c0, c1, c2, d0, d1, d2, g0, g1, g2⟩ := DS4.out.facts
    cases y with
    | false =>
      go_wp2
      clear c0 c1 c2 d0 d1 d2 g0 g1 g2
      obtain ⟨c0, c1, c2, d0, d1, d2, g0, g1, g2⟩ := DS4.out.facts
      obtain ⟨r0, r1, r2, r3, r4, r5, r6, r7, f0, f1, f2, f3, f4, f5, f6, f7⟩ := DS4.out.facts2
      have HK := Lib.hid (fun (w' : World) (hs : Sets w4 w1.heap.size w') => DS4.out.six hs)
      go_region_held3 (fun w' => w'.cell? ⟨w1.heap.size, 0, none⟩ = some (.int .i64 (1)) ∧ w'.cell? ⟨w1.heap.size, 1, none⟩ = some (.int .i64 (0)) ∧ w'.cell? ⟨w1.heap.size, 2, none⟩ = some (.int .i64 (0)) ∧ w'.cell? ⟨w1.heap.size + 1, 0, none⟩ = some (.int .i64 (z)) ∧ w'.cell? ⟨w1.heap.size + 1, 1, none⟩ = some (.int .i64 (1 + (x : Int))) ∧ w'.cell? ⟨w1.heap.size + 1, 2, none⟩ = some (.int .i64 (0))) (exact HK.out _ (by repeat (first | with_reducible refine Sets.drew ?_ | with_reducible refine Sets.set ?_ (by dsimp only; omega) | with_reducible exact Sets.refl))) (first | fail)
      go_wp2
      refine bodyPost_ret (v := .tuple #[ringV (1) (0) (0), ringV (z) (1 + (x : Int)) (0), homV (8) (0)]) (by simp [results, Try.results111, go_sem, r0, r1, r2, r3, r4, r5, r6, r7]) rfl ?_
      exact hom_post DS4.out (hb_of HK0.out (by rcases HZ.out with rfl | rfl <;> simp [ringB] <;> omega) (by have := HZ.out; unfold HomV BareV CutV; simp <;> omega))
    | true =>
      go_wp2_with fail
      refine (cur_below 9 (by omega) (by omega) DS4.out.cur).mono ?_
      rintro e w5 ⟨u, rfl, hu, hc, hk⟩
      have DS5 := Lib.hid (DS4.out.kept hk hc)
      clear hc hk
      clear c0 c1 c2 d0 d1 d2 g0 g1 g2
      obtain ⟨c0, c1, c2, d0, d1, d2, g0, g1, g2⟩ := DS5.out.facts
      have DS6 := Lib.hid (DS5.out.put3 6 0 (1 + (u : Int)))
      go_wp2
      generalize hWW : ((w5.setCell ⟨w1.heap.size + 1, 0, none⟩ (.int .i64 6)).setCell ⟨w1.heap.size + 1, 1, none⟩ (.int .i64 0)).setCell ⟨w1.heap.size + 1, 2, none⟩ (.int .i64 (1 + (u : Int))) = W at DS6 ⊢
      clear hWW
      go_wp2
      clear c0 c1 c2 d0 d1 d2 g0 g1 g2
      obtain ⟨c0, c1, c2, d0, d1, d2, g0, g1, g2⟩ := DS6.out.facts
      obtain ⟨r0, r1, r2, r3, r4, r5, r6, r7, f0, f1, f2, f3, f4, f5, f6, f7⟩ := DS6.out.facts2
      have HK := Lib.hid (fun (w' : World) (hs : Sets W w1.heap.size w') => DS6.out.six hs)
      go_region_held3 (fun w' => w'.cell? ⟨w1.heap.size, 0, none⟩ = some (.int .i64 (1)) ∧ w'.cell? ⟨w1.heap.size, 1, none⟩ = some (.int .i64 (0)) ∧ w'.cell? ⟨w1.heap.size, 2, none⟩ = some (.int .i64 (0)) ∧ w'.cell? ⟨w1.heap.size + 1, 0, none⟩ = some (.int .i64 (6)) ∧ w'.cell? ⟨w1.heap.size + 1, 1, none⟩ = some (.int .i64 (0)) ∧ w'.cell? ⟨w1.heap.size + 1, 2, none⟩ = some (.int .i64 (1 + (u : Int)))) (exact HK.out _ (by repeat (first | with_reducible refine Sets.drew ?_ | with_reducible refine Sets.set ?_ (by dsimp only; omega) | with_reducible exact Sets.refl))) (first | fail)
      go_wp2
      refine bodyPost_ret (v := .tuple #[ringV (1) (0) (0), ringV (6) (0) (1 + (u : Int)), homV (8) (0)]) (by simp [results, Try.results111, go_sem, r0, r1, r2, r3, r4, r5, r6, r7]) rfl ?_
      exact hom_post DS6.out (hb_of HK0.out (by simp [ringB]; omega) (by unfold HomV BareV CutV; simp <;> omega))
  · clear HRC
    go_wp2
    generalize hWW : (w1.alloc (.cells #[.int .i64 2, .int .i64 p, .int .i64 0] 31)).alloc (.cells #[.int .i64 1, .int .i64 0, .int .i64 0] 31) = W at DS0 ⊢
    clear hWW
    clear c0 c1 c2 d0 d1 d2 g0 g1 g2
    obtain ⟨c0, c1, c2, d0, d1, d2, g0, g1, g2⟩ := DS0.out.facts
    obtain ⟨r0, r1, r2, r3, r4, r5, r6, r7, f0, f1, f2, f3, f4, f5, f6, f7⟩ := DS0.out.facts2
    have HK := Lib.hid (fun (w' : World) (hs : Sets W w1.heap.size w') => DS0.out.six hs)
    go_region_held3 (fun w' => w'.cell? ⟨w1.heap.size, 0, none⟩ = some (.int .i64 (2)) ∧ w'.cell? ⟨w1.heap.size, 1, none⟩ = some (.int .i64 (p)) ∧ w'.cell? ⟨w1.heap.size, 2, none⟩ = some (.int .i64 (0)) ∧ w'.cell? ⟨w1.heap.size + 1, 0, none⟩ = some (.int .i64 (1)) ∧ w'.cell? ⟨w1.heap.size + 1, 1, none⟩ = some (.int .i64 (0)) ∧ w'.cell? ⟨w1.heap.size + 1, 2, none⟩ = some (.int .i64 (0))) (exact HK.out _ (by repeat (first | with_reducible refine Sets.drew ?_ | with_reducible refine Sets.set ?_ (by dsimp only; omega) | with_reducible exact Sets.refl))) (first | fail)
    go_wp2
    refine bodyPost_ret (v := .tuple #[ringV (2) (p) (0), ringV (2) (p) (0), homV (1) (0)]) (by simp [results, Try.results111, go_sem, r0, r1, r2, r3, r4, r5, r6, r7]) rfl ?_
    exact hom_post DS0.out (hb_of HK0.out HK0.out (by unfold HomV BareV CutV; simp <;> omega))
  · clear HRC
    go_wp2_with fail
    refine (cur_once 2 (by omega) (by omega) DS0.out.cur).mono ?_
    rintro e w2 ⟨y, rfl, hc, hk⟩
    have DS1 := Lib.hid (DS0.out.kept hk hc)
    clear hc hk
    clear c0 c1 c2 d0 d1 d2 g0 g1 g2
    obtain ⟨c0, c1, c2, d0, d1, d2, g0, g1, g2⟩ := DS1.out.facts
    cases y with
    | false =>
      by_cases h200 : 200 < p
      case pos =>
        have DSp := Lib.hid (DS1.out.put3 3 p 0)
        go_wp2_with fail
        refine (cur_below 200 (by omega) (by omega) DSp.out.cur).mono ?_
        rintro e w6 ⟨x, rfl, hx, hc, hk⟩
        have DSq := Lib.hid (DSp.out.kept hk hc)
        clear hc hk
        clear c0 c1 c2 d0 d1 d2 g0 g1 g2
        obtain ⟨c0, c1, c2, d0, d1, d2, g0, g1, g2⟩ := DSq.out.facts
        have hw : IntKind.i64.wrap (1 + (x : Int)) = 1 + (x : Int) := IntWalk.i64_in _ (by omega)
        have DSr := Lib.hid (DSq.out.put1 (1 + (x : Int)))
        go_wp2
        generalize hWW : w6.setCell ⟨w1.heap.size + 1, 1, none⟩ (.int .i64 (1 + (x : Int))) = W at DSr ⊢
        clear hWW
        go_wp2
        clear c0 c1 c2 d0 d1 d2 g0 g1 g2
        obtain ⟨c0, c1, c2, d0, d1, d2, g0, g1, g2⟩ := DSr.out.facts
        obtain ⟨r0, r1, r2, r3, r4, r5, r6, r7, f0, f1, f2, f3, f4, f5, f6, f7⟩ := DSr.out.facts2
        have HK := Lib.hid (fun (w' : World) (hs : Sets W w1.heap.size w') => DSr.out.six hs)
        go_region_held3 (fun w' => w'.cell? ⟨w1.heap.size, 0, none⟩ = some (.int .i64 (3)) ∧ w'.cell? ⟨w1.heap.size, 1, none⟩ = some (.int .i64 (p)) ∧ w'.cell? ⟨w1.heap.size, 2, none⟩ = some (.int .i64 (0)) ∧ w'.cell? ⟨w1.heap.size + 1, 0, none⟩ = some (.int .i64 (3)) ∧ w'.cell? ⟨w1.heap.size + 1, 1, none⟩ = some (.int .i64 (1 + (x : Int))) ∧ w'.cell? ⟨w1.heap.size + 1, 2, none⟩ = some (.int .i64 (0))) (exact HK.out _ (by repeat (first | with_reducible refine Sets.drew ?_ | with_reducible refine Sets.set ?_ (by dsimp only; omega) | with_reducible exact Sets.refl))) (first | fail)
        go_wp2
        refine bodyPost_ret (v := .tuple #[ringV (3) (p) (0), ringV (3) (1 + (x : Int)) (0), homV (7) (0)]) (by simp [results, Try.results111, go_sem, r0, r1, r2, r3, r4, r5, r6, r7]) rfl ?_
        exact hom_post DSr.out (hb_of HK0.out (by simp [ringB]; omega) (by unfold HomV BareV CutV; simp <;> omega))
      case neg =>
        obtain ⟨m, rfl⟩ := Int.eq_ofNat_of_zero_le (show 0 ≤ p by omega)
        have DSp := Lib.hid (DS1.out.put3 3 (m : Int) 0)
        go_wp2_with fail
        refine (cur_below m (by omega) (by omega) DSp.out.cur).mono ?_
        rintro e w6 ⟨x, rfl, hx, hc, hk⟩
        have DSq := Lib.hid (DSp.out.kept hk hc)
        clear hc hk
        clear c0 c1 c2 d0 d1 d2 g0 g1 g2
        obtain ⟨c0, c1, c2, d0, d1, d2, g0, g1, g2⟩ := DSq.out.facts
        have hw : IntKind.i64.wrap (1 + (x : Int)) = 1 + (x : Int) := IntWalk.i64_in _ (by omega)
        have DSr := Lib.hid (DSq.out.put1 (1 + (x : Int)))
        go_wp2
        generalize hWW : w6.setCell ⟨w1.heap.size + 1, 1, none⟩ (.int .i64 (1 + (x : Int))) = W at DSr ⊢
        clear hWW
        go_wp2
        clear c0 c1 c2 d0 d1 d2 g0 g1 g2
        obtain ⟨c0, c1, c2, d0, d1, d2, g0, g1, g2⟩ := DSr.out.facts
        obtain ⟨r0, r1, r2, r3, r4, r5, r6, r7, f0, f1, f2, f3, f4, f5, f6, f7⟩ := DSr.out.facts2
        have HK := Lib.hid (fun (w' : World) (hs : Sets W w1.heap.size w') => DSr.out.six hs)
        go_region_held3 (fun w' => w'.cell? ⟨w1.heap.size, 0, none⟩ = some (.int .i64 (3)) ∧ w'.cell? ⟨w1.heap.size, 1, none⟩ = some (.int .i64 ((m : Int))) ∧ w'.cell? ⟨w1.heap.size, 2, none⟩ = some (.int .i64 (0)) ∧ w'.cell? ⟨w1.heap.size + 1, 0, none⟩ = some (.int .i64 (3)) ∧ w'.cell? ⟨w1.heap.size + 1, 1, none⟩ = some (.int .i64 (1 + (x : Int))) ∧ w'.cell? ⟨w1.heap.size + 1, 2, none⟩ = some (.int .i64 (0))) (exact HK.out _ (by repeat (first | with_reducible refine Sets.drew ?_ | with_reducible refine Sets.set ?_ (by dsimp only; omega) | with_reducible exact Sets.refl))) (first | fail)
        go_wp2
        refine bodyPost_ret (v := .tuple #[ringV (3) ((m : Int)) (0), ringV (3) (1 + (x : Int)) (0), homV (7) (0)]) (by simp [results, Try.results111, go_sem, r0, r1, r2, r3, r4, r5, r6, r7]) rfl ?_
        exact hom_post DSr.out (hb_of HK0.out (by simp [ringB]; omega) (by unfold HomV BareV CutV; simp <;> omega))
    | true =>
      go_wp2
      clear c0 c1 c2 d0 d1 d2 g0 g1 g2
      obtain ⟨c0, c1, c2, d0, d1, d2, g0, g1, g2⟩ := DS1.out.facts
      obtain ⟨r0, r1, r2, r3, r4, r5, r6, r7, f0, f1, f2, f3, f4, f5, f6, f7⟩ := DS1.out.facts2
      have HK := Lib.hid (fun (w' : World) (hs : Sets w2 w1.heap.size w') => DS1.out.six hs)
      go_region_held3 (fun w' => w'.cell? ⟨w1.heap.size, 0, none⟩ = some (.int .i64 (3)) ∧ w'.cell? ⟨w1.heap.size, 1, none⟩ = some (.int .i64 (p)) ∧ w'.cell? ⟨w1.heap.size, 2, none⟩ = some (.int .i64 (0)) ∧ w'.cell? ⟨w1.heap.size + 1, 0, none⟩ = some (.int .i64 (1)) ∧ w'.cell? ⟨w1.heap.size + 1, 1, none⟩ = some (.int .i64 (0)) ∧ w'.cell? ⟨w1.heap.size + 1, 2, none⟩ = some (.int .i64 (0))) (exact HK.out _ (by repeat (first | with_reducible refine Sets.drew ?_ | with_reducible refine Sets.set ?_ (by dsimp only; omega) | with_reducible exact Sets.refl))) (first | fail)
      go_wp2
      refine bodyPost_ret (v := .tuple #[ringV (3) (p) (0), ringV (1) (0) (0), homV (2) (0)]) (by simp [results, Try.results111, go_sem, r0, r1, r2, r3, r4, r5, r6, r7]) rfl ?_
      exact hom_post DS1.out (hb_of HK0.out (by simp [ringB]) (by unfold HomV BareV CutV; simp <;> omega))
  · clear HRC
    go_wp2_with fail
    refine (cur_once 2 (by omega) (by omega) DS0.out.cur).mono ?_
    rintro e w2 ⟨y, rfl, hc, hk⟩
    have DS1 := Lib.hid (DS0.out.kept hk hc)
    clear hc hk
    clear c0 c1 c2 d0 d1 d2 g0 g1 g2
    obtain ⟨c0, c1, c2, d0, d1, d2, g0, g1, g2⟩ := DS1.out.facts
    cases y with
    | false =>
      by_cases h200 : 200 < p
      case pos =>
        have DSp := Lib.hid (DS1.out.put3 4 p 0)
        go_wp2_with fail
        refine (cur_below 200 (by omega) (by omega) DSp.out.cur).mono ?_
        rintro e w6 ⟨x, rfl, hx, hc, hk⟩
        have DSq := Lib.hid (DSp.out.kept hk hc)
        clear hc hk
        clear c0 c1 c2 d0 d1 d2 g0 g1 g2
        obtain ⟨c0, c1, c2, d0, d1, d2, g0, g1, g2⟩ := DSq.out.facts
        have hw : IntKind.i64.wrap (1 + (x : Int)) = 1 + (x : Int) := IntWalk.i64_in _ (by omega)
        have DSr := Lib.hid (DSq.out.put1 (1 + (x : Int)))
        go_wp2
        generalize hWW : w6.setCell ⟨w1.heap.size + 1, 1, none⟩ (.int .i64 (1 + (x : Int))) = W at DSr ⊢
        clear hWW
        go_wp2
        clear c0 c1 c2 d0 d1 d2 g0 g1 g2
        obtain ⟨c0, c1, c2, d0, d1, d2, g0, g1, g2⟩ := DSr.out.facts
        obtain ⟨r0, r1, r2, r3, r4, r5, r6, r7, f0, f1, f2, f3, f4, f5, f6, f7⟩ := DSr.out.facts2
        have HK := Lib.hid (fun (w' : World) (hs : Sets W w1.heap.size w') => DSr.out.six hs)
        go_region_held3 (fun w' => w'.cell? ⟨w1.heap.size, 0, none⟩ = some (.int .i64 (4)) ∧ w'.cell? ⟨w1.heap.size, 1, none⟩ = some (.int .i64 (p)) ∧ w'.cell? ⟨w1.heap.size, 2, none⟩ = some (.int .i64 (0)) ∧ w'.cell? ⟨w1.heap.size + 1, 0, none⟩ = some (.int .i64 (4)) ∧ w'.cell? ⟨w1.heap.size + 1, 1, none⟩ = some (.int .i64 (1 + (x : Int))) ∧ w'.cell? ⟨w1.heap.size + 1, 2, none⟩ = some (.int .i64 (0))) (exact HK.out _ (by repeat (first | with_reducible refine Sets.drew ?_ | with_reducible refine Sets.set ?_ (by dsimp only; omega) | with_reducible exact Sets.refl))) (first | fail)
        go_wp2
        refine bodyPost_ret (v := .tuple #[ringV (4) (p) (0), ringV (4) (1 + (x : Int)) (0), homV (7) (0)]) (by simp [results, Try.results111, go_sem, r0, r1, r2, r3, r4, r5, r6, r7]) rfl ?_
        exact hom_post DSr.out (hb_of HK0.out (by simp [ringB]; omega) (by unfold HomV BareV CutV; simp <;> omega))
      case neg =>
        obtain ⟨m, rfl⟩ := Int.eq_ofNat_of_zero_le (show 0 ≤ p by omega)
        have DSp := Lib.hid (DS1.out.put3 4 (m : Int) 0)
        go_wp2_with fail
        refine (cur_below m (by omega) (by omega) DSp.out.cur).mono ?_
        rintro e w6 ⟨x, rfl, hx, hc, hk⟩
        have DSq := Lib.hid (DSp.out.kept hk hc)
        clear hc hk
        clear c0 c1 c2 d0 d1 d2 g0 g1 g2
        obtain ⟨c0, c1, c2, d0, d1, d2, g0, g1, g2⟩ := DSq.out.facts
        have hw : IntKind.i64.wrap (1 + (x : Int)) = 1 + (x : Int) := IntWalk.i64_in _ (by omega)
        have DSr := Lib.hid (DSq.out.put1 (1 + (x : Int)))
        go_wp2
        generalize hWW : w6.setCell ⟨w1.heap.size + 1, 1, none⟩ (.int .i64 (1 + (x : Int))) = W at DSr ⊢
        clear hWW
        go_wp2
        clear c0 c1 c2 d0 d1 d2 g0 g1 g2
        obtain ⟨c0, c1, c2, d0, d1, d2, g0, g1, g2⟩ := DSr.out.facts
        obtain ⟨r0, r1, r2, r3, r4, r5, r6, r7, f0, f1, f2, f3, f4, f5, f6, f7⟩ := DSr.out.facts2
        have HK := Lib.hid (fun (w' : World) (hs : Sets W w1.heap.size w') => DSr.out.six hs)
        go_region_held3 (fun w' => w'.cell? ⟨w1.heap.size, 0, none⟩ = some (.int .i64 (4)) ∧ w'.cell? ⟨w1.heap.size, 1, none⟩ = some (.int .i64 ((m : Int))) ∧ w'.cell? ⟨w1.heap.size, 2, none⟩ = some (.int .i64 (0)) ∧ w'.cell? ⟨w1.heap.size + 1, 0, none⟩ = some (.int .i64 (4)) ∧ w'.cell? ⟨w1.heap.size + 1, 1, none⟩ = some (.int .i64 (1 + (x : Int))) ∧ w'.cell? ⟨w1.heap.size + 1, 2, none⟩ = some (.int .i64 (0))) (exact HK.out _ (by repeat (first | with_reducible refine Sets.drew ?_ | with_reducible refine Sets.set ?_ (by dsimp only; omega) | with_reducible exact Sets.refl))) (first | fail)
        go_wp2
        refine bodyPost_ret (v := .tuple #[ringV (4) ((m : Int)) (0), ringV (4) (1 + (x : Int)) (0), homV (7) (0)]) (by simp [results, Try.results111, go_sem, r0, r1, r2, r3, r4, r5, r6, r7]) rfl ?_
        exact hom_post DSr.out (hb_of HK0.out (by simp [ringB]; omega) (by unfold HomV BareV CutV; simp <;> omega))
    | true =>
      go_wp2
      clear c0 c1 c2 d0 d1 d2 g0 g1 g2
      obtain ⟨c0, c1, c2, d0, d1, d2, g0, g1, g2⟩ := DS1.out.facts
      obtain ⟨r0, r1, r2, r3, r4, r5, r6, r7, f0, f1, f2, f3, f4, f5, f6, f7⟩ := DS1.out.facts2
      have HK := Lib.hid (fun (w' : World) (hs : Sets w2 w1.heap.size w') => DS1.out.six hs)
      go_region_held3 (fun w' => w'.cell? ⟨w1.heap.size, 0, none⟩ = some (.int .i64 (4)) ∧ w'.cell? ⟨w1.heap.size, 1, none⟩ = some (.int .i64 (p)) ∧ w'.cell? ⟨w1.heap.size, 2, none⟩ = some (.int .i64 (0)) ∧ w'.cell? ⟨w1.heap.size + 1, 0, none⟩ = some (.int .i64 (1)) ∧ w'.cell? ⟨w1.heap.size + 1, 1, none⟩ = some (.int .i64 (0)) ∧ w'.cell? ⟨w1.heap.size + 1, 2, none⟩ = some (.int .i64 (0))) (exact HK.out _ (by repeat (first | with_reducible refine Sets.drew ?_ | with_reducible refine Sets.set ?_ (by dsimp only; omega) | with_reducible exact Sets.refl))) (first | fail)
      go_wp2
      refine bodyPost_ret (v := .tuple #[ringV (4) (p) (0), ringV (1) (0) (0), homV (2) (0)]) (by simp [results, Try.results111, go_sem, r0, r1, r2, r3, r4, r5, r6, r7]) rfl ?_
      exact hom_post DS1.out (hb_of HK0.out (by simp [ringB]) (by unfold HomV BareV CutV; simp <;> omega))
  · clear HRC
    go_wp2_with fail
    refine (cur_once 2 (by omega) (by omega) DS0.out.cur).mono ?_
    rintro e w2 ⟨y, rfl, hc, hk⟩
    have DS1 := Lib.hid (DS0.out.kept hk hc)
    clear hc hk
    clear c0 c1 c2 d0 d1 d2 g0 g1 g2
    obtain ⟨c0, c1, c2, d0, d1, d2, g0, g1, g2⟩ := DS1.out.facts
    cases y with
    | false =>
      by_cases h200 : 200 < p
      case pos =>
        have DSp := Lib.hid (DS1.out.put3 5 p 0)
        go_wp2_with fail
        refine (cur_below 200 (by omega) (by omega) DSp.out.cur).mono ?_
        rintro e w6 ⟨x, rfl, hx, hc, hk⟩
        have DSq := Lib.hid (DSp.out.kept hk hc)
        clear hc hk
        clear c0 c1 c2 d0 d1 d2 g0 g1 g2
        obtain ⟨c0, c1, c2, d0, d1, d2, g0, g1, g2⟩ := DSq.out.facts
        have hw : IntKind.i64.wrap (1 + (x : Int)) = 1 + (x : Int) := IntWalk.i64_in _ (by omega)
        have DSr := Lib.hid (DSq.out.put1 (1 + (x : Int)))
        go_wp2
        generalize hWW : w6.setCell ⟨w1.heap.size + 1, 1, none⟩ (.int .i64 (1 + (x : Int))) = W at DSr ⊢
        clear hWW
        go_wp2
        clear c0 c1 c2 d0 d1 d2 g0 g1 g2
        obtain ⟨c0, c1, c2, d0, d1, d2, g0, g1, g2⟩ := DSr.out.facts
        obtain ⟨r0, r1, r2, r3, r4, r5, r6, r7, f0, f1, f2, f3, f4, f5, f6, f7⟩ := DSr.out.facts2
        have HK := Lib.hid (fun (w' : World) (hs : Sets W w1.heap.size w') => DSr.out.six hs)
        go_region_held3 (fun w' => w'.cell? ⟨w1.heap.size, 0, none⟩ = some (.int .i64 (5)) ∧ w'.cell? ⟨w1.heap.size, 1, none⟩ = some (.int .i64 (p)) ∧ w'.cell? ⟨w1.heap.size, 2, none⟩ = some (.int .i64 (0)) ∧ w'.cell? ⟨w1.heap.size + 1, 0, none⟩ = some (.int .i64 (5)) ∧ w'.cell? ⟨w1.heap.size + 1, 1, none⟩ = some (.int .i64 (1 + (x : Int))) ∧ w'.cell? ⟨w1.heap.size + 1, 2, none⟩ = some (.int .i64 (0))) (exact HK.out _ (by repeat (first | with_reducible refine Sets.drew ?_ | with_reducible refine Sets.set ?_ (by dsimp only; omega) | with_reducible exact Sets.refl))) (first | fail)
        go_wp2
        refine bodyPost_ret (v := .tuple #[ringV (5) (p) (0), ringV (5) (1 + (x : Int)) (0), homV (7) (0)]) (by simp [results, Try.results111, go_sem, r0, r1, r2, r3, r4, r5, r6, r7]) rfl ?_
        exact hom_post DSr.out (hb_of HK0.out (by simp [ringB]; omega) (by unfold HomV BareV CutV; simp <;> omega))
      case neg =>
        obtain ⟨m, rfl⟩ := Int.eq_ofNat_of_zero_le (show 0 ≤ p by omega)
        have DSp := Lib.hid (DS1.out.put3 5 (m : Int) 0)
        go_wp2_with fail
        refine (cur_below m (by omega) (by omega) DSp.out.cur).mono ?_
        rintro e w6 ⟨x, rfl, hx, hc, hk⟩
        have DSq := Lib.hid (DSp.out.kept hk hc)
        clear hc hk
        clear c0 c1 c2 d0 d1 d2 g0 g1 g2
        obtain ⟨c0, c1, c2, d0, d1, d2, g0, g1, g2⟩ := DSq.out.facts
        have hw : IntKind.i64.wrap (1 + (x : Int)) = 1 + (x : Int) := IntWalk.i64_in _ (by omega)
        have DSr := Lib.hid (DSq.out.put1 (1 + (x : Int)))
        go_wp2
        generalize hWW : w6.setCell ⟨w1.heap.size + 1, 1, none⟩ (.int .i64 (1 + (x : Int))) = W at DSr ⊢
        clear hWW
        go_wp2
        clear c0 c1 c2 d0 d1 d2 g0 g1 g2
        obtain ⟨c0, c1, c2, d0, d1, d2, g0, g1, g2⟩ := DSr.out.facts
        obtain ⟨r0, r1, r2, r3, r4, r5, r6, r7, f0, f1, f2, f3, f4, f5, f6, f7⟩ := DSr.out.facts2
        have HK := Lib.hid (fun (w' : World) (hs : Sets W w1.heap.size w') => DSr.out.six hs)
        go_region_held3 (fun w' => w'.cell? ⟨w1.heap.size, 0, none⟩ = some (.int .i64 (5)) ∧ w'.cell? ⟨w1.heap.size, 1, none⟩ = some (.int .i64 ((m : Int))) ∧ w'.cell? ⟨w1.heap.size, 2, none⟩ = some (.int .i64 (0)) ∧ w'.cell? ⟨w1.heap.size + 1, 0, none⟩ = some (.int .i64 (5)) ∧ w'.cell? ⟨w1.heap.size + 1, 1, none⟩ = some (.int .i64 (1 + (x : Int))) ∧ w'.cell? ⟨w1.heap.size + 1, 2, none⟩ = some (.int .i64 (0))) (exact HK.out _ (by repeat (first | with_reducible refine Sets.drew ?_ | with_reducible refine Sets.set ?_ (by dsimp only; omega) | with_reducible exact Sets.refl))) (first | fail)
        go_wp2
        refine bodyPost_ret (v := .tuple #[ringV (5) ((m : Int)) (0), ringV (5) (1 + (x : Int)) (0), homV (7) (0)]) (by simp [results, Try.results111, go_sem, r0, r1, r2, r3, r4, r5, r6, r7]) rfl ?_
        exact hom_post DSr.out (hb_of HK0.out (by simp [ringB]; omega) (by unfold HomV BareV CutV; simp <;> omega))
    | true =>
      obtain ⟨m, hm⟩ : ∃ m : Nat, (if p < 9 then p else 9) = (m : Int) := ⟨(if p < 9 then p else 9).toNat, by split <;> omega⟩
      have hm1 : 0 < m := by split at hm <;> omega
      have hm2 : m ≤ 9 := by split at hm <;> omega
      have hm3 : (m : Int) ≤ p := by split at hm <;> omega
      have HM := Lib.hid hm
      clear hm
      go_wp2
      clear c0 c1 c2 d0 d1 d2 g0 g1 g2
      obtain ⟨c0, c1, c2, d0, d1, d2, g0, g1, g2⟩ := DS1.out.facts
      obtain ⟨r0, r1, r2, r3, r4, r5, r6, r7, f0, f1, f2, f3, f4, f5, f6, f7⟩ := DS1.out.facts2
      have HK := Lib.hid (fun (w' : World) (hs : Sets w2 w1.heap.size w') => DS1.out.six hs)
      have DSd := Lib.hid DS1.out.drew
      go_region_held3 (fun w' => w'.cell? ⟨w1.heap.size, 0, none⟩ = some (.int .i64 (5)) ∧ w'.cell? ⟨w1.heap.size, 1, none⟩ = some (.int .i64 (p)) ∧ w'.cell? ⟨w1.heap.size, 2, none⟩ = some (.int .i64 (0)) ∧ w'.cell? ⟨w1.heap.size + 1, 0, none⟩ = some (.int .i64 (1)) ∧ w'.cell? ⟨w1.heap.size + 1, 1, none⟩ = some (.int .i64 (0)) ∧ w'.cell? ⟨w1.heap.size + 1, 2, none⟩ = some (.int .i64 (0))) (exact HK.out _ (by repeat (first | with_reducible refine Sets.drew ?_ | with_reducible refine Sets.set ?_ (by dsimp only; omega) | with_reducible exact Sets.refl))) (first
        | (go_at_call 151; rw [HM.out]; refine (cur_below m (by omega) (by omega) DSd.out.cur).mono ?_; rintro e w5 ⟨x, rfl, hx, hc, hk⟩; have DS5 := Lib.hid (DSd.out.kept hk hc); have hw : IntKind.i64.wrap (1 + (x : Int)) = 1 + (x : Int) := IntWalk.i64_in _ (by omega); clear hc hk; obtain ⟨c0, c1, c2, d0, d1, d2, g0, g1, g2⟩ := DS5.out.facts; obtain ⟨r0, r1, r2, r3, r4, r5, r6, r7, f0, f1, f2, f3, f4, f5, f6, f7⟩ := DS5.out.facts2; have HK := Lib.hid (fun (w' : World) (hs : Sets w5 w1.heap.size w') => DS5.out.six hs)))
      all_goals
        go_wp2
        refine bodyPost_ret (v := .tuple #[ringV (5) (p) (0), ringV (1) (0) (0), homV (4) (1 + (x : Int))]) (by simp [results, Try.results111, go_sem, r0, r1, r2, r3, r4, r5, r6, r7]) rfl ?_
        exact hom_post_still DS5.out (hb_of HK0.out (by simp [ringB]) (by unfold HomV BareV CutV; simp <;> omega))
  · clear HRC
    obtain ⟨m, rfl⟩ := Int.eq_ofNat_of_zero_le (show 0 ≤ n by omega)
    go_wp2_with fail
    refine (cur_once 2 (by omega) (by omega) DS0.out.cur).mono ?_
    rintro e w2 ⟨y, rfl, hc, hk⟩
    have DS1 := Lib.hid (DS0.out.kept hk hc)
    clear hc hk
    clear c0 c1 c2 d0 d1 d2 g0 g1 g2
    obtain ⟨c0, c1, c2, d0, d1, d2, g0, g1, g2⟩ := DS1.out.facts
    cases y with
    | false =>
      go_wp2
      clear c0 c1 c2 d0 d1 d2 g0 g1 g2
      obtain ⟨c0, c1, c2, d0, d1, d2, g0, g1, g2⟩ := DS1.out.facts
      obtain ⟨r0, r1, r2, r3, r4, r5, r6, r7, f0, f1, f2, f3, f4, f5, f6, f7⟩ := DS1.out.facts2
      have HK := Lib.hid (fun (w' : World) (hs : Sets w2 w1.heap.size w') => DS1.out.six hs)
      have DSd := Lib.hid DS1.out.drew
      go_region_held3 (fun w' => w'.cell? ⟨w1.heap.size, 0, none⟩ = some (.int .i64 (6)) ∧ w'.cell? ⟨w1.heap.size, 1, none⟩ = some (.int .i64 (0)) ∧ w'.cell? ⟨w1.heap.size, 2, none⟩ = some (.int .i64 ((m : Int))) ∧ w'.cell? ⟨w1.heap.size + 1, 0, none⟩ = some (.int .i64 (1)) ∧ w'.cell? ⟨w1.heap.size + 1, 1, none⟩ = some (.int .i64 (0)) ∧ w'.cell? ⟨w1.heap.size + 1, 2, none⟩ = some (.int .i64 (0))) (exact HK.out _ (by repeat (first | with_reducible refine Sets.drew ?_ | with_reducible refine Sets.set ?_ (by dsimp only; omega) | with_reducible exact Sets.refl))) (first
        | (go_at_call 151; refine (cur_below m (by omega) (by omega) DSd.out.cur).mono ?_; rintro e w5 ⟨x, rfl, hx, hc, hk⟩; have DS5 := Lib.hid (DSd.out.kept hk hc); have hw : IntKind.i64.wrap (1 + (x : Int)) = 1 + (x : Int) := IntWalk.i64_in _ (by omega); clear hc hk; obtain ⟨c0, c1, c2, d0, d1, d2, g0, g1, g2⟩ := DS5.out.facts; obtain ⟨r0, r1, r2, r3, r4, r5, r6, r7, f0, f1, f2, f3, f4, f5, f6, f7⟩ := DS5.out.facts2; have HK := Lib.hid (fun (w' : World) (hs : Sets w5 w1.heap.size w') => DS5.out.six hs)))
      all_goals
        go_wp2
        refine bodyPost_ret (v := .tuple #[ringV (6) (0) ((m : Int)), ringV (6) (0) (1 + (x : Int)), homV (7) (0)]) (by simp [results, Try.results111, go_sem, r0, r1, r2, r3, r4, r5, r6, r7]) rfl ?_
        exact hom_post_still DS5.out (hb_of HK0.out (by simp [ringB]; omega) (by unfold HomV BareV CutV; simp <;> omega))
    | true =>
      go_wp2
      clear c0 c1 c2 d0 d1 d2 g0 g1 g2
      obtain ⟨c0, c1, c2, d0, d1, d2, g0, g1, g2⟩ := DS1.out.facts
      obtain ⟨r0, r1, r2, r3, r4, r5, r6, r7, f0, f1, f2, f3, f4, f5, f6, f7⟩ := DS1.out.facts2
      have HK := Lib.hid (fun (w' : World) (hs : Sets w2 w1.heap.size w') => DS1.out.six hs)
      have DSd := Lib.hid DS1.out.drew
      go_region_held3 (fun w' => w'.cell? ⟨w1.heap.size, 0, none⟩ = some (.int .i64 (6)) ∧ w'.cell? ⟨w1.heap.size, 1, none⟩ = some (.int .i64 (0)) ∧ w'.cell? ⟨w1.heap.size, 2, none⟩ = some (.int .i64 ((m : Int))) ∧ w'.cell? ⟨w1.heap.size + 1, 0, none⟩ = some (.int .i64 (1)) ∧ w'.cell? ⟨w1.heap.size + 1, 1, none⟩ = some (.int .i64 (0)) ∧ w'.cell? ⟨w1.heap.size + 1, 2, none⟩ = some (.int .i64 (0))) (exact HK.out _ (by repeat (first | with_reducible refine Sets.drew ?_ | with_reducible refine Sets.set ?_ (by dsimp only; omega) | with_reducible exact Sets.refl))) (first
        | (go_at_call 151; refine (cur_below m (by omega) (by omega) DSd.out.cur).mono ?_; rintro e w5 ⟨x, rfl, hx, hc, hk⟩; have DS5 := Lib.hid (DSd.out.kept hk hc); have hw : IntKind.i64.wrap (1 + (x : Int)) = 1 + (x : Int) := IntWalk.i64_in _ (by omega); clear hc hk; obtain ⟨c0, c1, c2, d0, d1, d2, g0, g1, g2⟩ := DS5.out.facts; obtain ⟨r0, r1, r2, r3, r4, r5, r6, r7, f0, f1, f2, f3, f4, f5, f6, f7⟩ := DS5.out.facts2; have HK := Lib.hid (fun (w' : World) (hs : Sets w5 w1.heap.size w') => DS5.out.six hs)))
      all_goals
        go_wp2
        refine bodyPost_ret (v := .tuple #[ringV (6) (0) ((m : Int)), ringV (1) (0) (0), homV (3) ((x : Int))]) (by simp [results, Try.results111, go_sem, r0, r1, r2, r3, r4, r5, r6, r7]) rfl ?_
        exact hom_post_still DS5.out (hb_of HK0.out (by simp [ringB]) (by unfold HomV BareV CutV; simp <;> omega))
  · clear HRC
    obtain ⟨m, rfl⟩ := Int.eq_ofNat_of_zero_le (show 0 ≤ n by omega)
    have HPR : Hid (primeB p = true) := Lib.hid (by have := HK0.out; simp [ringB] at this; exact this.1.1)
    go_wp2_with fail
    refine (cur_once 2 (by omega) (by omega) DS0.out.cur).mono ?_
    rintro e w2 ⟨y, rfl, hc, hk⟩
    have DS1 := Lib.hid (DS0.out.kept hk hc)
    clear hc hk
    clear c0 c1 c2 d0 d1 d2 g0 g1 g2
    obtain ⟨c0, c1, c2, d0, d1, d2, g0, g1, g2⟩ := DS1.out.facts
    cases y with
    | false =>
      go_wp2
      clear c0 c1 c2 d0 d1 d2 g0 g1 g2
      obtain ⟨c0, c1, c2, d0, d1, d2, g0, g1, g2⟩ := DS1.out.facts
      obtain ⟨r0, r1, r2, r3, r4, r5, r6, r7, f0, f1, f2, f3, f4, f5, f6, f7⟩ := DS1.out.facts2
      have HK := Lib.hid (fun (w' : World) (hs : Sets w2 w1.heap.size w') => DS1.out.six hs)
      have DSd := Lib.hid DS1.out.drew
      go_region_held3 (fun w' => w'.cell? ⟨w1.heap.size, 0, none⟩ = some (.int .i64 (7)) ∧ w'.cell? ⟨w1.heap.size, 1, none⟩ = some (.int .i64 (p)) ∧ w'.cell? ⟨w1.heap.size, 2, none⟩ = some (.int .i64 ((m : Int))) ∧ w'.cell? ⟨w1.heap.size + 1, 0, none⟩ = some (.int .i64 (1)) ∧ w'.cell? ⟨w1.heap.size + 1, 1, none⟩ = some (.int .i64 (0)) ∧ w'.cell? ⟨w1.heap.size + 1, 2, none⟩ = some (.int .i64 (0))) (exact HK.out _ (by repeat (first | with_reducible refine Sets.drew ?_ | with_reducible refine Sets.set ?_ (by dsimp only; omega) | with_reducible exact Sets.refl))) (first
        | (go_at_call 151; refine (cur_below m (by omega) (by omega) DSd.out.cur).mono ?_; rintro e w5 ⟨x, rfl, hx, hc, hk⟩; have DS5 := Lib.hid (DSd.out.kept hk hc); have hw : IntKind.i64.wrap (1 + (x : Int)) = 1 + (x : Int) := IntWalk.i64_in _ (by omega); clear hc hk; obtain ⟨c0, c1, c2, d0, d1, d2, g0, g1, g2⟩ := DS5.out.facts; obtain ⟨r0, r1, r2, r3, r4, r5, r6, r7, f0, f1, f2, f3, f4, f5, f6, f7⟩ := DS5.out.facts2; have HK := Lib.hid (fun (w' : World) (hs : Sets w5 w1.heap.size w') => DS5.out.six hs)))
      all_goals
        go_wp2
        refine bodyPost_ret (v := .tuple #[ringV (7) (p) ((m : Int)), ringV (7) (p) (1 + (x : Int)), homV (7) (0)]) (by simp [results, Try.results111, go_sem, r0, r1, r2, r3, r4, r5, r6, r7]) rfl ?_
        exact hom_post_still DS5.out (hb_of HK0.out (by simp [ringB, HPR.out]; omega) (by unfold HomV BareV CutV; simp <;> omega))
    | true =>
      go_wp2
      clear c0 c1 c2 d0 d1 d2 g0 g1 g2
      obtain ⟨c0, c1, c2, d0, d1, d2, g0, g1, g2⟩ := DS1.out.facts
      obtain ⟨r0, r1, r2, r3, r4, r5, r6, r7, f0, f1, f2, f3, f4, f5, f6, f7⟩ := DS1.out.facts2
      have HK := Lib.hid (fun (w' : World) (hs : Sets w2 w1.heap.size w') => DS1.out.six hs)
      go_region_held3 (fun w' => w'.cell? ⟨w1.heap.size, 0, none⟩ = some (.int .i64 (7)) ∧ w'.cell? ⟨w1.heap.size, 1, none⟩ = some (.int .i64 (p)) ∧ w'.cell? ⟨w1.heap.size, 2, none⟩ = some (.int .i64 ((m : Int))) ∧ w'.cell? ⟨w1.heap.size + 1, 0, none⟩ = some (.int .i64 (1)) ∧ w'.cell? ⟨w1.heap.size + 1, 1, none⟩ = some (.int .i64 (0)) ∧ w'.cell? ⟨w1.heap.size + 1, 2, none⟩ = some (.int .i64 (0))) (exact HK.out _ (by repeat (first | with_reducible refine Sets.drew ?_ | with_reducible refine Sets.set ?_ (by dsimp only; omega) | with_reducible exact Sets.refl))) (first | fail)
      go_wp2
      refine bodyPost_ret (v := .tuple #[ringV (7) (p) ((m : Int)), ringV (2) (p) (0), homV (5) (0)]) (by simp [results, Try.results111, go_sem, r0, r1, r2, r3, r4, r5, r6, r7]) rfl ?_
      exact hom_post DS1.out (hb_of HK0.out (by simp [ringB, HPR.out]) (by unfold HomV BareV CutV; simp <;> omega))
  · clear HRC
    by_cases h17 : p = 17
    case pos =>
      subst h17
      have q0 : IntKind.i64.wrap 0 = 0 := by decide
      have q2 : IntKind.i64.wrap 2 = 2 := by decide
      go_wp2
      generalize hWW : (w1.alloc (.cells #[.int .i64 8, .int .i64 17, .int .i64 0] 31)).alloc (.cells #[.int .i64 1, .int .i64 0, .int .i64 0] 31) = W at DS0 ⊢
      clear hWW
      clear c0 c1 c2 d0 d1 d2 g0 g1 g2
      obtain ⟨c0, c1, c2, d0, d1, d2, g0, g1, g2⟩ := DS0.out.facts
      obtain ⟨r0, r1, r2, r3, r4, r5, r6, r7, f0, f1, f2, f3, f4, f5, f6, f7⟩ := DS0.out.facts2
      have HK := Lib.hid (fun (w' : World) (hs : Sets W w1.heap.size w') => DS0.out.six hs)
      go_region_held3 (fun w' => w'.cell? ⟨w1.heap.size, 0, none⟩ = some (.int .i64 (8)) ∧ w'.cell? ⟨w1.heap.size, 1, none⟩ = some (.int .i64 (17)) ∧ w'.cell? ⟨w1.heap.size, 2, none⟩ = some (.int .i64 (0)) ∧ w'.cell? ⟨w1.heap.size + 1, 0, none⟩ = some (.int .i64 (1)) ∧ w'.cell? ⟨w1.heap.size + 1, 1, none⟩ = some (.int .i64 (0)) ∧ w'.cell? ⟨w1.heap.size + 1, 2, none⟩ = some (.int .i64 (0))) (exact HK.out _ (by repeat (first | with_reducible refine Sets.drew ?_ | with_reducible refine Sets.set ?_ (by dsimp only; omega) | with_reducible exact Sets.refl))) (first | fail)
      go_wp2
      refine bodyPost_ret (v := .tuple #[ringV (8) (17) (0), ringV (2) (17) (0), homV (6) (2)]) (by simp [results, Try.results111, go_sem, r0, r1, r2, r3, r4, r5, r6, r7]) rfl ?_
      exact hom_post DS0.out (hb_of HK0.out (by simp [ringB, p17]) (by have := root17; unfold HomV BareV CutV; simp; omega))
    by_cases h97 : p = 97
    case pos =>
      subst h97
      have q1 : IntKind.i64.wrap 1 = 1 := by decide
      have q62 : IntKind.i64.wrap 62 = 62 := by decide
      have q64 : IntKind.i64.wrap 64 = 64 := by decide
      go_wp2
      generalize hWW : (w1.alloc (.cells #[.int .i64 8, .int .i64 97, .int .i64 0] 31)).alloc (.cells #[.int .i64 1, .int .i64 0, .int .i64 0] 31) = W at DS0 ⊢
      clear hWW
      clear c0 c1 c2 d0 d1 d2 g0 g1 g2
      obtain ⟨c0, c1, c2, d0, d1, d2, g0, g1, g2⟩ := DS0.out.facts
      obtain ⟨r0, r1, r2, r3, r4, r5, r6, r7, f0, f1, f2, f3, f4, f5, f6, f7⟩ := DS0.out.facts2
      have HK := Lib.hid (fun (w' : World) (hs : Sets W w1.heap.size w') => DS0.out.six hs)
      go_region_held3 (fun w' => w'.cell? ⟨w1.heap.size, 0, none⟩ = some (.int .i64 (8)) ∧ w'.cell? ⟨w1.heap.size, 1, none⟩ = some (.int .i64 (97)) ∧ w'.cell? ⟨w1.heap.size, 2, none⟩ = some (.int .i64 (0)) ∧ w'.cell? ⟨w1.heap.size + 1, 0, none⟩ = some (.int .i64 (1)) ∧ w'.cell? ⟨w1.heap.size + 1, 1, none⟩ = some (.int .i64 (0)) ∧ w'.cell? ⟨w1.heap.size + 1, 2, none⟩ = some (.int .i64 (0))) (exact HK.out _ (by repeat (first | with_reducible refine Sets.drew ?_ | with_reducible refine Sets.set ?_ (by dsimp only; omega) | with_reducible exact Sets.refl))) (first | fail)
      go_wp2
      refine bodyPost_ret (v := .tuple #[ringV (8) (97) (0), ringV (2) (97) (0), homV (6) (64)]) (by simp [results, Try.results111, go_sem, r0, r1, r2, r3, r4, r5, r6, r7]) rfl ?_
      exact hom_post DS0.out (hb_of HK0.out (by simp [ringB, p97]) (by have := root97; unfold HomV BareV CutV; simp; omega))
    have b17 : (p == 17) = false := by simpa using h17
    have b97 : (p == 97) = false := by simpa using h97
    go_wp2
    generalize hWW : (w1.alloc (.cells #[.int .i64 8, .int .i64 p, .int .i64 0] 31)).alloc (.cells #[.int .i64 1, .int .i64 0, .int .i64 0] 31) = W at DS0 ⊢
    clear hWW
    clear c0 c1 c2 d0 d1 d2 g0 g1 g2
    obtain ⟨c0, c1, c2, d0, d1, d2, g0, g1, g2⟩ := DS0.out.facts
    obtain ⟨r0, r1, r2, r3, r4, r5, r6, r7, f0, f1, f2, f3, f4, f5, f6, f7⟩ := DS0.out.facts2
    have HK := Lib.hid (fun (w' : World) (hs : Sets W w1.heap.size w') => DS0.out.six hs)
    go_region_held3 (fun w' => w'.cell? ⟨w1.heap.size, 0, none⟩ = some (.int .i64 (8)) ∧ w'.cell? ⟨w1.heap.size, 1, none⟩ = some (.int .i64 (p)) ∧ w'.cell? ⟨w1.heap.size, 2, none⟩ = some (.int .i64 (0)) ∧ w'.cell? ⟨w1.heap.size + 1, 0, none⟩ = some (.int .i64 (1)) ∧ w'.cell? ⟨w1.heap.size + 1, 1, none⟩ = some (.int .i64 (0)) ∧ w'.cell? ⟨w1.heap.size + 1, 2, none⟩ = some (.int .i64 (0))) (exact HK.out _ (by repeat (first | with_reducible refine Sets.drew ?_ | with_reducible refine Sets.set ?_ (by dsimp only; omega) | with_reducible exact Sets.refl))) (first | fail)
    go_wp2
    refine bodyPost_ret (v := .tuple #[ringV (8) (p) (0), ringV (8) (p) (0), homV (1) (0)]) (by simp [results, Try.results111, go_sem, r0, r1, r2, r3, r4, r5, r6, r7]) rfl ?_
    exact hom_post DS0.out (hb_of HK0.out HK0.out (by unfold HomV BareV CutV; simp <;> omega))
end Go.Proofs.Ytfdjlahaiogabab
namespace Go.Proofs.Ytfdjlahaiogabab
set_option maxRecDepth 20000
open Go.RowKit

/-- The three variables of the results, still zero. -/
structure R8 (w : World) (b : Nat) : Prop where
  r2 : BoxAt w b 0 0 0
  r3 : BoxAt w (b + 1) 0 0 0
  r4 : HomAt w (b + 1 + 1) 0 0
  frz : ∀ q o, (q = b ∨ q = b + 1 ∨ q = b + 1 + 1) → w.frozen? ⟨q, o, none⟩ = false
theorem R8.below {w w1 : World} {b B : Nat} (h : R8 w b) (hb : Below B w w1) (hB : b + 1 + 1 < B) : R8 w1 b :=
  ⟨h.r2.below hb (by omega), h.r3.below hb (by omega), h.r4.below hb hB, fun q o hq => (hb.frozen (p := ⟨q, o, none⟩) (by show q < B; omega)).trans (h.frz q o hq)⟩
theorem R8.start (w : World) (T T2 : TypeId) : R8 (((w.alloc (.cells #[.int .i64 0, .int .i64 0, .int .i64 0] T)).alloc (.cells #[.int .i64 0, .int .i64 0, .int .i64 0] T)).alloc (.cells #[.int .i64 0, .int .i64 0] T2)) w.heap.size := by
  refine ⟨(BoxAt.new w 0 0 0 T).below (((Below.refl (w.alloc (.cells (ringC 0 0 0) T)).heap.size _).alloc (Nat.le_refl _) (.cells #[.int .i64 0, .int .i64 0, .int .i64 0] T)).alloc (by simp) (.cells #[.int .i64 0, .int .i64 0] T2)) (by simp), ?_, ?_, ?_⟩
  · have h := (BoxAt.new (w.alloc (.cells #[.int .i64 0, .int .i64 0, .int .i64 0] T)) 0 0 0 T).below ((Below.refl _ _).alloc (Nat.le_refl _) (.cells #[.int .i64 0, .int .i64 0] T2)) (by simp)
    rw [World.size_alloc] at h
    exact h
  · have h := HomAt.new ((w.alloc (.cells #[.int .i64 0, .int .i64 0, .int .i64 0] T)).alloc (.cells #[.int .i64 0, .int .i64 0, .int .i64 0] T)) 0 0 T2
    rw [World.size_alloc, World.size_alloc] at h
    exact h
  · rintro q o (rfl | rfl | rfl)
    · rw [frozen?_alloc_cells, frozen?_alloc_cells]; simp
    · simp [World.frozen?_alloc_at, World.frozen?_alloc_past]
    · simp [World.frozen?_alloc_at]
theorem R8.facts {w : World} {b : Nat} (h : R8 w b) : w.cell? ⟨b, 0, none⟩ = some (.int .i64 0) ∧ w.cell? ⟨b, 1, none⟩ = some (.int .i64 0) ∧ w.cell? ⟨b, 2, none⟩ = some (.int .i64 0) ∧
    w.cell? ⟨b + 1, 0, none⟩ = some (.int .i64 0) ∧ w.cell? ⟨b + 1, 1, none⟩ = some (.int .i64 0) ∧ w.cell? ⟨b + 1, 2, none⟩ = some (.int .i64 0) ∧ w.cell? ⟨b + 1 + 1, 0, none⟩ = some (.int .i64 0) ∧ w.cell? ⟨b + 1 + 1, 1, none⟩ = some (.int .i64 0) ∧
    w.frozen? ⟨b, 0, none⟩ = false ∧ w.frozen? ⟨b, 1, none⟩ = false ∧ w.frozen? ⟨b, 2, none⟩ = false ∧ w.frozen? ⟨b + 1, 0, none⟩ = false ∧ w.frozen? ⟨b + 1, 1, none⟩ = false ∧ w.frozen? ⟨b + 1, 2, none⟩ = false ∧ w.frozen? ⟨b + 1 + 1, 0, none⟩ = false ∧ w.frozen? ⟨b + 1 + 1, 1, none⟩ = false :=
  ⟨h.r2.1, h.r2.2.1, h.r2.2.2, h.r3.1, h.r3.2.1, h.r3.2.2, h.r4.1, h.r4.2, h.frz _ 0 (by simp), h.frz _ 1 (by simp), h.frz _ 2 (by simp), h.frz _ 0 (by simp), h.frz _ 1 (by simp), h.frz _ 2 (by simp), h.frz _ 0 (by simp), h.frz _ 1 (by simp)⟩
theorem put8_below {w0 w : World} {b : Nat} (h : Below w0.heap.size w0 w) (hb : w0.heap.size ≤ b) (a0 a1 a2 b0 b1 b2 c0 c1 : Value) : Below w0.heap.size w0 (put8 w b a0 a1 a2 b0 b1 b2 c0 c1) :=
  (((((((h.setCell (by show _ ≤ b; omega) _).setCell (by show _ ≤ b; omega) _).setCell (by show _ ≤ b; omega) _).setCell (by show _ ≤ b + 1; omega) _).setCell (by show _ ≤ b + 1; omega) _).setCell (by show _ ≤ b + 1; omega) _).setCell (by show _ ≤ b + 1 + 1; omega) _).setCell (by show _ ≤ b + 1 + 1; omega) _
/-- What MakeHom answers. -/
def MadeHom (w : World) (e : Ending) (w' : World) : Prop := ∃ fk fp fn tk tp tn hk ha, e = .returned (.tuple #[ringV fk fp fn, ringV tk tp tn, homV hk ha]) ∧ homB fk fp fn tk tp tn hk ha = true ∧ Below w.heap.size w w'
theorem made_hom {w W : World} {b : Nat} (h : Below w.heap.size w W) (hb : w.heap.size ≤ b) {x0 x1 x2 y0 y1 y2 z0 z1 : Int} (hh : homB x0 x1 x2 y0 y1 y2 z0 z1 = true) :
    MadeHom w (.returned (.tuple #[ringV x0 x1 x2, ringV y0 y1 y2, homV z0 z1])) (put8 W b (.int .i64 x0) (.int .i64 x1) (.int .i64 x2) (.int .i64 y0) (.int .i64 y1) (.int .i64 y2) (.int .i64 z0) (.int .i64 z1)) :=
  ⟨x0, x1, x2, y0, y1, y2, z0, z1, rfl, hh, put8_below h hb _ _ _ _ _ _ _ _⟩
set_option maxRecDepth 100000 in
set_option maxHeartbeats 1600000 in
theorem make_hom {v : Value} {bs : List UInt8} {w : World} (n : Nat) (hn : n ≤ 1000) (hr : Rd w.heap.size w v (bytes8 bs)) (hl : bs.length ≤ 1048576) :
    Calls Try.prog 44 #[v, .int .i64 n] w (MadeHom w) := by
  have HW3 := Lib.hid ((((Below.refl w.heap.size w).alloc (Nat.le_refl _) (.cells #[.int .i64 0, .int .i64 0, .int .i64 0] 31)).alloc (by simp) (.cells #[.int .i64 0, .int .i64 0, .int .i64 0] 31)).alloc (by simp; omega) (.cells #[.int .i64 0, .int .i64 0] 45))
  have R0 := Lib.hid (R8.start w 31 45)
  have hsz : (((w.alloc (.cells #[.int .i64 0, .int .i64 0, .int .i64 0] 31)).alloc (.cells #[.int .i64 0, .int .i64 0, .int .i64 0] 31)).alloc (.cells #[.int .i64 0, .int .i64 0] 45)).heap.size = w.heap.size + 1 + 1 + 1 := by simp
  have HR := Lib.hid ((hr.below HW3.out (Nat.le_refl _)).mono (show w.heap.size ≤ (((w.alloc (.cells #[.int .i64 0, .int .i64 0, .int .i64 0] 31)).alloc (.cells #[.int .i64 0, .int .i64 0, .int .i64 0] 31)).alloc (.cells #[.int .i64 0, .int .i64 0] 45)).heap.size by omega))
  have HL := Lib.hid hl
  have HS := Lib.hid hsz
  clear hr hl hsz
  go_enter Try.func44, Try.ntmps44
  go_wp2_with fail
  refine (cur_at n hn HR.out HL.out).mono ?_
  rintro e w1 ⟨cb, rfl, hc, hb1⟩
  have HC1 := Lib.hid hc
  have HB1 := Lib.hid (HW3.out.trans (hb1.mono (by have := HS.out; omega)))
  have R1 := Lib.hid (R0.out.below hb1 (by have := HS.out; omega))
  have hcb := hc.lo
  have hlo : w.heap.size + 1 + 1 + 1 ≤ cb := by have := HS.out; omega
  have hs1 : cb < w1.heap.size := hcb.2
  clear hc hb1 hcb
  go_wp2_with fail
  refine (draw_hom HC1.out).mono ?_
  rintro e w2 ⟨fk, fp, fn, tk, tp, tn, hk, ha, rfl, hh, hc2, hko⟩
  have hb2 := hko.below (Below.refl cb w1) (Nat.le_refl _) (Nat.le_of_lt hs1)
  have R2 := Lib.hid (R1.out.below hb2 (by omega))
  have HB2 := Lib.hid (HB1.out.trans (hb2.mono (by omega)))
  have HH := Lib.hid hh
  clear hh hc2 hko hb2
  obtain ⟨r0, r1, r2, r3, r4, r5, r6, r7, f0, f1, f2, f3, f4, f5, f6, f7⟩ := R2.out.facts
  go_wp2
  refine bodyPost_ret (v := .tuple #[ringV fk fp fn, ringV tk tp tn, homV hk ha]) (by simp [results, Try.results44, go_sem, r0, r1, r2, r3, r4, r5, r6, r7]) rfl ?_
  exact made_hom HB2.out (Nat.le_refl _) HH.out
end Go.Proofs.Ytfdjlahaiogabab
