
/- The graph of a network as sets of bits: graph, around, choose. -/
import Derived.Test.YtdheakjjnaifkaaTSet
import Derived.Test.YtdheakjjnaifkaaCheckNet
import Derived.StillTailTactics
namespace Go.Proofs.Ytdheakjjnaifkaa
set_option maxRecDepth 20000
open Go.RowKit

/-- The set of these numbers. -/
def orL (l : List Nat) : Nat := l.foldl (fun s i => s ||| 2 ^ i) 0
theorem foldl_or (l : List Nat) : ∀ (a b : Nat), (l.foldl (fun s i => s ||| 2 ^ i) a).testBit b = (a.testBit b || decide (b ∈ l)) := by
  induction l with
  | nil => intro a b; simp
  | cons i r ih =>
    intro a b
    show (r.foldl (fun s i => s ||| 2 ^ i) (a ||| 2 ^ i)).testBit b = _
    rw [ih, Nat.testBit_or, Nat.testBit_two_pow]
    by_cases h : i = b
    · subst h; simp
    · have h2 : b ≠ i := fun e => h e.symm
      simp [h, h2]
theorem orL_bit (l : List Nat) (b : Nat) : (orL l).testBit b = decide (b ∈ l) := by
  unfold orL
  rw [foldl_or]; simp
theorem orL_lt {l : List Nat} {n : Nat} (h : ∀ i ∈ l, i < n) : orL l < 2 ^ n := by
  refine Nat.lt_pow_two_of_testBit _ fun i hi => ?_
  rw [orL_bit]
  exact decide_eq_false fun hm => by have := h i hm; omega
/-- The tensors with a label. -/
def usersL (ts : List TenE) (x : Int) : List Nat := (List.range ts.length).filter fun i => decide (x ∈ (ts.getD i ([], [], [])).1)
def useS (ts : List TenE) (x : Int) : Nat := orL (usersL ts x)
theorem useS_bit (ts : List TenE) (x : Int) (b : Nat) : (useS ts x).testBit b = true ↔ ∃ t, ts[b]? = some t ∧ x ∈ t.1 := by
  unfold useS usersL
  rw [orL_bit, decide_eq_true_eq, List.mem_filter, List.mem_range, decide_eq_true_eq]
  constructor
  · rintro ⟨h1, h2⟩
    refine ⟨ts[b], List.getElem?_eq_getElem h1, ?_⟩
    rw [List.getD_eq_getElem?_getD, List.getElem?_eq_getElem h1] at h2
    exact h2
  · rintro ⟨t, h1, h2⟩
    refine ⟨(List.getElem?_eq_some_iff.1 h1).1, ?_⟩
    rw [List.getD_eq_getElem?_getD, h1]
    exact h2
theorem useS_lt {ts : List TenE} (x : Int) (h : ts.length ≤ 12) : useS ts x < 4096 := by
  have := orL_lt (l := usersL ts x) (n := 12) (fun i hi => by
    have h1 := (List.mem_filter.1 hi).1
    rw [List.mem_range] at h1; omega)
  exact this
theorem bit_eq {a b : Nat} (h : ∀ i, a.testBit i = true ↔ b.testBit i = true) : a = b := Nat.eq_of_testBit_eq fun i => by
  have := h i
  cases h1 : a.testBit i <;> cases h2 : b.testBit i <;> simp_all
theorem or_bit (a b i : Nat) : (a ||| b).testBit i = true ↔ a.testBit i = true ∨ b.testBit i = true := by rw [Nat.testBit_or]; simp
theorem pow_bit (k i : Nat) : (2 ^ k).testBit i = true ↔ k = i := by rw [Nat.testBit_two_pow]; simp
theorem and_bit (a b i : Nat) : (a &&& b).testBit i = true ↔ a.testBit i = true ∧ b.testBit i = true := by rw [Nat.testBit_and]; simp
theorem zero_bit (i : Nat) : (0 : Nat).testBit i = true ↔ False := by simp
/-- While the labels of a tensor are told: the first c of them. -/
def gS (ts : List TenE) (j c : Nat) (L : List Int) (x : Int) : Nat := useS (ts.take j) x ||| (if x ∈ L.take c then 2 ^ j else 0)
theorem gS_zero (ts : List TenE) (j : Nat) (L : List Int) (x : Int) : gS ts j 0 L x = useS (ts.take j) x := by simp [gS]
theorem take_bit {ts : List TenE} {j b : Nat} {t : TenE} : (ts.take j)[b]? = some t ↔ b < j ∧ ts[b]? = some t := by
  rw [List.getElem?_take]
  by_cases h : b < j
  · simp [h]
  · simp [h]
theorem gS_full {ts : List TenE} {j : Nat} {t : TenE} (h : ts[j]? = some t) (x : Int) : gS ts j t.1.length t.1 x = useS (ts.take (j + 1)) x := by
  refine bit_eq fun i => ?_
  unfold gS
  rw [or_bit, useS_bit, useS_bit, List.take_length]
  constructor
  · rintro (⟨u, h1, h2⟩ | h1)
    · exact ⟨u, take_bit.2 ⟨by have := (take_bit.1 h1).1; omega, (take_bit.1 h1).2⟩, h2⟩
    · by_cases hx : x ∈ t.1
      · rw [if_pos hx, pow_bit] at h1
        subst h1
        exact ⟨t, take_bit.2 ⟨by omega, h⟩, hx⟩
      · rw [if_neg hx, zero_bit] at h1
        exact absurd h1 id
  · rintro ⟨u, h1, h2⟩
    obtain ⟨h3, h4⟩ := take_bit.1 h1
    by_cases e : i = j
    · subst e
      rw [h] at h4
      cases h4
      right
      rw [if_pos h2, pow_bit]
    · exact .inl ⟨u, take_bit.2 ⟨by omega, h4⟩, h2⟩
theorem gS_step {ts : List TenE} {j c : Nat} {L : List Int} {y : Int} (h : L[c]? = some y) (x : Int) : gS ts j (c + 1) L x = if x = y then gS ts j c L x ||| 2 ^ j else gS ts j c L x := by
  unfold gS
  rw [List.take_add_one, h]
  by_cases e : x = y
  · subst e
    rw [if_pos rfl, if_pos (by simp)]
    refine bit_eq fun i => ?_
    rw [or_bit, or_bit, or_bit]
    by_cases hx : x ∈ L.take c
    · rw [if_pos hx, pow_bit]; grind
    · rw [if_neg hx, zero_bit]; grind
  · rw [if_neg e]
    have : (x ∈ L.take c ++ (some y).toList) ↔ x ∈ L.take c := by simp [e]
    by_cases hx : x ∈ L.take c
    · rw [if_pos hx, if_pos (this.2 hx)]
    · rw [if_neg hx, if_neg fun h => hx (this.1 h)]
theorem gS_lt {ts : List TenE} (j c : Nat) (L : List Int) (x : Int) (h : j < ts.length) (hn : ts.length ≤ 12) : gS ts j c L x < 4096 := by
  unfold gS
  have h1 := useS_lt (ts := ts.take j) x (by rw [List.length_take]; omega)
  have h2 : (if x ∈ L.take c then 2 ^ j else 0) < 2 ^ 12 := by
    split
    · exact Nat.pow_lt_pow_right (by omega) (by omega)
    · decide
  exact Nat.or_lt_two_pow (n := 12) h1 h2
/-- A box of a hundred sets. -/
structure GrS (w wr : World) (h : Nat) (f : Int → Nat) : Prop where
  bel : Below w.heap.size w wr
  c : ∀ x : Nat, x < 100 → wr.cell? ⟨h, x, none⟩ = some (.int .u64 (f (x : Int)))
  fr : ∀ j, wr.frozen? ⟨h, j, none⟩ = false
  lt : h < wr.heap.size
  lo : w.heap.size ≤ h
theorem GrS.step {w wr wj : World} {h : Nat} {f : Int → Nat} (H : GrS w wr h f) (hb : Below wr.heap.size wr wj) : GrS w wj h f :=
  ⟨H.bel.trans (hb.mono H.bel.size), fun x hx => (hb.cell (p := ⟨h, x, none⟩) H.lt).trans (H.c x hx), fun j => (hb.frozen (p := ⟨h, j, none⟩) H.lt).trans (H.fr j), Nat.lt_of_lt_of_le H.lt hb.size, H.lo⟩
theorem GrS.put {w wr : World} {h : Nat} {f : Int → Nat} (H : GrS w wr h f) (y : Nat) (v : Nat) (hy : y < 100) : GrS w (wr.setCell ⟨h, y, none⟩ (.int .u64 v)) h (fun x => if x = (y : Int) then v else f x) := by
  refine ⟨H.bel.setCell H.lo _, fun x hx => ?_, fun j => by rw [World.frozen?_setCell]; exact H.fr j, by simpa using H.lt, H.lo⟩
  by_cases e : x = y
  · subst e
    rw [if_pos rfl]
    exact World.cell?_setCell_same wr _ _ (H.c x hy)
  · rw [if_neg (by omega), World.cell?_setCell_other wr _ _ _ (by intro q; injection q with q1 q2; exact e q2.symm)]
    exact H.c x hx
theorem GrS.turn {w wr : World} {h : Nat} {f f' : Int → Nat} (H : GrS w wr h f) (e : ∀ x : Int, f x = f' x) : GrS w wr h f' := (funext e : f = f') ▸ H
theorem or_pow (v j : Nat) (hv : v < 18446744073709551616) (hj : j < 12) : bits BinOp.or IntKind.u64 (v : Int) (IntKind.u64.wrap (2 ^ j)) = ((v ||| 2 ^ j : Nat) : Int) := by
  have h1 : (2 : Nat) ^ j < 4096 := Nat.lt_of_lt_of_le (Nat.pow_lt_pow_right (by omega) hj) (by decide)
  have e : IntKind.u64.wrap ((2 : Int) ^ j) = ((2 ^ j : Nat) : Int) := by
    have h2 : ((2 : Int) ^ j) = ((2 ^ j : Nat) : Int) := by simp
    rw [h2]
    generalize (2 : Nat) ^ j = m at h1
    simp only [IntKind.wrap, IntKind.bits, IntKind.signed, Bool.false_and]
    rw [if_neg (by simp)]
    omega
  rw [e, u64_or_nat _ _ hv (by omega)]
theorem zero_graph : ∀ x : Nat, x < 100 → Try.zeroCells114[x]? = some (.int .u64 0) := by
  have h : Try.zeroCells114 = Array.replicate 100 (.int .u64 0) := by kernel_rfl
  intro x hx
  rw [h, Array.getElem?_replicate, if_pos hx]
theorem GrS.new (w : World) (ts : List TenE) : GrS w (w.alloc (.cells Try.zeroCells114 114)) w.heap.size (useS (ts.take 0)) := by
  refine ⟨(Below.refl _ _).alloc (Nat.le_refl _) _, fun x hx => ?_, fun j => by simp, by simp, Nat.le_refl _⟩
  rw [World.cell?_alloc_at _ _ _ _ rfl, zero_graph x hx]
  have e : useS (ts.take 0) (x : Int) = 0 := by simp [useS, usersL, orL]
  rw [e]; rfl
set_option maxHeartbeats 3200000 in
theorem graph_impl {g n cap : Nat} {pa : Option Addr} {ts : List TenE} {w : World} (h : RdTs w.heap.size w (.slice pa n cap) ts) (hg : w.cell? ⟨g, 3, none⟩ = some (.slice pa n cap)) (hn : ts.length = n) (hn2 : n ≤ 12) (hax : AxT ts) :
    Calls Try.prog 67 #[.pointer (some ⟨g, 0, none⟩)] w fun e w' => ∃ r, e = .returned (.pointer (some ⟨r, 0, none⟩)) ∧ GrS w w' r (useS ts) := by
  have HTS := Lib.hid h
  have HG := Lib.hid hg
  have HN := Lib.hid hn
  have HAX := Lib.hid hax
  clear h hn hax
  go_enter Try.func67, Try.ntmps67
  have G0 := Lib.hid (GrS.new w ts)
  obtain ⟨h, hh⟩ : ∃ x, x = w.heap.size := ⟨_, rfl⟩
  obtain ⟨W0, hW0⟩ : ∃ X, X = w.alloc (.cells Try.zeroCells114 114) := ⟨_, rfl⟩
  rw [← hW0, ← hh] at G0
  have HW0 := Lib.hid hW0
  have HH := Lib.hid hh
  have hgw : g < w.heap.size := World.block_lt_of_cell? _ _ hg
  have k3 : W0.cell? ⟨g, 3, none⟩ = some (.slice pa n cap) := (G0.out.bel.cell (p := ⟨g, 3, none⟩) hgw).trans hg
  clear hW0 hh hg hgw HG
  go_upto_region 2 with fail
  rw [← HW0.out, ← HH.out]
  clear HW0 HH
  go_wp2
  go_loopw [14] (fun i wr => ∃ j : Nat, j ≤ n ∧ i = .int .i64 j ∧ Hid (GrS w wr h (useS (ts.take j)))) (fun i _ => n - (intOf i).toNat)
  case atStart => exact ⟨0, by omega, rfl, G0⟩
  case round =>
    clear G0 k3
    obtain ⟨j, hj, rfl, HR⟩ := hrel
    by_cases hlt : j < n
    · obtain ⟨⟨L, D, X⟩, T1⟩ : ∃ t, Hid (ts[j]? = some t) := ⟨_, List.getElem?_eq_getElem (by rw [HN.out]; exact hlt)⟩
      obtain ⟨b, off, a1, d1, a2, d2, a3, d3, rfl, hbw, k0, k1, k2, hT⟩ := HTS.out.at T1.out
      dsimp only at k0 k1 k2 hT
      have k0 := (HR.out.bel.cell (p := ⟨b, off + j * 3, none⟩) hbw).trans k0
      have k1 := (HR.out.bel.cell (p := ⟨b, off + j * 3 + 1, none⟩) hbw).trans k1
      have k2 := (HR.out.bel.cell (p := ⟨b, off + j * 3 + 2, none⟩) hbw).trans k2
      have hax := HAX.out _ (List.mem_of_getElem? T1.out)
      dsimp only at hax
      obtain ⟨WB, hWB⟩ : ∃ W, W = wr.alloc (.cells #[.slice a1 L.length d1, .slice a2 D.length d2, .slice a3 X.length d3] 55) := ⟨_, rfl⟩
      have GB : Hid (GrS w WB h (gS ts j 0 L)) := Lib.hid (by
        rw [hWB]
        exact (HR.out.step ((Below.refl _ _).alloc (Nat.le_refl _) _)).turn fun x => (gS_zero ts j L x).symm)
      have HWB := Lib.hid hWB
      have HRD := Lib.hid hT.l
      obtain ⟨mL, hmL⟩ : ∃ m, m = L.length := ⟨_, rfl⟩
      obtain ⟨mD, hmD⟩ : ∃ m, m = D.length := ⟨_, rfl⟩
      obtain ⟨mX, hmX⟩ : ∃ m, m = X.length := ⟨_, rfl⟩
      have HML := Lib.hid hmL
      have HLI := Lib.hid hax.2.2.1
      have hl12 : mL ≤ 12 := by rw [hmL]; exact hax.1
      rw [← hmL] at k0 HWB HRD
      rw [← hmD] at k1 HWB
      rw [← hmX] at k2 HWB
      have hj12 : j < 12 := by omega
      clear hT hax hmL hmD hmX hWB hbw HR
      go_wp2
      rw [← HWB.out]
      clear HWB k0 k1 k2
      go_loopw [22] (fun i wr => ∃ c : Nat, c ≤ mL ∧ i = .int .i64 c ∧ Hid (GrS w wr h (gS ts j c L))) (fun i _ => mL - (intOf i).toNat)
      case atStart => exact ⟨0, by omega, rfl, GB⟩
      case round =>
        clear GB
        obtain ⟨c, hc, rfl, HI⟩ := hrel
        by_cases hcl : c < mL
        · obtain ⟨x, X1⟩ : ∃ x, Hid (L[c]? = some x) := ⟨_, List.getElem?_eq_getElem (by rw [← HML.out]; exact hcl)⟩
          obtain ⟨y, hy⟩ : ∃ y : Nat, x = (y : Int) := ⟨x.toNat, by have := HLI.out x (List.mem_of_getElem? X1.out); omega⟩
          have hy100 : y < 100 := by have := HLI.out x (List.mem_of_getElem? X1.out); omega
          subst hy
          obtain ⟨b1, o1, rfl, -, e1⟩ := (HRD.out.below HI.out.bel (Nat.le_refl _)).cellAt X1.out
          obtain ⟨v, hv⟩ : ∃ v, v = gS ts j c L (y : Int) := ⟨_, rfl⟩
          have HV := Lib.hid hv
          have hv4 : v < 4096 := by rw [hv]; exact gS_lt j c L _ (by rw [HN.out]; exact hlt) (by rw [HN.out]; exact hn2)
          have cy := HI.out.c y hy100
          rw [← hv] at cy
          have fy := HI.out.fr y
          clear hv
          go_wp2
          have hsh : (1 : Int) * 2 ^ j = ((2 ^ j : Nat) : Int) := by simp
          have hyI : (y : Int) < 100 := by omega
          go_still_tail 7, (by kernel_rfl)
          change wpList _ _ _ _ _ wr.drew
          have RN : Hid (GrS w (wr.setCell ⟨h, y, none⟩ (.int .u64 (bits BinOp.or IntKind.u64 (v : Int) (IntKind.u64.wrap (2 ^ j))))).drew h (gS ts j (c + 1) L)) := Lib.hid (by
            rw [or_pow v j (by omega) hj12]
            refine ((HI.out.put y (v ||| 2 ^ j) hy100).step ((Below.refl _ _).drew)).turn fun x => ?_
            rw [gS_step X1.out x]
            by_cases e : x = (y : Int)
            · rw [if_pos e, if_pos e, e, HV.out]
            · rw [if_neg e, if_neg e])
          go_wp2
          go_roundw
          case rel => exact ⟨c + 1, by omega, by go_num, RN⟩
          case measure => simp [intOf]; omega
        · obtain rfl : c = mL := by omega
          have HR2 : Hid (GrS w wr h (useS (ts.take (j + 1)))) := Lib.hid (HI.out.turn fun x => by
            have h1 := gS_full T1.out x
            rw [← h1]
            show gS ts j c L x = gS ts j L.length L x
            rw [← HML.out])
          go_wp2
          go_roundw
          case rel => exact ⟨j + 1, by omega, by go_num, HR2⟩
          case measure => simp [intOf]; omega
    · obtain rfl : j = n := by omega
      have e2 : ts.take j = ts := List.take_of_length_le (by rw [HN.out]; exact Nat.le_refl _)
      rw [e2] at HR
      go_wp2
      go_ret
      exact ⟨_, rfl, HR.out⟩
end Go.Proofs.Ytdheakjjnaifkaa
