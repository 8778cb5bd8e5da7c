
/- Sets of tensors as bits: has, indices. -/
import Derived.Test.YtdheakjjnaifkaaNetOkSpec
import Derived.Laws.BitsAllLaws
import Derived.Test.YtdheakjjnaifkaaCheckNet
import Derived.StillTailTactics
namespace Go.Proofs.Ytdheakjjnaifkaa
set_option maxRecDepth 20000
open Go.RowKit

theorem has_bit (s k : Nat) (hs : s < 18446744073709551616) : (bits BinOp.and IntKind.u64 ((s : Int) / 2 ^ k) 1 == 1) = s.testBit k := by
  have e : ((s : Int) / 2 ^ k) = ((s / 2 ^ k : Nat) : Int) := by simp
  have h1 : s / 2 ^ k < 18446744073709551616 := Nat.lt_of_le_of_lt (Nat.div_le_self _ _) hs
  have h2 := u64_and_nat (s / 2 ^ k) 1 h1 (by decide)
  rw [e]
  rw [show (1 : Int) = ((1 : Nat) : Int) from rfl] at *
  rw [h2, Nat.and_one_is_mod, Nat.testBit_eq_decide_div_mod_eq]
  by_cases h : s / 2 ^ k % 2 = 1
  · rw [h]; rfl
  · rw [decide_eq_false h]
    have h3 : s / 2 ^ k % 2 = 0 := by omega
    rw [h3]; rfl
set_option maxHeartbeats 1600000 in
theorem has_impl (s k : Nat) (w : World) (hs : s < 18446744073709551616) (hk : k < 64) :
    Calls Try.prog 97 #[.int .u64 s, .int .i64 k] w fun e w' => e = .returned (.bool (s.testBit k)) ∧ w = w' := by
  go_enter Try.func97, Try.ntmps97
  go_wp2
  go_ret
  exact ⟨by rw [← has_bit s k hs]; rfl, rfl⟩
/-- The tensors of a set that are below n. -/
def bitsTo (s n : Nat) : List Int := ((List.range n).filter fun i => s.testBit i).map fun i : Nat => (i : Int)
theorem bitsTo_len (s n : Nat) : (bitsTo s n).length ≤ n := by
  unfold bitsTo
  rw [List.length_map]
  exact Nat.le_trans (List.length_filter_le _ _) (by simp)
theorem bitsTo_yes {s n : Nat} (h : s.testBit n = true) : bitsTo s n ++ [(n : Int)] = bitsTo s (n + 1) := by
  unfold bitsTo
  rw [List.range_succ, List.filter_append, List.map_append]
  simp [h]
theorem bitsTo_no {s n : Nat} (h : s.testBit n = false) : bitsTo s n = bitsTo s (n + 1) := by
  unfold bitsTo
  rw [List.range_succ, List.filter_append, List.map_append]
  simp [h]
set_option maxHeartbeats 3200000 in
theorem indices_impl (s : Nat) (w : World) (hs : s < 18446744073709551616) :
    Calls Try.prog 69 #[.int .u64 s] w (NewRow w (bitsTo s 12)) := by
  obtain ⟨i0, hi0, hz0, hz1, hz2⟩ := info_parts infoInt
  have J0 := Lib.hid hi0
  have J1 := Lib.hid hz0
  have J2 := Lib.hid hz1
  have J3 := Lib.hid hz2
  have HS := Lib.hid hs
  have R0 : Hid (Rs w w [] [(.slice none 0 0, bitsTo s 0)]) := Lib.hid ((Rs.start w).nil)
  clear hi0 hz0 hz1 hz2 hs
  go_enter Try.func69, Try.ntmps69
  go_wp2
  go_loopw [3, 5] (fun u i wr => ∃ (j z : Nat) (ga : Option Addr) (ca : Nat), j ≤ 12 ∧ z ≤ j ∧ u = .slice ga z ca ∧ i = .int .i64 j ∧ Hid ((bitsTo s j).length = z) ∧ Hid (Rs w wr [] [(.slice ga z ca, bitsTo s j)])) (fun _ i _ => 12 - (intOf i).toNat)
  case atStart => exact ⟨0, 0, none, 0, by omega, by omega, rfl, rfl, Lib.hid rfl, R0⟩
  case round =>
    clear R0
    obtain ⟨j, z, ga, ca, hj, hzj, rfl, rfl, HZ, HR⟩ := hrel
    by_cases hlt : j < 12
    · have HH := Lib.hid (has_impl s j wr HS.out (by omega))
      cases hb : s.testBit j with
      | true =>
        have HE := Lib.hid (bitsTo_yes hb)
        rw [hb] at HH
        clear hb
        go_wp2_with fail
        refine HH.out.mono ?_
        rintro e w3 ⟨rfl, rfl⟩
        clear HH
        have A5 := Lib.hid (HR.out.alloc (.cells #[.int .i64 (j : Int)] 3))
        have O5 := Lib.hid (A5.out.row (v := .slice ga z ca) (List.mem_cons_self) HZ.out)
        go_wp2_with (at_builtin; go_must (refine wpList_append_lies _ rfl _ _ 25 rfl w.heap.size 3 i0 (.int .i64 0) 1 8 Try.underlying25 J0.out J1.out J2.out J3.out rfl (by decide) _ z (ints (bitsTo s j)) rfl O5.out ⟨wr.heap.size, 0, none⟩ 1 1 [.int .i64 (j : Int)] rfl rfl (cell_one_new _ _ _) ?c2 (by decide) ?c3 ?c4 ?c5 _ rfl ?_))
        case c2 => first | rfl | (intro u hu; simp at hu; subst hu; rfl)
        case c3 => unfold maxLen; omega
        case c4 => omega
        case c5 => exact A5.out.bel.size
        intro g1 cap1 w5 hown hgrow hl1 _
        have hR5 := A5.out.app1 HZ.out hown hgrow (by rw [World.size_alloc]; exact hl1)
        rw [HE.out] at hR5
        have R6 := Lib.hid hR5
        have HZ6 : Hid ((bitsTo s (j + 1)).length = z + 1) := Lib.hid (by rw [← HE.out, List.length_append, HZ.out]; rfl)
        clear hown hgrow hl1 hR5 A5 O5 HR
        go_wp2
        go_roundw
        case rel => exact ⟨j + 1, z + 1, some ⟨g1, 0, none⟩, cap1, by omega, by omega, rfl, by go_num, HZ6, R6⟩
        case measure => simp [intOf]; omega
      | false =>
        have HE := Lib.hid (bitsTo_no hb)
        rw [hb] at HH
        have HZ6 : Hid ((bitsTo s (j + 1)).length = z) := Lib.hid (by rw [← HE.out, HZ.out])
        rw [HE.out] at HR
        clear hb
        go_wp2_with fail
        refine HH.out.mono ?_
        rintro e w3 ⟨rfl, rfl⟩
        clear HH
        go_wp2
        go_roundw
        case rel => exact ⟨j + 1, z, ga, ca, by omega, by omega, rfl, by go_num, HZ6, HR⟩
        case measure => simp [intOf]; omega
    · obtain rfl : j = 12 := by omega
      have RES := Lib.hid (HR.out.own1 (List.mem_cons_self))
      have BB := Lib.hid HR.out.bel
      clear hlt
      go_wp2
      go_ret
      exact ⟨_, rfl, RES.out, BB.out⟩
end Go.Proofs.Ytdheakjjnaifkaa
namespace Go.Proofs.Ytdheakjjnaifkaa
set_option maxRecDepth 20000
open Go.RowKit

/-- The set of these numbers. -/
def orL (l : List Nat) : Nat := l.foldl (fun s i => s ||| 2 ^ i) 0
theorem foldl_or (l : List Nat) : ∀ (a b : Nat), (l.foldl (fun s i => s ||| 2 ^ i) a).testBit b = (a.testBit b || decide (b ∈ l)) := by
  induction l with
  | nil => intro a b; simp
  | cons i r ih =>
    intro a b
    show (r.foldl (fun s i => s ||| 2 ^ i) (a ||| 2 ^ i)).testBit b = _
    rw [ih, Nat.testBit_or, Nat.testBit_two_pow]
    by_cases h : i = b
    · subst h; simp
    · have h2 : b ≠ i := fun e => h e.symm
      simp [h, h2]
theorem orL_bit (l : List Nat) (b : Nat) : (orL l).testBit b = decide (b ∈ l) := by
  unfold orL
  rw [foldl_or]; simp
theorem orL_lt {l : List Nat} {n : Nat} (h : ∀ i ∈ l, i < n) : orL l < 2 ^ n := by
  refine Nat.lt_pow_two_of_testBit _ fun i hi => ?_
  rw [orL_bit]
  exact decide_eq_false fun hm => by have := h i hm; omega
/-- The tensors with a label. -/
def usersL (ts : List TenE) (x : Int) : List Nat := (List.range ts.length).filter fun i => decide (x ∈ (ts.getD i ([], [], [])).1)
def useS (ts : List TenE) (x : Int) : Nat := orL (usersL ts x)
theorem useS_bit (ts : List TenE) (x : Int) (b : Nat) : (useS ts x).testBit b = true ↔ ∃ t, ts[b]? = some t ∧ x ∈ t.1 := by
  unfold useS usersL
  rw [orL_bit, decide_eq_true_eq, List.mem_filter, List.mem_range, decide_eq_true_eq]
  constructor
  · rintro ⟨h1, h2⟩
    refine ⟨ts[b], List.getElem?_eq_getElem h1, ?_⟩
    rw [List.getD_eq_getElem?_getD, List.getElem?_eq_getElem h1] at h2
    exact h2
  · rintro ⟨t, h1, h2⟩
    refine ⟨(List.getElem?_eq_some_iff.1 h1).1, ?_⟩
    rw [List.getD_eq_getElem?_getD, h1]
    exact h2
theorem useS_lt {ts : List TenE} (x : Int) (h : ts.length ≤ 12) : useS ts x < 4096 := by
  have := orL_lt (l := usersL ts x) (n := 12) (fun i hi => by
    have h1 := (List.mem_filter.1 hi).1
    rw [List.mem_range] at h1; omega)
  exact this
theorem bit_eq {a b : Nat} (h : ∀ i, a.testBit i = true ↔ b.testBit i = true) : a = b := Nat.eq_of_testBit_eq fun i => by
  have := h i
  cases h1 : a.testBit i <;> cases h2 : b.testBit i <;> simp_all
theorem or_bit (a b i : Nat) : (a ||| b).testBit i = true ↔ a.testBit i = true ∨ b.testBit i = true := by rw [Nat.testBit_or]; simp
theorem pow_bit (k i : Nat) : (2 ^ k).testBit i = true ↔ k = i := by rw [Nat.testBit_two_pow]; simp
theorem and_bit (a b i : Nat) : (a &&& b).testBit i = true ↔ a.testBit i = true ∧ b.testBit i = true := by rw [Nat.testBit_and]; simp
theorem zero_bit (i : Nat) : (0 : Nat).testBit i = true ↔ False := by simp
/-- While the labels of a tensor are told: the first c of them. -/
def gS (ts : List TenE) (j c : Nat) (L : List Int) (x : Int) : Nat := useS (ts.take j) x ||| (if x ∈ L.take c then 2 ^ j else 0)
theorem gS_zero (ts : List TenE) (j : Nat) (L : List Int) (x : Int) : gS ts j 0 L x = useS (ts.take j) x := by simp [gS]
theorem take_bit {ts : List TenE} {j b : Nat} {t : TenE} : (ts.take j)[b]? = some t ↔ b < j ∧ ts[b]? = some t := by
  rw [List.getElem?_take]
  by_cases h : b < j
  · simp [h]
  · simp [h]
theorem gS_full {ts : List TenE} {j : Nat} {t : TenE} (h : ts[j]? = some t) (x : Int) : gS ts j t.1.length t.1 x = useS (ts.take (j + 1)) x := by
  refine bit_eq fun i => ?_
  unfold gS
  rw [or_bit, useS_bit, useS_bit, List.take_length]
  constructor
  · rintro (⟨u, h1, h2⟩ | h1)
    · exact ⟨u, take_bit.2 ⟨by have := (take_bit.1 h1).1; omega, (take_bit.1 h1).2⟩, h2⟩
    · by_cases hx : x ∈ t.1
      · rw [if_pos hx, pow_bit] at h1
        subst h1
        exact ⟨t, take_bit.2 ⟨by omega, h⟩, hx⟩
      · rw [if_neg hx, zero_bit] at h1
        exact absurd h1 id
  · rintro ⟨u, h1, h2⟩
    obtain ⟨h3, h4⟩ := take_bit.1 h1
    by_cases e : i = j
    · subst e
      rw [h] at h4
      cases h4
      right
      rw [if_pos h2, pow_bit]
    · exact .inl ⟨u, take_bit.2 ⟨by omega, h4⟩, h2⟩
theorem gS_step {ts : List TenE} {j c : Nat} {L : List Int} {y : Int} (h : L[c]? = some y) (x : Int) : gS ts j (c + 1) L x = if x = y then gS ts j c L x ||| 2 ^ j else gS ts j c L x := by
  unfold gS
  rw [List.take_add_one, h]
  by_cases e : x = y
  · subst e
    rw [if_pos rfl, if_pos (by simp)]
    refine bit_eq fun i => ?_
    rw [or_bit, or_bit, or_bit]
    by_cases hx : x ∈ L.take c
    · rw [if_pos hx, pow_bit]; grind
    · rw [if_neg hx, zero_bit]; grind
  · rw [if_neg e]
    have : (x ∈ L.take c ++ (some y).toList) ↔ x ∈ L.take c := by simp [e]
    by_cases hx : x ∈ L.take c
    · rw [if_pos hx, if_pos (this.2 hx)]
    · rw [if_neg hx, if_neg fun h => hx (this.1 h)]
theorem gS_lt {ts : List TenE} (j c : Nat) (L : List Int) (x : Int) (h : j < ts.length) (hn : ts.length ≤ 12) : gS ts j c L x < 4096 := by
  unfold gS
  have h1 := useS_lt (ts := ts.take j) x (by rw [List.length_take]; omega)
  have h2 : (if x ∈ L.take c then 2 ^ j else 0) < 2 ^ 12 := by
    split
    · exact Nat.pow_lt_pow_right (by omega) (by omega)
    · decide
  exact Nat.or_lt_two_pow (n := 12) h1 h2
/-- A box of a hundred sets. -/
structure GrS (w wr : World) (h : Nat) (f : Int → Nat) : Prop where
  bel : Below w.heap.size w wr
  c : ∀ x : Nat, x < 100 → wr.cell? ⟨h, x, none⟩ = some (.int .u64 (f (x : Int)))
  fr : ∀ j, wr.frozen? ⟨h, j, none⟩ = false
  lt : h < wr.heap.size
  lo : w.heap.size ≤ h
theorem GrS.step {w wr wj : World} {h : Nat} {f : Int → Nat} (H : GrS w wr h f) (hb : Below wr.heap.size wr wj) : GrS w wj h f :=
  ⟨H.bel.trans (hb.mono H.bel.size), fun x hx => (hb.cell (p := ⟨h, x, none⟩) H.lt).trans (H.c x hx), fun j => (hb.frozen (p := ⟨h, j, none⟩) H.lt).trans (H.fr j), Nat.lt_of_lt_of_le H.lt hb.size, H.lo⟩
theorem GrS.put {w wr : World} {h : Nat} {f : Int → Nat} (H : GrS w wr h f) (y : Nat) (v : Nat) (hy : y < 100) : GrS w (wr.setCell ⟨h, y, none⟩ (.int .u64 v)) h (fun x => if x = (y : Int) then v else f x) := by
  refine ⟨H.bel.setCell H.lo _, fun x hx => ?_, fun j => by rw [World.frozen?_setCell]; exact H.fr j, by simpa using H.lt, H.lo⟩
  by_cases e : x = y
  · subst e
    rw [if_pos rfl]
    exact World.cell?_setCell_same wr _ _ (H.c x hy)
  · rw [if_neg (by omega), World.cell?_setCell_other wr _ _ _ (by intro q; injection q with q1 q2; exact e q2.symm)]
    exact H.c x hx
theorem GrS.turn {w wr : World} {h : Nat} {f f' : Int → Nat} (H : GrS w wr h f) (e : ∀ x : Int, f x = f' x) : GrS w wr h f' := (funext e : f = f') ▸ H
theorem or_pow (v j : Nat) (hv : v < 18446744073709551616) (hj : j < 12) : bits BinOp.or IntKind.u64 (v : Int) (IntKind.u64.wrap (2 ^ j)) = ((v ||| 2 ^ j : Nat) : Int) := by
  have h1 : (2 : Nat) ^ j < 4096 := Nat.lt_of_lt_of_le (Nat.pow_lt_pow_right (by omega) hj) (by decide)
  have e : IntKind.u64.wrap ((2 : Int) ^ j) = ((2 ^ j : Nat) : Int) := by
    have h2 : ((2 : Int) ^ j) = ((2 ^ j : Nat) : Int) := by simp
    rw [h2]
    generalize (2 : Nat) ^ j = m at h1
    simp only [IntKind.wrap, IntKind.bits, IntKind.signed, Bool.false_and]
    rw [if_neg (by simp)]
    omega
  rw [e, u64_or_nat _ _ hv (by omega)]
theorem zero_graph : ∀ x : Nat, x < 100 → Try.zeroCells114[x]? = some (.int .u64 0) := by
  have h : Try.zeroCells114 = Array.replicate 100 (.int .u64 0) := by kernel_rfl
  intro x hx
  rw [h, Array.getElem?_replicate, if_pos hx]
theorem GrS.new (w : World) (ts : List TenE) : GrS w (w.alloc (.cells Try.zeroCells114 114)) w.heap.size (useS (ts.take 0)) := by
  refine ⟨(Below.refl _ _).alloc (Nat.le_refl _) _, fun x hx => ?_, fun j => by simp, by simp, Nat.le_refl _⟩
  rw [World.cell?_alloc_at _ _ _ _ rfl, zero_graph x hx]
  have e : useS (ts.take 0) (x : Int) = 0 := by simp [useS, usersL, orL]
  rw [e]; rfl
set_option maxHeartbeats 3200000 in
theorem graph_impl {g n cap : Nat} {pa : Option Addr} {ts : List TenE} {w : World} (h : RdTs w.heap.size w (.slice pa n cap) ts) (hg : w.cell? ⟨g, 3, none⟩ = some (.slice pa n cap)) (hn : ts.length = n) (hn2 : n ≤ 12) (hax : AxT ts) :
    Calls Try.prog 67 #[.pointer (some ⟨g, 0, none⟩)] w fun e w' => ∃ r, e = .returned (.pointer (some ⟨r, 0, none⟩)) ∧ GrS w w' r (useS ts) := by
  have HTS := Lib.hid h
  have HG := Lib.hid hg
  have HN := Lib.hid hn
  have HAX := Lib.hid hax
  clear h hn hax
  go_enter Try.func67, Try.ntmps67
  have G0 := Lib.hid (GrS.new w ts)
  obtain ⟨h, hh⟩ : ∃ x, x = w.heap.size := ⟨_, rfl⟩
  obtain ⟨W0, hW0⟩ : ∃ X, X = w.alloc (.cells Try.zeroCells114 114) := ⟨_, rfl⟩
  rw [← hW0, ← hh] at G0
  have HW0 := Lib.hid hW0
  have HH := Lib.hid hh
  have hgw : g < w.heap.size := World.block_lt_of_cell? _ _ hg
  have k3 : W0.cell? ⟨g, 3, none⟩ = some (.slice pa n cap) := (G0.out.bel.cell (p := ⟨g, 3, none⟩) hgw).trans hg
  clear hW0 hh hg hgw HG
  go_upto_region 2 with fail
  rw [← HW0.out, ← HH.out]
  clear HW0 HH
  go_wp2
  go_loopw [14] (fun i wr => ∃ j : Nat, j ≤ n ∧ i = .int .i64 j ∧ Hid (GrS w wr h (useS (ts.take j)))) (fun i _ => n - (intOf i).toNat)
  case atStart => exact ⟨0, by omega, rfl, G0⟩
  case round =>
    clear G0 k3
    obtain ⟨j, hj, rfl, HR⟩ := hrel
    by_cases hlt : j < n
    · obtain ⟨⟨L, D, X⟩, T1⟩ : ∃ t, Hid (ts[j]? = some t) := ⟨_, List.getElem?_eq_getElem (by rw [HN.out]; exact hlt)⟩
      obtain ⟨b, off, a1, d1, a2, d2, a3, d3, rfl, hbw, k0, k1, k2, hT⟩ := HTS.out.at T1.out
      dsimp only at k0 k1 k2 hT
      have k0 := (HR.out.bel.cell (p := ⟨b, off + j * 3, none⟩) hbw).trans k0
      have k1 := (HR.out.bel.cell (p := ⟨b, off + j * 3 + 1, none⟩) hbw).trans k1
      have k2 := (HR.out.bel.cell (p := ⟨b, off + j * 3 + 2, none⟩) hbw).trans k2
      have hax := HAX.out _ (List.mem_of_getElem? T1.out)
      dsimp only at hax
      obtain ⟨WB, hWB⟩ : ∃ W, W = wr.alloc (.cells #[.slice a1 L.length d1, .slice a2 D.length d2, .slice a3 X.length d3] 55) := ⟨_, rfl⟩
      have GB : Hid (GrS w WB h (gS ts j 0 L)) := Lib.hid (by
        rw [hWB]
        exact (HR.out.step ((Below.refl _ _).alloc (Nat.le_refl _) _)).turn fun x => (gS_zero ts j L x).symm)
      have HWB := Lib.hid hWB
      have HRD := Lib.hid hT.l
      obtain ⟨mL, hmL⟩ : ∃ m, m = L.length := ⟨_, rfl⟩
      obtain ⟨mD, hmD⟩ : ∃ m, m = D.length := ⟨_, rfl⟩
      obtain ⟨mX, hmX⟩ : ∃ m, m = X.length := ⟨_, rfl⟩
      have HML := Lib.hid hmL
      have HLI := Lib.hid hax.2.2.1
      have hl12 : mL ≤ 12 := by rw [hmL]; exact hax.1
      rw [← hmL] at k0 HWB HRD
      rw [← hmD] at k1 HWB
      rw [← hmX] at k2 HWB
      have hj12 : j < 12 := by omega
      clear hT hax hmL hmD hmX hWB hbw HR
      go_wp2
      rw [← HWB.out]
      clear HWB k0 k1 k2
      go_loopw [22] (fun i wr => ∃ c : Nat, c ≤ mL ∧ i = .int .i64 c ∧ Hid (GrS w wr h (gS ts j c L))) (fun i _ => mL - (intOf i).toNat)
      case atStart => exact ⟨0, by omega, rfl, GB⟩
      case round =>
        clear GB
        obtain ⟨c, hc, rfl, HI⟩ := hrel
        by_cases hcl : c < mL
        · obtain ⟨x, X1⟩ : ∃ x, Hid (L[c]? = some x) := ⟨_, List.getElem?_eq_getElem (by rw [← HML.out]; exact hcl)⟩
          obtain ⟨y, hy⟩ : ∃ y : Nat, x = (y : Int) := ⟨x.toNat, by have := HLI.out x (List.mem_of_getElem? X1.out); omega⟩
          have hy100 : y < 100 := by have := HLI.out x (List.mem_of_getElem? X1.out); omega
          subst hy
          obtain ⟨b1, o1, rfl, -, e1⟩ := (HRD.out.below HI.out.bel (Nat.le_refl _)).cellAt X1.out
          obtain ⟨v, hv⟩ : ∃ v, v = gS ts j c L (y : Int) := ⟨_, rfl⟩
          have HV := Lib.hid hv
          have hv4 : v < 4096 := by rw [hv]; exact gS_lt j c L _ (by rw [HN.out]; exact hlt) (by rw [HN.out]; exact hn2)
          have cy := HI.out.c y hy100
          rw [← hv] at cy
          have fy := HI.out.fr y
          clear hv
          go_wp2
          have hsh : (1 : Int) * 2 ^ j = ((2 ^ j : Nat) : Int) := by simp
          have hyI : (y : Int) < 100 := by omega
          go_still_tail 7, (by kernel_rfl)
          change wpList _ _ _ _ _ wr.drew
          have RN : Hid (GrS w (wr.setCell ⟨h, y, none⟩ (.int .u64 (bits BinOp.or IntKind.u64 (v : Int) (IntKind.u64.wrap (2 ^ j))))).drew h (gS ts j (c + 1) L)) := Lib.hid (by
            rw [or_pow v j (by omega) hj12]
            refine ((HI.out.put y (v ||| 2 ^ j) hy100).step ((Below.refl _ _).drew)).turn fun x => ?_
            rw [gS_step X1.out x]
            by_cases e : x = (y : Int)
            · rw [if_pos e, if_pos e, e, HV.out]
            · rw [if_neg e, if_neg e])
          go_wp2
          go_roundw
          case rel => exact ⟨c + 1, by omega, by go_num, RN⟩
          case measure => simp [intOf]; omega
        · obtain rfl : c = mL := by omega
          have HR2 : Hid (GrS w wr h (useS (ts.take (j + 1)))) := Lib.hid (HI.out.turn fun x => by
            have h1 := gS_full T1.out x
            rw [← h1]
            show gS ts j c L x = gS ts j L.length L x
            rw [← HML.out])
          go_wp2
          go_roundw
          case rel => exact ⟨j + 1, by omega, by go_num, HR2⟩
          case measure => simp [intOf]; omega
    · obtain rfl : j = n := by omega
      have e2 : ts.take j = ts := List.take_of_length_le (by rw [HN.out]; exact Nat.le_refl _)
      rw [e2] at HR
      go_wp2
      go_ret
      exact ⟨_, rfl, HR.out⟩
end Go.Proofs.Ytdheakjjnaifkaa
namespace Go.Proofs.Ytdheakjjnaifkaa
set_option maxRecDepth 20000
open Go.RowKit

def arTo (ts : List TenE) (s n : Nat) : Nat := (List.range n).foldl (fun (a : Nat) (x : Nat) => if useS ts (x : Int) &&& s ≠ 0 then a ||| useS ts (x : Int) else a) s
theorem arTo_step (ts : List TenE) (s n : Nat) : arTo ts s (n + 1) = if useS ts (n : Int) &&& s ≠ 0 then arTo ts s n ||| useS ts (n : Int) else arTo ts s n := by
  unfold arTo
  rw [List.range_succ, List.foldl_append]; rfl
def arS (ts : List TenE) (s : Nat) : Nat := arTo ts s 100
theorem arTo_lt {ts : List TenE} {s : Nat} (h : ts.length ≤ 12) (hs : s < 4096) : ∀ n, arTo ts s n < 4096 := by
  intro n
  induction n with
  | zero => exact hs
  | succ n ih =>
    rw [arTo_step]
    split
    · exact Nat.or_lt_two_pow (n := 12) ih (useS_lt _ h)
    · exact ih
theorem and_ne {a b : Nat} : a &&& b ≠ 0 ↔ ∃ i, a.testBit i = true ∧ b.testBit i = true := by
  constructor
  · intro h
    obtain ⟨i, hi⟩ := Nat.exists_testBit_of_ne_zero h
    exact ⟨i, (and_bit _ _ _).1 hi⟩
  · rintro ⟨i, h1, h2⟩ e
    have := (and_bit a b i).2 ⟨h1, h2⟩
    rw [e] at this
    simp at this
theorem arTo_bit (ts : List TenE) (s i : Nat) : ∀ n, (arTo ts s n).testBit i = true ↔ s.testBit i = true ∨ ∃ x : Nat, x < n ∧ (useS ts (x : Int)).testBit i = true ∧ ∃ j, (useS ts (x : Int)).testBit j = true ∧ s.testBit j = true := by
  intro n
  induction n with
  | zero => simp [arTo]
  | succ n ih =>
    rw [arTo_step]
    constructor
    · intro h
      split at h
      · rename_i hne
        rcases (or_bit _ _ _).1 h with h | h
        · rcases ih.1 h with h | ⟨x, h1, h2⟩
          · exact .inl h
          · exact .inr ⟨x, by omega, h2⟩
        · exact .inr ⟨n, by omega, h, and_ne.1 hne⟩
      · rcases ih.1 h with h | ⟨x, h1, h2⟩
        · exact .inl h
        · exact .inr ⟨x, by omega, h2⟩
    · intro h
      have old : (arTo ts s n).testBit i = true → (if useS ts (n : Int) &&& s ≠ 0 then arTo ts s n ||| useS ts (n : Int) else arTo ts s n).testBit i = true := fun q => by
        split
        · exact (or_bit _ _ _).2 (.inl q)
        · exact q
      rcases h with h | ⟨x, h1, h2, h3⟩
      · exact old (ih.2 (.inl h))
      · by_cases e : x = n
        · subst e
          rw [if_pos (and_ne.2 h3)]
          exact (or_bit _ _ _).2 (.inr h2)
        · exact old (ih.2 (.inr ⟨x, by omega, h2, h3⟩))
/-- Two tensors have a label in common. -/
def MeetT (ts : List TenE) (i j : Nat) : Prop := ∃ (x : Int) (t u : TenE), ts[i]? = some t ∧ ts[j]? = some u ∧ x ∈ t.1 ∧ x ∈ u.1
theorem MeetT.symm {ts : List TenE} {i j : Nat} (h : MeetT ts i j) : MeetT ts j i := by
  obtain ⟨x, t, u, h1, h2, h3, h4⟩ := h
  exact ⟨x, u, t, h2, h1, h4, h3⟩
/-- All neighbors of the tensors of a set, and the set itself. -/
theorem arS_bit {ts : List TenE} (hax : AxT ts) (s i : Nat) : (arS ts s).testBit i = true ↔ s.testBit i = true ∨ ∃ j, s.testBit j = true ∧ MeetT ts i j := by
  unfold arS
  rw [arTo_bit]
  constructor
  · rintro (h | ⟨x, h1, h2, j, h3, h4⟩)
    · exact .inl h
    · obtain ⟨t, ht, hx⟩ := (useS_bit ts _ i).1 h2
      obtain ⟨u, hu, hy⟩ := (useS_bit ts _ j).1 h3
      exact .inr ⟨j, h4, x, t, u, ht, hu, hx, hy⟩
  · rintro (h | ⟨j, h4, x, t, u, ht, hu, hx, hy⟩)
    · exact .inl h
    · have hr := (hax t (List.mem_of_getElem? ht)).2.2.1 x hx
      have e : ((x.toNat : Nat) : Int) = x := by omega
      refine .inr ⟨x.toNat, by omega, ?_, j, ?_, h4⟩
      · rw [e]; exact (useS_bit ts _ i).2 ⟨t, ht, hx⟩
      · rw [e]; exact (useS_bit ts _ j).2 ⟨u, hu, hy⟩
set_option maxHeartbeats 3200000 in
theorem around_impl {h s : Nat} {ts : List TenE} {w : World} (hg : ∀ x : Nat, x < 100 → w.cell? ⟨h, x, none⟩ = some (.int .u64 (useS ts (x : Int)))) (hn : ts.length ≤ 12) (hs : s < 4096) :
    Calls Try.prog 68 #[.pointer (some ⟨h, 0, none⟩), .int .u64 s] w fun e w' => e = .returned (.int .u64 (arS ts s)) ∧ w = w' := by
  have HG := Lib.hid hg
  have HN := Lib.hid hn
  have HS := Lib.hid hs
  clear hg hn hs
  go_enter Try.func68, Try.ntmps68
  go_wp2
  go_loopw [5, 10] (fun u i wr => ∃ x a : Nat, x ≤ 100 ∧ i = .int .i64 x ∧ u = .int .u64 a ∧ Hid (a = arTo ts s x) ∧ wr = w) (fun _ i _ => 100 - (intOf i).toNat)
  case atStart => exact ⟨0, s, by omega, rfl, rfl, Lib.hid rfl, rfl⟩
  case round =>
    obtain ⟨x, a, hx, rfl, rfl, HA, rfl⟩ := hrel
    by_cases hlt : x < 100
    · have cx := HG.out x hlt
      obtain ⟨v, hv⟩ : ∃ v, v = useS ts (x : Int) := ⟨_, rfl⟩
      rw [← hv] at cx
      have hv4 : v < 4096 := by rw [hv]; exact useS_lt _ HN.out
      have ha4 : a < 4096 := by rw [HA.out]; exact arTo_lt HN.out HS.out _
      have hxI : (x : Int) < 100 := by omega
      have hand := u64_and_nat v s (by omega) (by have := HS.out; omega)
      have hor := u64_or_nat a v (by omega) (by omega)
      have HST := Lib.hid (arTo_step ts s x)
      have HV := Lib.hid hv
      by_cases h0 : v &&& s = 0
      · have hd : (((v &&& s : Nat) : Int) != 0) = false := by rw [h0]; rfl
        have HA2 : Hid (a = arTo ts s (x + 1)) := Lib.hid (by rw [HST.out, ← HV.out, if_neg (fun h => h h0)]; exact HA.out)
        rw [← hand] at hd
        clear hv h0 hand hor
        go_wp2
        go_roundw
        case rel => exact ⟨x + 1, a, by omega, by go_num, rfl, HA2, trivial⟩
        case measure => simp [intOf]; omega
      · have hd : (((v &&& s : Nat) : Int) != 0) = true := by simpa using (by omega : ((v &&& s : Nat) : Int) ≠ 0)
        have HA2 : Hid (a ||| v = arTo ts s (x + 1)) := Lib.hid (by rw [HST.out, ← HV.out, if_pos h0, ← HA.out])
        have HO := Lib.hid hor
        rw [← hand] at hd
        clear hv h0 hand hor
        go_wp2
        go_roundw
        case rel => exact ⟨x + 1, a ||| v, by omega, by go_num, by rw [HO.out], HA2, trivial⟩
        case measure => simp [intOf]; omega
    · obtain rfl : x = 100 := by omega
      go_wp2
      go_ret
      exact ⟨by rw [HA.out]; rfl, rfl⟩
/-- Indices of tensors, none of them twice. -/
def OkSub (n : Nat) (l : List Int) : Prop := (∀ k ∈ l, 0 ≤ k ∧ k < (n : Int)) ∧ l.Nodup
open Classical in
noncomputable def subB (n : Nat) (l : List Int) : Bool := decide (OkSub n l)
open Classical in
theorem subB_true {n : Nat} {l : List Int} (h : OkSub n l) : subB n l = true := decide_eq_true h
open Classical in
theorem subB_false {n : Nat} {l : List Int} (h : ¬ OkSub n l) : subB n l = false := decide_eq_false h
open Classical in
theorem subB_yes {n : Nat} {l : List Int} (h : subB n l = true) : OkSub n l := of_decide_eq_true h
def setL (l : List Int) : Nat := orL (l.map Int.toNat)
theorem setL_snoc (l : List Int) (y : Nat) : setL (l ++ [(y : Int)]) = setL l ||| 2 ^ y := by
  unfold setL orL
  rw [List.map_append, List.foldl_append]
  simp
theorem setL_bit {l : List Int} (h : ∀ k ∈ l, 0 ≤ k) (i : Nat) : (setL l).testBit i = true ↔ (i : Int) ∈ l := by
  unfold setL
  rw [orL_bit, decide_eq_true_eq, List.mem_map]
  constructor
  · rintro ⟨k, hk, rfl⟩
    have := h k hk
    rw [Int.toNat_of_nonneg this]
    exact hk
  · exact fun hi => ⟨_, hi, by simp⟩
theorem setL_lt {l : List Int} {n : Nat} (h : ∀ k ∈ l, 0 ≤ k ∧ k < (n : Int)) (hn : n ≤ 12) : setL l < 4096 := by
  refine Nat.lt_of_lt_of_le (orL_lt (n := 12) fun i hi => ?_) (by decide)
  obtain ⟨k, hk, rfl⟩ := List.mem_map.1 hi
  have := h k hk
  omega
theorem okSub_take {n : Nat} {l : List Int} {j : Nat} {x : Int} (h : OkSub n (l.take j)) (hx : l[j]? = some x) (h0 : 0 ≤ x) (h1 : x < (n : Int)) (h2 : x ∉ l.take j) : OkSub n (l.take (j + 1)) := by
  rw [List.take_add_one, hx]
  refine ⟨fun k hk => ?_, ?_⟩
  · rcases List.mem_append.1 hk with hk | hk
    · exact h.1 k hk
    · simp at hk; subst hk; exact ⟨h0, h1⟩
  · refine List.nodup_append.2 ⟨h.2, by simp, fun a ha b hb => ?_⟩
    simp at hb
    subst hb
    exact fun e => h2 (e ▸ ha)
theorem not_okSub {n : Nat} {l : List Int} {j : Nat} {x : Int} (hx : l[j]? = some x) (h : x < 0 ∨ (n : Int) ≤ x ∨ x ∈ l.take j) : ¬ OkSub n l := by
  rintro ⟨h1, h2⟩
  have h3 := h1 x (List.mem_of_getElem? hx)
  rcases h with h | h | h
  · omega
  · omega
  · rw [← List.take_append_drop j l] at h2
    have h4 := (List.nodup_append.1 h2).2.2 x h x (by
      rw [List.drop_eq_getElem_cons (List.getElem?_eq_some_iff.1 hx).1]
      rw [(List.getElem?_eq_some_iff.1 hx).2]
      exact List.mem_cons_self)
    exact h4 rfl
set_option maxHeartbeats 3200000 in
theorem choose_impl {B g n cap m cl : Nat} {pa al : Option Addr} {l : List Int} {w : World} (hg : w.cell? ⟨g, 3, none⟩ = some (.slice pa n cap)) (hl : Rd B w (.slice al m cl) (ints l)) (hm : l.length = m) (hmm : m ≤ 1048576) (hn : n ≤ 12) :
    Calls Try.prog 66 #[.pointer (some ⟨g, 0, none⟩), .slice al m cl] w fun e w' => e = .returned (.tuple #[.int .u64 ((if subB n l = true then setL l else 0 : Nat) : Int), .bool (subB n l)]) ∧ w = w' := by
  have HL := Lib.hid hl
  have HM := Lib.hid hm
  obtain ⟨yb, hyb⟩ : ∃ b, b = subB n l := ⟨_, rfl⟩
  obtain ⟨ys, hys⟩ : ∃ s : Nat, s = if subB n l = true then setL l else 0 := ⟨_, rfl⟩
  rw [← hyb]
  rw [← hyb] at hys
  rw [← hys]
  have HY := Lib.hid (And.intro hyb hys)
  clear hl hm hyb hys
  go_enter Try.func66, Try.ntmps66
  go_wp2
  go_loopw [6, 11] (fun u i wr => ∃ j a : Nat, j ≤ m ∧ i = .int .i64 j ∧ u = .int .u64 a ∧ Hid (a = setL (l.take j)) ∧ Hid (OkSub n (l.take j)) ∧ wr = w) (fun _ i _ => m - (intOf i).toNat)
  case atStart => exact ⟨0, 0, by omega, rfl, rfl, Lib.hid rfl, Lib.hid ⟨fun k hk => by simp at hk, by simp⟩, rfl⟩
  case round =>
    obtain ⟨j, a, hj, rfl, rfl, HA, HO, rfl⟩ := hrel
    by_cases hlt : j < m
    · obtain ⟨x, X1⟩ : ∃ x, Hid (l[j]? = some x) := ⟨_, List.getElem?_eq_getElem (by rw [HM.out]; exact hlt)⟩
      obtain ⟨b1, o1, rfl, -, e1⟩ := HL.out.cellAt X1.out
      have no : ∀ h : ¬ OkSub n l, yb = false ∧ ys = 0 := fun h => by
        have h1 : yb = false := by rw [HY.out.1, subB_false h]
        exact ⟨h1, by rw [HY.out.2, h1]; rfl⟩
      by_cases hx0 : x < 0
      · obtain ⟨e3, e4⟩ := no (not_okSub X1.out (.inl hx0))
        subst e3 e4
        clear no
        go_wp2
        refine bodyPost_ret (v := .tuple #[.int .u64 0, .bool false]) (by simp [results, Try.results66, go_sem]) rfl ?_
        exact ⟨rfl, rfl⟩
      · obtain ⟨y, hy⟩ : ∃ y : Nat, x = (y : Int) := ⟨x.toNat, by omega⟩
        subst hy
        by_cases hxn : n ≤ y
        · obtain ⟨e3, e4⟩ := no (not_okSub X1.out (.inr (.inl (by omega))))
          subst e3 e4
          have q1 : (n : Int) ≤ (y : Int) := by omega
          clear no
          go_wp2
          refine bodyPost_ret (v := .tuple #[.int .u64 0, .bool false]) (by simp [results, Try.results66, go_sem]) rfl ?_
          exact ⟨rfl, rfl⟩
        · have q1 : ¬ (n : Int) ≤ (y : Int) := by omega
          have ha4 : a < 4096 := by rw [HA.out]; exact setL_lt HO.out.1 hn
          have HH := Lib.hid (has_impl a y wr (by omega) (by omega))
          have hbit : a.testBit y = true ↔ (y : Int) ∈ l.take j := by rw [HA.out]; exact setL_bit (fun k hk => (HO.out.1 k hk).1) y
          cases hb : a.testBit y with
          | true =>
            obtain ⟨e3, e4⟩ := no (not_okSub X1.out (.inr (.inr (hbit.1 hb))))
            subst e3 e4
            rw [hb] at HH
            clear no hb hbit
            go_wp2_with fail
            refine HH.out.mono ?_
            rintro e w2 ⟨rfl, rfl⟩
            clear HH
            go_wp2
            refine bodyPost_ret (v := .tuple #[.int .u64 0, .bool false]) (by simp [results, Try.results66, go_sem]) rfl ?_
            exact ⟨rfl, rfl⟩
          | false =>
            have hnm : (y : Int) ∉ l.take j := fun h => by rw [hbit.2 h] at hb; cases hb
            have HO2 := Lib.hid (okSub_take HO.out X1.out (by omega) (by omega) hnm)
            have HA2 : Hid (a ||| 2 ^ y = setL (l.take (j + 1))) := Lib.hid (by
              rw [List.take_add_one, X1.out]
              show _ = setL (l.take j ++ [(y : Int)])
              rw [setL_snoc, ← HA.out])
            have HP := Lib.hid (or_pow a y (by omega) (by omega))
            rw [hb] at HH
            clear no hb hbit hnm
            go_wp2_with fail
            refine HH.out.mono ?_
            rintro e w2 ⟨rfl, rfl⟩
            clear HH e1
            go_wp2
            go_roundw
            case rel => exact ⟨j + 1, a ||| 2 ^ y, by omega, by go_num, by rw [HP.out], HA2, HO2, trivial⟩
            case measure => simp [intOf]; omega
    · obtain rfl : j = m := by omega
      have e2 : l.take j = l := List.take_of_length_le (by rw [HM.out]; exact Nat.le_refl _)
      rw [e2] at HA HO
      have h1 : yb = true := by rw [HY.out.1, subB_true HO.out]
      have h2 : ys = a := by rw [HY.out.2, h1, HA.out]; rfl
      subst h1 h2
      clear e2
      go_wp2
      refine bodyPost_ret (v := .tuple #[.int .u64 ys, .bool true]) (by simp [results, Try.results66, go_sem]) rfl ?_
      exact ⟨rfl, rfl⟩
end Go.Proofs.Ytdheakjjnaifkaa
namespace Go.Proofs.Ytdheakjjnaifkaa
set_option maxRecDepth 20000
open Go.RowKit

theorem filter_range {N : Nat} {n : Nat} {P Q : Nat → Bool} (h : n ≤ N) (h1 : ∀ i, i < n → P i = Q i) (h2 : ∀ i, n ≤ i → i < N → P i = false) : (List.range N).filter P = (List.range n).filter Q := by
  induction N with
  | zero => obtain rfl : n = 0 := by omega
            rfl
  | succ N ih =>
    by_cases e : n = N + 1
    · subst e
      exact List.filter_congr fun i hi => h1 i (List.mem_range.1 hi)
    · rw [List.range_succ, List.filter_append, ih (by omega) fun i hi hN => h2 i hi (by omega)]
      have := h2 N (by omega) (by omega)
      simp [this]
theorem andNot_bit {a b i : Nat} (hb : b < 18446744073709551616) (hi : i < 64) : (a &&& (18446744073709551615 - b)).testBit i = (a.testBit i && !b.testBit i) := by
  rw [Nat.testBit_and]
  have h := Nat.testBit_two_pow_sub_succ (x := b) (n := 64) hb i
  have e : 2 ^ 64 - (b + 1) = 18446744073709551615 - b := by omega
  rw [e] at h
  rw [h, decide_eq_true hi, Bool.true_and]
/-- The labels of two tensors meet. -/
def meetI (L M : List Int) : Bool := L.any fun x => decide (x ∈ M)
theorem meetI_iff {L M : List Int} : meetI L M = true ↔ ∃ x, x ∈ L ∧ x ∈ M := by
  unfold meetI
  rw [List.any_eq_true]
  simp only [decide_eq_true_eq]
theorem meetT_iff {ts : List TenE} {i j : Nat} {t u : TenE} (hi : ts[i]? = some t) (hj : ts[j]? = some u) : MeetT ts i j ↔ meetI t.1 u.1 = true := by
  rw [meetI_iff]
  constructor
  · rintro ⟨x, t', u', h1, h2, h3, h4⟩
    rw [hi] at h1; rw [hj] at h2
    cases h1; cases h2
    exact ⟨x, h3, h4⟩
  · rintro ⟨x, h3, h4⟩
    exact ⟨x, t, u, hi, hj, h3, h4⟩
def nbrTo (ts : List TenE) (k n : Nat) : List Int := ((List.range n).filter fun i => decide (i ≠ k) && meetI (ts.getD i ([], [], [])).1 (ts.getD k ([], [], [])).1).map fun i : Nat => (i : Int)
open Classical in
noncomputable def nbrL (k p q : Int) (ts : List TenE) (O : List Int) (x : Int) : List Int := if NetOk k p q ts O ∧ 0 ≤ x ∧ x < ts.length then nbrTo ts x.toNat ts.length else []
open Classical in
theorem nbr_yes {k p q : Int} {ts : List TenE} {O : List Int} {x : Int} (h : NetOk k p q ts O) (h2 : 0 ≤ x ∧ x < ts.length) : nbrL k p q ts O x = nbrTo ts x.toNat ts.length := if_pos ⟨h, h2⟩
open Classical in
theorem nbr_no {k p q : Int} {ts : List TenE} {O : List Int} {x : Int} (h : ¬ (NetOk k p q ts O ∧ 0 ≤ x ∧ x < ts.length)) : nbrL k p q ts O x = [] := if_neg h
theorem nbrTo_len (ts : List TenE) (k n : Nat) : (nbrTo ts k n).length ≤ n := by
  unfold nbrTo
  rw [List.length_map]
  exact Nat.le_trans (List.length_filter_le _ _) (by simp)
theorem nbrL_len (k p q : Int) (ts : List TenE) (O : List Int) (x : Int) : (nbrL k p q ts O x).length ≤ 12 := by
  by_cases h : NetOk k p q ts O ∧ 0 ≤ x ∧ x < ts.length
  · rw [nbr_yes h.1 h.2]
    have := nbrTo_len ts x.toNat ts.length
    have := h.1.2.1
    omega
  · rw [nbr_no h]; simp
/-- The neighbors of one tensor, out of the sets. -/
theorem nbr_bits {ts : List TenE} (hax : AxT ts) (hn : ts.length ≤ 12) {k : Nat} (hk : k < ts.length) : bitsTo (arS ts (2 ^ k) &&& (18446744073709551615 - 2 ^ k)) 12 = nbrTo ts k ts.length := by
  unfold bitsTo nbrTo
  have hk2 : (2 : Nat) ^ k < 18446744073709551616 := Nat.lt_of_lt_of_le (Nat.pow_lt_pow_right (by omega) (show k < 12 by omega)) (by decide)
  have bit : ∀ i, i < 12 → ((arS ts (2 ^ k) &&& (18446744073709551615 - 2 ^ k)).testBit i = true ↔ i ≠ k ∧ MeetT ts i k) := fun i hi => by
    rw [andNot_bit hk2 (by omega), Bool.and_eq_true, arS_bit hax, Bool.not_eq_true', ← Bool.not_eq_true, pow_bit]
    constructor
    · rintro ⟨h | ⟨j, h1, h2⟩, h3⟩
      · exact absurd h h3
      · rw [pow_bit] at h1
        subst h1
        exact ⟨fun e => h3 e.symm, h2⟩
    · rintro ⟨h1, h2⟩
      exact ⟨.inr ⟨k, (pow_bit _ _).2 rfl, h2⟩, fun e => h1 e.symm⟩
  congr 1
  refine filter_range hn (fun i hi => ?_) (fun i hi hN => ?_)
  · have e1 : ts[i]? = some ts[i] := List.getElem?_eq_getElem hi
    have e2 : ts[k]? = some ts[k] := List.getElem?_eq_getElem hk
    have d1 : ts.getD i ([], [], []) = ts[i] := by rw [List.getD_eq_getElem?_getD, e1]; rfl
    have d2 : ts.getD k ([], [], []) = ts[k] := by rw [List.getD_eq_getElem?_getD, e2]; rfl
    rw [d1, d2]
    have h1 := bit i (by omega)
    rw [meetT_iff e1 e2] at h1
    rw [Bool.eq_iff_iff, h1, Bool.and_eq_true, decide_eq_true_eq]
  · cases hb : (arS ts (2 ^ k) &&& (18446744073709551615 - 2 ^ k)).testBit i with
    | false => rfl
    | true =>
      obtain ⟨-, x, t, u, h1, -⟩ := (bit i hN).1 hb
      have := (List.getElem?_eq_some_iff.1 h1).1
      omega
theorem no_bits {ts : List TenE} (hax : AxT ts) : bitsTo (arS ts 0 &&& (18446744073709551615 - 0)) 12 = [] := by
  unfold bitsTo
  rw [List.map_eq_nil_iff, List.filter_eq_nil_iff]
  intro i hi h
  rw [andNot_bit (by decide) (by have := List.mem_range.1 hi; omega), Bool.and_eq_true, arS_bit hax] at h
  rcases h.1 with h | ⟨j, h, -⟩ <;> simp at h
set_option maxHeartbeats 3200000 in
theorem neighbors_of_full {B n cap m co : Nat} {pa po : Option Addr} {k p q : Int} {ts : List TenE} {O : List Int} {w : World} (ha : RdTs B w (.slice pa n cap) ts) (ho : Rd B w (.slice po m co) (ints O)) (hB : B ≤ w.heap.size) (hn : ts.length = n) (hl : LenTs ts) (hI : ∀ t ∈ ts, allI t.1) (hm : O.length = m) (hmm : m ≤ 1048576) (hJ : allI O) (x : Int) :
    Calls Try.prog 31 #[netV k p q (.slice pa n cap) (.slice po m co), .int .i64 x] w (NewRow w (nbrL k p q ts O x)) := by
  obtain ⟨yl, hyl⟩ : ∃ l, l = nbrL k p q ts O x := ⟨_, rfl⟩
  rw [← hyl]
  have HYL := Lib.hid hyl
  clear hyl
  obtain ⟨w1, hw1⟩ : ∃ W, W = w.alloc (.cells #[.int .i64 k, .int .i64 p, .int .i64 q, .slice pa n cap, .slice po m co] 33) := ⟨_, rfl⟩
  have hb1 : Below w.heap.size w w1 := by rw [hw1]; exact (Below.refl _ _).alloc (Nat.le_refl _) _
  have hc : w1.cell? ⟨w.heap.size, 0, none⟩ = some (.int .i64 k) ∧ w1.cell? ⟨w.heap.size, 1, none⟩ = some (.int .i64 p) ∧ w1.cell? ⟨w.heap.size, 2, none⟩ = some (.int .i64 q) ∧ w1.cell? ⟨w.heap.size, 3, none⟩ = some (.slice pa n cap) ∧ w1.cell? ⟨w.heap.size, 4, none⟩ = some (.slice po m co) := by rw [hw1]; simp
  have HK := Lib.hid (check_full (k := k) (p := p) (q := q) (w := w1) ((ha.below hb1 hB).mono (Nat.le_trans hB hb1.size)) ((ho.below hb1 hB).mono (Nat.le_trans hB hb1.size)) (Nat.le_refl _) hn hl hI hm hmm hJ)
  have HTS := Lib.hid (ha.mono hB)
  have HB1 := Lib.hid hb1
  have HW1 := Lib.hid hw1
  have HN := Lib.hid hn
  obtain ⟨c0, c1, c2, c3, c4⟩ := hc
  clear ha ho hB hn hl hI hm hmm hJ hb1 hw1
  go_enter Try.func31, Try.ntmps31
  go_upto_region 1 with fail
  rw [← HW1.out]
  clear HW1
  go_wp2_with fail
  refine HK.out.mono ?_
  clear HK c0 c1 c2 c3 c4
  rintro e w2 (⟨hv, g, a, b, rfl, hg, ⟨k0, k1, k2, k3, k4, k5, k6⟩, hab, hne, hb2⟩ | ⟨hnv, rfl, hb2⟩)
  · have HV := Lib.hid hv
    have HB2 := Lib.hid (HB1.out.trans (hb2.mono HB1.out.size))
    have hn12 : n ≤ 12 := by rw [← HN.out]; exact hv.2.1
    have hgl : g < w2.heap.size := World.block_lt_of_cell? _ _ k3
    obtain ⟨WX, hWX⟩ : ∃ W, W = w2.alloc (.cells #[.int .i64 x] 3) := ⟨_, rfl⟩
    have RX : Hid (Rs w2 WX [] [(.slice (some ⟨w2.heap.size, 0, none⟩) 1 1, [x])]) := Lib.hid (by rw [hWX]; exact (Rs.start w2).lit1 x)
    have k3 : WX.cell? ⟨g, 3, none⟩ = some (.slice pa n cap) := (RX.out.bel.cell (p := ⟨g, 3, none⟩) hgl).trans k3
    have HC := Lib.hid (choose_impl (l := [x]) (w := WX) k3 (RX.out.rd (v := .slice (some ⟨w2.heap.size, 0, none⟩) 1 1) (xs := [x]) (by simp)) rfl (by decide) hn12)
    obtain ⟨s, hs⟩ : ∃ s : Nat, s = if subB n [x] = true then setL [x] else 0 := ⟨_, rfl⟩
    obtain ⟨z, hz⟩ : ∃ z, z = subB n [x] := ⟨_, rfl⟩
    rw [← hs, ← hz] at HC
    have HBX := Lib.hid (HB2.out.trans (RX.out.bel.mono HB2.out.size))
    have HGR := Lib.hid (graph_impl (g := g) (w := WX) ((HTS.out.below HBX.out (Nat.le_refl _)).mono HBX.out.size) k3 HN.out hn12 HV.out.2.2.1.ax)
    have hs4 : s < 4096 ∧ bitsTo (arS ts s &&& (18446744073709551615 - s)) 12 = yl := by
      by_cases hx : 0 ≤ x ∧ x < (n : Int)
      · have h1 : OkSub n [x] := ⟨fun k hk => by simp at hk; subst hk; exact hx, by simp⟩
        have h2 : s = 2 ^ x.toNat := by rw [hs, if_pos (subB_true h1)]; simp [setL, orL]
        have h3 : x.toNat < ts.length := by rw [HN.out]; omega
        refine ⟨?_, ?_⟩
        · rw [h2]; exact Nat.lt_of_lt_of_le (Nat.pow_lt_pow_right (by omega) (show x.toNat < 12 by omega)) (by decide)
        · rw [h2, nbr_bits HV.out.2.2.1.ax HV.out.2.1 h3, HYL.out, nbr_yes HV.out ⟨hx.1, by rw [HN.out]; exact hx.2⟩]
      · have h1 : ¬ OkSub n [x] := fun h => hx (h.1 x (by simp))
        have h2 : s = 0 := by rw [hs, subB_false h1]; rfl
        refine ⟨by omega, ?_⟩
        rw [h2, no_bits HV.out.2.2.1.ax, HYL.out, nbr_no fun h => hx ⟨h.2.1, by have := h.2.2; rw [HN.out] at this; exact this⟩]
    have HS := Lib.hid hs4
    have HWX := Lib.hid hWX
    clear hv hg hab hne hb2 k0 k1 k2 k4 k5 k6 hs hz hs4 hWX hgl
    go_wp2_with fail
    rw [← HWX.out]
    refine HC.out.mono ?_
    rintro e w3 ⟨rfl, rfl⟩
    clear HC
    go_wp2_with fail
    refine HGR.out.mono ?_
    rintro e w4 ⟨r, rfl, hgr⟩
    have GR := Lib.hid hgr
    clear hgr HGR k3
    go_wp2_with fail
    refine (around_impl GR.out.c (by rw [HN.out]; exact hn12) HS.out.1).mono ?_
    rintro e w5 ⟨rfl, rfl⟩
    have hAN := u64_andNot_nat (arS ts s) s (by have := arTo_lt (ts := ts) (by rw [HN.out]; exact hn12) HS.out.1 100; unfold arS; omega) (by have := HS.out.1; omega)
    have HAN := Lib.hid hAN
    clear hAN
    go_wp2_with fail
    rw [HAN.out]
    refine (indices_impl _ w4 (Nat.lt_of_le_of_lt Nat.and_le_left (by have := arTo_lt (ts := ts) (by rw [HN.out]; exact hn12) HS.out.1 100; unfold arS; omega))).mono ?_
    rw [HS.out.2]
    rintro e w6 ⟨v6, rfl, o6, hb6⟩
    have RES := Lib.hid (NewRow.after (w0 := w) (HBX.out.trans (GR.out.bel.mono HBX.out.size)) ⟨v6, rfl, o6, hb6⟩)
    clear o6 hb6
    go_wp2
    go_ret
    exact RES.out
  · have hbe := HB1.out.trans (hb2.mono HB1.out.size)
    have HF : Hid (yl = []) := Lib.hid (by rw [HYL.out]; exact nbr_no fun h => hnv h.1)
    clear hb2
    go_wp2
    go_ret
    exact ⟨_, rfl, by rw [HF.out]; exact Own.nil _ _, hbe⟩
end Go.Proofs.Ytdheakjjnaifkaa
