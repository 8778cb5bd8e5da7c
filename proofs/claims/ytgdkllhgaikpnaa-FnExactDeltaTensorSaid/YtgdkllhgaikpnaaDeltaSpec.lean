
/- spec.DeltaTensor, and what a delta tensor holds. -/
import Derived.Test.YtgdkllhgaikpnaaPermSpec
import Derived.Test.YtgdkllhgaikpnaaSliceMath
import Derived.Test.YtgdkllhgaikpnaaZeroImpl
import Derived.Deep.RegionHeld3
namespace Go.Proofs.Ytgdkllhgaikpnaa
set_option maxRecDepth 20000
open Go.RowKit

/-- The offset of the index with the same value for all labels. -/
def diagO (D : List Int) (i : Nat) : Nat := (offI D (List.replicate D.length (i : Int))).toNat
/-- Ones are put at the first j of these offsets. -/
def deltaTo (wd : Nat) (D one Z : List Int) (j : Nat) : List Int := (List.range j).foldl (fun X i => putL X (diagO D i * wd) one) Z
noncomputable def deltaL (k p q : Int) (m : Nat) (d : Int) : List Int := deltaTo (widthI k q).toNat (List.replicate m d) (oneL k p q) (zeroTenL k p q (List.replicate m d)) d.toNat
noncomputable def deltaB (k p q : Int) (L : List Int) (d : Int) : Bool := ringB k p q && (decide (1 ≤ d ∧ d ≤ 8) && decide (0 ≤ sizeI L (List.replicate L.length d)))
theorem deltaTo_zero (wd : Nat) (D one Z : List Int) : deltaTo wd D one Z 0 = Z := rfl
theorem deltaTo_succ (wd : Nat) (D one Z : List Int) (j : Nat) : deltaTo wd D one Z (j + 1) = putL (deltaTo wd D one Z j) (diagO D j * wd) one := by unfold deltaTo; rw [List.range_succ, List.foldl_append]; rfl
theorem rep_in {m i : Nat} {d : Int} (h : (i : Int) < d) : InIx (List.replicate m d) (List.replicate m (i : Int)) := by
  refine ⟨by simp, fun j hj => ?_⟩
  rw [List.length_replicate] at hj
  rw [List.getD_eq_getElem?_getD, List.getD_eq_getElem?_getD, List.getElem?_replicate, List.getElem?_replicate, if_pos hj, if_pos hj]
  exact ⟨by simp, by simpa using h⟩
theorem rep_dims {m : Nat} {d : Int} (h : 1 ≤ d ∧ d ≤ 8) : ∀ x ∈ List.replicate m d, 1 ≤ x ∧ x ≤ 8 := fun x hx => by
  rw [(List.mem_replicate.1 hx).2]; exact h
theorem diagO_is {m i : Nat} {d : Int} (hd : 1 ≤ d ∧ d ≤ 8) (h : (i : Int) < d) : offI (List.replicate m d) (List.replicate m (i : Int)) = (diagO (List.replicate m d) i : Int) ∧ (diagO (List.replicate m d) i : Int) < prodL (List.replicate m d) := by
  have hr := offP_range (fun x hx => (rep_dims hd x hx).1) (rep_in (m := m) h) (List.replicate m d).length (Nat.le_refl _)
  rw [← offI_is, List.take_of_length_le (Nat.le_refl _)] at hr
  unfold diagO
  rw [List.length_replicate]
  omega
theorem putL_lens {X x : List Int} {s : Nat} (h : s + x.length ≤ X.length) : (putL X s x).length = X.length := by
  unfold putL; simp only [List.length_append, List.length_take, List.length_drop]; omega
/-- What is known of a delta tensor that is made. -/
structure DF (k p q : Int) (L : List Int) (d : Int) (m wd N : Nat) (D : List Int) : Prop where
  rg : ringB k p q = true
  d8 : 1 ≤ d ∧ d ≤ 8
  lL : L.length = m
  eD : D = List.replicate m d
  ax : AxesV L D
  pr : prodL D = (N : Int)
  n1 : 1 ≤ N ∧ N ≤ 4096
  hw : widthI k q = (wd : Int)
  w6 : 1 ≤ wd ∧ wd ≤ 6
theorem DF.of {k p q : Int} {L : List Int} {d : Int} (h : deltaB k p q L d = true) : DF k p q L d L.length (widthI k q).toNat (prodL (List.replicate L.length d)).toNat (List.replicate L.length d) := by
  unfold deltaB at h
  simp only [Bool.and_eq_true, decide_eq_true_eq] at h
  obtain ⟨hr, hd, hs⟩ := h
  have hwd := ring_width hr
  rcases sizeI_cases L (List.replicate L.length d) with ⟨h, -⟩ | ⟨h1, h2, h3, h4⟩
  · omega
  · exact ⟨hr, hd, rfl, rfl, h2, by omega, by omega, by omega, by omega⟩
theorem DF.cap {k p q : Int} {L : List Int} {d : Int} {m wd N : Nat} {D : List Int} (h : DF k p q L d m wd N D) : capI D = (N : Int) := by
  have h1 := (capI_is (fun x hx => (h.ax.2.2.2.1 x hx).1)).1
  have h2 := h.pr
  have h3 := h.n1
  omega
theorem DF.off {k p q : Int} {L : List Int} {d : Int} {m wd N : Nat} {D : List Int} (h : DF k p q L d m wd N D) {i : Nat} (hi : (i : Int) < d) : offI D (List.replicate m (i : Int)) = (diagO D i : Int) ∧ diagO D i < N ∧ diagO D i * wd + wd ≤ N * wd := by
  have h1 := diagO_is (m := m) h.d8 hi
  rw [← h.eD, h.pr] at h1
  have h2 : diagO D i < N := by omega
  refine ⟨h1.1, h2, ?_⟩
  have h3 := Nat.mul_le_mul_right wd (show diagO D i + 1 ≤ N by omega)
  rw [Nat.add_mul, Nat.one_mul] at h3
  exact h3
theorem DF.one {k p q : Int} {L : List Int} {d : Int} {m wd N : Nat} {D : List Int} (h : DF k p q L d m wd N D) : (oneL k p q).length = wd := by
  have h1 := h.hw
  unfold oneL; simp [h1]
theorem DF.len {k p q : Int} {L : List Int} {d : Int} {m wd N : Nat} {D : List Int} (h : DF k p q L d m wd N D) : ∀ j : Nat, (j : Int) ≤ d → (deltaTo wd D (oneL k p q) (repL (zeroL k p q) N) j).length = N * wd := by
  intro j
  induction j with
  | zero => intro _; rw [deltaTo_zero, repL_len]; have h1 := h.hw; unfold zeroL; simp [h1]
  | succ j ih =>
    intro hj
    have h1 := ih (by omega)
    rw [deltaTo_succ, putL_lens (by rw [h1, h.one]; exact (h.off (by omega)).2.2), h1]
theorem rep_snoc (j : Nat) (x : Int) : List.replicate j x ++ [x] = List.replicate (j + 1) x := by rw [List.replicate_succ']

set_option maxHeartbeats 6400000 in
theorem delta_full {B m wd N cl : Nat} {al : Option Addr} {k p q d : Int} {L D : List Int} {w : World} (hf : DF k p q L d m wd N D) (hl : Rd B w (.slice al m cl) (ints L)) (hB : B ≤ w.heap.size) :
    Calls Try.prog 49 #[ringV k p q, .slice al m cl, .int .i64 d] w (NewTen w L D (deltaTo wd D (oneL k p q) (repL (zeroL k p q) N) d.toNat)) := by
  have F := Lib.hid hf
  have HL := Lib.hid hl
  have HB := Lib.hid hB
  have h12 : m ≤ 12 := by have h := hf.ax.1; rw [hf.lL] at h; exact h
  obtain ⟨e, he⟩ : ∃ e : Nat, d = (e : Int) := ⟨d.toNat, by have := hf.d8; omega⟩
  have hes : e ≤ 8 := by have := hf.d8; omega
  have HE := Lib.hid he
  obtain ⟨i0, hi, hz0, hz1, hz2⟩ := info_parts infoInt
  have J0 := Lib.hid hi
  have J1 := Lib.hid hz0
  have J2 := Lib.hid hz1
  have J3 := Lib.hid hz2
  have S0 : Hid (Rs w ((w.alloc (.cells #[.int .i64 k, .int .i64 p, .int .i64 q] 31)).alloc (.cells #[nilV, nilV, nilV] 28)) [(w.heap.size + 1, nilV, nilV, nilV), (w.heap.size, .int .i64 k, .int .i64 p, .int .i64 q)] []) := by
    have h := ((Rs.start w).box (.int .i64 k) (.int .i64 p) (.int .i64 q) 31).box nilV nilV nilV 28
    simp only [World.size_alloc] at h
    exact h
  have S1 := S0.out.lit
  simp only [World.size_alloc] at S1
  have S2 := Lib.hid S1
  clear hf hl hB hi hz0 hz1 hz2 S1 he
  go_enter Try.func49, Try.ntmps49
  go_wp2
  generalize hbs : [(w.heap.size + 1, nilV, nilV, nilV), (w.heap.size, Value.int .i64 k, Value.int .i64 p, Value.int .i64 q)] = bs at S0 S2
  have HBS := Lib.hid hbs
  clear hbs
  go_loopw [7, 14] (fun u i wr => ∃ (j ca : Nat) (ga : Option Addr), j ≤ m ∧ i = .int .i64 j ∧ u = .slice ga j ca ∧ Hid (Rs w wr bs [(.slice ga j ca, List.replicate j d)])) (fun _ i _ => m - (intOf i).toNat)
  case atStart => exact ⟨0, 0, _, by omega, rfl, rfl, S2⟩
  case round =>
    clear S0 S2
    obtain ⟨j, ca, ga, hj, rfl, rfl, HR⟩ := hrel
    by_cases hlt : j < m
    · have A1 := Lib.hid (HR.out.alloc (.cells #[.int .i64 d] 3))
      have O1 := Lib.hid (A1.out.row (List.mem_cons_self) (by rw [List.length_replicate]) : World.ownsRow _ w.heap.size 3 1 (.slice ga j ca) j (ints (List.replicate j d)))
      go_wp2_with (at_builtin; go_must (refine wpList_append_lies _ rfl _ _ 26 rfl w.heap.size 3 i0 (.int .i64 0) 1 8 Try.underlying26 J0.out J1.out J2.out J3.out rfl (by decide) _ j (ints (List.replicate j d)) rfl O1.out ⟨wr.heap.size, 0, none⟩ 1 1 [.int .i64 d] rfl rfl (cell_one_new _ _ _) ?c2 (by decide) ?c3 ?c4 ?c5 _ rfl ?_))
      case c2 => first | rfl | (intro u hu; simp at hu; subst hu; rfl)
      case c3 => unfold maxLen; omega
      case c4 => omega
      case c5 => exact A1.out.bel.size
      intro g1 cap1 w2 hown hgrow hl1 _
      have R2 := Lib.hid (A1.out.app1 (by rw [List.length_replicate]) hown hgrow (by rw [World.size_alloc]; exact hl1))
      rw [rep_snoc] at R2
      clear hown hgrow hl1 O1 A1
      go_wp2
      go_roundw
      case rel => exact ⟨j + 1, cap1, _, by omega, by go_num, rfl, R2⟩
      case measure => simp [intOf]; omega
    · obtain rfl : j = m := by omega
      have ED : Hid (List.replicate j d = D) := Lib.hid F.out.eD.symm
      rw [ED.out] at HR
      have HDR := Lib.hid (HR.out.rd (v := .slice ga j ca) (xs := D) (by simp))
      obtain ⟨⟨r0, r1, r2⟩, -⟩ := HR.out.at (r := w.heap.size) (a := .int .i64 k) (b := .int .i64 p) (c := .int .i64 q) (by rw [← HBS.out]; simp)
      have HZ := Lib.hid (zero_ten_spec N ((HL.out.below HR.out.bel HB.out).mono (Nat.le_trans HB.out HR.out.bel.size)) HDR.out (Nat.le_refl _) (by rw [F.out.lL]; omega) (by rw [F.out.eD, List.length_replicate]; omega) F.out.rg F.out.ax.2.2.2.1 F.out.cap (by have := F.out.n1; omega))
      clear HDR
      go_wp2_with fail
      refine HZ.out.mono ?_
      clear r0 r1 r2 HZ
      rintro e1 w3 ⟨l', d', x', rfl, ho, hb⟩
      have R3 := Lib.hid (HR.out.new3 hb ho)
      obtain ⟨a1, c1, rfl, -⟩ := ints_form ho.rows.1.rd
      obtain ⟨a2, c2, rfl, -⟩ := ints_form ho.rows.2.1.rd
      obtain ⟨a3, c3, rfl, -⟩ := ints_form ho.rows.2.2.rd
      obtain ⟨mx, hmx⟩ : ∃ n, n = (repL (zeroL k p q) N).length := ⟨_, rfl⟩
      have HMX : Hid (mx = N * wd ∧ mx ≤ 24576) := Lib.hid (by
        have h := F.out.len 0 (by have := F.out.d8; omega)
        rw [deltaTo_zero, ← hmx] at h
        refine ⟨h, ?_⟩
        rw [h]
        exact Nat.le_trans (Nat.mul_le_mul F.out.n1.2 F.out.w6.2) (by omega))
      rw [F.out.lL, show D.length = j by rw [F.out.eD, List.length_replicate], ← hmx] at R3 ⊢
      clear ho hb HR hmx
      have R4 := Lib.hid (R3.out.box (.slice a1 j c1) (.slice a2 j c2) (.slice a3 mx c3) 28)
      have R5 : Hid (Rs w _ ((w3.heap.size, Value.slice a1 j c1, Value.slice a2 j c2, Value.slice a3 mx c3) :: bs) [(.slice a3 mx c3, deltaTo wd D (oneL k p q) (repL (zeroL k p q) N) 0), (.slice a1 j c1, L), (.slice a2 j c2, D), (.slice ga j ca, D)]) := Lib.hid (by rw [deltaTo_zero]; exact R4.out.third)
      clear R3 R4
      obtain ⟨be, hbe⟩ : ∃ b, b = (w3.heap.size, Value.slice a1 j c1, Value.slice a2 j c2, Value.slice a3 mx c3) :: bs := ⟨_, rfl⟩
      rw [← hbe] at R5
      have HBE := Lib.hid hbe
      clear hbe
      go_wp2
      go_loopw [9] (fun s wr => ∃ c : Nat, c ≤ e ∧ s = .int .i64 c ∧ Hid (Rs w wr be [(.slice a3 mx c3, deltaTo wd D (oneL k p q) (repL (zeroL k p q) N) c), (.slice a1 j c1, L), (.slice a2 j c2, D), (.slice ga j ca, D)])) (fun s _ => e - (intOf s).toNat)
      case atStart => exact ⟨0, by omega, rfl, R5⟩
      case round =>
        clear R5
        obtain ⟨c, hc, rfl, HR⟩ := hrel
        by_cases hlt2 : c < e
        · have hcd : (c : Int) < d := by rw [HE.out]; omega
          have R6 := Lib.hid HR.out.lit
          clear HR
          go_wp2
          go_loopw [10, 33] (fun u i wr => ∃ (y cy : Nat) (gy : Option Addr), y ≤ j ∧ i = .int .i64 y ∧ u = .slice gy y cy ∧ Hid (Rs w wr be [(.slice gy y cy, List.replicate y (c : Int)), (.slice a3 mx c3, deltaTo wd D (oneL k p q) (repL (zeroL k p q) N) c), (.slice a1 j c1, L), (.slice a2 j c2, D), (.slice ga j ca, D)])) (fun _ i _ => j - (intOf i).toNat)
          case atStart => exact ⟨0, 0, _, by omega, rfl, rfl, R6⟩
          case round =>
            clear R6
            obtain ⟨y, cy, gy, hy, rfl, rfl, HR⟩ := hrel
            by_cases hlty : y < j
            · have A1 := Lib.hid (HR.out.alloc (.cells #[.int .i64 (c : Int)] 3))
              have O1 := Lib.hid (A1.out.row (List.mem_cons_self) (by rw [List.length_replicate]) : World.ownsRow _ w.heap.size 3 1 (.slice gy y cy) y (ints (List.replicate y (c : Int))))
              go_wp2_with (at_builtin; go_must (refine wpList_append_lies _ rfl _ _ 26 rfl w.heap.size 3 i0 (.int .i64 0) 1 8 Try.underlying26 J0.out J1.out J2.out J3.out rfl (by decide) _ y (ints (List.replicate y (c : Int))) rfl O1.out ⟨wr.heap.size, 0, none⟩ 1 1 [.int .i64 (c : Int)] rfl rfl (cell_one_new _ _ _) ?c2 (by decide) ?c3 ?c4 ?c5 _ rfl ?_))
              case c2 => first | rfl | (intro u hu; simp at hu; subst hu; rfl)
              case c3 => unfold maxLen; omega
              case c4 => omega
              case c5 => exact A1.out.bel.size
              intro g1 cap1 w2 hown hgrow hl1 _
              have R7 := Lib.hid (A1.out.app1 (by rw [List.length_replicate]) hown hgrow (by rw [World.size_alloc]; exact hl1))
              rw [rep_snoc] at R7
              clear hown hgrow hl1 O1 A1
              go_wp2
              go_roundw
              case rel => exact ⟨y + 1, cap1, _, by omega, by go_num, rfl, R7⟩
              case measure => simp [intOf]; omega
            · obtain rfl : y = j := by omega
              have R8 := Lib.hid HR.out.drew
              have HOF0 := F.out.off hcd
              have HLE := Lib.hid (F.out.len c (by omega))
              have HON := Lib.hid F.out.one
              obtain ⟨o, hoo⟩ : ∃ o, o = diagO D c := ⟨_, rfl⟩
              rw [← hoo] at HOF0
              have HNX : Hid (putL (deltaTo wd D (oneL k p q) (repL (zeroL k p q) N) c) (o * wd) (oneL k p q) = deltaTo wd D (oneL k p q) (repL (zeroL k p q) N) (c + 1)) := Lib.hid (by rw [deltaTo_succ, hoo])
              have HO := Lib.hid (fun (W : World) (h1 : Rd W.heap.size W (.slice ga y ca) (ints D)) (h2 : Rd W.heap.size W (.slice gy y cy) (ints (List.replicate y (c : Int)))) => offset_spec_full ga ca gy cy y W.heap.size D (List.replicate y (c : Int)) W (by rw [F.out.eD, List.length_replicate]) (by rw [List.length_replicate]) (by omega) F.out.ax.2.2.2.1 (by have h1 := F.out.pr; have h2 := F.out.n1; omega) (by have h := rep_in (m := y) hcd; rw [← F.out.eD] at h; exact h) h1 h2)
              rw [HOF0.1] at HO
              have HOB := Lib.hid HOF0.2
              have hn4 := F.out.n1.2
              have ho4 : o ≤ 4096 := by have := HOF0.2.1; omega
              clear HOF0 hoo HR
              obtain ⟨⟨r0, r1, r2⟩, -⟩ := R8.out.at (r := w.heap.size) (a := .int .i64 k) (b := .int .i64 p) (c := .int .i64 q) (by rw [HBE.out, ← HBS.out]; simp)
              obtain ⟨⟨o0, o1, o2⟩, -⟩ := R8.out.at (r := w3.heap.size) (a := .slice a1 y c1) (b := .slice a2 y c2) (c := .slice a3 mx c3) (by rw [HBE.out]; simp)
              go_wp2
              refine wp_region_held_drew (S := (fun w' => (w'.cell? ⟨w.heap.size, 0, none⟩ = some (.int .i64 k) ∧ w'.cell? ⟨w.heap.size, 1, none⟩ = some (.int .i64 p) ∧ w'.cell? ⟨w.heap.size, 2, none⟩ = some (.int .i64 q)) ∧ (w'.cell? ⟨w3.heap.size, 0, none⟩ = some (.slice a1 y c1) ∧ w'.cell? ⟨w3.heap.size, 1, none⟩ = some (.slice a2 y c2) ∧ w'.cell? ⟨w3.heap.size, 2, none⟩ = some (.slice a3 mx c3)))) (by kernel_rfl) (by (try dsimp only); with_reducible exact ⟨⟨r0, r1, r2⟩, ⟨o0, o1, o2⟩⟩) (fun hHeld => ?_)
              refine wpAnyH_take (i := 0) (v := ?_) rfl (by kernel_rfl) (by kernel_rfl) (by kernel_rfl) (fun _ _ _ h => h) (Or.inl ⟨by rfl, ?_⟩) (by assumption) ?_
              rotate_left
              · intro w hSw; (try dsimp only at hSw); go_simp <;> with_reducible rfl
              try simp only [Act.put, List.getElem_toArray, List.getElem_cons_zero, List.setIfInBounds_toArray, List.set_cons_zero, List.set_cons_succ]
              refine wpAnyH_take (i := 1) (v := ?_) rfl (by kernel_rfl) (by kernel_rfl) (by kernel_rfl) (fun _ _ _ h => h) (Or.inl ⟨by rfl, ?_⟩) (by assumption) ?_
              rotate_left
              · intro w hSw; (try dsimp only at hSw); go_simp <;> with_reducible rfl
              try simp only [Act.put, List.getElem_toArray, List.getElem_cons_succ, List.getElem_cons_zero, List.setIfInBounds_toArray, List.set_cons_zero, List.set_cons_succ]
              refine wpAnyH_take (i := 2) (v := ?_) rfl (by kernel_rfl) (by kernel_rfl) (by kernel_rfl) (fun _ _ _ h => h) (Or.inl ⟨by rfl, ?_⟩) (by assumption) ?_
              rotate_left
              · intro w hSw; (try dsimp only at hSw); go_simp <;> with_reducible rfl
              try simp only [Act.put, List.getElem_toArray, List.getElem_cons_succ, List.getElem_cons_zero, List.setIfInBounds_toArray, List.set_cons_zero, List.set_cons_succ]
              refine wpAnyH_take (i := 3) (v := ?_) rfl (by kernel_rfl) (by kernel_rfl) (by kernel_rfl) (fun _ _ _ h => h) (Or.inl ⟨by rfl, ?_⟩) (by assumption) ?_
              rotate_left
              · intro w hSw; (try dsimp only at hSw); go_simp <;> with_reducible rfl
              try simp only [Act.put, List.getElem_toArray, List.getElem_cons_succ, List.getElem_cons_zero, List.setIfInBounds_toArray, List.set_cons_zero, List.set_cons_succ]
              refine wpAnyH_take (i := 5) (v := ?_) rfl (by kernel_rfl) (by kernel_rfl) (by kernel_rfl) (fun _ _ _ h => h) (Or.inl ⟨by rfl, ?_⟩) (by assumption) ?_
              rotate_left
              · intro w hSw; (try dsimp only at hSw); go_simp <;> with_reducible rfl
              try simp only [Act.put, List.getElem_toArray, List.getElem_cons_succ, List.getElem_cons_zero, List.setIfInBounds_toArray, List.set_cons_zero, List.set_cons_succ]
              refine wpAnyH_ready (rs := [4]) (by kernel_rfl) (by simp) ?_
              refine AllReadyH.cons rfl (fun K hK => ?_) AllReadyH.nil
              go_simp
              (go_at_call 66; first | (refine (HO.out _ (R9.out.rd (v := .slice ga y ca) (xs := D) (by simp)) (R9.out.rd (v := .slice gy y cy) (xs := List.replicate y (c : Int)) (by simp))).mono ?_) | (refine (HO.out _ (R8.out.rd (v := .slice ga y ca) (xs := D) (by simp)) (R8.out.rd (v := .slice gy y cy) (xs := List.replicate y (c : Int)) (by simp))).mono ?_); rintro e9 w9 ⟨rfl, rfl⟩)
              go_wp2_with fail
              refine hK.out _ _ (by (try dsimp only); with_reducible exact ⟨⟨r0, r1, r2⟩, ⟨o0, o1, o2⟩⟩) (fun hHeld => ?_)
              clear hK K
              try simp only [Act.put, List.getElem_toArray, List.getElem_cons_succ, List.getElem_cons_zero, List.setIfInBounds_toArray, List.set_cons_zero, List.set_cons_succ]
              refine wpAnyH_ready (rs := [6]) (by kernel_rfl) (by simp) ?_
              refine AllReadyH.cons rfl (fun K hK => ?_) AllReadyH.nil
              go_simp
              (go_at_call 73; refine (one_spec k p q _ F.out.rg).mono ?_; rintro e9 w6 ⟨vc, rfl, ho, hb⟩; have R9 := Lib.hid (R8.out.new hb ho); obtain ⟨gc, jc, rfl, -⟩ := ints_form ho.rd; rw [HON.out] at R9 ⊢; clear hb ho; clear r0 r1 r2 o0 o1 o2; obtain ⟨⟨r0, r1, r2⟩, -⟩ := R9.out.at (r := w.heap.size) (a := .int .i64 k) (b := .int .i64 p) (c := .int .i64 q) (by rw [HBE.out, ← HBS.out]; simp); obtain ⟨⟨o0, o1, o2⟩, -⟩ := R9.out.at (r := w3.heap.size) (a := .slice a1 y c1) (b := .slice a2 y c2) (c := .slice a3 mx c3) (by rw [HBE.out]; simp))
              go_wp2_with fail
              refine hK.out _ _ (by (try dsimp only); with_reducible exact ⟨⟨r0, r1, r2⟩, ⟨o0, o1, o2⟩⟩) (fun hHeld => ?_)
              clear hK K
              try simp only [Act.put, List.getElem_toArray, List.getElem_cons_succ, List.getElem_cons_zero, List.setIfInBounds_toArray, List.set_cons_zero, List.set_cons_succ]
              refine wpAnyH_ready (rs := [7]) (by kernel_rfl) (by simp) ?_
              refine AllReadyH.cons rfl (fun K hK => ?_) AllReadyH.nil
              go_simp
              (go_at_call 72; have HNE := Lib.hid (fun g (hg : (Value.slice gc wd jc).ownBlock = some g) => (List.pairwise_cons.1 R9.out.apart).1 (.slice a3 mx c3, deltaTo wd D (oneL k p q) (repL (zeroL k p q) N) c) (by simp) g hg); refine (put_any wd o y c1 y c2 a1 a2 rfl rfl (R9.out.own1 (v := .slice a3 mx c3) (xs := deltaTo wd D (oneL k p q) (repL (zeroL k p q) N) c) (by simp)) (R9.out.rd (v := .slice gc wd jc) (xs := oneL k p q) (by simp)) (Nat.le_refl _) HNE.out F.out.hw F.out.w6.1 F.out.w6.2 HON.out ho4 (by rw [HLE.out]; exact HOB.out.2) (by rw [HLE.out, ← HMX.out.1]; have := HMX.out.2; omega)).mono ?_; rw [HNX.out]; rintro e9 w8 ⟨rfl, ho, hg⟩; have R10 := Lib.hid ((R9.out.sub (rows' := [(.slice a3 mx c3, deltaTo wd D (oneL k p q) (repL (zeroL k p q) N) c), (.slice a1 y c1, L), (.slice a2 y c2, D), (.slice ga y ca, D)]) (List.Sublist.cons _ (List.Sublist.cons _ (List.Sublist.refl _)))).rewrite ho.1 hg); clear ho hg; clear r0 r1 r2 o0 o1 o2; obtain ⟨⟨r0, r1, r2⟩, -⟩ := R10.out.at (r := w.heap.size) (a := .int .i64 k) (b := .int .i64 p) (c := .int .i64 q) (by rw [HBE.out, ← HBS.out]; simp); obtain ⟨⟨o0, o1, o2⟩, -⟩ := R10.out.at (r := w3.heap.size) (a := .slice a1 y c1) (b := .slice a2 y c2) (c := .slice a3 mx c3) (by rw [HBE.out]; simp))
              go_wp2_with fail
              refine hK.out _ _ (by (try dsimp only); with_reducible exact ⟨⟨r0, r1, r2⟩, ⟨o0, o1, o2⟩⟩) (fun hHeld => ?_)
              clear hK K
              try simp only [Act.put, List.getElem_toArray, List.getElem_cons_succ, List.getElem_cons_zero, List.setIfInBounds_toArray, List.set_cons_zero, List.set_cons_succ]
              refine wpAnyH_done (by kernel_rfl) ?_ _
              all_goals
                go_wp2
                go_roundw
                case rel => exact ⟨c + 1, by omega, by go_num, R10⟩
                case measure => simp [intOf]; omega
        · obtain rfl : c = e := by omega
          have hnlt : ¬ (c : Int) < d := by rw [HE.out]; omega
          have hee : d.toNat = c := by rw [HE.out]; simp
          obtain ⟨⟨o0, o1, o2⟩, -⟩ := HR.out.at (r := w3.heap.size) (a := .slice a1 j c1) (b := .slice a2 j c2) (c := .slice a3 mx c3) (by rw [HBE.out]; simp)
          obtain ⟨⟨t0, t1, t2⟩, f0, f1, f2⟩ := HR.out.at (r := w.heap.size + 1) (a := nilV) (b := nilV) (c := nilV) (by rw [HBE.out, ← HBS.out]; simp)
          go_wp2
          refine bodyPost_ret (v := tenV (.slice a1 j c1) (.slice a2 j c2) (.slice a3 mx c3)) (by simp [results, Try.results49, go_sem, t0, t1, t2]) rfl ?_
          have h := HR.out
          rw [HBE.out, ← HBS.out] at h
          have h2 := (((h.swapB.set3 (.slice a1 j c1) (.slice a2 j c2) (.slice a3 mx c3)).sub (rows' := [(.slice a3 mx c3, deltaTo wd D (oneL k p q) (repL (zeroL k p q) N) c), (.slice a1 j c1, L), (.slice a2 j c2, D)]) (List.Sublist.cons_cons _ (List.Sublist.cons_cons _ (List.Sublist.cons_cons _ (List.Sublist.cons _ (List.Sublist.refl _)))))).third).third
          exact ⟨_, _, _, rfl, h2.ownG, h2.bel⟩
theorem delta_spec {B : Nat} {lv : Value} {k p q d : Int} {L : List Int} {w : World} (hl : Rd B w lv (ints L)) (hB : B ≤ w.heap.size) (h : deltaB k p q L d = true) :
    Calls Try.prog 49 #[ringV k p q, lv, .int .i64 d] w (NewTen w L (List.replicate L.length d) (deltaL k p q L.length d)) := by
  obtain ⟨al, cl, rfl, -⟩ := ints_form hl
  exact delta_full (DF.of h) hl hB

set_option maxHeartbeats 6400000 in
theorem delta_tensor_spec {B : Nat} {lv : Value} {k p q d : Int} {L : List Int} {w : World} (hl : Rd B w lv (ints L)) (hB : B ≤ w.heap.size) (h1 : L.length ≤ 1048576) :
    Calls Try.prog 26 #[ringV k p q, lv, .int .i64 d] w (NewTen2 w (if deltaB k p q L d = true then L else []) (if deltaB k p q L d = true then List.replicate L.length d else []) (if deltaB k p q L d = true then deltaL k p q L.length d else []) (deltaB k p q L d)) := by
  have HL := Lib.hid hl
  have HB := Lib.hid hB
  obtain ⟨al, cl, rfl, -⟩ := ints_form hl
  obtain ⟨m, hm⟩ : ∃ m, m = L.length := ⟨_, rfl⟩
  have HDS := Lib.hid (fun (W : World) (v : Value) (B1 : Nat) (hB1 : B1 ≤ W.heap.size) (h : Rd B1 W v (ints L)) (hd : deltaB k p q L d = true) => delta_spec (k := k) (p := p) (q := q) (d := d) h hB1 hd)
  rw [← hm] at HL HDS h1 ⊢
  obtain ⟨rb, hrb⟩ : ∃ b, b = ringB k p q := ⟨_, rfl⟩
  obtain ⟨ib, hib⟩ : ∃ b, b = inB d 1 8 := ⟨_, rfl⟩
  obtain ⟨s, hs⟩ : ∃ s, s = sizeI L (List.replicate m d) := ⟨_, rfl⟩
  obtain ⟨fb, hfb⟩ : ∃ b, b = deltaB k p q L d := ⟨_, rfl⟩
  have HFB : Hid (fb = (rb && (ib && decide (0 ≤ s)))) := Lib.hid (by
    have e : inB d 1 8 = decide (1 ≤ d ∧ d ≤ 8) := by rw [Bool.eq_iff_iff, inB_true, decide_eq_true_eq]
    rw [hfb, hrb, hib, e, hs, hm]; rfl)
  have HRO := Lib.hid (fun (w1 : World) => ring_ok_spec k p q w1)
  have HIN := Lib.hid (fun (w1 : World) => l01_in d 1 8 w1)
  rw [← hrb] at HRO
  rw [← hib] at HIN
  rw [← hfb] at HDS ⊢
  have HS := Lib.hid hs
  have HM := Lib.hid hm
  obtain ⟨zl, hzl⟩ : ∃ l, l = (if fb = true then L else []) := ⟨_, rfl⟩
  obtain ⟨zd, hzd⟩ : ∃ l, l = (if fb = true then List.replicate m d else []) := ⟨_, rfl⟩
  obtain ⟨zx, hzx⟩ : ∃ l, l = (if fb = true then deltaL k p q m d else []) := ⟨_, rfl⟩
  have HNO : Hid (fb = false → zl = [] ∧ zd = [] ∧ zx = []) := Lib.hid (fun h => by subst h; exact ⟨hzl, hzd, hzx⟩)
  have HYES : Hid (fb = true → zl = L ∧ zd = List.replicate m d ∧ zx = deltaL k p q m d) := Lib.hid (fun h => by subst h; exact ⟨hzl, hzd, hzx⟩)
  rw [← hzl, ← hzd, ← hzx]
  obtain ⟨i0, hi, hz0, hz1, hz2⟩ := info_parts infoInt
  have J0 := Lib.hid hi
  have J1 := Lib.hid hz0
  have J2 := Lib.hid hz1
  have J3 := Lib.hid hz2
  have S0 : Hid (Rs w ((w.alloc (.cells #[.int .i64 k, .int .i64 p, .int .i64 q] 31)).alloc (.cells #[nilV, nilV, nilV] 28)) [(w.heap.size + 1, nilV, nilV, nilV), (w.heap.size, .int .i64 k, .int .i64 p, .int .i64 q)] []) := by
    have h := ((Rs.start w).box (.int .i64 k) (.int .i64 p) (.int .i64 q) 31).box nilV nilV nilV 28
    simp only [World.size_alloc] at h
    exact h
  have S1 := S0.out.lit
  simp only [World.size_alloc] at S1
  have S2 := Lib.hid S1
  clear hl hB hi hz0 hz1 hz2 S1 hm hrb hib hs hfb hzl hzd hzx
  go_enter Try.func26, Try.ntmps26
  go_wp2
  generalize hbs : [(w.heap.size + 1, nilV, nilV, nilV), (w.heap.size, Value.int .i64 k, Value.int .i64 p, Value.int .i64 q)] = bs at S0 S2
  have HBS := Lib.hid hbs
  clear hbs
  go_loopw [8, 12] (fun u i wr => ∃ (j ca : Nat) (ga : Option Addr), j ≤ m ∧ i = .int .i64 j ∧ u = .slice ga j ca ∧ Hid (Rs w wr bs [(.slice ga j ca, List.replicate j d)])) (fun _ i _ => m - (intOf i).toNat)
  case atStart => exact ⟨0, 0, _, by omega, rfl, rfl, S2⟩
  case round =>
    clear S0 S2
    obtain ⟨j, ca, ga, hj, rfl, rfl, HR⟩ := hrel
    by_cases hlt : j < m
    · have A1 := Lib.hid (HR.out.alloc (.cells #[.int .i64 d] 3))
      have O1 := Lib.hid (A1.out.row (List.mem_cons_self) (by rw [List.length_replicate]) : World.ownsRow _ w.heap.size 3 1 (.slice ga j ca) j (ints (List.replicate j d)))
      go_wp2_with (at_builtin; go_must (refine wpList_append_lies _ rfl _ _ 26 rfl w.heap.size 3 i0 (.int .i64 0) 1 8 Try.underlying26 J0.out J1.out J2.out J3.out rfl (by decide) _ j (ints (List.replicate j d)) rfl O1.out ⟨wr.heap.size, 0, none⟩ 1 1 [.int .i64 d] rfl rfl (cell_one_new _ _ _) ?c2 (by decide) ?c3 ?c4 ?c5 _ rfl ?_))
      case c2 => first | rfl | (intro u hu; simp at hu; subst hu; rfl)
      case c3 => unfold maxLen; omega
      case c4 => omega
      case c5 => exact A1.out.bel.size
      intro g1 cap1 w2 hown hgrow hl1 _
      have R2 := Lib.hid (A1.out.app1 (by rw [List.length_replicate]) hown hgrow (by rw [World.size_alloc]; exact hl1))
      rw [rep_snoc] at R2
      clear hown hgrow hl1 O1 A1
      go_wp2
      go_roundw
      case rel => exact ⟨j + 1, cap1, _, by omega, by go_num, rfl, R2⟩
      case measure => simp [intOf]; omega
    · obtain rfl : j = m := by omega
      obtain ⟨⟨r0, r1, r2⟩, -⟩ := HR.out.at (r := w.heap.size) (a := .int .i64 k) (b := .int .i64 p) (c := .int .i64 q) (by rw [← HBS.out]; simp)
      go_wp2_with fail
      refine (HRO.out _).mono ?_
      clear r0 r1 r2
      rintro e w3 ⟨rfl, hb⟩
      have R3 := Lib.hid (HR.out.step hb)
      clear hb HR
      cases rb with
      | false =>
        obtain rfl : fb = false := by rw [HFB.out]; rfl
        obtain ⟨rfl, rfl, rfl⟩ := HNO.out (by simp)
        obtain ⟨⟨t0, t1, t2⟩, f0, f1, f2⟩ := R3.out.at (r := w.heap.size + 1) (a := nilV) (b := nilV) (c := nilV) (by rw [← HBS.out]; simp)
        go_wp2
        refine bodyPost_ret (v := .tuple #[tenV nilV nilV nilV, .bool false]) (by simp [results, Try.results26, go_sem, t0, t1, t2]) rfl ?_
        exact NewTen2.nils (((R3.out.bel.setCell (by simp) _).setCell (by simp) _).setCell (by simp) _)
      | true =>
        go_wp2_with fail
        refine (HIN.out _).mono ?_
        rintro e w4 ⟨rfl, rfl⟩
        cases ib with
        | false =>
          obtain rfl : fb = false := by rw [HFB.out]; rfl
          obtain ⟨rfl, rfl, rfl⟩ := HNO.out (by simp)
          obtain ⟨⟨t0, t1, t2⟩, f0, f1, f2⟩ := R3.out.at (r := w.heap.size + 1) (a := nilV) (b := nilV) (c := nilV) (by rw [← HBS.out]; simp)
          go_wp2
          refine bodyPost_ret (v := .tuple #[tenV nilV nilV nilV, .bool false]) (by simp [results, Try.results26, go_sem, t0, t1, t2]) rfl ?_
          exact NewTen2.nils (((R3.out.bel.setCell (by simp) _).setCell (by simp) _).setCell (by simp) _)
        | true =>
          have HSZ := Lib.hid (size_spec (B := w3.heap.size) (lv := .slice al j cl) (dv := .slice ga j ca) (xv := nilV) (L := L) (D := List.replicate j d) (X := []) ⟨(HL.out.below R3.out.bel HB.out).mono (Nat.le_trans HB.out R3.out.bel.size), R3.out.rd (v := .slice ga j ca) (xs := List.replicate j d) (by simp), .inl ⟨rfl, none, 0, rfl⟩⟩ (Nat.le_refl _) ⟨by rw [← HM.out]; omega, by rw [List.length_replicate]; omega, by simp⟩)
          rw [← HS.out] at HSZ
          go_wp2_with fail
          refine HSZ.out.mono ?_
          clear HSZ
          rintro e w5 ⟨rfl, hb⟩
          have R5 := Lib.hid (R3.out.step hb)
          clear hb R3
          by_cases hs0 : 0 ≤ s
          · have q1 : decide (s < 0) = false := by simpa using hs0
            obtain rfl : fb = true := by rw [HFB.out]; simpa using hs0
            have HY := Lib.hid (HYES.out rfl)
            obtain ⟨⟨r0, r1, r2⟩, -⟩ := R5.out.at (r := w.heap.size) (a := .int .i64 k) (b := .int .i64 p) (c := .int .i64 q) (by rw [← HBS.out]; simp)
            have HQ := Lib.hid (HDS.out w5 (.slice al j cl) w5.heap.size (Nat.le_refl _) ((HL.out.below R5.out.bel HB.out).mono (Nat.le_trans HB.out R5.out.bel.size)) rfl)
            rw [← HY.out.1, ← HY.out.2.1, ← HY.out.2.2] at HQ
            go_wp2_with fail
            refine HQ.out.mono ?_
            clear r0 r1 r2 HQ
            rintro e w6 ⟨l', d', x', rfl, ho, hb⟩
            have R6 := Lib.hid (R5.out.step hb)
            obtain ⟨a1, c1, rfl, -⟩ := ints_form ho.rows.1.rd
            obtain ⟨a2, c2, rfl, -⟩ := ints_form ho.rows.2.1.rd
            obtain ⟨a3, c3, rfl, -⟩ := ints_form ho.rows.2.2.rd
            have lt1 := (R5.out.bx (w.heap.size + 1, nilV, nilV, nilV) (by rw [← HBS.out]; simp)).lt
            have hz1 := R5.out.bel.size
            obtain ⟨q1, hq1⟩ : ∃ m, m = List.length zl := ⟨_, rfl⟩
            obtain ⟨q2, hq2⟩ : ∃ m, m = List.length zd := ⟨_, rfl⟩
            obtain ⟨q3, hq3⟩ : ∃ m, m = List.length zx := ⟨_, rfl⟩
            rw [← hq1, ← hq2, ← hq3] at ho ⊢
            have HO := Lib.hid (ho.set3 lt1 (.slice a1 q1 c1) (.slice a2 q2 c2) (.slice a3 q3 c3))
            clear hb ho hq1 hq2 hq3
            obtain ⟨⟨t0, t1, t2⟩, f0, f1, f2⟩ := R6.out.at (r := w.heap.size + 1) (a := nilV) (b := nilV) (c := nilV) (by rw [← HBS.out]; simp)
            go_wp2
            refine bodyPost_ret (v := .tuple #[tenV (.slice a1 q1 c1) (.slice a2 q2 c2) (.slice a3 q3 c3), .bool true]) (by simp [results, Try.results26, go_sem, t0, t1, t2]) rfl ?_
            refine ⟨_, _, _, rfl, ?_, ((R6.out.bel.setCell (by simp) _).setCell (by simp) _).setCell (by simp) _⟩
            exact HO.out.wide hz1 (by simp) (by simp)
          · have q1 : decide (s < 0) = true := by simpa using hs0
            obtain rfl : fb = false := by rw [HFB.out]; simpa using hs0
            obtain ⟨rfl, rfl, rfl⟩ := HNO.out (by simp)
            obtain ⟨⟨t0, t1, t2⟩, f0, f1, f2⟩ := R5.out.at (r := w.heap.size + 1) (a := nilV) (b := nilV) (c := nilV) (by rw [← HBS.out]; simp)
            go_wp2
            refine bodyPost_ret (v := .tuple #[tenV nilV nilV nilV, .bool false]) (by simp [results, Try.results26, go_sem, t0, t1, t2]) rfl ?_
            exact NewTen2.nils (((R5.out.bel.setCell (by simp) _).setCell (by simp) _).setCell (by simp) _)
theorem delta_len (k p q : Int) (L : List Int) (d : Int) : (if deltaB k p q L d = true then deltaL k p q L.length d else []).length ≤ 24576 := by
  split
  · rename_i h
    have F := DF.of h
    have h1 := F.len d.toNat (by have := F.d8; omega)
    have e : zeroTenL k p q (List.replicate L.length d) = repL (zeroL k p q) (prodL (List.replicate L.length d)).toNat := rfl
    unfold deltaL
    rw [e, h1]
    exact Nat.le_trans (Nat.mul_le_mul F.n1.2 F.w6.2) (by omega)
  · simp
end Go.Proofs.Ytgdkllhgaikpnaa
