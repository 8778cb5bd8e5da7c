
/- The contraction of two tensors: what is summed up, and where. -/
import Derived.Test.YtdheakjjnaifkaaJoinMath
import Derived.Test.YtdheakjjnaifkaaPermSpec
import Derived.Test.YtdheakjjnaifkaaPow2
import Derived.Test.YtdheakjjnaifkaaTensorOk
import Derived.Deep.RegionHeld3
import Derived.Deep.RegionLaw
import Derived.Deep.AppendLies
import Derived.Test.YtdheakjjnaifkaaZero
import Derived.Test.YtdheakjjnaifkaaTimesOne
import Derived.Test.YtdheakjjnaifkaaPlusSpec
namespace Go.Proofs.Ytdheakjjnaifkaa
set_option maxRecDepth 20000
open Go.RowKit

/-- The labels of L, with the dimensions D, are some of those of J. -/
structure SubAx (L D J JD : List Int) : Prop where
  nd : L.Nodup
  len : L.length = D.length
  sub : ∀ n ∈ L, n ∈ J
  dim : ∀ i n, L[i]? = some n → D.getD i 0 = JD.getD (J.idxOf n) 0
theorem SubAx.left {L D L' D' : List Int} (h : L.Nodup) (hl : L.length = D.length) : SubAx L D (joinL L L') (joinD L D L' D') :=
  ⟨h, hl, join_sub_left, fun i n hi => by
    have hm := List.mem_of_getElem? hi
    have hlt := (List.getElem?_eq_some_iff.1 hi).1
    unfold joinL joinD
    rw [List.idxOf_append, if_pos hm, idxOf_at h hi, List.getD_eq_getElem?_getD, List.getD_eq_getElem?_getD, List.getElem?_append_left (by omega)]⟩
theorem SubAx.right {L D L' D' : List Int} (hl : L.length = D.length) (h' : L'.Nodup) (hl' : L'.length = D'.length) (hf : FitV L D L' D') : SubAx L' D' (joinL L L') (joinD L D L' D') :=
  ⟨h', hl', join_sub_right, fun i n hi => by
    have hm := List.mem_of_getElem? hi
    have hlt := (List.getElem?_eq_some_iff.1 hi).1
    unfold joinL joinD
    by_cases hL : n ∈ L
    · have h1 := hf i n hlt hi hL
      have h2 : L.idxOf n < L.length := List.idxOf_lt_length_iff.2 hL
      rw [List.idxOf_append, if_pos hL, ← h1, List.getD_eq_getElem?_getD, List.getD_eq_getElem?_getD, List.getElem?_append_left (by omega)]
    · have hr : n ∈ restL L L' := by unfold restL; simpa using ⟨hm, hL⟩
      have h2 := at_idxOf hr
      rw [List.idxOf_append, if_neg hL, List.getD_eq_getElem?_getD (l := D ++ _), List.getElem?_append_right (by omega), hl, Nat.add_sub_cancel]
      unfold dimsVia
      rw [List.getElem?_map, h2]
      show _ = D'.getD (L'.idxOf n) 0
      rw [idxOf_at h' hi]⟩
theorem SubAx.keep {J JD : List Int} (keep : List Int) (h : J.Nodup) : SubAx (keepL J keep) (keepD J JD keep) J JD :=
  ⟨keep_nodup h, by unfold keepD dimsVia; simp, keep_sub, fun i n hi => by
    unfold keepD dimsVia
    rw [getD_at (show ((keepL J keep).map fun n => JD.getD (J.idxOf n) 0)[i]? = some (JD.getD (J.idxOf n) 0) by rw [List.getElem?_map, hi]; rfl)]⟩
theorem SubAx.inx {L D J JD ix : List Int} (h : SubAx L D J JD) (hl : J.length = JD.length) (hi : InIx JD ix) : InIx D (viaL L J ix) := by
  refine ⟨by unfold viaL; rw [List.length_map]; exact h.len, fun i hlt => ?_⟩
  have hlt' : i < L.length := by rw [h.len]; exact hlt
  have hm : L[i]? = some L[i] := List.getElem?_eq_getElem hlt'
  have e : (viaL L J ix).getD i 0 = ix.getD (J.idxOf L[i]) 0 := getD_at (by unfold viaL; rw [List.getElem?_map, hm]; rfl)
  have h1 : J.idxOf L[i] < J.length := List.idxOf_lt_length_iff.2 (h.sub _ (List.getElem_mem _))
  rw [e, h.dim i _ hm]
  exact hi.2 _ (by omega)
/-- The offset of an index of the join in a tensor. -/
def offJ (L D J JD : List Int) (n : Nat) : Nat := (offI D (viaL L J (idxL JD (n : Int)))).toNat
theorem SubAx.off {L D J JD : List Int} (h : SubAx L D J JD) (hl : J.length = JD.length) (hD : ∀ d ∈ D, 1 ≤ d) (hJ : ∀ d ∈ JD, 1 ≤ d) (hn : J.Nodup) (n : Nat) : (offJ L D J JD n : Int) = dotP (idxL JD (n : Int)) (stepL L D J) J.length ∧ (offJ L D J JD n : Int) < prodL D := by
  have h1 := h.inx hl (idxL_in hJ (n : Int))
  have h2 := offP_range hD h1 D.length (Nat.le_refl _)
  rw [← offI_is, List.take_of_length_le (Nat.le_refl _)] at h2
  unfold offJ
  rw [dot_off h.nd h.len hn h.sub]
  omega
/-- Partial sums of an offset are small. -/
theorem dot_small {ix st : List Int} (h1 : ∀ i, 0 ≤ ix.getD i 0 ∧ ix.getD i 0 ≤ 7) (h2 : ∀ i, 0 ≤ st.getD i 0 ∧ st.getD i 0 ≤ 4096) (j : Nat) : 0 ≤ dotP ix st j ∧ dotP ix st j ≤ 28672 * j := by
  induction j with
  | zero => rw [dotP_zero]; omega
  | succ j ih =>
    have e := Int.mul_le_mul (h1 j).2 (h2 j).2 (h2 j).1 (by omega)
    have e0 := Int.mul_nonneg (h1 j).1 (h2 j).1
    rw [dotP_succ]
    omega
theorem idxL_small {D : List Int} (hD : ∀ d ∈ D, 1 ≤ d ∧ d ≤ 8) (n : Int) (i : Nat) : 0 ≤ (idxL D n).getD i 0 ∧ (idxL D n).getD i 0 ≤ 7 := by
  by_cases hi : i < D.length
  · have h := (idxL_in (fun d hd => (hD d hd).1) n).2 i hi
    have h2 : D.getD i 0 ≤ 8 := by
      rw [getD_at (List.getElem?_eq_getElem hi)]
      exact (hD _ (List.getElem_mem _)).2
    omega
  · rw [List.getD_eq_getElem?_getD, List.getElem?_eq_none (by rw [idxL_len]; omega)]
    simp
theorem stepL_small {L D J : List Int} (hD : ∀ d ∈ D, 1 ≤ d) (hP : prodL D ≤ 4096) (i : Nat) : 0 ≤ (stepL L D J).getD i 0 ∧ (stepL L D J).getD i 0 ≤ 4096 := by
  by_cases hi : i < J.length
  · rw [getD_at (show (stepL L D J)[i]? = some (if J[i] ∈ L then prodL (D.drop (L.idxOf J[i] + 1)) else 0) by unfold stepL; rw [List.getElem?_map, List.getElem?_eq_getElem hi]; rfl)]
    split
    · have h1 := drop_pos hD (L.idxOf J[i] + 1)
      have h2 := prodL_drop_le hD (L.idxOf J[i] + 1)
      omega
    · omega
  · rw [List.getD_eq_getElem?_getD, List.getElem?_eq_none (by rw [stepL_len]; omega)]
    simp

/-- The element o of the sum over the first n indices. -/
def accE (k p q : Int) (zf : Nat → Nat) (tf : Nat → List Int) (n o : Nat) : List Int := (List.range n).foldl (fun s m => if zf m = o then plusL k p s (tf m) else s) (zeroL k p q)
theorem accE_zero (k p q : Int) (zf : Nat → Nat) (tf : Nat → List Int) (o : Nat) : accE k p q zf tf 0 o = zeroL k p q := rfl
theorem accE_succ (k p q : Int) (zf : Nat → Nat) (tf : Nat → List Int) (n o : Nat) : accE k p q zf tf (n + 1) o = if zf n = o then plusL k p (accE k p q zf tf n o) (tf n) else accE k p q zf tf n o := by
  unfold accE
  rw [List.range_succ, List.foldl_append]
  rfl
theorem accE_elem {k p q : Int} {zf : Nat → Nat} {tf : Nat → List Int} {N : Nat} (hr : ringB k p q = true) (ht : ∀ m, m < N → ElemV k p q (tf m)) : ∀ n, n ≤ N → ∀ o, ElemV k p q (accE k p q zf tf n o) := by
  intro n
  induction n with
  | zero => intro _ o; exact zeroL_elem hr
  | succ n ih =>
    intro hn o
    rw [accE_succ]
    split
    · exact plusL_elem hr (ih (by omega) o) (ht n (by omega))
    · exact ih (by omega) o
def accL (k p q : Int) (zf : Nat → Nat) (tf : Nat → List Int) (M n : Nat) : List Int := gatherL (accE k p q zf tf n) M
theorem acc_get {k p q : Int} {zf : Nat → Nat} {tf : Nat → List Int} {M N n o wd : Nat} (hr : ringB k p q = true) (hw : widthI k q = (wd : Int)) (ht : ∀ m, m < N → ElemV k p q (tf m)) (hn : n ≤ N) (ho : o < M) : getL wd (accL k p q zf tf M n) o = accE k p q zf tf n o :=
  gather_get (fun j _ => by have h := (accE_elem (zf := zf) hr ht n hn j).1; omega) ho
theorem acc_len {k p q : Int} {zf : Nat → Nat} {tf : Nat → List Int} {M N n wd : Nat} (hr : ringB k p q = true) (hw : widthI k q = (wd : Int)) (ht : ∀ m, m < N → ElemV k p q (tf m)) (hn : n ≤ N) : (accL k p q zf tf M n).length = M * wd :=
  gather_len M (fun j _ => by have h := (accE_elem (zf := zf) hr ht n hn j).1; omega)
/-- The next product is added to its element. -/
theorem acc_put {k p q : Int} {zf : Nat → Nat} {tf : Nat → List Int} {M N n wd : Nat} (hr : ringB k p q = true) (hw : widthI k q = (wd : Int)) (ht : ∀ m, m < N → ElemV k p q (tf m)) (hn : n < N) (hz : zf n < M) : putL (accL k p q zf tf M n) (zf n * wd) (plusL k p (accE k p q zf tf n (zf n)) (tf n)) = accL k p q zf tf M (n + 1) := by
  have he := fun j => accE_elem (zf := zf) hr ht n (by omega) j
  have hv := (plusL_elem hr (he (zf n)) (ht n hn)).1
  unfold accL
  rw [gather_put (wd := wd) (fun i _ => by have h := (he i).1; omega) (by omega) hz]
  refine gather_congr fun i _ => ?_
  rw [accE_succ]
  by_cases e : i = zf n
  · subst e; rw [if_pos rfl]
  · rw [if_neg e, if_neg (fun h => e h.symm)]

/-- The product at an index of the join. -/
def termJ (k p : Int) (wd : Nat) (L D X L' D' X' J JD : List Int) (n : Nat) : List Int := timesL k p (getL wd X (offJ L D J JD n)) (getL wd X' (offJ L' D' J JD n))
/-- The data of the contraction. -/
def pairL (k p q : Int) (L D X L' D' X' keep : List Int) : List Int :=
  accL k p q (offJ (keepL (joinL L L') keep) (keepD (joinL L L') (joinD L D L' D') keep) (joinL L L') (joinD L D L' D')) (termJ k p (widthI k q).toNat L D X L' D' X' (joinL L L') (joinD L D L' D')) (prodL (keepD (joinL L L') (joinD L D L' D') keep)).toNat (prodL (joinD L D L' D')).toNat
theorem termJ_elem {k p q : Int} {wd N N' : Nat} {L D X L' D' X' J JD : List Int} (hr : ringB k p q = true) (hw : widthI k q = (wd : Int)) (hX : X.length = N * wd) (hX' : X'.length = N' * wd) (wX : Within (topI k p q) X) (wX' : Within (topI k p q) X') {n : Nat} (h1 : offJ L D J JD n < N) (h2 : offJ L' D' J JD n < N') : ElemV k p q (termJ k p wd L D X L' D' X' J JD n) :=
  timesL_elem hr (getL_elem hw hX wX h1) (getL_elem hw hX' wX' h2)
end Go.Proofs.Ytdheakjjnaifkaa

/- spec.l05Product up to the work of a contraction. -/
namespace Go.Proofs.Ytdheakjjnaifkaa
set_option maxRecDepth 20000
open Go.RowKit

def capW (D : List Int) : Int := D.foldl (fun n d => min (n * d) 65537) 1
theorem capW_snoc (D : List Int) (d : Int) : capW (D ++ [d]) = min (capW D * d) 65537 := by simp [capW, List.foldl_append]
theorem capW_fold {D : List Int} (h : ∀ d ∈ D, 1 ≤ d) : ∀ a : Int, 1 ≤ a → a ≤ 65537 → D.foldl (fun n d => min (n * d) 65537) a = min (a * prodL D) 65537 := by
  induction D with
  | nil => intro a h1 h2; rw [prodL_nil, Int.mul_one]; show a = _; omega
  | cons d r ih =>
    intro a h1 h2
    have hd := h d (by simp)
    have hp := prodL_pos (D := r) (fun x hx => h x (by simp [hx]))
    have e1 : a ≤ a * d := by
      have := Int.mul_le_mul_of_nonneg_left hd (by omega : 0 ≤ a)
      omega
    show r.foldl (fun n d => min (n * d) 65537) (min (a * d) 65537) = _
    rw [ih (fun x hx => h x (by simp [hx])) _ (by omega) (by omega), prodL_cons, ← Int.mul_assoc]
    by_cases hc : a * d ≤ 65537
    · rw [show min (a * d) 65537 = a * d by omega]
    · rw [show min (a * d) 65537 = 65537 by omega]
      have e2 : 65537 ≤ 65537 * prodL r := by
        have := Int.mul_le_mul_of_nonneg_left hp (by omega : (0 : Int) ≤ 65537)
        omega
      have e3 : a * d ≤ a * d * prodL r := by
        have := Int.mul_le_mul_of_nonneg_left hp (by omega : 0 ≤ a * d)
        omega
      omega
theorem capW_is {D : List Int} (h : ∀ d ∈ D, 1 ≤ d) : capW D = min (prodL D) 65537 ∧ 1 ≤ capW D ∧ capW D ≤ 65537 := by
  have e : capW D = min (1 * prodL D) 65537 := capW_fold h 1 (by omega) (by omega)
  have hp := prodL_pos h
  rw [Int.one_mul] at e
  omega
set_option maxHeartbeats 800000 in
theorem product_work_full (a : Option Addr) (cap m B : Nat) (D : List Int) (w : World) (hx : D.length = m) (hn : m ≤ 281474976710656) (hD : ∀ d ∈ D, 1 ≤ d ∧ d ≤ 8) (hr : Rd B w (.slice a m cap) (ints D)) :
    Calls Try.prog 82 #[.slice a m cap, .int .i64 65536] w fun e w' => e = .returned (.int .i64 (capW D)) ∧ w = w' := by
  have L1 := Lib.hid hx
  have HR := Lib.hid hr
  have HD := Lib.hid hD
  clear hx hr hD
  go_enter Try.func82, Try.ntmps82
  go_wp2
  go_loop [5, 10] (fun p i => ∃ (j : Nat) (c : Int), j ≤ m ∧ i = .int .i64 j ∧ p = .int .i64 c ∧ 1 ≤ c ∧ c ≤ 65537 ∧ Hid (capW (D.take j) = c)) (fun _ i => m - (intOf i).toNat)
  case atStart => exact ⟨0, 1, by omega, rfl, rfl, by omega, by omega, rfl⟩
  case round =>
    obtain ⟨j, c, hj, rfl, rfl, hc1, hc2, HC⟩ := hrel
    by_cases hlt : j < m
    · obtain ⟨d, D1⟩ : ∃ d, Hid (D[j]? = some d) := ⟨_, List.getElem?_eq_getElem (by rw [L1.out]; exact hlt)⟩
      obtain ⟨b, off, rfl, e1⟩ : ∃ b off, a = some ⟨b, off, none⟩ ∧ w.cell? ⟨b, off + j, none⟩ = some (.int .i64 d) := by
        rcases HR.out.ints_cases with ⟨h, -⟩ | ⟨b, off, ca, e, hb, -, hc⟩
        · have := L1.out; rw [h] at this; simp at this; omega
        · cases e
          refine ⟨b, off, rfl, ?_⟩
          rw [hc j (by rw [L1.out]; exact hlt)]
          rw [(List.getElem?_eq_some_iff.1 D1.out).2]
      have hd := HD.out d (List.mem_of_getElem? D1.out)
      have hd1 := hd.1
      have hd2 := hd.2
      have hm := mul_inT (c := c) (d := d) (by omega) (by omega) (by omega) (by omega)
      have hlow : 1 ≤ c * d := by
        have := Int.mul_le_mul hc1 hd1 (by omega) (by omega)
        omega
      have hw : IntKind.i64.wrap (c * d) = c * d := IntWalk.i64_in _ (by omega)
      have hstep : capW (D.take (j + 1)) = min (c * d) 65537 := by rw [List.take_add_one, D1.out, Option.toList_some, capW_snoc, HC.out]
      by_cases hgt : 65537 < c * d
      · have HS : Hid (capW (D.take (j + 1)) = 65537) := by show _ = _; rw [hstep]; omega
        have q1 : decide ((65537 : Int) < c * d) = true := by simpa using hgt
        clear hstep hd
        go_wp2
        go_round
        case rel => exact ⟨j + 1, 65537, by omega, by go_num, rfl, by omega, by omega, HS⟩
        case measure => simp [intOf]; omega
      · have HS : Hid (capW (D.take (j + 1)) = c * d) := by show _ = _; rw [hstep]; omega
        have q1 : decide ((65537 : Int) < c * d) = false := by simpa using hgt
        clear hstep hd
        go_wp2
        go_round
        case rel => exact ⟨j + 1, c * d, by omega, by go_num, rfl, by omega, by omega, HS⟩
        case measure => simp [intOf]; omega
    · obtain rfl : j = m := by omega
      have HF : Hid (capW D = c) := by
        have h := HC.out
        rw [List.take_of_length_le (by rw [L1.out]; omega)] at h
        exact h
      go_wp2
      go_ret
      exact ⟨by rw [HF.out]; rfl, rfl⟩
theorem product_work {B : Nat} {v : Value} {D : List Int} {w : World} (h : Rd B w v (ints D)) (hn : D.length ≤ 281474976710656) (hD : ∀ d ∈ D, 1 ≤ d ∧ d ≤ 8) :
    Calls Try.prog 82 #[v, .int .i64 65536] w fun e w' => e = .returned (.int .i64 (capW D)) ∧ w = w' := by
  obtain ⟨a, cap, rfl, -⟩ := ints_form h
  exact product_work_full a cap _ B D w rfl hn hD h
end Go.Proofs.Ytdheakjjnaifkaa
namespace Go.Proofs.Ytdheakjjnaifkaa
set_option maxRecDepth 20000
open Go.RowKit

/-- Two new rows and whether they count. -/
def NewRow2B (w : World) (xs ys : List Int) (b : Bool) (e : Ending) (w' : World) : Prop := ∃ u v, e = .returned (.tuple #[u, v, .bool b]) ∧ OwnG w' w.heap.size w'.heap.size [(u, xs), (v, ys)] ∧ Below w.heap.size w w'
theorem FitV.no {L D L' D' : List Int} {j : Nat} {n d : Int} {q : Nat} (hj : L'[j]? = some n) (hd : D'[j]? = some d) (hn : n ∈ L) (hq : L.idxOf n = q) (hne : D.getD q 0 ≠ d) : fitV L D L' D' = false := fitV_false fun h => by
  have h1 := h j n (List.getElem?_eq_some_iff.1 hj).1 hj hn
  rw [hq, getD_at hd] at h1
  exact hne h1
end Go.Proofs.Ytdheakjjnaifkaa
namespace Go.Proofs.Ytdheakjjnaifkaa
set_option maxRecDepth 20000
open Go.RowKit

end Go.Proofs.Ytdheakjjnaifkaa

/- spec.l08Keep: the labels that are kept, with their dimensions. -/
namespace Go.Proofs.Ytdheakjjnaifkaa
set_option maxRecDepth 20000
open Go.RowKit

theorem keepD_step {J JD keep : List Int} {j : Nat} {n d : Int} (hn : J.Nodup) (hj : J[j]? = some n) (hd : JD[j]? = some d) (hk : n ∈ keep) : dimsVia J JD (keepL (J.take j) keep) ++ [d] = dimsVia J JD (keepL (J.take (j + 1)) keep) := by
  rw [keep_yes hj hk, dimsVia_app]
  congr 1
  simp only [dimsVia, List.map_cons, List.map_nil, idxOf_at hn hj, getD_at hd]
end Go.Proofs.Ytdheakjjnaifkaa

/- spec.l08Fits, spec.JoinSize. -/
namespace Go.Proofs.Ytdheakjjnaifkaa
set_option maxRecDepth 20000
open Go.RowKit

/-- The join and what is kept of it are small enough. -/
noncomputable def smallB (L D L' D' keep : List Int) : Bool := decide (prodL (joinD L D L' D') ≤ 65536) && decide (0 ≤ sizeI (keepL (joinL L L') keep) (keepD (joinL L L') (joinD L D L' D') keep))
noncomputable def pfB (L D L' D' keep : List Int) : Bool := fitV L D L' D' && smallB L D L' D' keep
noncomputable def joinI (L D L' D' : List Int) : Int := if fitV L D L' D' = true then capW (joinD L D L' D') else -1
noncomputable def joinSizeI (L D L' D' : List Int) : Int := if sizeI L D < 0 ∨ sizeI L' D' < 0 then -1 else joinI L D L' D'
theorem sizeI_axes {L D : List Int} (h : ¬ sizeI L D < 0) : AxesV L D ∧ 1 ≤ prodL D ∧ prodL D ≤ 4096 ∧ sizeI L D = prodL D := by
  rcases sizeI_cases L D with ⟨h1, -⟩ | ⟨h1, h2, h3, h4⟩
  · omega
  · exact ⟨h2, h3, h4, h1⟩
theorem joinD_ax {L D L' D' : List Int} (h : AxesV L D) (h' : AxesV L' D') : (∀ d ∈ joinD L D L' D', 1 ≤ d ∧ d ≤ 8) ∧ (joinL L L').Nodup ∧ (joinL L L').length ≤ 24 ∧ (joinL L L').length = (joinD L D L' D').length := by
  refine ⟨joinD_in h'.2.1 h.2.2.2.1 h'.2.2.2.1, join_nodup h.2.2.2.2 h'.2.2.2.2, ?_, (joinD_len h.2.1).symm⟩
  have h1 := join_len L L'
  have := h.1
  have := h'.1
  omega
end Go.Proofs.Ytdheakjjnaifkaa

/- spec.l08Pair: the contraction, index by index. -/
namespace Go.Proofs.Ytdheakjjnaifkaa
set_option maxRecDepth 20000
open Go.RowKit

/-- What is asked of a tensor that is contracted. -/
structure TenF (k p q : Int) (L D X : List Int) (wd N : Nat) : Prop where
  ax : AxesV L D
  pr : prodL D = (N : Int)
  n1 : 1 ≤ N ∧ N ≤ 4096
  lX : X.length = N * wd
  wX : Within (topI k p q) X
theorem TenF.of {k p q : Int} {L D X : List Int} {wd : Nat} (ht : tensorB k p q L D X = true) (hw : widthI k q = (wd : Int)) : TenF k p q L D X wd (prodL D).toNat := by
  have hp := PF.of ht (setV_perm (List.Perm.refl L) (tensor_axes ht).2.2.2.2)
  refine ⟨tensor_axes ht, hp.pD, hp.n1, ?_, (tensorB_inv ht).2.2.2⟩
  have h := hp.lX
  rw [hw, Int.toNat_natCast] at h
  exact h
theorem TenF.dim {k p q : Int} {L D X : List Int} {wd N : Nat} (h : TenF k p q L D X wd N) : ∀ d ∈ D, 1 ≤ d := fun d hd => (h.ax.2.2.2.1 d hd).1
theorem repL_gather (z : List Int) (M : Nat) : repL z M = gatherL (fun _ => z) M := by
  induction M with
  | zero => rfl
  | succ M ih => rw [repL_succ, ih, gather_succ]
end Go.Proofs.Ytdheakjjnaifkaa

/- spec.ContractPair, spec.SumLabels. -/
namespace Go.Proofs.Ytdheakjjnaifkaa
set_option maxRecDepth 20000
open Go.RowKit

noncomputable def pairB (k p q : Int) (L D X L' D' X' keep : List Int) : Bool := tensorB k p q L D X && (tensorB k p q L' D' X' && pfB L D L' D' keep)
theorem pairB_parts {k p q : Int} {L D X L' D' X' keep : List Int} (h : pairB k p q L D X L' D' X' keep = true) : tensorB k p q L D X = true ∧ tensorB k p q L' D' X' = true ∧ FitV L D L' D' ∧ prodL (joinD L D L' D') ≤ 65536 ∧ ¬ sizeI (keepL (joinL L L') keep) (keepD (joinL L L') (joinD L D L' D') keep) < 0 := by
  unfold pairB pfB smallB at h
  simp only [Bool.and_eq_true, decide_eq_true_eq] at h
  obtain ⟨h1, h2, h3, h4, h5⟩ := h
  exact ⟨h1, h2, fitV_true.1 h3, h4, by omega⟩
theorem width_pos {k p q : Int} (h : ringB k p q = true) : ∃ wd : Nat, widthI k q = (wd : Int) ∧ 1 ≤ wd ∧ wd ≤ 6 := by
  have h1 := ring_width h
  exact ⟨(widthI k q).toNat, by omega, by omega, by omega⟩
theorem pairL_len {k p q : Int} {L D X L' D' X' keep : List Int} {wd N1 N2 : Nat} (hr : ringB k p q = true) (hw : widthI k q = (wd : Int)) (hw6 : wd ≤ 6) (fa : TenF k p q L D X wd N1) (fb : TenF k p q L' D' X' wd N2) (hf : FitV L D L' D') (hK : ¬ sizeI (keepL (joinL L L') keep) (keepD (joinL L L') (joinD L D L' D') keep) < 0) : (pairL k p q L D X L' D' X' keep).length ≤ 24576 := by
  have HJA := joinD_ax fa.ax fb.ax
  have HKA := sizeI_axes hK
  have SJA : SubAx L D (joinL L L') (joinD L D L' D') := SubAx.left fa.ax.2.2.2.2 fa.ax.2.1
  have SJB : SubAx L' D' (joinL L L') (joinD L D L' D') := SubAx.right fa.ax.2.1 fb.ax.2.2.2.2 fb.ax.2.1 hf
  have hJ1 : ∀ d ∈ joinD L D L' D', 1 ≤ d := fun d hd => (HJA.1 d hd).1
  unfold pairL
  rw [hw, Int.toNat_natCast, acc_len (wd := wd) (N := (prodL (joinD L D L' D')).toNat) hr hw (fun n _ => termJ_elem hr hw fa.lX fb.lX fa.wX fb.wX (by have h := (SJA.off HJA.2.2.2 fa.dim hJ1 HJA.2.1 n).2; rw [fa.pr] at h; omega) (by have h := (SJB.off HJA.2.2.2 fb.dim hJ1 HJA.2.1 n).2; rw [fb.pr] at h; omega)) (Nat.le_refl _)]
  exact Nat.le_trans (Nat.mul_le_mul (show _ ≤ 4096 by omega) hw6) (by omega)
theorem prodL_sub {A C : List Int} (h : A.Sublist C) (h1 : ∀ d ∈ C, 1 ≤ d) : prodL A ≤ prodL C := by
  induction h with
  | slnil => exact Int.le_refl _
  | cons a hs ih =>
    rename_i l1 l2
    rw [prodL_cons]
    have h2 := ih (fun d hd => h1 d (List.mem_cons_of_mem _ hd))
    have h3 := h1 a (by simp)
    have h4 := prodL_pos (D := l2) (fun d hd => h1 d (List.mem_cons_of_mem _ hd))
    have h5 := Int.mul_le_mul_of_nonneg_right h3 (show 0 ≤ prodL l2 by omega)
    omega
  | cons_cons a hs ih =>
    rw [prodL_cons, prodL_cons]
    have h2 := ih (fun d hd => h1 d (List.mem_cons_of_mem _ hd))
    have h3 := h1 a (by simp)
    exact Int.mul_le_mul_of_nonneg_left h2 (by omega)
/-- What is kept of a tensor's own axes is small enough. -/
theorem sum_fits {L D keep : List Int} (h : AxesV L D) (hP : prodL D ≤ 4096) : joinL L [] = L ∧ joinD L D [] [] = D ∧ ¬ sizeI (keepL (joinL L []) keep) (keepD (joinL L []) (joinD L D [] []) keep) < 0 := by
  have e1 : joinL L [] = L := by simp [joinL, restL]
  have e2 : joinD L D [] [] = D := by simp [joinD, restL, dimsVia]
  refine ⟨e1, e2, ?_⟩
  rw [e1, e2]
  have hsub : (keepL L keep).Sublist L := List.filter_sublist
  have hds : (keepD L D keep).Sublist D := by
    have h2 := hsub.map (fun n => D.getD (L.idxOf n) 0)
    have h3 := dims_self h.2.2.2.2 h.2.1
    unfold keepD
    rw [← h3]
    unfold dimsVia at h3 ⊢
    rw [h3]
    rw [h3] at h2
    exact h2
  have hax : AxesV (keepL L keep) (keepD L D keep) := ⟨Nat.le_trans hsub.length_le h.1, by unfold keepD dimsVia; simp, fun x hx => h.2.2.1 x (hsub.subset hx), fun d hd => h.2.2.2.1 d (hds.subset hd), keep_nodup h.2.2.2.2⟩
  have hp := prodL_sub hds (fun d hd => (h.2.2.2.1 d hd).1)
  have hp1 := prodL_pos (D := keepD L D keep) (fun d hd => (hax.2.2.2.1 d hd).1)
  unfold sizeI
  rw [if_pos ⟨axesB_true.2 hax, by omega⟩]
  omega
theorem one_ten {k p q : Int} {wd : Nat} (hr : ringB k p q = true) (hw : widthI k q = (wd : Int)) : TenF k p q [] [] (oneL k p q) wd 1 :=
  ⟨⟨by simp, rfl, by simp, by simp, List.nodup_nil⟩, rfl, by omega, by have h := (oneL_elem hr).1; omega, (oneL_elem hr).2⟩
end Go.Proofs.Ytdheakjjnaifkaa
namespace Go.Proofs.Ytdheakjjnaifkaa
set_option maxRecDepth 20000
open Go.RowKit

theorem pair_len_L (k p q : Int) (L D X L' D' X' keep : List Int) : (if pairB k p q L D X L' D' X' keep = true then keepL (joinL L L') keep else []).length ≤ 12 := by
  split
  · rename_i h; exact (sizeI_axes (pairB_parts h).2.2.2.2).1.1
  · simp
theorem pair_len_D (k p q : Int) (L D X L' D' X' keep : List Int) : (if pairB k p q L D X L' D' X' keep = true then keepD (joinL L L') (joinD L D L' D') keep else []).length ≤ 12 := by
  split
  · rename_i h
    have h1 := (sizeI_axes (pairB_parts h).2.2.2.2).1
    rw [← h1.2.1]; exact h1.1
  · simp
theorem pair_len_X (k p q : Int) (L D X L' D' X' keep : List Int) : (if pairB k p q L D X L' D' X' keep = true then pairL k p q L D X L' D' X' keep else []).length ≤ 24576 := by
  split
  · rename_i h
    obtain ⟨h1, h2, h3, -, h5⟩ := pairB_parts h
    have hrb := (tensorB_inv h1).1
    obtain ⟨wd, hw, -, hw6⟩ := width_pos hrb
    exact pairL_len hrb hw hw6 (TenF.of h1 hw) (TenF.of h2 hw) h3 h5
  · simp
theorem sum_facts {k p q : Int} {L D X : List Int} (keep : List Int) (h : tensorB k p q L D X = true) : ¬ sizeI (keepL (joinL L []) keep) (keepD (joinL L []) (joinD L D [] []) keep) < 0 := by
  have hrb := (tensorB_inv h).1
  obtain ⟨wd, hw, -, -⟩ := width_pos hrb
  have hf := TenF.of h hw
  exact (sum_fits (tensor_axes h) (by have h1 := hf.pr; have h2 := hf.n1; omega)).2.2
theorem sum_len_L (k p q : Int) (L D X keep : List Int) : (if tensorB k p q L D X = true then keepL (joinL L []) keep else []).length ≤ 12 := by
  split
  · rename_i h; exact (sizeI_axes (sum_facts keep h)).1.1
  · simp
theorem sum_len_D (k p q : Int) (L D X keep : List Int) : (if tensorB k p q L D X = true then keepD (joinL L []) (joinD L D [] []) keep else []).length ≤ 12 := by
  split
  · rename_i h
    have h1 := (sizeI_axes (sum_facts keep h)).1
    rw [← h1.2.1]; exact h1.1
  · simp
theorem sum_len_X (k p q : Int) (L D X keep : List Int) : (if tensorB k p q L D X = true then pairL k p q L D X [] [] (oneL k p q) keep else []).length ≤ 24576 := by
  split
  · rename_i h
    have hrb := (tensorB_inv h).1
    obtain ⟨wd, hw, -, hw6⟩ := width_pos hrb
    exact pairL_len hrb hw hw6 (TenF.of h hw) (one_ten hrb hw) (fun j n h => by simp at h) (sum_facts keep h)
  · simp
end Go.Proofs.Ytdheakjjnaifkaa
