import Derived.Test.YtgbmacppgaopfabGreatDeltasMath
import Derived.Test.YtgbmacppgaopfabGreatLinKit
import Derived.Test.YtgbmacppgaopfabGreatJoinMath
import Derived.Test.YtgbmacppgaopfabGreatRs
import Derived.Deep.RegionLaw
import Derived.Deep.AppendLies
import Derived.Test.YtgbmacppgaopfabGreatPairImpl
import Derived.Test.YtgbmacppgaopfabGreatDeltaImpl
import Derived.Test.YtgbmacppgaopfabGreatRelabelImpl
import Derived.Test.YtgbmacppgaopfabGreatDiagImpl
import Derived.Test.YtgbmacppgaopfabGreatLet
import Derived.Deep.RegionHeld3

/- The calls of the law FnDeltas, on what it draws. -/
namespace Go.Proofs.YtgbmacppgaopfabGreat
set_option maxRecDepth 20000
open Go.RowKit

def axC (L D : List Int) : Bool := decide (L.length ≤ 12) && (decide (L.length = D.length) && (L.all (fun x => decide (0 ≤ x) && decide (x ≤ 99)) && (D.all (fun d => decide (1 ≤ d) && decide (d ≤ 8)) && (decide L.Nodup && decide (prodL D ≤ 4096)))))
theorem axC_ok {L D : List Int} (h : axC L D = true) : AxesV L D ∧ prodL D ≤ 4096 := by
  unfold axC at h
  simp only [Bool.and_eq_true, decide_eq_true_eq, List.all_eq_true] at h
  obtain ⟨h1, h2, h3, h4, h5, h6⟩ := h
  exact ⟨⟨h1, h2, h3, h4, h5⟩, h6⟩
def fitC (L D M E : List Int) : Bool := (List.range M.length).all fun j => !decide (M.getD j 0 ∈ L) || decide (D.getD (L.idxOf (M.getD j 0)) 0 = E.getD j 0)
theorem fitC_ok {L D M E : List Int} (h : fitC L D M E = true) : fitV L D M E = true := fitV_true.2 (fun j n hj hn hm => by
  have h1 := List.all_eq_true.1 h j (by simpa using hj)
  have e : M.getD j 0 = n := by rw [List.getD_eq_getElem?_getD, hn]; rfl
  rw [e] at h1
  simpa [hm] using h1)
def dgC (L D : List Int) (a b : Int) : Bool := decide (0 ≤ findI L a) && (decide (0 ≤ findI L b) && (decide (findI L a ≠ findI L b) && decide (D.getD (L.idxOf a) 0 = D.getD (L.idxOf b) 0)))
def rep (m : Nat) (L : List Int) : List Int := List.replicate m (gD (L.getD 0 0))
def turnL (L : List Int) : List Int := L.tail ++ [L.getD 0 0]
def chkE (L : List Int) : Bool := axC (M2 L) (rep 2 L) && (axC (M3 L) (rep 3 L) && (axC (50 :: L.tail) (gDs L) && (axC (K3 L) (dimF L) && (axC (L ++ [70]) (dimG L) && (axC (K2 L) (dimsVia L (gDs L) (turnL L)) && (fitC L (gDs L) (M2 L) (rep 2 L) && (fitC L (gDs L) (M3 L) (rep 3 L) && (dgC (K3 L) (dimF L) 70 60 && (dgC (L ++ [70]) (dimG L) (L.getD 0 0) 70 && ((List.range (prodL (dimG L)).toNat).all (fun n => decide (gF L n < (prodL (dimF L)).toNat)) && (decide (1 ≤ gD (L.getD 0 0) ∧ gD (L.getD 0 0) ≤ 8) && (decide (prodL (gDs L) ≤ 4096) && decide (prodL (dimsVia L (gDs L) (turnL L)) = prodL (gDs L))))))))))))))
theorem chk_E : labs3.all chkE = true := by kernel_rfl
/-- What the law's equations are. -/
structure DeltaAll (k p q : Int) (L X AX FX GX : List Int) : Prop where
  d2 : deltaB k p q (M2 L) (gD (L.getD 0 0)) = true
  d3 : deltaB k p q (M3 L) (gD (L.getD 0 0)) = true
  t2 : tensorB k p q (M2 L) (rep 2 L) (deltaL k p q 2 (gD (L.getD 0 0))) = true
  t3 : tensorB k p q (M3 L) (rep 3 L) (deltaL k p q 3 (gD (L.getD 0 0))) = true
  pa : pairB k p q L (gDs L) X (M2 L) (rep 2 L) (deltaL k p q 2 (gD (L.getD 0 0))) (K2 L) = true
  la : keepL (joinL L (M2 L)) (K2 L) = K2 L ∧ keepD (joinL L (M2 L)) (joinD L (gDs L) (M2 L) (rep 2 L)) (K2 L) = dimsVia L (gDs L) (turnL L)
  ea : pairL k p q L (gDs L) X (M2 L) (rep 2 L) (deltaL k p q 2 (gD (L.getD 0 0))) (K2 L) = AX
  tA : tensorB k p q (K2 L) (dimsVia L (gDs L) (turnL L)) AX = true
  rb : relB k p q L (gDs L) X [L.getD 0 0] [50] = true
  nb : namesL L [L.getD 0 0] [50] = 50 :: L.tail
  tb : tensorB k p q (50 :: L.tail) (gDs L) X = true
  sab : sameB k p q (K2 L) (dimsVia L (gDs L) (turnL L)) AX (50 :: L.tail) (gDs L) X = true
  pf : pairB k p q L (gDs L) X (M3 L) (rep 3 L) (deltaL k p q 3 (gD (L.getD 0 0))) (K3 L) = true
  lf : keepL (joinL L (M3 L)) (K3 L) = K3 L ∧ keepD (joinL L (M3 L)) (joinD L (gDs L) (M3 L) (rep 3 L)) (K3 L) = dimF L
  ef : pairL k p q L (gDs L) X (M3 L) (rep 3 L) (deltaL k p q 3 (gD (L.getD 0 0))) (K3 L) = FX
  tf : tensorB k p q (K3 L) (dimF L) FX = true
  dg : diagB k p q (K3 L) (dimF L) FX 70 60 = true
  lg : exL (K3 L) 60 = L ++ [70] ∧ exD (K3 L) (dimF L) 60 = dimG L ∧ diagL k q (K3 L) (dimF L) FX 70 60 = GX
  tg : tensorB k p q (L ++ [70]) (dimG L) GX = true
  dh : diagB k p q (L ++ [70]) (dimG L) GX (L.getD 0 0) 70 = true
  lh : exL (L ++ [70]) 70 = L ∧ exD (L ++ [70]) (dimG L) 70 = gDs L ∧ diagL k q (L ++ [70]) (dimG L) GX (L.getD 0 0) 70 = X
theorem delta_ten {k p q : Int} {m : Nat} {L M : List Int} (hr : ringB k p q = true) (ha : axC M (rep m L) = true) (hm : M.length = m) (hd : 1 ≤ gD (L.getD 0 0) ∧ gD (L.getD 0 0) ≤ 8) (hO : ∀ i, i < (gD (L.getD 0 0)).toNat → diagO (rep m L) i < (prodL (rep m L)).toNat) :
    deltaB k p q M (gD (L.getD 0 0)) = true ∧ tensorB k p q M (rep m L) (deltaL k p q m (gD (L.getD 0 0))) = true := by
  obtain ⟨h1, h2⟩ := axC_ok ha
  have hp := prodL_pos (fun d hd => (h1.2.2.2.1 d hd).1)
  have h3 := delta_get (k := k) (p := p) (q := q) (m := m) (d := gD (L.getD 0 0)) hr rfl hO
  have hw := ring_width hr
  refine ⟨?_, (tensorB_of hr h1 h2 ?_ h3.2.1).1⟩
  · unfold deltaB
    rw [hr, hm]
    have hs := sizeI_of h1 h2
    unfold rep at hs hp
    rw [hs]
    simp only [Bool.true_and, Bool.and_eq_true, decide_eq_true_eq]
    exact ⟨hd, by omega⟩
  · unfold rep
    unfold rep at hp
    rw [h3.1, Int.natCast_mul]
    congr 1 <;> omega
theorem names_one {L : List Int} (hn : L.Nodup) (hne : L ≠ []) : namesL L [L.getD 0 0] [50] = 50 :: L.tail := by
  obtain ⟨x, t, rfl⟩ := List.exists_cons_of_ne_nil hne
  have h := (List.nodup_cons.1 hn).1
  show (x :: t).map (nameI [x] [50]) = 50 :: t
  rw [List.map_cons]
  have h1 : nameI [x] [50] x = 50 := by unfold nameI; simp
  have h2 : t.map (nameI [x] [50]) = t.map id := List.map_congr_left fun n hn2 => by
    unfold nameI
    rw [if_neg (by
      intro h3
      have h4 : n = x := by simpa using h3
      exact h (h4 ▸ hn2))]
    rfl
  rw [h1, h2, List.map_id]
theorem deltas_all {k p q : Int} {L D X : List Int} (h : LabV 6 3 L D) (ht : tensorB k p q L D X = true) (hne : L ≠ []) : D = gDs L ∧ ∃ AX FX GX, DeltaAll k p q L X AX FX GX := by
  have hD : D = gDs L := (LabV.six h).dm
  subst hD
  refine ⟨rfl, ?_⟩
  have hL := labs_mem h hne
  have p2 := List.all_eq_true.1 chk_P2 L hL
  have p3 := List.all_eq_true.1 chk_P3 L hL
  have a2 := List.all_eq_true.1 chk_A2 L hL
  have cH := List.all_eq_true.1 chk_H L hL
  have cD := List.all_eq_true.1 chk_D L hL
  have cE := List.all_eq_true.1 chk_E L hL
  have q2 := pair_delta ht p2
  have q3 := pair_delta ht p3
  unfold chkP at p2 p3
  unfold chkA2 at a2
  unfold chkH at cH
  unfold chkD at cD
  unfold chkE at cE
  simp only [Bool.and_eq_true, decide_eq_true_eq, List.all_eq_true, List.mem_range] at p2 p3 a2 cH cD cE
  obtain ⟨m1, m2, m3, m4, m5, m6⟩ := p2
  obtain ⟨n1, n2, n3, n4, n5, n6⟩ := p3
  obtain ⟨d1, d2, d3, d4, d5, d6, d7, d8, d9, d10⟩ := cD
  obtain ⟨e1, e2, e3, e4, e5, e6, e7, e8, e9, e10, e11, e12, e13, e14⟩ := cE
  have hf := LinT.of ht
  have hr := hf.rg
  have hwd := ring_width hr
  have hk2 : keepD (joinL L (M2 L)) (joinD L (gDs L) (M2 L) (rep 2 L)) (K2 L) = dimsVia L (gDs L) (turnL L) := d1
  have hk3 : keepD (joinL L (M3 L)) (joinD L (gDs L) (M3 L) (rep 3 L)) (K3 L) = dimF L := d2
  have t2 := delta_ten (k := k) (p := p) (q := q) (L := L) hr e1 rfl e12 m5
  have t3 := delta_ten (k := k) (p := p) (q := q) (L := L) hr e2 rfl e12 n5
  have hEl : ∀ n, n < (prodL (gDs L)).toNat → plusL k p (zeroL k p q) (getL (widthI k q).toNat X n) = getL (widthI k q).toNat X n := fun n hn => plusL_zero_left hr (hf.get hn)
  have hP : (turnL L).Perm L := d8
  have hT := hf.turn hP
  -- the renamed
  have hEA : pairL k p q L (gDs L) X (M2 L) (rep 2 L) (deltaL k p q 2 (gD (L.getD 0 0))) (K2 L) = permDataL k q L (gDs L) X (turnL L) := by
    refine q2.1.trans ?_
    rw [hf.perm (turnL L)]
    have hN : (prodL (keepD (joinL L (M2 L)) (joinD L (gDs L) (M2 L) (List.replicate 2 (gD (L.getD 0 0)))) (K2 L))).toNat = (prodL (gDs L)).toNat := by
      rw [show keepD (joinL L (M2 L)) (joinD L (gDs L) (M2 L) (List.replicate 2 (gD (L.getD 0 0)))) (K2 L) = dimsVia L (gDs L) (turnL L) from d1, e14]
    rw [hN]
    refine gather_congr fun e he => ?_
    rw [(a2 e he).1]
    exact hEl _ (hf.permLt hP e)
  have tb : tensorB k p q (50 :: L.tail) (gDs L) X = true := by
    obtain ⟨x1, x2⟩ := axC_ok e3
    refine (tensorB_of hr x1 x2 ?_ hf.wX).1
    rw [hf.lX, Int.natCast_mul]
    have := hf.pr
    congr 1 <;> omega
  have hb := LinT.of tb
  have tA : tensorB k p q (K2 L) (dimsVia L (gDs L) (turnL L)) (permDataL k q L (gDs L) X (turnL L)) = true := by
    obtain ⟨x1, x2⟩ := axC_ok e6
    refine (tensorB_of hr x1 x2 ?_ hT.wX).1
    rw [hT.lX, Int.natCast_mul, e14]
    have := hf.pr
    congr 1 <;> omega
  have hSame : permDataL k q (50 :: L.tail) (gDs L) X (K2 L) = permDataL k q L (gDs L) X (turnL L) := by
    rw [hb.perm (K2 L), hf.perm (turnL L)]
    refine gather_congr fun e he => ?_
    rw [(a2 e he).2]
    rfl
  have sab : sameB k p q (K2 L) (dimsVia L (gDs L) (turnL L)) (permDataL k q L (gDs L) X (turnL L)) (50 :: L.tail) (gDs L) X = true := by
    have h1 := (same_perm tA d7.symm).2.2.2
    have h2 := perm_perm tb d7 (List.Perm.refl (50 :: L.tail))
    have h3 := perm_back tb
    rw [d10, hSame, h3.1, h3.2] at h2
    have h4 : dimsVia (K2 L) (dimsVia L (gDs L) (turnL L)) (50 :: L.tail) = gDs L := h2.1
    rw [h4] at h1
    rw [show permDataL k q (K2 L) (dimsVia L (gDs L) (turnL L)) (permDataL k q L (gDs L) X (turnL L)) (50 :: L.tail) = X from h2.2] at h1
    exact h1
  -- the diagonals
  obtain ⟨F, hFd⟩ : ∃ f : Nat → List Int, f = fun e => sumT k p (zeroL k p q) (((dP 3 L (M3 L) (K3 L) e).filter (·.2)).map fun z => getL (widthI k q).toNat X z.1) := ⟨_, rfl⟩
  have hFe : ∀ e, ElemV k p q (F e) := fun e => by rw [hFd]; exact q3.2 e
  obtain ⟨FX, hFX⟩ : ∃ l, l = gatherL F (prodL (dimF L)).toNat := ⟨_, rfl⟩
  have hEF : pairL k p q L (gDs L) X (M3 L) (rep 3 L) (deltaL k p q 3 (gD (L.getD 0 0))) (K3 L) = FX := by
    refine q3.1.trans ?_
    rw [show keepD (joinL L (M3 L)) (joinD L (gDs L) (M3 L) (List.replicate 3 (gD (L.getD 0 0)))) (K3 L) = dimF L from d2, hFX, hFd]
  have hlF : ∀ i, i < (prodL (dimF L)).toNat → (F i).length = (widthI k q).toNat := fun i _ => by have := (hFe i).1; omega
  have tf : tensorB k p q (K3 L) (dimF L) FX = true := by
    obtain ⟨x1, x2⟩ := axC_ok e4
    have hp := prodL_pos (fun d hd => (x1.2.2.2.1 d hd).1)
    refine (tensorB_of hr x1 x2 ?_ (by rw [hFX]; exact gather_within fun i _ => (hFe i).2)).1
    rw [hFX, gather_len _ hlF, Int.natCast_mul]
    congr 1 <;> omega
  have hff := LinT.of tf
  obtain ⟨GX, hGX⟩ : ∃ l, l = gatherL (fun n => getL (widthI k q).toNat FX (gF L n)) (prodL (dimG L)).toNat := ⟨_, rfl⟩
  have hlG : ∀ i, i < (prodL (dimG L)).toNat → ElemV k p q (getL (widthI k q).toNat FX (gF L i)) := fun i hi => hff.get (e11 i hi)
  have hlG2 : ∀ i, i < (prodL (dimG L)).toNat → (getL (widthI k q).toNat FX (gF L i)).length = (widthI k q).toNat := fun i hi => by have := (hlG i hi).1; omega
  have tg : tensorB k p q (L ++ [70]) (dimG L) GX = true := by
    obtain ⟨x1, x2⟩ := axC_ok e5
    have hp := prodL_pos (fun d hd => (x1.2.2.2.1 d hd).1)
    refine (tensorB_of hr x1 x2 ?_ (by rw [hGX]; exact gather_within fun i hi => (hlG i hi).2)).1
    rw [hGX, gather_len _ hlG2, Int.natCast_mul]
    congr 1 <;> omega
  have hlg : diagL k q (K3 L) (dimF L) FX 70 60 = GX := by
    unfold diagL
    rw [d4, hGX]
    rfl
  have hlh : diagL k q (L ++ [70]) (dimG L) GX (L.getD 0 0) 70 = X := by
    unfold diagL
    rw [d6]
    refine Eq.trans ?_ (gather_self hf.lX)
    refine gather_congr fun n hn => ?_
    obtain ⟨h1, h2, h3⟩ := cH n hn
    show getL (widthI k q).toNat GX (hF L n) = _
    rw [hGX, gather_get hlG2 h1, hFX, gather_get hlF h2, hFd]
    simp only [h3]
    exact hEl n hn
  refine ⟨permDataL k q L (gDs L) X (turnL L), FX, GX, t2.1, t3.1, t2.2, t3.2, ?_, ⟨m1, hk2⟩, hEA, tA, ?_, ?_, tb, sab, ?_, ⟨n1, hk3⟩, hEF, tf, ?_, ⟨d3, d4, hlg⟩, tg, ?_, ⟨d5, d6, hlh⟩⟩
  · unfold pairB pfB smallB
    obtain ⟨x1, x2⟩ := axC_ok e6
    have hp := prodL_pos (fun d hd => (x1.2.2.2.1 d hd).1)
    have m2' : prodL (joinD L (gDs L) (M2 L) (rep 2 L)) ≤ 4096 := m2
    rw [ht, t2.2, fitC_ok e7, m1, hk2, sizeI_of x1 x2, decide_eq_true (show prodL (joinD L (gDs L) (M2 L) (rep 2 L)) ≤ 65536 by omega), decide_eq_true (show 0 ≤ prodL (dimsVia L (gDs L) (turnL L)) by omega)]
    rfl
  · unfold relB
    obtain ⟨x1, x2⟩ := axC_ok e3
    have hp := prodL_pos (fun d hd => (x1.2.2.2.1 d hd).1)
    rw [ht, names_one d9 hne, sizeI_of x1 x2, decide_eq_true (show 0 ≤ prodL (gDs L) by omega)]
    rfl
  · exact names_one d9 hne
  · unfold pairB pfB smallB
    obtain ⟨x1, x2⟩ := axC_ok e4
    have hp := prodL_pos (fun d hd => (x1.2.2.2.1 d hd).1)
    have n2' : prodL (joinD L (gDs L) (M3 L) (rep 3 L)) ≤ 4096 := n2
    rw [ht, t3.2, fitC_ok e8, n1, hk3, sizeI_of x1 x2, decide_eq_true (show prodL (joinD L (gDs L) (M3 L) (rep 3 L)) ≤ 65536 by omega), decide_eq_true (show 0 ≤ prodL (dimF L) by omega)]
    rfl
  · unfold diagB
    rw [tf]
    exact e9
  · unfold diagB
    rw [tg]
    exact e10
end Go.Proofs.YtgbmacppgaopfabGreat
namespace Go.Proofs.YtgbmacppgaopfabGreat
set_option maxRecDepth 20000
open Go.RowKit

set_option maxHeartbeats 3200000 in
theorem cut_one_full {B m c : Nat} {al : Option Addr} {L : List Int} {b : Int} {w : World} (hm : L.length = m) (hm2 : m ≤ 4096) (hl : Rd B w (.slice al m c) (ints L)) (hB : B ≤ w.heap.size) :
    Calls Tryz.prog 11 #[.slice al m c, .int .i64 b] w (NewRow w (exL L b)) := by
  obtain ⟨i0, hi0, hz0, hz1, hz2⟩ := info_parts infoInt
  have J0 := Lib.hid hi0
  have J1 := Lib.hid hz0
  have J2 := Lib.hid hz1
  have J3 := Lib.hid hz2
  have HM := Lib.hid hm
  have HL := Lib.hid (hl.mono hB)
  have S2 : Hid (Rs w (w.alloc (.cells #[] 3)) [] [(.slice (some ⟨w.heap.size, 0, none⟩) 0 0, exL (L.take 0) b)]) := Lib.hid (Rs.start w).lit
  clear hi0 hz0 hz1 hz2 hl hB hm
  go_enter Tryz.func11, Tryz.ntmps11
  go_wp2
  go_loopw [5, 11] (fun u i wr => ∃ (j na ca : Nat) (ga : Option Addr), j ≤ m ∧ i = .int .i64 j ∧ na ≤ j ∧ u = .slice ga na ca ∧ Hid (na = (exL (L.take j) b).length) ∧ Hid (Rs w wr [] [(.slice ga na ca, exL (L.take j) b)])) (fun _ i _ => m - (intOf i).toNat)
  case atStart => exact ⟨0, 0, 0, _, by omega, rfl, by omega, rfl, rfl, S2⟩
  case round =>
    clear S2
    obtain ⟨j, na, ca, ga, hj, rfl, hna, rfl, HNA, HR⟩ := hrel
    by_cases hlt : j < m
    · obtain ⟨n, X1⟩ : ∃ n, Hid (L[j]? = some n) := ⟨_, List.getElem?_eq_getElem (by rw [HM.out]; exact hlt)⟩
      obtain ⟨b1, off, rfl, -, e1⟩ := (HL.out.below HR.out.bel (Nat.le_refl _)).cellAt X1.out
      by_cases hnb : n = b
      · subst hnb
        have EN : Hid (exL (L.take (j + 1)) n = exL (L.take j) n) := Lib.hid (ex_no X1.out)
        go_wp2
        go_roundw
        case rel => exact ⟨j + 1, na, ca, ga, by omega, by go_num, by omega, rfl, by rw [EN.out]; exact HNA, by rw [EN.out]; exact HR⟩
        case measure => simp [intOf]; omega
      · have EY := Lib.hid (ex_yes X1.out hnb)
        have HNA2 : Hid (na + 1 = (exL (L.take (j + 1)) b).length) := Lib.hid (by rw [EY.out, List.length_append, ← HNA.out]; rfl)
        have A1 := Lib.hid (HR.out.alloc (.cells #[.int .i64 n] 3))
        have O1 := Lib.hid (A1.out.row (List.mem_cons_self) HNA.out.symm : World.ownsRow _ w.heap.size 3 1 (.slice ga na ca) na (ints (exL (L.take j) b)))
        have q7 : (n == b) = false := by simp; exact hnb
        go_wp2_with (at_builtin; go_must (refine wpList_append_lies _ rfl _ _ 26 rfl w.heap.size 3 i0 (.int .i64 0) 1 8 Tryz.underlying26 J0.out J1.out J2.out J3.out rfl (by decide) _ na (ints (exL (L.take j) b)) rfl O1.out ⟨wr.heap.size, 0, none⟩ 1 1 [.int .i64 n] rfl rfl (cell_one_new _ _ _) ?c2 (by decide) ?c3 ?c4 ?c5 _ rfl ?_))
        case c2 => first | rfl | (intro u hu; simp at hu; subst hu; rfl)
        case c3 => unfold maxLen; omega
        case c4 => omega
        case c5 => exact A1.out.bel.size
        intro g1 cap1 w2 hown hgrow hl1 _
        have R2 := Lib.hid (A1.out.app1 HNA.out.symm hown hgrow (by rw [World.size_alloc]; exact hl1))
        rw [← EY.out] at R2
        clear hown hgrow hl1 O1 A1 e1
        go_wp2
        go_roundw
        case rel => exact ⟨j + 1, na + 1, cap1, _, by omega, by go_num, by omega, rfl, HNA2, R2⟩
        case measure => simp [intOf]; omega
    · obtain rfl : j = m := by omega
      have RES : Hid (NewRow w (exL L b) (.returned (.slice ga na ca)) wr) := Lib.hid ⟨_, rfl, by
        have h1 := HR.out.own1 (v := .slice ga na ca) (xs := exL (L.take j) b) (by simp)
        rw [List.take_of_length_le (by rw [HM.out]; exact Nat.le_refl _)] at h1
        exact h1, HR.out.bel⟩
      go_wp2
      go_ret
      exact RES.out
theorem cut_one {B : Nat} {v : Value} {L : List Int} {b : Int} {w : World} (hl : Rd B w v (ints L)) (hB : B ≤ w.heap.size) (hm : L.length ≤ 4096) :
    Calls Tryz.prog 11 #[v, .int .i64 b] w (NewRow w (exL L b)) := by
  obtain ⟨al, c, rfl, -⟩ := ints_form hl
  exact cut_one_full rfl hm hl hB
end Go.Proofs.YtgbmacppgaopfabGreat
namespace Go.Proofs.YtgbmacppgaopfabGreat
set_option maxRecDepth 20000
open Go.RowKit

/-- A literal, as it is read. -/
theorem rd_lits (W : World) (xs : List Int) (T : TypeId) : Rd (W.heap.size + 1) (W.alloc (.cells (ints xs).toArray T)) (.slice (some ⟨W.heap.size, 0, none⟩) xs.length xs.length) (ints xs) := by
  refine .inr ⟨W.heap.size, 0, xs.length, by rw [ints_len], Nat.lt_succ_self _, by rw [ints_len]; exact Nat.le_refl _, fun i u hu => ?_⟩
  rw [Nat.zero_add, World.cell?_alloc_new, ← hu]
  simp
section
variable {B B' B'' : Nat} {lv dv xv lu du xu fv gv : Value} {k p q c : Int} {L D X L' D' X' F A G l d x : List Int} {w : World}
theorem pairf_yes (h : pairB k p q L D X L' D' X' F = true) (ht : tensorB k p q L D X = true) (hu : tensorB k p q L' D' X' = true) (he : keepL (joinL L L') F = l ∧ keepD (joinL L L') (joinD L D L' D') F = d) (hx : pairL k p q L D X L' D' X' F = x) (ha : RdT B w lv dv xv L D X) (hb : RdT B' w lu du xu L' D' X') (hf : Rd B'' w fv (ints F)) (hB : B ≤ w.heap.size) (hB' : B' ≤ w.heap.size) (hB'' : B'' ≤ w.heap.size) (hl : F.length ≤ 1048576) :
    Calls Tryz.prog 21 #[ringV k p q, tenV lv dv xv, tenV lu du xu, fv] w (NewS w l d x fun t => .tuple #[t, .bool true]) := by
  have hq := contract_pair_impl (k := k) (p := p) (q := q) ha hb hf hB hB' hB'' (ten_len ht) (ten_len hu) (by omega) (ten_ints ht) (ten_ints hu)
  rw [h] at hq
  simp only [if_true, he.1, he.2, hx] at hq
  exact hq.mono fun e w' h => NewS.of2 h
end
end Go.Proofs.YtgbmacppgaopfabGreat
namespace Go.Proofs.YtgbmacppgaopfabGreat
set_option maxRecDepth 20000
open Go.RowKit

section
variable {B B' B'' : Nat} {lv dv xv fv gv : Value} {k p q a b c : Int} {L D X F T l d x : List Int} {w : World}
theorem delta_yes (h : deltaB k p q L c = true) (hl : Rd B w lv (ints L)) (hB : B ≤ w.heap.size) (h1 : L.length ≤ 1048576) (hI : allI L) (he : List.replicate L.length c = d ∧ deltaL k p q L.length c = x) :
    Calls Tryz.prog 18 #[ringV k p q, lv, .int .i64 c] w (NewS w L d x fun t => .tuple #[t, .bool true]) := by
  have hq := delta_tensor_impl (k := k) (p := p) (q := q) (d := c) hl hB h1 hI
  rw [h] at hq
  simp only [if_true, he.1, he.2] at hq
  exact hq.mono fun e w' h => NewS.of2 h
theorem rel_yes (h : relB k p q L D X F T = true) (ht : tensorB k p q L D X = true) (he : namesL L F T = l) (ha : RdT B w lv dv xv L D X) (hf : Rd B' w fv (ints F)) (hg : Rd B'' w gv (ints T)) (hB : B ≤ w.heap.size) (hB' : B' ≤ w.heap.size) (hB'' : B'' ≤ w.heap.size) (hl : F.length ≤ 1048576) (hl2 : T.length ≤ 1048576) (hJ : allI T) :
    Calls Tryz.prog 23 #[ringV k p q, tenV lv dv xv, fv, gv] w (NewS w l D X fun t => .tuple #[t, .bool true]) := by
  have hT : RdT w.heap.size w lv dv xv L D X := ⟨ha.l.mono hB, ha.d.mono hB, ha.x.mono hB⟩
  have hq := relabel_tensor_impl (k := k) (p := p) (q := q) hT (hf.mono hB') (hg.mono hB'') (Nat.le_refl _) (ten_len ht) (by omega) (by omega) (ten_ints ht) hJ
  rw [h] at hq
  simp only [if_true, he] at hq
  exact hq.mono fun e w' h => NewS.of2 h
theorem diag_yes (h : diagB k p q L D X a b = true) (ht : tensorB k p q L D X = true) (he : exL L b = l ∧ exD L D b = d ∧ diagL k q L D X a b = x) (ha : RdT B w lv dv xv L D X) (hB : B ≤ w.heap.size) :
    Calls Tryz.prog 24 #[ringV k p q, tenV lv dv xv, .int .i64 a, .int .i64 b] w (NewS w l d x fun t => .tuple #[t, .bool true]) := by
  have hq := diagonal_impl (k := k) (p := p) (q := q) (a := a) (b := b) ha hB (ten_len ht) (ten_ints ht)
  rw [h] at hq
  simp only [if_true, he.1, he.2.1, he.2.2] at hq
  exact hq.mono fun e w' h => NewS.of2 h
end
/-- The delta of no labels. -/
theorem delta_none {k p q : Int} (hr : ringB k p q = true) : deltaB k p q [] 2 = true ∧ deltaL k p q 0 2 = oneL k p q := by
  have h := delta_get (k := k) (p := p) (q := q) (m := 0) (d := 2) (N := 1) hr rfl (by decide)
  refine ⟨?_, ?_⟩
  · unfold deltaB
    rw [hr, show sizeI [] (List.replicate ([] : List Int).length 2) = 1 from (sizeI_of (by unfold AxesV; decide) (by decide)).trans rfl]
    rfl
  · have h1 := gather_self (wd := (widthI k q).toNat) (N := 1) h.1
    have h2 := h.2.2 0 (by omega)
    rw [if_pos (show dflag 0 2 0 = true from rfl)] at h2
    rw [← h1]
    show gatherL (fun i => getL (widthI k q).toNat (deltaL k p q 0 2) i) 1 = _
    simp [gatherL, h2]
end Go.Proofs.YtgbmacppgaopfabGreat
namespace Go.Proofs.YtgbmacppgaopfabGreat
set_option maxRecDepth 20000
open Go.RowKit

theorem share2 {T0 T1 : Type} {G F : T0 → T1 → Prop} {R : Prop} (h1 : Hid (∀ x0 x1, F x0 x1 → G x0 x1) → R) (h2 : ∀ x0 x1, F x0 x1 → G x0 x1) : R := h1 (Lib.hid h2)
theorem share3 {T0 T1 T2 : Type} {G F : T0 → T1 → T2 → Prop} {R : Prop} (h1 : Hid (∀ x0 x1 x2, F x0 x1 x2 → G x0 x1 x2) → R) (h2 : ∀ x0 x1 x2, F x0 x1 x2 → G x0 x1 x2) : R := h1 (Lib.hid h2)
theorem share4 {T0 T1 T2 T3 : Type} {G F : T0 → T1 → T2 → T3 → Prop} {R : Prop} (h1 : Hid (∀ x0 x1 x2 x3, F x0 x1 x2 x3 → G x0 x1 x2 x3) → R) (h2 : ∀ x0 x1 x2 x3, F x0 x1 x2 x3 → G x0 x1 x2 x3) : R := h1 (Lib.hid h2)
theorem share5 {T0 T1 T2 T3 T4 : Type} {G F : T0 → T1 → T2 → T3 → T4 → Prop} {R : Prop} (h1 : Hid (∀ x0 x1 x2 x3 x4, F x0 x1 x2 x3 x4 → G x0 x1 x2 x3 x4) → R) (h2 : ∀ x0 x1 x2 x3 x4, F x0 x1 x2 x3 x4 → G x0 x1 x2 x3 x4) : R := h1 (Lib.hid h2)
theorem share11 {T0 T1 T2 T3 T4 T5 T6 T7 T8 T9 T10 : Type} {G F : T0 → T1 → T2 → T3 → T4 → T5 → T6 → T7 → T8 → T9 → T10 → Prop} {R : Prop} (h1 : Hid (∀ x0 x1 x2 x3 x4 x5 x6 x7 x8 x9 x10, F x0 x1 x2 x3 x4 x5 x6 x7 x8 x9 x10 → G x0 x1 x2 x3 x4 x5 x6 x7 x8 x9 x10) → R) (h2 : ∀ x0 x1 x2 x3 x4 x5 x6 x7 x8 x9 x10, F x0 x1 x2 x3 x4 x5 x6 x7 x8 x9 x10 → G x0 x1 x2 x3 x4 x5 x6 x7 x8 x9 x10) : R := h1 (Lib.hid h2)
theorem share12 {T0 T1 T2 T3 T4 T5 T6 T7 T8 T9 T10 T11 : Type} {G F : T0 → T1 → T2 → T3 → T4 → T5 → T6 → T7 → T8 → T9 → T10 → T11 → Prop} {R : Prop} (h1 : Hid (∀ x0 x1 x2 x3 x4 x5 x6 x7 x8 x9 x10 x11, F x0 x1 x2 x3 x4 x5 x6 x7 x8 x9 x10 x11 → G x0 x1 x2 x3 x4 x5 x6 x7 x8 x9 x10 x11) → R) (h2 : ∀ x0 x1 x2 x3 x4 x5 x6 x7 x8 x9 x10 x11, F x0 x1 x2 x3 x4 x5 x6 x7 x8 x9 x10 x11 → G x0 x1 x2 x3 x4 x5 x6 x7 x8 x9 x10 x11) : R := h1 (Lib.hid h2)
theorem share13 {T0 T1 T2 T3 T4 T5 T6 T7 T8 T9 T10 T11 T12 : Type} {G F : T0 → T1 → T2 → T3 → T4 → T5 → T6 → T7 → T8 → T9 → T10 → T11 → T12 → Prop} {R : Prop} (h1 : Hid (∀ x0 x1 x2 x3 x4 x5 x6 x7 x8 x9 x10 x11 x12, F x0 x1 x2 x3 x4 x5 x6 x7 x8 x9 x10 x11 x12 → G x0 x1 x2 x3 x4 x5 x6 x7 x8 x9 x10 x11 x12) → R) (h2 : ∀ x0 x1 x2 x3 x4 x5 x6 x7 x8 x9 x10 x11 x12, F x0 x1 x2 x3 x4 x5 x6 x7 x8 x9 x10 x11 x12 → G x0 x1 x2 x3 x4 x5 x6 x7 x8 x9 x10 x11 x12) : R := h1 (Lib.hid h2)
theorem share14 {T0 T1 T2 T3 T4 T5 T6 T7 T8 T9 T10 T11 T12 T13 : Type} {G F : T0 → T1 → T2 → T3 → T4 → T5 → T6 → T7 → T8 → T9 → T10 → T11 → T12 → T13 → Prop} {R : Prop} (h1 : Hid (∀ x0 x1 x2 x3 x4 x5 x6 x7 x8 x9 x10 x11 x12 x13, F x0 x1 x2 x3 x4 x5 x6 x7 x8 x9 x10 x11 x12 x13 → G x0 x1 x2 x3 x4 x5 x6 x7 x8 x9 x10 x11 x12 x13) → R) (h2 : ∀ x0 x1 x2 x3 x4 x5 x6 x7 x8 x9 x10 x11 x12 x13, F x0 x1 x2 x3 x4 x5 x6 x7 x8 x9 x10 x11 x12 x13 → G x0 x1 x2 x3 x4 x5 x6 x7 x8 x9 x10 x11 x12 x13) : R := h1 (Lib.hid h2)
theorem wpAnyH_listed {P : Program} {md : Region.Mode} {ops : Array Oper} {Q : Exit → Act → World → Prop} {S : World → Prop} {fuel : Nat} {l l' : Array Bool} {a : Act} {w : World} (h : l = l') (H : wpAnyH P md ops Q S fuel l a w) : wpAnyH P md ops Q S fuel l' a w := h ▸ H
section
variable {w0 wr w' : World} {bs : List BxE} {rows : List RowE} {a b c d : RowE} {v : Value} {xs : List Int}
end
end Go.Proofs.YtgbmacppgaopfabGreat
namespace Go.Proofs.YtgbmacppgaopfabGreat
set_option maxRecDepth 20000
open Go.RowKit

theorem bring1 {T : Type} {a b : T} {l : List T} : (a :: b :: l).Perm (b :: a :: l) := List.Perm.swap _ _ _
section
variable {w0 W : World} {bs : List BxE} {rows : List RowE}
theorem Rs.boxW (h : Rs w0 W bs rows) (a b c : Value) (T : TypeId) : ∃ WX g, W.alloc (.cells #[a, b, c] T) = WX ∧ W.heap.size = g ∧ Rs w0 WX ((g, a, b, c) :: bs) rows := ⟨_, _, rfl, rfl, h.box a b c T⟩
theorem Rs.lit1W (h : Rs w0 W bs rows) (x : Int) : ∃ WX g, W.alloc (.cells #[.int .i64 x] 3) = WX ∧ W.heap.size = g ∧ Rs w0 WX bs ((.slice (some ⟨g, 0, none⟩) 1 1, [x]) :: rows) := by
  refine ⟨_, _, rfl, rfl, h.new ((Below.refl _ _).alloc (Nat.le_refl _) _) ⟨?_, fun g hg => ?_, Nat.le_refl _⟩⟩
  · exact World.ownsRow_lit (base := W.heap.size) (e := 3) (size := 1) W #[.int .i64 x] 1 (Nat.le_refl _) (by unfold maxLen; omega) rfl
  · simp only [Value.ownBlock, Option.some.injEq] at hg; subst hg; simp
theorem Rs.lit2W (h : Rs w0 W bs rows) (x y : Int) : ∃ WX g, W.alloc (.cells #[.int .i64 x, .int .i64 y] 3) = WX ∧ W.heap.size = g ∧ Rs w0 WX bs ((.slice (some ⟨g, 0, none⟩) 2 2, [x, y]) :: rows) := by
  refine ⟨_, _, rfl, rfl, h.new ((Below.refl _ _).alloc (Nat.le_refl _) _) ⟨?_, fun g hg => ?_, Nat.le_refl _⟩⟩
  · exact World.ownsRow_lit (base := W.heap.size) (e := 3) (size := 1) W #[.int .i64 x, .int .i64 y] 2 (Nat.le_refl _) (by unfold maxLen; omega) rfl
  · simp only [Value.ownBlock, Option.some.injEq] at hg; subst hg; simp
theorem Rs.lit3W (h : Rs w0 W bs rows) (x y z : Int) : ∃ WX g, W.alloc (.cells #[.int .i64 x, .int .i64 y, .int .i64 z] 3) = WX ∧ W.heap.size = g ∧ Rs w0 WX bs ((.slice (some ⟨g, 0, none⟩) 3 3, [x, y, z]) :: rows) := by
  refine ⟨_, _, rfl, rfl, h.new ((Below.refl _ _).alloc (Nat.le_refl _) _) ⟨?_, fun g hg => ?_, Nat.le_refl _⟩⟩
  · exact World.ownsRow_lit (base := W.heap.size) (e := 3) (size := 1) W #[.int .i64 x, .int .i64 y, .int .i64 z] 3 (Nat.le_refl _) (by unfold maxLen; omega) rfl
  · simp only [Value.ownBlock, Option.some.injEq] at hg; subst hg; simp
end
theorem first_cell {W : World} {lo g n cap : Nat} {xs : List Int} {x : Int} (h : W.ownsRow lo 3 1 (.slice (some ⟨g, 0, none⟩) n cap) n (ints xs)) (hx : xs[0]? = some x) : W.cell? ⟨g, 0, none⟩ = some (.int .i64 x) := by
  have h0 : 0 < n := by
    have h1 := h.1
    have h2 := (List.getElem?_eq_some_iff.1 hx).1
    rw [ints_len] at h1
    omega
  rw [h.cellAt 0 (by omega)]
  simp [ints, List.getElem?_map, hx]
theorem cut_yes {B : Nat} {v : Value} {L l : List Int} {b : Int} {w : World} (he : exL L b = l) (hl : Rd B w v (ints L)) (hB : B ≤ w.heap.size) (hm : L.length ≤ 4096) :
    Calls Tryz.prog 11 #[v, .int .i64 b] w (NewRow w l) := he ▸ cut_one hl hB hm
theorem one_yes {k p q : Int} {w : World} (hr : ringB k p q = true) : Calls Tryz.prog 20 #[ringV k p q] w (NewRow w (oneL k p q)) := by
  have h := one_of_impl k p q w
  rw [show oneOfL k p q = oneL k p q from if_pos hr] at h
  exact h
theorem one_len {k p q : Int} (hr : ringB k p q = true) : (oneL k p q).length ≤ 281474976710656 := by
  have hw := ring_width hr
  unfold oneL
  repeat' split
  all_goals first | (simp; done) | (simp; omega)
structure DeltaW (k p q : Int) (L D X TL DA DF DG X2 X3 AX FX GX : List Int) (x0 d0 : Int) : Prop where
  d2 : deltaB k p q [x0, 50] d0 = true
  d3 : deltaB k p q [x0, 60, 70] d0 = true
  e2 : List.replicate [x0, 50].length d0 = [d0, d0] ∧ deltaL k p q [x0, 50].length d0 = X2
  e3 : List.replicate [x0, 60, 70].length d0 = [d0, d0, d0] ∧ deltaL k p q [x0, 60, 70].length d0 = X3
  t2 : tensorB k p q [x0, 50] [d0, d0] X2 = true
  t3 : tensorB k p q [x0, 60, 70] [d0, d0, d0] X3 = true
  pa : pairB k p q L D X [x0, 50] [d0, d0] X2 (TL ++ [50]) = true
  la : keepL (joinL L [x0, 50]) (TL ++ [50]) = TL ++ [50] ∧ keepD (joinL L [x0, 50]) (joinD L D [x0, 50] [d0, d0]) (TL ++ [50]) = DA
  ea : pairL k p q L D X [x0, 50] [d0, d0] X2 (TL ++ [50]) = AX
  tA : tensorB k p q (TL ++ [50]) DA AX = true
  rb : relB k p q L D X [x0] [50] = true
  nb : namesL L [x0] [50] = 50 :: TL
  tb : tensorB k p q (50 :: TL) D X = true
  sab : sameB k p q (TL ++ [50]) DA AX (50 :: TL) D X = true
  pf : pairB k p q L D X [x0, 60, 70] [d0, d0, d0] X3 (L ++ [60, 70]) = true
  lf : keepL (joinL L [x0, 60, 70]) (L ++ [60, 70]) = L ++ [60, 70] ∧ keepD (joinL L [x0, 60, 70]) (joinD L D [x0, 60, 70] [d0, d0, d0]) (L ++ [60, 70]) = DF
  ef : pairL k p q L D X [x0, 60, 70] [d0, d0, d0] X3 (L ++ [60, 70]) = FX
  tf : tensorB k p q (L ++ [60, 70]) DF FX = true
  dg : diagB k p q (L ++ [60, 70]) DF FX 70 60 = true
  lg : exL (L ++ [60, 70]) 60 = L ++ [70] ∧ exD (L ++ [60, 70]) DF 60 = DG ∧ diagL k q (L ++ [60, 70]) DF FX 70 60 = GX
  tg : tensorB k p q (L ++ [70]) DG GX = true
  dh : diagB k p q (L ++ [70]) DG GX x0 70 = true
  lh : exL (L ++ [70]) 70 = L ∧ exD (L ++ [70]) DG 70 = D ∧ diagL k q (L ++ [70]) DG GX x0 70 = X
  cut : exL L x0 = TL
  tl : TL.length + [(50 : Int)].length ≤ 4096
  tl2 : (TL ++ [50]).length ≤ 1048576
  i2 : allI [x0, 50]
  i3 : allI [x0, 60, 70]
theorem deltas_walk {k p q : Int} {L D X : List Int} (h : LabV 6 3 L D) (ht : tensorB k p q L D X = true) (hne : L ≠ []) : ∃ x0 d0 TL DA DF DG X2 X3 AX FX GX, L[0]? = some x0 ∧ D[0]? = some d0 ∧ DeltaW k p q L D X TL DA DF DG X2 X3 AX FX GX x0 d0 := by
  obtain ⟨hD, AX, FX, GX, HD⟩ := deltas_all h ht hne
  have hx : ∀ z ∈ L, 0 ≤ z ∧ z < 6 := h.rg
  have hn := h.nd
  have hmo := h.most
  subst hD
  obtain ⟨y, r, rfl⟩ := List.exists_cons_of_ne_nil hne
  have hy := hx y List.mem_cons_self
  have hr : r.length ≤ 3 := by simp at hmo; omega
  have hc : exL (y :: r) y = r := by
    unfold exL
    rw [List.filter_cons_of_neg (by simp)]
    exact List.filter_eq_self.2 fun z hz => by
      have h1 := (List.nodup_cons.1 hn).1
      simp only [decide_eq_true_eq]
      exact fun e => h1 (e ▸ hz)
  have i0 : inI y := by unfold inI; omega
  have i1 : ∀ z : Int, 0 ≤ z → z ≤ 100 → inI z := fun z h1 h2 => by unfold inI; omega
  refine ⟨y, gD y, r, _, _, _, _, _, AX, FX, GX, rfl, rfl, ⟨HD.d2, HD.d3, ⟨rfl, rfl⟩, ⟨rfl, rfl⟩, HD.t2, HD.t3, HD.pa, HD.la, HD.ea, HD.tA, HD.rb, HD.nb, HD.tb, HD.sab, HD.pf, HD.lf, HD.ef, HD.tf, HD.dg, HD.lg, HD.tg, HD.dh, HD.lh, hc, by simp; omega, by simp; omega, ?_, ?_⟩⟩
  · intro z hz
    simp only [List.mem_cons, List.not_mem_nil, or_false] at hz
    rcases hz with rfl | rfl
    · exact i0
    · exact i1 _ (by omega) (by omega)
  · intro z hz
    simp only [List.mem_cons, List.not_mem_nil, or_false] at hz
    rcases hz with rfl | rfl | rfl
    · exact i0
    · exact i1 _ (by omega) (by omega)
    · exact i1 _ (by omega) (by omega)
theorem s0 {T : Type} {l : List T} : List.Sublist l l := List.Sublist.refl l
theorem s1 {T : Type} {a : T} {l m : List T} (h : List.Sublist l m) : List.Sublist l (a :: m) := List.Sublist.cons a h
theorem mz {T : Type} {a : T} {l : List T} : a ∈ a :: l := List.mem_cons_self
theorem ms {T : Type} {a b : T} {l : List T} (h : a ∈ l) : a ∈ b :: l := List.mem_cons_of_mem _ h
end Go.Proofs.YtgbmacppgaopfabGreat
