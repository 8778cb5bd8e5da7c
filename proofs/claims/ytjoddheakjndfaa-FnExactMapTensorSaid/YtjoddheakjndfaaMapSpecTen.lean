
/- spec.MapTensor. -/
import Derived.Test.YtjoddheakjndfaaMapTenSpec
import Derived.Test.YtjoddheakjndfaaHomLaw
namespace Go.Proofs.Ytjoddheakjndfaa
set_option maxRecDepth 20000
open Go.RowKit

set_option maxHeartbeats 6400000 in
theorem map_tensor_spec {B : Nat} {lv dv xv : Value} {fk fp fn tk tp tn hk ha : Int} {L D X : List Int} {w : World} (h : RdT B w lv dv xv L D X) (hB : B ≤ w.heap.size) (hn : LenT L D X) :
    Calls Try.prog 20 #[ringV fk fp fn, ringV tk tp tn, homV hk ha, tenV lv dv xv] w (NewTen2 w (if mapB fk fp fn tk tp tn hk ha L D X = true then L else []) (if mapB fk fp fn tk tp tn hk ha L D X = true then D else []) (if mapB fk fp fn tk tp tn hk ha L D X = true then mapTenL fk fn tk tp tn hk ha D X else []) (mapB fk fp fn tk tp tn hk ha L D X)) := by
  have HA : Hid (RdT w.heap.size w lv dv xv L D X) := Lib.hid ⟨h.l.mono hB, h.d.mono hB, h.x.mono hB⟩
  obtain ⟨al, cl, rfl, -⟩ := ints_form h.l
  obtain ⟨ad, cd, rfl, -⟩ := ints_form h.d
  obtain ⟨ax, cx, rfl, -⟩ := ints_form h.x
  obtain ⟨m1, hm1⟩ : ∃ m, m = L.length := ⟨_, rfl⟩
  obtain ⟨m2, hm2⟩ : ∃ m, m = D.length := ⟨_, rfl⟩
  obtain ⟨m3, hm3⟩ : ∃ m, m = X.length := ⟨_, rfl⟩
  rw [← hm1, ← hm2, ← hm3] at HA ⊢
  have M0 := Lib.hid (MapC.start w fk fp fn tk tp tn hk ha (.slice al m1 cl) (.slice ad m2 cd) (.slice ax m3 cx) 31 31 45 28 28)
  have B0 : Hid (Below w.heap.size w (((((w.alloc (.cells #[.int .i64 fk, .int .i64 fp, .int .i64 fn] 31)).alloc (.cells #[.int .i64 tk, .int .i64 tp, .int .i64 tn] 31)).alloc (.cells #[.int .i64 hk, .int .i64 ha] 45)).alloc (.cells #[.slice al m1 cl, .slice ad m2 cd, .slice ax m3 cx] 28)).alloc (.cells #[nilV, nilV, nilV] 28))) := Lib.hid ((((((Below.refl _ _).alloc (Nat.le_refl _) _).alloc (by simp) _).alloc (by simp; omega) _).alloc (by simp; omega) _).alloc (by simp; omega) _)
  have HCK := Lib.hid (hom_ok_spec fk fp fn tk tp tn hk ha (((((w.alloc (.cells #[.int .i64 fk, .int .i64 fp, .int .i64 fn] 31)).alloc (.cells #[.int .i64 tk, .int .i64 tp, .int .i64 tn] 31)).alloc (.cells #[.int .i64 hk, .int .i64 ha] 45)).alloc (.cells #[.slice al m1 cl, .slice ad m2 cd, .slice ax m3 cx] 28)).alloc (.cells #[nilV, nilV, nilV] 28)))
  have HOK := Lib.hid (fun (w1 : World) (hb : Below w.heap.size w w1) => tensor_ok_spec (k := fk) (p := fp) (n := fn) (HA.out.below hb (Nat.le_refl _)) hb.size hn)
  have HMP := Lib.hid (fun (w1 : World) (hb : Below w.heap.size w w1) (hh : homB fk fp fn tk tp tn hk ha = true) (ht : tensorB fk fp fn L D X = true) => l07_map_spec (HA.out.below hb (Nat.le_refl _)) hb.size hh ht)
  obtain ⟨hbo, hhb⟩ : ∃ b, b = homB fk fp fn tk tp tn hk ha := ⟨_, rfl⟩
  obtain ⟨tb, htb⟩ : ∃ b, b = tensorB fk fp fn L D X := ⟨_, rfl⟩
  obtain ⟨fb, hfb⟩ : ∃ b, b = mapB fk fp fn tk tp tn hk ha L D X := ⟨_, rfl⟩
  have HFB : Hid (fb = (hbo && tb)) := Lib.hid (by rw [hfb, hhb, htb]; rfl)
  have HHB := Lib.hid hhb
  have HTB := Lib.hid htb
  rw [← hhb] at HCK
  rw [← htb] at HOK
  rw [← hfb]
  obtain ⟨zl, hzl⟩ : ∃ l, l = (if fb = true then L else []) := ⟨_, rfl⟩
  obtain ⟨zd, hzd⟩ : ∃ l, l = (if fb = true then D else []) := ⟨_, rfl⟩
  obtain ⟨zx, hzx⟩ : ∃ l, l = (if fb = true then mapTenL fk fn tk tp tn hk ha D X else []) := ⟨_, rfl⟩
  have HNO : Hid (fb = false → zl = [] ∧ zd = [] ∧ zx = []) := Lib.hid (fun h => by subst h; exact ⟨hzl, hzd, hzx⟩)
  have HYES : Hid (fb = true → zl = L ∧ zd = D ∧ zx = mapTenL fk fn tk tp tn hk ha D X) := Lib.hid (fun h => by subst h; exact ⟨hzl, hzd, hzx⟩)
  rw [← hzl, ← hzd, ← hzx]
  clear hzl hzd hzx
  clear h hB hn hm1 hm2 hm3 hhb htb hfb
  obtain ⟨-, q0, q1, q2, u0, u1, u2, g0, g1, s0, s1, s2, t0, t1, t2, fr⟩ := M0.out
  have f0 := fr 0
  have f1 := fr 1
  have f2 := fr 2
  clear fr
  cases hbo with
  | false =>
    obtain rfl : fb = false := HFB.out
    obtain ⟨rfl, rfl, rfl⟩ := HNO.out rfl
    go_enter Try.func20, Try.ntmps20
    go_wp2_with fail
    refine HCK.out.mono ?_
    clear q0 q1 q2 u0 u1 u2 g0 g1 s0 s1 s2 t0 t1 t2 f0 f1 f2
    rintro e w1 ⟨rfl, hb⟩
    have M1 := Lib.hid (M0.out.step hb)
    have B1 := Lib.hid (B0.out.trans (hb.mono B0.out.size))
    clear hb
    obtain ⟨-, q0, q1, q2, u0, u1, u2, g0, g1, s0, s1, s2, t0, t1, t2, fr⟩ := M1.out
    have f0 := fr 0
    have f1 := fr 1
    have f2 := fr 2
    clear fr
    go_wp2
    refine bodyPost_ret (v := .tuple #[tenV nilV nilV nilV, .bool false]) (by simp [results, Try.results20, go_sem, t0, t1, t2]) rfl ?_
    exact NewTen2.nils (((B1.out.setCell (by simp; omega) _).setCell (by simp; omega) _).setCell (by simp; omega) _)
  | true =>
    go_enter Try.func20, Try.ntmps20
    go_wp2_with fail
    refine HCK.out.mono ?_
    clear q0 q1 q2 u0 u1 u2 g0 g1 s0 s1 s2 t0 t1 t2 f0 f1 f2
    rintro e w1 ⟨rfl, hb⟩
    have M1 := Lib.hid (M0.out.step hb)
    have B1 := Lib.hid (B0.out.trans (hb.mono B0.out.size))
    clear hb
    obtain ⟨-, q0, q1, q2, u0, u1, u2, g0, g1, s0, s1, s2, t0, t1, t2, fr⟩ := M1.out
    have f0 := fr 0
    have f1 := fr 1
    have f2 := fr 2
    clear fr
    go_wp2_with fail
    refine (HOK.out _ B1.out).mono ?_
    clear q0 q1 q2 u0 u1 u2 g0 g1 s0 s1 s2 t0 t1 t2 f0 f1 f2
    rintro e w4 ⟨rfl, hb⟩
    have M4 := Lib.hid (M1.out.step hb)
    have B4 := Lib.hid (B1.out.trans (hb.mono B1.out.size))
    clear hb
    cases tb with
    | false =>
      obtain rfl : fb = false := HFB.out
      obtain ⟨rfl, rfl, rfl⟩ := HNO.out rfl
      obtain ⟨-, q0, q1, q2, u0, u1, u2, g0, g1, s0, s1, s2, t0, t1, t2, fr⟩ := M4.out
      have f0 := fr 0
      have f1 := fr 1
      have f2 := fr 2
      clear fr
      go_wp2
      refine bodyPost_ret (v := .tuple #[tenV nilV nilV nilV, .bool false]) (by simp [results, Try.results20, go_sem, t0, t1, t2]) rfl ?_
      exact NewTen2.nils (((B4.out.setCell (by simp; omega) _).setCell (by simp; omega) _).setCell (by simp; omega) _)
    | true =>
      obtain rfl : fb = true := HFB.out
      have HY3 := Lib.hid (HYES.out (by simp))
      have HFL := Lib.hid (HMP.out w4 B4.out HHB.out.symm HTB.out.symm)
      clear HMP
      obtain ⟨-, q0, q1, q2, u0, u1, u2, g0, g1, s0, s1, s2, t0, t1, t2, fr⟩ := M4.out
      have f0 := fr 0
      have f1 := fr 1
      have f2 := fr 2
      clear fr
      go_wp2_with fail
      refine HFL.out.mono ?_
      clear q0 q1 q2 u0 u1 u2 g0 g1 s0 s1 s2 t0 t1 t2 f0 f1 f2
      rintro e w5 ⟨l', d', x', rfl, ho, hb⟩
      have M5 := Lib.hid (M4.out.step hb)
      have B5 := Lib.hid (B4.out.trans (hb.mono B4.out.size))
      obtain ⟨a1, c1, rfl, -⟩ := ints_form ho.rows.1.rd
      obtain ⟨a2, c2, rfl, -⟩ := ints_form ho.rows.2.1.rd
      obtain ⟨a3, c3, rfl, -⟩ := ints_form ho.rows.2.2.rd
      have lt1 : w.heap.size + 1 + 1 + 1 + 1 < w4.heap.size := by have := M4.out.lt; omega
      have hz1 := B4.out.size
      obtain ⟨res, hres⟩ : ∃ l, l = mapTenL fk fn tk tp tn hk ha D X := ⟨_, rfl⟩
      have HZR : Hid (zl = L ∧ zd = D ∧ zx = res) := Lib.hid ⟨HY3.out.1, HY3.out.2.1, by rw [HY3.out.2.2, hres]⟩
      rw [← hres] at ho ⊢
      obtain ⟨q1', hq1⟩ : ∃ m, m = L.length := ⟨_, rfl⟩
      obtain ⟨q2', hq2⟩ : ∃ m, m = D.length := ⟨_, rfl⟩
      obtain ⟨q3', hq3⟩ : ∃ m, m = res.length := ⟨_, rfl⟩
      rw [← hq1, ← hq2, ← hq3] at ho ⊢
      have HO := Lib.hid (ho.set3 lt1 (.slice a1 q1' c1) (.slice a2 q2' c2) (.slice a3 q3' c3))
      clear hb ho hq1 hq2 hq3 hres HFL
      obtain ⟨-, q0, q1, q2, u0, u1, u2, g0, g1, s0, s1, s2, t0, t1, t2, fr⟩ := M5.out
      have f0 := fr 0
      have f1 := fr 1
      have f2 := fr 2
      clear fr
      go_wp2
      refine bodyPost_ret (v := .tuple #[tenV (.slice a1 q1' c1) (.slice a2 q2' c2) (.slice a3 q3' c3), .bool true]) (by simp [results, Try.results20, go_sem, t0, t1, t2]) rfl ?_
      rw [← HZR.out.1, ← HZR.out.2.1, ← HZR.out.2.2] at HO
      refine ⟨_, _, _, rfl, ?_, ((B5.out.setCell (by simp; omega) _).setCell (by simp; omega) _).setCell (by simp; omega) _⟩
      exact HO.out.wide hz1 (by simp) (by simp)
theorem map_len_L (fk fp fn tk tp tn hk ha : Int) (L D X : List Int) : (if mapB fk fp fn tk tp tn hk ha L D X = true then L else []).length ≤ 12 := by
  split <;> rename_i h
  · exact (ten_lens (mapB_parts h).2).1
  · simp
theorem map_len_D (fk fp fn tk tp tn hk ha : Int) (L D X : List Int) : (if mapB fk fp fn tk tp tn hk ha L D X = true then D else []).length ≤ 12 := by
  split <;> rename_i h
  · exact (ten_lens (mapB_parts h).2).2.1
  · simp
theorem map_len_X (fk fp fn tk tp tn hk ha : Int) (L D X : List Int) : (if mapB fk fp fn tk tp tn hk ha L D X = true then mapTenL fk fn tk tp tn hk ha D X else []).length ≤ 24576 := by
  split <;> rename_i h
  · obtain ⟨hh, ht⟩ := mapB_parts h
    have hp := PF.of ht (setV_perm (List.Perm.refl L) (tensor_axes ht).2.2.2.2)
    have hwx := (tensorB_inv ht).2.2.2
    have hx1 := hp.lX
    obtain ⟨wt, hwt, hwt1, hwt2⟩ := width_nat (homB_parts hh).2.1
    unfold mapTenL
    rw [gather_len (wd := wt) _ (fun i hi => by have h1 := (image_elem hh (getL_elem hp.hw hx1 hwx hi)).1; show (imageL fk tk tp tn hk ha (getL (widthI fk fn).toNat X i)).length = wt; omega)]
    exact Nat.le_trans (Nat.mul_le_mul hp.n1.2 hwt2) (by omega)
  · simp
end Go.Proofs.Ytjoddheakjndfaa
