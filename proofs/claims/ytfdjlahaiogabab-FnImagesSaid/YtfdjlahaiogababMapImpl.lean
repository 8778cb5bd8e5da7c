
/- impl.MapTensor. -/
import Derived.Test.YtfdjlahaiogababPermuted
import Derived.Test.YtfdjlahaiogababFill
import Derived.Test.YtfdjlahaiogababMapC
import Derived.Test.YtfdjlahaiogababTenOkImpl
namespace Go.Proofs.Ytfdjlahaiogabab
set_option maxRecDepth 20000
open Go.RowKit

set_option maxHeartbeats 6400000 in
theorem map_fn {B bc bt br b8 : Nat} {lv dv xv : Value} {fk fp fn tk tp tn hk ha : Int} {L D X : List Int} {wd N j : Nat} {w : World} (hc : bc < w.heap.size ∧ bt < w.heap.size ∧ br < w.heap.size) (hcells : (w.cell? ⟨bc, 0, none⟩ = some (.pointer (some ⟨b8, 0, none⟩)) ∧ w.cell? ⟨bt, 0, none⟩ = some lv ∧ w.cell? ⟨bt, 1, none⟩ = some dv ∧ w.cell? ⟨bt, 2, none⟩ = some xv ∧ w.cell? ⟨br, 0, none⟩ = some (.int .i64 fk) ∧ w.cell? ⟨br, 1, none⟩ = some (.int .i64 fp) ∧ w.cell? ⟨br, 2, none⟩ = some (.int .i64 fn))) (h8 : Box8 w b8 fk fp fn tk tp tn hk ha) (hb8 : b8 < w.heap.size) (hA : RdT B w lv dv xv L D X) (hB : B ≤ w.heap.size) (hh : homB fk fp fn tk tp tn hk ha = true) (hw : widthI fk fn = (wd : Int)) (hw1 : 1 ≤ wd) (hw2 : wd ≤ 6) (hN : N ≤ 4096) (hX : X.length = N * wd) (wX : Within (topI fk fp fn) X) (hj : j < N) :
    Calls Try.prog 92 #[.int .i64 j, .pointer (some ⟨bc, 0, none⟩), .pointer (some ⟨bt, 0, none⟩), .pointer (some ⟨br, 0, none⟩)] w (NewRow w (mapF fk tk tp tn hk ha wd X j)) := by
  have hjj := Nat.mul_le_mul_right wd (show j + 1 ≤ N by omega)
  rw [Nat.add_mul, Nat.one_mul] at hjj
  have HY := Lib.hid (getL_elem hw hX wX hj)
  have HH := Lib.hid hh
  have HBB := Lib.hid hB
  have H8 := Lib.hid (fun (W : World) (hb : Below w.heap.size w W) => h8.below hb hb8)
  have H8L := Lib.hid hb8
  have HE1 := Lib.hid (fun (W : World) (hb : Below w.heap.size w W) => elem_rd (k := fk) (p := fp) (q := fn) wd j (hA.below hb hB) (Nat.le_trans hB hb.size) hw hw1 hw2 (by omega) (by rw [hX]; exact hjj))
  have HC : Hid (∀ W, Below w.heap.size w W → (W.cell? ⟨bc, 0, none⟩ = some (.pointer (some ⟨b8, 0, none⟩)) ∧ W.cell? ⟨bt, 0, none⟩ = some lv ∧ W.cell? ⟨bt, 1, none⟩ = some dv ∧ W.cell? ⟨bt, 2, none⟩ = some xv ∧ W.cell? ⟨br, 0, none⟩ = some (.int .i64 fk) ∧ W.cell? ⟨br, 1, none⟩ = some (.int .i64 fp) ∧ W.cell? ⟨br, 2, none⟩ = some (.int .i64 fn))) := Lib.hid (fun W hb => by
    obtain ⟨l1, l2, l3⟩ := hc
    obtain ⟨x0, s0, s1, s2, r0, r1, r2⟩ := hcells
    exact ⟨(hb.cell (p := ⟨bc, 0, none⟩) l1).trans x0, (hb.cell (p := ⟨bt, 0, none⟩) l2).trans s0, (hb.cell (p := ⟨bt, 1, none⟩) l2).trans s1, (hb.cell (p := ⟨bt, 2, none⟩) l2).trans s2, (hb.cell (p := ⟨br, 0, none⟩) l3).trans r0, (hb.cell (p := ⟨br, 1, none⟩) l3).trans r1, (hb.cell (p := ⟨br, 2, none⟩) l3).trans r2⟩)
  have HRES : Hid (mapF fk tk tp tn hk ha wd X j = imageL fk tk tp tn hk ha (getL wd X j)) := Lib.hid rfl
  rw [HRES.out]
  obtain ⟨y, hy⟩ : ∃ y, y = getL wd X j := ⟨_, rfl⟩
  rw [← hy] at HY HE1 ⊢
  clear hc hcells h8 hb8 hA hB hh hw hw1 hw2 hN hX wX hj hjj hy HRES
  have HB1 := Lib.hid ((Below.refl w.heap.size w).drew)
  obtain ⟨x0, s0, s1, s2, r0, r1, r2⟩ := HC.out _ HB1.out
  go_enter Try.func92, Try.ntmps92
  go_wp2
  go_region_held3 (fun W => (W.cell? ⟨bc, 0, none⟩ = some (.pointer (some ⟨b8, 0, none⟩)) ∧ W.cell? ⟨bt, 0, none⟩ = some lv ∧ W.cell? ⟨bt, 1, none⟩ = some dv ∧ W.cell? ⟨bt, 2, none⟩ = some xv ∧ W.cell? ⟨br, 0, none⟩ = some (.int .i64 fk) ∧ W.cell? ⟨br, 1, none⟩ = some (.int .i64 fp) ∧ W.cell? ⟨br, 2, none⟩ = some (.int .i64 fn))) (exact ⟨x0, s0, s1, s2, r0, r1, r2⟩) (first
    | (go_at_call 88; refine (HE1.out _ HB1.out).mono ?_; rintro e w2 ⟨v1, rfl, hv, hb⟩; have RY := Lib.hid hv; have HB2 := Lib.hid (HB1.out.trans (hb.mono HB1.out.size)); clear hv hb x0 s0 s1 s2 r0 r1 r2; obtain ⟨x0, s0, s1, s2, r0, r1, r2⟩ := HC.out _ HB2.out)
    | (go_at_call 93; refine (image_any (H8.out _ HB2.out) (Nat.lt_of_lt_of_le H8L.out HB2.out.size) HH.out HY.out RY.out (Nat.le_trans HBB.out HB2.out.size)).mono ?_; rintro e w4 ⟨v3, rfl, ho, hb⟩; have HO := Lib.hid ((OwnG.one ho).wide HB2.out.size (Nat.le_refl _) (Nat.le_refl _)).row; have HB4 := Lib.hid (HB2.out.trans (hb.mono HB2.out.size)); clear ho hb x0 s0 s1 s2 r0 r1 r2; obtain ⟨x0, s0, s1, s2, r0, r1, r2⟩ := HC.out _ HB4.out))
  clear x0 s0 s1 s2 r0 r1 r2
  go_wp2
  go_ret
  exact ⟨_, rfl, HO.out, HB4.out⟩
set_option maxHeartbeats 6400000 in
theorem map_tensor_impl {B : Nat} {lv dv xv : Value} {fk fp fn tk tp tn hk ha : Int} {L D X : List Int} {w : World} (h : RdT B w lv dv xv L D X) (hB : B ≤ w.heap.size) (hn : LenT L D X) (hI : allI L) :
    Calls Try.prog 32 #[ringV fk fp fn, ringV tk tp tn, homV hk ha, tenV lv dv xv] w (NewTen2 w (if mapB fk fp fn tk tp tn hk ha L D X = true then L else []) (if mapB fk fp fn tk tp tn hk ha L D X = true then D else []) (if mapB fk fp fn tk tp tn hk ha L D X = true then mapTenL fk fn tk tp tn hk ha D X else []) (mapB fk fp fn tk tp tn hk ha L D X)) := by
  have hmf : ∀ (fn : Fn) (first cap : Array Value) (w : World), (Instr.makeFunc fn first cap).run Try.prog w = .ok (.func fn first cap) w := fun _ _ _ _ => rfl
  have HA : Hid (RdT w.heap.size w lv dv xv L D X) := Lib.hid ⟨h.l.mono hB, h.d.mono hB, h.x.mono hB⟩
  have HN := Lib.hid hn
  have HI := Lib.hid hI
  obtain ⟨al, cl, rfl, -⟩ := ints_form h.l
  obtain ⟨ad, cd, rfl, -⟩ := ints_form h.d
  obtain ⟨ax, cx, rfl, -⟩ := ints_form h.x
  obtain ⟨m1, hm1⟩ : ∃ m, m = L.length := ⟨_, rfl⟩
  obtain ⟨m2, hm2⟩ : ∃ m, m = D.length := ⟨_, rfl⟩
  obtain ⟨m3, hm3⟩ : ∃ m, m = X.length := ⟨_, rfl⟩
  rw [← hm1, ← hm2, ← hm3] at HA ⊢
  have M0 := Lib.hid (MapC.start w fk fp fn tk tp tn hk ha (.slice al m1 cl) (.slice ad m2 cd) (.slice ax m3 cx) 31 31 45 28 28)
  have B0 : Hid (Below w.heap.size w (((((w.alloc (.cells #[.int .i64 fk, .int .i64 fp, .int .i64 fn] 31)).alloc (.cells #[.int .i64 tk, .int .i64 tp, .int .i64 tn] 31)).alloc (.cells #[.int .i64 hk, .int .i64 ha] 45)).alloc (.cells #[.slice al m1 cl, .slice ad m2 cd, .slice ax m3 cx] 28)).alloc (.cells #[nilV, nilV, nilV] 28))) := Lib.hid ((((((Below.refl _ _).alloc (Nat.le_refl _) _).alloc (by simp) _).alloc (by simp; omega) _).alloc (by simp; omega) _).alloc (by simp; omega) _)
  have HCK := Lib.hid (check_any fk fp fn tk tp tn hk ha (((((w.alloc (.cells #[.int .i64 fk, .int .i64 fp, .int .i64 fn] 31)).alloc (.cells #[.int .i64 tk, .int .i64 tp, .int .i64 tn] 31)).alloc (.cells #[.int .i64 hk, .int .i64 ha] 45)).alloc (.cells #[.slice al m1 cl, .slice ad m2 cd, .slice ax m3 cx] 28)).alloc (.cells #[nilV, nilV, nilV] 28)))
  have HOK := Lib.hid (fun (w1 : World) (hb : Below w.heap.size w w1) => tensor_ok_impl (k := fk) (p := fp) (n := fn) (HA.out.below hb (Nat.le_refl _)) hb.size hn hI)
  obtain ⟨hbo, hhb⟩ : ∃ b, b = homB fk fp fn tk tp tn hk ha := ⟨_, rfl⟩
  obtain ⟨tb, htb⟩ : ∃ b, b = tensorB fk fp fn L D X := ⟨_, rfl⟩
  obtain ⟨fb, hfb⟩ : ∃ b, b = mapB fk fp fn tk tp tn hk ha L D X := ⟨_, rfl⟩
  have HFB : Hid (fb = (hbo && tb)) := Lib.hid (by rw [hfb, hhb, htb]; rfl)
  have HHB := Lib.hid hhb
  have HTB := Lib.hid htb
  rw [← hhb] at HCK
  rw [← htb] at HOK
  rw [← hfb]
  obtain ⟨zl, hzl⟩ : ∃ l, l = (if fb = true then L else []) := ⟨_, rfl⟩
  obtain ⟨zd, hzd⟩ : ∃ l, l = (if fb = true then D else []) := ⟨_, rfl⟩
  obtain ⟨zx, hzx⟩ : ∃ l, l = (if fb = true then mapTenL fk fn tk tp tn hk ha D X else []) := ⟨_, rfl⟩
  have HNO : Hid (fb = false → zl = [] ∧ zd = [] ∧ zx = []) := Lib.hid (fun h => by subst h; exact ⟨hzl, hzd, hzx⟩)
  have HYES : Hid (fb = true → zl = L ∧ zd = D ∧ zx = mapTenL fk fn tk tp tn hk ha D X) := Lib.hid (fun h => by subst h; exact ⟨hzl, hzd, hzx⟩)
  rw [← hzl, ← hzd, ← hzx]
  clear hzl hzd hzx
  clear h hB hn hI hm1 hm2 hm3 hhb htb hfb
  obtain ⟨-, q0, q1, q2, u0, u1, u2, g0, g1, s0, s1, s2, t0, t1, t2, fr⟩ := M0.out
  have f0 := fr 0
  have f1 := fr 1
  have f2 := fr 2
  clear fr
  cases hbo with
  | false =>
    obtain rfl : fb = false := HFB.out
    obtain ⟨rfl, rfl, rfl⟩ := HNO.out rfl
    go_enter Try.func32, Try.ntmps32
    go_wp2_with fail
    refine HCK.out.mono ?_
    clear q0 q1 q2 u0 u1 u2 g0 g1 s0 s1 s2 t0 t1 t2 f0 f1 f2
    rintro e w1 ⟨hb, he⟩
    rw [if_neg (by simp)] at he
    subst he
    have M1 := Lib.hid (M0.out.step hb)
    have B1 := Lib.hid (B0.out.trans (hb.mono B0.out.size))
    clear hb
    have M2 := Lib.hid (M1.out.step ((Below.refl _ _).alloc (Nat.le_refl _) (.cells #[.pointer none] 95)))
    have B2 := Lib.hid (B1.out.alloc B1.out.size (.cells #[.pointer none] 95))
    obtain ⟨-, q0, q1, q2, u0, u1, u2, g0, g1, s0, s1, s2, t0, t1, t2, fr⟩ := M2.out
    have f0 := fr 0
    have f1 := fr 1
    have f2 := fr 2
    clear fr
    go_wp2
    refine bodyPost_ret (v := .tuple #[tenV nilV nilV nilV, .bool false]) (by simp [results, Try.results32, go_sem, t0, t1, t2]) rfl ?_
    exact NewTen2.nils (((B2.out.setCell (by simp; omega) _).setCell (by simp; omega) _).setCell (by simp; omega) _)
  | true =>
    go_enter Try.func32, Try.ntmps32
    go_wp2_with fail
    refine HCK.out.mono ?_
    clear q0 q1 q2 u0 u1 u2 g0 g1 s0 s1 s2 t0 t1 t2 f0 f1 f2
    rintro e w1 ⟨hb, he⟩
    rw [if_pos rfl] at he
    obtain ⟨b8, rfl, hlo8, hlt8, h8⟩ := he
    have M1 := Lib.hid (M0.out.step hb)
    have B1 := Lib.hid (B0.out.trans (hb.mono B0.out.size))
    have L8 := Lib.hid hlt8
    have HB2 := (Below.refl w1.heap.size w1).alloc (Nat.le_refl _) (.cells #[.pointer (some ⟨b8, 0, none⟩)] 95)
    have M2 := Lib.hid (M1.out.step HB2)
    have B2 := Lib.hid (B1.out.alloc B1.out.size (.cells #[.pointer (some ⟨b8, 0, none⟩)] 95))
    have H82 := Lib.hid (h8.below HB2 hlt8)
    have FC2 : Hid ((w1.alloc (.cells #[.pointer (some ⟨b8, 0, none⟩)] 95)).cell? ⟨w1.heap.size, 0, none⟩ = some (.pointer (some ⟨b8, 0, none⟩))) := by
      show _ = _
      rw [World.cell?_alloc_new]; rfl
    clear hb hlo8 hlt8 h8 HB2
    obtain ⟨-, q0, q1, q2, u0, u1, u2, g0, g1, s0, s1, s2, t0, t1, t2, fr⟩ := M2.out
    have f0 := fr 0
    have f1 := fr 1
    have f2 := fr 2
    clear fr
    have x0 := FC2.out
    go_wp2_with fail
    refine (HOK.out _ B2.out).mono ?_
    clear q0 q1 q2 u0 u1 u2 g0 g1 s0 s1 s2 t0 t1 t2 f0 f1 f2 x0
    rintro e w4 ⟨rfl, hb⟩
    have M4 := Lib.hid (M2.out.step hb)
    have B4 := Lib.hid (B2.out.trans (hb.mono B2.out.size))
    have FC4 := Lib.hid ((hb.cell (p := ⟨w1.heap.size, 0, none⟩) (by simp)).trans FC2.out)
    have H84 := Lib.hid (H82.out.below hb (by have := L8.out; simp; omega))
    have LC := Lib.hid (show w1.heap.size < w4.heap.size by have := hb.size; simp at this; omega)
    clear hb H82 FC2
    cases tb with
    | false =>
      obtain rfl : fb = false := HFB.out
      obtain ⟨rfl, rfl, rfl⟩ := HNO.out rfl
      obtain ⟨-, q0, q1, q2, u0, u1, u2, g0, g1, s0, s1, s2, t0, t1, t2, fr⟩ := M4.out
      have f0 := fr 0
      have f1 := fr 1
      have f2 := fr 2
      clear fr
      go_wp2
      refine bodyPost_ret (v := .tuple #[tenV nilV nilV nilV, .bool false]) (by simp [results, Try.results32, go_sem, t0, t1, t2]) rfl ?_
      exact NewTen2.nils (((B4.out.setCell (by simp; omega) _).setCell (by simp; omega) _).setCell (by simp; omega) _)
    | true =>
      obtain rfl : fb = true := HFB.out
      have HY3 := Lib.hid (HYES.out (by simp))
      have htb := HTB.out.symm
      have hhb := HHB.out.symm
      have hp := PF.of htb (setV_perm (List.Perm.refl L) (by have h := (tensorB_prod htb).1; exact h.2.2.2.2))
      have hwx := (tensorB_inv htb).2.2.2
      have hx1 := hp.lX
      obtain ⟨wt, hwt, hwt1, hwt2⟩ := width_nat (homB_parts hhb).2.1
      have hjt : mapTenL fk fn tk tp tn hk ha D X = gatherL (mapF fk tk tp tn hk ha (widthI fk fn).toNat X) (prodL D).toNat := rfl
      obtain ⟨wd, hwd⟩ : ∃ n, n = (widthI fk fn).toNat := ⟨_, rfl⟩
      rw [← hwd] at hp hx1 hjt
      have hs := tensorB_prod htb
      have HCM := Lib.hid (fun (j : Nat) (W : World) (hj : j < (prodL D).toNat) (hb : Below w4.heap.size w4 W) => map_fn (B := w4.heap.size) (bc := w1.heap.size) (bt := w.heap.size + 1 + 1 + 1) (br := w.heap.size) (b8 := b8) (lv := .slice al m1 cl) (dv := .slice ad m2 cd) (xv := .slice ax m3 cx) (fk := fk) (fp := fp) (fn := fn) (tk := tk) (tp := tp) (tn := tn) (hk := hk) (ha := ha) (L := L) (D := D) (X := X) (wd := wd) (N := (prodL D).toNat) (j := j) (w := W)
        (by have h1 := M4.out.lt; have h2 := hb.size; have h3 := LC.out; refine ⟨?_, ?_, ?_⟩ <;> omega)
        (by
          have hl := M4.out.lt
          have hc : ∀ {b i : Nat} {v : Value}, b < w4.heap.size → w4.cell? ⟨b, i, none⟩ = some v → W.cell? ⟨b, i, none⟩ = some v := fun hlt hc => (hb.cell (p := ⟨_, _, none⟩) hlt).trans hc
          exact ⟨hc LC.out FC4.out, hc (by omega) M4.out.t0, hc (by omega) M4.out.t1, hc (by omega) M4.out.t2, hc (by omega) M4.out.f0, hc (by omega) M4.out.f1, hc (by omega) M4.out.f2⟩)
        (H84.out.below hb (by have := L8.out; have := LC.out; omega))
        (by have := L8.out; have := LC.out; have := hb.size; omega)
        (have h := HA.out.below (B4.out.trans (hb.mono B4.out.size)) (Nat.le_refl _); ⟨h.l.mono B4.out.size, h.d.mono B4.out.size, h.x.mono B4.out.size⟩)
        hb.size hhb hp.hw hp.w6.1 hp.w6.2 hs.2.2 hx1 hwx hj)
      have HFL := Lib.hid (filled_impl3 (k := fk) (p := fp) (q := fn) (K := 92) (wt := wt) (F := mapF fk tk tp tn hk ha wd X) (HA.out.below B4.out (Nat.le_refl _)) B4.out.size HN.out HI.out htb hwt1 hwt2 (fun _ _ => by kernel_rfl) (fun i hi => by have h1 := (image_elem hhb (getL_elem hp.hw hx1 hwx hi)).1; have h2 := hwt; show (imageL fk tk tp tn hk ha (getL wd X i)).length = wt; omega) (fun j W hj hb => HCM.out j W hj hb))
      have HJT := Lib.hid hjt
      clear HCM hp hwx hx1 hjt hwd hs htb hhb hwt hwt1 hwt2
      obtain ⟨-, q0, q1, q2, u0, u1, u2, g0, g1, s0, s1, s2, t0, t1, t2, fr⟩ := M4.out
      have f0 := fr 0
      have f1 := fr 1
      have f2 := fr 2
      clear fr
      have x0 := FC4.out
      go_wp2_with fail
      refine HFL.out.mono ?_
      clear q0 q1 q2 u0 u1 u2 g0 g1 s0 s1 s2 t0 t1 t2 f0 f1 f2 x0
      rintro e w5 ⟨l', d', x', rfl, ho, hb⟩
      have M5 := Lib.hid (M4.out.step hb)
      have B5 := Lib.hid (B4.out.trans (hb.mono B4.out.size))
      obtain ⟨a1, c1, rfl, -⟩ := ints_form ho.rows.1.rd
      obtain ⟨a2, c2, rfl, -⟩ := ints_form ho.rows.2.1.rd
      obtain ⟨a3, c3, rfl, -⟩ := ints_form ho.rows.2.2.rd
      have lt1 : w.heap.size + 1 + 1 + 1 + 1 < w4.heap.size := by have := M4.out.lt; omega
      have hz1 := B4.out.size
      obtain ⟨res, hres⟩ : ∃ l, l = gatherL (mapF fk tk tp tn hk ha wd X) (prodL D).toNat := ⟨_, rfl⟩
      have HZR : Hid (zl = L ∧ zd = D ∧ zx = res) := Lib.hid ⟨HY3.out.1, HY3.out.2.1, by rw [HY3.out.2.2, HJT.out, hres]⟩
      rw [← hres] at ho ⊢
      obtain ⟨q1', hq1⟩ : ∃ m, m = L.length := ⟨_, rfl⟩
      obtain ⟨q2', hq2⟩ : ∃ m, m = D.length := ⟨_, rfl⟩
      obtain ⟨q3', hq3⟩ : ∃ m, m = res.length := ⟨_, rfl⟩
      rw [← hq1, ← hq2, ← hq3] at ho ⊢
      have HO := Lib.hid (ho.set3 lt1 (.slice a1 q1' c1) (.slice a2 q2' c2) (.slice a3 q3' c3))
      clear hb ho hq1 hq2 hq3 hres HFL
      obtain ⟨-, q0, q1, q2, u0, u1, u2, g0, g1, s0, s1, s2, t0, t1, t2, fr⟩ := M5.out
      have f0 := fr 0
      have f1 := fr 1
      have f2 := fr 2
      clear fr
      go_wp2
      refine bodyPost_ret (v := .tuple #[tenV (.slice a1 q1' c1) (.slice a2 q2' c2) (.slice a3 q3' c3), .bool true]) (by simp [results, Try.results32, go_sem, t0, t1, t2]) rfl ?_
      rw [← HZR.out.1, ← HZR.out.2.1, ← HZR.out.2.2] at HO
      refine ⟨_, _, _, rfl, ?_, ((B5.out.setCell (by simp; omega) _).setCell (by simp; omega) _).setCell (by simp; omega) _⟩
      exact HO.out.wide hz1 (by simp) (by simp)
end Go.Proofs.Ytfdjlahaiogabab
