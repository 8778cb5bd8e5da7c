
/- Slices of tensors: a row of structs of three cells, each the header of a row that is read; how they are sized (laws.szTensorS). -/
import Derived.Test.YtdheakjjnaifkaaBx
import Derived.Test.YtdheakjjnaifkaaRs
import Derived.Lib.Hide
namespace Go.Proofs.Ytdheakjjnaifkaa
set_option maxRecDepth 20000
open Go.RowKit

abbrev TenE := List Int × List Int × List Int
abbrev TenW := Value × Value × Value
/-- The cells of a slice of structs of three cells. -/
def Rd3 (B : Nat) (w : World) (v : Value) (us : List TenW) : Prop :=
  (us = [] ∧ ∃ a cap, v = .slice a 0 cap) ∨
  ∃ b off cap, v = .slice (some ⟨b, off, none⟩) us.length cap ∧ b < B ∧ ∀ i (u : TenW), us[i]? = some u → w.cell? ⟨b, off + i * 3, none⟩ = some u.1 ∧ w.cell? ⟨b, off + i * 3 + 1, none⟩ = some u.2.1 ∧ w.cell? ⟨b, off + i * 3 + 2, none⟩ = some u.2.2
theorem Rd3.below {B B' : Nat} {w w' : World} {v : Value} {us : List TenW} (h : Rd3 B w v us) (hb : Below B' w w') (hB : B ≤ B') : Rd3 B w' v us := by
  rcases h with h | ⟨b, off, cap, hv, hlt, hc⟩
  · exact .inl h
  · refine .inr ⟨b, off, cap, hv, hlt, fun i u hi => ?_⟩
    obtain ⟨h1, h2, h3⟩ := hc i u hi
    exact ⟨(hb.cell (p := ⟨b, _, none⟩) (Nat.lt_of_lt_of_le hlt hB)).trans h1, (hb.cell (p := ⟨b, _, none⟩) (Nat.lt_of_lt_of_le hlt hB)).trans h2, (hb.cell (p := ⟨b, _, none⟩) (Nat.lt_of_lt_of_le hlt hB)).trans h3⟩
theorem Rd3.mono {B B' : Nat} {w : World} {v : Value} {us : List TenW} (h : Rd3 B w v us) (hB : B ≤ B') : Rd3 B' w v us := by
  rcases h with h | ⟨b, off, cap, hv, hlt, hc⟩
  · exact .inl h
  · exact .inr ⟨b, off, cap, hv, Nat.lt_of_lt_of_le hlt hB, hc⟩
theorem Rd3.form {B : Nat} {w : World} {v : Value} {us : List TenW} (h : Rd3 B w v us) : ∃ a cap, v = .slice a us.length cap := by
  rcases h with ⟨rfl, a, cap, rfl⟩ | ⟨b, off, cap, rfl, -⟩
  · exact ⟨a, cap, rfl⟩
  · exact ⟨_, cap, rfl⟩
theorem Rd3.at {B m cap : Nat} {w : World} {p : Option Addr} {us : List TenW} {i : Nat} {u : TenW} (h : Rd3 B w (.slice p m cap) us) (hi : us[i]? = some u) : ∃ b off, p = some ⟨b, off, none⟩ ∧ b < B ∧ w.cell? ⟨b, off + i * 3, none⟩ = some u.1 ∧ w.cell? ⟨b, off + i * 3 + 1, none⟩ = some u.2.1 ∧ w.cell? ⟨b, off + i * 3 + 2, none⟩ = some u.2.2 := by
  rcases h with ⟨rfl, -⟩ | ⟨b, off, ca, e, hlt, hc⟩
  · simp at hi
  · cases e
    exact ⟨b, off, rfl, hlt, hc i u hi⟩
/-- A slice of tensors that is read. -/
def RdTs (B : Nat) (w : World) (v : Value) (ts : List TenE) : Prop := ∃ us, Rd3 B w v us ∧ us.length = ts.length ∧ ∀ (i : Nat) (u : TenW) (t : TenE), us[i]? = some u → ts[i]? = some t → RdT B w u.1 u.2.1 u.2.2 t.1 t.2.1 t.2.2
theorem RdT.mono3 {B B' : Nat} {w : World} {lv dv xv : Value} {L D X : List Int} (h : RdT B w lv dv xv L D X) (hB : B ≤ B') : RdT B' w lv dv xv L D X := ⟨h.l.mono hB, h.d.mono hB, h.x.mono hB⟩
theorem RdTs.below {B B' : Nat} {w w' : World} {v : Value} {ts : List TenE} (h : RdTs B w v ts) (hb : Below B' w w') (hB : B ≤ B') : RdTs B w' v ts := by
  obtain ⟨us, h1, h2, h3⟩ := h
  exact ⟨us, h1.below hb hB, h2, fun i u t hu ht => ⟨(h3 i u t hu ht).l.below hb hB, (h3 i u t hu ht).d.below hb hB, (h3 i u t hu ht).x.below hb hB⟩⟩
theorem RdTs.mono {B B' : Nat} {w : World} {v : Value} {ts : List TenE} (h : RdTs B w v ts) (hB : B ≤ B') : RdTs B' w v ts := by
  obtain ⟨us, h1, h2, h3⟩ := h
  exact ⟨us, h1.mono hB, h2, fun i u t hu ht => (h3 i u t hu ht).mono3 hB⟩
theorem RdTs.form {B : Nat} {w : World} {v : Value} {ts : List TenE} (h : RdTs B w v ts) : ∃ a cap, v = .slice a ts.length cap := by
  obtain ⟨us, h1, h2, -⟩ := h
  obtain ⟨a, cap, e⟩ := h1.form
  exact ⟨a, cap, by rw [← h2]; exact e⟩
/-- One tensor of the slice: where its cells lie, with their slices' forms. -/
theorem RdTs.at {B m cap : Nat} {w : World} {p : Option Addr} {ts : List TenE} {i : Nat} {t : TenE} (h : RdTs B w (.slice p m cap) ts) (hi : ts[i]? = some t) : ∃ b off a1 c1 a2 c2 a3 c3, p = some ⟨b, off, none⟩ ∧ b < B ∧
    w.cell? ⟨b, off + i * 3, none⟩ = some (.slice a1 t.1.length c1) ∧ w.cell? ⟨b, off + i * 3 + 1, none⟩ = some (.slice a2 t.2.1.length c2) ∧ w.cell? ⟨b, off + i * 3 + 2, none⟩ = some (.slice a3 t.2.2.length c3) ∧
    RdT B w (.slice a1 t.1.length c1) (.slice a2 t.2.1.length c2) (.slice a3 t.2.2.length c3) t.1 t.2.1 t.2.2 := by
  obtain ⟨us, h1, h2, h3⟩ := h
  have hlt := (List.getElem?_eq_some_iff.1 hi).1
  have hu : us[i]? = some us[i] := List.getElem?_eq_getElem (by omega)
  obtain ⟨b, off, rfl, hb, k0, k1, k2⟩ := h1.at hu
  have hT := h3 i _ _ hu hi
  obtain ⟨a1, c1, e1, -⟩ := ints_form hT.l
  obtain ⟨a2, c2, e2, -⟩ := ints_form hT.d
  obtain ⟨a3, c3, e3, -⟩ := ints_form hT.x
  rw [e1] at k0
  rw [e2] at k1
  rw [e3] at k2
  rw [e1, e2, e3] at hT
  exact ⟨b, off, a1, c1, a2, c2, a3, c3, rfl, hb, k0, k1, k2, hT⟩
def wtT (t : TenE) : Nat := t.1.length + t.2.1.length + t.2.2.length
def totT (ts : List TenE) : Nat := (ts.map wtT).sum
theorem totT_step {ts : List TenE} {j : Nat} {t : TenE} (h : ts[j]? = some t) : totT (ts.take (j + 1)) = totT (ts.take j) + wtT t := by
  simp [totT, List.take_add_one, h, List.map_append, List.sum_append]
theorem totT_all {ts : List TenE} {j : Nat} (h : ts.length ≤ j) : totT (ts.take j) = totT ts := by rw [List.take_of_length_le h]
/-- What the size of a slice of tensors answers. -/
def SzTs (left : Int) (ts : List TenE) (w : World) (e : Ending) (w' : World) : Prop := ∃ r : Int, e = .returned (.int .i64 r) ∧ Below w.heap.size w w' ∧ -1 ≤ r ∧ r ≤ left ∧ (0 ≤ r → (ts.length : Int) + totT ts + r = left)
set_option maxHeartbeats 1600000 in
theorem sz_tens {B : Nat} {v : Value} {ts : List TenE} {w : World} (left : Int) (h : RdTs B w v ts) (hB : B ≤ w.heap.size) (hl : 0 ≤ left) (hl2 : left ≤ 1048576) (hn : ts.length ≤ 281474976710656) (hlen : ∀ t ∈ ts, t.1.length ≤ 281474976710656 ∧ t.2.1.length ≤ 281474976710656 ∧ t.2.2.length ≤ 281474976710656) :
    Calls Try.prog 42 #[v, .int .i64 left] w (SzTs left ts w) := by
  obtain ⟨a, cap, rfl⟩ := h.form
  have HT := Lib.hid h
  have HB := Lib.hid hB
  have HLN := Lib.hid hlen
  obtain ⟨n, hnn⟩ : ∃ n, n = ts.length := ⟨_, rfl⟩
  rw [← hnn] at HT hn ⊢
  have HN := Lib.hid hnn
  clear h hB hlen hnn
  by_cases hb : left < n
  · have h4 : left - n < 0 := by omega
    go_enter Try.func42, Try.ntmps42
    go_wp2
    go_ret
    exact ⟨-1, rfl, Below.refl _ _, by omega, by omega, fun h => by omega⟩
  · have h4 : 0 ≤ left - n := by omega
    have h5 : decide (left - n < 0) = false := by simp; omega
    have W0 := Lib.hid (Below.refl w.heap.size w)
    go_enter Try.func42, Try.ntmps42
    go_wp2
    go_loopw [1, 5] (fun l i wr => ∃ (j : Nat) (r : Int), j ≤ n ∧ i = .int .i64 j ∧ l = .int .i64 r ∧ 0 ≤ r ∧ r ≤ left ∧ Hid (r + n + totT (ts.take j) = left) ∧ Hid (Below w.heap.size w wr)) (fun _ i _ => n - (intOf i).toNat)
    case atStart => exact ⟨0, left - n, by omega, rfl, rfl, h4, by omega, by show left - n + n + totT (ts.take 0) = left; simp [totT], W0⟩
    case round =>
      clear W0
      obtain ⟨j, r, hj, rfl, rfl, hr, hr2, HS, HW⟩ := hrel
      by_cases hlt : j < n
      · obtain ⟨t, ht⟩ : ∃ t, ts[j]? = some t := ⟨_, List.getElem?_eq_getElem (by rw [← HN.out]; exact hlt)⟩
        obtain ⟨b, off, a1, c1, a2, c2, a3, c3, rfl, -, k0, k1, k2, -⟩ := (HT.out.below HW.out HB.out).at ht
        obtain ⟨m1, hm1⟩ : ∃ m, m = t.1.length := ⟨_, rfl⟩
        obtain ⟨m2, hm2⟩ : ∃ m, m = t.2.1.length := ⟨_, rfl⟩
        obtain ⟨m3, hm3⟩ : ∃ m, m = t.2.2.length := ⟨_, rfl⟩
        rw [← hm1] at k0
        rw [← hm2] at k1
        rw [← hm3] at k2
        have hle := HLN.out t (List.mem_of_getElem? ht)
        rw [← hm1, ← hm2, ← hm3] at hle
        have HP := Lib.hid (totT_step ht)
        have HM := Lib.hid (show wtT t = m1 + m2 + m3 by rw [hm1, hm2, hm3]; rfl)
        have HC := Lib.hid (sz_ten_full a1 m1 c1 a2 m2 c2 a3 m3 c3 r wr hr (by omega) hle.1 hle.2.1 hle.2.2)
        clear ht hm1 hm2 hm3 hle
        go_wp2_with fail
        refine HC.out.mono ?_
        clear k0 k1 k2 HC
        rintro e w1 ⟨z, rfl, hz, hbb⟩
        have HW1 := Lib.hid (HW.out.trans (hbb.mono HW.out.size))
        clear hbb
        rcases hz with rfl | ⟨hz0, hz1⟩
        · go_wp2
          go_ret
          exact ⟨-1, rfl, HW1.out, by omega, by omega, fun h => by omega⟩
        · have hz2 : decide (z < 0) = false := by simp; omega
          have HZ := Lib.hid hz1
          have hzr : z ≤ r := by omega
          clear hz1
          go_wp2
          go_roundw
          case rel => exact ⟨j + 1, z, by omega, by go_num, rfl, hz0, by omega, by show _ = _; have h6 := HS.out; have h7 := HP.out; have h8 := HM.out; have h9 := HZ.out; omega, HW1⟩
          case measure => simp [intOf]; omega
      · obtain rfl : j = n := by omega
        have HF := Lib.hid (show (0 ≤ r → (ts.length : Int) + totT ts + r = left) from fun _ => by
          have h6 := HS.out
          rw [totT_all (by rw [← HN.out]; exact Nat.le_refl _)] at h6
          rw [← HN.out]
          omega)
        go_wp2
        go_ret
        exact ⟨r, rfl, HW.out, by omega, hr2, HF.out⟩
end Go.Proofs.Ytdheakjjnaifkaa
