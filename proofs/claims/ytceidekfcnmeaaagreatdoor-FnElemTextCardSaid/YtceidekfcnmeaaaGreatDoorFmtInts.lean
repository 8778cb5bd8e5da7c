
/- spec.FormatInts and impl.FormatInts: the numerals with single spaces between them. -/
import Derived.Test.YtceidekfcnmeaaaGreatDoorLawFmt
import Derived.Test.YtceidekfcnmeaaaGreatDoorOpen
import Derived.Test.YtceidekfcnmeaaaGreatDoorJoin
namespace Go.Proofs.YtceidekfcnmeaaaGreatDoor
set_option maxRecDepth 20000
open Go.RowKit

def texts (zs : List Int) : List ByteArray := zs.map fun z => ⟨(Lib.itoa z).toArray⟩
theorem texts_len (zs : List Int) : (texts zs).length = zs.length := by simp [texts]
theorem itoa_len20 {z : Int} (h : inI z) : (Lib.itoa z).length ≤ 20 := by
  have h1 := dec_len19 (nat_of_inI h)
  unfold Lib.itoa
  split
  · simp only [List.length_cons]; omega
  · next hn =>
    have e : z.toNat = z.natAbs := by omega
    rw [e]; omega
theorem join_len (c : UInt8) (zs : List Int) (h : allI zs) : (joinL [c] (texts zs)).length ≤ 21 * zs.length := by
  cases zs with
  | nil => simp [texts, joinL]
  | cons z r =>
    have hz := itoa_len20 (h z (by simp))
    have hr : ∀ r : List Int, allI r → ((r.map fun z => (⟨(Lib.itoa z).toArray⟩ : ByteArray)).map (fun y => [c] ++ y.data.toList)).flatten.length ≤ 21 * r.length := by
      intro r
      induction r with
      | nil => intro _; simp
      | cons y r ih =>
        intro hy
        have h1 := itoa_len20 (hy y (by simp))
        have h2 := ih (fun z hz => hy z (by simp [hz]))
        simp only [List.map_cons, List.flatten_cons, List.length_append, List.length_cons, List.length_nil] at h2 ⊢
        omega
    have h3 := hr r (fun y hy => h y (by simp [hy]))
    simp only [texts, List.map_cons, joinL, List.length_append, List.length_cons] at h3 ⊢
    omega
theorem own_below {w w' : World} {B : Nat} {E : TypeId} {v : Value} {n : Nat} {xs : List Value} (h : w.ownsRow B E 1 v n xs) (hb : Below w.heap.size w w') : w'.ownsRow B E 1 v n xs :=
  h.kept (row := none) ⟨hb.os, hb.tape, hb.output, hb.size, fun k hk _ => hb.block k hk⟩ (by
    cases hv : v.ownBlock with
    | none => exact .inl rfl
    | some g => exact .inr (by simp))
theorem strs_snoc (zs : List Int) (k : Nat) (z : Int) (h : zs[k]? = some z) : strs (texts (zs.take (k + 1))) = strs (texts (zs.take k)) ++ [.string ⟨(Lib.itoa z).toArray⟩] := by
  rw [List.take_add_one, h]; simp [strs, texts]
theorem inI_at {zs : List Int} (h : allI zs) {k : Nat} {z : Int} (hz : zs[k]? = some z) : inI z := h z (List.mem_of_getElem? hz)

set_option maxHeartbeats 400000 in
theorem joins_full (c : UInt8) (a : Option Addr) (cap n : Nat) (xs : List Int) (w : World) (hx : xs.length = n) (hn : n ≤ 1048576) (hI : allI xs) (htab : Lib.TabIs Tryz.prog w "internal/strconv.uint64pow10" .u64 Lib.pow10Tab)
    (ha : 0 < n → ∃ b off, a = some ⟨b, off, none⟩ ∧ b < w.heap.size ∧ ∀ i (h : i < xs.length), w.cell? ⟨b, off + i, none⟩ = some (.int .i64 xs[i])) :
    Calls Tryz.prog 34 #[.slice a n cap, .string ⟨#[c]⟩] w fun e w' => e = .returned (.string ⟨(joinL [c] (texts xs)).toArray⟩) ∧ Below w.heap.size w w' := by
  have hg := tab_size htab
  have HT := Lib.hid htab
  have HA := Lib.hid ha
  have HN := Lib.hid hx
  have HI := Lib.hid hI
  obtain ⟨i0, hi, hz0, hz1, hz2⟩ := info_parts infoStr
  clear ha hx hI htab
  go_enter Tryz.func34, Tryz.ntmps34
  go_wp2_with (at_make; go_must (refine wpList_make_full _ rfl _ _ 60 rfl w.heap.size 9 i0 (.string ⟨#[]⟩) 1 Tryz.underlying60 hi hz0 hz1 .i64 .i64 _ _ n rfl rfl rfl rfl (by rw [hz2]; omega) (by unfold maxLen; omega) (by simp) ?_); intro w1 hown hgrow)
  have OW := Lib.hid hown
  have hb1 := (Below.refl w.heap.size w).grown hgrow (Nat.le_refl _) (fun j hj => by cases hj)
  have HB := Lib.hid hb1
  clear hown hgrow hb1 hi hz0 hz1 hz2
  go_loopw [13] (fun i wr => ∃ (k : Nat) (cs : List Value), k ≤ n ∧ i = .int .i64 k ∧ Hid (wr.ownsRow w.heap.size 9 1 (.slice (some ⟨w.heap.size, 0, none⟩) n n) n cs) ∧ Hid (∀ j, j < k → cs[j]? = (strs (texts xs))[j]?) ∧ Hid (Below w.heap.size w wr)) (fun i _ => n - (intOf i).toNat)
  case atStart => exact ⟨0, _, by omega, rfl, OW, fun j hj => by omega, HB⟩
  case round =>
    obtain ⟨k, cs, hk, rfl, HO, HC, HBW⟩ := hrel
    by_cases hlt : k < n
    · obtain ⟨b, off, rfl, hbw, hcell⟩ := HA.out (by omega)
      obtain ⟨z, c1, Z1⟩ := ints_cell HN.out hcell hlt
      have c2 : wr.cell? ⟨b, off + k, none⟩ = some (.int .i64 z) := (HBW.out.cell (p := ⟨b, off + k, none⟩) hbw).trans c1
      have hz := inI_at HI.out Z1.out
      have HZ := Lib.hid hz
      have HTW := Lib.hid (tab_below HBW.out hg HT.out)
      clear hcell c1 hz hbw
      go_wp2_with fail
      refine (impl_fmt z wr HZ.out.1 HZ.out.2 HTW.out).mono ?_
      rintro e w2 ⟨rfl, hb2⟩
      have HO2 := Lib.hid (own_below HO.out hb2)
      have HB2 := Lib.hid (HBW.out.trans (hb2.mono HBW.out.size))
      have clen : cs.length = n := by have := HO.out.1; omega
      have c3 : w2.cell? ⟨w.heap.size, k, none⟩ = some (cs[k]'(by omega)) := by
        rw [HO2.out.cellAt k (by omega)]; exact List.getElem?_eq_getElem _
      have f3 := HO2.out.frozenAt k
      have ST := Lib.hid (HO2.out.stored k (.string ⟨(Lib.itoa z).toArray⟩))
      clear hb2
      go_wp2
      go_roundw
      case rel =>
        refine ⟨k + 1, cs.set k (.string ⟨(Lib.itoa z).toArray⟩), by omega, by go_num, ST.out.1, ?_, HB2.out.setCell (Nat.le_refl _) _⟩
        intro j hj
        by_cases e : j = k
        · subst e
          rw [List.getElem?_set_self (by omega)]
          have := Z1.out
          simp [strs, texts, this]
        · rw [List.getElem?_set_ne (by omega)]
          exact HC.out j (by omega)
      case measure => simp [intOf]; omega
    · obtain rfl : k = n := by omega
      have e : cs = strs (texts xs) := by
        apply List.ext_getElem?
        intro j
        by_cases hj : j < k
        · exact HC.out j hj
        · have clen : cs.length = k := by have := HO.out.1; omega
          rw [List.getElem?_eq_none (by omega), List.getElem?_eq_none (by rw [strs_len, texts_len, HN.out]; omega)]
      have HR := Lib.hid (show Rd wr.heap.size wr _ (strs (texts xs)) from e ▸ Rd.of_own HO.out)
      go_wp2_with fail
      refine (impl_join ⟨#[c]⟩ HR.out (Nat.le_refl _) (by rw [texts_len, HN.out]; omega) (by have := join_len c xs HI.out; rw [HN.out] at this; show (joinL [c] (texts xs)).length ≤ _; omega)).mono ?_
      rintro e w2 ⟨rfl, hb2⟩
      go_wp2
      go_ret
      exact ⟨rfl, HBW.out.trans (hb2.mono HBW.out.size)⟩

theorem ints_full_of {B : Nat} {v : Value} {xs : List Int} {w : World} (h : Rd B w v (ints xs)) (hB : B ≤ w.heap.size) :
    ∃ a cap, v = .slice a xs.length cap ∧ (0 < xs.length → ∃ b off, a = some ⟨b, off, none⟩ ∧ b < w.heap.size ∧ ∀ i (h : i < xs.length), w.cell? ⟨b, off + i, none⟩ = some (.int .i64 xs[i])) := by
  rcases h.ints_cases with ⟨rfl, a, ca, rfl⟩ | ⟨b, off, ca, rfl, hlt, -, hc⟩
  · exact ⟨a, ca, rfl, fun h => by simp at h⟩
  · exact ⟨_, ca, rfl, fun _ => ⟨b, off, rfl, by omega, hc⟩⟩
theorem joins_any (c : UInt8) {B : Nat} {v : Value} {xs : List Int} {w : World} (h : Rd B w v (ints xs)) (hB : B ≤ w.heap.size) (hn : xs.length ≤ 1048576) (hI : allI xs) (htab : Lib.TabIs Tryz.prog w "internal/strconv.uint64pow10" .u64 Lib.pow10Tab) :
    Calls Tryz.prog 34 #[v, .string ⟨#[c]⟩] w fun e w' => e = .returned (.string ⟨(joinL [c] (texts xs)).toArray⟩) ∧ Below w.heap.size w w' := by
  obtain ⟨a, cap, rfl, ha⟩ := ints_full_of h hB
  exact joins_full c a cap _ xs w rfl hn hI htab ha
end Go.Proofs.YtceidekfcnmeaaaGreatDoor
