
/- spec.l11Axis: the label and the dimension of a word. -/
import Derived.Test.YtceidekfcnmeaaaDoorParTen
import Derived.Test.YtceidekfcnmeaaaDoorSpecParse
namespace Go.Proofs.YtceidekfcnmeaaaDoor
set_option maxRecDepth 20000
open Go Go.RowKit

theorem parse_end {l : List UInt8} {e : Ending} (h : ParseEnd l e) : ∃ n b, e = .returned (.tuple #[.int .i64 n, .bool b]) ∧ inI n ∧ ∀ m, inI m → l = Lib.itoa m → b = true ∧ n = m := by
  rcases h with ⟨n, h1, h2, rfl⟩ | ⟨h1, rfl⟩
  · exact ⟨n, true, rfl, h1, fun m hm e => ⟨rfl, itoa_inj h1 hm (h2.symm.trans e)⟩⟩
  · exact ⟨0, false, rfl, by unfold Go.Proofs.YtceidekfcnmeaaaDoor.inI; omega, fun m hm e => absurd e (h1 m hm)⟩
theorem byte_at (s : ByteArray) (k : Nat) (h : k < s.size) : s.data.toList[k]? = some s[k] := by
  have h1 := take_snoc s k h
  have h2 : (s.data.toList.take (k + 1))[k]? = s.data.toList[k]? := List.getElem?_take_of_lt (by omega)
  have hl : s.data.toList.length = s.size := by simp
  rw [← h2, h1, List.getElem?_append_right (by rw [List.length_take]; omega), List.length_take, hl, Nat.min_eq_left (by omega), Nat.sub_self]
  rfl
theorem ax_len {y : ByteArray} {l d : Int} (hy : y.data.toList = axW l d) : (Lib.itoa l).length < y.size ∧ y.data.toList[(Lib.itoa l).length]? = some 58 := by
  rw [axW_eq] at hy
  have hl : y.data.toList.length = y.size := by simp
  refine ⟨?_, ?_⟩
  · rw [← hl, hy, List.length_append, List.length_cons]; omega
  · rw [hy, List.getElem?_append_right (Nat.le_refl _), Nat.sub_self]; rfl
theorem ax_cut {y : ByteArray} {l d : Int} {j : Nat} (hy : y.data.toList = axW l d) (hj : j < y.size) (hc : y[j].toNat = 58) (hno : ∀ (i : Nat) (x : UInt8), i < j → y.data.toList[i]? = some x → x.toNat ≠ 58) : (y.extract 0 j).data.toList = Lib.itoa l ∧ (y.extract (j + 1) y.size).data.toList = Lib.itoa d := by
  obtain ⟨h1, h2⟩ := ax_len hy
  have hjm : j = (Lib.itoa l).length := by
    rcases Nat.lt_trichotomy j (Lib.itoa l).length with h | h | h
    · have h3 := byte_at y j hj
      rw [hy, axW_eq, List.getElem?_append_left h] at h3
      have := itoa_byte l _ (List.mem_of_getElem? h3)
      omega
    · exact h
    · exact absurd rfl (hno _ _ h h2)
  have hl : y.data.toList.length = y.size := by simp
  rw [ext_list, ext_list, List.drop_zero, List.take_of_length_le (Nat.le_of_eq hl), hy, axW_eq, hjm]
  refine ⟨List.take_left' rfl, ?_⟩
  rw [List.drop_append, List.drop_eq_nil_of_le (by omega), show (Lib.itoa l).length + 1 - (Lib.itoa l).length = 1 from by omega]
  rfl
/-- What reading a word as an axis gives. -/
def AxPost (y : ByteArray) (w : World) (e : Ending) (w' : World) : Prop :=
  ∃ l d b, e = .returned (.tuple #[.int .i64 l, .int .i64 d, .bool b]) ∧ inI l ∧ inI d ∧ (∀ l' d', inI l' → inI d' → y.data.toList = axW l' d' → b = true ∧ l = l' ∧ d = d') ∧ Below w.heap.size w w'
theorem ax_mk {y : ByteArray} {w : World} {e : Ending} {w' : World} (l d : Int) (b : Bool) (he : e = .returned (.tuple #[.int .i64 l, .int .i64 d, .bool b])) (h1 : inI l) (h2 : inI d) (h3 : ∀ l' d', inI l' → inI d' → y.data.toList = axW l' d' → b = true ∧ l = l' ∧ d = d') (hb : Below w.heap.size w w') : AxPost y w e w' := ⟨l, d, b, he, h1, h2, h3, hb⟩
set_option maxHeartbeats 1600000 in
theorem axis_spec (y : ByteArray) (w : World) (hs : y.size ≤ 1048576) :
    Calls Tryd.prog 36 #[.string y] w (AxPost y w) := by
  go_enter Tryd.func36, Tryd.ntmps36
  go_wp2
  go_loop [5] (fun i => ∃ j : Nat, j ≤ y.size ∧ i = .int .i64 j ∧ Hid (∀ (i : Nat) (x : UInt8), i < j → y.data.toList[i]? = some x → x.toNat ≠ 58)) (fun i => y.size - (intOf i).toNat)
  case atStart => exact ⟨0, by omega, rfl, fun i x h => by omega⟩
  case round =>
    obtain ⟨j, hj, rfl, HF⟩ := hrel
    by_cases hlt : j < y.size
    · by_cases hc : y[j].toNat = 58
      · have hq : ((y[j].toNat : Int) == 58) = true := by simp [hc]
        have hj1 : j + 1 ≤ y.size := by omega
        have h1 := spec_parse (y.extract 0 j) w (by rw [ByteArray.size_extract]; omega)
        have h2 := fun W => spec_parse (y.extract (j + 1) y.size) W (by rw [ByteArray.size_extract]; omega)
        have HP1 := Lib.hid h1
        have HP2 := Lib.hid h2
        have HCUT := Lib.hid (fun (l d : Int) (hy : y.data.toList = axW l d) => ax_cut hy hlt hc HF.out)
        clear h1 h2 hc
        go_wp2_with fail
        refine HP1.out.mono ?_
        rintro e w1 ⟨he, hb1⟩
        obtain ⟨l, b1, rfl, il, fl⟩ := parse_end he
        have IL := Lib.hid il
        have FL := Lib.hid fl
        have B1 := Lib.hid hb1
        clear he hb1 il fl HP1
        go_wp2_with fail
        refine (HP2.out w1).mono ?_
        rintro e w2 ⟨he, hb2⟩
        obtain ⟨d, b2, rfl, id, fd⟩ := parse_end he
        have ID := Lib.hid id
        have FD := Lib.hid fd
        have B2 := Lib.hid (B1.out.trans (hb2.mono B1.out.size))
        clear he hb2 id fd HP2
        cases b1 with
        | true =>
          go_wp2
          refine bodyPost_ret (v := .tuple #[.int .i64 (l), .int .i64 (d), .bool b2]) (by simp [results, Tryd.results36, go_sem]) rfl ?_
          refine ax_mk l d b2 rfl IL.out ID.out (fun l' d' hl hd hy => ?_) B2.out
          obtain ⟨e1, e2⟩ := HCUT.out l' d' hy
          exact ⟨(FD.out d' hd e2).1, (FL.out l' hl e1).2, (FD.out d' hd e2).2⟩
        | false =>
          go_wp2
          refine bodyPost_ret (v := .tuple #[.int .i64 (l), .int .i64 (d), .bool false]) (by simp [results, Tryd.results36, go_sem]) rfl ?_
          refine ax_mk l d false rfl IL.out ID.out (fun l' d' hl hd hy => ?_) B2.out
          obtain ⟨e1, e2⟩ := HCUT.out l' d' hy
          have := (FL.out l' hl e1).1
          cases this
      · have hq : ((y[j].toNat : Int) == 58) = false := by simp; omega
        have HX : Hid (∀ (i : Nat) (x : UInt8), i < j + 1 → y.data.toList[i]? = some x → x.toNat ≠ 58) := Lib.hid (fun i x hi hx => by
          by_cases e : i = j
          · subst e
            rw [byte_at y i hlt] at hx
            cases hx
            exact hc
          · exact HF.out i x (by omega) hx)
        clear hc
        go_wp2
        go_round
        case rel => exact ⟨j + 1, by omega, by go_num, HX⟩
        case measure => simp [intOf]; omega
    · obtain rfl : j = y.size := by omega
      go_wp2
      refine bodyPost_ret (v := .tuple #[.int .i64 (0), .int .i64 (0), .bool false]) (by simp [results, Tryd.results36, go_sem]) rfl ?_
      refine ax_mk 0 0 false rfl (by unfold Go.Proofs.YtceidekfcnmeaaaDoor.inI; omega) (by unfold Go.Proofs.YtceidekfcnmeaaaDoor.inI; omega) (fun l' d' hl hd hy => ?_) (Below.refl _ _)
      obtain ⟨h1, h2⟩ := ax_len hy
      exact absurd rfl (HF.out _ _ h1 h2)
end Go.Proofs.YtceidekfcnmeaaaDoor
