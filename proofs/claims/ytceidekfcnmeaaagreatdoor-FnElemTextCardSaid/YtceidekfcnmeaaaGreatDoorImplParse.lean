
/- impl.ParseInt: the int whose numeral s is, or (0, false): for every string of at most 2^48 bytes. -/
import Derived.Test.YtceidekfcnmeaaaGreatDoorLawFmt
import Derived.Test.YtceidekfcnmeaaaGreatDoorShelfAtoi
import Derived.Test.YtceidekfcnmeaaaGreatDoorOpen
namespace Go.Proofs.YtceidekfcnmeaaaGreatDoor
set_option maxRecDepth 20000
open Go.RowKit

/-- What the walks read of the library's variables. -/
structure LibVars (w : World) : Prop where
  tab : Lib.TabIs Tryz.prog w "internal/strconv.uint64pow10" .u64 Lib.pow10Tab
  syn : ∃ tp p, w.var? Tryz.prog "strconv.ErrSyntax" = some #[.iface tp p]
  rng : ∃ tp p, w.var? Tryz.prog "strconv.ErrRange" = some #[.iface tp p]
theorem LibVars.size {w : World} (h : LibVars w) : 1 < w.heap.size := tab_size h.tab
theorem var_size {w : World} {name : String} {g : Nat} {cs : Array Value} (hg : Tryz.prog.globalNamed name = some g) (h : w.var? Tryz.prog name = some cs) : g < w.heap.size := by
  unfold World.var? at h
  rw [hg] at h
  by_cases hlt : g < w.heap.size
  · exact hlt
  · simp [Array.getElem?_eq_none (Nat.le_of_not_lt hlt)] at h
theorem LibVars.below {w w' : World} (h : LibVars w) (hb : Below w.heap.size w w') : LibVars w' := by
  have hz := h.size
  obtain ⟨t1, p1, h1⟩ := h.syn
  obtain ⟨t2, p2, h2⟩ := h.rng
  exact ⟨tab_below hb hz h.tab, ⟨t1, p1, var?_below hb (g := 2) (by kernel_rfl) (var_size (by kernel_rfl) h1) h1⟩, ⟨t2, p2, var?_below hb (g := 3) (by kernel_rfl) (var_size (by kernel_rfl) h2) h2⟩⟩

theorem str_eq {s : ByteArray} {l : List UInt8} (h : s.data.toList = l) : s = ⟨l.toArray⟩ := by
  apply ByteArray.ext; apply Array.ext'; simpa using h
theorem bytesWorld_bel (w : World) (e : TypeId) (s : ByteArray) : Below w.heap.size w (Lib.bytesWorld w e s) := Lib.bytesWorld_below _ _ _

set_option maxHeartbeats 400000 in
theorem impl_parse_yes (n : Int) (w : World) (hn : inI n) (hv : LibVars w) :
    Calls Tryz.prog 52 #[.string ⟨(Lib.itoa n).toArray⟩] w fun e w' => e = .returned (.tuple #[.int .i64 n, .bool true]) ∧ Below w.heap.size w w' := by
  have HV := Lib.hid hv
  have hlen := itoa_len n
  have ha := Lib.hid (atoi_itoa hn.1 hn.2)
  have hN := Lib.hid hn
  have hb1 : n.natAbs ≤ 9223372036854775808 := by have := hn.1; have := hn.2; omega
  clear hv hn
  go_enter Tryz.func52, Tryz.ntmps52
  go_wp2_with fail
  refine (Tryz.strconv_Atoi_ok ⟨(Lib.itoa n).toArray⟩ (by show (Lib.itoa n).toArray.size ≤ _; simp; omega) n ha.out w).mono ?_
  rintro e w1 ⟨rfl, hw⟩
  have hb : Below w.heap.size w w1 := by
    rcases hw with rfl | ⟨t, rfl⟩
    · exact Below.refl _ _
    · exact bytesWorld_bel _ _ _
  clear hw
  have HV1 := Lib.hid (HV.out.below hb)
  go_wp2_with fail
  refine (impl_fmt n w1 hN.out.1 hN.out.2 HV1.out.tab).mono ?_
  rintro e w2 ⟨rfl, hb2⟩
  go_wp2
  go_ret2
  exact ⟨rfl, hb.trans (hb2.mono hb.size)⟩

set_option maxHeartbeats 400000 in
theorem impl_parse_other (s : ByteArray) (v : Int) (w : World) (hs : s.size ≤ 281474976710656) (ha : Lib.atoiAll s.data.toList = .ok v) (hne : s.data.toList ≠ Lib.itoa v) (hv : LibVars w) :
    Calls Tryz.prog 52 #[.string s] w fun e w' => e = .returned (.tuple #[.int .i64 0, .bool false]) ∧ Below w.heap.size w w' := by
  have HV := Lib.hid hv
  have hN := Lib.hid (Lib.atoiAll_bounds ha)
  have hA := Lib.hid ha
  have hNE := Lib.hid hne
  clear hv ha hne
  go_enter Tryz.func52, Tryz.ntmps52
  go_wp2_with fail
  refine (Tryz.strconv_Atoi_ok s (by omega) v hA.out w).mono ?_
  rintro e w1 ⟨rfl, hw⟩
  have hb : Below w.heap.size w w1 := by
    rcases hw with rfl | ⟨t, rfl⟩
    · exact Below.refl _ _
    · exact bytesWorld_bel _ _ _
  clear hw
  have HV1 := Lib.hid (HV.out.below hb)
  go_wp2_with fail
  refine (impl_fmt v w1 hN.out.1 hN.out.2 HV1.out.tab).mono ?_
  rintro e w2 ⟨rfl, hb2⟩
  have hq : (Lib.itoa v == s.toList) = false := by
    rw [ByteArray.toList_eq]; simpa using fun h => hNE.out h.symm
  go_wp2
  go_ret2
  exact ⟨rfl, hb.trans (hb2.mono hb.size)⟩

set_option maxHeartbeats 400000 in
theorem impl_parse_err (s : ByteArray) (w : World) (hs : s.size ≤ 281474976710656) (ha : ∀ v, Lib.atoiAll s.data.toList ≠ .ok v) (hv : LibVars w) :
    Calls Tryz.prog 52 #[.string s] w fun e w' => e = .returned (.tuple #[.int .i64 0, .bool false]) ∧ Below w.heap.size w w' := by
  obtain ⟨t1, p1, h1⟩ := hv.syn
  obtain ⟨t2, p2, h2⟩ := hv.rng
  have H1 := Lib.hid h1
  have H2 := Lib.hid h2
  clear h1 h2 hv
  by_cases h : Lib.atoiAll s.data.toList = .range
  · have H := Lib.hid h
    clear h ha
    go_enter Tryz.func52, Tryz.ntmps52
    go_wp2_with fail
    refine (Tryz.strconv_Atoi_range_var s hs H.out t2 p2 w H2.out).mono ?_
    rintro e w1 ⟨N, rfl, -, -, hb⟩
    go_wp2
    go_ret2
    exact ⟨rfl, hb⟩
  · have H := Lib.hid h
    have HA := Lib.hid ha
    clear h ha
    go_enter Tryz.func52, Tryz.ntmps52
    go_wp2_with fail
    refine (Tryz.strconv_Atoi_else_var s hs HA.out H.out t1 p1 w H1.out).mono ?_
    rintro e w1 ⟨N, rfl, -, -, hb⟩
    go_wp2
    go_ret2
    exact ⟨rfl, hb⟩

/-- impl.ParseInt, at every string of at most 2^48 bytes. -/
theorem impl_parse (s : ByteArray) (w : World) (hs : s.size ≤ 281474976710656) (hv : LibVars w) :
    Calls Tryz.prog 52 #[.string s] w fun e w' => ParseEnd s.data.toList e ∧ Below w.heap.size w w' := by
  by_cases h : ∃ n, inI n ∧ s.data.toList = Lib.itoa n
  · obtain ⟨n, hn, hl⟩ := h
    obtain rfl := str_eq hl
    exact (impl_parse_yes n w hn hv).mono fun e w' ⟨he, hb⟩ => ⟨.inl ⟨n, hn, by simp, he⟩, hb⟩
  · have hno : ∀ n, inI n → s.data.toList ≠ Lib.itoa n := fun n hn hl => h ⟨n, hn, hl⟩
    by_cases ha : ∃ v, Lib.atoiAll s.data.toList = .ok v
    · obtain ⟨v, ha⟩ := ha
      exact (impl_parse_other s v w hs ha (hno v (Lib.atoiAll_bounds ha)) hv).mono fun e w' ⟨he, hb⟩ => ⟨.inr ⟨hno, he⟩, hb⟩
    · exact (impl_parse_err s w hs (fun v hv' => ha ⟨v, hv'⟩) hv).mono fun e w' ⟨he, hb⟩ => ⟨.inr ⟨hno, he⟩, hb⟩
end Go.Proofs.YtceidekfcnmeaaaGreatDoor
