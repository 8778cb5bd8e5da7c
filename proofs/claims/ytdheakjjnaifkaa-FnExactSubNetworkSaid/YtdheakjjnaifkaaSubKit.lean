
/- Two rows of tensors under way: a network's, and what is left. -/
import Derived.Test.YtdheakjjnaifkaaGraph
import Derived.Test.YtdheakjjnaifkaaFindInt
import Derived.Test.YtdheakjjnaifkaaNetKit
import Derived.Test.YtdheakjjnaifkaaTensRow
namespace Go.Proofs.Ytdheakjjnaifkaa
set_option maxRecDepth 20000
open Go.RowKit

def inQ (ts : List TenE) (s : Nat) (x : Int) : Bool := decide (useS ts x &&& s ≠ 0)
def outQ (ts : List TenE) (s : Nat) (x : Int) : Bool := decide (useS ts x &&& (18446744073709551615 - s) ≠ 0)
def midQ (ts : List TenE) (O : List Int) (s : Nat) (x : Int) : Bool := inQ ts s x && outQ ts s x && !decide (x ∈ O)
def op1 (ts : List TenE) (O : List Int) (s j : Nat) : List Int := (O.take j).filter (inQ ts s)
def op2 (ts : List TenE) (O : List Int) (s j : Nat) : List Int := op1 ts O s O.length ++ ((labT ts).take j).filter (midQ ts O s)
/-- The open labels of the tensors whose bits are in s. -/
def openL (ts : List TenE) (O : List Int) (s : Nat) : List Int := O.filter (inQ ts s) ++ (labT ts).filter (midQ ts O s)
theorem op1_step {ts : List TenE} {O : List Int} {s j : Nat} {x : Int} (h : O[j]? = some x) : op1 ts O s (j + 1) = op1 ts O s j ++ (if inQ ts s x = true then [x] else []) := by
  unfold op1
  rw [List.take_add_one, h, List.filter_append]
  congr 1
  cases hb : inQ ts s x <;> simp [hb]
theorem op2_step {ts : List TenE} {O : List Int} {s j : Nat} {x : Int} (h : (labT ts)[j]? = some x) : op2 ts O s (j + 1) = op2 ts O s j ++ (if midQ ts O s x = true then [x] else []) := by
  unfold op2
  rw [List.take_add_one, h, List.filter_append, List.append_assoc]
  congr 2
  cases hb : midQ ts O s x <;> simp [hb]
theorem op2_zero (ts : List TenE) (O : List Int) (s : Nat) : op2 ts O s 0 = op1 ts O s O.length := by simp [op2]
theorem op2_full {ts : List TenE} {O : List Int} {s n : Nat} (h : (labT ts).length = n) : op2 ts O s n = openL ts O s := by
  unfold op2 op1 openL
  rw [List.take_of_length_le (Nat.le_refl _), List.take_of_length_le (by omega)]
theorem op1_len (ts : List TenE) (O : List Int) (s j : Nat) : (op1 ts O s j).length ≤ j := by
  unfold op1
  exact Nat.le_trans (List.length_filter_le _ _) (by rw [List.length_take]; omega)
theorem op2_len (ts : List TenE) (O : List Int) (s j : Nat) : (op2 ts O s j).length ≤ O.length + j := by
  unfold op2
  rw [List.length_append]
  have h1 := op1_len ts O s O.length
  have h2 : (((labT ts).take j).filter (midQ ts O s)).length ≤ j := Nat.le_trans (List.length_filter_le _ _) (by rw [List.length_take]; omega)
  omega

set_option maxHeartbeats 6400000 in
theorem open_in_impl {g n cap m co s : Nat} {pa po : Option Addr} {kv : Value} {ts : List TenE} {O : List Int} {w : World} (h : RdTs w.heap.size w (.slice pa n cap) ts) (ho : Rd w.heap.size w (.slice po m co) (ints O)) (hk : Rd w.heap.size w kv (ints (labT ts))) (hgl : g < w.heap.size) (h3 : w.cell? ⟨g, 3, none⟩ = some (.slice pa n cap)) (h4 : w.cell? ⟨g, 4, none⟩ = some (.slice po m co)) (h5 : w.cell? ⟨g, 5, none⟩ = some kv) (hn : ts.length = n) (hn2 : n ≤ 12) (hax : AxT ts) (hm : O.length = m) (hmm : m ≤ 1048576) (hO : ∀ x ∈ O, ∃ y : Nat, x = (y : Int) ∧ y < 100) (hs : s < 4096) :
    Calls Try.prog 73 #[.pointer (some ⟨g, 0, none⟩), .int .u64 s] w (NewRow w (openL ts O s)) := by
  obtain ⟨i0, hi0, hz0, hz1, hz2⟩ := info_parts infoInt
  have J0 := Lib.hid hi0
  have J1 := Lib.hid hz0
  have J2 := Lib.hid hz1
  have J3 := Lib.hid hz2
  obtain ⟨ak, ck, rfl, -⟩ := ints_form hk
  obtain ⟨K, hK⟩ : ∃ K, K = labT ts := ⟨_, rfl⟩
  obtain ⟨nk, hnk⟩ : ∃ z, z = (labT ts).length := ⟨_, rfl⟩
  rw [← hnk] at hk h5
  have hnk1 : nk ≤ 100 := by rw [hnk]; exact labT_len ts
  have hKK : ∀ x ∈ K, ∃ y : Nat, x = (y : Int) ∧ y < 100 := fun x hx => by
    rw [hK] at hx
    unfold labT at hx
    obtain ⟨y, hy, rfl⟩ := List.mem_map.1 (List.mem_filter.1 hx).1
    exact ⟨y, rfl, List.mem_range.1 hy⟩
  rw [← hK] at hk
  have HK := Lib.hid hK
  have HNK := Lib.hid hnk
  have HG := Lib.hid (graph_impl h h3 hn hn2 hax)
  have HO := Lib.hid ho
  have HKR := Lib.hid hk
  have HG4 := Lib.hid h4
  have HG5 := Lib.hid h5
  have HN := Lib.hid (And.intro hn hn2)
  have HM := Lib.hid hm
  have HOO := Lib.hid hO
  have HKO := Lib.hid hKK
  clear h ho hk h3 h4 h5 hn hn2 hax hm hO hKK hi0 hz0 hz1 hz2 hK hnk
  go_enter Try.func73, Try.ntmps73
  go_wp2_with fail
  refine HG.out.mono ?_
  rintro e w1 ⟨r, rfl, hgr⟩
  have GR := Lib.hid hgr
  have HRl := Lib.hid hgr.lt
  have HO1 := Lib.hid (HO.out.below hgr.bel (Nat.le_refl _) |>.mono hgr.bel.size)
  have HK1 := Lib.hid (HKR.out.below hgr.bel (Nat.le_refl _) |>.mono hgr.bel.size)
  have G4 := Lib.hid ((hgr.bel.cell (p := ⟨g, 4, none⟩) hgl).trans HG4.out)
  have G5 := Lib.hid ((hgr.bel.cell (p := ⟨g, 5, none⟩) hgl).trans HG5.out)
  have hg1 : g < w1.heap.size := Nat.lt_of_lt_of_le hgl hgr.bel.size
  have HUS : ∀ x, Hid (useS ts x < 4096) := fun x => Lib.hid (useS_lt x (by rw [HN.out.1]; exact HN.out.2))
  have R0 : Hid (Rs w1 w1 [] [(.slice none 0 0, op1 ts O s 0)]) := Lib.hid ((Rs.start w1).nil)
  have c4 := G4.out
  clear HG hgr HG4 HG5 HO HKR
  go_wp2
  clear c4
  go_loopw [6, 21] (fun u i wr => ∃ (j z : Nat) (ga : Option Addr) (ca : Nat), j ≤ m ∧ z ≤ j ∧ u = .slice ga z ca ∧ i = .int .i64 j ∧ Hid ((op1 ts O s j).length = z) ∧ Hid (Rs w1 wr [] [(.slice ga z ca, op1 ts O s j)])) (fun _ i _ => m - (intOf i).toNat)
  case atStart => exact ⟨0, 0, none, 0, by omega, by omega, rfl, rfl, Lib.hid rfl, R0⟩
  case round =>
    clear R0
    obtain ⟨j, z, ga, ca, hj, hzj, rfl, rfl, HZ, HR⟩ := hrel
    by_cases hlt : j < m
    · obtain ⟨x, X1⟩ : ∃ x, Hid (O[j]? = some x) := ⟨_, List.getElem?_eq_getElem (by rw [HM.out]; exact hlt)⟩
      obtain ⟨y, rfl, hy⟩ := HOO.out x (List.mem_of_getElem? X1.out)
      obtain ⟨b1, o1, rfl, -, e1⟩ := (HO1.out.below HR.out.bel (Nat.le_refl _)).cellAt X1.out
      have cx := (HR.out.bel.cell (p := ⟨r, y, none⟩) HRl.out).trans (GR.out.c y hy)
      have ST := Lib.hid (op1_step (ts := ts) (s := s) X1.out)
      have hu4 := (HUS (y : Int)).out
      obtain ⟨v, hv⟩ : ∃ v, v = useS ts (y : Int) := ⟨_, rfl⟩
      rw [← hv] at cx hu4
      have hyI : (y : Int) < 100 := by omega
      have hand := u64_and_nat v s (by omega) (by omega)
      have HV := Lib.hid hv
      by_cases h0 : v &&& s = 0
      · have hd : (((v &&& s : Nat) : Int) != 0) = false := by rw [h0]; rfl
        have HE : Hid (op1 ts O s j = op1 ts O s (j + 1)) := Lib.hid (by
          have hb : inQ ts s (y : Int) = false := by unfold inQ; rw [← HV.out, h0]; rfl
          rw [ST.out, hb]; simp)
        rw [← hand] at hd
        rw [HE.out] at HZ HR
        clear hv h0 hand hu4
        go_wp2
        go_roundw
        case rel => exact ⟨j + 1, z, ga, ca, by omega, by omega, rfl, by go_num, HZ, HR⟩
        case measure => simp [intOf]; omega
      · have hd : (((v &&& s : Nat) : Int) != 0) = true := by simpa using (by omega : ((v &&& s : Nat) : Int) ≠ 0)
        have HE : Hid (op1 ts O s j ++ [(y : Int)] = op1 ts O s (j + 1)) := Lib.hid (by
          have hb : inQ ts s (y : Int) = true := by unfold inQ; rw [← HV.out]; exact decide_eq_true h0
          rw [ST.out, hb]; simp)
        rw [← hand] at hd
        clear hv h0 hand hu4
        have A5 := Lib.hid (HR.out.alloc (.cells #[.int .i64 (y : Int)] 3))
        have O5 := Lib.hid (A5.out.row (v := .slice ga z ca) (List.mem_cons_self) HZ.out)
        go_wp2_with (at_builtin; go_must (refine wpList_append_lies _ rfl _ _ 25 rfl w1.heap.size 3 i0 (.int .i64 0) 1 8 Try.underlying25 J0.out J1.out J2.out J3.out rfl (by decide) _ z (ints (op1 ts O s j)) rfl O5.out ⟨wr.heap.size, 0, none⟩ 1 1 [.int .i64 (y : Int)] rfl rfl (cell_one_new _ _ _) ?c2 (by decide) ?c3 ?c4 ?c5 _ rfl ?_))
        case c2 => first | rfl | (intro u hu; simp at hu; subst hu; rfl)
        case c3 => unfold maxLen; omega
        case c4 => omega
        case c5 => exact A5.out.bel.size
        intro g1 cap1 w5 hown hgrow hl1 _
        have hR5 := A5.out.app1 HZ.out hown hgrow (by rw [World.size_alloc]; exact hl1)
        rw [HE.out] at hR5
        have R6 := Lib.hid hR5
        have HZ6 : Hid ((op1 ts O s (j + 1)).length = z + 1) := Lib.hid (by rw [← HE.out, List.length_append, HZ.out]; rfl)
        clear hown hgrow hl1 hR5 A5 O5 HR cx e1
        go_wp2
        go_roundw
        case rel => exact ⟨j + 1, z + 1, some ⟨g1, 0, none⟩, cap1, by omega, by omega, rfl, by go_num, HZ6, R6⟩
        case measure => simp [intOf]; omega
    · obtain rfl : j = m := by omega
      clear hlt
      have c5 := (HR.out.bel.cell (p := ⟨g, 5, none⟩) hg1).trans G5.out
      have HZ2 : Hid ((op2 ts O s 0).length = z) := Lib.hid (by rw [op2_zero, HM.out]; exact HZ.out)
      have HR2 : Hid (Rs w1 wr [] [(.slice ga z ca, op2 ts O s 0)]) := Lib.hid (by rw [op2_zero, HM.out]; exact HR.out)
      clear HZ HR
      go_wp2
      clear c5
      go_loopw [6, 44] (fun u i wq => ∃ (l y : Nat) (gb : Option Addr) (cb : Nat), l ≤ nk ∧ y ≤ j + l ∧ u = .slice gb y cb ∧ i = .int .i64 l ∧ Hid ((op2 ts O s l).length = y) ∧ Hid (Rs w1 wq [] [(.slice gb y cb, op2 ts O s l)])) (fun _ i _ => nk - (intOf i).toNat)
      case atStart => exact ⟨0, z, ga, ca, by omega, by omega, rfl, rfl, HZ2, HR2⟩
      case round =>
        clear HR2 HZ2
        obtain ⟨l, y, gb, cb, hl, hyl, rfl, rfl, HZ, HR⟩ := hrel
        by_cases hlt : l < nk
        · obtain ⟨x, X1⟩ : ∃ x, Hid (K[l]? = some x) := ⟨_, List.getElem?_eq_getElem (by rw [HK.out, ← HNK.out]; exact hlt)⟩
          obtain ⟨q, rfl, hq⟩ := HKO.out x (List.mem_of_getElem? X1.out)
          obtain ⟨b1, o1, rfl, -, e1⟩ := (HK1.out.below HR.out.bel (Nat.le_refl _)).cellAt X1.out
          have cx := (HR.out.bel.cell (p := ⟨r, q, none⟩) HRl.out).trans (GR.out.c q hq)
          have ST := Lib.hid (op2_step (ts := ts) (O := O) (s := s) (j := l) (x := (q : Int)) (by rw [← HK.out]; exact X1.out))
          have hu4 := (HUS (q : Int)).out
          obtain ⟨v, hv⟩ : ∃ v, v = useS ts (q : Int) := ⟨_, rfl⟩
          rw [← hv] at cx hu4
          have hqI : (q : Int) < 100 := by omega
          have hand := u64_and_nat v s (by omega) (by omega)
          have hnot := u64_andNot_nat v s (by omega) (by omega)
          have HV := Lib.hid hv
          by_cases h0 : v &&& s = 0
          · have hd : (((v &&& s : Nat) : Int) != 0) = false := by rw [h0]; rfl
            have HE : Hid (op2 ts O s l = op2 ts O s (l + 1)) := Lib.hid (by
              have hb : midQ ts O s (q : Int) = false := by unfold midQ inQ; rw [← HV.out, h0]; rfl
              rw [ST.out, hb]; simp)
            rw [← hand] at hd
            rw [HE.out] at HZ HR
            clear hv h0 hand hu4 hnot
            go_wp2
            go_quiet (fail)
            have HRD := Lib.hid (HR.out.step (below_drewN (Below.refl _ _) nq))
            clear HR
            go_wp2
            go_roundw
            case rel => exact ⟨l + 1, y, gb, cb, by omega, by omega, rfl, by go_num, HZ, HRD⟩
            case measure => simp [intOf]; omega
          · have hd : (((v &&& s : Nat) : Int) != 0) = true := by simpa using (by omega : ((v &&& s : Nat) : Int) ≠ 0)
            rw [← hand] at hd
            by_cases h1 : v &&& (18446744073709551615 - s) = 0
            · have hd2 : (((v &&& (18446744073709551615 - s) : Nat) : Int) != 0) = false := by rw [h1]; rfl
              have HE : Hid (op2 ts O s l = op2 ts O s (l + 1)) := Lib.hid (by
                have hb : midQ ts O s (q : Int) = false := by unfold midQ outQ; rw [← HV.out, h1]; simp
                rw [ST.out, hb]; simp)
              rw [← hnot] at hd2
              rw [HE.out] at HZ HR
              clear hv h0 h1 hand hu4 hnot
              go_wp2
              go_quiet (fail)
              have HRD := Lib.hid (HR.out.step (below_drewN (Below.refl _ _) nq))
              clear HR
              go_wp2
              go_roundw
              case rel => exact ⟨l + 1, y, gb, cb, by omega, by omega, rfl, by go_num, HZ, HRD⟩
              case measure => simp [intOf]; omega
            · have hd2 : (((v &&& (18446744073709551615 - s) : Nat) : Int) != 0) = true := by simpa using (by omega : ((v &&& (18446744073709551615 - s) : Nat) : Int) ≠ 0)
              have HMID : Hid (midQ ts O s (q : Int) = !decide ((q : Int) ∈ O)) := Lib.hid (by
                unfold midQ inQ outQ; rw [← HV.out, decide_eq_true h0, decide_eq_true h1]; rfl)
              rw [← hnot] at hd2
              clear hv h0 h1 hand hu4 hnot
              go_wp2
              go_quiet (fail)
              have HRD := Lib.hid (HR.out.step (below_drewN (Below.refl _ _) nq))
              clear HR cx e1
              obtain ⟨W, hW⟩ : ∃ W, W = wr.drewN nq := ⟨_, rfl⟩
              rw [← hW] at HRD ⊢
              clear hW
              have c4 := (HRD.out.bel.cell (p := ⟨g, 4, none⟩) hg1).trans G4.out
              have HC := Lib.hid (contains_any (q : Int) (HO1.out.below HRD.out.bel (Nat.le_refl _)) (by rw [HM.out]; omega))
              obtain ⟨mb, hmb⟩ : ∃ b, b = decide ((q : Int) ∈ O) := ⟨_, rfl⟩
              rw [← hmb] at HC HMID
              clear hmb
              go_wp2_with fail
              refine HC.out.mono ?_
              rintro e w6 ⟨rfl, rfl⟩
              clear HC c4
              cases mb with
              | true =>
                have HE : Hid (op2 ts O s l = op2 ts O s (l + 1)) := Lib.hid (by rw [ST.out, HMID.out]; simp)
                rw [HE.out] at HZ HRD
                clear HE
                go_wp2
                go_roundw
                case rel => exact ⟨l + 1, y, gb, cb, by omega, by omega, rfl, by go_num, HZ, HRD⟩
                case measure => simp [intOf]; omega
              | false =>
                have HE : Hid (op2 ts O s l ++ [(q : Int)] = op2 ts O s (l + 1)) := Lib.hid (by rw [ST.out, HMID.out]; simp)
                have A5 := Lib.hid (HRD.out.alloc (.cells #[.int .i64 (q : Int)] 3))
                have O5 := Lib.hid (A5.out.row (v := .slice gb y cb) (List.mem_cons_self) HZ.out)
                go_wp2_with (at_builtin; go_must (refine wpList_append_lies _ rfl _ _ 25 rfl w1.heap.size 3 i0 (.int .i64 0) 1 8 Try.underlying25 J0.out J1.out J2.out J3.out rfl (by decide) _ y (ints (op2 ts O s l)) rfl O5.out ⟨w6.heap.size, 0, none⟩ 1 1 [.int .i64 (q : Int)] rfl rfl (cell_one_new _ _ _) ?c2 (by decide) ?c3 ?c4 ?c5 _ rfl ?_))
                case c2 => first | rfl | (intro u hu; simp at hu; subst hu; rfl)
                case c3 => unfold maxLen; omega
                case c4 => omega
                case c5 => exact A5.out.bel.size
                intro g1 cap1 w5 hown hgrow hl1 _
                have hR5 := A5.out.app1 HZ.out hown hgrow (by rw [World.size_alloc]; exact hl1)
                rw [HE.out] at hR5
                have R6 := Lib.hid hR5
                have HZ6 : Hid ((op2 ts O s (l + 1)).length = y + 1) := Lib.hid (by rw [← HE.out, List.length_append, HZ.out]; rfl)
                clear hown hgrow hl1 hR5 A5 O5 HRD
                go_wp2
                go_roundw
                case rel => exact ⟨l + 1, y + 1, some ⟨g1, 0, none⟩, cap1, by omega, by omega, rfl, by go_num, HZ6, R6⟩
                case measure => simp [intOf]; omega
        · obtain rfl : l = nk := by omega
          have RES := Lib.hid (HR.out.own1 (List.mem_cons_self))
          rw [op2_full HNK.out.symm] at RES
          have BB := Lib.hid HR.out.bel
          have GB := Lib.hid GR.out.bel
          clear hlt HR
          go_wp2
          go_ret
          exact NewRow.after GB.out ⟨_, rfl, RES.out, BB.out⟩
end Go.Proofs.Ytdheakjjnaifkaa
namespace Go.Proofs.Ytdheakjjnaifkaa
set_option maxRecDepth 20000
open Go.RowKit

theorem Rs.elseH {w0 wr w' : World} {bs : List BxE} {rows : List RowE} {g : Nat} (h : Rs w0 wr bs rows) (hg : wr.grownBy w' (some g)) (h0 : w0.heap.size ≤ g) (hb : ∀ b ∈ bs, b.1 ≠ g) (hr : ∀ r ∈ rows, r.1.ownBlock ≠ some g) : Rs w0 w' bs rows :=
  ⟨h.bel.grown hg h.bel.size (fun j hj => by injection hj with hj; omega), fun r hm => (h.own r hm).kept hg (by
    cases hv : r.1.ownBlock with
    | none => exact .inl rfl
    | some k => exact .inr fun e => by injection e with e; subst e; exact hr r hm hv), h.apart, fun b hm => (h.bx b hm).grown hg (fun j hj => by injection hj with hj; subst hj; exact ⟨hb b hm, h0⟩), h.far, h.dis⟩
theorem RsT.beside {w0 wr : World} {rows : List RowE} {v : Value} {us : List TenW} {g : Nat} (h : RsT w0 wr [] rows v us) (h0 : w0.heap.size ≤ g) (hv : v.ownBlock ≠ some g) (hr : ∀ r ∈ rows, r.1.ownBlock ≠ some g) (i : Nat) (u : Value) : RsT w0 (wr.setCell ⟨g, i, none⟩ u) [] rows v us :=
  ⟨h.rs.beside h0 (fun b hb => by cases hb) hr i u, h.own.kept (grownBy_set wr g i u) (by
    cases e : v.ownBlock with
    | none => exact .inl rfl
    | some k => exact .inr fun q => by injection q with q; subst q; exact hv e), (fun b hb => by cases hb), h.farR⟩
theorem RsT.elseG {w0 wr w' : World} {rows : List RowE} {v : Value} {us : List TenW} {g : Nat} (h : RsT w0 wr [] rows v us) (hg : wr.grownBy w' (some g)) (h0 : w0.heap.size ≤ g) (hv : v.ownBlock ≠ some g) (hr : ∀ r ∈ rows, r.1.ownBlock ≠ some g) : RsT w0 w' [] rows v us :=
  ⟨h.rs.elseH hg h0 (fun b hb => by cases hb) hr, h.own.kept hg (by
    cases e : v.ownBlock with
    | none => exact .inl rfl
    | some k => exact .inr fun q => by injection q with q; subst q; exact hv e), (fun b hb => by cases hb), h.farR⟩
/-- No tensors yet. -/
theorem RsT.none {w0 wr : World} {rows : List RowE} (h : Rs w0 wr [] rows) : RsT w0 wr [] rows nilV [] :=
  ⟨h, World.ownsRow_nil _ _ _ _, (fun b hb => by cases hb), fun r hr g hg => by cases hg⟩
/-- The network's box: cv, ov in its cells 3 and 4; tv the tensors' own row. -/
structure NetW (w0 wr : World) (b : Nat) (k p q : Int) (cv ov tv : Value) (us : List TenW) (rows : List RowE) : Prop where
  b5 : B5 wr b (.int .i64 k) (.int .i64 p) (.int .i64 q) cv ov
  lo : w0.heap.size ≤ b
  t : RsT w0 wr [] rows tv us
  farT : tv.ownBlock ≠ some b
  farR : ∀ r ∈ rows, r.1.ownBlock ≠ some b
section
variable {w0 wr w' : World} {b : Nat} {k p q : Int} {cv ov tv : Value} {us : List TenW} {rows rows' : List RowE}
theorem NetW.new (h : Rs w0 wr [] rows) (k p q : Int) (ov : Value) (T : TypeId) : NetW w0 (wr.alloc (.cells #[.int .i64 k, .int .i64 p, .int .i64 q, nilV, ov] T)) wr.heap.size k p q nilV ov nilV [] rows :=
  ⟨B5.new _ _ _ _ _ _ _, h.bel.size, RsT.none (h.alloc _), (fun e => by cases e), fun r hr e => by have := ((h.own r hr).lt _ e).2; omega⟩
theorem NetW.bel (h : NetW w0 wr b k p q cv ov tv us rows) : Below w0.heap.size w0 wr := h.t.rs.bel
theorem NetW.step (h : NetW w0 wr b k p q cv ov tv us rows) (hb : Below wr.heap.size wr w') : NetW w0 w' b k p q cv ov tv us rows :=
  ⟨h.b5.step hb, h.lo, h.t.step hb, h.farT, h.farR⟩
theorem NetW.alloc (h : NetW w0 wr b k p q cv ov tv us rows) (o : Obj) : NetW w0 (wr.alloc o) b k p q cv ov tv us rows := h.step ((Below.refl _ _).alloc (Nat.le_refl _) o)
theorem NetW.perm (h : NetW w0 wr b k p q cv ov tv us rows) (hp : rows.Perm rows') : NetW w0 wr b k p q cv ov tv us rows' :=
  ⟨h.b5, h.lo, h.t.perm hp, h.farT, fun r hr => h.farR r (hp.symm.subset hr)⟩
theorem NetW.new3 {a c d : Value} {x y z : List Int} (h : NetW w0 wr b k p q cv ov tv us rows) (hb : Below wr.heap.size wr w') (ho : OwnG w' wr.heap.size w'.heap.size [(a, x), (c, y), (d, z)]) : NetW w0 w' b k p q cv ov tv us ((a, x) :: (c, y) :: (d, z) :: rows) :=
  ⟨h.b5.step hb, h.lo, h.t.new3 hb ho, h.farT, fun r hr e => by
    have := h.b5.lt
    rcases List.mem_cons.1 hr with rfl | hr
    · have := ho.rows.1.lo _ e; omega
    · rcases List.mem_cons.1 hr with rfl | hr
      · have := ho.rows.2.1.lo _ e; omega
      · rcases List.mem_cons.1 hr with rfl | hr
        · have := ho.rows.2.2.lo _ e; omega
        · exact h.farR r hr e⟩
theorem NetW.elseG {g : Nat} (h : NetW w0 wr b k p q cv ov tv us rows) (hg : wr.grownBy w' (some g)) (h0 : w0.heap.size ≤ g) (hbg : b ≠ g) (hv : tv.ownBlock ≠ some g) (hr : ∀ r ∈ rows, r.1.ownBlock ≠ some g) : NetW w0 w' b k p q cv ov tv us rows :=
  ⟨h.b5.kept hg (fun e => by injection e with e; exact hbg e.symm), h.lo, h.t.elseG hg h0 hv hr, h.farT, h.farR⟩
/-- A tensor more in the row; the box doesn't know yet. -/
theorem NetW.app {u : TenW} {g n cap : Nat} (h : NetW w0 wr b k p q cv ov tv us rows) (hn : us.length = n) (ho : w'.ownsRow w0.heap.size 55 3 (.slice (some ⟨g, 0, none⟩) (n + 1) cap) (n + 1) (cells3 us ++ [u.1, u.2.1, u.2.2])) (hg : wr.grownBy w' tv.ownBlock) (hl : tv.ownBlock = some g ∨ g = wr.heap.size) : NetW w0 w' b k p q cv ov (.slice (some ⟨g, 0, none⟩) (n + 1) cap) (us ++ [u]) rows :=
  ⟨h.b5.kept hg h.farT, h.lo, h.t.app hn ho hg hl, (fun e => by
    simp only [Value.ownBlock, Option.some.injEq] at e
    subst e
    rcases hl with hl | hl
    · exact h.farT hl
    · have := h.b5.lt; omega), h.farR⟩
theorem NetW.putT (h : NetW w0 wr b k p q cv ov tv us rows) : NetW w0 (wr.setCell ⟨b, 3, none⟩ tv) b k p q tv ov tv us rows :=
  ⟨by simpa using h.b5.set tv 3, h.lo, h.t.beside h.lo h.farT h.farR 3 tv, h.farT, h.farR⟩
/-- The first row grows; the box doesn't know yet. -/
theorem NetW.appR {u : Value} {xs news : List Int} {g n cap : Nat} (h : NetW w0 wr b k p q cv ov tv us ((u, xs) :: rows)) (ho : w'.ownsRow w0.heap.size 3 1 (.slice (some ⟨g, 0, none⟩) n cap) n (ints (xs ++ news))) (hn : (xs ++ news).length = n) (hg : wr.grownBy w' u.ownBlock) (hl : u.ownBlock = some g ∨ g = wr.heap.size) : NetW w0 w' b k p q cv ov tv us ((.slice (some ⟨g, 0, none⟩) n cap, xs ++ news) :: rows) :=
  ⟨h.b5.kept hg (h.farR _ List.mem_cons_self), h.lo, h.t.appR ho hn hg hl, h.farT, fun r hr e => by
    rcases List.mem_cons.1 hr with rfl | hr
    · simp only [Value.ownBlock, Option.some.injEq] at e
      subst e
      rcases hl with hl | hl
      · exact h.farR _ List.mem_cons_self hl
      · have := h.b5.lt; omega
    · exact h.farR r (List.mem_cons_of_mem _ hr) e⟩
theorem NetW.putO (h : NetW w0 wr b k p q cv ov tv us rows) (u : Value) : NetW w0 (wr.setCell ⟨b, 4, none⟩ u) b k p q cv u tv us rows :=
  ⟨by simpa using h.b5.set u 4, h.lo, h.t.beside h.lo h.farT h.farR 4 u, h.farT, h.farR⟩
theorem NetW.nil (h : NetW w0 wr b k p q cv ov tv us rows) : NetW w0 wr b k p q cv ov tv us ((nilV, []) :: rows) :=
  ⟨h.b5, h.lo, h.t.nil, h.farT, fun r hr e => by
    rcases List.mem_cons.1 hr with rfl | hr
    · cases e
    · exact h.farR r hr e⟩
end
theorem cells3_zs (zs : List (TenW × TenE)) : Cells3 (cells3 (zs.map (·.1))) zs := fun i z hi => cells3_at (by rw [List.getElem?_map, hi]; rfl)
theorem ApartG.of_sub {rows rows' : List RowE} (h : ApartG rows) (hs : rows'.Sublist rows) : ApartG rows' := List.Pairwise.sublist hs h
/-- Its tensors are of the call's own. -/
theorem NetW.ownTs {w0 wr : World} {b : Nat} {k p q : Int} {cv ov tv : Value} {zs : List (TenW × TenE)} {pre : List RowE} (h : NetW w0 wr b k p q cv ov tv (zs.map (·.1)) (rowsR zs ++ pre)) : OwnTs wr w0.heap.size wr.heap.size tv (zs.map (·.2)) := by
  have hG := h.t.rs.ownG
  refine ⟨zs, cells3 (zs.map (·.1)), rfl, ?_, cells3_zs zs, ⟨fun r hr => hG.1 r (List.mem_append_left _ hr), ApartG.of_sub hG.2 (List.sublist_append_left _ _)⟩, fun g hg => ⟨(h.t.own.lt g hg).2, fun r hr => h.t.farR r (List.mem_append_left _ hr) g hg⟩, Nat.le_refl _⟩
  have := h.t.own
  rwa [List.length_map] at this ⊢
theorem NetW.rdT {w0 wr : World} {b : Nat} {k p q : Int} {cv ov tv : Value} {zs : List (TenW × TenE)} {pre : List RowE} (h : NetW w0 wr b k p q cv ov tv (zs.map (·.1)) (rowsR zs ++ pre)) : RdTs wr.heap.size wr tv (zs.map (·.2)) := h.ownTs.rd
end Go.Proofs.Ytdheakjjnaifkaa
namespace Go.Proofs.Ytdheakjjnaifkaa
set_option maxRecDepth 20000
open Go.RowKit

theorem below_none {w w' : World} (hg : w.grownBy w' none) : Below w.heap.size w w' := (Below.refl w.heap.size w).grown hg (Nat.le_refl _) (fun j hj => by cases hj)
theorem RsT.grow {w0 wr w' : World} {rows : List RowE} {v : Value} {us : List TenW} {x : Option Nat} (h : RsT w0 wr [] rows v us) (hg : wr.grownBy w' x) (h0 : ∀ g, x = some g → w0.heap.size ≤ g) (hv : ∀ g, x = some g → v.ownBlock ≠ some g) (hr : ∀ g, x = some g → ∀ r ∈ rows, r.1.ownBlock ≠ some g) : RsT w0 w' [] rows v us := by
  cases x with
  | none => exact h.step (below_none hg)
  | some g => exact h.elseG hg (h0 g rfl) (hv g rfl) (hr g rfl)
theorem NetW.grow {w0 wr w' : World} {b : Nat} {k p q : Int} {cv ov tv : Value} {us : List TenW} {rows : List RowE} {x : Option Nat} (h : NetW w0 wr b k p q cv ov tv us rows) (hg : wr.grownBy w' x) (h0 : ∀ g, x = some g → w0.heap.size ≤ g) (hb : ∀ g, x = some g → b ≠ g) (hv : ∀ g, x = some g → tv.ownBlock ≠ some g) (hr : ∀ g, x = some g → ∀ r ∈ rows, r.1.ownBlock ≠ some g) : NetW w0 w' b k p q cv ov tv us rows := by
  cases x with
  | none => exact h.step (below_none hg)
  | some g => exact h.elseG hg (h0 g rfl) (hb g rfl) (hv g rfl) (hr g rfl)
/-- The cells of a row of tensors, read. -/
theorem RsT.rd3 {w0 wr : World} {bs : List BxE} {rows : List RowE} {v : Value} {us : List TenW} (h : RsT w0 wr bs rows v us) : Rd3 wr.heap.size wr v us := by
  have ho := h.own
  rcases ho.2 with ⟨rfl, h0⟩ | ⟨g, cap, cur, rfl, hlo, hg, -⟩
  · have hn : us = [] := List.eq_nil_of_length_eq_zero h0
    subst hn
    exact .inl ⟨rfl, _, _, rfl⟩
  · refine .inr ⟨g, 0, cap, rfl, (ho.lt g rfl).2, fun i u hu => ?_⟩
    have hil := (List.getElem?_eq_some_iff.1 hu).1
    obtain ⟨e1, e2, e3⟩ := cells3_at hu
    refine ⟨?_, ?_, ?_⟩
    · rw [Nat.zero_add, ho.cellAt _ (by omega)]; exact e1
    · rw [Nat.zero_add, ho.cellAt _ (by omega)]; exact e2
    · rw [Nat.zero_add, ho.cellAt _ (by omega)]; exact e3
/-- The network's box and rows, and beside them another row of tensors. -/
structure NetX (w0 wr : World) (b : Nat) (k p q : Int) (cv ov tv : Value) (us : List TenW) (rows : List RowE) (rv : Value) (vs : List TenW) : Prop where
  n : NetW w0 wr b k p q cv ov tv us rows
  r : RsT w0 wr [] [] rv vs
  d : ∀ g, rv.ownBlock = some g → g ≠ b ∧ tv.ownBlock ≠ some g ∧ ∀ x ∈ rows, x.1.ownBlock ≠ some g
section
variable {w0 wr w' : World} {b : Nat} {k p q : Int} {cv ov tv rv : Value} {us vs : List TenW} {rows : List RowE}
theorem NetX.bel (h : NetX w0 wr b k p q cv ov tv us rows rv vs) : Below w0.heap.size w0 wr := h.n.bel
theorem NetX.step (h : NetX w0 wr b k p q cv ov tv us rows rv vs) (hb : Below wr.heap.size wr w') : NetX w0 w' b k p q cv ov tv us rows rv vs := ⟨h.n.step hb, h.r.step hb, h.d⟩
theorem NetX.new3 {a c d : Value} {x y z : List Int} (h : NetX w0 wr b k p q cv ov tv us rows rv vs) (hb : Below wr.heap.size wr w') (ho : OwnG w' wr.heap.size w'.heap.size [(a, x), (c, y), (d, z)]) : NetX w0 w' b k p q cv ov tv us ((a, x) :: (c, y) :: (d, z) :: rows) rv vs :=
  ⟨h.n.new3 hb ho, h.r.step hb, fun g hg => ⟨(h.d g hg).1, (h.d g hg).2.1, fun r hr e => by
    have := (h.r.own.lt g hg).2
    rcases List.mem_cons.1 hr with rfl | hr
    · have := ho.rows.1.lo _ e; omega
    · rcases List.mem_cons.1 hr with rfl | hr
      · have := ho.rows.2.1.lo _ e; omega
      · rcases List.mem_cons.1 hr with rfl | hr
        · have := ho.rows.2.2.lo _ e; omega
        · exact (h.d g hg).2.2 r hr e⟩⟩
theorem NetX.new1 {v : Value} {xs : List Int} (h : NetX w0 wr b k p q cv ov tv us rows rv vs) (hb : Below wr.heap.size wr w') (ho : Own w' wr.heap.size w'.heap.size v xs) : NetX w0 w' b k p q cv ov tv us ((v, xs) :: rows) rv vs :=
  ⟨⟨h.n.b5.step hb, h.n.lo, h.n.t.new hb ho, h.n.farT, fun r hr e => by
    have := h.n.b5.lt
    rcases List.mem_cons.1 hr with rfl | hr
    · have := ho.lo _ e; omega
    · exact h.n.farR r hr e⟩, h.r.step hb, fun g hg => ⟨(h.d g hg).1, (h.d g hg).2.1, fun r hr e => by
    have := (h.r.own.lt g hg).2
    rcases List.mem_cons.1 hr with rfl | hr
    · have := ho.lo _ e; omega
    · exact (h.d g hg).2.2 r hr e⟩⟩
theorem NetX.app {u : TenW} {g n cap : Nat} (h : NetX w0 wr b k p q cv ov tv us rows rv vs) (hn : us.length = n) (ho : w'.ownsRow w0.heap.size 55 3 (.slice (some ⟨g, 0, none⟩) (n + 1) cap) (n + 1) (cells3 us ++ [u.1, u.2.1, u.2.2])) (hg : wr.grownBy w' tv.ownBlock) (hl : tv.ownBlock = some g ∨ g = wr.heap.size) : NetX w0 w' b k p q cv ov (.slice (some ⟨g, 0, none⟩) (n + 1) cap) (us ++ [u]) rows rv vs :=
  ⟨h.n.app hn ho hg hl, h.r.grow hg (fun j e => (h.n.t.own.lt j e).1) (fun j e e2 => (h.d j e2).2.1 e) (fun j e r hr => by cases hr), fun j hj => ⟨(h.d j hj).1, (fun e => by
    simp only [Value.ownBlock, Option.some.injEq] at e
    subst e
    rcases hl with hl | hl
    · exact (h.d _ hj).2.1 hl
    · have := (h.r.own.lt _ hj).2; omega), (h.d j hj).2.2⟩⟩
theorem NetX.putT (h : NetX w0 wr b k p q cv ov tv us rows rv vs) : NetX w0 (wr.setCell ⟨b, 3, none⟩ tv) b k p q tv ov tv us rows rv vs :=
  ⟨h.n.putT, h.r.beside h.n.lo (fun e => (h.d b e).1 rfl) (fun r hr => by cases hr) 3 tv, h.d⟩
theorem NetX.putO (h : NetX w0 wr b k p q cv ov tv us rows rv vs) (u : Value) : NetX w0 (wr.setCell ⟨b, 4, none⟩ u) b k p q cv u tv us rows rv vs :=
  ⟨h.n.putO u, h.r.beside h.n.lo (fun e => (h.d b e).1 rfl) (fun r hr => by cases hr) 4 u, h.d⟩
theorem NetX.appO {R : List RowE} {u : Value} {xs : List Int} {x : Int} {g n cap : Nat} (h : NetX w0 wr b k p q cv ov tv us (R ++ [(u, xs)]) rv vs) (hn : xs.length = n) (ho : w'.ownsRow w0.heap.size 3 1 (.slice (some ⟨g, 0, none⟩) (n + 1) cap) (n + 1) (ints xs ++ [.int .i64 x])) (hg : wr.grownBy w' u.ownBlock) (hl : u.ownBlock = some g ∨ g = wr.heap.size) : NetX w0 w' b k p q cv ov tv us (R ++ [(.slice (some ⟨g, 0, none⟩) (n + 1) cap, xs ++ [x])]) rv vs := by
  have hm : (u, xs) ∈ R ++ [(u, xs)] := List.mem_append_right _ List.mem_cons_self
  have hp : ∀ a : RowE, (R ++ [a]).Perm (a :: R) := fun a => List.perm_append_singleton a R
  have h1 := h.n.perm (hp _)
  have ho2 : w'.ownsRow w0.heap.size 3 1 (.slice (some ⟨g, 0, none⟩) (n + 1) cap) (n + 1) (ints (xs ++ [x])) := by rw [ints_append]; exact ho
  have h2 := h1.appR ho2 (by rw [List.length_append, hn]; rfl) hg hl
  refine ⟨h2.perm (hp _).symm, h.r.grow hg (fun j e => ((h.n.t.rs.own _ hm).lt j e).1) (fun j e e2 => (h.d j e2).2.2 _ hm e) (fun j e r hr => by cases hr), fun j hj => ⟨(h.d j hj).1, (h.d j hj).2.1, fun r hr e => ?_⟩⟩
  rcases List.mem_append.1 hr with hr | hr
  · exact (h.d j hj).2.2 r (List.mem_append_left _ hr) e
  · simp at hr
    subst hr
    simp only [Value.ownBlock, Option.some.injEq] at e
    subst e
    rcases hl with hl | hl
    · exact (h.d _ hj).2.2 _ hm hl
    · have := (h.r.own.lt _ hj).2; omega
/-- The other row has a tensor more. -/
theorem NetX.appV {u : TenW} {g n cap : Nat} (h : NetX w0 wr b k p q cv ov tv us rows rv vs) (hn : vs.length = n) (ho : w'.ownsRow w0.heap.size 55 3 (.slice (some ⟨g, 0, none⟩) (n + 1) cap) (n + 1) (cells3 vs ++ [u.1, u.2.1, u.2.2])) (hg : wr.grownBy w' rv.ownBlock) (hl : rv.ownBlock = some g ∨ g = wr.heap.size) : NetX w0 w' b k p q cv ov tv us rows (.slice (some ⟨g, 0, none⟩) (n + 1) cap) (vs ++ [u]) :=
  ⟨h.n.grow hg (fun j e => (h.r.own.lt j e).1) (fun j e e2 => (h.d j e).1 e2.symm) (fun j e => (h.d j e).2.1) (fun j e => (h.d j e).2.2), h.r.app hn ho hg hl, fun j hj => by
    simp only [Value.ownBlock, Option.some.injEq] at hj
    subst hj
    rcases hl with hl | hl
    · exact h.d _ hl
    · have h1 := h.n.b5.lt
      refine ⟨by omega, fun e => ?_, fun r hr e => ?_⟩
      · have := (h.n.t.own.lt _ e).2; omega
      · have := ((h.n.t.rs.own r hr).lt _ e).2; omega⟩
end
end Go.Proofs.Ytdheakjjnaifkaa
