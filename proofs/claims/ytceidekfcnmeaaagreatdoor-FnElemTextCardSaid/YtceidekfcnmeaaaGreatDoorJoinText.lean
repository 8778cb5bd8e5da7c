
/- Joined numerals as plain mathematics: cut, parsed again. -/
import Derived.Test.YtceidekfcnmeaaaGreatDoorItoaFacts
import Derived.Test.YtceidekfcnmeaaaGreatDoorFmtInts
namespace Go.Proofs.YtceidekfcnmeaaaGreatDoor
set_option maxRecDepth 20000
open Go Go.RowKit

/-- Numerals, a byte ahead of each. -/
def tailL (c : UInt8) (zs : List Int) : List UInt8 := (zs.map fun z => c :: Lib.itoa z).flatten
theorem cut_tail (c : UInt8) (h : c.toNat < 45) (zs : List Int) : ∀ (ps : List (List UInt8)) (cur : List UInt8), (cfold c.toNat (ps, cur) (tailL c zs)).1 ++ [(cfold c.toNat (ps, cur) (tailL c zs)).2] = ps ++ cur :: zs.map Lib.itoa := by
  induction zs with
  | nil => intro ps cur; rfl
  | cons z r ih =>
    intro ps cur
    have e : tailL c (z :: r) = [c] ++ (Lib.itoa z ++ tailL c r) := by simp [tailL]
    rw [e, cfold_app, cfold_hit _ c rfl, cfold_app, cfold_none _ _ (no_sep z h), ih]
    simp
theorem join_tail (c : UInt8) (z : Int) (r : List Int) : joinL [c] (texts (z :: r)) = Lib.itoa z ++ tailL c r := by
  simp [joinL, texts, tailL, Function.comp_def]
theorem tail_join (c : UInt8) (z : Int) (r : List Int) : tailL c (z :: r) = c :: joinL [c] (texts (z :: r)) := by
  rw [join_tail]; simp [tailL]
/-- Joined numerals, cut again. -/
theorem cut_join (c : UInt8) (h : c.toNat < 45) {zs : List Int} (hz : zs ≠ []) : cutL c.toNat (joinL [c] (texts zs)) = zs.map Lib.itoa := by
  cases zs with
  | nil => exact absurd rfl hz
  | cons z r =>
    unfold cutL
    rw [join_tail, cfold_app, cfold_none _ _ (no_sep z h), cut_tail c h]
    rfl
theorem pval_all {zs : List Int} (h : allI zs) : (zs.map Lib.itoa).map pval = zs.map some := by
  rw [List.map_map]
  exact List.map_congr_left fun z hz => pval_some (h z hz)
/-- Joined numerals are parsed again. -/
theorem si_join (c : UInt8) (h : c.toNat < 45) {zs : List Int} (hz : zs ≠ []) (hI : allI zs) : SI c.toNat ⟨(joinL [c] (texts zs)).toArray⟩ zs true := by
  refine .inl ⟨rfl, ?_⟩
  have e : (parts ⟨(joinL [c] (texts zs)).toArray⟩ c.toNat).map pv = ((parts ⟨(joinL [c] (texts zs)).toArray⟩ c.toNat).map (fun p => p.data.toList)).map pval := by rw [List.map_map]; rfl
  rw [e, parts_cut, mk_list, cut_join c h hz, pval_all hI]
theorem join_pos (c : UInt8) {zs : List Int} (hz : zs ≠ []) : 0 < (joinL [c] (texts zs)).length := by
  cases zs with
  | nil => exact absurd rfl hz
  | cons z r =>
    rw [join_tail, List.length_append]
    have := List.length_pos_iff.2 (itoa_ne z)
    omega
theorem pi_join {zs : List Int} (hI : allI zs) : PI ⟨(joinL [32] (texts zs)).toArray⟩ zs true := by
  by_cases hz : zs = []
  · subst hz; exact .inl ⟨rfl, rfl, rfl⟩
  · refine (si_join 32 (by decide) hz hI).pi ?_
    show 0 < (joinL [32] (texts zs)).toArray.size
    rw [List.size_toArray]
    exact join_pos 32 hz

theorem tail_len (c : UInt8) {zs : List Int} (h : allI zs) : (tailL c zs).length ≤ 21 * zs.length := by
  induction zs with
  | nil => simp [tailL]
  | cons z r ih =>
    have h1 := itoa_len20 (h z (by simp))
    have h2 := ih (fun y hy => h y (by simp [hy]))
    have e : tailL c (z :: r) = c :: (Lib.itoa z ++ tailL c r) := by simp [tailL]
    rw [e, List.length_cons, List.length_append, List.length_cons]
    omega
end Go.Proofs.YtceidekfcnmeaaaGreatDoor
