
/- The calls of the law FnImages, on what it draws. -/
import Derived.Test.YtfdjlahaiogababImagesMath
import Derived.Test.YtfdjlahaiogababSameKit
import Derived.Test.YtfdjlahaiogababMapImpl
import Derived.Test.YtfdjlahaiogababPairImpl
import Derived.Test.YtfdjlahaiogababDrawHom
namespace Go.Proofs.Ytfdjlahaiogabab
set_option maxRecDepth 20000
open Go.RowKit

def TenT (w : World) (L D X : List Int) (e : Ending) (w' : World) : Prop := ∃ a1 n1 c1 a2 n2 c2 a3 n3 c3, e = .returned (.tuple #[tenV (.slice a1 n1 c1) (.slice a2 n2 c2) (.slice a3 n3 c3), .bool true]) ∧ OwnG w' w.heap.size w'.heap.size [(.slice a1 n1 c1, L), (.slice a2 n2 c2, D), (.slice a3 n3 c3, X)] ∧ Below w.heap.size w w'
theorem TenT.of {w w' : World} {L D X : List Int} {e : Ending} (h : NewTen2 w L D X true e w') : TenT w L D X e w' := by
  obtain ⟨lv, dv, xv, rfl, ho, hb⟩ := h
  obtain ⟨a1, n1, c1, rfl⟩ := own_slice (show Own _ _ _ lv L from ho.1 (lv, L) (by simp))
  obtain ⟨a2, n2, c2, rfl⟩ := own_slice (show Own _ _ _ dv D from ho.1 (dv, D) (by simp))
  obtain ⟨a3, n3, c3, rfl⟩ := own_slice (show Own _ _ _ xv X from ho.1 (xv, X) (by simp))
  exact ⟨_, _, _, _, _, _, _, _, _, rfl, ho, hb⟩
structure ImgR (k p q k' p' q' hk ha : Int) (LT DT XT LU DU XU KP PL PD PX MX NX QX : List Int) : Prop where
  pb : pairB k p q LT DT XT LU DU XU KP = true
  eL : PL = keepL (joinL LT LU) KP
  eD : PD = keepD (joinL LT LU) (joinD LT DT LU DU) KP
  eX : PX = pairL k p q LT DT XT LU DU XU KP
  m1 : MX = mapTenL k q k' p' q' hk ha DT XT
  m2 : NX = mapTenL k q k' p' q' hk ha DU XU
  pb' : pairB k' p' q' LT DT MX LU DU NX KP = true
  tx : tensorB k p q PL PD PX = true
  eY : QX = pairL k' p' q' LT DT MX LU DU NX KP
  m3 : QX = mapTenL k q k' p' q' hk ha PD PX
  ty : tensorB k' p' q' PL PD QX = true
theorem img_all {k p q k' p' q' hk ha : Int} {LT DT XT LU DU XU KP : List Int} (hh : homB k p q k' p' q' hk ha = true) (ht : tensorB k p q LT DT XT = true) (hu : tensorB k p q LU DU XU = true) (h : LabV 6 3 LT DT) (h' : LabV 6 3 LU DU) : ∃ PL PD PX MX NX QX, ImgR k p q k' p' q' hk ha LT DT XT LU DU XU KP PL PD PX MX NX QX := by
  have hp := pairs_ok KP ht hu h h'
  have hp' := pair_image_ok hh hp
  have hx := pair_ten hp
  refine ⟨_, _, _, _, _, _, hp, rfl, rfl, rfl, rfl, rfl, hp', hx, (pair_image hh hp).symm, rfl, map_form hh hx⟩
section
variable {B B' B'' : Nat} {lv dv xv lu du xu kv : Value} {k p q k' p' q' hk ha : Int} {L D X L' D' X' keep PL PD PX Y : List Int} {w : World}
theorem pair_yes2 (h : pairB k p q L D X L' D' X' keep = true) (eL : PL = keepL (joinL L L') keep) (eD : PD = keepD (joinL L L') (Go.Proofs.Ytfdjlahaiogabab.joinD L D L' D') keep) (eX : PX = pairL k p q L D X L' D' X' keep) (ha : RdT B w lv dv xv L D X) (hb : RdT B' w lu du xu L' D' X') (hk : Rd B'' w kv (ints keep)) (hB : B ≤ w.heap.size) (hB' : B' ≤ w.heap.size) (hB'' : B'' ≤ w.heap.size) (lk : keep.length ≤ 4096) :
    Calls Try.prog 38 #[ringV k p q, tenV lv dv xv, tenV lu du xu, kv] w (TenT w PL PD PX) := by
  have hp := pairB_parts h
  have hq := contract_pair_impl (k := k) (p := p) (q := q) ha hb hk hB hB' hB'' (tenlen hp.1) (tenlen hp.2.1) (by omega) (tenints hp.1) (tenints hp.2.1)
  rw [h] at hq
  simp only [if_true] at hq
  rw [eL, eD, eX]
  exact hq.mono fun e w' h => TenT.of h
theorem map_yes (hh : homB k p q k' p' q' hk ha = true) (ht : tensorB k p q L D X = true) (he : Y = mapTenL k q k' p' q' hk ha D X) (h : RdT B w lv dv xv L D X) (hB : B ≤ w.heap.size) :
    Calls Try.prog 32 #[ringV k p q, ringV k' p' q', homV hk ha, tenV lv dv xv] w (TenT w L D Y) := by
  have hq := map_tensor_impl (fk := k) (fp := p) (fn := q) (tk := k') (tp := p') (tn := q') (hk := hk) (ha := ha) h hB (tenlen ht) (tenints ht)
  rw [show mapB k p q k' p' q' hk ha L D X = true by unfold mapB; rw [hh, ht]; rfl] at hq
  simp only [if_true] at hq
  rw [he]
  exact hq.mono fun e w' h => TenT.of h
end
end Go.Proofs.Ytfdjlahaiogabab
