
/- slices.SortFunc on a row of axes that their labels say, with the comparison of commonDims. -/
import Derived.Test.YtdheakjjnaifkaaJoinImpl
import Derived.Test.YtdheakjjnaifkaaShelfSortF
import Derived.Sort.OwnSortedInts
namespace Go.Proofs.Ytdheakjjnaifkaa
set_option maxRecDepth 20000
open Go.RowKit Go.Shelf Go.Sort Go.Lib

/-- An axis, said by its label. -/
def encA (d s : Int → Int) (x : Fin 100) : List Value := [.int .i64 (x.val : Int), .int .i64 (d x.val), .int .i64 (s x.val)]
def cfA (x y : Fin 100) : Int := (x.val : Int) - (y.val : Int)
theorem lt_cfA (x y : Fin 100) : ltOf cfA x y = decide (x.val < y.val) := by
  unfold ltOf cfA
  by_cases h : x.val < y.val
  · simp [h]; omega
  · simp [h]; omega
theorem swo_cfA : SWO (ltOf cfA) where
  irrefl x := by rw [lt_cfA]; simp
  trans x y z h1 h2 := by rw [lt_cfA] at *; simp at *; omega
  ntrans x y z h1 h2 := by rw [lt_cfA] at *; simp at *; omega
theorem tot_cfA (x y : Fin 100) (h1 : ltOf cfA x y = false) (h2 : ltOf cfA y x = false) : x = y := by
  rw [lt_cfA] at h1 h2
  simp at h1 h2
  exact Fin.ext (by omega)
set_option maxHeartbeats 1000000 in
theorem cmp_axes (d s : Int → Int) (x y : Fin 100) (W : World) : Calls Try.prog 105 #[.agg #[.int .i64 (x.val : Int), .int .i64 (d x.val), .int .i64 (s x.val)], .agg #[.int .i64 (y.val : Int), .int .i64 (d y.val), .int .i64 (s y.val)]] W fun e w' => e = .returned (.int .i64 (cfA x y)) ∧ ∃ q os', w' = grow (W.drewN q) os' := by
  have hx := x.isLt
  have hy := y.isLt
  unfold cfA
  obtain ⟨a, ha⟩ : ∃ a : Int, a = (x.val : Int) := ⟨_, rfl⟩
  obtain ⟨b, hb⟩ : ∃ b : Int, b = (y.val : Int) := ⟨_, rfl⟩
  rw [← ha, ← hb]
  have h1 : 0 ≤ a ∧ a ≤ 99 := by omega
  have h2 : 0 ≤ b ∧ b ≤ 99 := by omega
  clear ha hb hx hy
  go_enter Try.func105, Try.ntmps105
  go_wp2
  go_ret
  exact ⟨by go_num, 0, _, by rw [alloc_eq_grow, alloc_eq_grow, grow_grow]; rfl⟩
theorem cmp_lays (d s : Int → Int) (blk off size : Nat) (w : World) : CmpLays Try.prog 105 #[] (encA d s) 3 cfA blk off size w :=
  fun _ _ _ _ x y => cmp_axes d s x y _
/-- A label's place among the hundred. -/
def toF (n : Int) : Fin 100 := ⟨n.toNat % 100, Nat.mod_lt _ (by omega)⟩
theorem toF_val {n : Int} (h : 0 ≤ n ∧ n ≤ 99) : ((toF n).val : Int) = n := by
  show ((n.toNat % 100 : Nat) : Int) = n
  omega
theorem sort_toF {J : List Int} (hJ : ∀ n ∈ J, 0 ≤ n ∧ n ≤ 99) : ((J.map toF).mergeSort fun x y => !ltOf cfA y x) = (sortL J).map toF := by
  unfold sortL
  symm
  refine List.map_mergeSort fun a ha b hb => ?_
  have h1 := toF_val (hJ a ha)
  have h2 := toF_val (hJ b hb)
  rw [lt_cfA]
  by_cases h : a ≤ b
  · rw [decide_eq_true h, decide_eq_false (show ¬ (toF b).val < (toF a).val by omega)]; rfl
  · rw [decide_eq_false h, decide_eq_true (show (toF b).val < (toF a).val by omega)]; rfl
theorem flat_axes {J : List Int} {d s : Int → Int} (hJ : ∀ n ∈ J, 0 ≤ n ∧ n ≤ 99) : flatK (encA d s) 3 (J.map toF).toArray = (cellsA (axJ J d s)).toArray := by
  have h : (flatK (encA d s) 3 (J.map toF).toArray).toList = cellsA (axJ J d s) := by
    refine cellsA_is (by simp [axJ_len]) fun i a ha => ?_
    obtain ⟨n, hn, rfl⟩ : ∃ n, J[i]? = some n ∧ (n, d n, s n) = a := by
      unfold axJ at ha
      rw [List.getElem?_map] at ha
      exact Option.map_eq_some_iff.1 ha
    have hi := (List.getElem?_eq_some_iff.1 hn).1
    have hv := toF_val (hJ n (List.mem_of_getElem? hn))
    have hg : (J.map toF).toArray[i]! = toF n := by
      have h1 : (J.map toF).toArray[i]? = some (toF n) := by simp [hn]
      rw [getElem!_def, h1]
    have key : ∀ r, r < 3 → (flatK (encA d s) 3 (J.map toF).toArray).toList[i * 3 + r]? = some ((encA d s (toF n))[r]!) := fun r hr => by
      have h1 : (i * 3 + r) / 3 = i := by omega
      have h2 : (i * 3 + r) % 3 = r := by omega
      have h3 : i * 3 + r < J.length * 3 := by omega
      rw [Array.getElem?_toList]
      unfold flatK
      rw [Array.getElem?_map, Array.getElem?_range, if_pos (by simpa using h3)]
      simp only [Option.map_some, h1, h2, hg]
    have e : encA d s (toF n) = [.int .i64 n, .int .i64 (d n), .int .i64 (s n)] := by unfold encA; rw [hv]
    rw [e] at key
    exact ⟨key 0 (by omega), key 1 (by omega), key 2 (by omega)⟩
  rw [← h]
theorem holds_vals {w : World} {g : Nat} {cur : Array Value} {e : TypeId} {vs : List Value} (hb : w.heap[g]? = some (.cells cur e (0, 0))) (ht : cur.toList.take vs.length = vs) : Holds id w g 0 vs.toArray := by
  intro j hj
  have hj' : j < vs.length := by simpa using hj
  refine ⟨?_, by simp [World.frozen?, hb]⟩
  have h1 : (cur.toList.take vs.length)[j]? = vs[j]? := by rw [ht]
  rw [List.getElem?_take_of_lt hj'] at h1
  simp only [World.cell?, hb, Nat.zero_add]
  simp only [Option.isSome_none, Bool.false_eq_true, if_false]
  rw [← Array.getElem?_toList, h1]
  simp [hj']
theorem heap_vals {w : World} {g n : Nat} {os : Array Obj} {cur : Array Value} {e : TypeId} {fr : Nat × Nat} (d : Array Value) (hb : w.heap[g]? = some (.cells cur e fr)) :
    (grow (putRow id (Sort.ahead w n) g 0 d) os).heap[g]? = some (.cells (putCells id 0 d cur) e fr) := by
  have hg : g < w.heap.size := (Array.getElem?_eq_some_iff.1 hb).1
  rw [heap_grow_old _ _ (by simpa using hg)]
  simp [putRow, mapBlock, Sort.ahead, Array.getElem?_modify, hb, onCells]
theorem grown_vals {w : World} {g n : Nat} {os : Array Obj} (d : Array Value) : w.grownBy (grow (putRow id (Sort.ahead w n) g 0 d) os) (some g) := by
  refine ⟨rfl, rfl, rfl, by simp, fun k hk hne => ?_⟩
  rw [heap_grow_old _ _ (by simpa using hk)]
  have : g ≠ k := fun e => hne (by rw [e])
  simp [putRow, mapBlock, Sort.ahead, Array.getElem?_modify, this]
theorem take_vals (cur : Array Value) (ts : List Value) (h : ts.length ≤ cur.size) : (putCells id 0 ts.toArray cur).toList.take ts.length = ts := by
  apply List.ext_getElem?
  intro j
  by_cases hj : j < ts.length
  · rw [List.getElem?_take_of_lt hj, Array.getElem?_toList]
    simp [putCells, hj, show j < cur.size by omega]
  · rw [List.getElem?_take_eq_none (by omega), List.getElem?_eq_none (by omega)]
/-- slices.SortFunc on axes of the call's own. -/
theorem sort_axes {J : List Int} {d s : Int → Int} {w : World} {lo : Nat} {v : Value} (hJ : ∀ n ∈ J, 0 ≤ n ∧ n ≤ 99) (h : OwnA w lo w.heap.size v (axJ J d s)) (hlw : lo ≤ w.heap.size) (hl : J.length ≤ 65536) :
    Calls Try.prog 104 #[v, .func (.func 105) #[] #[]] w fun e w' => e = .returned (.tuple #[]) ∧ OwnA w' lo w'.heap.size v (axJ (sortL J) d s) ∧ w.grownBy w' v.ownBlock := by
  rcases h.1.2 with ⟨rfl, h0⟩ | ⟨g, cap, cur, rfl, hlo, hg, h1, h2, h3, h4⟩
  · have hx : J = [] := by
      have h5 : (axJ J d s).length = 0 := by
        rw [h0]
      rw [axJ_len] at h5
      exact List.eq_nil_of_length_eq_zero h5
    subst hx
    refine (AnyF.slices_SortFunc_none { Try.sortAx with } none 0 _ w).mono ?_
    rintro e w' ⟨rfl, rfl⟩
    have e0 : sortL [] = [] := List.eq_nil_of_length_eq_zero (sortL_len [])
    rw [e0]
    exact ⟨rfl, h, World.grownBy.refl _ _⟩
  · have hlt := (Array.getElem?_eq_some_iff.1 hg).1
    have hle : (axJ J d s).length = J.length := axJ_len J d s
    have hcl : (cellsA (axJ J d s)).length = J.length * 3 := by rw [cellsA_len, hle]
    have hcs : (cellsA (axJ (sortL J) d s)).length = J.length * 3 := by rw [cellsA_len, axJ_len, sortL_len]
    have hds : (J.map toF).toArray.size = J.length := by simp
    have hH : HoldsK (encA d s) 3 w g 0 (J.map toF).toArray := by
      unfold HoldsK
      rw [flat_axes hJ]
      exact holds_vals hg (by rw [hcl, ← hle]; exact h4)
    have eg : ∀ args w, (callFunc 105 args).run Try.prog w = .ok (.enter 105 args) w := enters_of Try.func105 (by kernel_rfl) rfl
    have hc := AnyQ.slices_SortFunc_total Try.sortAx 3 Try.isAgg111 Try.sizeOf111 (encA d s) (fun _ => rfl) (fun x v hv => by simp [encA] at hv; rcases hv with rfl | rfl | rfl <;> rfl) cfA swo_cfA 105 #[] g 0 cap (J.map toF).toArray w eg (cmp_lays d s g 0 _ w) hH hlt (by rw [hds]; omega) tot_cfA
    rw [hds] at hc
    rw [hle]
    refine Calls.mono hc ?_
    rintro e w' ⟨rfl, nn, os, rfl⟩
    have hr : sortWorldK (encA d s) 3 w g 0 nn (((J.map toF).toArray.toList.mergeSort fun x y => !ltOf cfA y x).toArray) os = grow (putRow id (Sort.ahead w nn) g 0 (cellsA (axJ (sortL J) d s)).toArray) os := by
      unfold sortWorldK putRowK
      rw [List.toList_toArray, sort_toF hJ, flat_axes (fun n hn => hJ n ((sortL_perm J).subset hn))]
    rw [hr]
    have hgr := grown_vals (w := w) (g := g) (n := nn) (os := os) (cellsA (axJ (sortL J) d s)).toArray
    refine ⟨rfl, ⟨⟨by rw [cellsA_len], .inr ⟨g, cap, _, ?_, hlo, heap_vals _ hg, ?_, h2, by simp [putCells, h3], ?_⟩⟩, fun g' hg' => ?_, Nat.le_refl _⟩, hgr⟩
    · rw [axJ_len, sortL_len]
    · rw [axJ_len, sortL_len]; omega
    · rw [axJ_len, sortL_len, ← hcs]; exact take_vals cur _ (by rw [hcs, h3]; omega)
    · simp only [Value.ownBlock, Option.some.injEq] at hg'
      subst hg'
      exact Nat.lt_of_lt_of_le hlt hgr.size
end Go.Proofs.Ytdheakjjnaifkaa
