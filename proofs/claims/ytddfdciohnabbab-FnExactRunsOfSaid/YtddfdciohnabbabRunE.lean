/- Runs sorted: the library's SortFunc at the program's order. -/
import Derived.Test.YtddfdciohnabbabRunD
import Derived.Shelf.SlSortCmp.InsertionK
import Derived.Sort.OwnSorted
namespace Go.Proofs.Ytddfdciohnabbab
set_option linter.unusedVariables false
set_option linter.unusedSimpArgs false
open Go.RowKit Go.Sort Go.Proofs

theorem encT_len (r : Tr) : (encT r).length = 3 := rfl
theorem flatT_get : ∀ (L : List Tr) (t : Nat), t < L.length * 3 → (flatT L)[t]? = (encT (L[t / 3]!))[t % 3]? := by
  intro L
  induction L with
  | nil => intro t ht; simp at ht
  | cons a L ih =>
    intro t ht
    unfold flatT at *
    rw [List.flatMap_cons]
    by_cases h : t < 3
    · rw [List.getElem?_append_left (by rw [encT_len]; exact h), Nat.div_eq_of_lt h, Nat.mod_eq_of_lt h]
      rfl
    · obtain ⟨s, rfl⟩ : ∃ s, t = s + 3 := ⟨t - 3, by omega⟩
      rw [List.length_cons] at ht
      rw [List.getElem?_append_right (by rw [encT_len]; omega), encT_len, Nat.add_sub_cancel, ih s (by omega), Nat.add_div_right s (by omega), Nat.add_mod_right]
      rfl
theorem flatK_flatT (d : Array Tr) : flatK encT 3 d = (flatT d.toList).toArray := by
  apply Array.ext_getElem?
  intro t
  by_cases ht : t < d.size * 3
  · have h1 := flatT_get d.toList t (by simpa using ht)
    have h2 : t % 3 < (encT d[t / 3]!).length := by rw [encT_len]; omega
    have hd : t / 3 < d.size := by omega
    have e1 : d.toList[t / 3]! = d[t / 3]! := by
      rw [getElem!_pos d.toList _ (by simpa using hd), getElem!_pos d _ hd]; simp
    have e2 : (flatT d.toList).toArray[t]? = (flatT d.toList)[t]? := by simp
    rw [e2, h1, e1]
    have h3 : t < (flatK encT 3 d).size := by simpa using ht
    rw [Array.getElem?_eq_getElem h3, List.getElem?_eq_getElem h2]
    refine congrArg some ?_
    have h4 := get_flatK encT 3 d t ht
    rw [getElem!_pos (flatK encT 3 d) t h3, getElem!_pos (encT d[t / 3]!) (t % 3) h2] at h4
    exact h4
  · have e2 : (flatT d.toList).toArray[t]? = (flatT d.toList)[t]? := by simp
    rw [e2, Array.getElem?_eq_none (by simp; omega), List.getElem?_eq_none (by rw [flatT_len]; simp; omega)]
theorem encT_one (x : Tr) : ∀ v ∈ encT x, v.oneCell' = true := by
  intro v hv
  simp [encT] at hv
  rcases hv with rfl | rfl | rfl <;> rfl

theorem cmpT_yes (x y : Tr) : ltOf cmpT x y = true ↔ ltT x y := by
  unfold ltOf
  rw [decide_eq_true_iff]
  exact cmpT_lt x y
theorem cmpT_no (x y : Tr) : ltOf cmpT x y = false ↔ ¬ ltT x y := by
  unfold ltOf
  rw [decide_eq_false_iff_not]
  exact not_congr (cmpT_lt x y)
theorem swoT : SWO (ltOf cmpT) where
  irrefl x := (cmpT_no x x).2 (ltT_irrefl x)
  trans x y z h1 h2 := (cmpT_yes x z).2 (ltT_trans ((cmpT_yes x y).1 h1) ((cmpT_yes y z).1 h2))
  ntrans x y z h1 h2 := by
    have k1 := (cmpT_no x y).1 h1
    have k2 := (cmpT_no y z).1 h2
    refine (cmpT_no x z).2 ?_
    unfold ltT at *
    omega

theorem heap_putV {w : World} {g n : Nat} {os : Array Obj} {cur : Array Value} {e : TypeId} {fr : Nat × Nat} (d : Array Value) (hb : w.heap[g]? = some (.cells cur e fr)) :
    (grow (putRow id (Sort.ahead w n) g 0 d) os).heap[g]? = some (.cells (putCells id 0 d cur) e fr) := by
  have hg : g < w.heap.size := (Array.getElem?_eq_some_iff.1 hb).1
  rw [heap_grow_old _ _ (by simpa using hg)]
  simp [putRow, mapBlock, Sort.ahead, Array.getElem?_modify, hb, onCells]
theorem grownBy_putV {w : World} {g n : Nat} {os : Array Obj} (d : Array Value) : w.grownBy (grow (putRow id (Sort.ahead w n) g 0 d) os) (some g) := by
  refine ⟨rfl, rfl, rfl, by simp, fun k hk hne => ?_⟩
  rw [heap_grow_old _ _ (by simpa using hk)]
  have : g ≠ k := fun e => hne (by rw [e])
  simp [putRow, mapBlock, Sort.ahead, Array.getElem?_modify, this]
theorem take_putV (cur : Array Value) (ts : List Value) (h : ts.length ≤ cur.size) : (putCells id 0 ts.toArray cur).toList.take ts.length = ts := by
  apply List.ext_getElem?
  intro j
  by_cases hj : j < ts.length
  · rw [List.getElem?_take_of_lt hj, Array.getElem?_toList]
    simp [putCells, hj, show j < cur.size by omega]
  · rw [List.getElem?_take_eq_none (by omega), List.getElem?_eq_none (by omega)]
theorem holds_of_vals {w : World} {g : Nat} {cur : Array Value} {e : TypeId} {L : List Value} (hb : w.heap[g]? = some (.cells cur e (0, 0))) (ht : cur.toList.take L.length = L) : Holds id w g 0 L.toArray := by
  intro j hj
  have hj' : j < L.length := by simpa using hj
  refine ⟨?_, by simp [World.frozen?, hb]⟩
  have h1 : (cur.toList.take L.length)[j]? = L[j]? := by rw [ht]
  rw [List.getElem?_take_of_lt hj'] at h1
  simp only [World.cell?, hb, Nat.zero_add]
  simp only [Option.isSome_none, Bool.false_eq_true, if_false]
  rw [← Array.getElem?_toList, h1]
  simp [hj']

theorem compare_lays (blk off size : Nat) (w : World) : CmpLays Try.prog 114 #[] encT 3 cmpT blk off size w :=
  fun _ _ _ _ x y => compareRuns_any x y _

end Go.Proofs.Ytddfdciohnabbab
