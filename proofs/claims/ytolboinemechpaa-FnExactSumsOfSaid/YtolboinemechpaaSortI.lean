/- The library's Sort and Compact, at a slice of numbers that the call made. -/
import Derived.Test.YtolboinemechpaaShelf
import Derived.Test.YtolboinemechpaaInts
import Derived.Test.YtolboinemechpaaSrtPlain
import Derived.Sort.OwnSorted
namespace Go.Proofs.Ytolboinemechpaa
set_option linter.unusedVariables false
set_option linter.unusedSimpArgs false
open Go.RowKit Go.Sort Go.Proofs

theorem holds_of_ints {w : World} {g : Nat} {cur : Array Value} {e : TypeId} {L : List Int} (hb : w.heap[g]? = some (.cells cur e (0, 0))) (ht : cur.toList.take L.length = L.map (Value.int .i64)) : Holds (Value.int .i64) w g 0 L.toArray := by
  intro j hj
  have hj' : j < L.length := by simpa using hj
  refine ⟨?_, by simp [World.frozen?, hb]⟩
  have h1 : (cur.toList.take L.length)[j]? = (L.map (Value.int .i64))[j]? := by rw [ht]
  rw [List.getElem?_take_of_lt hj'] at h1
  simp only [World.cell?, hb, Nat.zero_add]
  simp only [Option.isSome_none, Bool.false_eq_true, if_false]
  rw [← Array.getElem?_toList, h1]
  simp [hj']
theorem heap_put {w : World} {g n : Nat} {cur : Array Value} {e : TypeId} {fr : Nat × Nat} (d : Array Int) (hb : w.heap[g]? = some (.cells cur e fr)) :
    (putRow (Value.int .i64) (Sort.ahead w n) g 0 d).heap[g]? = some (.cells (putCells (Value.int .i64) 0 d cur) e fr) := by
  simp [putRow, mapBlock, Sort.ahead, Array.getElem?_modify, hb, onCells]
theorem grownBy_put {w : World} {g n : Nat} (d : Array Int) : w.grownBy (putRow (Value.int .i64) (Sort.ahead w n) g 0 d) (some g) := by
  refine ⟨rfl, rfl, rfl, by simp, fun k hk hne => ?_⟩
  have : g ≠ k := fun e => hne (by rw [e])
  simp [putRow, mapBlock, Sort.ahead, Array.getElem?_modify, this]
theorem take_put (cur : Array Value) (ts us : List Int) (h : ts.length + us.length ≤ cur.size) : (putCells (Value.int .i64) 0 (ts ++ us).toArray cur).toList.take ts.length = ts.map (Value.int .i64) := by
  apply List.ext_getElem?
  intro j
  by_cases hj : j < ts.length
  · rw [List.getElem?_take_of_lt hj, Array.getElem?_toList]
    simp [putCells, hj, show j < cur.size by omega, show j < ts.length + us.length by omega, List.getElem_append]
  · rw [List.getElem?_take_eq_none (by omega), List.getElem?_eq_none (by simp; omega)]
theorem heap_putG {w : World} {g n : Nat} {os : Array Obj} {cur : Array Value} {e : TypeId} {fr : Nat × Nat} (d : Array Int) (hb : w.heap[g]? = some (.cells cur e fr)) :
    (grow (putRow (Value.int .i64) (Sort.ahead w n) g 0 d) os).heap[g]? = some (.cells (putCells (Value.int .i64) 0 d cur) e fr) := by
  have hg : g < w.heap.size := (Array.getElem?_eq_some_iff.1 hb).1
  rw [heap_grow_old _ _ (by simpa using hg)]
  exact heap_put d hb
theorem grownBy_putG {w : World} {g n : Nat} {os : Array Obj} (d : Array Int) : w.grownBy (grow (putRow (Value.int .i64) (Sort.ahead w n) g 0 d) os) (some g) := by
  refine ⟨rfl, rfl, rfl, by simp, fun k hk hne => ?_⟩
  rw [heap_grow_old _ _ (by simpa using hk)]
  have : g ≠ k := fun e => hne (by rw [e])
  simp [putRow, mapBlock, Sort.ahead, Array.getElem?_modify, this]

theorem sortI (B : Nat) (v : Value) (L : List Int) (w : World) (h : OwnI w B v L) (hl : L.length ≤ 4096) :
    Calls Try.prog 57 #[v] w fun e w' => e = .returned (.tuple #[]) ∧ OwnI w' B v (sorted L) ∧ w.grownBy w' v.ownBlock := by
  by_cases h0 : L = []
  · subst h0
    obtain ⟨a1, c1, rfl⟩ := h.empty
    refine (Try.slices_Sort_int_none _ _ _).mono ?_
    rintro e w' ⟨rfl, rfl⟩
    exact ⟨rfl, by rw [show sorted [] = [] from List.eq_nil_of_length_eq_zero (sorted_len [])]; exact h, grown_refl _ _⟩
  · have hn : 0 < L.length := List.length_pos_iff.2 h0
    rcases h.2 with ⟨rfl, e0⟩ | ⟨g, cap, cur, rfl, hbase, hb, h1, h2, h3, h4⟩
    · omega
    have hH := holds_of_ints (L := L) hb (by simpa using h4)
    refine (Try.slices_Sort_int g 0 cap L w hH (Array.getElem?_eq_some_iff.1 hb).1 (by omega)).mono ?_
    rintro e w' ⟨rfl, n, os, rfl⟩
    refine ⟨rfl, ?_, grownBy_putG _⟩
    have e1 := sorted_len L
    unfold OwnI
    rw [sorted_len]
    refine ⟨by simp [e1], .inr ⟨g, cap, _, rfl, hbase, heap_putG _ hb, h1, h2, by simp [putCells, h3], ?_⟩⟩
    have := take_put cur (sorted L) [] (by rw [e1]; simp only [List.length_nil]; omega)
    rw [List.append_nil, e1] at this
    rw [Nat.mul_one]
    exact this

theorem compactI (B : Nat) (v : Value) (L : List Int) (w : World) (h : OwnI w B v L) (hl : L.length ≤ 4096) (hc : (Lib.compact L).length ≤ L.length) :
    Calls Try.prog 80 #[v] w fun e w' => ∃ u, e = .returned u ∧ OwnI w' B u (Lib.compact L) ∧ w.grownBy w' v.ownBlock := by
  by_cases h0 : L = []
  · subst h0
    obtain ⟨a1, c1, rfl⟩ := h.empty
    refine (Try.slices_Compact_int_empty _ _ _).mono ?_
    rintro e w' ⟨rfl, rfl⟩
    have e1 : Lib.compact [] = [] := List.eq_nil_of_length_eq_zero (by simpa using hc)
    exact ⟨_, rfl, by rw [e1]; exact h, grown_refl _ _⟩
  · have hn : 0 < L.length := List.length_pos_iff.2 h0
    rcases h.2 with ⟨rfl, e0⟩ | ⟨g, cap, cur, rfl, hbase, hb, h1, h2, h3, h4⟩
    · omega
    have hH := holds_of_ints (L := L) hb (by simpa using h4)
    refine (Try.slices_Compact_int g 0 cap L w hH (by omega) h1).mono ?_
    rintro e w' ⟨rfl, q, rfl⟩
    refine ⟨_, rfl, ?_, grownBy_put _⟩
    unfold OwnI
    refine ⟨by simp, .inr ⟨g, cap, _, rfl, hbase, heap_put _ hb, by omega, h2, by simp [putCells, h3], ?_⟩⟩
    rw [Nat.mul_one]
    exact take_put cur (Lib.compact L) _ (by rw [List.length_replicate]; omega)

end Go.Proofs.Ytolboinemechpaa
