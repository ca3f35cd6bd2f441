/- A table of truth values. -/
import Derived.Test.YtkemdiefoohdjabInts
namespace Go.Proofs.Ytkemdiefoohdjab
set_option linter.unusedVariables false
set_option linter.unusedSimpArgs false
open Go.RowKit

theorem infoBoolG : (Try.prog.info? 4).map (fun i => (i.zero, i.size, i.bytes)) = some (some (.bool false), 1, 1) := by kernel_rfl
def tabO (n : Nat) (o : Nat → Bool) : List Value := (List.range n).map fun p => Value.bool (o p)
theorem tabO_get (n : Nat) (o : Nat → Bool) (p : Nat) (h : p < n) : (tabO n o)[p]? = some (.bool (o p)) := by simp [tabO, h]
theorem tabO_set (n : Nat) (o : Nat → Bool) (p : Nat) (z : Bool) : (tabO n o).set p (.bool z) = tabO n (fun q => if q = p then z else o q) := by
  apply List.ext_getElem
  · simp [tabO]
  · intro i h1 h2
    rw [List.getElem_set]
    by_cases e : p = i
    · subst e; simp [tabO]
    · rw [if_neg e]
      simp [tabO, Ne.symm e]
theorem tabO_zero (n : Nat) : tabO n (fun _ => false) = List.replicate n (.bool false) := by
  unfold tabO
  rw [List.eq_replicate_iff]
  refine ⟨by rw [List.length_map, List.length_range], fun b hb => ?_⟩
  obtain ⟨s, _, rfl⟩ := List.mem_map.1 hb
  rfl
abbrev TabO (W : World) (B G n : Nat) (o : Nat → Bool) : Prop := W.ownsRow B 4 1 (.slice (some ⟨G, 0, none⟩) n n) n (tabO n o)
theorem TabO.at {W : World} {B G n : Nat} {o : Nat → Bool} (h : TabO W B G n o) {p : Nat} (hp : p < n) : W.cell? ⟨G, p, none⟩ = some (.bool (o p)) := by
  rw [h.cellAt p (by omega)]
  exact tabO_get n o p hp
theorem TabO.set {W : World} {B G n : Nat} {o : Nat → Bool} (h : TabO W B G n o) (p : Nat) (z : Bool) : TabO (W.setCell ⟨G, p, none⟩ (.bool z)) B G n (fun q => if q = p then z else o q) := by
  have := (h.stored p (.bool z)).1
  rwa [tabO_set] at this
theorem make_cellsB (n : Nat) (hn : n ≤ 60) (W : World) : (Instr.makeSlice 150 (.int .i64 (n : Int)) (.int .i64 (n : Int))).run Try.prog W = .ok (.slice (some ⟨W.heap.size, 0, none⟩) n n) (W.alloc (.cells (madeCells #[.bool false] n) 4)) := by
  obtain ⟨i0, hi, hz0, hz1, hz2⟩ := info_parts infoBoolG
  have := run_make (P := Try.prog) W 150 4 i0 (.bool false) Try.underlying150 hi hz0 .i64 .i64 n n (by omega) (Int.le_refl _) (by rw [hz2]; omega) (by omega)
  simpa [hz1, Value.cells] using this
theorem made_tabB (n : Nat) (hn : n ≤ 60) (W : World) (B : Nat) (hB : B ≤ W.heap.size) : TabO (W.alloc (.cells (madeCells #[.bool false] n) 4)) B W.heap.size n (fun _ => false) := by
  have h := own_base (World.ownsRow_lit (e := 4) W (madeCells #[.bool false] n) n (Nat.le_refl _) (by unfold maxLen; omega) (by simpa using size_madeCells (#[Value.bool false]) n)) hB
  have e := toList_madeCells_one (.bool false) n
  rw [e, ← tabO_zero] at h
  exact h
theorem OwnI.lkC {w : World} {B : Nat} {v : Value} {L : List Int} (h : OwnI w B v L) : ∃ ad cap, v = .slice ad L.length cap ∧ ∀ j (hj : j < L.length), ∃ g, ad = some ⟨g, 0, none⟩ ∧ g < w.heap.size ∧ j < cap ∧ w.cell? ⟨g, j, none⟩ = some (.int .i64 (L[j]'hj)) := by
  rcases own_forms h with ⟨rfl, h0, _⟩ | ⟨g, cap, rfl, _, hg, hc, _, hk, _⟩
  · exact ⟨_, _, by rw [h0], fun j hj => by omega⟩
  · refine ⟨_, _, rfl, fun j hj => ⟨g, rfl, hg, by omega, ?_⟩⟩
    rw [hk j hj]
    simp [hj]

end Go.Proofs.Ytkemdiefoohdjab
