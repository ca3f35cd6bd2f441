/- What the law on factors wants of slices. -/
import Derived.Test.YtlaefpmfbnldfabFnFacPlain
import Derived.Test.YtlaefpmfbnldfabInts
import Derived.Test.YtlaefpmfbnldfabStrs
import Derived.Test.YtlaefpmfbnldfabLyn
namespace Go.Proofs.Ytlaefpmfbnldfab
set_option linter.unusedVariables false
set_option linter.unusedSimpArgs false
open Go.RowKit

theorem OwnI.form {w : World} {B : Nat} {v : Value} {L : List Int} (h : OwnI w B v L) : ∃ ad cap, v = .slice ad L.length cap ∧ ∀ j (hj : j < L.length), ∃ g, ad = some ⟨g, 0, none⟩ ∧ g < w.heap.size ∧ j < cap ∧ w.cell? ⟨g, j, none⟩ = some (.int .i64 (L[j]'hj)) := by
  by_cases h0 : L = []
  · subst h0
    obtain ⟨a, c, rfl⟩ := h.empty
    exact ⟨a, c, rfl, fun j hj => absurd hj (Nat.not_lt_zero _)⟩
  · obtain ⟨g, c, rfl, _, hg, hc, _, cell, _⟩ := h.row (List.length_pos_iff.2 h0)
    exact ⟨_, c, rfl, fun j hj => ⟨g, rfl, hg, by omega, cell j hj⟩⟩
theorem OwnS.form {w : World} {B : Nat} {v : Value} {L : List ByteArray} (h : OwnS w B v L) : ∃ ad cap, v = .slice ad L.length cap ∧ ∀ j (hj : j < L.length), ∃ g, ad = some ⟨g, 0, none⟩ ∧ g < w.heap.size ∧ j < cap ∧ w.cell? ⟨g, j, none⟩ = some (.string (L[j]'hj)) := by
  by_cases h0 : L = []
  · subst h0
    obtain ⟨a, c, rfl⟩ := h.empty
    exact ⟨a, c, rfl, fun j hj => absurd hj (Nat.not_lt_zero _)⟩
  · obtain ⟨g, c, rfl, _, hg, hc, _, cell, _⟩ := h.row (List.length_pos_iff.2 h0)
    exact ⟨_, c, rfl, fun j hj => ⟨g, rfl, hg, by omega, cell j hj⟩⟩
def hasW (u : ByteArray) (L : List ByteArray) : Bool := L.any fun z => decide (z = u)
theorem hasW_iff {u : ByteArray} {L : List ByteArray} : hasW u L = true ↔ u ∈ L := by
  unfold hasW
  rw [List.any_eq_true]
  constructor
  · rintro ⟨z, hz, h⟩
    rw [← of_decide_eq_true h]; exact hz
  · intro h
    exact ⟨u, h, decide_eq_true rfl⟩
theorem hasW_nil (u : ByteArray) : hasW u [] = false := rfl
theorem mem_take_succ {L : List ByteArray} {u : ByteArray} {k : Nat} (h : k < L.length) : hasW u (L.take (k + 1)) = (hasW u (L.take k) || decide (L[k]'h = u)) := by
  rw [List.take_succ_eq_append_getElem h]
  unfold hasW
  rw [List.any_append]
  simp
theorem asc_less {L : List ByteArray} (h : Asc L) {k : Nat} (hk : k + 1 < L.length) : bl (L[k]'(by omega)) < bl (L[k + 1]'hk) := by
  exact (List.pairwise_iff_getElem.1 h) k (k + 1) (by omega) hk (by omega)
theorem asc_facts {a b : ByteArray} (h : bl a < bl b) : Op.bytesLess a.toList b.toList = true ∧ Op.bytesLess b.toList a.toList = false ∧ (a.toList == b.toList) = false ∧ (b.toList == a.toList) = false :=
  ⟨less_yes h, less_no (fun k => lt_asymm' k h), teq_no (fun e => by subst e; exact lt_asymm' h h), teq_no (fun e => by subst e; exact lt_asymm' h h)⟩

end Go.Proofs.Ytlaefpmfbnldfab
