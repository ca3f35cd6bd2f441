/- Ascending words, one more put in: the model. -/
import Derived.Test.YtolboinemechpabStrs
import Derived.Test.YtolboinemechpabPutPlain
import Derived.WalkLawsBesides
import Derived.Sort.Walk0
import Derived.Laws.Cover1
namespace Go.Proofs.Ytolboinemechpab
set_option linter.unusedVariables false
set_option linter.unusedSimpArgs false
open Go.RowKit

theorem lt_facts {a b : ByteArray} (h : wlt a b) : Op.bytesLess a.toList b.toList = true ∧ (a.toList == b.toList) = false := by
  refine ⟨by rw [Proofs.bytesLess_eq, Lib.toList_data, Lib.toList_data]; exact decide_eq_true h, ?_⟩
  rw [Lib.toList_data, Lib.toList_data, beq_eq_false_iff_ne]
  intro e
  unfold wlt at h
  rw [e] at h
  exact List.lt_irrefl _ h
theorem gt_facts {a b : ByteArray} (h : wlt b a) : Op.bytesLess a.toList b.toList = false ∧ (a.toList == b.toList) = false := by
  have h1 : ¬ wlt a b := fun k => wlt_irrefl _ (wlt_trans h k)
  refine ⟨by rw [Proofs.bytesLess_eq, Lib.toList_data, Lib.toList_data]; exact decide_eq_false h1, ?_⟩
  rw [Lib.toList_data, Lib.toList_data, beq_eq_false_iff_ne]
  intro e
  unfold wlt at h
  rw [e] at h
  exact List.lt_irrefl _ h
theorem eq_facts (a : ByteArray) : Op.bytesLess a.toList a.toList = false ∧ (a.toList == a.toList) = true := by
  have h1 : ¬ wlt a a := wlt_irrefl a
  exact ⟨by rw [Proofs.bytesLess_eq, Lib.toList_data]; exact decide_eq_false h1, beq_self_eq_true _⟩

/-- Where the word goes: the words before are less, those from there on are greater. -/
theorem insW_at (L : List ByteArray) (x : ByteArray) (a : Nat) (ha : a ≤ L.length) (hs : Asc L) (hg : ∀ j (h : j < L.length), a ≤ j → wlt x (L[j]'h)) (hl : ∀ j (h : j < L.length), j + 1 = a → wlt (L[j]'h) x) : insW L x = L.take a ++ x :: L.drop a := by
  have := insW_split (L.take a) (L.drop a) x ?_ ?_
  · rwa [List.take_append_drop] at this
  · intro y hy
    obtain ⟨j, hj, rfl⟩ := List.getElem_of_mem hy
    rw [List.length_take] at hj
    rw [List.getElem_take]
    by_cases e : j + 1 = a
    · exact hl j (by omega) e
    · have h2 := hl (a - 1) (by omega) (by omega)
      have h3 : wlt (L[j]'(by omega)) (L[a - 1]'(by omega)) := List.pairwise_iff_getElem.1 hs j (a - 1) (by omega) (by omega) (by omega)
      exact wlt_trans h3 h2
  · intro y hy
    obtain ⟨j, hj, rfl⟩ := List.getElem_of_mem hy
    rw [List.length_drop] at hj
    rw [List.getElem_drop]
    exact hg _ (by omega) (by omega)

end Go.Proofs.Ytolboinemechpab
