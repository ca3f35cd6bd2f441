/- Plain facts: words in order. -/
import Derived.Test.YtedpbfddoobnnabPlain
import Derived.Lib.Bytealg
namespace Go.Proofs.Ytedpbfddoobnnab
set_option linter.unusedVariables false
set_option linter.unusedSimpArgs false
open Go.RowKit

theorem cmp_lists : ∀ (a b : List UInt8), Lib.compareBytes a b = if a < b then -1 else if b < a then 1 else 0
  | [], [] => by simp [Lib.compareBytes]
  | [], _ :: _ => by simp [Lib.compareBytes]
  | _ :: _, [] => by simp [Lib.compareBytes]
  | a :: as, b :: bs => by
    rw [Lib.compareBytes, cmp_lists as bs]
    simp only [List.cons_lt_cons_iff]
    by_cases h1 : a < b
    · simp [h1]
    · by_cases h2 : b < a
      · have hne : ¬ a = b := fun e => by subst e; exact h1 h2
        simp [h1, h2, hne]
      · have he : a = b := UInt8.le_antisymm (UInt8.not_lt.1 h2) (UInt8.not_lt.1 h1)
        subst he
        simp [UInt8.lt_irrefl]
def cmpR (x y : ByteArray) : Int × Int := if ¬ (IsW x ∧ IsW y) then (0, 1) else (Lib.compareBytes x.data.toList y.data.toList, 0)
theorem cmpR_bad {x y : ByteArray} (h : ¬ (IsW x ∧ IsW y)) : cmpR x y = (0, 1) := if_pos h
theorem cmpR_ok {x y : ByteArray} (h : IsW x ∧ IsW y) : cmpR x y = (Lib.compareBytes x.data.toList y.data.toList, 0) := by unfold cmpR; rw [if_neg (not_not_intro h)]

end Go.Proofs.Ytedpbfddoobnnab
