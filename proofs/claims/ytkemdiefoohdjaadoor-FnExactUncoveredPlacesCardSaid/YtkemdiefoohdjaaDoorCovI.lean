/- IsCover: the program. -/
import Derived.Test.YtkemdiefoohdjaaDoorCov
import Derived.Test.YtkemdiefoohdjaaDoorDoorT
import Derived.Handy
namespace Go.Proofs.YtkemdiefoohdjaaDoor
set_option linter.unusedVariables false
set_option linter.unusedSimpArgs false
open Go.RowKit

theorem full_beq {X n : Nat} {f : Nat → Bool} (h : X < 2 ^ n) (hf : ∀ j, X.testBit j = f j) : (((X : Nat) : Int) == ((mskF 0 n : Nat) : Int)) = allB n f := by
  rw [← full_eq h hf, Bool.eq_iff_iff, beq_iff_eq, decide_eq_true_eq]
  omega
theorem nil_yesC {x : ByteArray} (h : x.size = 0) : x.toList.isEmpty = true := by
  have : x = ByteArray.empty := by
    cases x with | mk d => simp only [ByteArray.size] at h; rw [Array.eq_empty_of_size_eq_zero h]; rfl
  rw [this, ByteArray.toList_eq]; rfl
theorem nil_noC {x : ByteArray} (h : ¬ x.size = 0) : x.toList.isEmpty = false := by
  rw [ByteArray.toList_eq, List.isEmpty_eq_false_iff]
  intro e
  apply h
  show x.data.size = 0
  rw [← Array.length_toList, e]
  rfl
end Go.Proofs.YtkemdiefoohdjaaDoor
