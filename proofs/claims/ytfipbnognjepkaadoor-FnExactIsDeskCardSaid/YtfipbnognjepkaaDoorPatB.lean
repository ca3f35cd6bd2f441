/- The test of a pattern, both sides. -/
import Derived.Test.YtfipbnognjepkaaDoorPatH
namespace Go.Proofs.YtfipbnognjepkaaDoor
set_option linter.unusedVariables false
set_option linter.unusedSimpArgs false
open Go.RowKit

noncomputable def isPB (p : ByteArray) : Bool := decide (IsP p)
theorem isPB_yes {p : ByteArray} (h : IsP p) : isPB p = true := decide_eq_true h
theorem isPB_no {p : ByteArray} (h : ¬ IsP p) : isPB p = false := decide_eq_false h
theorem impl_IsPattern (p : ByteArray) (w : World) (sp : p.size ≤ maxLen) :
    Calls Tryd.prog 62 #[.string p] w fun e w' => e = .returned (.bool (isPB p)) ∧ Below w.heap.size w w' := by
  by_cases h : IsP p
  · rw [isPB_yes h]; exact isPattern_yes p h w
  · rw [isPB_no h]; exact isPattern_no p sp h w
theorem l10Is_any (p : ByteArray) (w : World) (sp : p.size ≤ maxLen) :
    Calls Tryd.prog 58 #[.string p] w fun e w' => e = .returned (.bool (isPB p)) ∧ Below w.heap.size w w' := by
  by_cases h : IsP p
  · rw [isPB_yes h]; exact l10Is_yes p w h
  · rw [isPB_no h]; exact l10Is_no p w sp h
end Go.Proofs.YtfipbnognjepkaaDoor
