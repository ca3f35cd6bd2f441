/- Words that are less than their rests: the model's test. -/
import Derived.Test.YtkemdiefoohdjabGreatRoot
import Derived.Test.YtkemdiefoohdjabGreatLexPlain
import Derived.Sort.Walk0
import Derived.WalkLawsBesides
import Derived.Deep.LoopGhost
namespace Go.Proofs.YtkemdiefoohdjabGreat
set_option linter.unusedVariables false
set_option linter.unusedSimpArgs false
open Go.RowKit

open Classical in
noncomputable def lynB (l : List UInt8) : Bool := decide (Lyn l)
theorem lynB_yes {l : List UInt8} (h : Lyn l) : lynB l = true := by unfold lynB; exact @decide_eq_true _ (_) h
theorem lynB_no {l : List UInt8} (h : ¬ Lyn l) : lynB l = false := by unfold lynB; exact @decide_eq_false _ (_) h

theorem less_yes {a b : ByteArray} (h : bl a < bl b) : Op.bytesLess a.toList b.toList = true := by rw [Proofs.bytesLess_eq, ByteArray.toList_eq, ByteArray.toList_eq]; exact decide_eq_true h
theorem less_no {a b : ByteArray} (h : ¬ bl a < bl b) : Op.bytesLess a.toList b.toList = false := by rw [Proofs.bytesLess_eq, ByteArray.toList_eq, ByteArray.toList_eq]; exact decide_eq_false h

end Go.Proofs.YtkemdiefoohdjabGreat
