/- The library's functions, by contracts. -/
import Derived.Test.YtkemdiefoohdjaaShelf
import Derived.Test.YtkemdiefoohdjaaRows
import Derived.WalkKit
import Derived.ProofKit
namespace Go.Proofs.Ytkemdiefoohdjaa
set_option linter.unusedVariables false
open Go.RowKit

set_option maxRecDepth 100000 in
theorem strings_Clone (s : ByteArray) (w : World) (h : s.size ≤ 281474976710656) :
    Calls Try.prog 77 #[.string s] w fun e w' => e = .returned (.string s) ∧ Below w.heap.size w w' := by
  go_enter Try.func77, Try.ntmps77
  go_wp2_with (go_at_call 96; refine (Try.stringslite_Clone _ _ h).mono ?_; rintro e w1 ⟨rfl, b1⟩)
  go_ret
  exact ⟨rfl, b1⟩

end Go.Proofs.Ytkemdiefoohdjaa
