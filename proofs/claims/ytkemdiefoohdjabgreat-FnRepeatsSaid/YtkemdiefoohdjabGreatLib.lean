/- The library's functions, by contracts. -/
import Derived.Test.YtkemdiefoohdjabGreatShelf
import Derived.Test.YtkemdiefoohdjabGreatRows
import Derived.WalkKit
import Derived.ProofKit
namespace Go.Proofs.YtkemdiefoohdjabGreat
set_option linter.unusedVariables false
open Go.RowKit

set_option maxRecDepth 100000 in
theorem strings_Clone (s : ByteArray) (w : World) (h : s.size ≤ 281474976710656) :
    Calls Tryz.prog 38 #[.string s] w fun e w' => e = .returned (.string s) ∧ Below w.heap.size w w' := by
  go_enter Tryz.func38, Tryz.ntmps38
  go_wp2_with (go_at_call 60; refine (Tryz.stringslite_Clone _ _ h).mono ?_; rintro e w1 ⟨rfl, b1⟩)
  go_ret
  exact ⟨rfl, b1⟩

end Go.Proofs.YtkemdiefoohdjabGreat
