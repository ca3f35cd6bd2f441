/- The library's functions, by contracts. -/
import Derived.Test.YtfipbnognjepkaaDoorShelf
import Derived.Test.YtfipbnognjepkaaDoorRows
import Derived.WalkKit
import Derived.ProofKit
namespace Go.Proofs.YtfipbnognjepkaaDoor
set_option linter.unusedVariables false
open Go.RowKit

set_option maxRecDepth 100000 in
theorem strings_Clone (s : ByteArray) (w : World) (h : s.size ≤ 281474976710656) :
    Calls Tryd.prog 83 #[.string s] w fun e w' => e = .returned (.string s) ∧ Below w.heap.size w w' := by
  go_enter Tryd.func83, Tryd.ntmps83
  go_wp2_with (go_at_call 145; refine (Tryd.stringslite_Clone _ _ h).mono ?_; rintro e w1 ⟨rfl, b1⟩)
  go_ret
  exact ⟨rfl, b1⟩

end Go.Proofs.YtfipbnognjepkaaDoor
