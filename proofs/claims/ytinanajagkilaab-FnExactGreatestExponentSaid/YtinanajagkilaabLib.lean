/- The library's functions, by contracts. -/
import Derived.Test.YtinanajagkilaabShelf
import Derived.Test.YtinanajagkilaabRows
import Derived.WalkKit
import Derived.ProofKit
namespace Go.Proofs.Ytinanajagkilaab
set_option linter.unusedVariables false
open Go.RowKit

end Go.Proofs.Ytinanajagkilaab
