/- The library's functions, by contracts. -/
import Derived.Test.YtolboinemechpaaShelf
import Derived.Test.YtolboinemechpaaRows
import Derived.WalkKit
import Derived.ProofKit
namespace Go.Proofs.Ytolboinemechpaa
set_option linter.unusedVariables false
open Go.RowKit

end Go.Proofs.Ytolboinemechpaa
