/- The library's functions, by contracts. -/
import Derived.Test.YtkemdiefoohdjaaDoorShelf
import Derived.Test.YtkemdiefoohdjaaDoorRows
import Derived.WalkKit
import Derived.ProofKit
namespace Go.Proofs.YtkemdiefoohdjaaDoor
set_option linter.unusedVariables false
open Go.RowKit

end Go.Proofs.YtkemdiefoohdjaaDoor
