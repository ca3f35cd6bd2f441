/- The two tests of a word, the program's own and the model's: contracts. -/
import Derived.Test.YtiojaiddgnbpiaaRows
import Derived.Test.YtiojaiddgnbpiaaPlain
import Derived.WalkKit
import Derived.ProofKit
import Derived.Lib.Hide
namespace Go.Proofs.Ytiojaiddgnbpiaa
set_option linter.unusedVariables false
open Go.RowKit

/-! ### The model's test. -/
end Go.Proofs.Ytiojaiddgnbpiaa
