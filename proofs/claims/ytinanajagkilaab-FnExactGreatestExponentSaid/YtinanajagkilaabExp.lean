/- Exponents and double lengths: the program and the model. -/
import Derived.Test.YtinanajagkilaabGcd
namespace Go.Proofs.Ytinanajagkilaab
set_option linter.unusedVariables false
set_option linter.unusedSimpArgs false
open Go.RowKit

end Go.Proofs.Ytinanajagkilaab
