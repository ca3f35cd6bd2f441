/- The root of a word: the program and the model. -/
import Derived.Test.YtinanajagkilaabRoot
import Derived.Outline
namespace Go.Proofs.Ytinanajagkilaab
set_option linter.unusedVariables false
set_option linter.unusedSimpArgs false
open Go.RowKit

end Go.Proofs.Ytinanajagkilaab
