/- The root of a word: the program and the model. -/
import Derived.Test.YtolboinemechpabRoot
import Derived.Outline
namespace Go.Proofs.Ytolboinemechpab
set_option linter.unusedVariables false
set_option linter.unusedSimpArgs false
open Go.RowKit

end Go.Proofs.Ytolboinemechpab
