/- Exponents and double lengths: the program and the model. -/
import Derived.Test.YtolboinemechpabGcd
namespace Go.Proofs.Ytolboinemechpab
set_option linter.unusedVariables false
set_option linter.unusedSimpArgs false
open Go.RowKit

end Go.Proofs.Ytolboinemechpab
