/- Exponents and double lengths: the program and the model. -/
import Derived.Test.YtolboinemechpaaGcd
namespace Go.Proofs.Ytolboinemechpaa
set_option linter.unusedVariables false
set_option linter.unusedSimpArgs false
open Go.RowKit

end Go.Proofs.Ytolboinemechpaa
