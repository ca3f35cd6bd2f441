/- Exponents and double lengths: the program and the model. -/
import Derived.Test.YthjbdcoklgnnlaaGcd
namespace Go.Proofs.Ythjbdcoklgnnlaa
set_option linter.unusedVariables false
set_option linter.unusedSimpArgs false
open Go.RowKit

end Go.Proofs.Ythjbdcoklgnnlaa
