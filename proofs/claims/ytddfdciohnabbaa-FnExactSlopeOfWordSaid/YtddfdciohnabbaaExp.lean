/- Exponents and double lengths: the program and the model. -/
import Derived.Test.YtddfdciohnabbaaGcd
namespace Go.Proofs.Ytddfdciohnabbaa
set_option linter.unusedVariables false
set_option linter.unusedSimpArgs false
open Go.RowKit

end Go.Proofs.Ytddfdciohnabbaa
