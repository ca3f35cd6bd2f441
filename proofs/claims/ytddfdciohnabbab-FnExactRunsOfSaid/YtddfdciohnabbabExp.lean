/- Exponents and double lengths: the program and the model. -/
import Derived.Test.YtddfdciohnabbabGcd
namespace Go.Proofs.Ytddfdciohnabbab
set_option linter.unusedVariables false
set_option linter.unusedSimpArgs false
open Go.RowKit

end Go.Proofs.Ytddfdciohnabbab
