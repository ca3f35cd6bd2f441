/- The root of a word: the program and the model. -/
import Derived.Test.YtddfdciohnabbaaRoot
import Derived.Outline
namespace Go.Proofs.Ytddfdciohnabbaa
set_option linter.unusedVariables false
set_option linter.unusedSimpArgs false
open Go.RowKit

end Go.Proofs.Ytddfdciohnabbaa
