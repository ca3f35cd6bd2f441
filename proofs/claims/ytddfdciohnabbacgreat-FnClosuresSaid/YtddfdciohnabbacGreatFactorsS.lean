/- The factors of a length: the model. -/
import Derived.Test.YtddfdciohnabbacGreatPut
import Derived.Test.YtddfdciohnabbacGreatFactor
namespace Go.Proofs.YtddfdciohnabbacGreat
set_option linter.unusedVariables false
set_option linter.unusedSimpArgs false
open Go.RowKit

end Go.Proofs.YtddfdciohnabbacGreat
