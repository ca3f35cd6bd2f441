/- Words turned: the program's and the model's. -/
import Derived.Test.YtddfdciohnabbacGreatWords
import Derived.Test.YtddfdciohnabbacGreatLib
import Derived.Deep.QuietTactic
import Derived.BigQuiet
import Derived.Deep.RegionWith
namespace Go.Proofs.YtddfdciohnabbacGreat
set_option linter.unusedVariables false
open Go.RowKit

end Go.Proofs.YtddfdciohnabbacGreat
