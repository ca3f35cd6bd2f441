/- Words turned: the program's and the model's. -/
import Derived.Test.YthjbdcoklgnnlaaWords
import Derived.Test.YthjbdcoklgnnlaaLib
import Derived.Deep.QuietTactic
import Derived.BigQuiet
import Derived.Deep.RegionWith
namespace Go.Proofs.Ythjbdcoklgnnlaa
set_option linter.unusedVariables false
open Go.RowKit

end Go.Proofs.Ythjbdcoklgnnlaa
