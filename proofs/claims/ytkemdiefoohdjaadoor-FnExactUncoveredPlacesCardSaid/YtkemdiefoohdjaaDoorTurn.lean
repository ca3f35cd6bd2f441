/- Words turned: the program's and the model's. -/
import Derived.Test.YtkemdiefoohdjaaDoorWords
import Derived.Test.YtkemdiefoohdjaaDoorLib
import Derived.Deep.QuietTactic
import Derived.BigQuiet
import Derived.Deep.RegionWith
namespace Go.Proofs.YtkemdiefoohdjaaDoor
set_option linter.unusedVariables false
open Go.RowKit

end Go.Proofs.YtkemdiefoohdjaaDoor
