/- The numbers of letters. -/
import Derived.Test.YtkemdiefoohdjaaDoorInts
import Derived.Test.YtkemdiefoohdjaaDoorLettersPlain
import Derived.Lib.OthersKept
import Derived.WalkSmall
namespace Go.Proofs.YtkemdiefoohdjaaDoor
set_option linter.unusedVariables false
set_option linter.unusedSimpArgs false
open Go.RowKit

end Go.Proofs.YtkemdiefoohdjaaDoor
