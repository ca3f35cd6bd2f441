/- The factors of a length: the model. -/
import Derived.Test.YthjbdcoklgnnlaaPut
import Derived.Test.YthjbdcoklgnnlaaFactor
namespace Go.Proofs.Ythjbdcoklgnnlaa
set_option linter.unusedVariables false
set_option linter.unusedSimpArgs false
open Go.RowKit

end Go.Proofs.Ythjbdcoklgnnlaa
