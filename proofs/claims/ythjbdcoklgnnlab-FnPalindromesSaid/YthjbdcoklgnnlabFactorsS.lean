/- The factors of a length: the model. -/
import Derived.Test.YthjbdcoklgnnlabPut
import Derived.Test.YthjbdcoklgnnlabFactor
namespace Go.Proofs.Ythjbdcoklgnnlab
set_option linter.unusedVariables false
set_option linter.unusedSimpArgs false
open Go.RowKit

end Go.Proofs.Ythjbdcoklgnnlab
