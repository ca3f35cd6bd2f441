/- The letters of a word: the program and the model. -/
import Derived.Test.YthjbdcoklgnnlabNumbers
namespace Go.Proofs.Ythjbdcoklgnnlab
set_option linter.unusedVariables false
set_option linter.unusedSimpArgs false
open Go.RowKit

end Go.Proofs.Ythjbdcoklgnnlab
