/- The root of a word: the program and the model. -/
import Derived.Test.YtkemdiefoohdjabGreatRoot
import Derived.Outline
namespace Go.Proofs.YtkemdiefoohdjabGreat
set_option linter.unusedVariables false
set_option linter.unusedSimpArgs false
open Go.RowKit

end Go.Proofs.YtkemdiefoohdjabGreat
