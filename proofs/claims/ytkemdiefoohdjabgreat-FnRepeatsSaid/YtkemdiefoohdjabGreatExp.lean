/- Exponents and double lengths: the program and the model. -/
import Derived.Test.YtkemdiefoohdjabGreatGcd
namespace Go.Proofs.YtkemdiefoohdjabGreat
set_option linter.unusedVariables false
set_option linter.unusedSimpArgs false
open Go.RowKit

end Go.Proofs.YtkemdiefoohdjabGreat
