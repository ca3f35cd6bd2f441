/- The places of a factor: the model. -/
import Derived.Test.YtkemdiefoohdjabInts
import Derived.Test.YtkemdiefoohdjabFactor
import Derived.Test.YtkemdiefoohdjabNumbers
import Derived.Test.YtkemdiefoohdjabPlacesPlain
namespace Go.Proofs.Ytkemdiefoohdjab
set_option linter.unusedVariables false
set_option linter.unusedSimpArgs false
open Go.RowKit

end Go.Proofs.Ytkemdiefoohdjab
