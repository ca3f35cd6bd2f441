/- The numbers of letters. -/
import Derived.Test.YtkemdiefoohdjaaInts
import Derived.Test.YtkemdiefoohdjaaLettersPlain
import Derived.Lib.OthersKept
import Derived.WalkSmall
namespace Go.Proofs.Ytkemdiefoohdjaa
set_option linter.unusedVariables false
set_option linter.unusedSimpArgs false
open Go.RowKit

end Go.Proofs.Ytkemdiefoohdjaa
