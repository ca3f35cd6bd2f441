/- The numbers of letters. -/
import Derived.Test.YtbhgghajbdlfkaaInts
import Derived.Test.YtbhgghajbdlfkaaLettersPlain
import Derived.Lib.OthersKept
import Derived.WalkSmall
namespace Go.Proofs.Ytbhgghajbdlfkaa
set_option linter.unusedVariables false
set_option linter.unusedSimpArgs false
open Go.RowKit

end Go.Proofs.Ytbhgghajbdlfkaa
