/- The places of a factor: the model. -/
import Derived.Test.YtolboinemechpaaInts
import Derived.Test.YtolboinemechpaaFactor
import Derived.Test.YtolboinemechpaaNumbers
import Derived.Test.YtolboinemechpaaPlacesPlain
namespace Go.Proofs.Ytolboinemechpaa
set_option linter.unusedVariables false
set_option linter.unusedSimpArgs false
open Go.RowKit

end Go.Proofs.Ytolboinemechpaa
