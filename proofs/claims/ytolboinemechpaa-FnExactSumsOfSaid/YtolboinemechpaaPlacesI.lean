/- The places of a factor: the program. -/
import Derived.Test.YtolboinemechpaaFacIter
import Derived.Test.YtolboinemechpaaPlacesS
namespace Go.Proofs.Ytolboinemechpaa
set_option linter.unusedVariables false
set_option linter.unusedSimpArgs false
open Go.RowKit Go.Shelf
attribute [local go_sem] Oper.semAt_some

end Go.Proofs.Ytolboinemechpaa
