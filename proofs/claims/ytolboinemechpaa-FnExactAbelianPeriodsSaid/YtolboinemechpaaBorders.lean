/- The borders of a word: the program and the model. -/
import Derived.Test.YtolboinemechpaaPers
import Derived.Test.YtolboinemechpaaPerRPlain
import Derived.Test.YtolboinemechpaaLib
import Derived.Test.YtolboinemechpaaWord
namespace Go.Proofs.Ytolboinemechpaa
set_option linter.unusedVariables false
set_option linter.unusedSimpArgs false
open Go.RowKit

end Go.Proofs.Ytolboinemechpaa
