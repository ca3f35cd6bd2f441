/- The borders of a word: the program and the model. -/
import Derived.Test.YtddfdciohnabbaaPers
import Derived.Test.YtddfdciohnabbaaPerRPlain
import Derived.Test.YtddfdciohnabbaaLib
import Derived.Test.YtddfdciohnabbaaWord
namespace Go.Proofs.Ytddfdciohnabbaa
set_option linter.unusedVariables false
set_option linter.unusedSimpArgs false
open Go.RowKit

end Go.Proofs.Ytddfdciohnabbaa
