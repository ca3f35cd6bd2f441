/- The model's test of a word. -/
import Derived.Test.YtfipbnognjepkaaDoorWord
import Derived.WalkKit
import Derived.Below
namespace Go.Proofs.YtfipbnognjepkaaDoor
open Go.RowKit

end Go.Proofs.YtfipbnognjepkaaDoor
