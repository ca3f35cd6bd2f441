/- The model's test of a word. -/
import Derived.Test.YtiojaiddgnbpiaaDoorWord
import Derived.WalkKit
import Derived.Below
namespace Go.Proofs.YtiojaiddgnbpiaaDoor
open Go.RowKit

end Go.Proofs.YtiojaiddgnbpiaaDoor
