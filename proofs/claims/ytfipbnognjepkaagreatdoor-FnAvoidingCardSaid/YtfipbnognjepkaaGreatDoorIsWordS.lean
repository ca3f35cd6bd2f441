/- The model's test of a word. -/
import Derived.Test.YtfipbnognjepkaaGreatDoorWord
import Derived.WalkKit
import Derived.Below
namespace Go.Proofs.YtfipbnognjepkaaGreatDoor
open Go.RowKit

end Go.Proofs.YtfipbnognjepkaaGreatDoor
