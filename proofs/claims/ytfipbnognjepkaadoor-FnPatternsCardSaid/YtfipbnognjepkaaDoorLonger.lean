/- Words with one letter more. -/
import Derived.Test.YtfipbnognjepkaaDoorStrs
import Derived.Test.YtfipbnognjepkaaDoorWordOfS
import Derived.Test.YtfipbnognjepkaaDoorWordsPlain
namespace Go.Proofs.YtfipbnognjepkaaDoor
set_option linter.unusedVariables false
set_option linter.unusedSimpArgs false
open Go.RowKit

theorem ownS_snoc {w : World} {B : Nat} {v : Value} {L : List ByteArray} {s : ByteArray} (h : w.ownsRow B 9 1 v (L.length + 1) (L.map Value.string ++ [Value.string s])) : OwnS w B v (L ++ [s]) := by
  unfold OwnS
  rw [List.length_append, List.map_append]
  exact h

end Go.Proofs.YtfipbnognjepkaaDoor
