/- The model's periods of a word. -/
import Derived.Test.YtfipbnognjepkaaGreatDoorInts
import Derived.Test.YtfipbnognjepkaaGreatDoorPerPlain
import Derived.Test.YtfipbnognjepkaaGreatDoorPlacesPlain
namespace Go.Proofs.YtfipbnognjepkaaGreatDoor
set_option linter.unusedVariables false
set_option linter.unusedSimpArgs false
open Go.RowKit

theorem slice_to (x : ByteArray) (z : Int) (n : Nat) (hz : z = n) (h : n ≤ x.size) (W : World) :
    (Instr.slice 9 (.string x) none (some (.int .i64 z)) none).run Tryz.prog W = .ok (.string (x.extract 0 n)) W := by
  subst hz
  have := run_slice_string_h (P := Tryz.prog) W 9 x Tryz.underlying9 .i64 (n : Int) (by omega) (by omega)
  simpa using this

theorem slice_from (x : ByteArray) (z : Int) (n : Nat) (hz : z = n) (h : n ≤ x.size) (W : World) :
    (Instr.slice 9 (.string x) (some (.int .i64 z)) none none).run Tryz.prog W = .ok (.string (x.extract n x.size)) W := by
  subst hz
  have := run_slice_string_l (P := Tryz.prog) W 9 x Tryz.underlying9 .i64 (n : Int) (by omega) (by omega)
  simpa using this

end Go.Proofs.YtfipbnognjepkaaGreatDoor
