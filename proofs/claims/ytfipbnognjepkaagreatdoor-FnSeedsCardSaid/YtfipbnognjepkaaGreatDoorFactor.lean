/- Factors: the program's and the model's. -/
import Derived.Test.YtfipbnognjepkaaGreatDoorTurn
namespace Go.Proofs.YtfipbnognjepkaaGreatDoor
set_option linter.unusedVariables false
open Go.RowKit

theorem slice_mid (x : ByteArray) (n l : Nat) (h : n + l ≤ x.size) (W : World) :
    (Instr.slice 9 (.string x) (some (.int .i64 (n : Int))) (some (.int .i64 ((n : Int) + (l : Int)))) none).run Tryz.prog W = .ok (.string (x.extract n (n + l))) W := by
  have h1 : (0 : Int) ≤ (n : Int) + l := by omega
  have h2 : (n : Int) + l ≤ x.size := by omega
  have h3 : (0 : Int) ≤ (n : Int) := by omega
  have h4 : (n : Int) ≤ (n : Int) + l := by omega
  have h5 : ((n : Int) + l).toNat = n + l := by omega
  have := run_slice_string (P := Tryz.prog) W 9 x .i64 .i64 (n : Int) ((n : Int) + (l : Int)) Tryz.underlying9 h3 h4 h2
  rw [h5] at this
  exact this

end Go.Proofs.YtfipbnognjepkaaGreatDoor
