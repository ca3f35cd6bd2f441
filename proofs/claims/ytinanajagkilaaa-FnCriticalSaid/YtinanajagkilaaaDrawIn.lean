/- The model's draws of factors, of thinned words, of places and of lists of words. -/
import Derived.Test.YtinanajagkilaaaDrawTwo
namespace Go.Proofs.Ytinanajagkilaaa
set_option linter.unusedVariables false
set_option linter.unusedSimpArgs false
open Go.RowKit

/-- What a draw of two numbers comes to. -/
def TwoI (w : World) (e : Ending) (w' : World) : Prop := ∃ (m k : Int), e = .returned (.tuple #[.int .i64 m, .int .i64 k]) ∧ (Lit.int .i64 m).wf = true ∧ (Lit.int .i64 k).wf = true ∧ Below w.heap.size w w'
/-- What a draw of a text and two numbers comes to. -/
def TextII (w : World) (e : Ending) (w' : World) : Prop := ∃ (x : ByteArray) (i m : Int), e = .returned (.tuple #[.string x, .int .i64 i, .int .i64 m]) ∧ x.size ≤ 1000 ∧ (Lit.int .i64 i).wf = true ∧ (Lit.int .i64 m).wf = true ∧ Below w.heap.size w w'
def OneT (w : World) (e : Ending) (w' : World) : Prop := ∃ x : ByteArray, e = .returned (.string x) ∧ x.size ≤ 1000 ∧ Below w.heap.size w w'

end Go.Proofs.Ytinanajagkilaaa
