/- The square that ends first: the program and the model. -/
import Derived.Test.YtddfdciohnabbabSqPlain
import Derived.Test.YtddfdciohnabbabLoc
import Derived.Test.YtddfdciohnabbabFactor
namespace Go.Proofs.Ytddfdciohnabbab
set_option linter.unusedVariables false
set_option linter.unusedSimpArgs false
open Go.RowKit

theorem slice_two (x : ByteArray) (a b : Int) (n m : Nat) (ha : a = n) (hb : b = m) (h : n ≤ m) (hm : m ≤ x.size) (W : World) :
    (Instr.slice 9 (.string x) (some (.int .i64 a)) (some (.int .i64 b)) none).run Try.prog W = .ok (.string (x.extract n m)) W := by
  subst ha hb
  have := slice_mid x n (m - n) (by omega) W
  rw [show (n : Int) + ((m - n : Nat) : Int) = (m : Int) by omega, show n + (m - n) = m by omega] at this
  exact this

/-! ### The exported ones. -/
end Go.Proofs.Ytddfdciohnabbab
