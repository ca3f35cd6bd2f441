/- The greatest common divisor, exponents, double lengths: the program and the model. -/
import Derived.Test.YtkemdiefoohdjabGreatRootL
import Derived.Test.YtkemdiefoohdjabGreatTurn
import Derived.WalkSmall
namespace Go.Proofs.YtkemdiefoohdjabGreat
set_option linter.unusedVariables false
set_option linter.unusedSimpArgs false
open Go.RowKit

theorem gcd_step (p q : Nat) : Nat.gcd q (p % q) = Nat.gcd p q := by rw [Nat.gcd_comm p q, Nat.gcd_rec q p, Nat.gcd_comm]

end Go.Proofs.YtkemdiefoohdjabGreat
