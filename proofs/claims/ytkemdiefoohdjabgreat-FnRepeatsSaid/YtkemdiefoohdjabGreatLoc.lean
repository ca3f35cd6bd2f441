/- Local periods: the program and the model. -/
import Derived.Test.YtkemdiefoohdjabGreatExp
import Derived.Test.YtkemdiefoohdjabGreatCftPlain
import Derived.WalkMore
import Derived.Deep.LoopGhost
namespace Go.Proofs.YtkemdiefoohdjabGreat
set_option linter.unusedVariables false
set_option linter.unusedSimpArgs false
open Go.RowKit

theorem letter_get (x : ByteArray) (j : Nat) (h : j < x.size) : (bl x)[j]? = some (x[j]'h) := List.getElem?_eq_getElem (by rw [bl_len]; exact h)
theorem letter_eq (x : ByteArray) (j k : Nat) (hj : j < x.size) (hk : k < x.size) : (x[j]'hj).toNat = (x[k]'hk).toNat ↔ (bl x)[j]? = (bl x)[k]? := by
  rw [letter_get x j hj, letter_get x k hk, Option.some.injEq]
  exact ⟨fun h => UInt8.toNat_inj.1 h, fun h => by rw [h]⟩

end Go.Proofs.YtkemdiefoohdjabGreat
