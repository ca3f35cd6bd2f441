/- The numbers of letters. -/
import Derived.Test.YtfipbnognjepkaaGreatDoorInts
import Derived.Test.YtfipbnognjepkaaGreatDoorLettersPlain
import Derived.Lib.OthersKept
import Derived.WalkSmall
namespace Go.Proofs.YtfipbnognjepkaaGreatDoor
set_option linter.unusedVariables false
set_option linter.unusedSimpArgs false
open Go.RowKit

set_option maxRecDepth 100000 in
theorem l01At_any (x : ByteArray) (k : Nat) (w : World) (h : k < x.size) (hs : x.size ≤ 60) :
    Calls Tryz.prog 190 #[.string x, .int .i64 k] w fun e w' => e = .returned (.int .i64 (((x[k]'h).toNat : Int) - 97)) ∧ Below w.heap.size w w' := by
  have hb : (x[k]'h).toNat ≤ 255 := by have := (x[k]'h).toNat_lt; omega
  go_enter Tryz.func190, Tryz.ntmps190
  go_wp2
  go_ret
  exact ⟨rfl, Below.refl _ _⟩

end Go.Proofs.YtfipbnognjepkaaGreatDoor
