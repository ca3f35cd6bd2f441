/- The borders of a word: the program and the model. -/
import Derived.Test.YtkemdiefoohdjabPers
import Derived.Test.YtkemdiefoohdjabPerRPlain
import Derived.Test.YtkemdiefoohdjabLib
import Derived.Test.YtkemdiefoohdjabWord
namespace Go.Proofs.Ytkemdiefoohdjab
set_option linter.unusedVariables false
set_option linter.unusedSimpArgs false
open Go.RowKit

set_option maxRecDepth 100000 in
theorem hasBorder_any (x : ByteArray) (b : Nat) (w : World) (hx : x.size ≤ 60) (hb : b ≤ x.size) :
    Calls Try.prog 147 #[.string x, .int .i64 (b : Int)] w fun e w' => e = .returned (.bool (perT (bl x) (x.size - b))) ∧ Below w.heap.size w w' := by
  have hs := suffix_per x b hb
  have HS := Lib.hid hs
  clear hs
  go_enter Try.func147, Try.ntmps147
  go_wp2_with (go_at_call 165; refine (Try.strings_HasSuffix _ _ _ (by omega)).mono ?_; rintro e w1 ⟨rfl, rfl⟩)
  go_ret
  exact ⟨by rw [← HS.out, bl_take]; rfl, Below.refl _ _⟩

end Go.Proofs.Ytkemdiefoohdjab
