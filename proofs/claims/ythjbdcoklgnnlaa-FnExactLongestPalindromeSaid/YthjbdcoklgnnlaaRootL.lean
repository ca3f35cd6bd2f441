/- The root of a word: the program and the model. -/
import Derived.Test.YthjbdcoklgnnlaaRoot
import Derived.Outline
namespace Go.Proofs.Ythjbdcoklgnnlaa
set_option linter.unusedVariables false
set_option linter.unusedSimpArgs false
open Go.RowKit

set_option maxRecDepth 100000 in
theorem l02Given_bad (x : ByteArray) (w : World) (sx : x.size ≤ maxLen) (h : ¬ IsW x) :
    Calls Try.prog 54 #[.string x] w fun e w' => e = .returned (.int .i64 1) ∧ Below w.heap.size w w' := by
  have H := Lib.hid h
  clear h
  go_enter Try.func54, Try.ntmps54
  go_wp2_with fail
  refine (l01Is_no x _ sx H.out).mono ?_
  rintro e w1 ⟨rfl, b1⟩
  go_wp2_with fail
  go_ret
  exact ⟨rfl, b1⟩
set_option maxRecDepth 100000 in
theorem l02Given_nil (x : ByteArray) (w : World) (h : IsW x) (h0 : x.size = 0) :
    Calls Try.prog 54 #[.string x] w fun e w' => e = .returned (.int .i64 5) ∧ Below w.heap.size w w' := by
  have hq := teq_nil h0
  have H := Lib.hid h
  clear h
  go_enter Try.func54, Try.ntmps54
  go_wp2_with fail
  refine (l01Is_yes x _ H.out).mono ?_
  rintro e w1 ⟨rfl, b1⟩
  go_wp2_with fail
  go_ret
  exact ⟨rfl, b1⟩
set_option maxRecDepth 100000 in
theorem l02Given_ok (x : ByteArray) (w : World) (h : IsW x) (h0 : ¬ x.size = 0) :
    Calls Try.prog 54 #[.string x] w fun e w' => e = .returned (.int .i64 0) ∧ Below w.heap.size w w' := by
  have hq := teq_not_nil h0
  have H := Lib.hid h
  clear h
  go_enter Try.func54, Try.ntmps54
  go_wp2_with fail
  refine (l01Is_yes x _ H.out).mono ?_
  rintro e w1 ⟨rfl, b1⟩
  go_wp2_with fail
  go_ret
  exact ⟨rfl, b1⟩

end Go.Proofs.Ythjbdcoklgnnlaa
