/- The model's test of a word. -/
import Derived.Test.YtlaefpmfbnldfabWord
import Derived.WalkKit
import Derived.Below
namespace Go.Proofs.Ytlaefpmfbnldfab
open Go.RowKit

set_option maxRecDepth 100000 in
theorem spec_IsWord_yes (s : ByteArray) (w : World) (h : IsW s) :
    Calls Try.prog 53 #[.string s] w fun e w' => e = .returned (.bool true) ∧ Below w.heap.size w w' := by
  have H := Lib.hid h
  clear h
  go_enter Try.func53, Try.ntmps53
  go_wp2_with (go_at_call 117; refine (l01Is_yes s _ H.out).mono ?_; rintro e w1 ⟨rfl, b1⟩)
  go_ret
  exact ⟨rfl, b1⟩

set_option maxRecDepth 100000 in
theorem spec_IsWord_no (s : ByteArray) (w : World) (hs : s.size ≤ maxLen) (h : ¬ IsW s) :
    Calls Try.prog 53 #[.string s] w fun e w' => e = .returned (.bool false) ∧ Below w.heap.size w w' := by
  have H := Lib.hid h
  clear h
  go_enter Try.func53, Try.ntmps53
  go_wp2_with (go_at_call 117; refine (l01Is_no s _ hs H.out).mono ?_; rintro e w1 ⟨rfl, b1⟩)
  go_ret
  exact ⟨rfl, b1⟩

end Go.Proofs.Ytlaefpmfbnldfab
