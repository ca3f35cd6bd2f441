/- The test of a pattern, both sides. -/
import Derived.Test.YtfipbnognjepkaaGreatDoorPatH
namespace Go.Proofs.YtfipbnognjepkaaGreatDoor
set_option linter.unusedVariables false
set_option linter.unusedSimpArgs false
open Go.RowKit

noncomputable def isPB (p : ByteArray) : Bool := decide (IsP p)
theorem isPB_yes {p : ByteArray} (h : IsP p) : isPB p = true := decide_eq_true h
theorem isPB_no {p : ByteArray} (h : ¬ IsP p) : isPB p = false := decide_eq_false h
theorem impl_IsPattern (p : ByteArray) (w : World) (sp : p.size ≤ maxLen) :
    Calls Tryz.prog 21 #[.string p] w fun e w' => e = .returned (.bool (isPB p)) ∧ Below w.heap.size w w' := by
  by_cases h : IsP p
  · rw [isPB_yes h]; exact isPattern_yes p h w
  · rw [isPB_no h]; exact isPattern_no p sp h w
theorem l10Is_any (p : ByteArray) (w : World) (sp : p.size ≤ maxLen) :
    Calls Tryz.prog 73 #[.string p] w fun e w' => e = .returned (.bool (isPB p)) ∧ Below w.heap.size w w' := by
  by_cases h : IsP p
  · rw [isPB_yes h]; exact l10Is_yes p w h
  · rw [isPB_no h]; exact l10Is_no p w sp h
set_option maxRecDepth 100000 in
theorem spec_IsPattern (p : ByteArray) (w : World) (sp : p.size ≤ maxLen) :
    Calls Tryz.prog 22 #[.string p] w fun e w' => e = .returned (.bool (isPB p)) ∧ Below w.heap.size w w' := by
  have C := Lib.hid (fun W => l10Is_any p W sp)
  generalize isPB p = r at *
  go_enter Tryz.func22, Tryz.ntmps22
  go_wp2_with (go_at_call 73; (with_reducible refine (C.out _).mono ?_); rintro e w1 ⟨rfl, b1⟩)
  go_ret
  exact ⟨rfl, b1⟩

end Go.Proofs.YtfipbnognjepkaaGreatDoor
