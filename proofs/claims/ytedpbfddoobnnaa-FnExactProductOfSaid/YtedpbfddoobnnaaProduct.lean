/- Products: the program's and the model's. -/
import Derived.Test.YtedpbfddoobnnaaWords
import Derived.Test.YtedpbfddoobnnaaLib
namespace Go.Proofs.Ytedpbfddoobnnaa
open Go.RowKit

set_option maxRecDepth 100000 in
theorem impl_ProductOf (x y : ByteArray) (w : World) (sx : x.size ≤ maxLen) (sy : y.size ≤ maxLen) :
    Calls Try.prog 17 #[.string x, .string y] w fun e w' => e = .returned (.tuple #[.string (productR x y).1, .int .i64 (productR x y).2]) ∧ Below w.heap.size w w' := by
  by_cases h : IsW x ∧ IsW y
  · have h1 := h.1.size
    have h2 := h.2.size
    by_cases hl : 60 < x.size + y.size
    · rw [productR_long h hl]
      have H := Lib.hid h
      clear h
      go_enter Try.func17, Try.ntmps17
      go_wp2_with (go_at_call 78; refine (areWords2_yes _ x y _ (by simp) (by simp [go_sem]) (by simp [go_sem]) H.out.1 H.out.2).mono ?_; rintro e w1 ⟨rfl, b1⟩)
      go_ret2
      exact ⟨rfl, ((Below.refl _ _).alloc (Nat.le_refl _) _).trans (b1.mono (by simp))⟩
    · rw [productR_ok h hl]
      have H := Lib.hid h
      clear h
      go_enter Try.func17, Try.ntmps17
      go_wp2_with (first | (go_at_call 78; refine (areWords2_yes _ x y _ (by simp) (by simp [go_sem]) (by simp [go_sem]) H.out.1 H.out.2).mono ?_; rintro e w1 ⟨rfl, b1⟩) | (go_at_call 79; refine (strings_Clone _ _ (by simp; omega)).mono ?_; rintro e w2 ⟨rfl, b2⟩))
      go_ret2
      exact ⟨rfl, (((Below.refl _ _).alloc (Nat.le_refl _) _).trans (b1.mono (by simp))).trans (b2.mono (by have := b1.size; simp at this; omega))⟩
  · rw [productR_bad h]
    have H := Lib.hid h
    clear h
    go_enter Try.func17, Try.ntmps17
    go_wp2_with (go_at_call 78; refine (areWords2_no _ x y _ (by simp) (by simp [go_sem]) (by simp [go_sem]) sx sy H.out).mono ?_; rintro e w1 ⟨rfl, b1⟩)
    go_ret2
    exact ⟨rfl, ((Below.refl _ _).alloc (Nat.le_refl _) _).trans (b1.mono (by simp))⟩

end Go.Proofs.Ytedpbfddoobnnaa
