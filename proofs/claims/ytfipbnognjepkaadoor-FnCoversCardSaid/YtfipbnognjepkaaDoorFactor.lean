/- Factors: the program's and the model's. -/
import Derived.Test.YtfipbnognjepkaaDoorTurn
namespace Go.Proofs.YtfipbnognjepkaaDoor
set_option linter.unusedVariables false
open Go.RowKit

theorem slice_mid (x : ByteArray) (n l : Nat) (h : n + l ≤ x.size) (W : World) :
    (Instr.slice 9 (.string x) (some (.int .i64 (n : Int))) (some (.int .i64 ((n : Int) + (l : Int)))) none).run Tryd.prog W = .ok (.string (x.extract n (n + l))) W := by
  have h1 : (0 : Int) ≤ (n : Int) + l := by omega
  have h2 : (n : Int) + l ≤ x.size := by omega
  have h3 : (0 : Int) ≤ (n : Int) := by omega
  have h4 : (n : Int) ≤ (n : Int) + l := by omega
  have h5 : ((n : Int) + l).toNat = n + l := by omega
  have := run_slice_string (P := Tryd.prog) W 9 x .i64 .i64 (n : Int) ((n : Int) + (l : Int)) Tryd.underlying9 h3 h4 h2
  rw [h5] at this
  exact this

set_option maxRecDepth 100000 in
theorem impl_FactorAt (x : ByteArray) (i m : Int) (w : World) (sx : x.size ≤ maxLen) (wi : (Lit.int .i64 i).wf = true) (wm : (Lit.int .i64 m).wf = true) :
    Calls Tryd.prog 27 #[.string x, .int .i64 i, .int .i64 m] w fun e w' => e = .returned (.tuple #[.string (factR x i m).1, .int .i64 (factR x i m).2]) ∧ Below w.heap.size w w' := by
  by_cases h : IsW x
  · have h1 := h.size
    by_cases hk : i < 0 ∨ m < 0 ∨ (x.size : Int) < i ∨ (x.size : Int) - i < m
    · rw [factR_out h hk]
      have H := Lib.hid h
      clear h
      rcases (show i < 0 ∨ (0 ≤ i ∧ m < 0) ∨ (0 ≤ i ∧ 0 ≤ m ∧ (x.size : Int) < i) ∨ (0 ≤ i ∧ 0 ≤ m ∧ i ≤ x.size ∧ (x.size : Int) - i < m) by omega) with hk | ⟨k1, hk⟩ | ⟨k1, k2, hk⟩ | ⟨k1, k2, k3, hk⟩
      all_goals
        go_enter Tryd.func27, Tryd.ntmps27
        go_wp2_with (go_at_call 61; refine (isWord_yes x _ H.out).mono ?_; rintro e w1 ⟨rfl, b1⟩)
        go_ret2
        exact ⟨rfl, b1⟩
    · obtain ⟨n, rfl⟩ := Int.eq_ofNat_of_zero_le (show 0 ≤ i by omega)
      obtain ⟨l, rfl⟩ := Int.eq_ofNat_of_zero_le (show 0 ≤ m by omega)
      have hn : n + l ≤ x.size := by omega
      clear hk
      rw [factR_ok h hn]
      have H := Lib.hid h
      clear h
      have hsl := fun W => slice_mid x n l hn W
      go_enter Tryd.func27, Tryd.ntmps27
      go_wp2_with (first | (go_at_call 61; refine (isWord_yes x _ H.out).mono ?_; rintro e w1 ⟨rfl, b1⟩) | (go_at_call 83; refine (strings_Clone _ _ (by simp; omega)).mono ?_; rintro e w2 ⟨rfl, b2⟩))
      go_ret2
      exact ⟨rfl, b1.then b2⟩
  · rw [factR_bad h]
    have H := Lib.hid h
    clear h
    go_enter Tryd.func27, Tryd.ntmps27
    go_wp2_with (go_at_call 61; refine (isWord_not x _ sx H.out).mono ?_; rintro e w1 ⟨rfl, b1⟩)
    go_ret2
    exact ⟨rfl, b1⟩

end Go.Proofs.YtfipbnognjepkaaDoor
