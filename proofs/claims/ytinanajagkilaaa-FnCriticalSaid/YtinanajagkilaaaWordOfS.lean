/- Words of lists of numbers: the model and the program. -/
import Derived.Test.YtinanajagkilaaaWordOf
import Derived.Test.YtinanajagkilaaaLetter
namespace Go.Proofs.Ytinanajagkilaaa
set_option linter.unusedVariables false
set_option linter.unusedSimpArgs false
open Go.RowKit

set_option maxRecDepth 100000 in
theorem l01In_yes' (n lo hi : Int) (w : World) (h1 : lo ≤ n) (h2 : n ≤ hi) :
    Calls Try.prog 91 #[.int .i64 n, .int .i64 lo, .int .i64 hi] w fun e w' => e = .returned (.bool true) ∧ w = w' := by
  go_enter Try.func91, Try.ntmps91
  go_wp2
  go_ret
  exact ⟨ret_bool (by simp [*]), rfl⟩

set_option maxRecDepth 100000 in
theorem l01In_no' (n lo hi : Int) (w : World) (h : ¬ (lo ≤ n ∧ n ≤ hi)) :
    Calls Try.prog 91 #[.int .i64 n, .int .i64 lo, .int .i64 hi] w fun e w' => e = .returned (.bool false) ∧ w = w' := by
  by_cases h1 : lo ≤ n
  · have h2 : hi < n := by omega
    clear h
    go_enter Try.func91, Try.ntmps91
    go_wp2
    go_ret
    exact ⟨ret_bool (by simp; omega), rfl⟩
  · have h2 : n < lo := by omega
    clear h h1
    go_enter Try.func91, Try.ntmps91
    go_wp2
    go_ret
    exact ⟨rfl, rfl⟩

set_option maxRecDepth 100000 in
theorem impl_WordOfLetters (B : Nat) (v : Value) (L : List Int) (w : World) (h : OwnI w B v L) (hl : L.length ≤ 1048576) :
    Calls Try.prog 19 #[v] w fun e w' => e = .returned (.tuple #[.string (wolR L).1, .int .i64 (wolR L).2]) ∧ Below w.heap.size w w' := by
  have hv : ∃ a c, v = .slice a L.length c := by
    rcases own_forms h with ⟨rfl, h0, _⟩ | ⟨g, cap, rfl, _⟩
    · exact ⟨none, 0, by rw [h0]⟩
    · exact ⟨_, _, rfl⟩
  obtain ⟨a, c, rfl⟩ := hv
  have H := Lib.hid h
  clear h
  by_cases h60 : 60 < L.length
  · rw [wolR_bad (.inl h60)]
    go_enter Try.func19, Try.ntmps19
    go_wp2
    go_ret2
    exact ⟨rfl, Below.refl _ _⟩
  · by_cases hok : okN L
    · rw [wolR_ok (by omega) hok]
      have HOK := Lib.hid hok
      clear hok
      go_enter Try.func19, Try.ntmps19
      go_wp2_with fail
      refine (areLN_yes _ _ L _ H.out hl HOK.out).mono ?_
      rintro e w2 ⟨rfl, b2⟩
      go_wp2_with fail
      refine (wordOf_any _ _ L _ (H.out.below b2) (by omega) HOK.out).mono ?_
      rintro e w3 ⟨rfl, b3⟩
      go_wp2_with fail
      go_ret2
      exact ⟨rfl, b2.then b3⟩
    · rw [wolR_bad (.inr hok)]
      have HOK := Lib.hid hok
      clear hok
      go_enter Try.func19, Try.ntmps19
      go_wp2_with fail
      refine (areLN_no _ _ L _ H.out hl HOK.out).mono ?_
      rintro e w2 ⟨rfl, b2⟩
      go_wp2_with fail
      go_ret2
      exact ⟨rfl, b2⟩

end Go.Proofs.Ytinanajagkilaaa
