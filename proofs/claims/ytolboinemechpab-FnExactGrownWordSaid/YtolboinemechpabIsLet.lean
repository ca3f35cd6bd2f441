/- Is a number the number of a letter of a morphism: the program. -/
import Derived.Test.YtolboinemechpabVec
import Derived.Test.YtolboinemechpabLib
namespace Go.Proofs.Ytolboinemechpab
set_option linter.unusedVariables false
set_option linter.unusedSimpArgs false
open Go.RowKit

set_option maxRecDepth 100000 in
theorem isLetter_any (B : Nat) (v : Value) (I : List (List UInt8)) (q : Int) (w : World) (h : OwnS w B v (I.map bt)) (t : Tot I) :
    Calls Try.prog 92 #[.agg #[v], .int .i64 q] w fun e w' => e = .returned (.bool (decide (0 ≤ q ∧ q < (I.length : Int)))) ∧ Below w.heap.size w w' := by
  obtain ⟨p, c, hv⟩ := ownS_value h
  rw [List.length_map] at hv
  subst hv
  have hI := t.1
  clear h
  by_cases h1 : 0 ≤ q
  · by_cases h2 : q < (I.length : Int)
    · go_enter Try.func92, Try.ntmps92
      go_wp2
      go_ret
      exact ⟨ret_bool (by simp [h1, h2]), Below.new _ _⟩
    · go_enter Try.func92, Try.ntmps92
      go_wp2
      go_ret
      exact ⟨ret_bool (by simp [h2]; try omega), Below.new _ _⟩
  · go_enter Try.func92, Try.ntmps92
    go_wp2
    go_ret
    exact ⟨ret_bool (by simp [h1]; try omega), Below.new _ _⟩

end Go.Proofs.Ytolboinemechpab
