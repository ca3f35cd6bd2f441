/- Images and iterates: the model. -/
import Derived.Test.YtddfdciohnabbabImg
namespace Go.Proofs.Ytddfdciohnabbab
set_option linter.unusedVariables false
set_option linter.unusedSimpArgs false
open Go.RowKit

theorem checkWord_is (B : Nat) (v : Value) (I : List (List UInt8)) (x : ByteArray) (w : World) (h : OwnS w B v (I.map bt)) (t : Tot I) (sx : x.size ≤ maxLen) (c : Int) (hc : mwC I x = c) :
    Calls Try.prog 182 #[.agg #[v], .string x] w fun e w' => e = .returned (.int .i64 c) ∧ Below w.heap.size w w' := by
  have := checkWord_any B v I x w h t sx
  unfold mwAns at this
  rw [hc] at this
  exact this

set_option maxRecDepth 100000 in
theorem l01In_yesM (n lo hi : Int) (w : World) (h1 : lo ≤ n) (h2 : n ≤ hi) :
    Calls Try.prog 100 #[.int .i64 n, .int .i64 lo, .int .i64 hi] w fun e w' => e = .returned (.bool true) ∧ w = w' := by
  go_enter Try.func100, Try.ntmps100
  go_wp2
  go_ret
  exact ⟨ret_bool (by simp [*]), rfl⟩

set_option maxRecDepth 100000 in
theorem l01In_noM (n lo hi : Int) (w : World) (h : ¬ (lo ≤ n ∧ n ≤ hi)) :
    Calls Try.prog 100 #[.int .i64 n, .int .i64 lo, .int .i64 hi] w fun e w' => e = .returned (.bool false) ∧ w = w' := by
  by_cases h1 : lo ≤ n
  · have h2 : hi < n := by omega
    clear h
    go_enter Try.func100, Try.ntmps100
    go_wp2
    go_ret
    exact ⟨ret_bool (by simp <;> omega), rfl⟩
  · have h2 : n < lo := by omega
    clear h h1
    go_enter Try.func100, Try.ntmps100
    go_wp2
    go_ret
    exact ⟨ret_bool (by simp <;> omega), rfl⟩

end Go.Proofs.Ytddfdciohnabbab
