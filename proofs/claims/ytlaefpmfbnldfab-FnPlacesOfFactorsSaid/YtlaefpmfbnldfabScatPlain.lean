/- Plain facts: scattered words. -/
import Derived.Test.YtlaefpmfbnldfabComPlain
namespace Go.Proofs.Ytlaefpmfbnldfab
set_option linter.unusedVariables false
open Go.RowKit

def scatFrom (x y : ByteArray) : Nat → Nat → Nat → Nat
  | 0, _, a => a
  | f + 1, j, a => if h : j < y.size then scatFrom x y f (j + 1) (if h2 : a < x.size then (if x[a]'h2 = y[j]'h then a + 1 else a) else a) else a
theorem scat_hit {x y : ByteArray} {f j a : Nat} (h : j < y.size) (h2 : a < x.size) (e : x[a]'h2 = y[j]'h) : scatFrom x y (f + 1) j a = scatFrom x y f (j + 1) (a + 1) := by
  rw [scatFrom, dif_pos h, dif_pos h2, if_pos e]
theorem scat_miss {x y : ByteArray} {f j a : Nat} (h : j < y.size) (h2 : a < x.size) (e : x[a]'h2 ≠ y[j]'h) : scatFrom x y (f + 1) j a = scatFrom x y f (j + 1) a := by
  rw [scatFrom, dif_pos h, dif_pos h2, if_neg e]
theorem scat_over {x y : ByteArray} {f j a : Nat} (h : j < y.size) (h2 : ¬ a < x.size) : scatFrom x y (f + 1) j a = scatFrom x y f (j + 1) a := by
  rw [scatFrom, dif_pos h, dif_neg h2]
theorem scat_end {x y : ByteArray} {f j a : Nat} (h : ¬ j < y.size) : scatFrom x y f j a = a := by
  cases f with
  | zero => rfl
  | succ f => rw [scatFrom, dif_neg h]
theorem scat_full {x y : ByteArray} {a : Nat} (h2 : ¬ a < x.size) : ∀ (f j : Nat), scatFrom x y f j a = a
  | 0, _ => rfl
  | f + 1, j => by
    by_cases h : j < y.size
    · rw [scat_over h h2]; exact scat_full h2 f (j + 1)
    · exact scat_end h
def scatN (x y : ByteArray) : Nat := scatFrom x y y.size 0 0
def scatR (x y : ByteArray) : Bool × Int := if ¬ (IsW x ∧ IsW y) then (false, 1) else (decide (scatN x y = x.size), 0)
theorem scatR_bad {x y : ByteArray} (h : ¬ (IsW x ∧ IsW y)) : scatR x y = (false, 1) := if_pos h
theorem scatR_ok {x y : ByteArray} (h : IsW x ∧ IsW y) : scatR x y = (decide (scatN x y = x.size), 0) := by unfold scatR; rw [if_neg (not_not_intro h)]
theorem beq_nat (a b : Nat) : ((a : Int) == (b : Int)) = decide (a = b) := by
  by_cases h : a = b
  · subst h; simp
  · simp [h]; omega
theorem ret_bi {a b : Bool} {c : Int} (h : a = b) : Ending.returned (.tuple #[.bool a, .int .i64 c]) = .returned (.tuple #[.bool b, .int .i64 c]) := by rw [h]

end Go.Proofs.Ytlaefpmfbnldfab
