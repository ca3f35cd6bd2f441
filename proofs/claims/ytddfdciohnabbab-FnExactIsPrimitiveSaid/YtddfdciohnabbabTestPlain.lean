/- Plain facts: test lengths. -/
import Derived.Test.YtddfdciohnabbabLensPlain
import Derived.Lib.Slices
namespace Go.Proofs.Ytddfdciohnabbab
set_option linter.unusedVariables false
set_option linter.unusedSimpArgs false
open Go.RowKit

def L5 (F : Nat → Nat) : List Int := [(F 0 : Int), (F 1 : Int), (F 2 : Int), (F 3 : Int), (F 4 : Int)]
theorem min_lens {I : List (List UInt8)} (g : Mor I) (F : Nat → Nat) (hF : ∀ j, j < I.length → F j = il I j) : Lib.minOf ((L5 F).take I.length) = ((mnL I (I.length - 1) : Nat) : Int) := by
  have h1 := g.len1
  have h5 := g.len5
  rcases (show I.length = 1 ∨ I.length = 2 ∨ I.length = 3 ∨ I.length = 4 ∨ I.length = 5 by omega) with h | h | h | h | h
  · have e0 := hF 0 (by omega)
    rw [h]; simp [L5, Lib.minOf, mnL]; omega
  · have e0 := hF 0 (by omega)
    have e1 := hF 1 (by omega)
    rw [h]; simp [L5, Lib.minOf, mnL]; omega
  · have e0 := hF 0 (by omega)
    have e1 := hF 1 (by omega)
    have e2 := hF 2 (by omega)
    rw [h]; simp [L5, Lib.minOf, mnL]; omega
  · have e0 := hF 0 (by omega)
    have e1 := hF 1 (by omega)
    have e2 := hF 2 (by omega)
    have e3 := hF 3 (by omega)
    rw [h]; simp [L5, Lib.minOf, mnL]; omega
  · have e0 := hF 0 (by omega)
    have e1 := hF 1 (by omega)
    have e2 := hF 2 (by omega)
    have e3 := hF 3 (by omega)
    have e4 := hF 4 (by omega)
    rw [h]; simp [L5, Lib.minOf, mnL]; omega
theorem max_lens {I : List (List UInt8)} (g : Mor I) (F : Nat → Nat) (hF : ∀ j, j < I.length → F j = il I j) : Lib.maxOf ((L5 F).take I.length) = ((mxL I (I.length - 1) : Nat) : Int) := by
  have h1 := g.len1
  have h5 := g.len5
  rcases (show I.length = 1 ∨ I.length = 2 ∨ I.length = 3 ∨ I.length = 4 ∨ I.length = 5 by omega) with h | h | h | h | h
  · have e0 := hF 0 (by omega)
    rw [h]; simp [L5, Lib.maxOf, mxL]; omega
  · have e0 := hF 0 (by omega)
    have e1 := hF 1 (by omega)
    rw [h]; simp [L5, Lib.maxOf, mxL]; omega
  · have e0 := hF 0 (by omega)
    have e1 := hF 1 (by omega)
    have e2 := hF 2 (by omega)
    rw [h]; simp [L5, Lib.maxOf, mxL]; omega
  · have e0 := hF 0 (by omega)
    have e1 := hF 1 (by omega)
    have e2 := hF 2 (by omega)
    have e3 := hF 3 (by omega)
    rw [h]; simp [L5, Lib.maxOf, mxL]; omega
  · have e0 := hF 0 (by omega)
    have e1 := hF 1 (by omega)
    have e2 := hF 2 (by omega)
    have e3 := hF 3 (by omega)
    have e4 := hF 4 (by omega)
    rw [h]; simp [L5, Lib.maxOf, mxL]; omega
theorem tlN_int {a b : Nat} (ha : a ≠ 0) : ((tlN a b : Nat) : Int) = max 3 ((max ((b : Int) - 3) 0 + (a : Int) - 1) / (a : Int) + 1) := by
  unfold tlN
  rw [if_neg ha]
  have e : (max ((b : Int) - 3) 0 + (a : Int) - 1) = ((max b 3 - 3 + a - 1 : Nat) : Int) := by omega
  rw [e, ← Int.natCast_ediv]
  omega
theorem tlN_impl {a b : Nat} (ha : a ≠ 0) (hab : a ≤ b) (h4 : 4 ≤ a + b) : ((tlN a b : Nat) : Int) = max 3 (1 + ((b : Int) - 3 + (a : Int) - 1) / (a : Int)) := by
  rw [tlN_int ha]
  by_cases h : 3 ≤ b
  · rw [show max ((b : Int) - 3) 0 = (b : Int) - 3 by omega, Int.add_comm 1]
  · have e1 : ((b : Int) - 3 + (a : Int) - 1) / (a : Int) = 0 := Int.ediv_eq_zero_of_lt (by omega) (by omega)
    have e2 : (max ((b : Int) - 3) 0 + (a : Int) - 1) / (a : Int) = 0 := Int.ediv_eq_zero_of_lt (by omega) (by omega)
    rw [e1, e2]
    omega
theorem tlN_small {a b : Nat} (ha : a ≠ 0) (hab : a ≤ b) (h4 : ¬ 4 ≤ a + b) : tlN a b = 3 ∧ a = 1 ∧ (b = 1 ∨ b = 2) := by
  have h1 : a = 1 := by omega
  have h2 : b = 1 ∨ b = 2 := by omega
  subst h1
  refine ⟨?_, rfl, h2⟩
  rcases h2 with rfl | rfl <;> decide
end Go.Proofs.Ytddfdciohnabbab
