/- Plain facts: the numbers of letters of images; uniform morphisms, test lengths. -/
import Derived.Test.YtddfdciohnabbabMorPlain
namespace Go.Proofs.Ytddfdciohnabbab
set_option linter.unusedVariables false
set_option linter.unusedSimpArgs false
open Go.RowKit

/-- How many letters the image has. -/
def il (I : List (List UInt8)) (j : Nat) : Nat := (I.getD j []).length
theorem il_get {I : List (List UInt8)} {j : Nat} (h : j < I.length) : il I j = (I[j]'h).length := by unfold il; rw [List.getD_eq_getElem?_getD, List.getElem?_eq_getElem h]; rfl
theorem il_out {I : List (List UInt8)} {j : Nat} (h : I.length ≤ j) : il I j = 0 := by unfold il; rw [List.getD_eq_getElem?_getD, List.getElem?_eq_none h]; rfl
theorem il_le {I : List (List UInt8)} (g : Mor I) (j : Nat) : il I j ≤ 12 := by
  by_cases h : j < I.length
  · rw [il_get h]; exact (g.im j h).1
  · rw [il_out (by omega)]; omega
def lenF (I : List (List UInt8)) (k : Nat) : Nat → Nat := fun j => if j < k then il I j else 0

/-- All images are as long as the first one. -/
def Uni (I : List (List UInt8)) : Prop := ∀ j, j < I.length → il I j = il I 0
instance (I : List (List UInt8)) : Decidable (Uni I) := by unfold Uni; exact inferInstance
def UniTo (I : List (List UInt8)) (k : Nat) : Prop := ∀ j, j < k → il I j = il I 0
theorem UniTo.one (I : List (List UInt8)) : UniTo I 1 := fun j h => by rw [show j = 0 by omega]
theorem UniTo.succ {I : List (List UInt8)} {k : Nat} (h : UniTo I k) (h2 : il I k = il I 0) : UniTo I (k + 1) := fun j hj => by
  by_cases e : j = k
  · subst e; exact h2
  · exact h j (by omega)
def uniR (I : List (List UInt8)) : Bool × Int := if ¬ Mor I then (false, 1) else (decide (Uni I), 0)
theorem uniR_bad {I : List (List UInt8)} (h : ¬ Mor I) : uniR I = (false, 1) := if_pos h
theorem uniR_yes {I : List (List UInt8)} (h : Mor I) (u : Uni I) : uniR I = (true, 0) := by unfold uniR; rw [if_neg (not_not_intro h)]; simp [u]
theorem uniR_no {I : List (List UInt8)} (h : Mor I) (u : ¬ Uni I) : uniR I = (false, 0) := by unfold uniR; rw [if_neg (not_not_intro h)]; simp [u]

/-- The least and the greatest of the first n + 1. -/
def mnL (I : List (List UInt8)) : Nat → Nat
  | 0 => il I 0
  | n + 1 => min (mnL I n) (il I (n + 1))
def mxL (I : List (List UInt8)) : Nat → Nat
  | 0 => il I 0
  | n + 1 => max (mxL I n) (il I (n + 1))
theorem mnL_le {I : List (List UInt8)} (g : Mor I) : ∀ n, mnL I n ≤ 12
  | 0 => il_le g 0
  | n + 1 => by have := mnL_le g n; rw [mnL]; omega
theorem mxL_le {I : List (List UInt8)} (g : Mor I) : ∀ n, mxL I n ≤ 12
  | 0 => il_le g 0
  | n + 1 => by have := mxL_le g n; have := il_le g (n + 1); rw [mxL]; omega
theorem mn_mx (I : List (List UInt8)) : ∀ n, mnL I n ≤ mxL I n
  | 0 => Nat.le_refl _
  | n + 1 => by have := mn_mx I n; rw [mnL, mxL]; omega
def tlN (a b : Nat) : Nat := if a = 0 then 0 else max 3 ((max b 3 - 3 + a - 1) / a + 1)
def tlR (I : List (List UInt8)) : Int × Int := if ¬ Mor I then (0, 1) else if mnL I (I.length - 1) = 0 then (0, 5) else ((tlN (mnL I (I.length - 1)) (mxL I (I.length - 1)) : Int), 0)
theorem tlR_bad {I : List (List UInt8)} (h : ¬ Mor I) : tlR I = (0, 1) := if_pos h
theorem tlR_none {I : List (List UInt8)} (h : Mor I) (h0 : mnL I (I.length - 1) = 0) : tlR I = (0, 5) := by unfold tlR; rw [if_neg (not_not_intro h), if_pos h0]
theorem tlR_ok {I : List (List UInt8)} (h : Mor I) (h0 : ¬ mnL I (I.length - 1) = 0) : tlR I = ((tlN (mnL I (I.length - 1)) (mxL I (I.length - 1)) : Int), 0) := by unfold tlR; rw [if_neg (not_not_intro h), if_neg h0]
theorem tlN_le {a b : Nat} (hb : b ≤ 12) : tlN a b ≤ 12 := by
  unfold tlN
  split
  · omega
  · have h1 : (max b 3 - 3 + a - 1) / a ≤ 10 := by
      refine Nat.le_of_lt_succ (Nat.div_lt_of_lt_mul ?_)
      rw [Nat.mul_succ, Nat.mul_comm]
      have : 1 * 10 ≤ a * 10 := Nat.mul_le_mul_right _ (by omega)
      omega
    omega
end Go.Proofs.Ytddfdciohnabbab
