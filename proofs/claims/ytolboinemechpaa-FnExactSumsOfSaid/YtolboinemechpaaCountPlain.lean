/- Plain facts: the counts of letters. -/
import Derived.Test.YtolboinemechpaaLettersPlain
namespace Go.Proofs.Ytolboinemechpaa
set_option linter.unusedVariables false
set_option linter.unusedSimpArgs false
open Go.RowKit

def bump (L : List Int) (c : Int) : List Int := L.set c.toNat (L.getD c.toNat 0 + 1)
def cntK (x : ByteArray) (k : Nat) : List Int := ((numsR x).take k).foldl bump [0, 0, 0, 0, 0]
theorem bump_len (L : List Int) (c : Int) : (bump L c).length = L.length := by simp [bump]
theorem foldl_bump_len : ∀ (M L : List Int), (M.foldl bump L).length = L.length
  | [], _ => rfl
  | c :: M, L => by rw [List.foldl_cons, foldl_bump_len M, bump_len]
theorem cntK_len (x : ByteArray) (k : Nat) : (cntK x k).length = 5 := by rw [cntK, foldl_bump_len]; rfl
theorem cntK_zero (x : ByteArray) : cntK x 0 = [0, 0, 0, 0, 0] := by simp [cntK]
theorem cntK_succ (x : ByteArray) (k : Nat) (h : k < x.size) : cntK x (k + 1) = bump (cntK x k) (((x[k]'h).toNat : Int) - 97) := by
  have h2 : k < (numsR x).length := by rw [numsR_len]; exact h
  unfold cntK
  rw [List.take_succ_eq_append_getElem h2, List.foldl_append, numsR_get x k h2 h]
  rfl
theorem bump_bd {L : List Int} {c : Int} {m : Int} (h : ∀ j, 0 ≤ L.getD j 0 ∧ L.getD j 0 ≤ m) : ∀ j, 0 ≤ (bump L c).getD j 0 ∧ (bump L c).getD j 0 ≤ m + 1 := by
  intro j
  have hj := h j
  have hc := h c.toNat
  unfold bump
  simp only [List.getD_eq_getElem?_getD, List.getElem?_set] at *
  by_cases e : c.toNat = j
  · subst e
    by_cases hl : c.toNat < L.length
    · simp only [hl, if_true, Option.getD_some]; omega
    · simp only [hl, if_true, if_false, Option.getD_none]; omega
  · simp only [e, if_false]; omega
theorem cntK_bd (x : ByteArray) : ∀ (k : Nat), k ≤ x.size → ∀ j, 0 ≤ (cntK x k).getD j 0 ∧ (cntK x k).getD j 0 ≤ k
  | 0, _, j => by
    rw [cntK_zero]
    match j with
    | 0 | 1 | 2 | 3 | 4 => simp
    | j + 5 => simp
  | k + 1, h, j => by
    rw [cntK_succ x k h]
    have := bump_bd (c := ((x[k]'h).toNat : Int) - 97) (cntK_bd x k (by omega)) j
    omega
def countR (x : ByteArray) : List Int × Int := if ¬ IsW x then ([], 1) else (cntK x x.size, 0)
theorem countR_bad {x : ByteArray} (h : ¬ IsW x) : countR x = ([], 1) := if_pos h
theorem countR_ok {x : ByteArray} (h : IsW x) : countR x = (cntK x x.size, 0) := by unfold countR; rw [if_neg (not_not_intro h)]
theorem countR_len (x : ByteArray) : (countR x).1.length ≤ 4096 := by
  by_cases h : IsW x
  · rw [countR_ok h, cntK_len]; decide
  · rw [countR_bad h]; decide
/-- A store of one number more into a row that holds L. -/
theorem bump_map (L : List Int) (n : Nat) : (L.map (Value.int .i64)).set n (.int .i64 (L.getD n 0 + 1)) = (bump L n).map (Value.int .i64) := by
  simp [bump, List.map_set]

end Go.Proofs.Ytolboinemechpaa
