/- Plain facts: antipowers, the first of the greatest; edges of the graph of factors. -/
import Derived.Test.YtbhgghajbdlfkabGreatGapPlain
namespace Go.Proofs.YtbhgghajbdlfkabGreat
set_option linter.unusedVariables false
set_option linter.unusedSimpArgs false
open Go.RowKit

/-- Is the word in the list? -/
def inL (u : ByteArray) (L : List ByteArray) : Bool := L.any fun z => decide (z = u)
theorem inL_iff (u : ByteArray) (L : List ByteArray) : inL u L = true ↔ u ∈ L := by
  unfold inL
  rw [List.any_eq_true]
  constructor
  · rintro ⟨z, hz, e⟩
    exact of_decide_eq_true e ▸ hz
  · intro h
    exact ⟨u, h, decide_eq_true rfl⟩
/-- The parts of an antipower from a place on, n of them at most, behind those that were met. -/
def antiL (x : ByteArray) (m : Nat) : Nat → Nat → List ByteArray → List ByteArray
  | 0, _, seen => seen
  | n + 1, i, seen => if i + m ≤ x.size ∧ inL (x.extract i (i + m)) seen = false then antiL x m n (i + m) (seen ++ [x.extract i (i + m)]) else seen
/-- With room enough the bound on the number does not matter. -/
theorem antiL_stop (x : ByteArray) (m i : Nat) (seen : List ByteArray) (h : ¬ (i + m ≤ x.size ∧ inL (x.extract i (i + m)) seen = false)) : ∀ n, antiL x m n i seen = seen
  | 0 => rfl
  | n + 1 => by rw [antiL, if_neg h]
theorem antiL_step (x : ByteArray) (m i n : Nat) (seen : List ByteArray) (h1 : i + m ≤ x.size) (h2 : inL (x.extract i (i + m)) seen = false) : antiL x m (n + 1) i seen = antiL x m n (i + m) (seen ++ [x.extract i (i + m)]) := by
  rw [antiL, if_pos ⟨h1, h2⟩]
theorem antiL_len (x : ByteArray) (m : Nat) : ∀ n i seen, (antiL x m n i seen).length ≤ seen.length + n
  | 0, _, seen => by rw [antiL]; omega
  | n + 1, i, seen => by
    rw [antiL]
    split
    · have := antiL_len x m n (i + m) (seen ++ [x.extract i (i + m)])
      rw [List.length_append] at this
      simp at this
      omega
    · omega
/-- The greatest k of an antipower at a place. -/
def antiK (x : ByteArray) (m i : Nat) : Nat := (antiL x m 61 i []).length
theorem antiK_out {x : ByteArray} {m i : Nat} (h : x.size < i + m) : antiK x m i = 0 := by
  unfold antiK
  rw [antiL_stop x m i [] (fun k => by omega)]
  rfl
theorem antiK_le (x : ByteArray) (m i : Nat) : antiK x m i ≤ 61 := by have := antiL_len x m 61 i []; simpa [antiK] using this
/-- The first place of the greatest, and the greatest, among the first n places. -/
def antiB (x : ByteArray) (m : Nat) : Nat → Nat × Nat
  | 0 => (0, 0)
  | i + 1 => if (antiB x m i).2 < antiK x m i then (i, antiK x m i) else antiB x m i
theorem antiB_out (x : ByteArray) (m : Nat) : ∀ n, x.size + 1 - m ≤ n → antiB x m n = antiB x m (x.size + 1 - m)
  | 0, h => by rw [show x.size + 1 - m = 0 by omega]
  | n + 1, h => by
    by_cases k : x.size + 1 - m = n + 1
    · rw [k]
    · rw [antiB, antiK_out (by omega), if_neg (by omega), antiB_out x m n (by omega)]
theorem antiB_le (x : ByteArray) (m : Nat) : ∀ n, (antiB x m n).1 ≤ n ∧ (antiB x m n).2 ≤ 61
  | 0 => ⟨Nat.le_refl _, Nat.zero_le _⟩
  | n + 1 => by
    have h := antiB_le x m n
    have h2 := antiK_le x m n
    rw [antiB]
    split
    · exact ⟨Nat.le_succ _, h2⟩
    · exact ⟨by omega, h.2⟩
theorem antiB_pos {x : ByteArray} {m : Nat} (hm : m ≤ x.size) : ∀ n, 0 < n → 0 < (antiB x m n).2
  | 0, h => by omega
  | 1, _ => by
    have : 0 < antiK x m 0 := by
      unfold antiK
      have hn : ∀ n i seen, seen.length ≤ (antiL x m n i seen).length := by
        intro n
        induction n with
        | zero => intro i seen; exact Nat.le_refl _
        | succ n ih =>
          intro i seen
          rw [antiL]
          split
          · have := ih (i + m) (seen ++ [x.extract i (i + m)])
            rw [List.length_append] at this
            simp at this
            omega
          · exact Nat.le_refl _
      rw [show (61 : Nat) = 60 + 1 from rfl, antiL_step x m 0 60 [] (by omega) rfl]
      have := hn 60 (0 + m) ([] ++ [x.extract 0 (0 + m)])
      simp only [List.nil_append, List.length_singleton] at this ⊢
      exact this
    rw [antiB, antiB]
    simp [this]
  | n + 2, _ => by
    have h := antiB_pos hm (n + 1) (by omega)
    rw [antiB]
    split
    · omega
    · exact h
def laR (x : ByteArray) (m : Int) : Int × Int × Int :=
  if ¬ IsW x then (0, 0, 1) else if m < 1 ∨ 60 < m then (0, 0, 2) else if (x.size : Int) < m then (0, 0, 4) else
    (((antiB x m.toNat (x.size + 1 - m.toNat)).1 : Int), ((antiB x m.toNat (x.size + 1 - m.toNat)).2 : Int), 0)
theorem laR_bad {x : ByteArray} {m : Int} (h : ¬ IsW x) : laR x m = (0, 0, 1) := if_pos h
theorem laR_out {x : ByteArray} {m : Int} (h : IsW x) (k : m < 1 ∨ 60 < m) : laR x m = (0, 0, 2) := by unfold laR; rw [if_neg (not_not_intro h), if_pos k]
theorem laR_none {x : ByteArray} {m : Nat} (h : IsW x) (k : 1 ≤ m ∧ m ≤ 60) (j : x.size < m) : laR x (m : Int) = (0, 0, 4) := by
  unfold laR; rw [if_neg (not_not_intro h), if_neg (by omega), if_pos (by omega)]
theorem laR_ok {x : ByteArray} {m : Nat} (h : IsW x) (k : 1 ≤ m ∧ m ≤ 60) (j : m ≤ x.size) : laR x (m : Int) = (((antiB x m (x.size + 1 - m)).1 : Int), ((antiB x m (x.size + 1 - m)).2 : Int), 0) := by
  unfold laR; rw [if_neg (not_not_intro h), if_neg (by omega), if_neg (by omega)]; rfl

end Go.Proofs.YtbhgghajbdlfkabGreat
