/- Plain facts: the places of a set of bits, from the lowest on. -/
import Derived.Test.YtkemdiefoohdjaaDoorCovPlain
import Derived.Lib.TrailingZeros
namespace Go.Proofs.YtkemdiefoohdjaaDoor
set_option linter.unusedVariables false
set_option linter.unusedSimpArgs false
open Go.RowKit

theorem low_form {R : Nat} (h0 : 0 < R) (h : R < 18446744073709551616) : ∃ m, R = 2 ^ Lib.ctz 64 R * (2 * m + 1) ∧ Lib.ctz 64 R < 64 := by
  unfold Lib.ctz
  rw [if_neg (by omega)]
  exact Lib.ctzFrom_spec 64 R h0 (by omega)
theorem low_bit {R : Nat} (h0 : 0 < R) (h : R < 18446744073709551616) : R.testBit (Lib.ctz 64 R) = true := by
  obtain ⟨m, e, hk⟩ := low_form h0 h
  generalize Lib.ctz 64 R = k at *
  rw [e, Nat.testBit_two_pow_mul]
  simp [Nat.testBit_zero]
theorem low_none {R : Nat} (h0 : 0 < R) (h : R < 18446744073709551616) {j : Nat} (hj : j < Lib.ctz 64 R) : R.testBit j = false := by
  obtain ⟨m, e, hk⟩ := low_form h0 h
  generalize Lib.ctz 64 R = k at *
  rw [e, Nat.testBit_two_pow_mul]
  have : ¬ k ≤ j := by omega
  simp [this]
theorem low_pred {R : Nat} (h0 : 0 < R) (h : R < 18446744073709551616) (j : Nat) : (R &&& (R - 1)).testBit j = (R.testBit j && decide (j ≠ Lib.ctz 64 R)) := by
  obtain ⟨m, e, hk⟩ := low_form h0 h
  generalize Lib.ctz 64 R = k at *
  have hp : 0 < 2 ^ k := Nat.pow_pos (by omega)
  have e1 : R = 2 ^ k * (2 * m + 1) + 0 := by omega
  have e2 : R - 1 = 2 ^ k * (2 * m) + (2 ^ k - 1) := by
    rw [e, Nat.mul_add, Nat.mul_one]; omega
  rw [Nat.testBit_and, e2, Nat.testBit_two_pow_mul_add _ (by omega)]
  by_cases hj : j < k
  · have hf : R.testBit j = false := by
      rw [e, Nat.testBit_two_pow_mul]
      have : ¬ k ≤ j := by omega
      simp [this]
    rw [hf]; rfl
  · rw [if_neg hj]
    by_cases he : j = k
    · subst he
      have : (2 * m).testBit (j - j) = false := by rw [Nat.sub_self, Nat.testBit_zero]; simp
      rw [this]; simp
    · obtain ⟨i, hi⟩ : ∃ i, j - k = i + 1 := ⟨j - k - 1, by omega⟩
      have hR : R.testBit j = m.testBit i := by
        rw [e, Nat.testBit_two_pow_mul, hi, Nat.testBit_succ]
        have : k ≤ j := by omega
        simp only [this, ge_iff_le, decide_true, Bool.true_and]
        congr 1; omega
      rw [hR, hi, Nat.testBit_succ]
      have d : 2 * m / 2 = m := by omega
      rw [d]
      simp [he]
/-- The places below c that a set has. -/
def lowL (s c : Nat) : List Int := ((List.range c).filter fun j => s.testBit j).map Int.ofNat
theorem lowL_len (s c : Nat) : (lowL s c).length ≤ c := by
  unfold lowL; rw [List.length_map]
  have := List.length_filter_le (fun j => s.testBit j) (List.range c)
  rw [List.length_range] at this; exact this
theorem lowL_skip {s c : Nat} : ∀ d, (∀ j, c ≤ j → j < c + d → s.testBit j = false) → lowL s (c + d) = lowL s c
  | 0, _ => rfl
  | d + 1, h => by
    have ih := lowL_skip (s := s) (c := c) d (fun j h1 h2 => h j h1 (by omega))
    have hf := h (c + d) (by omega) (by omega)
    rw [← ih]
    unfold lowL
    rw [← Nat.add_assoc, List.range_succ, List.filter_append]
    simp [hf]
theorem lowL_hit {s c : Nat} (h : s.testBit c = true) : lowL s (c + 1) = lowL s c ++ [(c : Int)] := by
  unfold lowL
  rw [List.range_succ, List.filter_append]
  simp [h]
/-- What is left behind the places below c. -/
def Rest (s c R : Nat) : Prop := ∀ j, R.testBit j = (s.testBit j && decide (c ≤ j))
theorem rest_start (s : Nat) : Rest s 0 s := fun j => by simp
theorem rest_step {s c R : Nat} (h : Rest s c R) (h0 : 0 < R) (hR : R < 18446744073709551616) : c ≤ Lib.ctz 64 R ∧ s.testBit (Lib.ctz 64 R) = true ∧ lowL s (Lib.ctz 64 R + 1) = lowL s c ++ [(Lib.ctz 64 R : Int)] ∧ Rest s (Lib.ctz 64 R + 1) (R &&& (R - 1)) := by
  have h1 := low_bit h0 hR
  have h2 := fun j => low_none (j := j) h0 hR
  have h3 := low_pred h0 hR
  generalize Lib.ctz 64 R = k at *
  have hk := h k
  rw [h1] at hk
  have hk1 : s.testBit k = true ∧ c ≤ k := by
    have := hk.symm
    simpa using this
  refine ⟨hk1.2, hk1.1, ?_, fun j => ?_⟩
  · rw [lowL_hit hk1.1]
    have e : lowL s k = lowL s c := by
      obtain ⟨d, rfl⟩ : ∃ d, k = c + d := ⟨k - c, by omega⟩
      refine lowL_skip d (fun j h4 h5 => ?_)
      have := h j
      rw [h2 j h5] at this
      have h6 : (decide (c ≤ j)) = true := decide_eq_true h4
      rw [h6, Bool.and_true] at this
      exact this.symm
    rw [e]
  · rw [h3 j, h j]
    by_cases hj : j = k
    · subst hj; simp
    · by_cases hlt : j < k
      · have := h j
        rw [h2 j hlt] at this
        rw [← this]
        have : ¬ k + 1 ≤ j := by omega
        simp [this]
      · have a : c ≤ j := by omega
        have b : k + 1 ≤ j := by omega
        simp [a, b, hj]
theorem rest_end {s c : Nat} {n : Nat} (h : Rest s c 0) (hs : s < 2 ^ n) : lowL s c = lowL s n := by
  by_cases hc : c ≤ n
  · obtain ⟨d, rfl⟩ : ∃ d, n = c + d := ⟨n - c, by omega⟩
    refine (lowL_skip d (fun j h1 _ => ?_)).symm
    have := h j
    rw [Nat.zero_testBit] at this
    have h6 : (decide (c ≤ j)) = true := decide_eq_true h1
    rw [h6, Bool.and_true] at this
    exact this.symm
  · obtain ⟨d, rfl⟩ : ∃ d, c = n + d := ⟨c - n, by omega⟩
    exact lowL_skip d (fun j h1 _ => Nat.testBit_lt_two_pow (Nat.lt_of_lt_of_le hs (Nat.pow_le_pow_right (by omega) h1)))
theorem rest_lt {s c R : Nat} (h : Rest s c R) (hs : s < 18446744073709551616) : R < 18446744073709551616 := by
  have : R < 2 ^ 64 := by
    apply Nat.lt_pow_two_of_testBit
    intro j hj
    rw [h j]
    have : s.testBit j = false := Nat.testBit_lt_two_pow (Nat.lt_of_lt_of_le hs (by have := Nat.pow_le_pow_right (n := 2) (by omega) hj; omega))
    simp [this]
  omega
theorem lowL_unc {x u : ByteArray} {s : Nat} (h : ∀ j, s.testBit j = (decide (j < x.size) && !cvB x u j)) : lowL s x.size = uncL x u x.size := by
  unfold lowL uncL
  congr 1
  apply List.filter_congr
  intro j hj
  rw [h j]
  simp [List.mem_range.1 hj]

end Go.Proofs.YtkemdiefoohdjaaDoor
