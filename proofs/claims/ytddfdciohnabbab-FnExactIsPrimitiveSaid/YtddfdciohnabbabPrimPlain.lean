/- Plain facts: primitive morphisms: the program looks at one number of steps, the model at all up to m * m. -/
import Derived.Test.YtddfdciohnabbabWielPlain
import Derived.Test.YtddfdciohnabbabGrPlain
namespace Go.Proofs.Ytddfdciohnabbab
set_option linter.unusedVariables false
set_option linter.unusedSimpArgs false
open Go.RowKit

/-- The letter v stands in the image of the letter i. -/
def edge (I : List (List UInt8)) (i v : Nat) : Prop := 0 < ct (I.getD i []) v
theorem acc_pos (I : List (List UInt8)) (f : Nat → Nat) (v : Nat) : ∀ n, 0 < acc I f v n ↔ ∃ j, j < n ∧ 0 < f j ∧ edge I j v
  | 0 => by
    rw [acc_zero]
    constructor
    · intro h; omega
    · rintro ⟨j, hj, _⟩; omega
  | n + 1 => by
    rw [acc_succ]
    have ih := acc_pos I f v n
    constructor
    · intro h
      rcases Nat.eq_zero_or_pos (acc I f v n) with e | e
      · rw [e, Nat.zero_add] at h
        exact ⟨n, by omega, Nat.pos_of_mul_pos_right h, Nat.pos_of_mul_pos_left h⟩
      · obtain ⟨j, hj, h1, h2⟩ := ih.1 e
        exact ⟨j, by omega, h1, h2⟩
    · rintro ⟨j, hj, h1, h2⟩
      by_cases e : j = n
      · subst e
        have := Nat.mul_pos h1 h2
        omega
      · have := ih.2 ⟨j, by omega, h1, h2⟩
        omega
theorem hk_pos {I : List (List UInt8)} (g : Mor I) {i : Nat} (hi : i < I.length) : ∀ k v, v < 5 → (0 < ct (hk I k [letr i]) v ↔ Stp I.length (edge I) k i v)
  | 0, v, hv => by
    have h5 := g.len5
    rw [hk_zero, ct_one (by omega) hv]
    by_cases e : i = v
    · rw [if_pos e]; exact ⟨fun _ => e, fun _ => by omega⟩
    · rw [if_neg e]; exact ⟨fun h => by omega, fun h => absurd h e⟩
  | k + 1, v, hv => by
    have h5 := g.len5
    rw [← acc_hk g (lets_one g hi) k v, acc_pos]
    constructor
    · rintro ⟨j, hj, h1, h2⟩
      exact ⟨j, hj, (hk_pos g hi k j (by omega)).1 h1, h2⟩
    · rintro ⟨j, hj, h1, h2⟩
      exact ⟨j, hj, (hk_pos g hi k j (by omega)).2 h1, h2⟩
def primN (I : List (List UInt8)) : Nat := (I.length - 1) * (I.length - 1) + 1
theorem primN_le {I : List (List UInt8)} (g : Mor I) : primN I ≤ 17 := by
  have h5 := g.len5
  unfold primN
  have : (I.length - 1) * (I.length - 1) ≤ 4 * 4 := Nat.mul_le_mul (by omega) (by omega)
  omega
theorem primN_sq {I : List (List UInt8)} (g : Mor I) : primN I ≤ I.length * I.length := by
  have h1 := g.len1
  obtain ⟨m, hm⟩ : ∃ m, I.length = m + 1 := ⟨I.length - 1, by omega⟩
  unfold primN
  rw [hm, Nat.add_sub_cancel, Nat.mul_succ, Nat.succ_mul]
  omega
/-- All letters stand in the iterate of a letter. -/
def rowP (I : List (List UInt8)) (i : Nat) : Prop := ∀ v, v < I.length → 0 < ct (hk I (primN I) [letr i]) v
def rowPB (I : List (List UInt8)) (i : Nat) : Bool := (List.range I.length).all fun v => decide (0 < ct (hk I (primN I) [letr i]) v)
def primB (I : List (List UInt8)) : Bool := (List.range I.length).all fun i => rowPB I i
theorem rowPB_iff (I : List (List UInt8)) (i : Nat) : rowPB I i = true ↔ rowP I i := by
  unfold rowPB rowP
  rw [List.all_eq_true]
  constructor
  · intro h v hv
    have := h v (List.mem_range.2 hv)
    rwa [decide_eq_true_eq] at this
  · intro h v hv
    rw [decide_eq_true_eq]
    exact h v (List.mem_range.1 hv)
theorem primB_iff (I : List (List UInt8)) : primB I = true ↔ ∀ i, i < I.length → rowP I i := by
  unfold primB
  rw [List.all_eq_true]
  constructor
  · intro h i hi
    exact (rowPB_iff I i).1 (h i (List.mem_range.2 hi))
  · intro h i hi
    exact (rowPB_iff I i).2 (h i (List.mem_range.1 hi))
theorem primB_full {I : List (List UInt8)} (g : Mor I) : primB I = true ↔ Full I.length (edge I) (primN I) := by
  have h5 := g.len5
  rw [primB_iff]
  constructor
  · intro h u v hu hv
    exact (hk_pos g hu _ v (by omega)).1 (h u hu v hv)
  · intro h i hi v hv
    exact (hk_pos g hi _ v (by omega)).2 (h i v hi hv)
theorem primB_of {I : List (List UInt8)} (g : Mor I) {k : Nat} (hk0 : 0 < k) (h : Full I.length (edge I) k) : primB I = true := by
  rw [primB_full g]
  exact wiel g.len1 hk0 h
def primR (I : List (List UInt8)) : Bool × Int := if ¬ Mor I then (false, 1) else (primB I, 0)
theorem primR_bad {I : List (List UInt8)} (h : ¬ Mor I) : primR I = (false, 1) := if_pos h
theorem primR_ok {I : List (List UInt8)} (h : Mor I) : primR I = (primB I, 0) := if_neg (not_not_intro h)

/-- A set of small numbers, as bits. -/
def bn (f : Nat → Bool) : Nat → Nat
  | 0 => 0
  | n + 1 => bn f n ||| (if f n then 2 ^ n else 0)
theorem bn_bit (f : Nat → Bool) : ∀ n j, (bn f n).testBit j = (decide (j < n) && f j)
  | 0, j => by simp [bn]
  | n + 1, j => by
    unfold bn
    rw [Nat.testBit_or, bn_bit f n j]
    by_cases e : j = n
    · subst e
      by_cases h : f j = true
      · simp [h]
      · simp [h]
    · by_cases h : f n = true
      · rw [if_pos h, Nat.testBit_two_pow_of_ne (fun q => e q.symm), Bool.or_false]
        by_cases l : j < n
        · simp [l, show j < n + 1 by omega]
        · simp [l, show ¬ j < n + 1 by omega]
      · rw [if_neg h, Nat.zero_testBit, Bool.or_false]
        by_cases l : j < n
        · simp [l, show j < n + 1 by omega]
        · simp [l, show ¬ j < n + 1 by omega]
theorem bn_lt (f : Nat → Bool) (n : Nat) : bn f n < 2 ^ n := by
  apply Nat.lt_pow_two_of_testBit
  intro i hi
  rw [bn_bit]
  simp [show ¬ i < n by omega]
theorem bn_ext {f g : Nat → Bool} {n : Nat} (h : ∀ j, j < n → f j = g j) : bn f n = bn g n := by
  apply Nat.eq_of_testBit_eq
  intro j
  rw [bn_bit, bn_bit]
  by_cases l : j < n
  · rw [h j l]
  · simp [l]
theorem bn_inj {f g : Nat → Bool} {n : Nat} (h : bn f n = bn g n) : ∀ j, j < n → f j = g j := by
  intro j hj
  have := congrArg (fun x => x.testBit j) h
  simp only [bn_bit] at this
  simpa [hj] using this
theorem bn_none (n : Nat) : bn (fun _ => false) n = 0 := by
  apply Nat.eq_of_testBit_eq
  intro j
  rw [bn_bit]
  simp
theorem bn_one {n i : Nat} (h : i < n) : bn (fun j => decide (j = i)) n = 2 ^ i := by
  apply Nat.eq_of_testBit_eq
  intro j
  rw [bn_bit]
  by_cases e : j = i
  · subst e; simp [h]
  · rw [Nat.testBit_two_pow_of_ne (fun q => e q.symm)]
    simp [e]
theorem bn_or {n i : Nat} (h : i < n) (f : Nat → Bool) : bn f n ||| 2 ^ i = bn (fun j => f j || decide (j = i)) n := by
  apply Nat.eq_of_testBit_eq
  intro j
  rw [Nat.testBit_or, bn_bit, bn_bit]
  by_cases e : j = i
  · subst e; simp [h]
  · rw [Nat.testBit_two_pow_of_ne (fun q => e q.symm)]
    simp [e]
theorem bn_all (n : Nat) : bn (fun _ => true) n = 2 ^ n - 1 := by
  apply Nat.eq_of_testBit_eq
  intro j
  rw [bn_bit, Nat.testBit_two_pow_sub_one]
  simp
theorem bn_full {f : Nat → Bool} {n : Nat} : bn f n = 2 ^ n - 1 ↔ ∀ j, j < n → f j = true := by
  rw [← bn_all]
  exact ⟨fun h => bn_inj h, fun h => bn_ext h⟩
theorem bn_at (f : Nat → Bool) {n j : Nat} (h : j < n) : bn f n / 2 ^ j % 2 = if f j then 1 else 0 := by
  have e := bn_bit f n j
  rw [Nat.testBit_eq_decide_div_mod_eq] at e
  simp only [h, decide_true, Bool.true_and] at e
  by_cases k : f j = true
  · rw [if_pos k]
    rw [k, decide_eq_true_eq] at e
    exact e
  · rw [if_neg k]
    have k2 : f j = false := by simpa using k
    rw [k2, decide_eq_false_iff_not] at e
    omega

end Go.Proofs.Ytddfdciohnabbab
