/- Plain facts: letters by their numbers, and how often they stand in words. -/
import Derived.Test.YtfipbnognjepkaaPlain
namespace Go.Proofs.Ytfipbnognjepkaa
set_option linter.unusedVariables false
set_option linter.unusedSimpArgs false
open Go.RowKit

/-- The letter with a number. -/
def letr (i : Nat) : UInt8 := UInt8.ofNat (97 + i)
theorem letr_nat {i : Nat} (h : i < 5) : (letr i).toNat = 97 + i := by unfold letr; rw [UInt8.toNat_ofNat']; omega
theorem letr_of {c : UInt8} (h : 97 ≤ c.toNat) : letr (c.toNat - 97) = c := by
  apply UInt8.toNat_inj.1
  unfold letr
  rw [UInt8.toNat_ofNat']
  have := c.toNat_lt
  omega
/-- How often the letter with the number j stands in a word. -/
def ct (l : List UInt8) (j : Nat) : Nat := l.count (letr j)
theorem ct_nil (j : Nat) : ct [] j = 0 := rfl
theorem ct_app (a b : List UInt8) (j : Nat) : ct (a ++ b) j = ct a j + ct b j := List.count_append
theorem ct_le (l : List UInt8) (j : Nat) : ct l j ≤ l.length := List.count_le_length
theorem ct_snoc (l : List UInt8) (c : UInt8) (j : Nat) : ct (l ++ [c]) j = ct l j + if c = letr j then 1 else 0 := by
  rw [ct_app]
  congr 1
  unfold ct
  rw [List.count_singleton]
  by_cases h : c = letr j
  · simp [h]
  · rw [if_neg h, if_neg (by simpa using h)]
theorem letr_inj {i j : Nat} (hi : i < 5) (hj : j < 5) (h : letr i = letr j) : i = j := by
  have := congrArg UInt8.toNat h
  rw [letr_nat hi, letr_nat hj] at this
  omega
theorem ct_cons (c : UInt8) (l : List UInt8) (j : Nat) : ct (c :: l) j = ct [c] j + ct l j := ct_app [c] l j
theorem ct_one {i j : Nat} (hi : i < 5) (hj : j < 5) : ct [letr i] j = if i = j then 1 else 0 := by
  have := ct_snoc [] (letr i) j
  rw [List.nil_append, ct_nil, Nat.zero_add] at this
  rw [this]
  by_cases h : i = j
  · subst h; simp
  · rw [if_neg h, if_neg (fun e => h (letr_inj hi hj e))]

/-- The sum of the counts of the first n letters. -/
def sct (l : List UInt8) : Nat → Nat
  | 0 => 0
  | n + 1 => sct l n + ct l n
theorem sct_succ (l : List UInt8) (n : Nat) : sct l (n + 1) = sct l n + ct l n := rfl
theorem sct_app (a b : List UInt8) : ∀ n, sct (a ++ b) n = sct a n + sct b n
  | 0 => rfl
  | n + 1 => by rw [sct_succ, sct_succ, sct_succ, sct_app a b n, ct_app]; omega
theorem sct_nil : ∀ n, sct [] n = 0
  | 0 => rfl
  | n + 1 => by rw [sct_succ, sct_nil n, ct_nil]
theorem sct_one {i : Nat} (hi : i < 5) : ∀ n, n ≤ 5 → sct [letr i] n = if i < n then 1 else 0
  | 0, _ => rfl
  | n + 1, h => by
    rw [sct_succ, sct_one hi n (by omega), ct_one hi (by omega)]
    by_cases e : i < n
    · rw [if_pos e, if_neg (by omega), if_pos (by omega)]
    · by_cases e2 : i = n
      · rw [if_neg e, if_pos e2, if_pos (by omega)]
      · rw [if_neg e, if_neg e2, if_neg (by omega)]
theorem sct_all {n : Nat} (hn : n ≤ 5) : ∀ (l : List UInt8), (∀ c ∈ l, 97 ≤ c.toNat ∧ c.toNat - 97 < n) → sct l n = l.length
  | [], _ => sct_nil n
  | c :: l, h => by
    have hc := h c (List.mem_cons_self ..)
    have ih := sct_all hn l (fun x hx => h x (List.mem_cons_of_mem _ hx))
    have e := sct_app [c] l n
    rw [List.singleton_append] at e
    rw [e, ih]
    have e2 : c = letr (c.toNat - 97) := (letr_of hc.1).symm
    conv => lhs; rw [e2]
    rw [sct_one (by omega) n hn, if_pos hc.2, List.length_cons]
    omega
theorem ct_zero {n : Nat} {l : List UInt8} (h : ∀ c ∈ l, 97 ≤ c.toNat ∧ c.toNat - 97 < n) {j : Nat} (hj : n ≤ j) (h5 : j < 5) : ct l j = 0 := by
  unfold ct
  rw [List.count_eq_zero]
  intro hm
  have := h _ hm
  rw [letr_nat h5] at this
  omega
theorem ct_pos {l : List UInt8} {j : Nat} (h : 0 < ct l j) : letr j ∈ l := List.count_pos_iff.1 h
/-- No letters, no word. -/
theorem ct_none {n : Nat} (hn : n ≤ 5) {l : List UInt8} (h : ∀ c ∈ l, 97 ≤ c.toNat ∧ c.toNat - 97 < n) (h0 : ∀ j, j < n → ct l j = 0) : l = [] := by
  have h1 := sct_all hn l h
  have : ∀ k, k ≤ n → sct l k = 0 := by
    intro k
    induction k with
    | zero => intro _; rfl
    | succ k ih => intro hk; rw [sct_succ, ih (by omega), h0 k (by omega)]
  rw [this n (Nat.le_refl _)] at h1
  exact List.eq_nil_of_length_eq_zero h1.symm

end Go.Proofs.Ytfipbnognjepkaa
