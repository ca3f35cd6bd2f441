/- Plain facts: the longest palindrome of a word. -/
import Derived.Test.YtddfdciohnabbacGreatPalPlain
namespace Go.Proofs.YtddfdciohnabbacGreat
set_option linter.unusedVariables false
set_option linter.unusedSimpArgs false

/-! ### The longest one. -/
def piI (x : ByteArray) (m : Nat) : Nat → Nat → Option Nat
  | _, 0 => none
  | i, f + 1 => if palB (bl (x.extract i (i + m))) then some i else piI x m (i + 1) f
theorem piI_end (x : ByteArray) (m i : Nat) : piI x m i 0 = none := rfl
theorem piI_hit {x : ByteArray} {m i f : Nat} (h : palB (bl (x.extract i (i + m))) = true) : piI x m i (f + 1) = some i := by rw [piI, if_pos h]
theorem piI_miss {x : ByteArray} {m i f : Nat} (h : palB (bl (x.extract i (i + m))) = false) : piI x m i (f + 1) = piI x m (i + 1) f := by rw [piI, if_neg (by rw [h]; decide)]
theorem piI_lt {x : ByteArray} {m k : Nat} : ∀ (f i : Nat), piI x m i f = some k → i ≤ k ∧ k < i + f ∧ palB (bl (x.extract k (k + m))) = true
  | 0, _, h => by cases h
  | f + 1, i, h => by
    by_cases e : palB (bl (x.extract i (i + m))) = true
    · rw [piI_hit e] at h
      obtain rfl : i = k := Option.some.inj h
      exact ⟨Nat.le_refl _, by omega, e⟩
    · rw [piI_miss (by simpa using e)] at h
      have := piI_lt f (i + 1) h
      exact ⟨by omega, by omega, this.2.2⟩
theorem piI_none {x : ByteArray} {m : Nat} : ∀ (f i : Nat), (∀ k, i ≤ k → k < i + f → palB (bl (x.extract k (k + m))) = false) → piI x m i f = none
  | 0, _, _ => rfl
  | f + 1, i, h => by
    rw [piI_miss (h i (Nat.le_refl _) (by omega))]
    exact piI_none f (i + 1) fun k h1 h2 => h k (by omega) (by omega)
theorem piI_no {x : ByteArray} {m : Nat} : ∀ (f i : Nat), piI x m i f = none → ∀ k, i ≤ k → k < i + f → palB (bl (x.extract k (k + m))) = false
  | 0, _, _, k, h1, h2 => by omega
  | f + 1, i, h, k, h1, h2 => by
    by_cases e : palB (bl (x.extract i (i + m))) = true
    · rw [piI_hit e] at h; cases h
    · have e2 : palB (bl (x.extract i (i + m))) = false := by simpa using e
      rw [piI_miss e2] at h
      by_cases hk : k = i
      · subst hk; exact e2
      · exact piI_no f (i + 1) h k (by omega) (by omega)
theorem piI_some {x : ByteArray} {m j : Nat} (hj : palB (bl (x.extract j (j + m))) = true) : ∀ (f i : Nat), i ≤ j → j < i + f → (∀ k, i ≤ k → k < j → palB (bl (x.extract k (k + m))) = false) → piI x m i f = some j
  | 0, i, h1, h2, _ => by omega
  | f + 1, i, h1, h2, h => by
    by_cases e : i = j
    · subst e; exact piI_hit hj
    · rw [piI_miss (h i (Nat.le_refl _) (by omega))]
      exact piI_some hj f (i + 1) (by omega) (by omega) fun k h3 h4 => h k (by omega) h4
def lgF (x : ByteArray) : Nat → ByteArray × Nat
  | 0 => (⟨#[]⟩, 0)
  | m + 1 => match piI x (m + 1) 0 (x.size - m) with
    | some i => (x.extract i (i + (m + 1)), i)
    | none => lgF x m
theorem lgF_hit {x : ByteArray} {m i : Nat} (h : 1 ≤ m) (e : piI x m 0 (x.size + 1 - m) = some i) : lgF x m = (x.extract i (i + m), i) := by
  obtain ⟨k, rfl⟩ : ∃ k, m = k + 1 := ⟨m - 1, by omega⟩
  rw [show x.size + 1 - (k + 1) = x.size - k by omega] at e
  rw [lgF, e]
theorem lgF_miss {x : ByteArray} {m : Nat} (h : 1 ≤ m) (e : piI x m 0 (x.size + 1 - m) = none) : lgF x m = lgF x (m - 1) := by
  obtain ⟨k, rfl⟩ : ∃ k, m = k + 1 := ⟨m - 1, by omega⟩
  rw [show x.size + 1 - (k + 1) = x.size - k by omega] at e
  rw [lgF, e]
  rfl
theorem pal_letter (x : ByteArray) (i : Nat) (h : i < x.size) : palB (bl (x.extract i (i + 1))) = true := by
  have hx : bl (x.extract i (i + 1)) = [x[i]'h] := by
    rw [bl_extract, show i + 1 - i = 1 by omega, List.drop_eq_getElem_cons (by rw [bl_len]; omega)]
    rfl
  rw [hx]; exact pal_one _
theorem lgF_one {x : ByteArray} (h : 0 < x.size) : lgF x 1 = (x.extract 0 1, 0) := by
  have := lgF_hit (x := x) (m := 1) (i := 0) (Nat.le_refl _) (by
    rw [show x.size + 1 - 1 = (x.size - 1) + 1 by omega]
    exact piI_hit (pal_letter x 0 h))
  rw [this, Nat.zero_add]
theorem lgF_size {x : ByteArray} : ∀ m, m ≤ x.size → (lgF x m).1.size ≤ 60 ∨ 60 < x.size
  | 0, _ => .inl (by rw [lgF]; exact Nat.zero_le _)
  | m + 1, hm => by
    rw [lgF]
    cases e : piI x (m + 1) 0 (x.size - m) with
    | none => exact lgF_size m (by omega)
    | some i =>
      by_cases h60 : 60 < x.size
      · exact .inr h60
      · refine .inl ?_
        show (x.extract i (i + (m + 1))).size ≤ 60
        simp; omega
def lgR (x : ByteArray) : ByteArray × Int × Int := if ¬ IsW x then (⟨#[]⟩, 0, 1) else if x.size = 0 then (⟨#[]⟩, 0, 5) else ((lgF x x.size).1, ((lgF x x.size).2 : Int), 0)
theorem lgR_bad {x : ByteArray} (h : ¬ IsW x) : lgR x = (⟨#[]⟩, 0, 1) := if_pos h
theorem lgR_nil {x : ByteArray} (h : IsW x) (h0 : x.size = 0) : lgR x = (⟨#[]⟩, 0, 5) := by unfold lgR; rw [if_neg (not_not_intro h), if_pos h0]
theorem lgR_ok {x : ByteArray} (h : IsW x) (h0 : ¬ x.size = 0) : lgR x = ((lgF x x.size).1, ((lgF x x.size).2 : Int), 0) := by unfold lgR; rw [if_neg (not_not_intro h), if_neg h0]


end Go.Proofs.YtddfdciohnabbacGreat
