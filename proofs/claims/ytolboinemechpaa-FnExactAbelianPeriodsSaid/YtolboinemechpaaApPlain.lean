/- Plain facts: abelian periods with their heads. -/
import Derived.Test.YtolboinemechpaaAbPlain
namespace Go.Proofs.Ytolboinemechpaa
set_option linter.unusedVariables false
set_option linter.unusedSimpArgs false
open Go.RowKit

theorem alk_apTo (l : List UInt8) (h m : Nat) (hm : 1 ≤ m) : alk (l.drop h) m ↔ apTo l h m ((l.length - h) / m) := by
  have key : ∀ j, (j + 1) * m ≤ (l.drop h).length ↔ j < (l.length - h) / m := fun j => by
    rw [List.length_drop, ← Nat.le_div_iff_mul_le (by omega)]
    exact Nat.succ_le_iff
  have hb : ∀ j, blk (l.drop h) m j = (l.drop (h + j * m)).take m := fun j => by unfold blk; rw [List.drop_drop]
  have h0 : blk (l.drop h) m 0 = (l.drop h).take m := by rw [hb, Nat.zero_mul, Nat.add_zero]
  constructor
  · intro q j j1 j2
    have := q j j1 ((key j).2 j2)
    rw [hb, h0] at this
    rw [vq_sym]
    exact this
  · intro q j j1 j2
    have := q j j1 ((key j).1 j2)
    rw [hb, h0, vq_sym]
    exact this

noncomputable section
instance (l : List UInt8) (m h : Nat) : Decidable (apT l m h) := Classical.propDecidable _
/-- Those with the length m, from the head h on, of so many. -/
def hrow (P : Nat → Nat → Prop) [∀ m h, Decidable (P m h)] (m : Nat) : Nat → Nat → List (Nat × Nat)
  | _, 0 => []
  | h, f + 1 => if P m h then (h, m) :: hrow P m (h + 1) f else hrow P m (h + 1) f
def hall (P : Nat → Nat → Prop) [∀ m h, Decidable (P m h)] : Nat → Nat → List (Nat × Nat)
  | _, 0 => []
  | m, f + 1 => hrow P m 0 m ++ hall P (m + 1) f
variable {P : Nat → Nat → Prop} [∀ m h, Decidable (P m h)]
theorem hrow_hit {m h f : Nat} (q : P m h) : hrow P m h (f + 1) = (h, m) :: hrow P m (h + 1) f := by rw [hrow, if_pos q]
theorem hrow_miss {m h f : Nat} (q : ¬ P m h) : hrow P m h (f + 1) = hrow P m (h + 1) f := by rw [hrow, if_neg q]
theorem hrow_none {m : Nat} : ∀ (f h : Nat), (∀ r, h ≤ r → ¬ P m r) → hrow P m h f = []
  | 0, _, _ => rfl
  | f + 1, h, q => by
    rw [hrow_miss (q h (Nat.le_refl _))]
    exact hrow_none f (h + 1) fun r h1 => q r (by omega)
theorem hrow_len {m : Nat} : ∀ (f h : Nat), (hrow P m h f).length ≤ f
  | 0, _ => Nat.le_refl _
  | f + 1, h => by
    have ih := hrow_len (m := m) f (h + 1)
    by_cases c : P m h
    · rw [hrow_hit c, List.length_cons]; omega
    · rw [hrow_miss c]; omega
theorem hall_len : ∀ (f m : Nat), (hall P m f).length ≤ f * (m + f)
  | 0, m => by rw [hall]; simp
  | f + 1, m => by
    have h1 := hrow_len (P := P) (m := m) m 0
    have h2 := hall_len f (m + 1)
    rw [hall, List.length_append, Nat.succ_mul]
    have : m + 1 + f = m + (f + 1) := by omega
    rw [this] at h2
    omega
theorem mem_hrow {m : Nat} {p : Nat × Nat} : ∀ (f h : Nat), p ∈ hrow P m h f ↔ p.2 = m ∧ h ≤ p.1 ∧ p.1 < h + f ∧ P m p.1
  | 0, h => ⟨fun q => (by rw [hrow] at q; cases q), fun q => (by omega)⟩
  | f + 1, h => by
    have ih := mem_hrow (m := m) (p := p) f (h + 1)
    by_cases c : P m h
    · rw [hrow_hit c, List.mem_cons, ih]
      constructor
      · rintro (rfl | ⟨h1, h2, h3, h4⟩)
        · exact ⟨rfl, Nat.le_refl _, by show h < _; omega, c⟩
        · exact ⟨h1, by omega, by omega, h4⟩
      · rintro ⟨h1, h2, h3, h4⟩
        by_cases eq : p.1 = h
        · exact .inl (Prod.ext eq h1)
        · exact .inr ⟨h1, by omega, by omega, h4⟩
    · rw [hrow_miss c, ih]
      constructor
      · rintro ⟨h1, h2, h3, h4⟩
        exact ⟨h1, by omega, by omega, h4⟩
      · rintro ⟨h1, h2, h3, h4⟩
        by_cases eq : p.1 = h
        · rw [eq] at h4; exact absurd h4 c
        · exact ⟨h1, by omega, by omega, h4⟩
theorem mem_hall {p : Nat × Nat} : ∀ (f m : Nat), p ∈ hall P m f ↔ m ≤ p.2 ∧ p.2 < m + f ∧ p.1 < p.2 ∧ P p.2 p.1
  | 0, m => ⟨fun q => (by rw [hall] at q; cases q), fun q => (by omega)⟩
  | f + 1, m => by
    have ih := mem_hall (p := p) f (m + 1)
    rw [hall, List.mem_append, mem_hrow, ih]
    constructor
    · rintro (⟨h1, h2, h3, h4⟩ | ⟨h1, h2, h3, h4⟩)
      · subst h1; exact ⟨Nat.le_refl _, by omega, by omega, h4⟩
      · exact ⟨by omega, by omega, h3, h4⟩
    · rintro ⟨h1, h2, h3, h4⟩
      by_cases e : p.2 = m
      · subst e; exact .inl ⟨rfl, by omega, by omega, h4⟩
      · exact .inr ⟨by omega, by omega, h3, h4⟩
/-- All abelian periods, heads and lengths. -/
def apd (l : List UInt8) : List (Nat × Nat) := hall (apT l) 1 l.length
theorem apd_short {l : List UInt8} (h : l.length ≤ 60) : (apd l).length ≤ 3660 := Nat.le_trans (hall_len _ _) (Nat.mul_le_mul h (show 1 + l.length ≤ 61 by omega))
theorem hrow_stop {l : List UInt8} {m h : Nat} (f : Nat) (q : ¬ h + m ≤ l.length) : hrow (apT l) m h f = [] :=
  hrow_none f h fun r hr c => by have := c.1; omega
def apdR (x : ByteArray) : List (List Int) × Int := if ¬ IsW x then ([], 1) else (rowsN (apd (bl x)), 0)
theorem apdR_bad {x : ByteArray} (h : ¬ IsW x) : apdR x = ([], 1) := if_pos h
theorem apdR_ok {x : ByteArray} (h : IsW x) : apdR x = (rowsN (apd (bl x)), 0) := by unfold apdR; rw [if_neg (not_not_intro h)]
end

end Go.Proofs.Ytolboinemechpaa
