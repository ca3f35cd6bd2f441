/- The longest factor that is not bordered: what is answered. -/
import Derived.Test.YtinanajagkilaaaPerRPlain
namespace Go.Proofs.Ytinanajagkilaaa
set_option linter.unusedVariables false
set_option linter.unusedSimpArgs false

/-- The first place from i on, of so many, at which a factor of m letters has no period below m. -/
noncomputable def luI (x : ByteArray) (m : Nat) : Nat → Nat → Option Nat
  | _, 0 => none
  | i, f + 1 => if lp (bl (x.extract i (i + m))) = m then some i else luI x m (i + 1) f
theorem luI_end (x : ByteArray) (m i : Nat) : luI x m i 0 = none := rfl
theorem luI_hit {x : ByteArray} {m i f : Nat} (h : lp (bl (x.extract i (i + m))) = m) : luI x m i (f + 1) = some i := by rw [luI, if_pos h]
theorem luI_miss {x : ByteArray} {m i f : Nat} (h : ¬ lp (bl (x.extract i (i + m))) = m) : luI x m i (f + 1) = luI x m (i + 1) f := by rw [luI, if_neg h]
theorem luI_lt {x : ByteArray} {m k : Nat} : ∀ (f i : Nat), luI x m i f = some k → i ≤ k ∧ k < i + f ∧ lp (bl (x.extract k (k + m))) = m
  | 0, _, h => by cases h
  | f + 1, i, h => by
    by_cases e : lp (bl (x.extract i (i + m))) = m
    · rw [luI_hit e] at h
      obtain rfl : i = k := Option.some.inj h
      exact ⟨Nat.le_refl _, by omega, e⟩
    · rw [luI_miss e] at h
      have := luI_lt f (i + 1) h
      exact ⟨by omega, by omega, this.2.2⟩
/-- The first of the longest ones of at most m letters. -/
noncomputable def luF (x : ByteArray) : Nat → ByteArray
  | 0 => x.extract 0 1
  | 1 => x.extract 0 1
  | m + 2 => match luI x (m + 2) 0 (x.size + 1 - (m + 2)) with
    | some i => x.extract i (i + (m + 2))
    | none => luF x (m + 1)
theorem luF_low (x : ByteArray) {m : Nat} (h : m ≤ 1) : luF x m = x.extract 0 1 := by
  match m, h with
  | 0, _ => rw [luF]
  | 1, _ => rw [luF]
theorem luF_hit {x : ByteArray} {m i : Nat} (h : 2 ≤ m) (e : luI x m 0 (x.size + 1 - m) = some i) : luF x m = x.extract i (i + m) := by
  obtain ⟨k, rfl⟩ : ∃ k, m = k + 2 := ⟨m - 2, by omega⟩
  rw [luF, e]
theorem luF_miss {x : ByteArray} {m : Nat} (h : 2 ≤ m) (e : luI x m 0 (x.size + 1 - m) = none) : luF x m = luF x (m - 1) := by
  obtain ⟨k, rfl⟩ : ∃ k, m = k + 2 := ⟨m - 2, by omega⟩
  rw [luF, e]
  rfl
noncomputable def luR (x : ByteArray) : ByteArray × Int := if ¬ IsW x then (⟨#[]⟩, 1) else if x.size = 0 then (⟨#[]⟩, 5) else (luF x x.size, 0)
theorem luR_bad {x : ByteArray} (h : ¬ IsW x) : luR x = (⟨#[]⟩, 1) := if_pos h
theorem luR_nil {x : ByteArray} (h : IsW x) (h0 : x.size = 0) : luR x = (⟨#[]⟩, 5) := by unfold luR; rw [if_neg (not_not_intro h), if_pos h0]
theorem luR_ok {x : ByteArray} (h : IsW x) (h0 : ¬ x.size = 0) : luR x = (luF x x.size, 0) := by unfold luR; rw [if_neg (not_not_intro h), if_neg h0]

end Go.Proofs.Ytinanajagkilaaa
