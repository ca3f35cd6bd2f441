/- Plain facts: the words that avoid a pattern, as a search goes through them. -/
import Derived.Test.YtfipbnognjepkaaGreatDoorPat3Plain
namespace Go.Proofs.YtfipbnognjepkaaGreatDoor
set_option linter.unusedVariables false
set_option linter.unusedSimpArgs false

theorem avTo_pre {D : List UInt8 → List (List UInt8)} {P l : List UInt8} {c : Nat} : ∀ {k : Nat}, c ≤ k → ∃ t, avTo D P l c ++ t = avTo D P l k
  | 0, h => by obtain rfl : c = 0 := by omega
               exact ⟨[], by simp⟩
  | k + 1, h => by
    by_cases e : c = k + 1
    · subst e; exact ⟨[], by simp⟩
    · obtain ⟨t, ht⟩ := avTo_pre (D := D) (P := P) (l := l) (k := k) (show c ≤ k by omega)
      rw [avTo, ← ht]
      exact ⟨t ++ _, by rw [← List.append_assoc]⟩
theorem avTo_le {D : List UInt8 → List (List UInt8)} {P l : List UInt8} {c k : Nat} (h : c ≤ k) : (avTo D P l c).length ≤ (avTo D P l k).length := by
  obtain ⟨t, ht⟩ := avTo_pre (D := D) (P := P) (l := l) h
  rw [← ht, List.length_append]; omega
theorem isW_av {x : ByteArray} (h : IsW x) (hl : x.size < 60) {c : Nat} (hc : c ≤ 4) : IsW (x ++ lt1 c) := by
  refine ⟨by rw [size_lt1]; omega, fun i hi => ?_⟩
  have key : ∀ b ∈ bl (x ++ lt1 c), 97 ≤ b.toNat ∧ b.toNat ≤ 101 := by
    intro b hb
    rw [bl_lt1, List.mem_append] at hb
    rcases hb with hb | hb
    · obtain ⟨j, hj, rfl⟩ := List.getElem_of_mem hb
      exact h.2 j hj
    · rw [List.mem_singleton] at hb
      have := letB_nat (n := (c : Int)) (by omega) (by omega)
      rw [hb]
      omega
  exact key _ (List.getElem_mem (by exact hi))
theorem isW_nil : IsW ⟨#[]⟩ := ⟨by decide, fun i hi => absurd hi (Nat.not_lt_zero i)⟩
theorem pow_av {k f : Nat} (hk : k ≤ 3) (hf : f ≤ 12) : k ^ f ≤ 531441 := by
  have h1 : k ^ f ≤ 3 ^ f := Nat.pow_le_pow_left hk f
  have h2 : 3 ^ f ≤ 3 ^ 12 := Nat.pow_le_pow_right (by omega) hf
  have h3 : (3 : Nat) ^ 12 = 531441 := by decide
  omega

end Go.Proofs.YtfipbnognjepkaaGreatDoor
