/- Plain facts on words, with no program in sight: what a word is, and small lemmas on lists of bytes. -/
import Derived.WalkKit
namespace Go.Proofs.Ytedpbfddoobnnaa
open Go.RowKit

theorem ret_bool {a b : Bool} (h : a = b) : Ending.returned (.bool a) = .returned (.bool b) := by rw [h]

/-- A word: at most sixty bytes, each one of the letters. -/
def IsW (s : ByteArray) : Prop := s.size ≤ 60 ∧ ∀ i (h : i < s.size), 97 ≤ (s[i]'h).toNat ∧ (s[i]'h).toNat ≤ 101

theorem IsW.size {s : ByteArray} (h : IsW s) : s.size ≤ 60 := h.1
theorem IsW.lo {s : ByteArray} (h : IsW s) (i : Nat) (hi : i < s.size) : 97 ≤ (s[i]'hi).toNat := (h.2 i hi).1
theorem IsW.hi {s : ByteArray} (h : IsW s) (i : Nat) (hi : i < s.size) : (s[i]'hi).toNat ≤ 101 := (h.2 i hi).2

/-- The letters ahead of place k are letters. -/
def UpTo (s : ByteArray) (k : Nat) : Prop := ∀ i (h : i < s.size), i < k → 97 ≤ (s[i]'h).toNat ∧ (s[i]'h).toNat ≤ 101
theorem UpTo.zero (s : ByteArray) : UpTo s 0 := fun _ _ h => by omega
theorem UpTo.succ {s : ByteArray} {k : Nat} (h : UpTo s k) (hk : k < s.size) (h1 : 97 ≤ (s[k]'hk).toNat) (h2 : (s[k]'hk).toNat ≤ 101) : UpTo s (k + 1) := by
  intro i hi hik
  by_cases e : i = k
  · subst e; exact ⟨h1, h2⟩
  · exact h i hi (by omega)
theorem UpTo.whole {s : ByteArray} {k : Nat} (h : UpTo s k) (hk : s.size ≤ k) (hs : s.size ≤ 60) : IsW s := ⟨hs, fun i hi => h i hi (by omega)⟩

end Go.Proofs.Ytedpbfddoobnnaa
