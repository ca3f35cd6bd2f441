/- Plain facts on words, with no program in sight: what a word is, and small lemmas on lists of bytes. -/
import Derived.WalkKit
namespace Go.Proofs.YtfipbnognjepkaaGreatDoor
set_option linter.unusedVariables false
open Go.RowKit

theorem ret_bool {a b : Bool} (h : a = b) : Ending.returned (.bool a) = .returned (.bool b) := by rw [h]

/-- A word: at most sixty bytes, each one of the letters. -/
def IsW (s : ByteArray) : Prop := s.size ≤ 60 ∧ ∀ i (h : i < s.size), 97 ≤ (s[i]'h).toNat ∧ (s[i]'h).toNat ≤ 101

theorem IsW.size {s : ByteArray} (h : IsW s) : s.size ≤ 60 := h.1
theorem IsW.lo {s : ByteArray} (h : IsW s) (i : Nat) (hi : i < s.size) : 97 ≤ (s[i]'hi).toNat := (h.2 i hi).1
theorem IsW.hi {s : ByteArray} (h : IsW s) (i : Nat) (hi : i < s.size) : (s[i]'hi).toNat ≤ 101 := (h.2 i hi).2

/-- The letters ahead of place k are letters. -/
def UpTo (s : ByteArray) (k : Nat) : Prop := ∀ i (h : i < s.size), i < k → 97 ≤ (s[i]'h).toNat ∧ (s[i]'h).toNat ≤ 101
theorem UpTo.zero (s : ByteArray) : UpTo s 0 := fun _ _ h => by omega
theorem UpTo.succ {s : ByteArray} {k : Nat} (h : UpTo s k) (hk : k < s.size) (h1 : 97 ≤ (s[k]'hk).toNat) (h2 : (s[k]'hk).toNat ≤ 101) : UpTo s (k + 1) := by
  intro i hi hik
  by_cases e : i = k
  · subst e; exact ⟨h1, h2⟩
  · exact h i hi (by omega)
theorem UpTo.whole {s : ByteArray} {k : Nat} (h : UpTo s k) (hk : s.size ≤ k) (hs : s.size ≤ 60) : IsW s := ⟨hs, fun i hi => h i hi (by omega)⟩

instance (s : ByteArray) : Decidable (IsW s) := by unfold IsW; exact inferInstance

/-! ### What the functions of the first chapter answer: a text, a code. -/
def tE : ByteArray := ⟨#[]⟩
def productR (x y : ByteArray) : ByteArray × Int := if ¬ (IsW x ∧ IsW y) then (tE, 1) else if 60 < x.size + y.size then (tE, 3) else (x ++ y, 0)
theorem productR_bad {x y : ByteArray} (h : ¬ (IsW x ∧ IsW y)) : productR x y = (⟨#[]⟩, 1) := if_pos h
theorem productR_long {x y : ByteArray} (h : IsW x ∧ IsW y) (hl : 60 < x.size + y.size) : productR x y = (⟨#[]⟩, 3) := by unfold productR; rw [if_neg (not_not_intro h), if_pos hl]; rfl
theorem productR_ok {x y : ByteArray} (h : IsW x ∧ IsW y) (hl : ¬ 60 < x.size + y.size) : productR x y = (x ++ y, 0) := by unfold productR; rw [if_neg (not_not_intro h), if_neg hl]

def turned (x : ByteArray) (k : Nat) : ByteArray := x.extract k x.size ++ x.extract 0 k
def turnR (x : ByteArray) (k : Int) : ByteArray × Int := if ¬ IsW x then (tE, 1) else if k < 0 ∨ (x.size : Int) < k then (tE, 2) else (turned x k.toNat, 0)
theorem turnR_bad {x : ByteArray} {k : Int} (h : ¬ IsW x) : turnR x k = (⟨#[]⟩, 1) := if_pos h
theorem turnR_out {x : ByteArray} {k : Int} (h : IsW x) (hk : k < 0 ∨ (x.size : Int) < k) : turnR x k = (⟨#[]⟩, 2) := by unfold turnR; rw [if_neg (not_not_intro h), if_pos hk]; rfl
theorem turnR_ok {x : ByteArray} {k : Nat} (h : IsW x) (hk : k ≤ x.size) : turnR x (k : Int) = (turned x k, 0) := by unfold turnR; rw [if_neg (not_not_intro h), if_neg (by omega)]; rfl

def factR (x : ByteArray) (i m : Int) : ByteArray × Int := if ¬ IsW x then (tE, 1) else if i < 0 ∨ m < 0 ∨ (x.size : Int) < i ∨ (x.size : Int) - i < m then (tE, 2) else (x.extract i.toNat (i.toNat + m.toNat), 0)
theorem factR_bad {x : ByteArray} {i m : Int} (h : ¬ IsW x) : factR x i m = (⟨#[]⟩, 1) := if_pos h
theorem factR_out {x : ByteArray} {i m : Int} (h : IsW x) (hk : i < 0 ∨ m < 0 ∨ (x.size : Int) < i ∨ (x.size : Int) - i < m) : factR x i m = (⟨#[]⟩, 2) := by unfold factR; rw [if_neg (not_not_intro h), if_pos hk]; rfl
theorem factR_ok {x : ByteArray} {i m : Nat} (h : IsW x) (hk : i + m ≤ x.size) : factR x (i : Int) (m : Int) = (x.extract i (i + m), 0) := by unfold factR; rw [if_neg (not_not_intro h), if_neg (by omega)]; rfl

end Go.Proofs.YtfipbnognjepkaaGreatDoor
