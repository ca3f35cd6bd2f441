/- Plain facts: how many letters two texts have in common at their beginnings; texts reversed. -/
import Derived.Test.YtfipbnognjepkaaGreatDoorPlain
namespace Go.Proofs.YtfipbnognjepkaaGreatDoor
set_option linter.unusedVariables false
open Go.RowKit

def comFrom (x y : ByteArray) : Nat → Nat → Nat
  | 0, k => k
  | f + 1, k => if h : k < x.size ∧ k < y.size then (if x[k]'h.1 = y[k]'h.2 then comFrom x y f (k + 1) else k) else k
def comN (x y : ByteArray) : Nat := comFrom x y x.size 0

theorem comFrom_eq {x y : ByteArray} {f k : Nat} (h1 : k < x.size) (h2 : k < y.size) (e : x[k]'h1 = y[k]'h2) : comFrom x y (f + 1) k = comFrom x y f (k + 1) := by
  rw [comFrom, dif_pos ⟨h1, h2⟩, if_pos e]
theorem comFrom_ne {x y : ByteArray} {f k : Nat} (h1 : k < x.size) (h2 : k < y.size) (e : x[k]'h1 ≠ y[k]'h2) : comFrom x y f k = k := by
  cases f with
  | zero => rfl
  | succ f => rw [comFrom, dif_pos ⟨h1, h2⟩, if_neg e]
theorem comFrom_end {x y : ByteArray} {f k : Nat} (h : ¬ (k < x.size ∧ k < y.size)) : comFrom x y f k = k := by
  cases f with
  | zero => rfl
  | succ f => rw [comFrom, dif_neg h]
theorem comFrom_le {x y : ByteArray} : ∀ (f k : Nat), k ≤ x.size → k ≤ y.size → comFrom x y f k ≤ x.size ∧ comFrom x y f k ≤ y.size
  | 0, _, h1, h2 => ⟨h1, h2⟩
  | f + 1, k, h1, h2 => by
    rw [comFrom]
    split
    · rename_i h
      split
      · exact comFrom_le f (k + 1) h.1 h.2
      · exact ⟨h1, h2⟩
    · exact ⟨h1, h2⟩
theorem comN_le (x y : ByteArray) : comN x y ≤ x.size ∧ comN x y ≤ y.size := comFrom_le _ _ (Nat.zero_le _) (Nat.zero_le _)
theorem byte_eq_iff {a b : UInt8} : ((a.toNat : Int) = (b.toNat : Int)) ↔ a = b := by
  constructor
  · intro h; exact UInt8.toNat_inj.1 (by omega)
  · intro h; rw [h]

def rev (x : ByteArray) : ByteArray := ⟨x.data.reverse⟩
theorem rev_size (x : ByteArray) : (rev x).size = x.size := by
  show x.data.reverse.size = x.data.size
  exact Array.size_reverse
theorem rev_get (x : ByteArray) (k : Nat) (h : k < (rev x).size) (h' : x.size - 1 - k < x.size) : (rev x)[k]'h = x[x.size - 1 - k]'h' := by
  have h2 : k < x.data.reverse.size := h
  have e : x.data.reverse[k]'h2 = x.data[x.data.size - 1 - k]'h' := Array.getElem_reverse ..
  exact e

def beginR (x y : ByteArray) : ByteArray × Int := if ¬ (IsW x ∧ IsW y) then (tE, 1) else (x.extract 0 (comN x y), 0)
theorem beginR_bad {x y : ByteArray} (h : ¬ (IsW x ∧ IsW y)) : beginR x y = (⟨#[]⟩, 1) := if_pos h
theorem beginR_ok {x y : ByteArray} (h : IsW x ∧ IsW y) : beginR x y = (x.extract 0 (comN x y), 0) := by unfold beginR; rw [if_neg (not_not_intro h)]
def endR (x y : ByteArray) : ByteArray × Int := if ¬ (IsW x ∧ IsW y) then (tE, 1) else (x.extract (x.size - comN (rev x) (rev y)) x.size, 0)
theorem endR_bad {x y : ByteArray} (h : ¬ (IsW x ∧ IsW y)) : endR x y = (⟨#[]⟩, 1) := if_pos h
theorem endR_ok {x y : ByteArray} (h : IsW x ∧ IsW y) : endR x y = (x.extract (x.size - comN (rev x) (rev y)) x.size, 0) := by unfold endR; rw [if_neg (not_not_intro h)]

end Go.Proofs.YtfipbnognjepkaaGreatDoor
