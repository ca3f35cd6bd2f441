/- Plain facts: powers. -/
import Derived.Test.YtddfdciohnabbacGreatPlain
import Derived.Shelf.Strings.Repeat
namespace Go.Proofs.YtddfdciohnabbacGreat
set_option linter.unusedVariables false
set_option linter.unusedSimpArgs false
open Go.RowKit

def pow (x : ByteArray) (n : Nat) : ByteArray := ⟨(Lib.repeatL x.data.toList n).toArray⟩
theorem pow_zero (x : ByteArray) : pow x 0 = ⟨#[]⟩ := rfl
theorem pow_empty (n : Nat) : pow ⟨#[]⟩ n = ⟨#[]⟩ := by
  show (⟨(Lib.repeatL [] n).toArray⟩ : ByteArray) = _
  rw [Lib.repeatL_nil]
theorem pow_succ (x : ByteArray) (n : Nat) : pow x n ++ x = pow x (n + 1) := by
  apply ByteArray.ext
  rw [ByteArray.data_append]
  show (Lib.repeatL x.data.toList n).toArray ++ x.data = (Lib.repeatL x.data.toList (n + 1)).toArray
  rw [Lib.repeatL_add, Lib.repeatL_one]
  simp
theorem pow_size (x : ByteArray) (n : Nat) : (pow x n).size = x.size * n := by
  show (Lib.repeatL x.data.toList n).toArray.size = x.data.size * n
  rw [List.size_toArray, Lib.repeatL_length, Nat.mul_comm]
  rfl
def powR (x : ByteArray) (k : Int) : ByteArray × Int := if ¬ IsW x then (tE, 1) else if k < 0 ∨ 1000 < k then (tE, 2) else if 60 < (x.size : Int) * k then (tE, 3) else (pow x k.toNat, 0)
theorem powR_bad {x : ByteArray} {k : Int} (h : ¬ IsW x) : powR x k = (⟨#[]⟩, 1) := if_pos h
theorem powR_out {x : ByteArray} {k : Int} (h : IsW x) (hk : k < 0 ∨ 1000 < k) : powR x k = (⟨#[]⟩, 2) := by unfold powR; rw [if_neg (not_not_intro h), if_pos hk]; rfl
theorem powR_long {x : ByteArray} {k : Nat} (h : IsW x) (hk : k ≤ 1000) (hl : 60 < x.size * k) : powR x (k : Int) = (⟨#[]⟩, 3) := by
  have h2 : (60 : Int) < (x.size : Int) * k := by have : ((x.size * k : Nat) : Int) = (x.size : Int) * k := Int.natCast_mul _ _; omega
  unfold powR; rw [if_neg (not_not_intro h), if_neg (by omega), if_pos h2]; rfl
theorem powR_ok {x : ByteArray} {k : Nat} (h : IsW x) (hk : k ≤ 1000) (hl : x.size * k ≤ 60) : powR x (k : Int) = (pow x k, 0) := by
  have h2 : ¬ (60 : Int) < (x.size : Int) * k := by have : ((x.size * k : Nat) : Int) = (x.size : Int) * k := Int.natCast_mul _ _; omega
  unfold powR; rw [if_neg (not_not_intro h), if_neg (by omega), if_neg h2]; rfl

end Go.Proofs.YtddfdciohnabbacGreat
