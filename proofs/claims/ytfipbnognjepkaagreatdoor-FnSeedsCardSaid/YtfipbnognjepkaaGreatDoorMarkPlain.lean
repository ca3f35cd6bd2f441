/- Plain facts: the marks of texts. -/
import Derived.Test.YtfipbnognjepkaaGreatDoorComPlain
namespace Go.Proofs.YtfipbnognjepkaaGreatDoor
set_option linter.unusedVariables false
set_option linter.unusedSimpArgs false
open Go.RowKit

def digs : Nat → Nat → List UInt8 → List UInt8
  | 0, _, o => o
  | f + 1, k, o => if k = 0 then o else digs f (k / 10) (UInt8.ofNat (48 + k % 10) :: o)
def markL (k : Nat) : List UInt8 := 109 :: digs (k + 1) k []
def markT (k : Nat) : ByteArray := ⟨(markL k).toArray⟩
theorem digs_zero (f : Nat) (o : List UInt8) : digs f 0 o = o := by cases f <;> simp [digs]
theorem digs_step {f k : Nat} (o : List UInt8) (h : 0 < k) : digs (f + 1) k o = digs f (k / 10) (UInt8.ofNat (48 + k % 10) :: o) := by
  rw [digs, if_neg (by omega)]
theorem dig_nat (k : Nat) : ((UInt8.ofNat (48 + k % 10)).toNat : Int) = 48 + (k : Int) % 10 := by
  rw [UInt8.toNat_ofNat', Nat.mod_eq_of_lt (by omega)]
  omega
theorem cons_push (c : UInt8) (o : List UInt8) : (⟨#[c]⟩ : ByteArray) ++ ⟨o.toArray⟩ = ⟨(c :: o).toArray⟩ := by
  apply ByteArray.ext
  rw [ByteArray.data_append]
  simp

end Go.Proofs.YtfipbnognjepkaaGreatDoor
