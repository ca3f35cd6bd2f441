/- Plain facts: words of lists of numbers. -/
import Derived.Test.YtfipbnognjepkaaGreatDoorComPlain
import Derived.Lib.RuneBytes
import Derived.Lib.UnsafeStr
namespace Go.Proofs.YtfipbnognjepkaaGreatDoor
set_option linter.unusedVariables false
set_option linter.unusedSimpArgs false
open Go.RowKit

def okN (L : List Int) : Prop := ∀ j (h : j < L.length), 0 ≤ L[j]'h ∧ L[j]'h ≤ 4
instance (L : List Int) : Decidable (okN L) := by unfold okN; exact inferInstance
def okTo (L : List Int) (k : Nat) : Prop := ∀ j (h : j < L.length), j < k → 0 ≤ L[j]'h ∧ L[j]'h ≤ 4
theorem okTo.zero (L : List Int) : okTo L 0 := fun _ _ h => by omega
theorem okTo.succ {L : List Int} {k : Nat} (h : okTo L k) (hk : k < L.length) (h1 : 0 ≤ L[k]'hk) (h2 : L[k]'hk ≤ 4) : okTo L (k + 1) := by
  intro i hi hik
  by_cases e : i = k
  · subst e; exact ⟨h1, h2⟩
  · exact h i hi (by omega)
theorem okTo.whole {L : List Int} {k : Nat} (h : okTo L k) (hk : L.length ≤ k) : okN L := fun i hi => h i hi (by omega)
theorem okN_nil : okN [] := fun _ h => by simp at h
def letB (n : Int) : UInt8 := UInt8.ofNat (97 + n.toNat)
theorem letB_nat {n : Int} (h0 : 0 ≤ n) (h4 : n ≤ 4) : ((letB n).toNat : Int) = 97 + n := by
  unfold letB
  rw [UInt8.toNat_ofNat', Nat.mod_eq_of_lt (by omega)]
  omega
def wordL (L : List Int) : List UInt8 := L.map letB
def wordB (L : List Int) : ByteArray := ⟨(wordL L).toArray⟩
theorem wordL_snoc (L : List Int) (k : Nat) (h : k < L.length) : wordL (L.take k) ++ [letB (L[k]'h)] = wordL (L.take (k + 1)) := by
  rw [List.take_succ_eq_append_getElem h]
  unfold wordL
  rw [List.map_append]
  rfl
theorem wordL_len (L : List Int) (k : Nat) (h : k ≤ L.length) : (wordL (L.take k)).length = k := by simp [wordL]; omega
theorem runeCells_letter {n : Int} (h0 : 0 ≤ n) (h4 : n ≤ 4) : Lib.runeCells (97 + n) = Lib.byteCells [letB n] := by
  unfold Lib.runeCells Lib.byteCells
  rw [Lib.encodeRuneZ_one (by omega) (by omega)]
  simp [letB_nat h0 h4]
def wolR (L : List Int) : ByteArray × Int := if 60 < L.length ∨ ¬ okN L then (tE, 2) else (wordB L, 0)
theorem wolR_bad {L : List Int} (h : 60 < L.length ∨ ¬ okN L) : wolR L = (⟨#[]⟩, 2) := if_pos h
theorem wolR_ok {L : List Int} (h : L.length ≤ 60) (h2 : okN L) : wolR L = (wordB L, 0) := if_neg (by intro h3; rcases h3 with h3 | h3; omega; exact h3 h2)
theorem wordB_push (L : List Int) (k : Nat) (h : k < L.length) : (⟨(wordL (L.take k)).toArray⟩ : ByteArray) ++ ⟨#[letB (L[k]'h)]⟩ = ⟨(wordL (L.take (k + 1))).toArray⟩ := by
  apply ByteArray.ext
  rw [ByteArray.data_append]
  rw [← wordL_snoc L k h]
  simp

end Go.Proofs.YtfipbnognjepkaaGreatDoor
