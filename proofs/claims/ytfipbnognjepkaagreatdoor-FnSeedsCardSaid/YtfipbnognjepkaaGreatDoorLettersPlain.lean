/- Plain facts: the numbers of letters. -/
import Derived.Test.YtfipbnognjepkaaGreatDoorComPlain
namespace Go.Proofs.YtfipbnognjepkaaGreatDoor
set_option linter.unusedVariables false
set_option linter.unusedSimpArgs false
open Go.RowKit

def numsR (x : ByteArray) : List Int := x.data.toList.map fun b => (b.toNat : Int) - 97
theorem numsR_len (x : ByteArray) : (numsR x).length = x.size := by
  unfold numsR
  rw [List.length_map]
  rfl
theorem numsR_get (x : ByteArray) (k : Nat) (h : k < (numsR x).length) (h' : k < x.size) : (numsR x)[k]'h = ((x[k]'h').toNat : Int) - 97 := by
  have h2 : k < (x.data.toList.map fun b => (b.toNat : Int) - 97).length := h
  have e : (x.data.toList.map fun b => (b.toNat : Int) - 97)[k]'h2 = ((x.data.toList[k]'(by simpa using h2)).toNat : Int) - 97 := List.getElem_map ..
  exact e
theorem nums_snoc (L : List Int) (k : Nat) (h : k < L.length) : (L.take k).map (Value.int .i64) ++ [Value.int .i64 (L[k]'h)] = (L.take (k + 1)).map (Value.int .i64) := by
  rw [List.take_succ_eq_append_getElem h, List.map_append]; rfl
def lettersR (x : ByteArray) : List Int × Int := if ¬ IsW x then ([], 1) else (numsR x, 0)
theorem lettersR_bad {x : ByteArray} (h : ¬ IsW x) : lettersR x = ([], 1) := if_pos h
theorem lettersR_ok {x : ByteArray} (h : IsW x) : lettersR x = (numsR x, 0) := by unfold lettersR; rw [if_neg (not_not_intro h)]
theorem lettersR_len (x : ByteArray) : (lettersR x).1.length ≤ 4096 := by
  by_cases h : IsW x
  · rw [lettersR_ok h, numsR_len]; have := h.size; omega
  · rw [lettersR_bad h]; decide

end Go.Proofs.YtfipbnognjepkaaGreatDoor
