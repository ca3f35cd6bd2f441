/- Plain facts: the places of a factor. -/
import Derived.Test.YtfipbnognjepkaaGreatDoorPlain
namespace Go.Proofs.YtfipbnognjepkaaGreatDoor
set_option linter.unusedVariables false
set_option linter.unusedSimpArgs false
open Go.RowKit

/-- The places, among the numbers told, at which u stands in x. -/
def posOf (x u : ByteArray) (pre : List Nat) : List Int := (pre.filter fun i => decide (x.extract i (i + u.size) = u)).map Int.ofNat
theorem posOf_hit (x u : ByteArray) (pre : List Nat) {i : Nat} (h : x.extract i (i + u.size) = u) : posOf x u (pre ++ [i]) = posOf x u pre ++ [(i : Int)] := by simp [posOf, h]
theorem posOf_miss (x u : ByteArray) (pre : List Nat) {i : Nat} (h : ¬ x.extract i (i + u.size) = u) : posOf x u (pre ++ [i]) = posOf x u pre := by simp [posOf, h]
theorem posOf_len (x u : ByteArray) (pre : List Nat) : (posOf x u pre).length ≤ pre.length := by
  unfold posOf; rw [List.length_map]; exact List.length_filter_le _ _
theorem posOf_nil (x u : ByteArray) : posOf x u [] = [] := rfl
theorem teq_yes {a b : ByteArray} (h : a = b) : (a.toList == b.toList) = true := by rw [h]; exact beq_self_eq_true _
theorem teq_no {a b : ByteArray} (h : ¬ a = b) : (a.toList == b.toList) = false := by
  apply Bool.eq_false_iff.2
  intro h1
  apply h
  have h2 := eq_of_beq h1
  rw [ByteArray.toList_eq, ByteArray.toList_eq] at h2
  have h3 : a.data = b.data := by rw [← Array.toList_inj]; exact h2
  cases a; cases b; simp_all
def placesR (x u : ByteArray) : List Int × Int := if ¬ (IsW x ∧ IsW u) then ([], 1) else (posOf x u (List.range (x.size + 1 - u.size)), 0)
theorem placesR_bad {x u : ByteArray} (h : ¬ (IsW x ∧ IsW u)) : placesR x u = ([], 1) := if_pos h
theorem placesR_ok {x u : ByteArray} (h : IsW x ∧ IsW u) : placesR x u = (posOf x u (List.range (x.size + 1 - u.size)), 0) := by unfold placesR; rw [if_neg (not_not_intro h)]
theorem placesR_len (x u : ByteArray) : (placesR x u).1.length ≤ 4096 := by
  by_cases h : IsW x ∧ IsW u
  · rw [placesR_ok h]
    have h1 := h.1.size
    have h2 := posOf_len x u (List.range (x.size + 1 - u.size))
    rw [List.length_range] at h2
    show (posOf x u (List.range (x.size + 1 - u.size))).length ≤ 4096
    omega
  · rw [placesR_bad h]; decide
theorem map_snoc (L : List Int) (z : Int) : L.map (Value.int .i64) ++ [Value.int .i64 z] = (L ++ [z]).map (Value.int .i64) := by rw [List.map_append]; rfl

end Go.Proofs.YtfipbnognjepkaaGreatDoor
