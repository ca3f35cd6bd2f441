/- Plain facts: the edges of the graph of factors; the number of its cycles. -/
import Derived.Test.YtbhgghajbdlfkabGreatGapPlain
import Derived.Test.YtbhgghajbdlfkabGreatRows2
import Derived.Lib.SlicesS
namespace Go.Proofs.YtbhgghajbdlfkabGreat
set_option linter.unusedVariables false
set_option linter.unusedSimpArgs false
open Go.RowKit

/-- The edge of a longer factor. -/
def edgeRow (L : List ByteArray) (m : Nat) (f : ByteArray) : List Int := [Lib.idxOfS L (f.extract 0 m), Lib.idxOfS L (f.extract 1 (m + 1))]
def edgesOf (x : ByteArray) (m : Nat) : List (List Int) := (facs x (m + 1)).map (edgeRow (facs x m) m)
theorem facs_size {x : ByteArray} {m : Nat} : ∀ z ∈ facs x m, z.size = m := by
  intro z hz
  unfold facs at hz
  obtain ⟨i, hi, rfl⟩ := (mem_facK x m z _).1 hz
  rw [ByteArray.size_extract]
  omega
theorem edges_tot (L : List ByteArray) (m : Nat) : ∀ F : List ByteArray, totR (F.map (edgeRow L m)) = 2 * F.length
  | [] => rfl
  | f :: r => by
    have : totR ((f :: r).map (edgeRow L m)) = 2 + totR (r.map (edgeRow L m)) := by simp [totR, edgeRow]
    rw [this, edges_tot L m r, List.length_cons]
    omega
def feR (x : ByteArray) (m : Int) : List (List Int) × Int := if ¬ IsW x then ([], 1) else if m < 0 ∨ 60 < m then ([], 2) else (edgesOf x m.toNat, 0)
theorem feR_bad {x : ByteArray} {m : Int} (h : ¬ IsW x) : feR x m = ([], 1) := if_pos h
theorem feR_out {x : ByteArray} {m : Int} (h : IsW x) (k : m < 0 ∨ 60 < m) : feR x m = ([], 2) := by unfold feR; rw [if_neg (not_not_intro h), if_pos k]
theorem feR_ok {x : ByteArray} {m : Nat} (h : IsW x) (k : m ≤ 60) : feR x (m : Int) = (edgesOf x m, 0) := by
  unfold feR; rw [if_neg (not_not_intro h), if_neg (by omega)]; rfl
theorem feR_all (x : ByteArray) (m : Int) : (feR x m).1.length ≤ 61 ∧ totR (feR x m).1 ≤ 122 := by
  by_cases h : IsW x
  · by_cases ho : m < 0 ∨ 60 < m
    · rw [feR_out h ho]; decide
    · obtain ⟨n, rfl⟩ := Int.eq_ofNat_of_zero_le (show 0 ≤ m by omega)
      rw [feR_ok h (by omega)]
      have h1 := facs_len x (n + 1)
      have h2 := h.size
      constructor
      · show (edgesOf x n).length ≤ 61
        unfold edgesOf; rw [List.length_map]; omega
      · show totR (edgesOf x n) ≤ 122
        unfold edgesOf; rw [edges_tot]; omega
  · rw [feR_bad h]; decide
theorem feR_len (x : ByteArray) (m : Int) : (feR x m).1.length ≤ 3600 := by have := (feR_all x m).1; omega
theorem feR_tot (x : ByteArray) (m : Int) : totR (feR x m).1 ≤ 7200 := by have := (feR_all x m).2; omega

/-- The number of the cycles. -/
def ccyR (x : ByteArray) (m : Int) : Int × Int :=
  if ¬ IsW x then (0, 1) else if m < 0 ∨ 60 < m then (0, 2) else if (facs x m.toNat).length = 0 then (0, 0) else (((facs x (m.toNat + 1)).length : Int) - ((facs x m.toNat).length : Int) + 1, 0)
theorem ccyR_bad {x : ByteArray} {m : Int} (h : ¬ IsW x) : ccyR x m = (0, 1) := if_pos h
theorem ccyR_out {x : ByteArray} {m : Int} (h : IsW x) (k : m < 0 ∨ 60 < m) : ccyR x m = (0, 2) := by unfold ccyR; rw [if_neg (not_not_intro h), if_pos k]
theorem ccyR_none {x : ByteArray} {m : Nat} (h : IsW x) (k : m ≤ 60) (j : (facs x m).length = 0) : ccyR x (m : Int) = (0, 0) := by
  unfold ccyR; rw [if_neg (not_not_intro h), if_neg (by omega), if_pos (by exact j)]
theorem ccyR_ok {x : ByteArray} {m : Nat} (h : IsW x) (k : m ≤ 60) (j : ¬ (facs x m).length = 0) : ccyR x (m : Int) = (((facs x (m + 1)).length : Int) - ((facs x m).length : Int) + 1, 0) := by
  unfold ccyR; rw [if_neg (not_not_intro h), if_neg (by omega), if_neg (by exact j)]; rfl
theorem edgesOf_len (x : ByteArray) (m : Nat) : (edgesOf x m).length = (facs x (m + 1)).length := List.length_map _

theorem idx_range (L : List ByteArray) (u : ByteArray) : -1 ≤ Lib.idxOfS L u ∧ Lib.idxOfS L u ≤ L.length := by
  have key : ∀ (L : List ByteArray) (i : Nat), -1 ≤ Lib.idxFromS L u i ∧ Lib.idxFromS L u i ≤ i + L.length := by
    intro L
    induction L with
    | nil => intro i; simp [Lib.idxFromS] <;> omega
    | cons a r ih =>
      intro i
      have := ih (i + 1)
      rw [Lib.idxFromS]
      split
      · simp; omega
      · simp at this ⊢; omega
  have := key L 0
  unfold Lib.idxOfS
  simpa using this

end Go.Proofs.YtbhgghajbdlfkabGreat
