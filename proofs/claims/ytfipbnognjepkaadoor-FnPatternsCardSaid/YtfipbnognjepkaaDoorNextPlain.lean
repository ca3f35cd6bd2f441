/- Plain facts: the letters with which a square free word goes on. -/
import Derived.Test.YtfipbnognjepkaaDoorSqPlain
import Derived.Test.YtfipbnognjepkaaDoorWordsPlain
namespace Go.Proofs.YtfipbnognjepkaaDoor
set_option linter.unusedVariables false
set_option linter.unusedSimpArgs false

/-- The letters below k with which the letters l go on without a square at their end. -/
def nextL (l : List UInt8) (k : Nat) : List Int := ((List.range k).filter fun (c : Nat) => decide (sa (l ++ [letB (c : Int)]) (l.length + 1) = 0)).map Int.ofNat
theorem nextL_zero (l : List UInt8) : nextL l 0 = [] := rfl
theorem nextL_hit (l : List UInt8) (k : Nat) (h : sa (l ++ [letB (k : Int)]) (l.length + 1) = 0) : nextL l (k + 1) = nextL l k ++ [(k : Int)] := by simp [nextL, List.range_succ, h]
theorem nextL_miss (l : List UInt8) (k : Nat) (h : ¬ sa (l ++ [letB (k : Int)]) (l.length + 1) = 0) : nextL l (k + 1) = nextL l k := by simp [nextL, List.range_succ, h]
theorem nextL_len (l : List UInt8) (k : Nat) : (nextL l k).length ≤ k := by
  unfold nextL; rw [List.length_map]; have := List.length_filter_le (fun (c : Nat) => decide (sa (l ++ [letB (c : Int)]) (l.length + 1) = 0)) (List.range k); rwa [List.length_range] at this
theorem nextL_mem {l : List UInt8} {k : Nat} {z : Int} (h : z ∈ nextL l k) : 0 ≤ z ∧ z < k ∧ sa (l ++ [letB z]) (l.length + 1) = 0 := by
  obtain ⟨i, hi, rfl⟩ := List.mem_map.1 h
  have h1 := List.mem_range.1 (List.mem_filter.1 hi).1
  have h2 := of_decide_eq_true (List.mem_filter.1 hi).2
  exact ⟨by simp, by simp only [Int.ofNat_eq_natCast]; omega, h2⟩
def nextR (x : ByteArray) (k : Int) : List Int × Int := if ¬ IsW x then ([], 1) else if k < 1 ∨ 5 < k then ([], 2) else if ¬ (fs (bl x)).2 = 0 then ([], 4) else if x.size = 60 then ([], 0) else (nextL (bl x) k.toNat, 0)
theorem nextR_bad {x : ByteArray} {k : Int} (h : ¬ IsW x) : nextR x k = ([], 1) := if_pos h
theorem nextR_out {x : ByteArray} {k : Int} (h : IsW x) (hk : k < 1 ∨ 5 < k) : nextR x k = ([], 2) := by unfold nextR; rw [if_neg (not_not_intro h), if_pos hk]
theorem nextR_not {x : ByteArray} {k : Int} (h : IsW x) (hk : ¬ (k < 1 ∨ 5 < k)) (h0 : ¬ (fs (bl x)).2 = 0) : nextR x k = ([], 4) := by unfold nextR; rw [if_neg (not_not_intro h), if_neg hk, if_pos h0]
theorem nextR_full {x : ByteArray} {k : Int} (h : IsW x) (hk : ¬ (k < 1 ∨ 5 < k)) (h0 : (fs (bl x)).2 = 0) (h1 : x.size = 60) : nextR x k = ([], 0) := by unfold nextR; rw [if_neg (not_not_intro h), if_neg hk, if_neg (not_not_intro h0), if_pos h1]
theorem nextR_ok {x : ByteArray} {k : Nat} (h : IsW x) (hk : ¬ ((k : Int) < 1 ∨ 5 < (k : Int))) (h0 : (fs (bl x)).2 = 0) (h1 : ¬ x.size = 60) : nextR x (k : Int) = (nextL (bl x) k, 0) := by unfold nextR; rw [if_neg (not_not_intro h), if_neg hk, if_neg (not_not_intro h0), if_neg h1]; rfl
theorem nextR_len (x : ByteArray) (k : Int) : (nextR x k).1.length ≤ 4096 := by
  unfold nextR
  by_cases h : ¬ IsW x
  · rw [if_pos h]; decide
  rw [if_neg h]
  by_cases hk : k < 1 ∨ 5 < k
  · rw [if_pos hk]; decide
  rw [if_neg hk]
  by_cases h0 : ¬ (fs (bl x)).2 = 0
  · rw [if_pos h0]; decide
  rw [if_neg h0]
  by_cases h1 : x.size = 60
  · rw [if_pos h1]; decide
  rw [if_neg h1]
  have := nextL_len (bl x) k.toNat
  show (nextL (bl x) k.toNat).length ≤ 4096
  omega
theorem bl_lt1 (x : ByteArray) (c : Nat) : bl (x ++ lt1 c) = bl x ++ [letB (c : Int)] := by rw [bl_append]; rfl
theorem size_lt1 (x : ByteArray) (c : Nat) : (x ++ lt1 c).size = x.size + 1 := by rw [ByteArray.size_append]; rfl

end Go.Proofs.YtfipbnognjepkaaDoor
