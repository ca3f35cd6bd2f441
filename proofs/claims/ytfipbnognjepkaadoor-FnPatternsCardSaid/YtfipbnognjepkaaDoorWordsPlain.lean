/- Plain facts: all words of a length. -/
import Derived.Test.YtfipbnognjepkaaDoorWordOfPlain
namespace Go.Proofs.YtfipbnognjepkaaDoor
set_option linter.unusedVariables false
set_option linter.unusedSimpArgs false
open Go.RowKit

def lt1 (j : Nat) : ByteArray := ⟨#[letB (j : Int)]⟩
def rowW (s : ByteArray) (c : Nat) : List ByteArray := (List.range c).map fun j => s ++ lt1 j
def nextW (k : Nat) (L : List ByteArray) : List ByteArray := L.flatMap fun s => rowW s k
def allW (k : Nat) : Nat → List ByteArray
  | 0 => [⟨#[]⟩]
  | m + 1 => nextW k (allW k m)
theorem rowW_len (s : ByteArray) (c : Nat) : (rowW s c).length = c := by simp [rowW]
theorem rowW_succ (s : ByteArray) (c : Nat) : rowW s (c + 1) = rowW s c ++ [s ++ lt1 c] := by simp [rowW, List.range_succ]
theorem rowW_zero (s : ByteArray) : rowW s 0 = [] := rfl
theorem nextW_take (k : Nat) (L : List ByteArray) (i : Nat) (h : i < L.length) : nextW k (L.take (i + 1)) = nextW k (L.take i) ++ rowW (L[i]'h) k := by
  unfold nextW
  rw [List.take_succ_eq_append_getElem h, List.flatMap_append]
  simp
theorem nextW_len (k : Nat) : ∀ (L : List ByteArray), (nextW k L).length = L.length * k
  | [] => by simp [nextW]
  | s :: L => by
    have h := nextW_len k L
    unfold nextW at *
    rw [List.flatMap_cons, List.length_append, h, rowW_len, List.length_cons, Nat.succ_mul, Nat.add_comm]
theorem allW_len (k : Nat) : ∀ m, (allW k m).length = k ^ m
  | 0 => rfl
  | m + 1 => by rw [allW, nextW_len, allW_len k m, Nat.pow_succ]
theorem lt1_size (j : Nat) : (lt1 j).size = 1 := rfl
theorem mem_nextW {k : Nat} {L : List ByteArray} {n : Nat} (h : ∀ s ∈ L, s.size ≤ n) : ∀ s ∈ nextW k L, s.size ≤ n + 1 := by
  intro s hs
  unfold nextW at hs
  rw [List.mem_flatMap] at hs
  obtain ⟨t, ht, hs⟩ := hs
  unfold rowW at hs
  rw [List.mem_map] at hs
  obtain ⟨j, _, rfl⟩ := hs
  rw [ByteArray.size_append, lt1_size]
  have := h t ht
  omega
theorem allW_size (k : Nat) : ∀ m, ∀ s ∈ allW k m, s.size ≤ m
  | 0, s, h => by
    simp [allW] at h
    subst h
    exact Nat.le_refl _
  | m + 1, s, h => mem_nextW (allW_size k m) s h
theorem encode_letter (j : Nat) (h : j ≤ 4) : Utf8.encode (97 + (j : Int)) = lt1 j := by
  have : ∀ j : Nat, j ≤ 4 → Utf8.encode (97 + (j : Int)) = lt1 j := by
    intro j hj
    match j, hj with
    | 0, _ => rfl
    | 1, _ => rfl
    | 2, _ => rfl
    | 3, _ => rfl
    | 4, _ => rfl
  exact this j h
def wordsR (m k : Int) : List ByteArray × Int := if m < 0 ∨ 60 < m ∨ k < 1 ∨ 5 < k then ([], 2) else if 256 < k.toNat ^ m.toNat then ([], 3) else (allW k.toNat m.toNat, 0)
theorem wordsR_out {m k : Int} (h : m < 0 ∨ 60 < m ∨ k < 1 ∨ 5 < k) : wordsR m k = ([], 2) := if_pos h
theorem wordsR_long {m k : Nat} (h1 : m ≤ 60) (h2 : 1 ≤ k) (h3 : k ≤ 5) (h : 256 < k ^ m) : wordsR (m : Int) (k : Int) = ([], 3) := by unfold wordsR; rw [if_neg (by omega), if_pos (by simpa using h)]
theorem wordsR_ok {m k : Nat} (h1 : m ≤ 60) (h2 : 1 ≤ k) (h3 : k ≤ 5) (h : ¬ 256 < k ^ m) : wordsR (m : Int) (k : Int) = (allW k m, 0) := by unfold wordsR; rw [if_neg (by omega), if_neg (by simpa using h)]; rfl
theorem wordsR_len (m k : Int) : (wordsR m k).1.length ≤ 4096 := by
  unfold wordsR
  split
  · simp
  · split
    · simp
    · rename_i h
      rw [allW_len]
      omega

end Go.Proofs.YtfipbnognjepkaaDoor
