/- Plain facts: letters renamed. -/
import Derived.Test.YtedpbfddoobnnaaLettersPlain
import Derived.Test.YtedpbfddoobnnaaWordOfPlain
namespace Go.Proofs.Ytedpbfddoobnnaa
set_option linter.unusedVariables false
set_option linter.unusedSimpArgs false
open Go.RowKit

def renL (x : ByteArray) (L : List Int) : List Int := (numsR x).map fun n => L.getD n.toNat 0
theorem renL_len (x : ByteArray) (L : List Int) : (renL x L).length = x.size := by unfold renL; rw [List.length_map, numsR_len]
theorem renL_get (x : ByteArray) (L : List Int) (k : Nat) (h : k < (renL x L).length) (h' : k < x.size) : (renL x L)[k]'h = L.getD (((x[k]'h').toNat : Int) - 97).toNat 0 := by
  have h2 : k < ((numsR x).map fun n => L.getD n.toNat 0).length := h
  have h3 : k < (numsR x).length := by rw [numsR_len]; exact h'
  have e : ((numsR x).map fun n => L.getD n.toNat 0)[k]'h2 = L.getD ((numsR x)[k]'h3).toNat 0 := List.getElem_map ..
  rw [numsR_get x k h3 h'] at e
  exact e
theorem renL_ok {x : ByteArray} {L : List Int} (hx : IsW x) (hL : L.length = 5) (h : okN L) : okN (renL x L) := by
  intro j hj
  have hj' : j < x.size := by rw [← renL_len x L]; exact hj
  rw [renL_get x L j hj hj']
  have h1 := hx.lo j hj'
  have h2 := hx.hi j hj'
  have h3 : (((x[j]'hj').toNat : Int) - 97).toNat < L.length := by omega
  rw [List.getD_eq_getElem?_getD, List.getElem?_eq_getElem h3]
  exact h _ h3
def mixL (R N : List Int) (k : Nat) : List Int := R.take k ++ N.drop k
theorem mixL_len (R N : List Int) (k : Nat) (h : R.length = N.length) (hk : k ≤ N.length) : (mixL R N k).length = N.length := by simp [mixL]; omega
theorem mixL_zero (R N : List Int) : mixL R N 0 = N := by simp [mixL]
theorem mixL_end (R N : List Int) (h : R.length = N.length) : mixL R N N.length = R := by simp [mixL, ← h]
theorem mixL_get (R N : List Int) (k : Nat) (h : R.length = N.length) (hk : k < N.length) (h2 : k < (mixL R N k).length) : (mixL R N k)[k]'h2 = N[k]'hk := by
  have h1 : (R.take k).length = k := by simp; omega
  have h3 : k < (R.take k ++ N.drop k).length := h2
  have e : (R.take k ++ N.drop k)[k]'h3 = N[k]'hk := by
    rw [List.getElem_append_right (by omega)]
    simp [h1]
  exact e
theorem mixL_step (R N : List Int) (k : Nat) (h : R.length = N.length) (hk : k < R.length) : ((mixL R N k).map (Value.int .i64)).set k (.int .i64 (R[k]'hk)) = (mixL R N (k + 1)).map (Value.int .i64) := by
  have h1 : (R.take k).length = k := by simp; omega
  have h2 : (R.take (k + 1)).length = k + 1 := by simp; omega
  apply List.ext_getElem
  · simp [mixL]; omega
  · intro i h3 h4
    simp only [List.getElem_set, List.getElem_map]
    by_cases e : k = i
    · subst e
      rw [if_pos rfl]
      congr 1
      unfold mixL
      rw [List.getElem_append_left (by omega), List.getElem_take]
    · rw [if_neg e]
      congr 1
      unfold mixL
      simp only [List.getElem_append, h1, h2]
      by_cases h5 : i < k
      · rw [dif_pos h5, dif_pos (by omega)]
        simp
      · rw [dif_neg h5, dif_neg (by omega)]
        simp only [List.getElem_drop]
        congr 1
        omega
def renR (x : ByteArray) (L : List Int) : ByteArray × Int := if ¬ IsW x then (tE, 1) else if L.length ≠ 5 ∨ ¬ okN L then (tE, 2) else (wordB (renL x L), 0)
theorem renR_bad {x : ByteArray} {L : List Int} (h : ¬ IsW x) : renR x L = (⟨#[]⟩, 1) := if_pos h
theorem renR_out {x : ByteArray} {L : List Int} (h : IsW x) (h2 : L.length ≠ 5 ∨ ¬ okN L) : renR x L = (⟨#[]⟩, 2) := by unfold renR; rw [if_neg (not_not_intro h), if_pos h2]; rfl
theorem renR_ok {x : ByteArray} {L : List Int} (h : IsW x) (h5 : L.length = 5) (h2 : okN L) : renR x L = (wordB (renL x L), 0) := by
  unfold renR
  rw [if_neg (not_not_intro h), if_neg (by intro h3; rcases h3 with h3 | h3; exact h3 h5; exact h3 h2)]
theorem letB_byte {n : Int} (h0 : 0 ≤ n) (h4 : n ≤ 4) : Lib.byteCells [letB n] = [Value.int .u8 (97 + n)] := by
  simp [Lib.byteCells, letB_nat h0 h4]

end Go.Proofs.Ytedpbfddoobnnaa
