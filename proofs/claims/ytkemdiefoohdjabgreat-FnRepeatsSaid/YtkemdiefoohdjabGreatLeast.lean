/- The least turned word: the program and the model. -/
import Derived.Test.YtkemdiefoohdjabGreatTurnIter
import Derived.Test.YtkemdiefoohdjabGreatLyn
import Derived.Test.YtkemdiefoohdjabGreatRotPlain
import Derived.Test.YtkemdiefoohdjabGreatTurn
namespace Go.Proofs.YtkemdiefoohdjabGreat
set_option linter.unusedVariables false
set_option linter.unusedSimpArgs false
open Go.RowKit Go.Shelf
attribute [local go_sem] Oper.semAt_some

/-- The least of the turned words told, and by how many letters. -/
def ltS (x : ByteArray) (p : ByteArray × Nat) (k : Nat) : ByteArray × Nat := if bl (turned x k) < bl p.1 then (turned x k, k) else p
def ltF (x : ByteArray) (pre : List Nat) : ByteArray × Nat := pre.foldl (ltS x) (x, 0)
theorem ltF_nil (x : ByteArray) : ltF x [] = (x, 0) := rfl
theorem ltF_snoc (x : ByteArray) (pre : List Nat) (k : Nat) : ltF x (pre ++ [k]) = ltS x (ltF x pre) k := by unfold ltF; rw [List.foldl_append]; rfl
theorem ltS_hit {x : ByteArray} {p : ByteArray × Nat} {k : Nat} (h : bl (turned x k) < bl p.1) : ltS x p k = (turned x k, k) := if_pos h
theorem ltS_miss {x : ByteArray} {p : ByteArray × Nat} {k : Nat} (h : ¬ bl (turned x k) < bl p.1) : ltS x p k = p := if_neg h
theorem turned_zero (x : ByteArray) : turned x 0 = x := bl_inj (by unfold turned; rw [bl_append, bl_drop, bl_take]; simp)
theorem turned_size (x : ByteArray) (k : Nat) (h : k ≤ x.size) : (turned x k).size = x.size := by unfold turned; rw [ByteArray.size_append]; simp; omega
theorem turned_size_le (x : ByteArray) (k : Nat) : (turned x k).size ≤ x.size + x.size := by unfold turned; rw [ByteArray.size_append]; simp; omega
theorem bl_turned (x : ByteArray) (k : Nat) : bl (turned x k) = rotL (bl x) k := by unfold turned rotL; rw [bl_append, bl_drop, bl_take]
theorem ltF_one (x : ByteArray) : ltF x (List.range 1) = (x, 0) := by
  show ltS x (x, 0) 0 = (x, 0)
  unfold ltS
  rw [turned_zero]
  split <;> rfl
theorem ltF_size' (x : ByteArray) : ∀ (pre : List Nat) (p : ByteArray × Nat), p.1.size ≤ x.size + x.size → (pre.foldl (ltS x) p).1.size ≤ x.size + x.size
  | [], p, h => h
  | k :: pre, p, h => by
    rw [List.foldl_cons]
    refine ltF_size' x pre _ ?_
    unfold ltS
    split
    · exact turned_size_le x k
    · exact h
theorem ltF_size (x : ByteArray) (pre : List Nat) : (ltF x pre).1.size ≤ x.size + x.size := ltF_size' x pre _ (by show x.size ≤ _; omega)
def ltR (x : ByteArray) : ByteArray × Int × Int := if ¬ IsW x then (⟨#[]⟩, 0, 1) else ((ltF x (List.range (max 1 x.size))).1, ((ltF x (List.range (max 1 x.size))).2 : Int), 0)
theorem ltR_bad {x : ByteArray} (h : ¬ IsW x) : ltR x = (⟨#[]⟩, 0, 1) := if_pos h
theorem ltR_ok {x : ByteArray} (h : IsW x) : ltR x = ((ltF x (List.range (max 1 x.size))).1, ((ltF x (List.range (max 1 x.size))).2 : Int), 0) := by unfold ltR; rw [if_neg (not_not_intro h)]

end Go.Proofs.YtkemdiefoohdjabGreat
