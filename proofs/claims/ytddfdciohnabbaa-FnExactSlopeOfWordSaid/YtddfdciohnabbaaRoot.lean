/- The least period and the root of a word: the program and the model. -/
import Derived.Test.YtddfdciohnabbaaBorders
import Derived.Deep.QuietTactic
import Derived.BigQuiet
import Derived.Deep.RegionWith
import Derived.Outline
namespace Go.Proofs.Ytddfdciohnabbaa
set_option linter.unusedVariables false
set_option linter.unusedSimpArgs false
open Go.RowKit

theorem teq_nil {x : ByteArray} (h : x.size = 0) : x.toList.isEmpty = true := by rw [size_zero h, ByteArray.toList_eq]; rfl
theorem teq_not_nil {x : ByteArray} (h : ¬ x.size = 0) : x.toList.isEmpty = false := by
  rw [ByteArray.toList_eq, Bool.eq_false_iff]
  intro e
  have := List.isEmpty_iff.1 e
  exact bl_ne (x := x) (by omega) this
theorem wrap_small {n : Int} (h0 : 0 ≤ n) (h1 : n ≤ 1152921504606846976) : wrap64 n = n := by unfold wrap64; omega
theorem wrap_quo (a b : Nat) (h : a ≤ 1000000) : wrap64 ((a : Int) / (b : Int)) = ((a / b : Nat) : Int) := by
  have h1 : (a : Int) / (b : Int) = ((a / b : Nat) : Int) := by simp
  have h2 := Nat.div_le_self a b
  rw [h1]
  generalize a / b = q at h2 ⊢
  exact wrap_small (by omega) (by omega)
theorem extract_all (x : ByteArray) : x.extract 0 x.size = x := bl_inj (by rw [bl_take, List.take_of_length_le (Nat.le_of_eq (bl_len x))])

end Go.Proofs.Ytddfdciohnabbaa
