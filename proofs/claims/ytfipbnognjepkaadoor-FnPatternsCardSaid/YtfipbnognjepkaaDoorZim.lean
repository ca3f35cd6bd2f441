/- Zimin words, both sides. -/
import Derived.Test.YtfipbnognjepkaaDoorPat3Plain
import Derived.Test.YtfipbnognjepkaaDoorWords
import Derived.Test.YtfipbnognjepkaaDoorLetter
namespace Go.Proofs.YtfipbnognjepkaaDoor
set_option linter.unusedVariables false
set_option linter.unusedSimpArgs false
open Go.RowKit

set_option maxRecDepth 100000 in
theorem letterOf_z (n : Int) (w : World) (h0 : 0 ≤ n) (h4 : n ≤ 4) :
    Calls Tryd.prog 150 #[.int .i64 n] w fun e w' => e = .returned (.int .i32 (97 + n)) ∧ w = w' := by
  go_enter Tryd.func150, Tryd.ntmps150
  go_wp2
  go_ret
  exact ⟨rfl, rfl⟩
theorem rune_text (k : Nat) (hk : k ≤ 4) (W : World) : (convert 21 9 (.int .i32 (97 + (k : Int)))).run Tryd.prog W = .ok (.string (lt1 k)) W := by
  rw [run_convert_int_string W _ _ _ _ (by rw [Tryd.underlying21]; rfl) Tryd.underlying9]
  have hk' : k = 0 ∨ k = 1 ∨ k = 2 ∨ k = 3 ∨ k = 4 := by omega
  rcases hk' with rfl | rfl | rfl | rfl | rfl <;> rfl
theorem zim_size {n : Nat} (h : n ≤ 5) : (bt (zimL n)).size ≤ 31 := by
  rw [bt_size]
  have h1 := zimL_len n
  have h2 : 2 ^ n ≤ 2 ^ 5 := Nat.pow_le_pow_right (by omega) h
  have h3 : (2 : Nat) ^ 5 = 32 := by decide
  omega
theorem zim_succ (n : Nat) : bt (zimL (n + 1)) = bt (zimL n) ++ (lt1 n ++ bt (zimL n)) := by
  apply bl_inj
  rw [bl_append, bl_append]
  rfl
theorem zim_succ2 (n : Nat) : bt (zimL (n + 1)) = (bt (zimL n) ++ lt1 n) ++ bt (zimL n) := by
  apply bl_inj
  rw [bl_append, bl_append, List.append_assoc]
  rfl

/-! ### The exact function: n in 1..5. -/
def zimR (n : Int) : ByteArray × Int := if 1 ≤ n ∧ n ≤ 5 then (bt (zimL n.toNat), 0) else (⟨#[]⟩, 2)
theorem zimR_ok {n : Nat} (h1 : 1 ≤ n) (h2 : n ≤ 5) : zimR (n : Int) = (bt (zimL n), 0) := by unfold zimR; rw [if_pos (by omega)]; rfl
theorem zimR_out {n : Int} (h : ¬ (1 ≤ n ∧ n ≤ 5)) : zimR n = (⟨#[]⟩, 2) := if_neg h

end Go.Proofs.YtfipbnognjepkaaDoor
