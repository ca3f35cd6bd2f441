/- Directed words: the program and the model. -/
import Derived.Test.YthjbdcoklgnnlabClo
import Derived.Test.YthjbdcoklgnnlabWordsPlain
import Derived.Test.YthjbdcoklgnnlabRich2Plain
import Derived.Test.YthjbdcoklgnnlabFactor
namespace Go.Proofs.Ythjbdcoklgnnlab
set_option linter.unusedVariables false
set_option linter.unusedSimpArgs false
open Go.RowKit

theorem one_letter (x : ByteArray) (k : Nat) (h : k < x.size) : bl (x.extract k (k + 1)) = [x[k]'h] := by
  rw [bl_extract, show k + 1 - k = 1 by omega, List.drop_eq_getElem_cons (by rw [bl_len]; omega)]
  rfl
theorem encode_at (x : ByteArray) (k : Nat) (h : k < x.size) (h1 : 97 ≤ (x[k]'h).toNat) (h2 : (x[k]'h).toNat ≤ 101) : Utf8.encode ((x[k]'h).toNat : Int) = x.extract k (k + 1) := by
  have e := encode_letter ((x[k]'h).toNat - 97) (by omega)
  rw [show (97 : Int) + (((x[k]'h).toNat - 97 : Nat) : Int) = ((x[k]'h).toNat : Int) by omega] at e
  rw [e]
  refine bl_inj ?_
  have e2 : bl (lt1 ((x[k]'h).toNat - 97)) = [letB (((x[k]'h).toNat - 97 : Nat) : Int)] := rfl
  have e3 := letB_nat (n := (((x[k]'h).toNat - 97 : Nat) : Int)) (by omega) (by omega)
  have e4 : letB (((x[k]'h).toNat - 97 : Nat) : Int) = x[k]'h := UInt8.toNat_inj.1 (by omega)
  rw [one_letter x k h, e2, e4]
theorem isL_snoc {p x : ByteArray} {k : Nat} (hp : IsL p) (hx : IsL x) (hk : k < x.size) : IsL (p ++ x.extract k (k + 1)) := by
  have key : ∀ b ∈ bl (p ++ x.extract k (k + 1)), 97 ≤ b.toNat ∧ b.toNat ≤ 101 := by
    intro b hb
    rw [bl_append, one_letter x k hk, List.mem_append, List.mem_singleton] at hb
    rcases hb with hb | rfl
    · obtain ⟨i, hi, rfl⟩ := List.getElem_of_mem hb
      exact hp i hi
    · exact hx k hk
  intro i hi
  exact key _ (List.getElem_mem (by rw [bl_len]; exact hi))
theorem isL_clo {x : ByteArray} (h : IsL x) : IsL (clo x) := by
  have key : ∀ b ∈ bl (clo x), 97 ≤ b.toNat ∧ b.toNat ≤ 101 := by
    intro b hb
    rw [bl_clo, cloL, List.mem_append, List.mem_reverse] at hb
    have hb2 : b ∈ bl x := by
      rcases hb with hb | hb
      · exact hb
      · exact List.mem_of_mem_take hb
    obtain ⟨i, hi, rfl⟩ := List.getElem_of_mem hb2
    exact h i hi
  intro i hi
  exact key _ (List.getElem_mem (by rw [bl_len]; exact hi))

end Go.Proofs.Ythjbdcoklgnnlab
