/- The laws' own helper: a number in a list. -/
import Derived.Test.YthjbdcoklgnnlabInts
namespace Go.Proofs.Ythjbdcoklgnnlab
set_option linter.unusedVariables false
set_option linter.unusedSimpArgs false
open Go.RowKit

theorem least_at (L : List Int) (z : Int) (h : z ∈ L) : ∃ j, ∃ hj : j < L.length, L[j]'hj = z ∧ ∀ i (hi : i < L.length), i < j → ¬ L[i]'hi = z := by
  induction L with
  | nil => cases h
  | cons a L ih =>
    by_cases e : a = z
    · exact ⟨0, by simp, e, fun i hi h => by omega⟩
    · rcases List.mem_cons.1 h with h | h
      · exact absurd h.symm e
      · obtain ⟨j, hj, h1, h2⟩ := ih h
        refine ⟨j + 1, by simp; omega, h1, fun i hi h3 => ?_⟩
        cases i with
        | zero => exact e
        | succ i => exact h2 i (by simp at hi; omega) (by omega)

set_option maxRecDepth 100000 in
theorem hasInt_yes (B1 : Nat) (v1 : Value) (L : List Int) (z : Int) (w : World) (h1 : OwnI w B1 v1 L) (hz : z ∈ L) :
    Calls Try.prog 77 #[v1, .int .i64 z] w fun e w' => e = .returned (.bool true) ∧ Below w.heap.size w w' := by
  have hn : 0 < L.length := List.length_pos_iff.2 fun e => by rw [e] at hz; cases hz
  obtain ⟨j, hj, hjz, hjm⟩ := least_at L z hz
  obtain ⟨g1, c1, rfl, _, hg1, hc1, hm, cell1, _⟩ := h1.row hn
  unfold maxLen at hm
  have C1 := Lib.hid cell1
  have JM := Lib.hid hjm
  have JZ := Lib.hid hjz
  clear h1 cell1 hz hjm hjz
  go_enter Try.func77, Try.ntmps77
  go_wp2
  go_loopw [5] (fun i wr => ∃ k : Nat, k ≤ j ∧ i = .int .i64 k ∧ Below w.heap.size w wr) (fun i _ => L.length - (intOf i).toNat)
  case atStart => exact ⟨0, Nat.zero_le _, rfl, Below.refl _ _⟩
  case round =>
    obtain ⟨k, hk, rfl, hB⟩ := hrel
    have hp : k < L.length := by omega
    have hpi : (k : Int) < (L.length : Int) := by omega
    have k1 : wr.cell? ⟨g1, k, none⟩ = some (.int .i64 (L[k]'hp)) := by rw [(bcell hB).1 g1 k hg1]; exact C1.out k hp
    have hpc1 : k < c1 := by omega
    by_cases he : k = j
    · have e : L[k]'hp = z := by subst he; exact JZ.out
      rw [e] at k1
      clear e he
      go_wp2
      go_ret
      exact ⟨rfl, hB⟩
    · have hkj : k < j := by omega
      have e := JM.out k hp hkj
      clear he
      generalize L[k]'hp = y at k1 e
      have e2 : ((y : Int) == z) = false := by rw [beq_eq_false_iff_ne]; exact e
      go_wp2
      go_roundw
      case rel => exact ⟨k + 1, by omega, by go_num, hB⟩
      case measure => simp [intOf]; omega

end Go.Proofs.Ythjbdcoklgnnlab
