/- Exponents and double lengths: the program and the model. -/
import Derived.Test.YthjbdcoklgnnlabGcd
namespace Go.Proofs.Ythjbdcoklgnnlab
set_option linter.unusedVariables false
set_option linter.unusedSimpArgs false
open Go.RowKit

/-- The model's periods: the first one is the least. -/
theorem l02Periods_first (x : ByteArray) (w : World) (hx : x.size ≤ 60) (h0 : 0 < x.size) :
    Calls Try.prog 142 #[.string x] w fun e w' => ∃ g n cp, e = .returned (.slice (some ⟨g, 0, none⟩) n cp) ∧ (0 : Int) < (n : Int) ∧ n ≤ cp ∧ w'.cell? ⟨g, 0, none⟩ = some (.int .i64 (lp (bl x) : Int)) ∧ Below w.heap.size w w' := by
  refine (l02Periods_any x w hx).mono ?_
  rintro e w2 ⟨v, rfl, o2, b2⟩
  obtain ⟨t, ht⟩ := pers_head (bl_ne h0)
  rw [bl_len] at ht
  rw [ht] at o2
  obtain ⟨g, cp, rfl, _, hg, hc, hm, cell, _⟩ := o2.row (by simp)
  have k1 := cell 0 (by simp)
  simp only [List.getElem_cons_zero] at k1
  exact ⟨g, _, cp, rfl, by simp <;> omega, hc, k1, b2⟩

end Go.Proofs.Ythjbdcoklgnnlab
