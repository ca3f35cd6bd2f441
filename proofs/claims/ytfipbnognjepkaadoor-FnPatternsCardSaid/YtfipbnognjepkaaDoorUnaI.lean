/- Unavoidable patterns: the program. -/
import Derived.Test.YtfipbnognjepkaaDoorPatF
import Derived.Test.YtfipbnognjepkaaDoorUnaS
import Derived.Test.YtfipbnognjepkaaDoorPatH
import Derived.Deep.RegionHeld3
namespace Go.Proofs.YtfipbnognjepkaaDoor
set_option linter.unusedVariables false
set_option linter.unusedSimpArgs false
open Go.RowKit

theorem firstFit_form (p x : ByteArray) (hp : IsP p) (hx : IsW x) (w : World) :
    Calls Tryd.prog 71 #[.string x, .string p] w fun e w' => ∃ (i : Int) (va : Option Addr) (vn vc : Nat), e = .returned (.tuple #[.agg #[.int .i64 i, .slice va vn vc], .bool (hasB (bl x) (bl p))]) ∧ Below w.heap.size w w' := by
  refine (firstFit_any p x hp hx w).mono ?_
  have hhb : hasB (bl x) (bl p) = (pff (bl x) (bl p)).isSome := rfl
  rw [hhb]
  generalize pff (bl x) (bl p) = r
  rintro e w' ⟨b, g, hg, he, hL⟩
  cases r with
  | none =>
    obtain rfl : e = .returned (.tuple #[.agg #[.int .i64 0, .slice none 0 0], .bool false]) := he
    exact ⟨_, _, _, _, rfl, b⟩
  | some iW =>
    obtain ⟨i, W⟩ := iW
    obtain ⟨v1, rfl, hown⟩ := he
    obtain ⟨va, vn, vc, rfl⟩ := hown.shape
    exact ⟨_, _, _, _, rfl, b⟩
theorem isW_zim {n : Nat} (h : n ≤ 5) : IsW (bt (zimL n)) := by
  have hm : ∀ n, n ≤ 5 → ∀ c ∈ zimL n, 97 ≤ c.toNat ∧ c.toNat ≤ 101 := by
    intro n
    induction n with
    | zero => intro _ c hc; cases hc
    | succ n ih =>
      intro h c hc
      rw [zimL, List.mem_append, List.mem_cons] at hc
      rcases hc with hc | rfl | hc
      · exact ih (by omega) c hc
      · have := letB_nat (n := (n : Int)) (by omega) (by omega)
        omega
      · exact ih (by omega) c hc
  refine ⟨by have := zim_size h; omega, fun i hi => ?_⟩
  exact hm n h _ (List.getElem_mem (by exact hi))

/-- A fit that was made and not yet written. -/
def FitZ (W : World) (B g : Nat) : Prop := B ≤ g ∧ g < W.heap.size ∧ W.cell? ⟨g, 0, none⟩ = some (.int .i64 0) ∧ W.cell? ⟨g, 1, none⟩ = some (.slice none 0 0) ∧ W.frozen? ⟨g, 0, none⟩ = false ∧ W.frozen? ⟨g, 1, none⟩ = false
theorem FitZ.past {W W' : World} {B g : Nat} (hb : Below W.heap.size W W') (h : FitZ W B g) : FitZ W' B g :=
  ⟨h.1, Nat.lt_of_lt_of_le h.2.1 hb.size, by rw [(bcell hb).1 g 0 h.2.1]; exact h.2.2.1, by rw [(bcell hb).1 g 1 h.2.1]; exact h.2.2.2.1, by rw [(bcell hb).2 g 0 h.2.1]; exact h.2.2.2.2.1, by rw [(bcell hb).2 g 1 h.2.1]; exact h.2.2.2.2.2⟩
theorem FitZ.new {W : World} {B : Nat} (h : B ≤ W.heap.size) : FitZ (W.alloc (.cells #[.int .i64 0, .slice none 0 0] 78)) B W.heap.size :=
  ⟨h, by simp, by simp [go_sem], by simp [go_sem], by simp [go_sem], by simp [go_sem]⟩
section
variable {W1 w' : World} {b1 : Nat} {p : ByteArray}
theorem su_of (h1 : W1.cell? ⟨b1, 0, none⟩ = some (.string p)) (l1 : b1 < W1.heap.size) (hb : Below W1.heap.size W1 w') : w'.cell? ⟨b1, 0, none⟩ = some (.string p) ∧ Below W1.heap.size W1 w' :=
  ⟨by rw [(bcell hb).1 b1 0 l1]; exact h1, hb⟩
end

end Go.Proofs.YtfipbnognjepkaaDoor
