/- A scope with labels inside a fence: run through without a goto, or with jumps to its labels. -/
import Derived.Test.YtkemdiefoohdjabGreatRows
import Derived.WalkKit
import Derived.WalkMore
import Derived.ScopeJumps
import Derived.TacticsIn
import Derived.Sort.LoopGhostIn
import Derived.Sort.QuietIn
namespace Go.Proofs.YtkemdiefoohdjabGreat
set_option linter.unusedVariables false
set_option linter.unusedSimpArgs false
open Go.RowKit

/-- As Q; by a goto to a label: J of that label. -/
def jumps (J : Nat → Act → World → Prop) (Q : Exit → Act → World → Prop) : Exit → Act → World → Prop
  | .goto l, a, w => J l a w
  | e, a, w => Q e a w

section
variable {F : Fence} {n : Nat} {P : Program} {Q : Exit → Act → World → Prop} {a : Act} {w : World} {b : Frame} {k : List Item} {cs : List Frame}

theorem stepR_scope {c : Code} : step P (lone (b.atR a (.code (.scope c) :: k)) cs w) = .next (lone (b.atR a (.code c :: .inScope c :: k)) cs w) :=
  step_lone_go (by simp [stepG, stepG.exec, Frame.atR])
theorem stepR_inScope {c : Code} : step P (lone (b.atR a (.inScope c :: k)) cs w) = .next (lone (b.atR a k) cs w) :=
  step_lone_go (by simp [stepG, stepG.exec, Frame.atR])

theorem wpIn_scope_jumps {c : Code} (J : Nat → Act → World → Prop) (μ : Nat → Act → World → Nat)
    (first : c.wpIn F n P (jumps J Q) a w)
    (pass : ∀ l a w, J l a w → ∃ rest, findLabel c l = some rest ∧ rest.wpIn F n P (jumps (fun l' a' w' => J l' a' w' ∧ μ l' a' w' < μ l a w) Q) a w) : (Code.scope c).wpIn F n P Q a w := by
  intro b k cs hro hb hr
  have h0 : (lone (b.atR a (.code (.scope c) :: k)) cs w).fenced P F := fenced_calm hb hr rfl
  have key : ∀ m l a w, μ l a w = m → J l a w → ∃ rest, findLabel c l = some rest ∧ ∃ e a' w', Q e a' w' ∧ ArrivesIn (Machine.fenced P F) P (lone (b.atR a (.code rest :: .inScope c :: k)) cs w) b k cs e a' w' := by
    intro m
    induction m using Nat.strongRecOn with
    | _ m ih =>
      intro l a w hm hJ
      obtain ⟨rest, hf, hp⟩ := pass l a w hJ
      refine ⟨rest, hf, ?_⟩
      obtain ⟨e, a₁, w₁, hq, harr⟩ := hp b (.inScope c :: k) cs hro hb hr
      cases e with
      | normal => exact ⟨.normal, a₁, w₁, hq, StepsIn.trans harr (.one (fenced_calm hb hr rfl) stepR_inScope)⟩
      | exit id =>
        have hx : exitTo id (.inScope c :: k) = exitTo id k := by simp [exitTo]
        exact ⟨.exit id, a₁, w₁, hq, fun k' hk => harr.1 k' (by rw [hx]; exact hk), fun hr' hk => harr.2 hr' (by rw [hx]; exact hk)⟩
      | goto l' =>
        obtain ⟨hJ', hlt⟩ := hq
        obtain ⟨rest', hf', e₂, a₂, w₂, hq₂, harr₂⟩ := ih _ (by omega) l' a₁ w₁ rfl hJ'
        have hg : gotoIn l' (.inScope c :: k) = some (.code rest' :: .inScope c :: k) := by simp [gotoIn, hf']
        exact ⟨e₂, a₂, w₂, hq₂, .of_steps (harr.1 _ hg) harr₂⟩
      | ret => exact ⟨_, a₁, w₁, hq, harr⟩
      | panic ch => exact ⟨_, a₁, w₁, hq, harr⟩
      | outgrown => exact ⟨_, a₁, w₁, hq, harr⟩
  obtain ⟨e, a₁, w₁, hq, harr⟩ := first b (.inScope c :: k) cs hro hb hr
  cases e with
  | normal => exact ⟨.normal, a₁, w₁, hq, .head h0 stepR_scope (StepsIn.trans harr (.one (fenced_calm hb hr rfl) stepR_inScope))⟩
  | exit id =>
    have hx : exitTo id (.inScope c :: k) = exitTo id k := by simp [exitTo]
    exact ⟨.exit id, a₁, w₁, hq, fun k' hk => .head h0 stepR_scope (harr.1 k' (by rw [hx]; exact hk)), fun hr' hk => let ⟨k₁, h1, h2⟩ := harr.2 hr' (by rw [hx]; exact hk); ⟨k₁, h1, .head h0 stepR_scope h2⟩⟩
  | goto l' =>
    obtain ⟨rest', hf', e₂, a₂, w₂, hq₂, harr₂⟩ := key _ l' a₁ w₁ rfl hq
    have hg : gotoIn l' (.inScope c :: k) = some (.code rest' :: .inScope c :: k) := by simp [gotoIn, hf']
    exact ⟨e₂, a₂, w₂, hq₂, .of_steps (.head h0 stepR_scope (harr.1 _ hg)) harr₂⟩
  | ret => exact ⟨_, a₁, w₁, hq, .of_steps (.one h0 stepR_scope) harr⟩
  | panic ch => exact ⟨_, a₁, w₁, hq, .of_steps (.one h0 stepR_scope) harr⟩
  | outgrown => exact ⟨_, a₁, w₁, hq, .of_steps (.one h0 stepR_scope) harr⟩

/-- The same, the measure a number of one's own. -/
theorem wpIn_scope_ghost {c : Code} (J : Nat → Nat → Act → World → Prop)
    (first : c.wpIn F n P (jumps (fun l a w => ∃ m, J l m a w) Q) a w)
    (pass : ∀ l m a w, J l m a w → ∃ rest, findLabel c l = some rest ∧ rest.wpIn F n P (jumps (fun l' a' w' => ∃ m', m' < m ∧ J l' m' a' w') Q) a w) : (Code.scope c).wpIn F n P Q a w := by
  refine wpIn_scope_jumps (fun l a w => ∃ m, J l m a w) (fun l a w => leastOf (fun m => J l m a w)) first fun l a w hJ => ?_
  obtain ⟨rest, hf, hp⟩ := pass l _ a w (leastOf_spec hJ).1
  refine ⟨rest, hf, wpIn_mono hp fun e a' w' q => ?_⟩
  cases e with
  | goto l' =>
    obtain ⟨m', hlt, hJ'⟩ := q
    exact ⟨⟨m', hJ'⟩, Nat.lt_of_le_of_lt ((leastOf_spec ⟨m', hJ'⟩).2 m' hJ') hlt⟩
  | normal => exact q
  | exit id => exact q
  | ret => exact q
  | panic ch => exact q
  | outgrown => exact q
/-- Two pieces ahead of the first label. -/
theorem wpIn_scope_two {r0 r1 y : Code} {l0 : Nat} (J : Nat → Nat → Act → World → Prop) (hr0 : findLabel r0 l0 = none) (hr1 : findLabel r1 l0 = none)
    (start : r0.wpIn F n P (Exit.then (r1.wpIn F n P (Exit.then (fun a w => ∃ m, J l0 m a w) (fun _ _ _ => False))) (fun _ _ _ => False)) a w)
    (look : ∀ m a w, J l0 m a w → y.wpIn F n P (jumps (fun l' a' w' => ∃ m', m' < m ∧ J l' m' a' w') Q) a w)
    (others : ∀ l m a w, l ≠ l0 → J l m a w → ∃ rest, findLabel (r0.seq (r1.seq ((Code.label l0).seq y))) l = some rest ∧ rest.wpIn F n P (jumps (fun l' a' w' => ∃ m', m' < m ∧ J l' m' a' w') Q) a w) :
    (Code.scope (r0.seq (r1.seq ((Code.label l0).seq y)))).wpIn F n P Q a w := by
  refine wpIn_scope_ghost J ?_ fun l m a w hJ => ?_
  · refine wpIn_seq (wpIn_mono start fun e a w q => ?_)
    cases e with
    | normal =>
      refine wpIn_seq (wpIn_mono q fun e a w q => ?_)
      cases e with
      | normal =>
        obtain ⟨m, hJ⟩ := q
        refine wpIn_seq (wpIn_label (wpIn_mono (look m a w hJ) fun e a w q => ?_))
        cases e with
        | goto l => obtain ⟨m', _, h⟩ := q; exact ⟨m', h⟩
        | normal => exact q
        | exit id => exact q
        | ret => exact q
        | panic ch => exact q
        | outgrown => exact q
      | exit id => exact q.elim
      | goto l => exact q.elim
      | ret => exact q.elim
      | panic ch => exact q.elim
      | outgrown => exact q.elim
    | exit id => exact q.elim
    | goto l => exact q.elim
    | ret => exact q.elim
    | panic ch => exact q.elim
    | outgrown => exact q.elim
  · by_cases e : l = l0
    · subst e
      exact ⟨Code.skip.seq y, by simp [findLabel, hr0, hr1], wpIn_seq (wpIn_skip (look m a w hJ))⟩
    · exact others l m a w e hJ
theorem wpIn_scope_straight {c : Code} (h : c.wpIn F n P (Exit.noGoto Q) a w) : (Code.scope c).wpIn F n P Q a w :=
  wpIn_scope_jumps (fun _ _ _ => False) (fun _ _ _ => 0) (wpIn_mono h fun e a w q => by cases e <;> exact q) (fun _ _ _ h => h.elim)
end

end Go.Proofs.YtkemdiefoohdjabGreat
