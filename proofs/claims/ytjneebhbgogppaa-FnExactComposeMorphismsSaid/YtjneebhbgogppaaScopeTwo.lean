/- A scope with two labels, outside of a fence: what holds at each label, and a number that every jump makes less. -/
import Derived.Test.YtjneebhbgogppaaRows
import Derived.WalkKit
import Derived.WalkMore
import Derived.ScopeJumps
import Derived.Deep.LoopGhost
namespace Go.Proofs.Ytjneebhbgogppaa
set_option linter.unusedVariables false
set_option linter.unusedSimpArgs false
open Go.RowKit

/-- As Q; by a goto to a label: J of that label. -/
def jumpsP (J : Nat → Act → World → Prop) (Q : Exit → Act → World → Prop) : Exit → Act → World → Prop
  | .goto l, a, w => J l a w
  | e, a, w => Q e a w

section
variable {P : Program} {Q : Exit → Act → World → Prop} {a : Act} {w : World}

theorem wp_scope_jumpsP {c : Code} (J : Nat → Act → World → Prop) (μ : Nat → Act → World → Nat)
    (first : c.wp P (jumpsP J Q) a w)
    (pass : ∀ l a w, J l a w → ∃ rest, findLabel c l = some rest ∧ rest.wp P (jumpsP (fun l' a' w' => J l' a' w' ∧ μ l' a' w' < μ l a w) Q) a w) : (Code.scope c).wp P Q a w := by
  intro b k cs
  have key : ∀ n l a w, μ l a w = n → J l a w → ∃ rest, findLabel c l = some rest ∧ ∃ e a' w', Q e a' w' ∧ Arrives P (lone (b.at a (.code rest :: .inScope c :: k)) cs w) b k cs e a' w' := by
    intro n
    induction n using Nat.strongRecOn with
    | _ n ih =>
      intro l a w hn hJ
      obtain ⟨rest, hf, hp⟩ := pass l a w hJ
      refine ⟨rest, hf, ?_⟩
      obtain ⟨e, a₁, w₁, hq, harr⟩ := hp b (.inScope c :: k) cs
      cases e with
      | normal => exact ⟨.normal, a₁, w₁, hq, Steps.trans harr (.one step_inScope)⟩
      | exit id => exact ⟨.exit id, a₁, w₁, hq, fun k' hk => harr k' (by simp [exitTo, hk])⟩
      | goto l' =>
        obtain ⟨hJ', hlt⟩ := hq
        obtain ⟨rest', hf', e₂, a₂, w₂, hq₂, harr₂⟩ := ih _ (by omega) l' a₁ w₁ rfl hJ'
        have hg : gotoIn l' (.inScope c :: k) = some (.code rest' :: .inScope c :: k) := by simp [gotoIn, hf']
        exact ⟨e₂, a₂, w₂, hq₂, .of_steps (harr _ hg) harr₂⟩
      | ret => exact ⟨_, a₁, w₁, hq, harr⟩
      | panic ch => exact ⟨_, a₁, w₁, hq, harr⟩
      | outgrown => exact ⟨_, a₁, w₁, hq, harr⟩
  obtain ⟨e, a₁, w₁, hq, harr⟩ := first b (.inScope c :: k) cs
  cases e with
  | normal => exact ⟨.normal, a₁, w₁, hq, .head step_scope (Steps.trans harr (.one step_inScope))⟩
  | exit id => exact ⟨.exit id, a₁, w₁, hq, fun k' hk => .head step_scope (harr k' (by simp [exitTo, hk]))⟩
  | goto l' =>
    obtain ⟨rest', hf', e₂, a₂, w₂, hq₂, harr₂⟩ := key _ l' a₁ w₁ rfl hq
    have hg : gotoIn l' (.inScope c :: k) = some (.code rest' :: .inScope c :: k) := by simp [gotoIn, hf']
    exact ⟨e₂, a₂, w₂, hq₂, .of_steps (.head step_scope (harr _ hg)) harr₂⟩
  | ret => exact ⟨_, a₁, w₁, hq, .of_steps (.one step_scope) harr⟩
  | panic ch => exact ⟨_, a₁, w₁, hq, .of_steps (.one step_scope) harr⟩
  | outgrown => exact ⟨_, a₁, w₁, hq, .of_steps (.one step_scope) harr⟩

theorem wp_scope_ghostP {c : Code} (J : Nat → Nat → Act → World → Prop)
    (first : c.wp P (jumpsP (fun l a w => ∃ m, J l m a w) Q) a w)
    (pass : ∀ l m a w, J l m a w → ∃ rest, findLabel c l = some rest ∧ rest.wp P (jumpsP (fun l' a' w' => ∃ m', m' < m ∧ J l' m' a' w') Q) a w) : (Code.scope c).wp P Q a w := by
  refine wp_scope_jumpsP (fun l a w => ∃ m, J l m a w) (fun l a w => leastOf (fun m => J l m a w)) first fun l a w hJ => ?_
  obtain ⟨rest, hf, hp⟩ := pass l _ a w (leastOf_spec hJ).1
  refine ⟨rest, hf, Code.wp_mono (fun e a' w' q => ?_) hp⟩
  cases e with
  | goto l' =>
    obtain ⟨m', hlt, hJ'⟩ := q
    exact ⟨⟨m', hJ'⟩, Nat.lt_of_le_of_lt ((leastOf_spec ⟨m', hJ'⟩).2 m' hJ') hlt⟩
  | normal => exact q
  | exit id => exact q
  | ret => exact q
  | panic ch => exact q
  | outgrown => exact q

theorem noGoto_jumps {J : Nat → Act → World → Prop} {e : Exit} {a : Act} {w : World} (h : Exit.noGoto Q e a w) : jumpsP J Q e a w := by
  cases e with
  | goto l => exact h.elim
  | normal => exact h
  | exit id => exact h
  | ret => exact h
  | panic ch => exact h
  | outgrown => exact h

/-- Three pieces ahead of the first label, two ahead of the second one. -/
theorem wp_scope_two {r1 r2 r3 x1 x2 y : Code} {l0 l1 : Nat} (J0 J1 : Nat → Act → World → Prop)
    (hf0 : findLabel (r1.seq (r2.seq (r3.seq ((Code.label l0).seq (x1.seq (x2.seq ((Code.label l1).seq y))))))) l0 = some (Code.skip.seq (x1.seq (x2.seq ((Code.label l1).seq y)))))
    (hf1 : findLabel (r1.seq (r2.seq (r3.seq ((Code.label l0).seq (x1.seq (x2.seq ((Code.label l1).seq y))))))) l1 = some (Code.skip.seq y))
    (start : r1.wp P (Exit.then (fun a w => r2.wp P (Exit.then (fun a w => r3.wp P (Exit.then (fun a w => ∃ m, J0 m a w) (Exit.noGoto Q)) a w) (Exit.noGoto Q)) a w) (Exit.noGoto Q)) a w)
    (look : ∀ m a w, J0 m a w → x1.wp P (Exit.then (fun a w => x2.wp P (Exit.then (fun a w => ∃ m', m' < m ∧ J1 m' a w) (Exit.noGoto Q)) a w) (Exit.noGoto Q)) a w)
    (tail : ∀ m a w, J1 m a w → y.wp P (jumpsP (fun l a w => ∃ m', m' < m ∧ ((l = l0 ∧ J0 m' a w) ∨ (l = l1 ∧ J1 m' a w))) Q) a w) :
    (Code.scope (r1.seq (r2.seq (r3.seq ((Code.label l0).seq (x1.seq (x2.seq ((Code.label l1).seq y)))))))).wp P Q a w := by
  have piece : ∀ {x : Code} {K K' : Act → World → Prop} {J : Nat → Act → World → Prop} {a : Act} {w : World}, x.wp P (Exit.then K (Exit.noGoto Q)) a w → (∀ a w, K a w → K' a w) → x.wp P (Exit.then K' (jumpsP J Q)) a w := by
    intro x K K' J a w h hk
    refine Code.wp_mono (fun e a w q => ?_) h
    cases e with
    | normal => exact hk _ _ q
    | goto l => exact q.elim
    | exit id => exact q
    | ret => exact q
    | panic ch => exact q
    | outgrown => exact q
  have weak : ∀ {x : Code} {m m0 : Nat} {a : Act} {w : World}, m0 ≤ m → x.wp P (jumpsP (fun l a w => ∃ m', m' < m0 ∧ ((l = l0 ∧ J0 m' a w) ∨ (l = l1 ∧ J1 m' a w))) Q) a w → x.wp P (jumpsP (fun l a w => ∃ m', m' < m ∧ ((l = l0 ∧ J0 m' a w) ∨ (l = l1 ∧ J1 m' a w))) Q) a w := by
    intro x m m0 a w hm h
    refine Code.wp_mono (fun e a w q => ?_) h
    cases e with
    | goto l => obtain ⟨m2, h2, h⟩ := q; exact ⟨m2, by omega, h⟩
    | normal => exact q
    | exit id => exact q
    | ret => exact q
    | panic ch => exact q
    | outgrown => exact q
  have L : ∀ m a w, J0 m a w → (x1.seq (x2.seq ((Code.label l1).seq y))).wp P (jumpsP (fun l a w => ∃ m', m' < m ∧ ((l = l0 ∧ J0 m' a w) ∨ (l = l1 ∧ J1 m' a w))) Q) a w := by
    intro m a w hJ
    refine wp_seq (piece (look m a w hJ) fun a w q => ?_)
    refine wp_seq (piece q fun a w q => ?_)
    obtain ⟨m', hlt, hJ'⟩ := q
    exact wp_seq (wp_label (weak (by omega) (tail m' a w hJ')))
  refine wp_scope_ghostP (fun l m a w => (l = l0 ∧ J0 m a w) ∨ (l = l1 ∧ J1 m a w)) ?_ ?_
  · refine wp_seq (piece start fun a w q => ?_)
    refine wp_seq (piece q fun a w q => ?_)
    refine wp_seq (piece q fun a w q => ?_)
    obtain ⟨m, hJ⟩ := q
    refine wp_seq (wp_label (Code.wp_mono (fun e a w q => ?_) (L m a w hJ)))
    cases e with
    | goto l => obtain ⟨m', _, h⟩ := q; exact ⟨m', h⟩
    | normal => exact q
    | exit id => exact q
    | ret => exact q
    | panic ch => exact q
    | outgrown => exact q
  · rintro l m a w (⟨rfl, hJ⟩ | ⟨rfl, hJ⟩)
    · exact ⟨_, hf0, wp_seq (wp_skip (L m a w hJ))⟩
    · exact ⟨_, hf1, wp_seq (wp_skip (tail m a w hJ))⟩
end
end Go.Proofs.Ytjneebhbgogppaa
