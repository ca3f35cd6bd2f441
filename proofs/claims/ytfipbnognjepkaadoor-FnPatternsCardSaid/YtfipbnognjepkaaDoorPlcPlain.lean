/- Plain facts: the values of the variables that stand in a pattern, and of those that don't. -/
import Derived.Test.YtfipbnognjepkaaDoorPat2Plain
namespace Go.Proofs.YtfipbnognjepkaaDoor
set_option linter.unusedVariables false
set_option linter.unusedSimpArgs false

theorem giv_other (L : Nat → Nat) : ∀ (P R : List UInt8) (V W : Nat → List UInt8), giv L P R V = some W → ∀ v, (∀ c ∈ P, vn c ≠ v) → W v = V v
  | [], R, V, W, h, v, _ => by
    rw [giv] at h
    cases h
    rfl
  | c :: P, R, V, W, h, v, hn => by
    rw [giv] at h
    by_cases hv : V (vn c) = [] ∨ V (vn c) = R.take (L (vn c))
    · rw [if_pos hv] at h
      rw [giv_other L P _ _ W h v (fun d hd => hn d (List.mem_cons_of_mem _ hd)), updV_ne _ _ (fun e => hn c (List.mem_cons_self ..) e.symm)]
    · rw [if_neg hv] at h
      cases h
theorem fitL_other {R P : List UInt8} {left : Nat} {W : Nat → List UInt8} (h : fitL R P left = some W) {v : Nat} (hv : ¬ 0 < cntV P v) : W v = [] := by
  obtain ⟨L', a1, a2, a3, a4⟩ := srch_sound R P _ _ _ W h (vsOf_nodup P) (fun _ _ => rfl)
  rw [giv_other L' P R _ W a4 v (fun c hc e => hv (cntV_pos.2 ⟨c, hc, e⟩))]
theorem fitL_told {R P : List UInt8} {left : Nat} {W : Nat → List UInt8} (hP : IsPL P) (h : fitL R P left = some W) (hl : left ≤ R.length) {v : Nat} : W v ≠ [] ↔ 0 < cntV P v := by
  constructor
  · intro hw
    by_cases hv : 0 < cntV P v
    · exact hv
    · exact absurd (fitL_other h hv) hw
  · intro hv
    obtain ⟨c, hc, rfl⟩ := cntV_pos.1 hv
    exact (fitL_sound hP h hl).1 c hc
/-- What a first place is: a fit there, and its length. -/
theorem pff_some {X P : List UInt8} {i : Nat} {W : Nat → List UInt8} (h : pff X P = some (i, W)) : i < X.length ∧ ∃ k, i + (P.length + k) ≤ X.length ∧ fitL (X.drop i) P (P.length + k) = some W := by
  unfold pff at h
  obtain ⟨j, hj, h1, _⟩ := rseek_some h
  unfold pffAt at h1
  obtain ⟨k, hk, h2, _⟩ := rseek_some h1
  rw [Option.map_eq_some_iff] at h2
  obtain ⟨V, hV, e⟩ := h2
  cases e
  exact ⟨hj, k, by omega, hV⟩
theorem pff_other {X P : List UInt8} (hP : IsPL P) {i : Nat} {W : Nat → List UInt8} (h : pff X P = some (i, W)) {v : Nat} : W v ≠ [] ↔ 0 < cntV P v := by
  obtain ⟨hi, k, hk, hf⟩ := pff_some h
  exact fitL_told hP hf (by rw [List.length_drop]; omega)
/-- The factor at the first place is the pattern with its values. -/
theorem pff_sub {X P : List UInt8} (hP : IsPL P) {i : Nat} {W : Nat → List UInt8} (h : pff X P = some (i, W)) : i + (subV W P).length ≤ X.length ∧ (X.drop i).take (subV W P).length = subV W P := by
  obtain ⟨hi, k, hk, hf⟩ := pff_some h
  obtain ⟨_, e⟩ := fitL_sound hP hf (by rw [List.length_drop]; omega)
  have hl : (subV W P).length = P.length + k := by rw [← e, List.length_take, List.length_drop]; omega
  rw [hl]
  exact ⟨hk, e⟩
theorem subV_part {W : Nat → List UInt8} {c : UInt8} : ∀ {P : List UInt8}, c ∈ P → (W (vn c)).length ≤ (subV W P).length
  | [], h => by cases h
  | d :: P, h => by
    have e : subV W (d :: P) = W (vn d) ++ subV W P := rfl
    rw [e, List.length_append]
    rcases List.mem_cons.1 h with q | q
    · subst q; omega
    · have := subV_part (W := W) q; omega
theorem pff_le {X P : List UInt8} (hP : IsPL P) {i : Nat} {W : Nat → List UInt8} (h : pff X P = some (i, W)) {v : Nat} (hv : 0 < cntV P v) : (W v).length ≤ X.length := by
  obtain ⟨c, hc, rfl⟩ := cntV_pos.1 hv
  obtain ⟨h1, _⟩ := pff_sub hP h
  have h2 := subV_part (W := W) hc
  omega

end Go.Proofs.YtfipbnognjepkaaDoor
