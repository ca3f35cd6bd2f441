/- Plain facts: lists of bytes in order; words that are less than their rests; the first rest that is less. -/
import Derived.Test.YtfipbnognjepkaaGreatDoorPlain
namespace Go.Proofs.YtfipbnognjepkaaGreatDoor
set_option linter.unusedVariables false
set_option linter.unusedSimpArgs false

theorem lt_mm_append : ∀ {a b : List UInt8}, a < b → ¬ a <+: b → ∀ c d : List UInt8, a ++ c < b ++ d
  | [], b, _, h, _, _ => absurd (List.nil_prefix) h
  | x :: a, [], h, _, _, _ => absurd h (by simp)
  | x :: a, y :: b, h, hp, c, d => by
    rw [List.cons_append, List.cons_append, List.cons_lt_cons_iff]
    rw [List.cons_lt_cons_iff] at h
    rcases h with h | ⟨rfl, h⟩
    · exact .inl h
    · exact .inr ⟨rfl, lt_mm_append h (fun k => hp (List.cons_prefix_cons.2 ⟨rfl, k⟩)) c d⟩
theorem append_lt_left (s : List UInt8) {a b : List UInt8} : s ++ a < s ++ b ↔ a < b := by
  induction s with
  | nil => simp
  | cons x s ih => simp [List.cons_lt_cons_iff, UInt8.lt_irrefl, ih]
theorem prefix_lt {a b : List UInt8} (h : a <+: b) (hl : a.length < b.length) : a < b := by
  obtain ⟨t, rfl⟩ := h
  cases t with
  | nil => simp at hl
  | cons y t =>
    have := (append_lt_left a (a := []) (b := y :: t)).2 (by simp)
    simpa using this
theorem lt_same {a b : List UInt8} (hl : a.length = b.length) (h : a < b) (c d : List UInt8) : a ++ c < b ++ d :=
  lt_mm_append h (fun k => by have := k.eq_of_length hl; subst this; exact List.lt_irrefl _ h) c d
theorem lt_asymm' {a b : List UInt8} (h : a < b) (k : b < a) : False := List.lt_irrefl _ (List.lt_trans h k)
theorem lt_of_ne_not {a b : List UInt8} (h : ¬ a < b) (hn : a ≠ b) : b < a := by
  rcases List.le_iff_lt_or_eq.1 (List.not_lt.1 h) with k | k
  · exact k
  · exact absurd k.symm hn

/-- A word that is less than each of its rests. -/
def Lyn (l : List UInt8) : Prop := l ≠ [] ∧ ∀ k, 0 < k → k < l.length → l < l.drop k
def rotL (l : List UInt8) (k : Nat) : List UInt8 := l.drop k ++ l.take k
theorem rotL_len (l : List UInt8) (k : Nat) : (rotL l k).length = l.length := by
  unfold rotL; rw [List.length_append, List.length_drop, List.length_take]; omega

/-- A word is less than its rests just if it is less than its turned words. -/
theorem lyn_rot (l : List UInt8) : (∀ k, 0 < k → k < l.length → l < l.drop k) ↔ (∀ k, 0 < k → k < l.length → l < rotL l k) := by
  constructor
  · intro h k h0 h1
    have h2 := h k h0 h1
    have h3 := lt_mm_append h2 (fun p => by have := p.length_le; rw [List.length_drop] at this; omega) [] (l.take k)
    rwa [List.append_nil] at h3
  · intro h k h0 h1
    refine Classical.byContradiction fun hn => ?_
    have hne : l ≠ l.drop k := fun e => by have := congrArg List.length e; rw [List.length_drop] at this; omega
    have hlt := lt_of_ne_not hn hne
    by_cases hp : l.drop k <+: l
    · obtain ⟨t, ht⟩ := hp
      have hsl : (l.drop k).length = l.length - k := List.length_drop
      have htl : t.length = k := by have := congrArg List.length ht; rw [List.length_append, hsl] at this; omega
      have hk := h k h0 h1
      have e1 : l.take k ++ l.drop k = l := List.take_append_drop k l
      have a1 : t < l.take k := by
        refine (append_lt_left (l.drop k)).1 ?_
        rw [ht]
        exact hk
      have e2 : rotL l (l.length - k) = t ++ l.drop k := by
        unfold rotL
        have d1 : l.drop (l.length - k) = t := by
          have := List.drop_left' (l₁ := l.drop k) (l₂ := t) hsl
          rwa [ht] at this
        have d2 : l.take (l.length - k) = l.drop k := by
          have := List.take_left' (l₁ := l.drop k) (l₂ := t) hsl
          rwa [ht] at this
        rw [d1, d2]
      have hk2 := h (l.length - k) (by omega) (by omega)
      rw [e2] at hk2
      have a2 := lt_same (by rw [htl, List.length_take]; omega) a1 (l.drop k) (l.drop k)
      rw [e1] at a2
      exact lt_asymm' hk2 a2
    · have := lt_mm_append hlt hp (l.take k) []
      rw [List.append_nil] at this
      exact lt_asymm' this (h k h0 h1)

/-- The place of the first rest that is less than the word: w[k:] is not less than w for 0 < k < i, and w[i:] is. -/
def FirstLess (l : List UInt8) (i : Nat) : Prop := 0 < i ∧ i ≤ l.length ∧ l.drop i < l ∧ ∀ k, 0 < k → k < i → ¬ l.drop k < l

theorem FirstLess.gt {l : List UInt8} {i : Nat} (h : FirstLess l i) {k : Nat} (h0 : 0 < k) (h1 : k < i) : l < l.drop k := by
  refine lt_of_ne_not (h.2.2.2 k h0 h1) fun e => ?_
  have := congrArg List.length e
  rw [List.length_drop] at this
  have := h.2.1
  omega

/-- Up to there the word is less than its rests. -/
theorem FirstLess.lyn {l : List UInt8} {i : Nat} (h : FirstLess l i) : Lyn (l.take i) := by
  obtain ⟨h0, h1, h2, h3⟩ := id h
  have hl : (l.take i).length = i := by rw [List.length_take]; omega
  refine ⟨fun e => by rw [e] at hl; simp at hl; omega, fun k k0 k1 => ?_⟩
  rw [hl] at k1
  have hw := h.gt k0 k1
  have e0 : l.take i ++ l.drop i = l := List.take_append_drop i l
  have e1 : l.drop k = (l.take i).drop k ++ l.drop i := by
    conv => lhs; rw [← e0]
    rw [List.drop_append_of_le_length (by omega)]
  refine Classical.byContradiction fun hn => ?_
  have hdl : ((l.take i).drop k).length = i - k := by rw [List.length_drop, hl]
  have hne : l.take i ≠ (l.take i).drop k := fun e => by have := congrArg List.length e; rw [hl, hdl] at this; omega
  have hlt := lt_of_ne_not hn hne
  by_cases hp : (l.take i).drop k <+: l.take i
  · obtain ⟨t, ht⟩ := hp
    have htl : t.length = k := by have := congrArg List.length ht; rw [List.length_append, hdl, hl] at this; omega
    have e2 : l = (l.take i).drop k ++ (t ++ l.drop i) := by rw [← List.append_assoc, ht, e0]
    have a1 : t ++ l.drop i < l.drop i := by
      refine (append_lt_left ((l.take i).drop k)).1 ?_
      rw [← e2, ← e1]
      exact hw
    have e3 : l.drop (i - k) = t ++ l.drop i := by
      conv => lhs; rw [e2]
      rw [← hdl, List.drop_left]
    by_cases hki : k < i
    · have a2 := h.gt (k := i - k) (by omega) (by omega)
      rw [e3] at a2
      exact lt_asymm' (List.lt_trans a1 h2) a2
    · omega
  · have := lt_mm_append hlt hp (l.drop i) (l.drop i)
    rw [← e1, e0] at this
    exact lt_asymm' this hw

/-- No longer beginning is. -/
theorem FirstLess.not {l : List UInt8} {i m : Nat} (h : FirstLess l i) (hm : i < m) (hl : m ≤ l.length) : ¬ Lyn (l.take m) := by
  intro k
  obtain ⟨h0, h1, h2, h3⟩ := id h
  have hml : (l.take m).length = m := by rw [List.length_take]; omega
  have k1 := k.2 i h0 (by omega)
  have e1 : (l.take m).drop i = (l.drop i).take (m - i) := by rw [List.drop_take]
  rw [e1] at k1
  have hnp : ¬ l.take m <+: (l.drop i).take (m - i) := fun p => by have := p.length_le; rw [hml, List.length_take] at this; omega
  have k2 := lt_mm_append k1 hnp (l.drop m) ((l.drop i).drop (m - i))
  rw [List.take_append_drop, List.take_append_drop] at k2
  exact lt_asymm' k2 h2

/-- The next part is not greater. -/
theorem FirstLess.next {l : List UInt8} {i j : Nat} (h : FirstLess l i) (k : FirstLess (l.drop i) j) : ¬ l.take i < (l.drop i).take j := by
  intro hlt
  obtain ⟨h0, h1, h2, h3⟩ := id h
  obtain ⟨j0, j1, j2, j3⟩ := id k
  have hl : (l.take i).length = i := by rw [List.length_take]; omega
  have hl2 : ((l.drop i).take j).length = j := by rw [List.length_take]; omega
  have e0 : l.take i ++ l.drop i = l := List.take_append_drop i l
  have e1 : (l.drop i).take j ++ (l.drop i).drop j = l.drop i := List.take_append_drop j _
  by_cases hp : l.take i <+: (l.drop i).take j
  · obtain ⟨t, ht⟩ := hp
    have hij : i ≤ j := by have := congrArg List.length ht; rw [List.length_append, hl, hl2] at this; omega
    have htn : t ≠ [] := fun e => by rw [e, List.append_nil] at ht; rw [ht] at hlt; exact List.lt_irrefl _ hlt
    have htl : 0 < t.length := List.length_pos_iff.2 htn
    have hij2 : i < j := by have := congrArg List.length ht; rw [List.length_append, hl, hl2] at this; omega
    have e2 : l.drop i = l.take i ++ (t ++ (l.drop i).drop j) := by rw [← List.append_assoc, ht, e1]
    have a1 : t ++ (l.drop i).drop j < l.drop i := by
      refine (append_lt_left (l.take i)).1 ?_
      rw [← e2, e0]
      exact h2
    have e3 : (l.drop i).drop i = t ++ (l.drop i).drop j := by
      conv => lhs; rw [e2]
      rw [List.drop_left' hl]
    rw [← e3] at a1
    exact j3 i h0 hij2 a1
  · have := lt_mm_append hlt hp (l.drop i) ((l.drop i).drop j)
    rw [e0, e1] at this
    exact lt_asymm' this h2

theorem firstLess_ex {l : List UInt8} (h : l ≠ []) : ∃ i, FirstLess l i := by
  have hl : 0 < l.length := List.length_pos_iff.2 h
  have hn : l.drop l.length < l := by
    rw [List.drop_length]
    cases l with
    | nil => exact absurd rfl h
    | cons x l => simp
  have key : ∀ n, ∀ j, 0 < j → j ≤ l.length → n = l.length - j → (∀ k, 0 < k → k < j → ¬ l.drop k < l) → ∃ i, FirstLess l i := by
    intro n
    induction n with
    | zero =>
      intro j j0 j1 e hk
      obtain rfl : j = l.length := by omega
      exact ⟨_, j0, j1, hn, hk⟩
    | succ n ih =>
      intro j j0 j1 e hk
      by_cases hd : l.drop j < l
      · exact ⟨j, j0, j1, hd, hk⟩
      · refine ih (j + 1) (by omega) (by omega) (by omega) fun k k0 k1 => ?_
        by_cases e2 : k = j
        · subst e2; exact hd
        · exact hk k k0 (by omega)
  exact key _ 1 (by omega) (by omega) rfl (fun k k0 k1 => by omega)
theorem firstLess_uniq {l : List UInt8} {i j : Nat} (h : FirstLess l i) (k : FirstLess l j) : i = j := by
  rcases Nat.lt_trichotomy i j with e | e | e
  · exact absurd h.2.2.1 (k.2.2.2 i h.1 e)
  · exact e
  · exact absurd k.2.2.1 (h.2.2.2 j k.1 e)
noncomputable def flI (l : List UInt8) : Nat := if h : l ≠ [] then (firstLess_ex h).choose else 0
theorem flI_ok {l : List UInt8} (h : l ≠ []) : FirstLess l (flI l) := by unfold flI; rw [dif_pos h]; exact (firstLess_ex h).choose_spec
theorem flI_of {l : List UInt8} {i : Nat} (h : FirstLess l i) : flI l = i := firstLess_uniq (flI_ok (fun e => by have := h.2.1; rw [e] at this; simp at this; have := h.1; omega)) h

/-- The parts of a word: each goes up to the first rest that is less. -/
noncomputable def partsN : Nat → List UInt8 → List (List UInt8)
  | 0, _ => []
  | f + 1, l => if l = [] then [] else l.take (flI l) :: partsN f (l.drop (flI l))
noncomputable def partsL (l : List UInt8) : List (List UInt8) := partsN l.length l
theorem partsN_fuel : ∀ (f g : Nat) (l : List UInt8), l.length ≤ f → l.length ≤ g → partsN f l = partsN g l
  | 0, 0, l, _, _ => rfl
  | 0, g + 1, l, h, _ => by
    obtain rfl : l = [] := List.eq_nil_of_length_eq_zero (by omega)
    simp [partsN]
  | f + 1, 0, l, _, h => by
    obtain rfl : l = [] := List.eq_nil_of_length_eq_zero (by omega)
    simp [partsN]
  | f + 1, g + 1, l, h1, h2 => by
    unfold partsN
    by_cases e : l = []
    · rw [if_pos e, if_pos e]
    · rw [if_neg e, if_neg e]
      have k := flI_ok e
      have k0 := k.1
      have k1 := k.2.1
      rw [partsN_fuel f g _ (by rw [List.length_drop]; omega) (by rw [List.length_drop]; omega)]
theorem partsL_nil : partsL [] = [] := rfl
theorem partsL_step {l : List UInt8} {i : Nat} (h : FirstLess l i) : partsL l = l.take i :: partsL (l.drop i) := by
  have hne : l ≠ [] := fun e => by have := h.2.1; rw [e] at this; simp at this; have := h.1; omega
  have hi := flI_of h
  have h0 := h.1
  have h1 := h.2.1
  have hl : 0 < l.length := List.length_pos_iff.2 hne
  unfold partsL
  rw [show l.length = (l.length - 1) + 1 by omega]
  conv => lhs; unfold partsN
  rw [if_neg hne, hi, partsN_fuel (l.length - 1) (l.drop i).length _ (by rw [List.length_drop]; omega) (Nat.le_refl _)]
theorem partsL_flat (l : List UInt8) : (partsL l).flatten = l := by
  generalize hn : l.length = n
  induction n using Nat.strongRecOn generalizing l with
  | ind n ih =>
    by_cases e : l = []
    · subst e; rfl
    · have k := flI_ok e
      have k0 := k.1
      have k1 := k.2.1
      rw [partsL_step k, List.flatten_cons, ih _ (by rw [List.length_drop]; omega) _ rfl, List.take_append_drop]
theorem partsL_len (l : List UInt8) : (partsL l).length ≤ l.length := by
  generalize hn : l.length = n
  induction n using Nat.strongRecOn generalizing l with
  | ind n ih =>
    by_cases e : l = []
    · subst e; simp [partsL_nil]
    · have k := flI_ok e
      have k0 := k.1
      have k1 := k.2.1
      have := ih (l.drop (flI l)).length (by rw [List.length_drop]; omega) _ rfl
      rw [partsL_step k, List.length_cons]
      rw [List.length_drop] at this
      omega
theorem partsL_lyn (l : List UInt8) : ∀ q ∈ partsL l, Lyn q := by
  generalize hn : l.length = n
  induction n using Nat.strongRecOn generalizing l with
  | ind n ih =>
    by_cases e : l = []
    · subst e; simp [partsL_nil]
    · have k := flI_ok e
      have k0 := k.1
      have k1 := k.2.1
      rw [partsL_step k]
      intro q hq
      rcases List.mem_cons.1 hq with rfl | hq
      · exact k.lyn
      · exact ih _ (by rw [List.length_drop]; omega) _ rfl q hq
theorem partsL_asc (l : List UInt8) : ∀ i (h : i + 1 < (partsL l).length), ¬ (partsL l)[i] < (partsL l)[i + 1] := by
  generalize hn : l.length = n
  induction n using Nat.strongRecOn generalizing l with
  | ind n ih =>
    by_cases e : l = []
    · subst e; intro i h; simp [partsL_nil] at h
    · have k := flI_ok e
      have k0 := k.1
      have k1 := k.2.1
      have hi := ih (l.drop (flI l)).length (by rw [List.length_drop]; omega) (l.drop (flI l)) rfl
      have hs := partsL_step k
      refine (?_ : ∀ P, P = l.take (flI l) :: partsL (l.drop (flI l)) → ∀ i (h : i + 1 < P.length), ¬ P[i] < P[i + 1]) _ hs
      rintro P rfl i h
      match i with
      | 0 =>
        by_cases e2 : l.drop (flI l) = []
        · rw [e2, partsL_nil] at h; simp at h
        · have k2 := flI_ok e2
          have hs2 := partsL_step k2
          simp only [List.getElem_cons_zero, List.getElem_cons_succ]
          have : (partsL (l.drop (flI l)))[0]'(by simpa using h) = (l.drop (flI l)).take (flI (l.drop (flI l))) := by
            simp only [hs2, List.getElem_cons_zero]
          rw [this]
          exact k.next k2
      | i + 1 =>
        simp only [List.getElem_cons_succ]
        exact hi i (by simpa using h)

end Go.Proofs.YtfipbnognjepkaaGreatDoor
