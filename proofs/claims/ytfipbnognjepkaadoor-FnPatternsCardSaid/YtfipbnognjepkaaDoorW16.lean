/- Periods, powers and squares of words; a factor at a place. -/
import Derived.Test.YtfipbnognjepkaaDoorPlain
import Derived.Test.YtfipbnognjepkaaDoorInts
import Derived.Test.YtfipbnognjepkaaDoorPerPlain
import Derived.Test.YtfipbnognjepkaaDoorLib
import Derived.Test.YtfipbnognjepkaaDoorWord
import Derived.Deep.QuietTactic
import Derived.BigQuiet
import Derived.Deep.RegionWith
import Derived.Outline
import Derived.Test.YtfipbnognjepkaaDoorWords
import Derived.WalkSmall
import Derived.WalkMore
import Derived.Deep.LoopGhost
import Derived.Test.YtfipbnognjepkaaDoorSqPlain

/-! ### PlacesPlain -/
namespace Go.Proofs.YtfipbnognjepkaaDoor
set_option linter.unusedVariables false
set_option linter.unusedSimpArgs false
open Go.RowKit

/-- The places, among the numbers told, at which u stands in x. -/
def posOf (x u : ByteArray) (pre : List Nat) : List Int := (pre.filter fun i => decide (x.extract i (i + u.size) = u)).map Int.ofNat
theorem posOf_hit (x u : ByteArray) (pre : List Nat) {i : Nat} (h : x.extract i (i + u.size) = u) : posOf x u (pre ++ [i]) = posOf x u pre ++ [(i : Int)] := by simp [posOf, h]
theorem posOf_miss (x u : ByteArray) (pre : List Nat) {i : Nat} (h : ¬ x.extract i (i + u.size) = u) : posOf x u (pre ++ [i]) = posOf x u pre := by simp [posOf, h]
theorem posOf_len (x u : ByteArray) (pre : List Nat) : (posOf x u pre).length ≤ pre.length := by
  unfold posOf; rw [List.length_map]; exact List.length_filter_le _ _
theorem posOf_nil (x u : ByteArray) : posOf x u [] = [] := rfl
theorem teq_yes {a b : ByteArray} (h : a = b) : (a.toList == b.toList) = true := by rw [h]; exact beq_self_eq_true _
theorem teq_no {a b : ByteArray} (h : ¬ a = b) : (a.toList == b.toList) = false := by
  apply Bool.eq_false_iff.2
  intro h1
  apply h
  have h2 := eq_of_beq h1
  rw [ByteArray.toList_eq, ByteArray.toList_eq] at h2
  have h3 : a.data = b.data := by rw [← Array.toList_inj]; exact h2
  cases a; cases b; simp_all
def placesR (x u : ByteArray) : List Int × Int := if ¬ (IsW x ∧ IsW u) then ([], 1) else (posOf x u (List.range (x.size + 1 - u.size)), 0)
theorem placesR_bad {x u : ByteArray} (h : ¬ (IsW x ∧ IsW u)) : placesR x u = ([], 1) := if_pos h
theorem placesR_ok {x u : ByteArray} (h : IsW x ∧ IsW u) : placesR x u = (posOf x u (List.range (x.size + 1 - u.size)), 0) := by unfold placesR; rw [if_neg (not_not_intro h)]
theorem placesR_len (x u : ByteArray) : (placesR x u).1.length ≤ 4096 := by
  by_cases h : IsW x ∧ IsW u
  · rw [placesR_ok h]
    have h1 := h.1.size
    have h2 := posOf_len x u (List.range (x.size + 1 - u.size))
    rw [List.length_range] at h2
    show (posOf x u (List.range (x.size + 1 - u.size))).length ≤ 4096
    omega
  · rw [placesR_bad h]; decide
theorem map_snoc (L : List Int) (z : Int) : L.map (Value.int .i64) ++ [Value.int .i64 z] = (L ++ [z]).map (Value.int .i64) := by rw [List.map_append]; rfl

end Go.Proofs.YtfipbnognjepkaaDoor

/-! ### Pers -/
namespace Go.Proofs.YtfipbnognjepkaaDoor
set_option linter.unusedVariables false
set_option linter.unusedSimpArgs false
open Go.RowKit

theorem slice_to (x : ByteArray) (z : Int) (n : Nat) (hz : z = n) (h : n ≤ x.size) (W : World) :
    (Instr.slice 9 (.string x) none (some (.int .i64 z)) none).run Tryd.prog W = .ok (.string (x.extract 0 n)) W := by
  subst hz
  have := run_slice_string_h (P := Tryd.prog) W 9 x Tryd.underlying9 .i64 (n : Int) (by omega) (by omega)
  simpa using this

theorem slice_from (x : ByteArray) (z : Int) (n : Nat) (hz : z = n) (h : n ≤ x.size) (W : World) :
    (Instr.slice 9 (.string x) (some (.int .i64 z)) none none).run Tryd.prog W = .ok (.string (x.extract n x.size)) W := by
  subst hz
  have := run_slice_string_l (P := Tryd.prog) W 9 x Tryd.underlying9 .i64 (n : Int) (by omega) (by omega)
  simpa using this

end Go.Proofs.YtfipbnognjepkaaDoor

/-! ### LexPlain -/
namespace Go.Proofs.YtfipbnognjepkaaDoor
set_option linter.unusedVariables false
set_option linter.unusedSimpArgs false

theorem lt_mm_append : ∀ {a b : List UInt8}, a < b → ¬ a <+: b → ∀ c d : List UInt8, a ++ c < b ++ d
  | [], b, _, h, _, _ => absurd (List.nil_prefix) h
  | x :: a, [], h, _, _, _ => absurd h (by simp)
  | x :: a, y :: b, h, hp, c, d => by
    rw [List.cons_append, List.cons_append, List.cons_lt_cons_iff]
    rw [List.cons_lt_cons_iff] at h
    rcases h with h | ⟨rfl, h⟩
    · exact .inl h
    · exact .inr ⟨rfl, lt_mm_append h (fun k => hp (List.cons_prefix_cons.2 ⟨rfl, k⟩)) c d⟩
theorem append_lt_left (s : List UInt8) {a b : List UInt8} : s ++ a < s ++ b ↔ a < b := by
  induction s with
  | nil => simp
  | cons x s ih => simp [List.cons_lt_cons_iff, UInt8.lt_irrefl, ih]
theorem prefix_lt {a b : List UInt8} (h : a <+: b) (hl : a.length < b.length) : a < b := by
  obtain ⟨t, rfl⟩ := h
  cases t with
  | nil => simp at hl
  | cons y t =>
    have := (append_lt_left a (a := []) (b := y :: t)).2 (by simp)
    simpa using this
theorem lt_same {a b : List UInt8} (hl : a.length = b.length) (h : a < b) (c d : List UInt8) : a ++ c < b ++ d :=
  lt_mm_append h (fun k => by have := k.eq_of_length hl; subst this; exact List.lt_irrefl _ h) c d
theorem lt_asymm' {a b : List UInt8} (h : a < b) (k : b < a) : False := List.lt_irrefl _ (List.lt_trans h k)
theorem lt_of_ne_not {a b : List UInt8} (h : ¬ a < b) (hn : a ≠ b) : b < a := by
  rcases List.le_iff_lt_or_eq.1 (List.not_lt.1 h) with k | k
  · exact k
  · exact absurd k.symm hn

/-- A word that is less than each of its rests. -/
def Lyn (l : List UInt8) : Prop := l ≠ [] ∧ ∀ k, 0 < k → k < l.length → l < l.drop k
def rotL (l : List UInt8) (k : Nat) : List UInt8 := l.drop k ++ l.take k
theorem rotL_len (l : List UInt8) (k : Nat) : (rotL l k).length = l.length := by
  unfold rotL; rw [List.length_append, List.length_drop, List.length_take]; omega

/-- A word is less than its rests just if it is less than its turned words. -/
theorem lyn_rot (l : List UInt8) : (∀ k, 0 < k → k < l.length → l < l.drop k) ↔ (∀ k, 0 < k → k < l.length → l < rotL l k) := by
  constructor
  · intro h k h0 h1
    have h2 := h k h0 h1
    have h3 := lt_mm_append h2 (fun p => by have := p.length_le; rw [List.length_drop] at this; omega) [] (l.take k)
    rwa [List.append_nil] at h3
  · intro h k h0 h1
    refine Classical.byContradiction fun hn => ?_
    have hne : l ≠ l.drop k := fun e => by have := congrArg List.length e; rw [List.length_drop] at this; omega
    have hlt := lt_of_ne_not hn hne
    by_cases hp : l.drop k <+: l
    · obtain ⟨t, ht⟩ := hp
      have hsl : (l.drop k).length = l.length - k := List.length_drop
      have htl : t.length = k := by have := congrArg List.length ht; rw [List.length_append, hsl] at this; omega
      have hk := h k h0 h1
      have e1 : l.take k ++ l.drop k = l := List.take_append_drop k l
      have a1 : t < l.take k := by
        refine (append_lt_left (l.drop k)).1 ?_
        rw [ht]
        exact hk
      have e2 : rotL l (l.length - k) = t ++ l.drop k := by
        unfold rotL
        have d1 : l.drop (l.length - k) = t := by
          have := List.drop_left' (l₁ := l.drop k) (l₂ := t) hsl
          rwa [ht] at this
        have d2 : l.take (l.length - k) = l.drop k := by
          have := List.take_left' (l₁ := l.drop k) (l₂ := t) hsl
          rwa [ht] at this
        rw [d1, d2]
      have hk2 := h (l.length - k) (by omega) (by omega)
      rw [e2] at hk2
      have a2 := lt_same (by rw [htl, List.length_take]; omega) a1 (l.drop k) (l.drop k)
      rw [e1] at a2
      exact lt_asymm' hk2 a2
    · have := lt_mm_append hlt hp (l.take k) []
      rw [List.append_nil] at this
      exact lt_asymm' this (h k h0 h1)

/-- The place of the first rest that is less than the word: w[k:] is not less than w for 0 < k < i, and w[i:] is. -/
def FirstLess (l : List UInt8) (i : Nat) : Prop := 0 < i ∧ i ≤ l.length ∧ l.drop i < l ∧ ∀ k, 0 < k → k < i → ¬ l.drop k < l

theorem FirstLess.gt {l : List UInt8} {i : Nat} (h : FirstLess l i) {k : Nat} (h0 : 0 < k) (h1 : k < i) : l < l.drop k := by
  refine lt_of_ne_not (h.2.2.2 k h0 h1) fun e => ?_
  have := congrArg List.length e
  rw [List.length_drop] at this
  have := h.2.1
  omega

/-- Up to there the word is less than its rests. -/
theorem FirstLess.lyn {l : List UInt8} {i : Nat} (h : FirstLess l i) : Lyn (l.take i) := by
  obtain ⟨h0, h1, h2, h3⟩ := id h
  have hl : (l.take i).length = i := by rw [List.length_take]; omega
  refine ⟨fun e => by rw [e] at hl; simp at hl; omega, fun k k0 k1 => ?_⟩
  rw [hl] at k1
  have hw := h.gt k0 k1
  have e0 : l.take i ++ l.drop i = l := List.take_append_drop i l
  have e1 : l.drop k = (l.take i).drop k ++ l.drop i := by
    conv => lhs; rw [← e0]
    rw [List.drop_append_of_le_length (by omega)]
  refine Classical.byContradiction fun hn => ?_
  have hdl : ((l.take i).drop k).length = i - k := by rw [List.length_drop, hl]
  have hne : l.take i ≠ (l.take i).drop k := fun e => by have := congrArg List.length e; rw [hl, hdl] at this; omega
  have hlt := lt_of_ne_not hn hne
  by_cases hp : (l.take i).drop k <+: l.take i
  · obtain ⟨t, ht⟩ := hp
    have htl : t.length = k := by have := congrArg List.length ht; rw [List.length_append, hdl, hl] at this; omega
    have e2 : l = (l.take i).drop k ++ (t ++ l.drop i) := by rw [← List.append_assoc, ht, e0]
    have a1 : t ++ l.drop i < l.drop i := by
      refine (append_lt_left ((l.take i).drop k)).1 ?_
      rw [← e2, ← e1]
      exact hw
    have e3 : l.drop (i - k) = t ++ l.drop i := by
      conv => lhs; rw [e2]
      rw [← hdl, List.drop_left]
    by_cases hki : k < i
    · have a2 := h.gt (k := i - k) (by omega) (by omega)
      rw [e3] at a2
      exact lt_asymm' (List.lt_trans a1 h2) a2
    · omega
  · have := lt_mm_append hlt hp (l.drop i) (l.drop i)
    rw [← e1, e0] at this
    exact lt_asymm' this hw

/-- No longer beginning is. -/
theorem FirstLess.not {l : List UInt8} {i m : Nat} (h : FirstLess l i) (hm : i < m) (hl : m ≤ l.length) : ¬ Lyn (l.take m) := by
  intro k
  obtain ⟨h0, h1, h2, h3⟩ := id h
  have hml : (l.take m).length = m := by rw [List.length_take]; omega
  have k1 := k.2 i h0 (by omega)
  have e1 : (l.take m).drop i = (l.drop i).take (m - i) := by rw [List.drop_take]
  rw [e1] at k1
  have hnp : ¬ l.take m <+: (l.drop i).take (m - i) := fun p => by have := p.length_le; rw [hml, List.length_take] at this; omega
  have k2 := lt_mm_append k1 hnp (l.drop m) ((l.drop i).drop (m - i))
  rw [List.take_append_drop, List.take_append_drop] at k2
  exact lt_asymm' k2 h2

/-- The next part is not greater. -/
theorem FirstLess.next {l : List UInt8} {i j : Nat} (h : FirstLess l i) (k : FirstLess (l.drop i) j) : ¬ l.take i < (l.drop i).take j := by
  intro hlt
  obtain ⟨h0, h1, h2, h3⟩ := id h
  obtain ⟨j0, j1, j2, j3⟩ := id k
  have hl : (l.take i).length = i := by rw [List.length_take]; omega
  have hl2 : ((l.drop i).take j).length = j := by rw [List.length_take]; omega
  have e0 : l.take i ++ l.drop i = l := List.take_append_drop i l
  have e1 : (l.drop i).take j ++ (l.drop i).drop j = l.drop i := List.take_append_drop j _
  by_cases hp : l.take i <+: (l.drop i).take j
  · obtain ⟨t, ht⟩ := hp
    have hij : i ≤ j := by have := congrArg List.length ht; rw [List.length_append, hl, hl2] at this; omega
    have htn : t ≠ [] := fun e => by rw [e, List.append_nil] at ht; rw [ht] at hlt; exact List.lt_irrefl _ hlt
    have htl : 0 < t.length := List.length_pos_iff.2 htn
    have hij2 : i < j := by have := congrArg List.length ht; rw [List.length_append, hl, hl2] at this; omega
    have e2 : l.drop i = l.take i ++ (t ++ (l.drop i).drop j) := by rw [← List.append_assoc, ht, e1]
    have a1 : t ++ (l.drop i).drop j < l.drop i := by
      refine (append_lt_left (l.take i)).1 ?_
      rw [← e2, e0]
      exact h2
    have e3 : (l.drop i).drop i = t ++ (l.drop i).drop j := by
      conv => lhs; rw [e2]
      rw [List.drop_left' hl]
    rw [← e3] at a1
    exact j3 i h0 hij2 a1
  · have := lt_mm_append hlt hp (l.drop i) ((l.drop i).drop j)
    rw [e0, e1] at this
    exact lt_asymm' this h2

theorem firstLess_ex {l : List UInt8} (h : l ≠ []) : ∃ i, FirstLess l i := by
  have hl : 0 < l.length := List.length_pos_iff.2 h
  have hn : l.drop l.length < l := by
    rw [List.drop_length]
    cases l with
    | nil => exact absurd rfl h
    | cons x l => simp
  have key : ∀ n, ∀ j, 0 < j → j ≤ l.length → n = l.length - j → (∀ k, 0 < k → k < j → ¬ l.drop k < l) → ∃ i, FirstLess l i := by
    intro n
    induction n with
    | zero =>
      intro j j0 j1 e hk
      obtain rfl : j = l.length := by omega
      exact ⟨_, j0, j1, hn, hk⟩
    | succ n ih =>
      intro j j0 j1 e hk
      by_cases hd : l.drop j < l
      · exact ⟨j, j0, j1, hd, hk⟩
      · refine ih (j + 1) (by omega) (by omega) (by omega) fun k k0 k1 => ?_
        by_cases e2 : k = j
        · subst e2; exact hd
        · exact hk k k0 (by omega)
  exact key _ 1 (by omega) (by omega) rfl (fun k k0 k1 => by omega)
theorem firstLess_uniq {l : List UInt8} {i j : Nat} (h : FirstLess l i) (k : FirstLess l j) : i = j := by
  rcases Nat.lt_trichotomy i j with e | e | e
  · exact absurd h.2.2.1 (k.2.2.2 i h.1 e)
  · exact e
  · exact absurd k.2.2.1 (h.2.2.2 j k.1 e)
noncomputable def flI (l : List UInt8) : Nat := if h : l ≠ [] then (firstLess_ex h).choose else 0
theorem flI_ok {l : List UInt8} (h : l ≠ []) : FirstLess l (flI l) := by unfold flI; rw [dif_pos h]; exact (firstLess_ex h).choose_spec
theorem flI_of {l : List UInt8} {i : Nat} (h : FirstLess l i) : flI l = i := firstLess_uniq (flI_ok (fun e => by have := h.2.1; rw [e] at this; simp at this; have := h.1; omega)) h

/-- The parts of a word: each goes up to the first rest that is less. -/
noncomputable def partsN : Nat → List UInt8 → List (List UInt8)
  | 0, _ => []
  | f + 1, l => if l = [] then [] else l.take (flI l) :: partsN f (l.drop (flI l))
noncomputable def partsL (l : List UInt8) : List (List UInt8) := partsN l.length l
theorem partsN_fuel : ∀ (f g : Nat) (l : List UInt8), l.length ≤ f → l.length ≤ g → partsN f l = partsN g l
  | 0, 0, l, _, _ => rfl
  | 0, g + 1, l, h, _ => by
    obtain rfl : l = [] := List.eq_nil_of_length_eq_zero (by omega)
    simp [partsN]
  | f + 1, 0, l, _, h => by
    obtain rfl : l = [] := List.eq_nil_of_length_eq_zero (by omega)
    simp [partsN]
  | f + 1, g + 1, l, h1, h2 => by
    unfold partsN
    by_cases e : l = []
    · rw [if_pos e, if_pos e]
    · rw [if_neg e, if_neg e]
      have k := flI_ok e
      have k0 := k.1
      have k1 := k.2.1
      rw [partsN_fuel f g _ (by rw [List.length_drop]; omega) (by rw [List.length_drop]; omega)]
theorem partsL_nil : partsL [] = [] := rfl
theorem partsL_step {l : List UInt8} {i : Nat} (h : FirstLess l i) : partsL l = l.take i :: partsL (l.drop i) := by
  have hne : l ≠ [] := fun e => by have := h.2.1; rw [e] at this; simp at this; have := h.1; omega
  have hi := flI_of h
  have h0 := h.1
  have h1 := h.2.1
  have hl : 0 < l.length := List.length_pos_iff.2 hne
  unfold partsL
  rw [show l.length = (l.length - 1) + 1 by omega]
  conv => lhs; unfold partsN
  rw [if_neg hne, hi, partsN_fuel (l.length - 1) (l.drop i).length _ (by rw [List.length_drop]; omega) (Nat.le_refl _)]
theorem partsL_flat (l : List UInt8) : (partsL l).flatten = l := by
  generalize hn : l.length = n
  induction n using Nat.strongRecOn generalizing l with
  | ind n ih =>
    by_cases e : l = []
    · subst e; rfl
    · have k := flI_ok e
      have k0 := k.1
      have k1 := k.2.1
      rw [partsL_step k, List.flatten_cons, ih _ (by rw [List.length_drop]; omega) _ rfl, List.take_append_drop]
theorem partsL_len (l : List UInt8) : (partsL l).length ≤ l.length := by
  generalize hn : l.length = n
  induction n using Nat.strongRecOn generalizing l with
  | ind n ih =>
    by_cases e : l = []
    · subst e; simp [partsL_nil]
    · have k := flI_ok e
      have k0 := k.1
      have k1 := k.2.1
      have := ih (l.drop (flI l)).length (by rw [List.length_drop]; omega) _ rfl
      rw [partsL_step k, List.length_cons]
      rw [List.length_drop] at this
      omega
theorem partsL_lyn (l : List UInt8) : ∀ q ∈ partsL l, Lyn q := by
  generalize hn : l.length = n
  induction n using Nat.strongRecOn generalizing l with
  | ind n ih =>
    by_cases e : l = []
    · subst e; simp [partsL_nil]
    · have k := flI_ok e
      have k0 := k.1
      have k1 := k.2.1
      rw [partsL_step k]
      intro q hq
      rcases List.mem_cons.1 hq with rfl | hq
      · exact k.lyn
      · exact ih _ (by rw [List.length_drop]; omega) _ rfl q hq
theorem partsL_asc (l : List UInt8) : ∀ i (h : i + 1 < (partsL l).length), ¬ (partsL l)[i] < (partsL l)[i + 1] := by
  generalize hn : l.length = n
  induction n using Nat.strongRecOn generalizing l with
  | ind n ih =>
    by_cases e : l = []
    · subst e; intro i h; simp [partsL_nil] at h
    · have k := flI_ok e
      have k0 := k.1
      have k1 := k.2.1
      have hi := ih (l.drop (flI l)).length (by rw [List.length_drop]; omega) (l.drop (flI l)) rfl
      have hs := partsL_step k
      refine (?_ : ∀ P, P = l.take (flI l) :: partsL (l.drop (flI l)) → ∀ i (h : i + 1 < P.length), ¬ P[i] < P[i + 1]) _ hs
      rintro P rfl i h
      match i with
      | 0 =>
        by_cases e2 : l.drop (flI l) = []
        · rw [e2, partsL_nil] at h; simp at h
        · have k2 := flI_ok e2
          have hs2 := partsL_step k2
          simp only [List.getElem_cons_zero, List.getElem_cons_succ]
          have : (partsL (l.drop (flI l)))[0]'(by simpa using h) = (l.drop (flI l)).take (flI (l.drop (flI l))) := by
            simp only [hs2, List.getElem_cons_zero]
          rw [this]
          exact k.next k2
      | i + 1 =>
        simp only [List.getElem_cons_succ]
        exact hi i (by simpa using h)

end Go.Proofs.YtfipbnognjepkaaDoor

/-! ### RotPlain -/
namespace Go.Proofs.YtfipbnognjepkaaDoor
set_option linter.unusedVariables false
set_option linter.unusedSimpArgs false

/-- A letter, round and round. -/
def cyc (l : List UInt8) (i : Nat) : Option UInt8 := l[i % l.length]?
theorem cyc_lt {l : List UInt8} {i : Nat} (h : i < l.length) : cyc l i = l[i]? := by unfold cyc; rw [Nat.mod_eq_of_lt h]
theorem cyc_mod (l : List UInt8) (i : Nat) : cyc l (i % l.length) = cyc l i := by unfold cyc; rw [Nat.mod_mod]
theorem rotL_get {l : List UInt8} {k i : Nat} (hk : k ≤ l.length) (hi : i < l.length) : (rotL l k)[i]? = cyc l (i + k) := by
  unfold rotL cyc
  by_cases h : i + k < l.length
  · rw [Nat.mod_eq_of_lt h, List.getElem?_append_left (by rw [List.length_drop]; omega), List.getElem?_drop, Nat.add_comm]
  · rw [List.getElem?_append_right (by rw [List.length_drop]; omega), List.length_drop, List.getElem?_take_of_lt (by omega)]
    have : (i + k) % l.length = i - (l.length - k) := by
      rw [show i + k = (i - (l.length - k)) + l.length by omega, Nat.add_mod_right, Nat.mod_eq_of_lt (by omega)]
    rw [this]
/-- Letters e places apart are equal, round and round. -/
def Cyc (l : List UInt8) (e : Nat) : Prop := ∀ i, cyc l (i + e) = cyc l i
theorem Cyc.zero (l : List UInt8) : Cyc l 0 := fun _ => rfl
theorem Cyc.n (l : List UInt8) : Cyc l l.length := fun i => by unfold cyc; rw [Nat.add_mod_right]
theorem Cyc.add {l : List UInt8} {a b : Nat} (h : Cyc l a) (k : Cyc l b) : Cyc l (a + b) := fun i => by rw [← Nat.add_assoc, k, h]
theorem Cyc.sub {l : List UInt8} {a b : Nat} (h : Cyc l a) (k : Cyc l b) (hle : a ≤ b) : Cyc l (b - a) := fun i => by
  rw [← h (i + (b - a)), show i + (b - a) + a = i + b by omega, k]
theorem Cyc.mul {l : List UInt8} {a : Nat} (h : Cyc l a) : ∀ m, Cyc l (m * a)
  | 0 => by rw [Nat.zero_mul]; exact Cyc.zero l
  | m + 1 => by rw [Nat.succ_mul]; exact (Cyc.mul h m).add h
theorem Cyc.gcd {l : List UInt8} {a b : Nat} (h : Cyc l a) (k : Cyc l b) : Cyc l (Nat.gcd a b) := by
  induction a, b using Nat.gcd.induction with
  | H0 n => rw [Nat.gcd_zero_left]; exact k
  | H1 m n hm ih =>
    rw [Nat.gcd_rec]
    refine ih ?_ h
    have h1 := (h.mul (n / m))
    have h2 := h1.sub k (Nat.div_mul_le_self n m)
    have h3 : n - n / m * m = n % m := by have := Nat.div_add_mod n m; rw [Nat.mul_comm] at this; omega
    rwa [h3] at h2
theorem Cyc.per {l : List UInt8} {e : Nat} (h : Cyc l e) : Per l e := fun i hi => by
  have := h i
  rw [cyc_lt hi, cyc_lt (by omega)] at this
  exact this.symm
/-- Two turned words are equal just so. -/
theorem rot_eq_iff {l : List UInt8} {j k : Nat} (hj : j ≤ k) (hk : k ≤ l.length) (hn : 0 < l.length) : rotL l j = rotL l k ↔ Cyc l (k - j) := by
  constructor
  · intro h i
    have hnj : j ≤ l.length * j := Nat.le_mul_of_pos_left j hn
    have hi : (i + l.length * j - j) % l.length < l.length := Nat.mod_lt _ hn
    have h1 : (rotL l j)[(i + l.length * j - j) % l.length]? = (rotL l k)[(i + l.length * j - j) % l.length]? := by rw [h]
    rw [rotL_get (by omega) hi, rotL_get hk hi] at h1
    unfold cyc at h1 ⊢
    rw [Nat.mod_add_mod, Nat.mod_add_mod, show i + l.length * j - j + j = i + l.length * j by omega, show i + l.length * j - j + k = i + (k - j) + l.length * j by omega, Nat.add_mul_mod_self_left, Nat.add_mul_mod_self_left] at h1
    exact h1.symm
  · intro h
    apply List.ext_getElem?
    intro i
    by_cases hi : i < l.length
    · rw [rotL_get (by omega) hi, rotL_get hk hi, ← h (i + j)]
      congr 1
      omega
    · rw [List.getElem?_eq_none (by rw [rotL_len]; omega), List.getElem?_eq_none (by rw [rotL_len]; omega)]

/-- The length of the root. -/
noncomputable def rl (l : List UInt8) : Nat := if l.length % lp l = 0 then lp l else l.length
theorem rl_pos {l : List UInt8} (h : l ≠ []) : 0 < rl l := by
  unfold rl; have := lp_ok h; have h1 := this.1; have h2 := this.2.1; split <;> omega
theorem rl_le {l : List UInt8} (h : l ≠ []) : rl l ≤ l.length := by
  unfold rl; have := lp_ok h; have h1 := this.1; have h2 := this.2.1; split <;> omega
theorem rl_dvd {l : List UInt8} (h : l ≠ []) : rl l ∣ l.length := by
  unfold rl
  split
  · next e => exact Nat.dvd_of_mod_eq_zero e
  · exact Nat.dvd_refl _
theorem rl_per {l : List UInt8} (h : l ≠ []) : Per l (rl l) := by
  unfold rl
  split
  · exact (lp_ok h).2.2.1
  · exact per_all l
/-- A period that divides the length goes round. -/
theorem cyc_of_per {l : List UInt8} {p : Nat} (h0 : 0 < p) (hp : Per l p) (hd : p ∣ l.length) : Cyc l p := by
  intro i
  by_cases hn : l.length = 0
  · have : l = [] := List.eq_nil_of_length_eq_zero hn
    subst this
    rfl
  have hpl := Nat.le_of_dvd (by omega) hd
  have hi : i % l.length < l.length := Nat.mod_lt _ (by omega)
  rw [← cyc_mod l i]
  have e1 : cyc l (i + p) = cyc l (i % l.length + p) := by unfold cyc; rw [Nat.mod_add_mod]
  rw [e1]
  generalize i % l.length = r at hi ⊢
  by_cases hr : r + p < l.length
  · rw [cyc_lt hr, cyc_lt hi, hp r hr]
  · obtain ⟨t, ht⟩ := hd
    have e2 : cyc l (r + p) = cyc l (r + p - l.length) := by
      unfold cyc
      conv => lhs; rw [show r + p = (r + p - l.length) + l.length by omega, Nat.add_mod_right]
    rw [e2, cyc_lt hi, cyc_lt (by omega)]
    obtain ⟨t', rfl⟩ : ∃ t', t = t' + 1 := ⟨t - 1, by
      cases t with
      | zero => rw [Nat.mul_zero] at ht; omega
      | succ t => rfl⟩
    have h2 : p * (t' + 1) = t' * p + p := by rw [Nat.mul_succ, Nat.mul_comm]
    have h3 := per_mul hp t' (r + p - l.length) (by omega)
    rw [h3]
    congr 1
    omega
theorem rl_cyc {l : List UInt8} (h : l ≠ []) : Cyc l (rl l) := cyc_of_per (rl_pos h) (rl_per h) (rl_dvd h)
/-- Nothing less goes round. -/
theorem rl_least {l : List UInt8} (h : l ≠ []) {e : Nat} (h0 : 0 < e) (h1 : e < rl l) : ¬ Cyc l e := by
  intro hc
  have hn : 0 < l.length := List.length_pos_iff.2 h
  have hle := rl_le h
  have hg := hc.gcd (Cyc.n l)
  have g0 : 0 < Nat.gcd e l.length := Nat.gcd_pos_of_pos_left _ h0
  have ge : Nat.gcd e l.length ≤ e := Nat.gcd_le_left _ h0
  have gd : Nat.gcd e l.length ∣ l.length := Nat.gcd_dvd_right _ _
  have hlp := lp_le h g0 hg.per
  obtain ⟨l0, l1, l2, l3⟩ := lp_ok h
  unfold rl at h1
  split at h1
  · omega
  · next hmod =>
    generalize Nat.gcd e l.length = g at hg g0 ge gd hlp
    have hcl : Cyc l (lp l) := by
      intro i
      obtain ⟨t, ht⟩ := gd
      have ht2 : 2 ≤ t := by
        match t with
        | 0 => rw [Nat.mul_zero] at ht; omega
        | 1 => rw [Nat.mul_one] at ht; omega
        | t + 2 => omega
      have hg2 : 2 * g ≤ l.length := by rw [ht, Nat.mul_comm]; exact Nat.mul_le_mul_left _ ht2
      have hi : i = i % g + i / g * g := by have := Nat.div_add_mod i g; rw [Nat.mul_comm] at this; omega
      have hr : i % g < g := Nat.mod_lt _ g0
      have k1 : cyc l i = cyc l (i % g) := by conv => lhs; rw [hi]
                                              exact (hg.mul (i / g)) _
      have k2 : cyc l (i + lp l) = cyc l (i % g + lp l) := by
        conv => lhs; rw [hi, show i % g + i / g * g + lp l = i % g + lp l + i / g * g by omega]
        exact (hg.mul (i / g)) _
      rw [k1, k2, cyc_lt (show i % g + lp l < l.length by omega), cyc_lt (show i % g < l.length by omega), l2 (i % g) (by omega)]
    have h5 := hcl.gcd (Cyc.n l)
    have h6 := lp_le h (Nat.gcd_pos_of_pos_left _ l0) h5.per
    have h7 : Nat.gcd (lp l) l.length ≤ lp l := Nat.gcd_le_left _ l0
    have h8 : Nat.gcd (lp l) l.length = lp l := by omega
    have h9 : lp l ∣ l.length := by rw [← h8]; exact Nat.gcd_dvd_right _ _
    exact hmod (Nat.mod_eq_zero_of_dvd h9)

/-- The different turned words. -/
theorem rots_nodup {l : List UInt8} (h : l ≠ []) : ((List.range (rl l)).map (rotL l)).Nodup := by
  have hle := rl_le h
  have hn : 0 < l.length := List.length_pos_iff.2 h
  refine List.pairwise_map.2 (List.Pairwise.imp_of_mem ?_ List.pairwise_lt_range)
  intro j k hj hk hlt e
  have hj2 := List.mem_range.1 hj
  have hk2 := List.mem_range.1 hk
  exact rl_least h (e := k - j) (by omega) (by omega) ((rot_eq_iff (by omega) (by omega) hn).1 e)
theorem rots_mem {l : List UInt8} (h : l ≠ []) (k : Nat) (hk : k < l.length) : rotL l k ∈ (List.range (rl l)).map (rotL l) := by
  have h0 := rl_pos h
  have hn : 0 < l.length := List.length_pos_iff.2 h
  refine List.mem_map.2 ⟨k % rl l, List.mem_range.2 (Nat.mod_lt _ h0), ?_⟩
  refine (rot_eq_iff (Nat.mod_le _ _) (by omega) hn).2 ?_
  have h3 : k - k % rl l = k / rl l * rl l := by have := Nat.div_add_mod k (rl l); rw [Nat.mul_comm] at this; omega
  rw [h3]
  exact (rl_cyc h).mul _
theorem rots_of {l : List UInt8} (h : l ≠ []) {z : List UInt8} (hz : z ∈ (List.range (rl l)).map (rotL l)) : ∃ k, k < l.length ∧ rotL l k = z := by
  obtain ⟨k, hk, e⟩ := List.mem_map.1 hz
  have := rl_le h
  exact ⟨k, by have := List.mem_range.1 hk; omega, e⟩
/-- A word less than its turned words is its own root. -/
theorem rl_lyn {l : List UInt8} (h : Lyn l) : rl l = l.length := by
  refine Classical.byContradiction fun hne => ?_
  have hle := rl_le h.1
  have h0 := rl_pos h.1
  have h1 := (lyn_rot l).1 h.2 (rl l) h0 (by omega)
  have hn : 0 < l.length := List.length_pos_iff.2 h.1
  have h2 := (rot_eq_iff (l := l) (j := 0) (k := rl l) (by omega) (by omega) hn).2 (by rw [Nat.sub_zero]; exact rl_cyc h.1)
  have h3 : rotL l 0 = l := by simp [rotL]
  rw [h3] at h2
  rw [← h2] at h1
  exact List.lt_irrefl _ h1

end Go.Proofs.YtfipbnognjepkaaDoor

/-! ### PerRPlain -/
namespace Go.Proofs.YtfipbnognjepkaaDoor
set_option linter.unusedVariables false
set_option linter.unusedSimpArgs false

def bordersR (x : ByteArray) : List Int × Int := if ¬ IsW x then ([], 1) else (bordsR (bl x) x.size, 0)
theorem bordersR_bad {x : ByteArray} (h : ¬ IsW x) : bordersR x = ([], 1) := if_pos h
theorem bordersR_ok {x : ByteArray} (h : IsW x) : bordersR x = (bordsR (bl x) x.size, 0) := by unfold bordersR; rw [if_neg (not_not_intro h)]
theorem bordersR_len (x : ByteArray) : (bordersR x).1.length ≤ 4096 := by
  by_cases h : IsW x
  · rw [bordersR_ok h]; have h1 := h.size; have h2 := bordsR_len (bl x) x.size; show (bordsR (bl x) x.size).length ≤ 4096; omega
  · rw [bordersR_bad h]; decide
def periodsR (x : ByteArray) : List Int × Int := if ¬ IsW x then ([], 1) else (persR (bl x) x.size, 0)
theorem periodsR_bad {x : ByteArray} (h : ¬ IsW x) : periodsR x = ([], 1) := if_pos h
theorem periodsR_ok {x : ByteArray} (h : IsW x) : periodsR x = (persR (bl x) x.size, 0) := by unfold periodsR; rw [if_neg (not_not_intro h)]
theorem periodsR_len (x : ByteArray) : (periodsR x).1.length ≤ 4096 := by
  by_cases h : IsW x
  · rw [periodsR_ok h]; have h1 := h.size; have h2 := persR_len (bl x) x.size; show (persR (bl x) x.size).length ≤ 4096; omega
  · rw [periodsR_bad h]; decide
noncomputable def rootR (x : ByteArray) : ByteArray × Int × Int := if ¬ IsW x then (⟨#[]⟩, 0, 1) else if x.size = 0 then (⟨#[]⟩, 0, 5) else (x.extract 0 (rl (bl x)), ((x.size / rl (bl x) : Nat) : Int), 0)
theorem rootR_bad {x : ByteArray} (h : ¬ IsW x) : rootR x = (⟨#[]⟩, 0, 1) := if_pos h
theorem rootR_nil {x : ByteArray} (h : IsW x) (h0 : x.size = 0) : rootR x = (⟨#[]⟩, 0, 5) := by unfold rootR; rw [if_neg (not_not_intro h), if_pos h0]
theorem rootR_ok {x : ByteArray} (h : IsW x) (h0 : ¬ x.size = 0) : rootR x = (x.extract 0 (rl (bl x)), ((x.size / rl (bl x) : Nat) : Int), 0) := by unfold rootR; rw [if_neg (not_not_intro h), if_neg h0]
noncomputable def expR (x : ByteArray) : Int × Int × Int := if ¬ IsW x then (0, 0, 1) else if x.size = 0 then (0, 0, 5) else (((x.size / Nat.gcd x.size (lp (bl x)) : Nat) : Int), ((lp (bl x) / Nat.gcd x.size (lp (bl x)) : Nat) : Int), 0)
theorem expR_bad {x : ByteArray} (h : ¬ IsW x) : expR x = (0, 0, 1) := if_pos h
theorem expR_nil {x : ByteArray} (h : IsW x) (h0 : x.size = 0) : expR x = (0, 0, 5) := by unfold expR; rw [if_neg (not_not_intro h), if_pos h0]
theorem expR_ok {x : ByteArray} (h : IsW x) (h0 : ¬ x.size = 0) : expR x = (((x.size / Nat.gcd x.size (lp (bl x)) : Nat) : Int), ((lp (bl x) / Nat.gcd x.size (lp (bl x)) : Nat) : Int), 0) := by unfold expR; rw [if_neg (not_not_intro h), if_neg h0]
def dlenR (p q : Int) : Int × Int := if p < 1 ∨ q < 1 ∨ 1000000 < p ∨ 1000000 < q then (0, 2) else (p + q - (Nat.gcd p.toNat q.toNat : Nat) - 1, 0)
theorem dlenR_bad {p q : Int} (h : p < 1 ∨ q < 1 ∨ 1000000 < p ∨ 1000000 < q) : dlenR p q = (0, 2) := if_pos h
theorem dlenR_ok {p q : Nat} (hp : 1 ≤ p) (hq : 1 ≤ q) (h1 : p ≤ 1000000) (h2 : q ≤ 1000000) : dlenR p q = ((p : Int) + q - (Nat.gcd p q : Nat) - 1, 0) := by
  unfold dlenR; rw [if_neg (by omega)]; simp
theorem suffix_per (x : ByteArray) (b : Nat) (h : b ≤ x.size) : ((bl (x.extract 0 b)).isSuffixOf (bl x)) = perT (bl x) (x.size - b) := by
  rw [Bool.eq_iff_iff, List.isSuffixOf_iff_suffix, List.suffix_iff_eq_drop, bl_take, perT, beq_iff_eq, List.length_take, bl_len, Nat.min_eq_left h, show x.size - (x.size - b) = b by omega]
  exact eq_comm
theorem rev_take_snoc {α β : Type} (P : List α) (f : α → β) (j : Nat) (h : j < P.length) : (P.reverse.take (j + 1)).map f = (P.reverse.take j).map f ++ [f (P[P.length - 1 - j]'(by omega))] := by
  rw [List.take_succ_eq_append_getElem (by rw [List.length_reverse]; exact h), List.map_append]
  simp [List.getElem_reverse]
theorem size_zero {x : ByteArray} (h : x.size = 0) : x = ⟨#[]⟩ := by
  apply ByteArray.ext
  exact Array.eq_empty_of_size_eq_zero h

end Go.Proofs.YtfipbnognjepkaaDoor

/-! ### Borders -/
namespace Go.Proofs.YtfipbnognjepkaaDoor
set_option linter.unusedVariables false
set_option linter.unusedSimpArgs false
open Go.RowKit

set_option maxRecDepth 100000 in
theorem hasBorder_any (x : ByteArray) (b : Nat) (w : World) (hx : x.size ≤ 60) (hb : b ≤ x.size) :
    Calls Tryd.prog 112 #[.string x, .int .i64 (b : Int)] w fun e w' => e = .returned (.bool (perT (bl x) (x.size - b))) ∧ Below w.heap.size w w' := by
  have hs := suffix_per x b hb
  have HS := Lib.hid hs
  clear hs
  go_enter Tryd.func112, Tryd.ntmps112
  go_wp2_with (go_at_call 161; refine (Tryd.strings_HasSuffix _ _ _ (by omega)).mono ?_; rintro e w1 ⟨rfl, rfl⟩)
  go_ret
  exact ⟨by rw [← HS.out, bl_take]; rfl, Below.refl _ _⟩

set_option maxRecDepth 100000 in
set_option maxHeartbeats 1000000 in
theorem impl_BordersOf (x : ByteArray) (w : World) (sx : x.size ≤ maxLen) :
    Calls Tryd.prog 48 #[.string x] w (RetI (bordersR x).1 (bordersR x).2 w) := by
  obtain ⟨i0, hi, hz0, hz1, hz2⟩ := info_parts infoI64
  by_cases h : IsW x
  · rw [bordersR_ok h]
    have h1 := h.size
    have H := Lib.hid h
    clear h
    go_enter Tryd.func48, Tryd.ntmps48
    go_wp2_with fail
    refine (isWord_yes x _ H.out).mono ?_
    rintro e w1 ⟨rfl, b1⟩
    go_wp2_with fail
    go_loopw [4, 11] (fun v i wr => ∃ k : Nat, k ≤ x.size ∧ i = .int .i64 (k : Int) ∧ OwnI wr w.heap.size v (bordsR (bl x) k) ∧ Below w.heap.size w wr)
      (fun _ i _ => x.size + 1 - (intOf i).toNat)
    case atStart => exact ⟨0, Nat.zero_le _, rfl, OwnI.nil _ _, b1⟩
    case round =>
      obtain ⟨k, hk, rfl, hown, hB⟩ := hrel
      have hbz := hB.size
      have hlen := bordsR_len (bl x) k
      by_cases hp : k < x.size
      · by_cases he : perT (bl x) (x.size - k) = true
        · have hsn := bordsR_hit (bl x) k he
          have HS := Lib.hid hsn
          have HE := Lib.hid he
          clear hsn he
          generalize bordsR (bl x) k = L at hown hlen HS
          go_wp2_with fail
          refine (hasBorder_any x k _ h1 hk).mono ?_
          rw [HE.out]
          rintro e w2 ⟨rfl, b2⟩
          have hown2 := hown.below b2
          have hB2 := hB.then b2
          have hbz2 := hB2.size
          clear hown hB hbz b2
          go_wp2_with (at_builtin; refine wpList_append_own _ rfl _ _ 59 rfl w.heap.size 2 i0 (.int .i64 0) 1 8 Tryd.underlying59 hi hz0 hz1 hz2 rfl (by decide) _ _ _ rfl (hown2.alloc _) ⟨_, 0, none⟩ 1 1 [.int .i64 (k : Int)] rfl rfl (cell_new _ _ _) (by intro u hu; simp at hu; subst hu; rfl) (by unfold maxLen; omega) (by omega) (by simp; omega) ?_; intro v' w3 hown' hgrow _)
          go_roundw
          case rel =>
            refine ⟨k + 1, by omega, by go_num, ?_, ?_⟩
            · unfold OwnI; rw [HS.out, List.length_append, ← map_snoc]; exact hown'
            · exact (hB2.alloc hbz2 _).grown hgrow (by simp; omega) (fun q hq => (hown2.lt q hq).1)
          case measure => simp [intOf]; omega
        · have he2 : perT (bl x) (x.size - k) = false := by simpa using he
          have hsn := bordsR_miss (bl x) k he2
          have HS := Lib.hid hsn
          have HE := Lib.hid he2
          clear hsn he he2
          go_wp2_with fail
          refine (hasBorder_any x k _ h1 hk).mono ?_
          rw [HE.out]
          rintro e w2 ⟨rfl, b2⟩
          go_wp2_with fail
          go_roundw
          case rel => exact ⟨k + 1, by omega, by go_num, by rw [HS.out]; exact hown.below b2, hB.then b2⟩
          case measure => simp [intOf]; omega
      · have hke : k = x.size := by omega
        have HO := Lib.hid hown
        clear hown
        go_wp2
        go_ret2
        rw [← hke]
        exact ⟨_, rfl, HO.out, hB⟩
  · rw [bordersR_bad h]
    have H := Lib.hid h
    clear h
    go_enter Tryd.func48, Tryd.ntmps48
    go_wp2_with fail
    refine (isWord_not x _ sx H.out).mono ?_
    rintro e w1 ⟨rfl, b1⟩
    go_wp2_with fail
    go_ret2
    exact ⟨_, rfl, OwnI.nil _ _, b1⟩

end Go.Proofs.YtfipbnognjepkaaDoor

/-! ### Root -/
namespace Go.Proofs.YtfipbnognjepkaaDoor
set_option linter.unusedVariables false
set_option linter.unusedSimpArgs false
open Go.RowKit

theorem teq_nil {x : ByteArray} (h : x.size = 0) : x.toList.isEmpty = true := by rw [size_zero h, ByteArray.toList_eq]; rfl
theorem teq_not_nil {x : ByteArray} (h : ¬ x.size = 0) : x.toList.isEmpty = false := by
  rw [ByteArray.toList_eq, Bool.eq_false_iff]
  intro e
  have := List.isEmpty_iff.1 e
  exact bl_ne (x := x) (by omega) this
theorem wrap_small {n : Int} (h0 : 0 ≤ n) (h1 : n ≤ 1152921504606846976) : wrap64 n = n := by unfold wrap64; omega
theorem wrap_quo (a b : Nat) (h : a ≤ 1000000) : wrap64 ((a : Int) / (b : Int)) = ((a / b : Nat) : Int) := by
  have h1 : (a : Int) / (b : Int) = ((a / b : Nat) : Int) := by simp
  have h2 := Nat.div_le_self a b
  rw [h1]
  generalize a / b = q at h2 ⊢
  exact wrap_small (by omega) (by omega)
theorem extract_all (x : ByteArray) : x.extract 0 x.size = x := bl_inj (by rw [bl_take, List.take_of_length_le (Nat.le_of_eq (bl_len x))])

end Go.Proofs.YtfipbnognjepkaaDoor

/-! ### RootL -/
namespace Go.Proofs.YtfipbnognjepkaaDoor
set_option linter.unusedVariables false
set_option linter.unusedSimpArgs false
open Go.RowKit

end Go.Proofs.YtfipbnognjepkaaDoor

/-! ### Turn -/
namespace Go.Proofs.YtfipbnognjepkaaDoor
set_option linter.unusedVariables false
open Go.RowKit

set_option maxRecDepth 100000 in
theorem l01In_yes (n lo hi : Int) (w : World) (h1 : lo ≤ n) (h2 : n ≤ hi) :
    Calls Tryd.prog 121 #[.int .i64 n, .int .i64 lo, .int .i64 hi] w fun e w' => e = .returned (.bool true) ∧ Below w.heap.size w w' := by
  go_enter Tryd.func121, Tryd.ntmps121
  go_wp2
  go_ret
  exact ⟨ret_bool (by simp [*]), Below.refl _ _⟩

set_option maxRecDepth 100000 in
theorem l01In_no (n lo hi : Int) (w : World) (h : ¬ (lo ≤ n ∧ n ≤ hi)) :
    Calls Tryd.prog 121 #[.int .i64 n, .int .i64 lo, .int .i64 hi] w fun e w' => e = .returned (.bool false) ∧ Below w.heap.size w w' := by
  by_cases h1 : lo ≤ n
  · have h2 : hi < n := by omega
    clear h
    go_enter Tryd.func121, Tryd.ntmps121
    go_wp2
    go_ret
    exact ⟨ret_bool (by simp; omega), Below.refl _ _⟩
  · have h2 : n < lo := by omega
    clear h h1
    go_enter Tryd.func121, Tryd.ntmps121
    go_wp2
    go_ret
    exact ⟨rfl, Below.refl _ _⟩

end Go.Proofs.YtfipbnognjepkaaDoor

/-! ### Gcd -/
namespace Go.Proofs.YtfipbnognjepkaaDoor
set_option linter.unusedVariables false
set_option linter.unusedSimpArgs false
open Go.RowKit

theorem gcd_step (p q : Nat) : Nat.gcd q (p % q) = Nat.gcd p q := by rw [Nat.gcd_comm p q, Nat.gcd_rec q p, Nat.gcd_comm]

end Go.Proofs.YtfipbnognjepkaaDoor

/-! ### Exp -/
namespace Go.Proofs.YtfipbnognjepkaaDoor
set_option linter.unusedVariables false
set_option linter.unusedSimpArgs false
open Go.RowKit

end Go.Proofs.YtfipbnognjepkaaDoor

/-! ### CftPlain -/
namespace Go.Proofs.YtfipbnognjepkaaDoor
set_option linter.unusedVariables false
set_option linter.unusedSimpArgs false

/-- A repetition of p letters around the place i. -/
def LocOK (l : List UInt8) (i p : Nat) : Prop := ∀ j, j < i → i ≤ j + p → j + p < l.length → l[j]? = l[j + p]?
theorem per_loc {l : List UInt8} {p : Nat} (h : Per l p) (i : Nat) : LocOK l i p := fun j _ _ h3 => h j h3

/-- The letters in the other order. -/
def ng (l : List UInt8) : List UInt8 := l.map fun c => ~~~c
theorem ng_ng (l : List UInt8) : ng (ng l) = l := by
  unfold ng
  rw [List.map_map]
  have : ((fun c : UInt8 => ~~~c) ∘ fun c => ~~~c) = id := by funext c; simp [UInt8.not_not]
  rw [this, List.map_id]
theorem ng_len (l : List UInt8) : (ng l).length = l.length := by unfold ng; rw [List.length_map]
theorem ng_drop (l : List UInt8) (k : Nat) : (ng l).drop k = ng (l.drop k) := by unfold ng; rw [List.map_drop]
theorem ng_append (a b : List UInt8) : ng (a ++ b) = ng a ++ ng b := by unfold ng; rw [List.map_append]
theorem not_lt_not (a b : UInt8) : ~~~a < ~~~b ↔ b < a := by
  rw [UInt8.lt_iff_toNat_lt, UInt8.lt_iff_toNat_lt, UInt8.toNat_not, UInt8.toNat_not]
  have h1 := a.toNat_lt
  have h2 := b.toNat_lt
  have h3 : UInt8.size = 256 := rfl
  omega
theorem ng_get (l : List UInt8) (i : Nat) : (ng l)[i]? = l[i]?.map fun c => ~~~c := by unfold ng; rw [List.getElem?_map]
theorem opt_inj {a b : Option UInt8} (h : a.map (fun c => ~~~c) = b.map fun c => ~~~c) : a = b := by
  cases a with
  | none => cases b with
    | none => rfl
    | some y => cases h
  | some x => cases b with
    | none => cases h
    | some y =>
      have h1 : ~~~x = ~~~y := Option.some.inj h
      have h2 : ~~~(~~~x) = ~~~(~~~y) := by rw [h1]
      rw [UInt8.not_not, UInt8.not_not] at h2
      rw [h2]
theorem ng_per {l : List UInt8} {p : Nat} : Per (ng l) p ↔ Per l p := by
  unfold Per
  simp only [ng_len, ng_get]
  exact ⟨fun h i hi => opt_inj (h i hi), fun h i hi => by rw [h i hi]⟩
theorem ng_loc {l : List UInt8} {i p : Nat} : LocOK (ng l) i p ↔ LocOK l i p := by
  unfold LocOK
  simp only [ng_len, ng_get]
  exact ⟨fun h j h1 h2 h3 => opt_inj (h j h1 h2 h3), fun h j h1 h2 h3 => by rw [h j h1 h2 h3]⟩
theorem ng_isLp {l : List UInt8} {p : Nat} (h : IsLp l p) : IsLp (ng l) p := ⟨h.1, by rw [ng_len]; exact h.2.1, ng_per.2 h.2.2.1, fun q q0 q1 k => h.2.2.2 q q0 q1 (ng_per.1 k)⟩

/-- Less in neither order: the beginning. -/
theorem prefix_of_both : ∀ {a b : List UInt8}, ¬ a < b → ¬ ng a < ng b → b <+: a
  | [], [], _, _ => List.nil_prefix
  | [], y :: b, h, _ => absurd (by simp) h
  | x :: a, [], _, _ => List.nil_prefix
  | x :: a, y :: b, h, k => by
    simp only [ng, List.map_cons] at k
    rw [List.cons_lt_cons_iff] at h k
    rw [not_lt_not] at k
    have e : x = y := UInt8.le_antisymm (UInt8.not_lt.1 fun q => k (.inl q)) (UInt8.not_lt.1 fun q => h (.inl q))
    subst e
    exact List.cons_prefix_cons.2 ⟨rfl, prefix_of_both (fun q => h (.inr ⟨rfl, q⟩)) (fun q => k (.inr ⟨rfl, q⟩))⟩

/-- The rest from u on is a greatest one. -/
def Mx (l : List UInt8) (u : Nat) : Prop := u < l.length ∧ ∀ k, ¬ l.drop u < l.drop k
theorem mx_ex {l : List UInt8} (h : 0 < l.length) : ∃ u, Mx l u := by
  have key : ∀ m, 0 < m → m ≤ l.length → ∃ u, u < m ∧ ∀ k, k < m → ¬ l.drop u < l.drop k := by
    intro m
    induction m with
    | zero => intro h; omega
    | succ m ih =>
      intro _ hm
      by_cases h0 : m = 0
      · subst h0
        exact ⟨0, by omega, fun k hk => by rw [show k = 0 by omega]; exact List.lt_irrefl _⟩
      · obtain ⟨u, hu, hk⟩ := ih (by omega) (by omega)
        by_cases hd : l.drop u < l.drop m
        · refine ⟨m, by omega, fun k hk2 hlt => ?_⟩
          by_cases e : k = m
          · subst e; exact List.lt_irrefl _ hlt
          · exact hk k (by omega) (List.lt_trans hd hlt)
        · refine ⟨u, by omega, fun k hk2 => ?_⟩
          by_cases e : k = m
          · subst e; exact hd
          · exact hk k (by omega)
  obtain ⟨u, hu, hk⟩ := key l.length h (Nat.le_refl _)
  refine ⟨u, hu, fun k hlt => ?_⟩
  by_cases e : k < l.length
  · exact hk k e hlt
  · have e2 : l.drop k = [] := List.drop_eq_nil_of_le (by omega)
    rw [e2] at hlt
    exact List.not_lt_nil _ hlt

/-- A repetition around the head of the greatest rest is longer than what lies ahead. -/
theorem mx_loc {l : List UInt8} {u r : Nat} (h : Mx l u) (h0 : 0 < r) (hr : LocOK l u r) : u < r := by
  refine Nat.lt_of_not_le fun hle => ?_
  obtain ⟨hu, hk⟩ := h
  have hvl : (l.drop u).length = l.length - u := List.length_drop
  by_cases hc : r ≤ l.length - u
  · have e1 : l.drop (u - r) = (l.drop u).take r ++ l.drop u := by
      apply List.ext_getElem?
      intro i
      rw [List.getElem?_drop]
      by_cases hi : i < r
      · rw [List.getElem?_append_left (by rw [List.length_take]; omega), List.getElem?_take_of_lt hi, List.getElem?_drop]
        rw [hr (u - r + i) (by omega) (by omega) (by omega)]
        congr 1
        omega
      · rw [List.getElem?_append_right (by rw [List.length_take]; omega), List.length_take, List.getElem?_drop]
        congr 1
        omega
    have e2 : l.drop u = (l.drop u).take r ++ (l.drop u).drop r := (List.take_append_drop r _).symm
    have k1 := hk (u - r)
    have k2 := hk (u + r)
    rw [← List.drop_drop] at k2
    have k3 : ¬ (l.drop u).drop r < l.drop u := by
      intro q
      apply k1
      rw [e1]
      conv => lhs; rw [e2]
      exact (append_lt_left _).2 q
    have e3 : (l.drop u).drop r = l.drop u := List.le_antisymm (List.not_lt.1 k2) (List.not_lt.1 k3)
    have := congrArg List.length e3
    rw [List.length_drop, hvl] at this
    omega
  · refine hk (u - r) (prefix_lt ?_ (by rw [List.length_drop, List.length_drop]; omega))
    rw [List.prefix_iff_eq_take]
    apply List.ext_getElem?
    intro i
    by_cases hi : i < l.length - u
    · rw [List.getElem?_take_of_lt (by omega), List.getElem?_drop, List.getElem?_drop, hr (u - r + i) (by omega) (by omega) (by omega)]
      congr 1
      omega
    · rw [List.getElem?_eq_none (by omega), List.getElem?_eq_none (by rw [List.length_take]; omega)]

theorem mx_per {l : List UInt8} {u u2 r : Nat} (h : Mx l u) (h2 : Mx (ng l) u2) (hle : u2 ≤ u) (hr : LocOK l u r) (hur : u < r) : Per l r := by
  obtain ⟨hu, hk⟩ := h
  obtain ⟨hu2, hk2⟩ := h2
  intro i hi
  by_cases hc : r ≤ l.length - u
  · have hlow : ∀ j, j < u → l[j]? = l[j + r]? := fun j hj => hr j hj (by omega) (by omega)
    by_cases hiu : i < u
    · exact hlow i hiu
    · have e1 : l.drop (u2 + r) = (l.drop u2).take (u - u2) ++ l.drop (u + r) := by
        apply List.ext_getElem?
        intro j
        rw [List.getElem?_drop]
        by_cases hj : j < u - u2
        · rw [List.getElem?_append_left (by rw [List.length_take, List.length_drop]; omega), List.getElem?_take_of_lt hj, List.getElem?_drop, hlow (u2 + j) (by omega)]
          congr 1
          omega
        · rw [List.getElem?_append_right (by rw [List.length_take, List.length_drop]; omega), List.length_take, List.length_drop, List.getElem?_drop]
          congr 1
          omega
      have e2 : l.drop u2 = (l.drop u2).take (u - u2) ++ l.drop u := by
        have := List.take_append_drop (u - u2) (l.drop u2)
        rw [List.drop_drop, show u2 + (u - u2) = u by omega] at this
        exact this.symm
      have k1 := hk2 (u2 + r)
      rw [ng_drop, ng_drop, e1] at k1
      have k2 : ¬ ng (l.drop u) < ng (l.drop (u + r)) := by
        intro q
        apply k1
        conv => lhs; rw [e2]
        rw [ng_append, ng_append]
        exact (append_lt_left _).2 q
      have hp := prefix_of_both (hk (u + r)) k2
      rw [List.prefix_iff_eq_take] at hp
      have hj : (l.drop (u + r))[i - u]? = ((l.drop u).take (l.drop (u + r)).length)[i - u]? := by rw [← hp]
      rw [List.getElem?_take_of_lt (by rw [List.length_drop]; omega), List.getElem?_drop, List.getElem?_drop] at hj
      rw [show u + (i - u) = i by omega, show u + r + (i - u) = i + r by omega] at hj
      exact hj.symm
  · exact hr i (by omega) (by omega) hi

theorem cft_half {l : List UInt8} {u u2 p : Nat} (hp : IsLp l p) (h1 : 1 < p) (h : Mx l u) (h2 : Mx (ng l) u2) (hle : u2 ≤ u) :
    0 < u ∧ u < p ∧ u < l.length ∧ ∀ r, 0 < r → LocOK l u r → p ≤ r := by
  have hlt := mx_loc h hp.1 (per_loc hp.2.2.1 u)
  refine ⟨Nat.pos_of_ne_zero fun e => ?_, hlt, h.1, fun r r0 hr => Nat.le_of_not_lt fun k => hp.2.2.2 r r0 k (mx_per h h2 hle hr (mx_loc h r0 hr))⟩
  subst e
  obtain rfl : u2 = 0 := by omega
  have k1 := h.2 1
  have k2 := h2.2 1
  rw [ng_drop, ng_drop] at k2
  rw [List.drop_zero] at k1 k2
  have hpre := prefix_of_both k1 k2
  refine hp.2.2.2 1 (by omega) h1 ?_
  rw [← perT_iff, perT, beq_iff_eq]
  have := List.prefix_iff_eq_take.1 hpre
  rw [List.length_drop] at this
  exact this

/-- A word of at least two letters has a critical place, ahead of its least period (or 2). -/
theorem cft {l : List UInt8} {p : Nat} (hl : 2 ≤ l.length) (hp : IsLp l p) :
    ∃ i, 0 < i ∧ i < max p 2 ∧ i < l.length ∧ ∀ r, 0 < r → LocOK l i r → p ≤ r := by
  by_cases h1 : 1 < p
  · obtain ⟨u, hu⟩ := mx_ex (l := l) (by omega)
    obtain ⟨u2, hu2⟩ := mx_ex (l := ng l) (by rw [ng_len]; omega)
    by_cases hle : u2 ≤ u
    · obtain ⟨a, b, c, d⟩ := cft_half hp h1 hu hu2 hle
      exact ⟨u, a, by omega, c, d⟩
    · obtain ⟨a, b, c, d⟩ := cft_half (ng_isLp hp) h1 hu2 (by rw [ng_ng]; exact hu) (by omega)
      rw [ng_len] at c
      exact ⟨u2, a, by omega, c, fun r r0 hr => d r r0 (ng_loc.2 hr)⟩
  · exact ⟨1, by omega, by omega, by omega, fun r r0 _ => by omega⟩

/-! ### The local period. -/
def IsLoc (l : List UInt8) (i p : Nat) : Prop := 0 < p ∧ LocOK l i p ∧ ∀ q, 0 < q → q < p → ¬ LocOK l i q
theorem loc_all (l : List UInt8) (i : Nat) {p : Nat} (h : l.length ≤ p) : LocOK l i p := fun j _ _ h3 => by omega
theorem isLoc_ex (l : List UInt8) (i : Nat) : ∃ p, IsLoc l i p := by
  have key : ∀ n p, 0 < p → n = l.length + 1 - p → (∀ q, 0 < q → q < p → ¬ LocOK l i q) → ∃ p, IsLoc l i p := by
    intro n
    induction n with
    | zero =>
      intro p p0 e hk
      exact ⟨p, p0, loc_all l i (by omega), hk⟩
    | succ n ih =>
      intro p p0 e hk
      by_cases hd : LocOK l i p
      · exact ⟨p, p0, hd, hk⟩
      · refine ih (p + 1) (by omega) (by omega) fun q q0 q1 => ?_
        by_cases e2 : q = p
        · subst e2; exact hd
        · exact hk q q0 (by omega)
  exact key _ 1 (by omega) rfl (fun q _ _ => by omega)
theorem isLoc_uniq {l : List UInt8} {i p q : Nat} (h : IsLoc l i p) (k : IsLoc l i q) : p = q := by
  rcases Nat.lt_trichotomy p q with e | e | e
  · exact absurd h.2.1 (k.2.2 p h.1 e)
  · exact e
  · exact absurd k.2.1 (h.2.2 q k.1 e)
noncomputable def loc (l : List UInt8) (i : Nat) : Nat := (isLoc_ex l i).choose
theorem loc_ok (l : List UInt8) (i : Nat) : IsLoc l i (loc l i) := (isLoc_ex l i).choose_spec
theorem loc_of {l : List UInt8} {i p : Nat} (h : IsLoc l i p) : loc l i = p := isLoc_uniq (loc_ok l i) h
theorem loc_le {l : List UInt8} {i q : Nat} (h0 : 0 < q) (hq : LocOK l i q) : loc l i ≤ q := Nat.le_of_not_lt fun k => (loc_ok l i).2.2 q h0 k hq
theorem loc_pos (l : List UInt8) (i : Nat) : 0 < loc l i := (loc_ok l i).1
theorem loc_le_lp {l : List UInt8} (h : l ≠ []) (i : Nat) : loc l i ≤ lp l := loc_le (lp_ok h).1 (per_loc (lp_ok h).2.2.1 i)
theorem loc_le_len {l : List UInt8} (h : l ≠ []) (i : Nat) : loc l i ≤ l.length := Nat.le_trans (loc_le_lp h i) (lp_ok h).2.1

/-- The letters ahead of j stand in a repetition. -/
def LocUp (l : List UInt8) (i p j : Nat) : Prop := ∀ k, k < j → k < i → i ≤ k + p → k + p < l.length → l[k]? = l[k + p]?
theorem LocUp.start (l : List UInt8) (i p : Nat) : LocUp l i p (i - p) := fun k h1 h2 h3 h4 => by omega
theorem LocUp.succ {l : List UInt8} {i p j : Nat} (h : LocUp l i p j) (e : l[j]? = l[j + p]?) : LocUp l i p (j + 1) := fun k h1 h2 h3 h4 => by
  by_cases c : k = j
  · subst c; exact e
  · exact h k (by omega) h2 h3 h4
theorem LocUp.done {l : List UInt8} {i p j : Nat} (h : LocUp l i p j) (hj : i ≤ j ∨ l.length ≤ j + p) : LocOK l i p := fun k h1 h2 h3 => h k (by omega) h1 h2 h3
theorem loc_miss {l : List UInt8} {i p j : Nat} (h1 : j < i) (h2 : i - p ≤ j) (h3 : j + p < l.length) (e : ¬ l[j]? = l[j + p]?) : ¬ LocOK l i p := fun h => e (h j h1 (by omega) h3)

/-- The critical places ahead of N, from 1 on. -/
noncomputable def critR (l : List UInt8) (N : Nat) : List Int := ((List.range N).filter fun i => decide (loc l (i + 1) = lp l)).map fun (i : Nat) => (i : Int) + 1
theorem critR_zero (l : List UInt8) : critR l 0 = [] := rfl
theorem critR_hit (l : List UInt8) (k : Nat) (h : loc l (k + 1) = lp l) : critR l (k + 1) = critR l k ++ [(k : Int) + 1] := by simp [critR, List.range_succ, h]
theorem critR_miss (l : List UInt8) (k : Nat) (h : ¬ loc l (k + 1) = lp l) : critR l (k + 1) = critR l k := by simp [critR, List.range_succ, h]
theorem critR_len (l : List UInt8) (N : Nat) : (critR l N).length ≤ N := by
  unfold critR; rw [List.length_map]; have := List.length_filter_le (fun i => decide (loc l (i + 1) = lp l)) (List.range N); rwa [List.length_range] at this

end Go.Proofs.YtfipbnognjepkaaDoor

/-! ### Loc -/
namespace Go.Proofs.YtfipbnognjepkaaDoor
set_option linter.unusedVariables false
set_option linter.unusedSimpArgs false
open Go.RowKit

theorem letter_get (x : ByteArray) (j : Nat) (h : j < x.size) : (bl x)[j]? = some (x[j]'h) := List.getElem?_eq_getElem (by rw [bl_len]; exact h)
theorem letter_eq (x : ByteArray) (j k : Nat) (hj : j < x.size) (hk : k < x.size) : (x[j]'hj).toNat = (x[k]'hk).toNat ↔ (bl x)[j]? = (bl x)[k]? := by
  rw [letter_get x j hj, letter_get x k hk, Option.some.injEq]
  exact ⟨fun h => UInt8.toNat_inj.1 h, fun h => by rw [h]⟩

end Go.Proofs.YtfipbnognjepkaaDoor

/-! ### Factor -/
namespace Go.Proofs.YtfipbnognjepkaaDoor
set_option linter.unusedVariables false
open Go.RowKit

theorem slice_mid (x : ByteArray) (n l : Nat) (h : n + l ≤ x.size) (W : World) :
    (Instr.slice 9 (.string x) (some (.int .i64 (n : Int))) (some (.int .i64 ((n : Int) + (l : Int)))) none).run Tryd.prog W = .ok (.string (x.extract n (n + l))) W := by
  have h1 : (0 : Int) ≤ (n : Int) + l := by omega
  have h2 : (n : Int) + l ≤ x.size := by omega
  have h3 : (0 : Int) ≤ (n : Int) := by omega
  have h4 : (n : Int) ≤ (n : Int) + l := by omega
  have h5 : ((n : Int) + l).toNat = n + l := by omega
  have := run_slice_string (P := Tryd.prog) W 9 x .i64 .i64 (n : Int) ((n : Int) + (l : Int)) Tryd.underlying9 h3 h4 h2
  rw [h5] at this
  exact this

set_option maxRecDepth 100000 in
theorem impl_FactorAt (x : ByteArray) (i m : Int) (w : World) (sx : x.size ≤ maxLen) (wi : (Lit.int .i64 i).wf = true) (wm : (Lit.int .i64 m).wf = true) :
    Calls Tryd.prog 27 #[.string x, .int .i64 i, .int .i64 m] w fun e w' => e = .returned (.tuple #[.string (factR x i m).1, .int .i64 (factR x i m).2]) ∧ Below w.heap.size w w' := by
  by_cases h : IsW x
  · have h1 := h.size
    by_cases hk : i < 0 ∨ m < 0 ∨ (x.size : Int) < i ∨ (x.size : Int) - i < m
    · rw [factR_out h hk]
      have H := Lib.hid h
      clear h
      rcases (show i < 0 ∨ (0 ≤ i ∧ m < 0) ∨ (0 ≤ i ∧ 0 ≤ m ∧ (x.size : Int) < i) ∨ (0 ≤ i ∧ 0 ≤ m ∧ i ≤ x.size ∧ (x.size : Int) - i < m) by omega) with hk | ⟨k1, hk⟩ | ⟨k1, k2, hk⟩ | ⟨k1, k2, k3, hk⟩
      all_goals
        go_enter Tryd.func27, Tryd.ntmps27
        go_wp2_with (go_at_call 61; refine (isWord_yes x _ H.out).mono ?_; rintro e w1 ⟨rfl, b1⟩)
        go_ret2
        exact ⟨rfl, b1⟩
    · obtain ⟨n, rfl⟩ := Int.eq_ofNat_of_zero_le (show 0 ≤ i by omega)
      obtain ⟨l, rfl⟩ := Int.eq_ofNat_of_zero_le (show 0 ≤ m by omega)
      have hn : n + l ≤ x.size := by omega
      clear hk
      rw [factR_ok h hn]
      have H := Lib.hid h
      clear h
      have hsl := fun W => slice_mid x n l hn W
      go_enter Tryd.func27, Tryd.ntmps27
      go_wp2_with (first | (go_at_call 61; refine (isWord_yes x _ H.out).mono ?_; rintro e w1 ⟨rfl, b1⟩) | (go_at_call 83; refine (strings_Clone _ _ (by simp; omega)).mono ?_; rintro e w2 ⟨rfl, b2⟩))
      go_ret2
      exact ⟨rfl, b1.then b2⟩
  · rw [factR_bad h]
    have H := Lib.hid h
    clear h
    go_enter Tryd.func27, Tryd.ntmps27
    go_wp2_with (go_at_call 61; refine (isWord_not x _ sx H.out).mono ?_; rintro e w1 ⟨rfl, b1⟩)
    go_ret2
    exact ⟨rfl, b1⟩

end Go.Proofs.YtfipbnognjepkaaDoor

/-! ### Sq -/
namespace Go.Proofs.YtfipbnognjepkaaDoor
set_option linter.unusedVariables false
set_option linter.unusedSimpArgs false
open Go.RowKit

theorem slice_two (x : ByteArray) (a b : Int) (n m : Nat) (ha : a = n) (hb : b = m) (h : n ≤ m) (hm : m ≤ x.size) (W : World) :
    (Instr.slice 9 (.string x) (some (.int .i64 a)) (some (.int .i64 b)) none).run Tryd.prog W = .ok (.string (x.extract n m)) W := by
  subst ha hb
  have := slice_mid x n (m - n) (by omega) W
  rw [show (n : Int) + ((m - n : Nat) : Int) = (m : Int) by omega, show n + (m - n) = m by omega] at this
  exact this

set_option maxRecDepth 100000 in
set_option maxHeartbeats 1000000 in
theorem squareAtEnd_any (x : ByteArray) (w : World) (hx : x.size ≤ 61) :
    Calls Tryd.prog 149 #[.string x] w fun e w' => e = .returned (.int .i64 (sa (bl x) x.size : Int)) ∧ Below w.heap.size w w' := by
  obtain ⟨R, hR⟩ : ∃ R, sa (bl x) x.size = R := ⟨_, rfl⟩
  rw [hR]
  have HR0 : Hid (saF (bl x) x.size 1 (x.size / 2) = R) := Lib.hid hR
  clear hR
  go_enter Tryd.func149, Tryd.ntmps149
  go_wp2
  go_loopg [4] (x.size / 2) (fun g s4 wr => ∃ q : Nat, 0 < q ∧ q + g = x.size / 2 + 1 ∧ s4 = .int .i64 (q : Int) ∧ Below w.heap.size w wr ∧ Hid (saF (bl x) x.size q g = R))
  case atStart => exact ⟨1, by omega, by omega, rfl, Below.refl _ _, HR0⟩
  case round =>
    obtain ⟨q, hq, hg, rfl, hB, HR⟩ := hrel
    clear HR0
    by_cases hp : 2 * q ≤ x.size
    · obtain ⟨g, rfl⟩ : ∃ g, gk = g + 1 := ⟨gk - 1, by omega⟩
      have hs1 := fun W => slice_two x ((x.size : Int) - 2 * (q : Int)) ((x.size : Int) - (q : Int)) (x.size - 2 * q) (x.size - q) (by omega) (by omega) (by omega) (by omega) W
      have hs2 := fun W => slice_from x ((x.size : Int) - (q : Int)) (x.size - q) (by omega) (by omega) W
      have hpt := rep_text x q x.size rfl hp
      by_cases he : repB (bl x) (x.size - 2 * q) q q = true
      · have hteq := teq_yes (hpt.2 he)
        have HV : Hid (R = q) := Lib.hid (by rw [← HR.out, saF_hit he])
        clear he hpt
        go_wp2
        go_quiet (fail)
        go_wp2
        go_ret
        exact ⟨by rw [HV.out]; rfl, hB.drewN _⟩
      · have he2 : repB (bl x) (x.size - 2 * q) q q = false := by simpa using he
        have hteq := teq_no (fun h => he (hpt.1 h))
        have HN : Hid (saF (bl x) x.size (q + 1) g = R) := Lib.hid (by rw [← HR.out, saF_miss he2])
        clear he he2 hpt
        go_wp2
        go_quiet (fail)
        go_wp2
        go_roundg g
        case measure => omega
        case rel => exact ⟨q + 1, by omega, by omega, by go_num, hB.drewN _, HN⟩
    · obtain rfl : gk = 0 := by omega
      have HV : Hid (R = 0) := Lib.hid (by rw [← HR.out]; rfl)
      go_wp2
      go_ret
      exact ⟨by rw [HV.out]; rfl, hB⟩

set_option maxRecDepth 100000 in
set_option maxHeartbeats 1000000 in
theorem firstSquare_any (x : ByteArray) (w : World) (hx : x.size ≤ 60) :
    Calls Tryd.prog 144 #[.string x] w fun e w' => e = .returned (.tuple #[.int .i64 ((fs (bl x)).1 : Int), .int .i64 ((fs (bl x)).2 : Int)]) ∧ Below w.heap.size w w' := by
  obtain ⟨R, hR⟩ : ∃ R, fs (bl x) = R := ⟨_, rfl⟩
  rw [hR]
  have HR0 : Hid (fsF (bl x) 0 (x.size + 1) = R) := Lib.hid hR
  clear hR
  go_enter Tryd.func144, Tryd.ntmps144
  go_wp2
  go_loopg [9] (x.size + 1) (fun g s9 wr => ∃ n : Nat, n + g = x.size + 1 ∧ s9 = .int .i64 (n : Int) ∧ Below w.heap.size w wr ∧ Hid (fsF (bl x) n g = R))
  case atStart => exact ⟨0, by omega, rfl, Below.refl _ _, HR0⟩
  case round =>
    obtain ⟨n, hg, rfl, hB, HR⟩ := hrel
    clear HR0
    by_cases hp : n ≤ x.size
    · obtain ⟨g, rfl⟩ : ∃ g, gk = g + 1 := ⟨gk - 1, by omega⟩
      have hs1 := fun W => slice_to x (n : Int) n rfl hp W
      have z1 : (x.extract 0 n).size = n := by simp; omega
      have CP := fun w => squareAtEnd_any (x.extract 0 n) w (by omega)
      rw [z1, bl_take, sa_take (by rw [bl_len]; exact hp)] at CP
      have CP2 := Lib.hid CP
      clear CP
      generalize x.extract 0 n = y at *
      by_cases he : sa (bl x) n = 0
      · have HN : Hid (fsF (bl x) (n + 1) g = R) := Lib.hid (by rw [← HR.out, fsF_miss he])
        rw [he] at CP2
        clear he
        go_wp2_with fail
        refine (CP2.out _).mono ?_
        rintro e w1 ⟨rfl, b1⟩
        go_wp2_with fail
        go_roundg g
        case measure => omega
        case rel => exact ⟨n + 1, by omega, by go_num, hB.then b1, HN⟩
      · have hsm := sa_some he
        have h2 := hsm.1
        have h3 := hsm.2.1
        have HV : Hid (R = (n - 2 * sa (bl x) n, sa (bl x) n)) := Lib.hid (by rw [← HR.out, fsF_hit he])
        clear he hsm
        generalize sa (bl x) n = q at *
        go_wp2_with fail
        refine (CP2.out _).mono ?_
        rintro e w1 ⟨rfl, b1⟩
        go_wp2_with fail
        go_ret2
        have hsub : ((n - 2 * q : Nat) : Int) = (n : Int) - 2 * (q : Int) := by omega
        exact ⟨by rw [HV.out]; show _ = Ending.returned (.tuple #[.int .i64 ((n - 2 * q : Nat) : Int), .int .i64 (q : Int)]); rw [hsub]; rfl, hB.then b1⟩
    · obtain rfl : gk = 0 := by omega
      have HV : Hid (R = (0, 0)) := Lib.hid (by rw [← HR.out]; rfl)
      go_wp2
      go_ret2
      exact ⟨by rw [HV.out]; rfl, hB⟩

set_option maxRecDepth 100000 in
theorem isSquareFree_any (x : ByteArray) (w : World) (hx : x.size ≤ 60) :
    Calls Tryd.prog 82 #[.string x] w fun e w' => e = .returned (.bool (decide ((fs (bl x)).2 = 0))) ∧ Below w.heap.size w w' := by
  have CP := Lib.hid fun w => firstSquare_any x w hx
  generalize fs (bl x) = R at *
  obtain ⟨R1, R2⟩ := R
  by_cases he : R2 = 0
  · subst he
    go_enter Tryd.func82, Tryd.ntmps82
    go_wp2_with fail
    refine (CP.out _).mono ?_
    rintro e w1 ⟨rfl, b1⟩
    go_wp2_with fail
    go_ret
    exact ⟨rfl, b1⟩
  · have h2 : ¬ (R2 : Int) = 0 := by omega
    have HE := Lib.hid he
    clear he
    go_enter Tryd.func82, Tryd.ntmps82
    go_wp2_with fail
    refine (CP.out _).mono ?_
    rintro e w1 ⟨rfl, b1⟩
    go_wp2_with fail
    go_ret
    exact ⟨ret_bool (by simp [HE.out, h2]), b1⟩

/-! ### The exported ones. -/
set_option maxRecDepth 100000 in
theorem impl_IsSquareFree (x : ByteArray) (w : World) (sx : x.size ≤ maxLen) :
    Calls Tryd.prog 26 #[.string x] w fun e w' => e = .returned (.tuple #[.bool (isfR x).1, .int .i64 (isfR x).2]) ∧ Below w.heap.size w w' := by
  by_cases h : IsW x
  · rw [isfR_ok h]
    have h1 := h.size
    have H := Lib.hid h
    clear h
    go_enter Tryd.func26, Tryd.ntmps26
    go_wp2_with fail
    refine (isWord_yes x _ H.out).mono ?_
    rintro e w1 ⟨rfl, b1⟩
    go_wp2_with fail
    refine (isSquareFree_any x _ h1).mono ?_
    rintro e w2 ⟨rfl, b2⟩
    go_wp2_with fail
    go_ret2
    exact ⟨rfl, b1.then b2⟩
  · rw [isfR_bad h]
    have H := Lib.hid h
    clear h
    go_enter Tryd.func26, Tryd.ntmps26
    go_wp2_with fail
    refine (isWord_not x _ sx H.out).mono ?_
    rintro e w1 ⟨rfl, b1⟩
    go_wp2_with fail
    go_ret2
    exact ⟨rfl, b1⟩

end Go.Proofs.YtfipbnognjepkaaDoor
