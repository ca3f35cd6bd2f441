/- Plain facts: longest common factors: from every pair of places on; the best of them. -/
import Derived.Test.YtbhgghajbdlfkabGapPlain
import Derived.Lib.Slices
namespace Go.Proofs.Ytbhgghajbdlfkab
set_option linter.unusedVariables false
set_option linter.unusedSimpArgs false
open Go.RowKit

/-- How far two words agree from two places on. -/
def lceF (x u : ByteArray) : Nat → Nat → Nat → Nat
  | 0, _, _ => 0
  | n + 1, i, j => if h : i < x.size ∧ j < u.size then (if x[i]'h.1 = u[j]'h.2 then lceF x u n (i + 1) (j + 1) + 1 else 0) else 0
def lce (x u : ByteArray) (i j : Nat) : Nat := lceF x u (x.size - i) i j
theorem lce_end (x u : ByteArray) (i j : Nat) (h : x.size ≤ i ∨ u.size ≤ j) : lce x u i j = 0 := by
  unfold lce
  cases hn : x.size - i with
  | zero => rfl
  | succ n => rw [lceF, dif_neg (by omega)]
theorem lce_hit {x u : ByteArray} {i j : Nat} (hi : i < x.size) (hj : j < u.size) (h : x[i]'hi = u[j]'hj) : lce x u i j = lce x u (i + 1) (j + 1) + 1 := by
  unfold lce
  rw [show x.size - i = (x.size - (i + 1)) + 1 by omega, lceF, dif_pos ⟨hi, hj⟩, if_pos h]
theorem lce_miss {x u : ByteArray} {i j : Nat} (hi : i < x.size) (hj : j < u.size) (h : ¬ x[i]'hi = u[j]'hj) : lce x u i j = 0 := by
  unfold lce
  rw [show x.size - i = (x.size - (i + 1)) + 1 by omega, lceF, dif_pos ⟨hi, hj⟩, if_neg h]
theorem ex_list (x : ByteArray) (i l : Nat) : (x.extract i (i + l)).data.toList = (x.data.toList.drop i).take l := by
  rw [ByteArray.data_extract, Array.toList_extract, List.extract_eq_take_drop, Nat.add_sub_cancel_left]
theorem bytes_extL {a b : ByteArray} (h : a.data.toList = b.data.toList) : a = b := by
  have h3 : a.data = b.data := by rw [← Array.toList_inj]; exact h
  cases a; cases b; simp_all
theorem drop_cons (x : ByteArray) (i : Nat) (h : i < x.size) : x.data.toList.drop i = x[i]'h :: x.data.toList.drop (i + 1) := by
  have hl : i < x.data.toList.length := h
  rw [List.drop_eq_getElem_cons hl]
  rfl
theorem lce_iff (x u : ByteArray) : ∀ (l i j : Nat), i + l ≤ x.size → j + l ≤ u.size → (x.extract i (i + l) = u.extract j (j + l) ↔ l ≤ lce x u i j)
  | 0, i, j, h1, h2 => by
    refine ⟨fun _ => Nat.zero_le _, fun _ => bytes_extL ?_⟩
    rw [ex_list, ex_list, List.take_zero, List.take_zero]
  | l + 1, i, j, h1, h2 => by
    have hi : i < x.size := by omega
    have hj : j < u.size := by omega
    have ih := lce_iff x u l (i + 1) (j + 1) (by omega) (by omega)
    have key : (x.extract i (i + (l + 1)) = u.extract j (j + (l + 1))) ↔ (x[i]'hi = u[j]'hj ∧ x.extract (i + 1) (i + 1 + l) = u.extract (j + 1) (j + 1 + l)) := by
      constructor
      · intro e
        have e2 := congrArg (fun b : ByteArray => b.data.toList) e
        rw [ex_list, ex_list, drop_cons x i hi, drop_cons u j hj, List.take_succ_cons, List.take_succ_cons] at e2
        injection e2 with e3 e4
        exact ⟨e3, bytes_extL (by rw [ex_list, ex_list]; exact e4)⟩
      · rintro ⟨e3, e4⟩
        refine bytes_extL ?_
        have e5 := congrArg (fun b : ByteArray => b.data.toList) e4
        rw [ex_list, ex_list] at e5
        rw [ex_list, ex_list, drop_cons x i hi, drop_cons u j hj, List.take_succ_cons, List.take_succ_cons, e3, e5]
    rw [key]
    by_cases e : x[i]'hi = u[j]'hj
    · rw [lce_hit hi hj e, ih]
      constructor
      · rintro ⟨_, h⟩; omega
      · intro h; exact ⟨e, by omega⟩
    · rw [lce_miss hi hj e]
      constructor
      · rintro ⟨h, _⟩; exact absurd h e
      · intro h; omega
theorem lce_le (x u : ByteArray) : ∀ (n i j : Nat), n = x.size - i → i ≤ x.size → j ≤ u.size → i + lce x u i j ≤ x.size ∧ j + lce x u i j ≤ u.size
  | 0, i, j, hn, hi, hj => by rw [lce_end x u i j (.inl (by omega))]; omega
  | n + 1, i, j, hn, hi, hj => by
    by_cases h2 : j < u.size
    · have h1 : i < x.size := by omega
      by_cases e : x[i]'h1 = u[j]'h2
      · have := lce_le x u n (i + 1) (j + 1) (by omega) (by omega) (by omega)
        rw [lce_hit h1 h2 e]; omega
      · rw [lce_miss h1 h2 e]; omega
    · rw [lce_end x u i j (.inr (by omega))]; omega

/-- The lengths from a place on; the greatest. -/
def lrow (x u : ByteArray) (i : Nat) : List Int := (List.range (u.size + 1)).map fun j => (lce x u i j : Int)
def lmax (x u : ByteArray) (i : Nat) : Nat := (Lib.maxOf (lrow x u i)).toNat
theorem maxOf_allL (L : List Int) : (∀ z ∈ L, z ≤ Lib.maxOf L) ∧ (L ≠ [] → Lib.maxOf L ∈ L) := by
  have key : ∀ (L : List Int) (a : Int), (∀ z ∈ L, z ≤ L.foldl max a) ∧ a ≤ L.foldl max a ∧ (L.foldl max a = a ∨ L.foldl max a ∈ L) := by
    intro L
    induction L with
    | nil => intro a; simp
    | cons b r ih =>
      intro a
      obtain ⟨h1, h2, h3⟩ := ih (max a b)
      rw [List.foldl_cons]
      refine ⟨fun z hz => ?_, by omega, ?_⟩
      · rcases List.mem_cons.1 hz with rfl | hz
        · omega
        · exact h1 z hz
      · rcases h3 with h3 | h3
        · rw [h3]
          rcases Int.le_total a b with k | k
          · right; rw [Int.max_eq_right k]; simp
          · left; rw [Int.max_eq_left k]
        · exact .inr (List.mem_cons_of_mem _ h3)
  unfold Lib.maxOf
  refine ⟨(key L _).1, fun hne => ?_⟩
  cases L with
  | nil => exact absurd rfl hne
  | cons b r =>
    rcases (key (b :: r) ((b :: r).headD 0)).2.2 with h | h
    · rw [h]; simp
    · exact h
theorem lmax_spec (x u : ByteArray) (i : Nat) (hi : i ≤ x.size) : Lib.maxOf (lrow x u i) = (lmax x u i : Int) ∧ (∀ j, j ≤ u.size → lce x u i j ≤ lmax x u i) ∧ (∃ j, j ≤ u.size ∧ lce x u i j = lmax x u i) ∧ i + lmax x u i ≤ x.size := by
  obtain ⟨h1, h2⟩ := maxOf_allL (lrow x u i)
  have hne : lrow x u i ≠ [] := by
    intro e
    have := congrArg List.length e
    simp [lrow] at this
  have hm := h2 hne
  unfold lrow at hm
  obtain ⟨j, hj, he⟩ := List.mem_map.1 hm
  have hj := List.mem_range.1 hj
  change (lce x u i j : Int) = Lib.maxOf (lrow x u i) at he
  have hmx : lmax x u i = lce x u i j := by unfold lmax; rw [← he]; simp
  refine ⟨by rw [hmx, ← he], fun k hk => ?_, ⟨j, by omega, hmx.symm⟩, ?_⟩
  · have := h1 (lce x u i k : Int) (List.mem_map.2 ⟨k, List.mem_range.2 (by omega), rfl⟩)
    rw [hmx]
    omega
  · rw [hmx]; exact (lce_le x u _ i j rfl hi (by omega)).1

/-- Longer, or as long and ahead in the order. -/
def betterB (a b : ByteArray) : Bool := decide (b.size < a.size) || (decide (a.size = b.size) && decide (wlt a b))
theorem better_iff (a b : ByteArray) : betterB a b = true ↔ b.size < a.size ∨ (a.size = b.size ∧ wlt a b) := by
  unfold betterB
  rw [Bool.or_eq_true, Bool.and_eq_true, decide_eq_true_eq, decide_eq_true_eq, decide_eq_true_eq]
theorem better_trans {a b c : ByteArray} (h : betterB a b = true) (k : betterB b c = true) : betterB a c = true := by
  rw [better_iff] at *
  rcases h with h | ⟨h, h'⟩ <;> rcases k with k | ⟨k, k'⟩
  · left; omega
  · left; omega
  · left; omega
  · right; exact ⟨by omega, wlt_trans h' k'⟩
theorem better_irrefl (a : ByteArray) : betterB a a = false := by
  apply Bool.eq_false_iff.2
  intro h
  rcases (better_iff a a).1 h with h | ⟨_, h⟩
  · omega
  · exact wlt_irrefl _ h
/-- Both words have it. -/
def Common (x u f : ByteArray) : Prop := ∃ i j, i + f.size ≤ x.size ∧ j + f.size ≤ u.size ∧ x.extract i (i + f.size) = f ∧ u.extract j (j + f.size) = f
def Best (x u r : ByteArray) : Prop := Common x u r ∧ ∀ f, Common x u f → betterB f r = false
theorem best_unique {x u a b : ByteArray} (h : Best x u a) (k : Best x u b) : a = b := by
  have h1 := k.2 a h.1
  have h2 := h.2 b k.1
  by_cases e : a = b
  · exact e
  · exfalso
    rcases Nat.lt_trichotomy a.size b.size with q | q | q
    · rw [(better_iff b a).2 (.inl q)] at h2; cases h2
    · by_cases w : wlt a b
      · rw [(better_iff a b).2 (.inr ⟨q, w⟩)] at h1; cases h1
      · rw [(better_iff b a).2 (.inr ⟨q.symm, wlt_tri w e⟩)] at h2; cases h2
    · rw [(better_iff a b).2 (.inl q)] at h1; cases h1
def candW (x u : ByteArray) (i : Nat) : ByteArray := x.extract i (i + lmax x u i)
/-- The best of the first so many. -/
def bestW (x u : ByteArray) : Nat → ByteArray
  | 0 => ⟨#[]⟩
  | k + 1 => if betterB (candW x u k) (bestW x u k) = true then candW x u k else bestW x u k
theorem cand_size (x u : ByteArray) (i : Nat) (hi : i ≤ x.size) : (candW x u i).size = lmax x u i := by
  have := (lmax_spec x u i hi).2.2.2
  unfold candW; simp; omega
theorem cand_common (x u : ByteArray) (i : Nat) (hi : i ≤ x.size) : Common x u (candW x u i) := by
  obtain ⟨h1, h2, ⟨j, hj, he⟩, h4⟩ := lmax_spec x u i hi
  have hs := cand_size x u i hi
  have hl := lce_le x u _ i j rfl hi hj
  refine ⟨i, j, by omega, by omega, by rw [hs]; rfl, ?_⟩
  rw [hs]
  exact ((lce_iff x u (lmax x u i) i j h4 (by omega)).2 (by omega)).symm
theorem empty_common (x u : ByteArray) : Common x u ⟨#[]⟩ := by
  refine ⟨0, 0, Nat.zero_le _, Nat.zero_le _, bytes_extL ?_, bytes_extL ?_⟩
  · rw [ex_list]; rfl
  · rw [ex_list]; rfl
theorem bestW_common (x u : ByteArray) : ∀ k, k ≤ x.size + 1 → Common x u (bestW x u k)
  | 0, _ => empty_common x u
  | k + 1, h => by
    rw [bestW]
    split
    · exact cand_common x u k (by omega)
    · exact bestW_common x u k (by omega)
theorem bestW_not (x u : ByteArray) : ∀ k i, i < k → betterB (candW x u i) (bestW x u k) = false
  | k + 1, i, hi => by
    rw [bestW]
    split
    · rename_i hb
      by_cases e : i = k
      · subst e; exact better_irrefl _
      · apply Bool.eq_false_iff.2
        intro h
        have := bestW_not x u k i (by omega)
        rw [better_trans h hb] at this
        cases this
    · rename_i hb
      by_cases e : i = k
      · subst e; exact Bool.eq_false_iff.2 hb
      · exact bestW_not x u k i (by omega)
theorem bestW_best (x u : ByteArray) : Best x u (bestW x u (x.size + 1)) := by
  refine ⟨bestW_common x u _ (Nat.le_refl _), fun f hf => ?_⟩
  obtain ⟨i, j, h1, h2, h3, h4⟩ := hf
  have hle := (lce_iff x u f.size i j h1 h2).1 (by rw [h3, h4])
  have hm := (lmax_spec x u i (by omega)).2.1 j (by omega)
  have hs := cand_size x u i (by omega)
  have hn := bestW_not x u (x.size + 1) i (by omega)
  apply Bool.eq_false_iff.2
  intro hb
  have hc : betterB (candW x u i) (bestW x u (x.size + 1)) = true := by
    rcases (better_iff _ _).1 hb with q | ⟨q, q2⟩
    · exact (better_iff _ _).2 (.inl (by omega))
    · by_cases e : lmax x u i = f.size
      · have : candW x u i = f := by unfold candW; rw [e]; exact h3
        rw [this]
        exact hb
      · exact (better_iff _ _).2 (.inl (by omega))
  rw [hc] at hn
  cases hn
theorem bestW_size (x u : ByteArray) (hx : x.size ≤ 60) (k : Nat) (hk : k ≤ x.size + 1) : (bestW x u k).size ≤ 60 := by
  obtain ⟨i, j, h1, _⟩ := bestW_common x u k hk
  omega
def lcfR (x u : ByteArray) : ByteArray × Int := if IsW x ∧ IsW u then (bestW x u (x.size + 1), 0) else (⟨#[]⟩, 1)
theorem lcfR_ok {x u : ByteArray} (h : IsW x ∧ IsW u) : lcfR x u = (bestW x u (x.size + 1), 0) := if_pos h
theorem lcfR_bad {x u : ByteArray} (h : ¬ (IsW x ∧ IsW u)) : lcfR x u = (⟨#[]⟩, 1) := if_neg h

end Go.Proofs.Ytbhgghajbdlfkab
