/- Plain facts: words found from their images. -/
import Derived.Test.YtolboinemechpabGrowPlain
namespace Go.Proofs.Ytolboinemechpab
set_option linter.unusedVariables false
set_option linter.unusedSimpArgs false
open Go.RowKit

/-- The image of a number stands at the beginning of a text, and is not empty. -/
def fitB (I : List (List UInt8)) (k : Nat) (t : List UInt8) : Bool := (I.getD k []).isPrefixOf t && !(I.getD k []).isEmpty
/-- The better one of two words: the first one, if the second one is not shorter. -/
def better (b : Option (List UInt8)) (c : List UInt8) : Option (List UInt8) := match b with
  | none => some c
  | some u => if c.length < u.length then some c else some u
/-- The best word of the first n letters with which a text begins, D telling the best words of what is behind the first letters. -/
def bestTo (I : List (List UInt8)) (t : List UInt8) (D : Nat → Option (List UInt8)) : Nat → Option (List UInt8)
  | 0 => none
  | n + 1 => match fitB I n t, D (I.getD n []).length with
    | true, some r => better (bestTo I t D n) (letr n :: r)
    | _, _ => bestTo I t D n
/-- The best word of a text, in f rounds. -/
def back (I : List (List UInt8)) : Nat → List UInt8 → Option (List UInt8)
  | 0, t => if t = [] then some [] else none
  | f + 1, t => if t = [] then some [] else bestTo I t (fun k => if k = 0 then none else back I f (t.drop k)) I.length
theorem back_nil (I : List (List UInt8)) : ∀ f, back I f [] = some []
  | 0 => rfl
  | f + 1 => by rw [back, if_pos rfl]
theorem bestTo_congr (I : List (List UInt8)) (t : List UInt8) (D E : Nat → Option (List UInt8)) : ∀ n, (∀ k, k < n → fitB I k t = true → D (I.getD k []).length = E (I.getD k []).length) → bestTo I t D n = bestTo I t E n
  | 0, _ => rfl
  | n + 1, h => by
    have ih := bestTo_congr I t D E n (fun k hk => h k (by omega))
    rw [bestTo, bestTo, ih]
    cases e : fitB I n t with
    | false => rfl
    | true => rw [h n (by omega) e]
theorem fit_len {I : List (List UInt8)} {k : Nat} {t : List UInt8} (h : fitB I k t = true) : 1 ≤ (I.getD k []).length ∧ (I.getD k []).length ≤ t.length := by
  unfold fitB at h
  rw [Bool.and_eq_true] at h
  have h1 := List.isPrefixOf_iff_prefix.1 h.1
  refine ⟨?_, h1.length_le⟩
  cases e : I.getD k [] with
  | nil => rw [e] at h; simp at h
  | cons c l => simp
theorem back_more (I : List (List UInt8)) : ∀ (f : Nat) (t : List UInt8), t.length ≤ f → ∀ g, f ≤ g → back I g t = back I f t
  | 0, t, h, g, _ => by
    have : t = [] := List.eq_nil_of_length_eq_zero (by omega)
    subst this
    rw [back_nil, back_nil]
  | f + 1, t, h, g, hg => by
    obtain ⟨g, rfl⟩ : ∃ g', g = g' + 1 := ⟨g - 1, by omega⟩
    by_cases e : t = []
    · subst e; rw [back_nil, back_nil]
    · rw [back, back, if_neg e, if_neg e]
      refine bestTo_congr I t _ _ _ fun k hk hf => ?_
      have hl := fit_len hf
      have ht : t.length ≠ 0 := fun h0 => e (List.eq_nil_of_length_eq_zero h0)
      rw [if_neg (by omega), if_neg (by omega)]
      exact back_more I f _ (by rw [List.length_drop]; omega) g (by omega)
/-- The best word of what stands behind a place. -/
def bk (I : List (List UInt8)) (l : List UInt8) (i : Nat) : Option (List UInt8) := back I 60 (l.drop i)
theorem bk_end (I : List (List UInt8)) (l : List UInt8) : bk I l l.length = some [] := by
  unfold bk; rw [List.drop_of_length_le (Nat.le_refl _), back_nil]
/-- What the search at a place finds with the first n letters, the places behind being known. -/
def bkTo (I : List (List UInt8)) (l : List UInt8) (i n : Nat) : Option (List UInt8) := bestTo I (l.drop i) (fun k => if k = 0 then none else bk I l (i + k)) n
theorem bk_step (I : List (List UInt8)) (l : List UInt8) (h60 : l.length ≤ 60) (i : Nat) (hi : i < l.length) : bk I l i = bkTo I l i I.length := by
  unfold bk bkTo
  have e : l.drop i ≠ [] := fun h => by have := congrArg List.length h; rw [List.length_drop] at this; simp at this; omega
  rw [show (60 : Nat) = 59 + 1 from rfl, back, if_neg e]
  refine bestTo_congr I _ _ _ _ fun k hk hf => ?_
  have hl := fit_len hf
  rw [List.length_drop] at hl
  rw [if_neg (by omega), if_neg (by omega), List.drop_drop]
  unfold bk
  exact (back_more I 59 _ (by rw [List.length_drop]; omega) 60 (by omega)).symm
theorem bkTo_zero (I : List (List UInt8)) (l : List UInt8) (i : Nat) : bkTo I l i 0 = none := rfl
theorem bkTo_skip {I : List (List UInt8)} {l : List UInt8} {i n : Nat} (h : fitB I n (l.drop i) = false ∨ bk I l (i + (I.getD n []).length) = none) : bkTo I l i (n + 1) = bkTo I l i n := by
  unfold bkTo
  rw [bestTo]
  rcases h with h | h
  · rw [h]
  · cases e : fitB I n (l.drop i) with
    | false => rfl
    | true =>
      have := fit_len e
      rw [if_neg (by omega), h]
theorem bkTo_take {I : List (List UInt8)} {l : List UInt8} {i n : Nat} {r : List UInt8} (h : fitB I n (l.drop i) = true) (h2 : bk I l (i + (I.getD n []).length) = some r) : bkTo I l i (n + 1) = better (bkTo I l i n) (letr n :: r) := by
  unfold bkTo
  rw [bestTo, h]
  have := fit_len h
  rw [if_neg (by omega), h2]

/-- The best word of a text has the text as its image. -/
theorem bestTo_img {I : List (List UInt8)} (hI : I.length ≤ 5) (t : List UInt8) (D : Nat → Option (List UInt8)) (hD : ∀ k, k < I.length → ∀ r, fitB I k t = true → D (I.getD k []).length = some r → imgOf I r = t.drop (I.getD k []).length ∧ lets I r) :
    ∀ n, n ≤ I.length → ∀ r, bestTo I t D n = some r → imgOf I r = t ∧ lets I r
  | 0, _, r, h => by cases h
  | n + 1, hn, r, h => by
    rw [bestTo] at h
    have ih := bestTo_img hI t D hD n (by omega)
    have main : ∀ q, fitB I n t = true → D (I.getD n []).length = some q → imgOf I (letr n :: q) = t ∧ lets I (letr n :: q) := by
      intro q hf hq
      obtain ⟨h1, h2⟩ := hD n (by omega) q hf hq
      have e1 : imgOf I (letr n :: q) = img I (letr n) ++ imgOf I q := rfl
      have hln := letr_nat (show n < 5 by omega)
      have e2 : img I (letr n) = I.getD n [] := by unfold img; rw [hln, show 97 + n - 97 = n by omega]
      refine ⟨?_, ?_⟩
      · rw [e1, e2, h1]
        unfold fitB at hf
        rw [Bool.and_eq_true] at hf
        obtain ⟨s, hs⟩ := List.isPrefixOf_iff_prefix.1 hf.1
        rw [← hs, List.drop_left]
      · intro c hc
        rcases List.mem_cons.1 hc with rfl | hc
        · rw [hln]; omega
        · exact h2 c hc
    cases e : fitB I n t with
    | false => rw [e] at h; exact ih r h
    | true =>
      cases e2 : D (I.getD n []).length with
      | none => rw [e, e2] at h; exact ih r h
      | some q =>
        rw [e, e2] at h
        dsimp only at h
        cases e3 : bestTo I t D n with
        | none => rw [e3] at h; simp only [better] at h; cases h; exact main q e e2
        | some u =>
          rw [e3] at h
          simp only [better] at h
          split at h
          · cases h; exact main q e e2
          · cases h; exact ih _ e3
theorem back_img {I : List (List UInt8)} (hI : I.length ≤ 5) : ∀ (f : Nat) (t r : List UInt8), back I f t = some r → imgOf I r = t ∧ lets I r
  | 0, t, r, h => by
    rw [back] at h
    split at h
    · rename_i e; cases h; subst e; exact ⟨rfl, fun c hc => by cases hc⟩
    · cases h
  | f + 1, t, r, h => by
    rw [back] at h
    split at h
    · rename_i e; cases h; subst e; exact ⟨rfl, fun c hc => by cases hc⟩
    · refine bestTo_img hI t _ (fun k hk q hf hq => ?_) _ (Nat.le_refl _) r h
      have := fit_len hf
      rw [if_neg (by omega)] at hq
      exact back_img hI f _ q hq

def backR (I : List (List UInt8)) (x : ByteArray) : ByteArray × Int :=
  if ¬ (Mor I ∧ IsW x) then (tE, 1) else if ¬ Few I.length x then (tE, 2) else match bk I (lts x) 0 with
  | none => (tE, 4)
  | some l => (bt l, 0)
theorem backR_bad {I : List (List UInt8)} {x : ByteArray} (h : ¬ (Mor I ∧ IsW x)) : backR I x = (⟨#[]⟩, 1) := if_pos h
theorem backR_out {I : List (List UInt8)} {x : ByteArray} (h : Mor I ∧ IsW x) (hf : ¬ Few I.length x) : backR I x = (⟨#[]⟩, 2) := by
  unfold backR; rw [if_neg (not_not_intro h), if_pos hf]; rfl
theorem backR_none {I : List (List UInt8)} {x : ByteArray} (h : Mor I ∧ IsW x) (hf : Few I.length x) (hb : bk I (lts x) 0 = none) : backR I x = (⟨#[]⟩, 4) := by
  unfold backR; rw [if_neg (not_not_intro h), if_neg (not_not_intro hf), hb]; rfl
theorem backR_some {I : List (List UInt8)} {x : ByteArray} {l : List UInt8} (h : Mor I ∧ IsW x) (hf : Few I.length x) (hb : bk I (lts x) 0 = some l) : backR I x = (bt l, 0) := by
  unfold backR; rw [if_neg (not_not_intro h), if_neg (not_not_intro hf), hb]
end Go.Proofs.Ytolboinemechpab
