/- Plain facts: gaps, return words, lists of factors compared, numbers of factors. -/
import Derived.Test.YtfipbnognjepkaaGreatDoorPutPlain
import Derived.Test.YtfipbnognjepkaaGreatDoorPlacesPlain
import Derived.Test.YtfipbnognjepkaaGreatDoorWordSet
namespace Go.Proofs.YtfipbnognjepkaaGreatDoor
set_option linter.unusedVariables false
set_option linter.unusedSimpArgs false
open Go.RowKit

/-- The different factors of the length m, in order. -/
def facs (x : ByteArray) (m : Nat) : List ByteArray := facK x m (x.size + 1 - m)
theorem facs_len (x : ByteArray) (m : Nat) : (facs x m).length ≤ x.size + 1 - m := facK_len x m _
theorem facs_none {x : ByteArray} {m : Nat} (h : x.size < m) : facs x m = [] := by
  unfold facs
  rw [show x.size + 1 - m = 0 by omega]
  rfl

/-- The differences of neighbours. -/
def gapsOf : List Int → List Int
  | a :: b :: r => (b - a) :: gapsOf (b :: r)
  | _ => []
theorem gapsOf_len : ∀ L : List Int, (gapsOf L).length = L.length - 1
  | [] => rfl
  | [_] => rfl
  | a :: b :: r => by
    rw [gapsOf, List.length_cons, gapsOf_len (b :: r)]
    simp
theorem gapsOf_get : ∀ (L : List Int) (i : Nat) (h : i + 1 < L.length), (gapsOf L)[i]'(by rw [gapsOf_len]; omega) = L[i + 1] - L[i]
  | [], i, h => by simp at h
  | [_], i, h => by simp at h
  | a :: b :: r, 0, h => rfl
  | a :: b :: r, i + 1, h => by
    simp only [gapsOf, List.getElem_cons_succ]
    exact gapsOf_get (b :: r) i (by simpa using h)
theorem gapsOf_take (L : List Int) (i : Nat) (h : i + 1 < L.length) : (gapsOf L).take (i + 1) = (gapsOf L).take i ++ [L[i + 1] - L[i]] := by
  have hl : i < (gapsOf L).length := by rw [gapsOf_len]; omega
  rw [List.take_succ_eq_append_getElem hl, gapsOf_get L i h]

def gapsR (x u : ByteArray) : List Int × Int :=
  if ¬ (IsW x ∧ IsW u) then ([], 1) else if u.size = 0 then ([], 2) else if (posOf x u (List.range (x.size + 1 - u.size))).length = 0 then ([], 4) else (gapsOf (posOf x u (List.range (x.size + 1 - u.size))), 0)
theorem gapsR_bad {x u : ByteArray} (h : ¬ (IsW x ∧ IsW u)) : gapsR x u = ([], 1) := if_pos h
theorem gapsR_empty {x u : ByteArray} (h : IsW x ∧ IsW u) (k : u.size = 0) : gapsR x u = ([], 2) := by unfold gapsR; rw [if_neg (not_not_intro h), if_pos k]
theorem gapsR_none {x u : ByteArray} (h : IsW x ∧ IsW u) (k : ¬ u.size = 0) (j : (posOf x u (List.range (x.size + 1 - u.size))).length = 0) : gapsR x u = ([], 4) := by unfold gapsR; rw [if_neg (not_not_intro h), if_neg k, if_pos j]
theorem gapsR_ok {x u : ByteArray} (h : IsW x ∧ IsW u) (k : ¬ u.size = 0) (j : ¬ (posOf x u (List.range (x.size + 1 - u.size))).length = 0) : gapsR x u = (gapsOf (posOf x u (List.range (x.size + 1 - u.size))), 0) := by
  unfold gapsR; rw [if_neg (not_not_intro h), if_neg k, if_neg j]
theorem posOf_len60 {x u : ByteArray} (h : IsW x) : (posOf x u (List.range (x.size + 1 - u.size))).length ≤ 61 := by
  have h1 := h.size
  have h2 := posOf_len x u (List.range (x.size + 1 - u.size))
  rw [List.length_range] at h2
  omega
theorem gapsR_len (x u : ByteArray) : (gapsR x u).1.length ≤ 4096 := by
  by_cases h : IsW x ∧ IsW u
  · have h1 := posOf_len60 (u := u) h.1
    unfold gapsR
    rw [if_neg (not_not_intro h)]
    split
    · decide
    · split
      · decide
      · show (gapsOf _).length ≤ 4096
        rw [gapsOf_len]
        omega
  · rw [gapsR_bad h]; decide

/-- The return words, one for each gap. -/
def retW (x : ByteArray) : List Int → List ByteArray
  | a :: b :: r => x.extract a.toNat b.toNat :: retW x (b :: r)
  | _ => []
theorem retW_len (x : ByteArray) : ∀ L : List Int, (retW x L).length = L.length - 1
  | [] => rfl
  | [_] => rfl
  | a :: b :: r => by
    rw [retW, List.length_cons, retW_len x (b :: r)]
    simp
theorem retW_get (x : ByteArray) : ∀ (L : List Int) (i : Nat) (h : i + 1 < L.length), (retW x L)[i]'(by rw [retW_len]; omega) = x.extract L[i].toNat L[i + 1].toNat
  | [], i, h => by simp at h
  | [_], i, h => by simp at h
  | a :: b :: r, 0, h => rfl
  | a :: b :: r, i + 1, h => by
    simp only [retW, List.getElem_cons_succ]
    exact retW_get x (b :: r) i (by simpa using h)
theorem retW_take (x : ByteArray) (L : List Int) (i : Nat) (h : i + 1 < L.length) : (retW x L).take (i + 1) = (retW x L).take i ++ [x.extract L[i].toNat L[i + 1].toNat] := by
  have hl : i < (retW x L).length := by rw [retW_len]; omega
  rw [List.take_succ_eq_append_getElem hl, retW_get x L i h]
def retsR (x u : ByteArray) : List ByteArray × Int :=
  if ¬ (IsW x ∧ IsW u) then ([], 1) else if u.size = 0 then ([], 2) else if (posOf x u (List.range (x.size + 1 - u.size))).length < 2 then ([], 4) else (insA (retW x (posOf x u (List.range (x.size + 1 - u.size)))), 0)
theorem retsR_bad {x u : ByteArray} (h : ¬ (IsW x ∧ IsW u)) : retsR x u = ([], 1) := if_pos h
theorem retsR_empty {x u : ByteArray} (h : IsW x ∧ IsW u) (k : u.size = 0) : retsR x u = ([], 2) := by unfold retsR; rw [if_neg (not_not_intro h), if_pos k]
theorem retsR_none {x u : ByteArray} (h : IsW x ∧ IsW u) (k : ¬ u.size = 0) (j : (posOf x u (List.range (x.size + 1 - u.size))).length < 2) : retsR x u = ([], 4) := by unfold retsR; rw [if_neg (not_not_intro h), if_neg k, if_pos j]
theorem retsR_ok {x u : ByteArray} (h : IsW x ∧ IsW u) (k : ¬ u.size = 0) (j : ¬ (posOf x u (List.range (x.size + 1 - u.size))).length < 2) : retsR x u = (insA (retW x (posOf x u (List.range (x.size + 1 - u.size)))), 0) := by
  unfold retsR; rw [if_neg (not_not_intro h), if_neg k, if_neg j]
theorem retsR_len (x u : ByteArray) : (retsR x u).1.length ≤ 4096 := by
  by_cases h : IsW x ∧ IsW u
  · have h1 := posOf_len60 (u := u) h.1
    unfold retsR
    rw [if_neg (not_not_intro h)]
    split
    · decide
    · split
      · decide
      · show (insA _).length ≤ 4096
        have h2 := insA_len (retW x (posOf x u (List.range (x.size + 1 - u.size))))
        rw [retW_len] at h2
        omega
  · rw [retsR_bad h]; decide

/-- Places ascend, and a factor at each lies in the word. -/
theorem posOf_bound (x u : ByteArray) (N : Nat) : ∀ z ∈ posOf x u (List.range N), 0 ≤ z ∧ z < N := by
  intro z hz
  unfold posOf at hz
  obtain ⟨i, hi, rfl⟩ := List.mem_map.1 hz
  have := List.mem_range.1 (List.mem_filter.1 hi).1
  exact ⟨Int.natCast_nonneg _, by exact Int.ofNat_lt.2 this⟩
theorem posOf_asc (x u : ByteArray) (N : Nat) : (posOf x u (List.range N)).Pairwise (· < ·) := by
  unfold posOf
  refine List.pairwise_map.2 ?_
  refine (List.Pairwise.filter _ List.pairwise_lt_range).imp ?_
  intro a b h
  exact Int.ofNat_lt.2 h
theorem posOf_step {x u : ByteArray} {N i : Nat} (h : i + 1 < (posOf x u (List.range N)).length) :
    0 ≤ (posOf x u (List.range N))[i] ∧ (posOf x u (List.range N))[i] < (posOf x u (List.range N))[i + 1] ∧ (posOf x u (List.range N))[i + 1] < N :=
  ⟨(posOf_bound x u N _ (List.getElem_mem _)).1, List.pairwise_iff_getElem.1 (posOf_asc x u N) i (i + 1) (by omega) h (by omega), (posOf_bound x u N _ (List.getElem_mem _)).2⟩

/-- Are the different factors of a length the same? -/
def heR (x u : ByteArray) (m : Int) : Bool × Int :=
  if ¬ (IsW x ∧ IsW u) then (false, 1) else if m < 0 ∨ 60 < m then (false, 2) else (decide (facs x m.toNat = facs u m.toNat), 0)
theorem heR_bad {x u : ByteArray} {m : Int} (h : ¬ (IsW x ∧ IsW u)) : heR x u m = (false, 1) := if_pos h
theorem heR_out {x u : ByteArray} {m : Int} (h : IsW x ∧ IsW u) (k : m < 0 ∨ 60 < m) : heR x u m = (false, 2) := by unfold heR; rw [if_neg (not_not_intro h), if_pos k]
theorem heR_ok {x u : ByteArray} {m : Nat} (h : IsW x ∧ IsW u) (k : m ≤ 60) : heR x u (m : Int) = (decide (facs x m = facs u m), 0) := by
  unfold heR; rw [if_neg (not_not_intro h), if_neg (by omega)]; rfl

/-- The numbers of different factors, by length. -/
def cxs (x : ByteArray) (k : Nat) : List Int := (List.range k).map fun m => ((facs x m).length : Int)
theorem cxs_succ (x : ByteArray) (k : Nat) : cxs x (k + 1) = cxs x k ++ [((facs x k).length : Int)] := by
  unfold cxs; rw [List.range_succ, List.map_append]; rfl
theorem cxs_len (x : ByteArray) (k : Nat) : (cxs x k).length = k := by simp [cxs]
def cxR (x : ByteArray) : List Int × Int := if IsW x then (cxs x (x.size + 1), 0) else ([], 1)
theorem cxR_ok {x : ByteArray} (h : IsW x) : cxR x = (cxs x (x.size + 1), 0) := if_pos h
theorem cxR_bad {x : ByteArray} (h : ¬ IsW x) : cxR x = ([], 1) := if_neg h
theorem cxR_len (x : ByteArray) : (cxR x).1.length ≤ 4096 := by
  by_cases h : IsW x
  · have h1 := h.size
    rw [cxR_ok h]
    show (cxs x (x.size + 1)).length ≤ 4096
    rw [cxs_len]; omega
  · rw [cxR_bad h]; decide
def cfR (x : ByteArray) : Int × Int := if IsW x then ((cxs x (x.size + 1)).sum, 0) else (0, 1)
theorem cfR_ok {x : ByteArray} (h : IsW x) : cfR x = ((cxs x (x.size + 1)).sum, 0) := if_pos h
theorem cfR_bad {x : ByteArray} (h : ¬ IsW x) : cfR x = (0, 1) := if_neg h
theorem sum_take (L : List Int) (i : Nat) (h : i < L.length) : (L.take (i + 1)).sum = (L.take i).sum + L[i] := by
  rw [List.take_succ_eq_append_getElem h, List.sum_append]; simp
theorem sum_bound : ∀ (L : List Int) (b : Int), (∀ z ∈ L, 0 ≤ z ∧ z ≤ b) → 0 ≤ L.sum ∧ L.sum ≤ b * L.length
  | [], b, _ => by simp
  | a :: r, b, h => by
    have h1 := h a (List.mem_cons_self ..)
    have h2 := sum_bound r b (fun z hz => h z (List.mem_cons_of_mem _ hz))
    rw [List.sum_cons, List.length_cons, Int.natCast_add, Int.mul_add]
    simp
    omega
theorem cxs_bound (x : ByteArray) (hx : x.size ≤ 60) (k : Nat) : ∀ z ∈ cxs x k, 0 ≤ z ∧ z ≤ 61 := by
  intro z hz
  unfold cxs at hz
  obtain ⟨m, _, rfl⟩ := List.mem_map.1 hz
  have := facs_len x m
  exact ⟨Int.natCast_nonneg _, by have : (facs x m).length ≤ 61 := by omega
                                  omega⟩

end Go.Proofs.YtfipbnognjepkaaGreatDoor
