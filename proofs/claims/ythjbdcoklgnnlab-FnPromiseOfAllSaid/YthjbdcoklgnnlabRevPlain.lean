/- Plain facts: a list turned round by exchanging its ends. -/
import Derived.Test.YthjbdcoklgnnlabPlain
namespace Go.Proofs.Ythjbdcoklgnnlab
set_option linter.unusedVariables false
set_option linter.unusedSimpArgs false

/-- The list with its k first and its k last numbers exchanged. -/
def revK (L : List Int) (k : Nat) : List Int := (List.range L.length).map fun j => if j < k ∨ L.length - k ≤ j then L.getD (L.length - 1 - j) 0 else L.getD j 0
theorem revK_len (L : List Int) (k : Nat) : (revK L k).length = L.length := by simp [revK]
theorem revK_get (L : List Int) (k j : Nat) (h : j < (revK L k).length) : (revK L k)[j]'h = if j < k ∨ L.length - k ≤ j then L.getD (L.length - 1 - j) 0 else L.getD j 0 := by simp [revK]
theorem revK_zero (L : List Int) : revK L 0 = L := by
  apply List.ext_getElem (revK_len L 0)
  intro i h1 h2
  rw [revK_get, if_neg (by omega), List.getD_eq_getElem?_getD, List.getElem?_eq_getElem h2]
  rfl
theorem revK_mid (L : List Int) (k : Nat) (h : k < L.length) (h2 : 2 * k + 1 ≤ L.length) : (revK L k)[k]'(by rw [revK_len]; exact h) = L.getD k 0 ∧ (revK L k)[L.length - 1 - k]'(by rw [revK_len]; omega) = L.getD (L.length - 1 - k) 0 := by
  rw [revK_get, revK_get]
  by_cases e : 2 * k + 1 = L.length
  · rw [if_neg (by omega), if_neg (by omega)]
    exact ⟨rfl, rfl⟩
  · rw [if_neg (by omega), if_neg (by omega)]
    exact ⟨rfl, rfl⟩
theorem revK_step (L : List Int) (k : Nat) (h2 : 2 * k + 1 < L.length) : (((revK L k).map (Value.int .i64)).set k (.int .i64 (L.getD (L.length - 1 - k) 0))).set (L.length - 1 - k) (.int .i64 (L.getD k 0)) = (revK L (k + 1)).map (Value.int .i64) := by
  apply List.ext_getElem
  · simp [revK_len]
  · intro i h1 h3
    simp only [List.getElem_set, List.getElem_map, revK_get]
    have hi : i < L.length := by simpa [revK_len] using h3
    by_cases e1 : L.length - 1 - k = i
    · subst e1
      rw [if_pos rfl, if_pos (by omega)]
      congr 2
      omega
    · rw [if_neg e1]
      by_cases e2 : k = i
      · subst e2
        rw [if_pos rfl, if_pos (by omega)]
      · rw [if_neg e2]
        by_cases e3 : i < k ∨ L.length - k ≤ i
        · rw [if_pos e3, if_pos (by omega)]
        · rw [if_neg e3, if_neg (by omega)]
theorem revK_end (L : List Int) (k : Nat) (h : L.length ≤ 2 * k + 1) : revK L k = L.reverse := by
  apply List.ext_getElem (by rw [revK_len, List.length_reverse])
  intro i h1 h2
  rw [revK_get, List.getElem_reverse]
  have hi : i < L.length := by rw [revK_len] at h1; exact h1
  have e : L.getD (L.length - 1 - i) 0 = L[L.length - 1 - i]'(by omega) := by rw [List.getD_eq_getElem?_getD, List.getElem?_eq_getElem (by omega)]; rfl
  by_cases c : i < k ∨ L.length - k ≤ i
  · rw [if_pos c, e]
  · rw [if_neg c, ← e]
    congr 1
    omega

/-- The list with its first k numbers turned by f. -/
def mapK (f : Int → Int) (L : List Int) (k : Nat) : List Int := (L.take k).map f ++ L.drop k
theorem mapK_zero (f : Int → Int) (L : List Int) : mapK f L 0 = L := by simp [mapK]
theorem mapK_len (f : Int → Int) (L : List Int) (k : Nat) (h : k ≤ L.length) : (mapK f L k).length = L.length := by
  simp [mapK]; omega
theorem mapK_end (f : Int → Int) (L : List Int) : mapK f L L.length = L.map f := by simp [mapK]
theorem mapK_get (f : Int → Int) (L : List Int) (k : Nat) (h : k < L.length) : (mapK f L k)[k]? = some (L[k]'h) := by
  unfold mapK
  rw [List.getElem?_append_right (by rw [List.length_map, List.length_take]; omega), List.length_map, List.length_take, List.getElem?_drop, List.getElem?_eq_getElem (by omega)]
  congr 2
  omega
theorem mapK_step (f : Int → Int) (L : List Int) (k : Nat) (h : k < L.length) : ((mapK f L k).map (Value.int .i64)).set k (.int .i64 (f (L[k]'h))) = (mapK f L (k + 1)).map (Value.int .i64) := by
  apply List.ext_getElem
  · simp [mapK]; omega
  · intro i h1 h2
    simp only [List.getElem_set, List.getElem_map]
    have hi : i < L.length := by
      rw [List.length_map, mapK_len f L (k + 1) (by omega)] at h2; exact h2
    have hk : ((L.take k).map f).length = k := by rw [List.length_map, List.length_take]; omega
    have hk1 : ((L.take (k + 1)).map f).length = k + 1 := by rw [List.length_map, List.length_take]; omega
    by_cases e : k = i
    · subst e
      rw [if_pos rfl]
      congr 1
      unfold mapK
      rw [List.getElem_append_left (by omega), List.getElem_map, List.getElem_take]
    · rw [if_neg e]
      congr 1
      unfold mapK
      simp only [List.getElem_append, hk, hk1]
      by_cases h3 : i < k
      · rw [dif_pos h3, dif_pos (by omega), List.getElem_map, List.getElem_map, List.getElem_take, List.getElem_take]
      · rw [dif_neg h3, dif_neg (by omega), List.getElem_drop, List.getElem_drop]
        congr 1
        omega

end Go.Proofs.Ythjbdcoklgnnlab
