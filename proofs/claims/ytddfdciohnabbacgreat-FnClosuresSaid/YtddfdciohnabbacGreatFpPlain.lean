/- Plain facts: the palindromic parts of a word with the least number of parts. -/
import Derived.Test.YtddfdciohnabbacGreatLgPlain
namespace Go.Proofs.YtddfdciohnabbacGreat
set_option linter.unusedVariables false
set_option linter.unusedSimpArgs false
open Classical

/-- The letters from i up to k are a palindrome. -/
def palS (x : ByteArray) (i k : Nat) : Bool := palB (bl (x.extract i k))
theorem palS_one (x : ByteArray) (i : Nat) (h : i < x.size) : palS x i (i + 1) = true := pal_letter x i h
/-- F tells the least number of parts of the rest from each place on. -/
def IsF (x : ByteArray) (i0 : Nat) (F : Nat → Nat) : Prop := F x.size = 0 ∧ ∀ i, i0 ≤ i → i < x.size → (∃ k, i < k ∧ k ≤ x.size ∧ palS x i k = true ∧ F i = F k + 1) ∧ ∀ k, i < k → k ≤ x.size → palS x i k = true → F i ≤ F k + 1
theorem nat_least (P : Nat → Prop) : ∀ v, P v → ∃ u, P u ∧ ∀ t, P t → u ≤ t := by
  intro v
  induction v using Nat.strongRecOn with
  | ind v ih =>
    intro h
    by_cases k : ∃ t, t < v ∧ P t
    · obtain ⟨t, ht, hp⟩ := k
      exact ih t ht hp
    · exact ⟨v, h, fun t ht => Nat.le_of_not_lt fun hc => k ⟨t, hc, ht⟩⟩
theorem isF_ex (x : ByteArray) : ∀ g, g ≤ x.size → ∃ F, IsF x (x.size - g) F
  | 0, _ => ⟨fun _ => 0, rfl, fun i h1 h2 => by omega⟩
  | g + 1, hg => by
    obtain ⟨F, h0, h1⟩ := isF_ex x g (by omega)
    obtain ⟨u, ⟨k, k1, k2, k3, k4⟩, hu⟩ := nat_least (fun v => ∃ k, x.size - (g + 1) < k ∧ k ≤ x.size ∧ palS x (x.size - (g + 1)) k = true ∧ v = F k + 1) _ ⟨x.size - (g + 1) + 1, by omega, by omega, palS_one x _ (by omega), rfl⟩
    refine ⟨fun i => if i = x.size - (g + 1) then u else F i, (if_neg (by omega)).trans h0, fun i hi1 hi2 => ?_⟩
    show (∃ k, i < k ∧ k ≤ x.size ∧ palS x i k = true ∧ (if i = x.size - (g + 1) then u else F i) = (if k = x.size - (g + 1) then u else F k) + 1) ∧ ∀ k, i < k → k ≤ x.size → palS x i k = true → (if i = x.size - (g + 1) then u else F i) ≤ (if k = x.size - (g + 1) then u else F k) + 1
    by_cases e : i = x.size - (g + 1)
    · subst e
      rw [if_pos rfl]
      exact ⟨⟨k, k1, k2, k3, by rw [if_neg (by omega)]; exact k4⟩, fun j j1 j2 j3 => by rw [if_neg (by omega)]; exact hu _ ⟨j, j1, j2, j3, rfl⟩⟩
    · obtain ⟨⟨j, j1, j2, j3, j4⟩, q⟩ := h1 i (by omega) hi2
      rw [if_neg e]
      exact ⟨⟨j, j1, j2, j3, by rw [if_neg (by omega)]; exact j4⟩, fun t t1 t2 t3 => by rw [if_neg (by omega)]; exact q t t1 t2 t3⟩
theorem isF_all (x : ByteArray) : ∃ F, IsF x 0 F := by
  have := isF_ex x x.size (Nat.le_refl _)
  rwa [Nat.sub_self] at this
noncomputable def fF (x : ByteArray) : Nat → Nat := (isF_all x).choose
theorem fF_ok (x : ByteArray) : IsF x 0 (fF x) := (isF_all x).choose_spec
theorem fF_end (x : ByteArray) : fF x x.size = 0 := (fF_ok x).1
theorem fF_hit (x : ByteArray) (i : Nat) (h : i < x.size) : ∃ k, i < k ∧ k ≤ x.size ∧ palS x i k = true ∧ fF x i = fF x k + 1 := ((fF_ok x).2 i (Nat.zero_le _) h).1
theorem fF_le (x : ByteArray) {i k : Nat} (h1 : i < k) (h2 : k ≤ x.size) (h3 : palS x i k = true) : fF x i ≤ fF x k + 1 := ((fF_ok x).2 i (Nat.zero_le _) (by omega)).2 k h1 h2 h3
theorem fF_room (x : ByteArray) : ∀ g, g ≤ x.size → fF x (x.size - g) ≤ g
  | 0, _ => by rw [Nat.sub_zero, fF_end]; exact Nat.le_refl _
  | g + 1, h => by
    have h1 := fF_room x g (by omega)
    have h2 := fF_le x (i := x.size - (g + 1)) (k := x.size - g) (by omega) (by omega) (by
      have := palS_one x (x.size - (g + 1)) (by omega)
      rwa [show x.size - (g + 1) + 1 = x.size - g by omega] at this)
    omega
theorem fF_room' (x : ByteArray) (i : Nat) (h : i ≤ x.size) : fF x i ≤ x.size - i := by
  have := fF_room x (x.size - i) (by omega)
  rwa [show x.size - (x.size - i) = i by omega] at this
/-- The least of those that were looked at. -/
def MnI (x : ByteArray) (i : Nat) (S : Nat → Prop) (v : Nat) : Prop := fF x i ≤ v ∧ ∀ j, i < j → j ≤ x.size → S j → palS x i j = true → v ≤ fF x j + 1
theorem MnI.done {x : ByteArray} {i v : Nat} {S : Nat → Prop} (h : MnI x i S v) (hi : i < x.size) (hS : ∀ j, i < j → j ≤ x.size → palS x i j = true → S j) : v = fF x i := by
  obtain ⟨k, k1, k2, k3, k4⟩ := fF_hit x i hi
  have := h.2 k k1 k2 (hS k k1 k2 k3) k3
  have := h.1
  omega
theorem MnI.step {x : ByteArray} {i v k : Nat} {S S' : Nat → Prop} (h : MnI x i S v) (h1 : i < k) (h2 : k ≤ x.size) (h3 : palS x i k = true) (hS : ∀ j, S' j → S j ∨ j = k) : MnI x i S' (min v (fF x k + 1)) := by
  refine ⟨Nat.le_min.2 ⟨h.1, fF_le x h1 h2 h3⟩, fun j j1 j2 j3 j4 => ?_⟩
  rcases hS j j3 with c | rfl
  · exact Nat.le_trans (Nat.min_le_left _ _) (h.2 j j1 j2 c j4)
  · exact Nat.min_le_right _ _
theorem MnI.skip {x : ByteArray} {i v k : Nat} {S S' : Nat → Prop} (h : MnI x i S v) (h3 : palS x i k = false) (hS : ∀ j, S' j → S j ∨ j = k) : MnI x i S' v := by
  refine ⟨h.1, fun j j1 j2 j3 j4 => ?_⟩
  rcases hS j j3 with c | rfl
  · exact h.2 j j1 j2 c j4
  · rw [h3] at j4; cases j4
/-- The numbers from the place i on; 0 ahead. -/
noncomputable def fL (x : ByteArray) (i : Nat) : List Int := (List.range (x.size + 1)).map fun j => if i ≤ j then (fF x j : Int) else 0
theorem fL_len (x : ByteArray) (i : Nat) : (fL x i).length = x.size + 1 := by simp [fL]
theorem fL_get (x : ByteArray) (i j : Nat) (h : j < (fL x i).length) : (fL x i)[j]'h = if i ≤ j then (fF x j : Int) else 0 := by simp [fL]
theorem fL_start (x : ByteArray) : fL x x.size = List.replicate (x.size + 1) 0 := by
  apply List.ext_getElem (by simp [fL_len])
  intro j h1 h2
  rw [fL_get, List.getElem_replicate]
  rw [fL_len] at h1
  split
  · rw [show j = x.size by omega, fF_end]; rfl
  · rfl
theorem fL_set (x : ByteArray) (i : Nat) (hi : i < x.size) : ((fL x (i + 1)).map (Value.int .i64)).set i (.int .i64 (fF x i : Int)) = (fL x i).map (Value.int .i64) := by
  apply List.ext_getElem
  · simp [fL_len]
  · intro j h1 h2
    rw [List.getElem_set]
    simp only [List.getElem_map, fL_get]
    by_cases e : i = j
    · subst e; rw [if_pos rfl, if_pos (Nat.le_refl _)]
    · rw [if_neg e]
      by_cases h : i + 1 ≤ j
      · rw [if_pos h, if_pos (by omega)]
      · rw [if_neg h, if_neg (by omega)]

/-! ### The parts. -/
noncomputable def nxS (x : ByteArray) (i : Nat) : Nat → Nat
  | 0 => 0
  | k + 1 => if palS x i (k + 1) = true ∧ fF x i = fF x (k + 1) + 1 then k + 1 else nxS x i k
theorem nxS_hit {x : ByteArray} {i k : Nat} (h : palS x i (k + 1) = true ∧ fF x i = fF x (k + 1) + 1) : nxS x i (k + 1) = k + 1 := by rw [nxS, if_pos h]
theorem nxS_miss {x : ByteArray} {i k : Nat} (h : ¬ (palS x i (k + 1) = true ∧ fF x i = fF x (k + 1) + 1)) : nxS x i (k + 1) = nxS x i k := by rw [nxS, if_neg h]
theorem nxS_some {x : ByteArray} {i j : Nat} (hij : i < j) (h : palS x i j = true ∧ fF x i = fF x j + 1) : ∀ k, j ≤ k → i < nxS x i k ∧ nxS x i k ≤ k ∧ palS x i (nxS x i k) = true ∧ fF x i = fF x (nxS x i k) + 1
  | 0, hk => by omega
  | k + 1, hk => by
    by_cases c : palS x i (k + 1) = true ∧ fF x i = fF x (k + 1) + 1
    · rw [nxS_hit c]; exact ⟨by omega, Nat.le_refl _, c.1, c.2⟩
    · rw [nxS_miss c]
      have hjk : j ≤ k := by
        by_cases e : j = k + 1
        · subst e; exact absurd h c
        · omega
      have := nxS_some hij h k hjk
      exact ⟨this.1, by omega, this.2.2⟩
noncomputable def nx (x : ByteArray) (i : Nat) : Nat := nxS x i x.size
theorem nx_ok {x : ByteArray} {i : Nat} (h : i < x.size) : i < nx x i ∧ nx x i ≤ x.size ∧ palS x i (nx x i) = true ∧ fF x i = fF x (nx x i) + 1 := by
  obtain ⟨k, k1, k2, k3, k4⟩ := fF_hit x i h
  exact nxS_some k1 ⟨k3, k4⟩ _ k2
/-- The parts of the rest from the place i on. -/
noncomputable def ptF (x : ByteArray) : Nat → Nat → List ByteArray
  | 0, _ => []
  | f + 1, i => if i < x.size then x.extract i (nx x i) :: ptF x f (nx x i) else []
theorem ptF_more (x : ByteArray) : ∀ (f g i : Nat), x.size - i ≤ f → x.size - i ≤ g → ptF x f i = ptF x g i
  | 0, 0, _, _, _ => rfl
  | 0, g + 1, i, h, _ => by rw [ptF, ptF, if_neg (by omega)]
  | f + 1, 0, i, _, h => by rw [ptF, ptF, if_neg (by omega)]
  | f + 1, g + 1, i, h1, h2 => by
    rw [ptF, ptF]
    by_cases h : i < x.size
    · have := nx_ok h
      rw [if_pos h, if_pos h, ptF_more x f g (nx x i) (by omega) (by omega)]
    · rw [if_neg h, if_neg h]
noncomputable def pt (x : ByteArray) (i : Nat) : List ByteArray := ptF x (x.size - i) i
theorem pt_end {x : ByteArray} {i : Nat} (h : ¬ i < x.size) : pt x i = [] := by unfold pt; rw [show x.size - i = 0 by omega]; rfl
theorem pt_step {x : ByteArray} {i : Nat} (h : i < x.size) : pt x i = x.extract i (nx x i) :: pt x (nx x i) := by
  have := nx_ok h
  unfold pt
  rw [ptF_more x (x.size - i) (x.size - i + 1) i (by omega) (by omega), ptF, if_pos h, ptF_more x (x.size - i) (x.size - nx x i) (nx x i) (by omega) (by omega)]
theorem pt_len (x : ByteArray) : ∀ f i, x.size - i ≤ f → (pt x i).length ≤ x.size - i
  | 0, i, h => by rw [pt_end (by omega)]; exact Nat.zero_le _
  | f + 1, i, h => by
    by_cases c : i < x.size
    · have h1 := nx_ok c
      have h2 := pt_len x f (nx x i) (by omega)
      rw [pt_step c, List.length_cons]
      omega
    · rw [pt_end c]; exact Nat.zero_le _
noncomputable def partsPR (x : ByteArray) : List ByteArray × Int := if ¬ IsW x then ([], 1) else (pt x 0, 0)
theorem partsPR_bad {x : ByteArray} (h : ¬ IsW x) : partsPR x = ([], 1) := if_pos h
theorem partsPR_ok {x : ByteArray} (h : IsW x) : partsPR x = (pt x 0, 0) := by unfold partsPR; rw [if_neg (not_not_intro h)]
theorem partsPR_len (x : ByteArray) : (partsPR x).1.length ≤ 4096 := by
  by_cases h : IsW x
  · rw [partsPR_ok h]
    have h1 := h.size
    have h2 := pt_len x _ 0 (Nat.le_refl _)
    show (pt x 0).length ≤ 4096
    omega
  · rw [partsPR_bad h]; decide
/-- Parts are palindromes with at least one letter, and make the word. -/
theorem pt_pals (x : ByteArray) : ∀ f i, x.size - i ≤ f → ∀ z ∈ pt x i, palB (bl z) = true ∧ 0 < z.size
  | 0, i, h, z, hz => by rw [pt_end (by omega)] at hz; cases hz
  | f + 1, i, h, z, hz => by
    by_cases c : i < x.size
    · have h1 := nx_ok c
      rw [pt_step c] at hz
      rcases List.mem_cons.1 hz with rfl | hz
      · exact ⟨h1.2.2.1, by simp; omega⟩
      · exact pt_pals x f (nx x i) (by omega) z hz
    · rw [pt_end c] at hz; cases hz
def joinL : List ByteArray → List UInt8
  | [] => []
  | z :: zs => bl z ++ joinL zs
theorem pt_join (x : ByteArray) : ∀ f i, x.size - i ≤ f → joinL (pt x i) = (bl x).drop i
  | 0, i, h => by rw [pt_end (by omega), joinL, List.drop_eq_nil_of_le (by rw [bl_len]; omega)]
  | f + 1, i, h => by
    by_cases c : i < x.size
    · have h1 := nx_ok c
      rw [pt_step c, joinL, pt_join x f (nx x i) (by omega), bl_extract]
      have h2 := List.take_append_drop (nx x i - i) ((bl x).drop i)
      rw [List.drop_drop, show i + (nx x i - i) = nx x i by omega] at h2
      exact h2
    · rw [pt_end c, joinL, List.drop_eq_nil_of_le (by rw [bl_len]; omega)]

end Go.Proofs.YtddfdciohnabbacGreat
