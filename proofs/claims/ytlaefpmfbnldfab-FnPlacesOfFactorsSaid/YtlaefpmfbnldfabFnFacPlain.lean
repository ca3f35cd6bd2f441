/- Plain facts: places, factors, scattered words and their counts belong together. -/
import Derived.Test.YtlaefpmfbnldfabPerPlain
import Derived.Test.YtlaefpmfbnldfabPlacesPlain
import Derived.Test.YtlaefpmfbnldfabPutPlain
import Derived.Test.YtlaefpmfbnldfabScatPlain
import Derived.Test.YtlaefpmfbnldfabCscPlain
namespace Go.Proofs.Ytlaefpmfbnldfab
set_option linter.unusedVariables false
set_option linter.unusedSimpArgs false
open Go.RowKit

theorem mem_posOf {x u : ByteArray} {N : Nat} {z : Int} : z ∈ posOf x u (List.range N) ↔ ∃ i : Nat, i < N ∧ x.extract i (i + u.size) = u ∧ z = i := by
  unfold posOf
  rw [List.mem_map]
  constructor
  · rintro ⟨i, hi, rfl⟩
    obtain ⟨h1, h2⟩ := List.mem_filter.1 hi
    exact ⟨i, List.mem_range.1 h1, of_decide_eq_true h2, rfl⟩
  · rintro ⟨i, h1, h2, rfl⟩
    exact ⟨i, List.mem_filter.2 ⟨List.mem_range.2 h1, decide_eq_true h2⟩, rfl⟩

theorem extract_get {x u : ByteArray} {i : Nat} (h : x.extract i (i + u.size) = u) (a : Nat) (ha : a < u.size) : ∃ h2 : i + a < x.size, x[i + a]'h2 = u[a]'ha := by
  have e : (bl u)[a]? = (bl x)[i + a]? := by
    conv => lhs; rw [← h]
    rw [bl_extract, List.getElem?_take_of_lt (by omega), List.getElem?_drop]
  rw [List.getElem?_eq_getElem (show a < (bl u).length from ha)] at e
  obtain ⟨h2, h3⟩ := List.getElem?_eq_some_iff.1 e.symm
  exact ⟨h2, h3⟩
/-- Letters scanned one after another never fall behind a factor that stands there. -/
theorem scat_ge {x u : ByteArray} {i : Nat} (h : x.extract i (i + u.size) = u) : ∀ (f j a : Nat), x.size ≤ j + f → a ≤ u.size → (j - i ≤ a ∨ u.size ≤ a) → scatFrom u x f j a = u.size
  | 0, j, a, hf, ha, hj => by
    show a = u.size
    by_cases hu : u.size = 0
    · omega
    · obtain ⟨h2, _⟩ := extract_get h (u.size - 1) (by omega)
      omega
  | f + 1, j, a, hf, ha, hj => by
    by_cases hjx : j < x.size
    · by_cases hau : a < u.size
      · by_cases e : u[a]'hau = x[j]'hjx
        · rw [scat_hit hjx hau e]
          exact scat_ge h f (j + 1) (a + 1) (by omega) (by omega) (by omega)
        · rw [scat_miss hjx hau e]
          refine scat_ge h f (j + 1) a (by omega) ha ?_
          left
          apply Classical.byContradiction
          intro hn
          obtain ⟨h2, h3⟩ := extract_get h a hau
          apply e
          rw [← h3]
          congr 1
          omega
      · rw [scat_full (by omega)]
        omega
    · rw [scat_end hjx]
      by_cases hu : u.size = 0
      · omega
      · obtain ⟨h2, _⟩ := extract_get h (u.size - 1) (by omega)
        omega
theorem scatN_place {x u : ByteArray} {i : Nat} (h : x.extract i (i + u.size) = u) : scatN u x = u.size := scat_ge h x.size 0 0 (by omega) (Nat.zero_le _) (.inl (by omega))

/-- What the law asks of places, put together. -/
structure FacAns (x u : ByteArray) (P : List Int) (F : List ByteArray) (s : Bool) : Prop where
  size : x.size ≤ 60 ∧ u.size ≤ 60
  places : ∀ z ∈ P, factR x z (u.size : Int) = (u, 0) ∧ 0 ≤ z ∧ z ≤ 60
  fac : factorsR x (u.size : Int) = (F, 0)
  asc : Asc F
  flen : F.length ≤ 100
  plen : P.length ≤ 100
  found : u ∈ F ↔ 0 < P.length
  scat : scatR u x = (s, 0)
  hold : 0 < P.length → s = true

theorem fac_good {x u : ByteArray} (h : (placesR x u).2 = 0) : ∃ F s, FacAns x u (placesR x u).1 F s := by
  by_cases hxu : IsW x ∧ IsW u
  · rw [placesR_ok hxu]
    obtain ⟨hx, hu⟩ := hxu
    have h1 := hx.size
    have h2 := hu.size
    have hl := facK_len x u.size (x.size + 1 - u.size)
    have hp := posOf_len x u (List.range (x.size + 1 - u.size))
    rw [List.length_range] at hp
    refine ⟨facK x u.size (x.size + 1 - u.size), decide (scatN u x = u.size), ⟨h1, h2⟩, ?_, factorsR_ok hx h2, facK_asc _ _ _, by omega, by show (posOf x u _).length ≤ 100; omega, ?_, scatR_ok ⟨hu, hx⟩, ?_⟩
    · intro z hz
      obtain ⟨i, hi, he, rfl⟩ := mem_posOf.1 hz
      refine ⟨?_, by omega, by omega⟩
      rw [factR_ok hx (by omega), he]
    · rw [mem_facK]
      constructor
      · rintro ⟨i, hi, he⟩
        exact List.length_pos_of_mem (mem_posOf.2 ⟨i, hi, he.symm, rfl⟩)
      · intro hpos
        obtain ⟨z, hz⟩ := List.exists_mem_of_length_pos hpos
        obtain ⟨i, hi, he, _⟩ := mem_posOf.1 hz
        exact ⟨i, hi, he.symm⟩
    · intro hpos
      obtain ⟨z, hz⟩ := List.exists_mem_of_length_pos hpos
      obtain ⟨i, hi, he, _⟩ := mem_posOf.1 hz
      exact decide_eq_true (scatN_place he)
  · rw [placesR_bad hxu] at h
    exact absurd h (by decide)

/-! ### Counted just if scattered -/
theorem csStep_getD {x : ByteArray} {c : UInt8} {i : Nat} {L : List Int} (hi : i < x.size) (hl : L.length = x.size + 1) (p : Nat) : (csStep x c i L).getD p 0 = L.getD p 0 + (if p = i + 1 ∧ x[i]'hi = c then L.getD i 0 else 0) := by
  unfold csStep
  rw [dif_pos hi]
  by_cases e : x[i]'hi = c
  · rw [if_pos e, getD_set]
    by_cases hp : p = i + 1
    · subst hp
      rw [if_pos ⟨rfl, by omega⟩, if_pos ⟨rfl, e⟩]
    · rw [if_neg (fun h => hp h.1), if_neg (fun h => hp h.1)]; omega
  · rw [if_neg e, if_neg (fun h => e h.2)]; omega
theorem csInn_getD {x : ByteArray} {c : UInt8} : ∀ (i : Nat) (L : List Int) (p : Nat), i ≤ x.size → L.length = x.size + 1 → (csInn x c i L).getD p 0 = L.getD p 0 + (if h : 0 < p ∧ p ≤ i ∧ p - 1 < x.size then (if x[p - 1]'h.2.2 = c then L.getD (p - 1) 0 else 0) else 0)
  | 0, L, p, hi, hl => by rw [csInn, dif_neg (by omega)]; omega
  | i + 1, L, p, hi, hl => by
    have hi2 : i < x.size := by omega
    rw [csInn, csInn_getD i (csStep x c i L) p (by omega) (by rw [csStep_len]; exact hl), csStep_getD hi2 hl]
    by_cases hp : p = i + 1
    · subst hp
      rw [dif_neg (by omega), dif_pos ⟨by omega, by omega, by omega⟩]
      simp only [Nat.add_sub_cancel, true_and]
      omega
    · rw [if_neg (fun h => hp h.1)]
      by_cases h : 0 < p ∧ p ≤ i ∧ p - 1 < x.size
      · rw [dif_pos h, dif_pos ⟨h.1, by omega, h.2.2⟩, csStep_getD hi2 hl, if_neg (show ¬ (p - 1 = i + 1 ∧ _) from fun q => by omega)]
        simp
      · rw [dif_neg h, dif_neg (fun q => h ⟨q.1, by omega, q.2.2⟩)]
        omega
/-- How many letters of x are met in the first j letters of y. -/
theorem scat_step {x y : ByteArray} : ∀ (f j a : Nat), y.size = j + f → a ≤ x.size → scatFrom x y f j a ≤ x.size
  | 0, _, _, _, h => h
  | f + 1, j, a, hf, ha => by
    have hj : j < y.size := by omega
    by_cases h2 : a < x.size
    · by_cases e : x[a]'h2 = y[j]'hj
      · rw [scat_hit hj h2 e]; exact scat_step f (j + 1) (a + 1) (by omega) h2
      · rw [scat_miss hj h2 e]; exact scat_step f (j + 1) a (by omega) ha
    · rw [scat_over hj h2]; exact scat_step f (j + 1) a (by omega) ha
theorem cs_scat {x y : ByteArray} : ∀ (f j a : Nat), y.size = j + f → a ≤ x.size → (∀ p, p ≤ x.size → (0 < (csK x y j).getD p 0 ↔ p ≤ a)) → (0 < (csK x y y.size).getD x.size 0 ↔ scatFrom x y f j a = x.size)
  | 0, j, a, hf, ha, hi => by
    have e : j = y.size := by omega
    subst e
    rw [hi x.size (Nat.le_refl _)]
    show _ ↔ a = x.size
    omega
  | f + 1, j, a, hf, ha, hi => by
    have hj : j < y.size := by omega
    have hl := csK_len x y j (by omega)
    have hbd := csK_bd x y j (by omega) 0
    have hget := fun p => csInn_getD (c := y[j]'hj) x.size (csK x y j) p (Nat.le_refl _) hl
    have hs := csK_succ x y j hj
    by_cases h2 : a < x.size
    · by_cases e : x[a]'h2 = y[j]'hj
      · rw [scat_hit hj h2 e]
        refine cs_scat f (j + 1) (a + 1) (by omega) (by omega) fun p hp => ?_
        rw [hs, hget p]
        have h3 := hi p hp
        have h4 := (hbd p).1
        by_cases hp0 : 0 < p
        · have h5 := hi (p - 1) (by omega)
          have h6 := (hbd (p - 1)).1
          rw [dif_pos ⟨hp0, hp, by omega⟩]
          by_cases hpa : p = a + 1
          · subst hpa
            have e2 : x[a + 1 - 1]'(by omega) = y[j]'hj := e
            rw [if_pos e2]
            omega
          · split <;> omega
        · rw [dif_neg (fun q => hp0 q.1)]
          omega
      · rw [scat_miss hj h2 e]
        refine cs_scat f (j + 1) a (by omega) ha fun p hp => ?_
        rw [hs, hget p]
        have h3 := hi p hp
        have h4 := (hbd p).1
        by_cases hp0 : 0 < p
        · have h5 := hi (p - 1) (by omega)
          have h6 := (hbd (p - 1)).1
          rw [dif_pos ⟨hp0, hp, by omega⟩]
          by_cases hpa : p = a + 1
          · subst hpa
            have e2 : ¬ x[a + 1 - 1]'(by omega) = y[j]'hj := e
            rw [if_neg e2]
            omega
          · split <;> omega
        · rw [dif_neg (fun q => hp0 q.1)]
          omega
    · rw [scat_over hj h2]
      refine cs_scat f (j + 1) a (by omega) ha fun p hp => ?_
      rw [hs, hget p]
      have h3 := hi p hp
      have h4 := (hbd p).1
      by_cases hp0 : 0 < p
      · have h6 := (hbd (p - 1)).1
        rw [dif_pos ⟨hp0, hp, by omega⟩]
        split <;> omega
      · rw [dif_neg (fun q => hp0 q.1)]
        omega
theorem csc_scat (x y : ByteArray) : 0 < (csK x y y.size).getD x.size 0 ↔ scatN x y = x.size := by
  refine cs_scat y.size 0 0 (by omega) (Nat.zero_le _) fun p hp => ?_
  rw [csK_zero]
  cases p with
  | zero => simp
  | succ p =>
    have : (1 :: List.replicate x.size (0 : Int)).getD (p + 1) 0 = 0 := by
      simp [List.getD_eq_getElem?_getD, List.getElem?_replicate]
      split <;> rfl
    rw [this]
    omega
theorem csc_good (x y : ByteArray) : (cscR x y).2 = 0 → (decide ((cscR x y).1 > 0) = (scatR x y).1) := by
  intro h
  by_cases hxy : IsW x ∧ IsW y
  · by_cases h6 : 6 < x.size
    · rw [cscR_long hxy h6] at h
      exact absurd h (by decide)
    · rw [cscR_ok hxy h6, scatR_ok hxy]
      have := csc_scat x y
      show decide (0 < _) = decide _
      exact decide_eq_decide.2 this
  · rw [cscR_bad hxy] at h
    exact absurd h (by decide)
theorem csc_small (x y : ByteArray) : 0 ≤ (cscR x y).1 := by
  by_cases hxy : IsW x ∧ IsW y
  · by_cases h6 : 6 < x.size
    · rw [cscR_long hxy h6]; decide
    · rw [cscR_ok hxy h6]
      exact (csK_bd x y y.size (Nat.le_refl _) 0 x.size).1
  · rw [cscR_bad hxy]; decide

end Go.Proofs.Ytlaefpmfbnldfab
