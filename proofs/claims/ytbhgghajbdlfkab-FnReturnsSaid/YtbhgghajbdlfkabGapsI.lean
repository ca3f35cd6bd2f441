/- The gaps of a factor: the program's function; the model. -/
import Derived.Test.YtbhgghajbdlfkabGaps
import Derived.Test.YtbhgghajbdlfkabTurn
namespace Go.Proofs.Ytbhgghajbdlfkab
set_option linter.unusedVariables false
set_option linter.unusedSimpArgs false
open Go.RowKit

theorem nil_yesG {x : ByteArray} (h : x.size = 0) : x.toList.isEmpty = true := by
  have : x = ByteArray.empty := by
    cases x with | mk d => simp only [ByteArray.size] at h; rw [Array.eq_empty_of_size_eq_zero h]; rfl
  rw [this, ByteArray.toList_eq]; rfl
theorem nil_noG {x : ByteArray} (h : ¬ x.size = 0) : x.toList.isEmpty = false := by
  rw [ByteArray.toList_eq, List.isEmpty_eq_false_iff]
  intro e
  apply h
  show x.data.size = 0
  rw [← Array.length_toList, e]
  rfl
theorem posOf_range {x u : ByteArray} (h : IsW x) : ∀ z ∈ posOf x u (List.range (x.size + 1 - u.size)), -1 ≤ z ∧ z ≤ 61 := by
  intro z hz
  have h1 := posOf_bound x u _ z hz
  have h2 := h.size
  omega

/-- The places, if there are so many. -/
def retP (x u : ByteArray) (n : Nat) : List Int × Int :=
  if ¬ (IsW x ∧ IsW u) then ([], 1) else if u.size = 0 then ([], 2) else if (posOf x u (List.range (x.size + 1 - u.size))).length < n then ([], 4) else (posOf x u (List.range (x.size + 1 - u.size)), 0)

set_option maxRecDepth 100000 in
set_option maxHeartbeats 1000000 in
theorem returningPlaces_any (x u : ByteArray) (n : Nat) (w : World) (sx : x.size ≤ maxLen) (su : u.size ≤ maxLen) (hn : n ≤ 2) :
    Calls Try.prog 69 #[.string x, .string u, .int .i64 (n : Int)] w (RetI (retP x u n).1 (retP x u n).2 w) := by
  have HC := Lib.hid fun w => impl_PlacesOf x u w sx su
  by_cases h : IsW x ∧ IsW u
  · rw [placesR_ok h] at HC
    have hl := posOf_len60 (u := u) h.1
    by_cases h0 : u.size = 0
    · have hr : retP x u n = ([], 2) := by unfold retP; rw [if_neg (not_not_intro h), if_pos h0]
      rw [hr]
      have he := nil_yesG h0
      clear hr
      generalize posOf x u (List.range (x.size + 1 - u.size)) = P at *
      have H := Lib.hid h
      clear h h0
      go_enter Try.func69, Try.ntmps69
      go_wp2_with (go_at_call 33; refine (HC.out _).mono ?_; rintro e w1 ⟨v, rfl, o1, b1⟩)
      go_ret2
      exact ⟨_, rfl, OwnI.nil _ _, b1⟩
    · have he := nil_noG h0
      by_cases hj : (posOf x u (List.range (x.size + 1 - u.size))).length < n
      · have hr : retP x u n = ([], 4) := by unfold retP; rw [if_neg (not_not_intro h), if_neg h0, if_pos hj]
        rw [hr]
        clear hr
        generalize posOf x u (List.range (x.size + 1 - u.size)) = P at *
        have hji : (P.length : Int) < (n : Int) := by omega
        have H := Lib.hid h
        clear h h0
        go_enter Try.func69, Try.ntmps69
        go_wp2_with (go_at_call 33; refine (HC.out _).mono ?_; rintro e w1 ⟨v, rfl, o1, b1⟩; obtain ⟨aI, cI, rfl⟩ := o1.formG)
        go_ret2
        exact ⟨_, rfl, OwnI.nil _ _, b1⟩
      · have hr : retP x u n = (posOf x u (List.range (x.size + 1 - u.size)), 0) := by unfold retP; rw [if_neg (not_not_intro h), if_neg h0, if_neg hj]
        rw [hr]
        clear hr
        generalize posOf x u (List.range (x.size + 1 - u.size)) = P at *
        have hji : ¬ (P.length : Int) < (n : Int) := by omega
        have H := Lib.hid h
        clear h h0
        go_enter Try.func69, Try.ntmps69
        go_wp2_with (go_at_call 33; refine (HC.out _).mono ?_; rintro e w1 ⟨v, rfl, o1, b1⟩; have HO := Lib.hid o1; obtain ⟨aI, cI, rfl⟩ := o1.formG; clear o1)
        go_ret2
        exact ⟨_, rfl, HO.out, b1⟩
  · have hr : retP x u n = ([], 1) := by unfold retP; rw [if_pos h]
    rw [hr]
    rw [placesR_bad h] at HC
    have H := Lib.hid h
    clear h hr
    go_enter Try.func69, Try.ntmps69
    go_wp2_with (go_at_call 33; refine (HC.out _).mono ?_; rintro e w1 ⟨v, rfl, o1, b1⟩)
    go_ret2
    exact ⟨_, rfl, OwnI.nil _ _, b1⟩

theorem retP_one (x u : ByteArray) : (gapsOf (retP x u 1).1, (retP x u 1).2) = gapsR x u := by
  unfold retP gapsR
  split
  · rfl
  · split
    · rfl
    · split
      · rw [if_pos (by omega)]; rfl
      · rw [if_neg (by omega)]
theorem retP_small (x u : ByteArray) (n : Nat) : (retP x u n).1.length ≤ 100 ∧ ∀ z ∈ (retP x u n).1, -1 ≤ z ∧ z ≤ 61 := by
  unfold retP
  split
  · exact ⟨by decide, by simp⟩
  · rename_i h
    have h := (Classical.not_not.1 h).1
    split
    · exact ⟨by decide, by simp⟩
    · split
      · exact ⟨by decide, by simp⟩
      · exact ⟨by have := posOf_len60 (u := u) h; show (posOf x u _).length ≤ 100; omega, posOf_range h⟩

set_option maxRecDepth 100000 in
theorem impl_GapsOf (x u : ByteArray) (w : World) (sx : x.size ≤ maxLen) (su : u.size ≤ maxLen) :
    Calls Try.prog 30 #[.string x, .string u] w (RetI (gapsR x u).1 (gapsR x u).2 w) := by
  have hs := retP_small x u 1
  have HC := Lib.hid (returningPlaces_any x u 1 w sx su (by decide))
  rw [← retP_one]
  dsimp only
  generalize (retP x u 1).2 = c at *
  generalize (retP x u 1).1 = P at *
  have HS := Lib.hid hs
  clear hs
  go_enter Try.func30, Try.ntmps30
  go_wp2_with fail
  refine HC.out.mono ?_
  rintro e w1 ⟨v, rfl, o1, b1⟩
  go_wp2_with fail
  refine (gapsBetween_any P _ v w1 o1 HS.out.1 HS.out.2).mono ?_
  rintro e w2 ⟨u', rfl, o2, b2⟩
  go_wp2_with fail
  go_ret2
  exact ⟨_, rfl, o2.base b1.size, b1.then b2⟩

end Go.Proofs.Ytbhgghajbdlfkab
