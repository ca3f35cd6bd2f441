/- The longest palindrome at the end of a word; whether a word is one: the program and the model. -/
import Derived.Test.YtddfdciohnabbacGreatPal
namespace Go.Proofs.YtddfdciohnabbacGreat
set_option linter.unusedVariables false
set_option linter.unusedSimpArgs false
open Go.RowKit

set_option maxRecDepth 100000 in
set_option maxHeartbeats 1000000 in
theorem l04End_any (x : ByteArray) (w : World) (hx : x.size ≤ 1000) :
    Calls Tryz.prog 53 #[.string x] w fun e w' => e = .returned (.int .i64 (endP (bl x) : Int)) ∧ Below w.heap.size w w' := by
  go_enter Tryz.func53, Tryz.ntmps53
  go_wp2
  go_loopw [3] (fun i wr => ∃ k : Nat, k ≤ x.size ∧ i = .int .i64 (k : Int) ∧ Below w.heap.size w wr ∧ Hid (endP (bl x) = endP ((bl x).drop k)))
    (fun i _ => x.size + 1 - (intOf i).toNat)
  case atStart => exact ⟨0, Nat.zero_le _, rfl, Below.refl _ _, Lib.hid (by rw [List.drop_zero])⟩
  case round =>
    obtain ⟨k, hk, rfl, hB, HP⟩ := hrel
    by_cases hp : k < x.size
    · have hsl := fun W => slice_from x (k : Int) k rfl (by omega) W
      have z1 : (x.extract k x.size).size = x.size - k := by simp
      by_cases he : palB ((bl x).drop k) = true
      · have HE : Hid (endP (bl x) = x.size - k) := Lib.hid (by rw [HP.out, endP_hit he, List.length_drop, bl_len])
        rw [← bl_drop] at he
        have CP : Hid (∀ w, Calls Tryz.prog 32 #[.string (x.extract k x.size)] w fun e w' => e = .returned (.bool true) ∧ Below w.heap.size w w') := Lib.hid fun w => by
          have := l04Is_any (x.extract k x.size) w (by omega)
          rwa [he] at this
        clear he
        generalize x.extract k x.size = y at *
        go_wp2_with fail
        refine (CP.out _).mono ?_
        rintro e w2 ⟨rfl, b2⟩
        go_wp2_with fail
        go_ret
        exact ⟨by rw [HE.out, show ((x.size - k : Nat) : Int) = (x.size : Int) - k by omega]; rfl, hB.then b2⟩
      · have he2 : palB ((bl x).drop k) = false := by simpa using he
        have HN : Hid (endP (bl x) = endP ((bl x).drop (k + 1))) := Lib.hid (by rw [HP.out, endP_miss (by rw [bl_len]; exact hp) he2])
        rw [← bl_drop] at he2
        have CP : Hid (∀ w, Calls Tryz.prog 32 #[.string (x.extract k x.size)] w fun e w' => e = .returned (.bool false) ∧ Below w.heap.size w w') := Lib.hid fun w => by
          have := l04Is_any (x.extract k x.size) w (by omega)
          rwa [he2] at this
        clear he he2
        generalize x.extract k x.size = y at *
        go_wp2_with fail
        refine (CP.out _).mono ?_
        rintro e w2 ⟨rfl, b2⟩
        go_wp2_with fail
        go_roundw
        case rel => exact ⟨k + 1, by omega, by go_num, hB.then b2, HN⟩
        case measure => simp [intOf]; omega
    · have HE : Hid (endP (bl x) = 0) := Lib.hid (by rw [HP.out, List.drop_eq_nil_of_le (by rw [bl_len]; omega)]; rfl)
      go_wp2
      go_ret
      exact ⟨by rw [HE.out]; rfl, hB⟩

set_option maxRecDepth 100000 in
set_option maxHeartbeats 1000000 in
theorem palAtEnd_any (x : ByteArray) (w : World) (hx : x.size ≤ 1000) :
    Calls Tryz.prog 51 #[.string x] w fun e w' => e = .returned (.int .i64 (endP (bl x) : Int)) ∧ Below w.heap.size w w' := by
  go_enter Tryz.func51, Tryz.ntmps51
  go_wp2
  go_loopw [3] (fun i wr => ∃ k : Nat, k ≤ x.size ∧ i = .int .i64 (k : Int) ∧ Below w.heap.size w wr ∧ Hid (endP (bl x) = endP ((bl x).drop k)))
    (fun i _ => x.size + 1 - (intOf i).toNat)
  case atStart => exact ⟨0, Nat.zero_le _, rfl, Below.refl _ _, Lib.hid (by rw [List.drop_zero])⟩
  case round =>
    obtain ⟨k, hk, rfl, hB, HP⟩ := hrel
    have hsl := fun W => slice_from x (k : Int) k rfl (by omega) W
    have z1 : (x.extract k x.size).size = x.size - k := by simp
    by_cases he : palB ((bl x).drop k) = true
    · have HE : Hid (endP (bl x) = x.size - k) := Lib.hid (by rw [HP.out, endP_hit he, List.length_drop, bl_len])
      rw [← bl_drop] at he
      have CP : Hid (∀ w, Calls Tryz.prog 45 #[.string (x.extract k x.size)] w fun e w' => e = .returned (.bool true) ∧ Below w.heap.size w w') := Lib.hid fun w => by
        have := isPal_any (x.extract k x.size) w (by omega)
        rwa [he] at this
      clear he
      generalize x.extract k x.size = y at *
      go_wp2_with fail
      refine (CP.out _).mono ?_
      rintro e w2 ⟨rfl, b2⟩
      go_wp2_with fail
      go_ret
      exact ⟨by rw [HE.out, show ((x.size - k : Nat) : Int) = (x.size : Int) - k by omega]; rfl, hB.then b2⟩
    · have he2 : palB ((bl x).drop k) = false := by simpa using he
      have hp : k < x.size := Nat.lt_of_not_le fun hc => he (by rw [List.drop_eq_nil_of_le (by rw [bl_len]; omega)]; rfl)
      have HN : Hid (endP (bl x) = endP ((bl x).drop (k + 1))) := Lib.hid (by rw [HP.out, endP_miss (by rw [bl_len]; exact hp) he2])
      rw [← bl_drop] at he2
      have CP : Hid (∀ w, Calls Tryz.prog 45 #[.string (x.extract k x.size)] w fun e w' => e = .returned (.bool false) ∧ Below w.heap.size w w') := Lib.hid fun w => by
        have := isPal_any (x.extract k x.size) w (by omega)
        rwa [he2] at this
      clear he he2
      generalize x.extract k x.size = y at *
      go_wp2_with fail
      refine (CP.out _).mono ?_
      rintro e w2 ⟨rfl, b2⟩
      go_wp2_with fail
      go_roundw
      case rel => exact ⟨k + 1, by omega, by go_num, hB.then b2, HN⟩
      case measure => simp [intOf]; omega

set_option maxRecDepth 100000 in
set_option maxHeartbeats 1000000 in
/-- The test of a word by a function of the program's. -/
theorem testWord_ok (x : ByteArray) (b : Bool) (w : World) (h : IsW x) (CF : ∀ W : World, w.heap.size ≤ W.heap.size → Below w.heap.size w W → Calls Tryz.prog 45 #[.string x] W fun e w' => e = .returned (.bool b) ∧ Below W.heap.size W w') :
    Calls Tryz.prog 39 #[.string x, .func (.func 45) #[] #[]] w fun e w' => e = .returned (.tuple #[.bool b, .int .i64 0]) ∧ Below w.heap.size w w' := by
  have H := Lib.hid h
  have HF := Lib.hid CF
  clear h CF
  go_enter Tryz.func39, Tryz.ntmps39
  go_wp2_with fail
  refine (isWord_yes x _ H.out).mono ?_
  rintro e w1 ⟨rfl, b1⟩
  go_wp2_with (go_at_call 45; refine (HF.out _ b1.size b1).mono ?_; rintro e w2 ⟨rfl, b2⟩)
  go_wp2_with fail
  go_ret2
  exact ⟨rfl, b1.then b2⟩

set_option maxRecDepth 100000 in
set_option maxHeartbeats 1000000 in
theorem testWord_bad (x : ByteArray) (w : World) (sx : x.size ≤ maxLen) (h : ¬ IsW x) :
    Calls Tryz.prog 39 #[.string x, .func (.func 45) #[] #[]] w fun e w' => e = .returned (.tuple #[.bool false, .int .i64 1]) ∧ Below w.heap.size w w' := by
  have H := Lib.hid h
  clear h
  go_enter Tryz.func39, Tryz.ntmps39
  go_wp2_with fail
  refine (isWord_not x _ sx H.out).mono ?_
  rintro e w1 ⟨rfl, b1⟩
  go_wp2_with fail
  go_ret2
  exact ⟨rfl, b1⟩

set_option maxRecDepth 100000 in
set_option maxHeartbeats 1000000 in
theorem impl_IsPalindrome (x : ByteArray) (w : World) (sx : x.size ≤ maxLen) :
    Calls Tryz.prog 22 #[.string x] w fun e w' => e = .returned (.tuple #[.bool (ispR x).1, .int .i64 (ispR x).2]) ∧ Below w.heap.size w w' := by
  by_cases h : IsW x
  · rw [ispR_ok h]
    have h1 := h.size
    have H := Lib.hid h
    clear h
    go_enter Tryz.func22, Tryz.ntmps22
    go_wp2_with fail
    refine (testWord_ok x _ _ H.out fun W _ _ => isPal_any x W (by omega)).mono ?_
    rintro e w1 ⟨rfl, b1⟩
    go_wp2_with fail
    go_ret2
    exact ⟨rfl, b1⟩
  · rw [ispR_bad h]
    have H := Lib.hid h
    clear h
    go_enter Tryz.func22, Tryz.ntmps22
    go_wp2_with fail
    refine (testWord_bad x _ sx H.out).mono ?_
    rintro e w1 ⟨rfl, b1⟩
    go_wp2_with fail
    go_ret2
    exact ⟨rfl, b1⟩

end Go.Proofs.YtddfdciohnabbacGreat
