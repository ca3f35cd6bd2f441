/- The functions on words that avoid a pattern: the models. -/
import Derived.Test.YtiojaiddgnbpiaaDoorAvoS
namespace Go.Proofs.YtiojaiddgnbpiaaDoor
set_option linter.unusedVariables false
set_option linter.unusedSimpArgs false
open Go.RowKit

set_option maxRecDepth 100000 in
theorem spec_CountAvoiding (p : ByteArray) (k n : Int) (w : World) (sp : p.size ≤ maxLen) :
    Calls Tryd.prog 22 #[.string p, .int .i64 k, .int .i64 n] w fun e w' => e = .returned (.tuple #[.int .i64 (countAvR p k n).1, .int .i64 (countAvR p k n).2]) ∧ Below w.heap.size w w' := by
  have CZ := Lib.hid (fun W => l10Sizes_any p k 3 n 9 W sp)
  unfold sizR at CZ
  by_cases hp : IsP p
  · rw [if_pos hp] at CZ
    by_cases h : 1 ≤ k ∧ k ≤ 3 ∧ 0 ≤ n ∧ n ≤ 9
    · rw [if_pos h] at CZ
      obtain ⟨a, rfl⟩ := Int.eq_ofNat_of_zero_le (show 0 ≤ k by omega)
      obtain ⟨b, rfl⟩ := Int.eq_ofNat_of_zero_le (show 0 ≤ n by omega)
      rw [countAvR_ok hp (by omega) (by omega) (by omega)]
      have CC := Lib.hid (fun W => l10Count_any p hp a (by omega) b ⟨#[]⟩ W (by show 0 + b ≤ 12; omega))
      clear h hp sp
      go_enter Tryd.func22, Tryd.ntmps22
      go_wp2_with (first | (go_at_call 59; refine (CZ.out _).mono ?_; rintro e w1 ⟨rfl, b1⟩) | (go_at_call 60; refine (CC.out _).mono ?_; rintro e w2 ⟨rfl, b2⟩))
      go_ret2
      exact ⟨rfl, b1.then b2⟩
    · rw [if_neg h] at CZ
      rw [countAvR_out hp h]
      clear h hp sp
      go_enter Tryd.func22, Tryd.ntmps22
      go_wp2_with (go_at_call 59; refine (CZ.out _).mono ?_; rintro e w1 ⟨rfl, b1⟩)
      go_ret2
      exact ⟨rfl, b1⟩
  · rw [if_neg hp] at CZ
    rw [countAvR_bad k n hp]
    clear hp sp
    go_enter Tryd.func22, Tryd.ntmps22
    go_wp2_with (go_at_call 59; refine (CZ.out _).mono ?_; rintro e w1 ⟨rfl, b1⟩)
    go_ret2
    exact ⟨rfl, b1⟩

set_option maxRecDepth 100000 in
theorem spec_FirstAvoiding (p : ByteArray) (k n : Int) (w : World) (sp : p.size ≤ maxLen) :
    Calls Tryd.prog 24 #[.string p, .int .i64 k, .int .i64 n] w fun e w' => e = .returned (.tuple #[.string (firstAvR p k n).1, .int .i64 (firstAvR p k n).2]) ∧ Below w.heap.size w w' := by
  have CZ := Lib.hid (fun W => l10Sizes_any p k 3 n 12 W sp)
  unfold sizR at CZ
  by_cases hp : IsP p
  · rw [if_pos hp] at CZ
    by_cases h : 1 ≤ k ∧ k ≤ 3 ∧ 0 ≤ n ∧ n ≤ 12
    · rw [if_pos h] at CZ
      obtain ⟨a, rfl⟩ := Int.eq_ofNat_of_zero_le (show 0 ≤ k by omega)
      obtain ⟨b, rfl⟩ := Int.eq_ofNat_of_zero_le (show 0 ≤ n by omega)
      rw [firstAvR_ok hp (by omega) (by omega) (by omega)]
      have CC := Lib.hid (fun W => (l10First_any p hp a (by omega) b ⟨#[]⟩ W (by show 0 + b ≤ 12; omega)))
      have e0 : bl (⟨#[]⟩ : ByteArray) = [] := rfl
      rw [e0] at CC
      generalize avW (bl p) a b [] = D at *
      clear h hp sp e0
      cases D with
      | nil =>
        go_enter Tryd.func24, Tryd.ntmps24
        go_wp2_with (first | (go_at_call 59; refine (CZ.out _).mono ?_; rintro e w1 ⟨rfl, b1⟩) | (go_at_call 64; refine (CC.out _).mono ?_; rintro e w2 ⟨rfl, b2⟩; simp only [fstA]))
        go_ret2
        exact ⟨rfl, b1.then b2⟩
      | cons s D =>
        go_enter Tryd.func24, Tryd.ntmps24
        go_wp2_with (first | (go_at_call 59; refine (CZ.out _).mono ?_; rintro e w1 ⟨rfl, b1⟩) | (go_at_call 64; refine (CC.out _).mono ?_; rintro e w2 ⟨rfl, b2⟩; simp only [fstA]))
        go_ret2
        exact ⟨rfl, b1.then b2⟩
    · rw [if_neg h] at CZ
      rw [firstAvR_out hp h]
      clear h hp sp
      go_enter Tryd.func24, Tryd.ntmps24
      go_wp2_with (go_at_call 59; refine (CZ.out _).mono ?_; rintro e w1 ⟨rfl, b1⟩)
      go_ret2
      exact ⟨rfl, b1⟩
  · rw [if_neg hp] at CZ
    rw [firstAvR_bad k n hp]
    clear hp sp
    go_enter Tryd.func24, Tryd.ntmps24
    go_wp2_with (go_at_call 59; refine (CZ.out _).mono ?_; rintro e w1 ⟨rfl, b1⟩)
    go_ret2
    exact ⟨rfl, b1⟩

/-! ### The longest. -/
set_option maxRecDepth 100000 in
set_option maxHeartbeats 2000000 in
theorem spec_LongestAvoiding (p : ByteArray) (k : Int) (w : World) (sp : p.size ≤ maxLen) :
    Calls Tryd.prog 26 #[.string p, .int .i64 k] w fun e w' => e = .returned (.tuple #[.int .i64 (longAvR p k).1, .int .i64 (longAvR p k).2]) ∧ Below w.heap.size w w' := by
  have CZ := Lib.hid (fun W => l10Sizes_any p k 2 0 0 W sp)
  unfold sizR at CZ
  by_cases hp : IsP p
  · rw [if_pos hp] at CZ
    by_cases h : 1 ≤ k ∧ k ≤ 2
    · rw [if_pos ⟨h.1, h.2, Int.le_refl _, Int.le_refl _⟩] at CZ
      obtain ⟨a, rfl⟩ := Int.eq_ofNat_of_zero_le (show 0 ≤ k by omega)
      rw [longAvR_ok hp (by omega) (by omega)]
      have CC := Lib.hid (fun (b : Nat) (hb : b ≤ 12) W => (l10First_any p hp a (by omega) b ⟨#[]⟩ W (by show 0 + b ≤ 12; omega)))
      have e0 : bl (⟨#[]⟩ : ByteArray) = [] := rfl
      rw [e0] at CC
      obtain ⟨R, hR⟩ : ∃ R, lonA (bl p) a 11 0 = R := ⟨_, rfl⟩
      rw [hR]
      have HR := Lib.hid hR
      clear h hp sp e0 hR
      go_enter Tryd.func26, Tryd.ntmps26
      go_wp2_with (go_at_call 59; refine (CZ.out _).mono ?_; rintro e w1 ⟨rfl, b1⟩)
      go_loopg [7] 11 (fun g s7 wr => ∃ c : Nat, c + g = 11 ∧ s7 = .int .i64 ((c : Int) + 1) ∧ Below w.heap.size w wr ∧ Hid (lonA (bl p) a g c = R))
      case atStart => exact ⟨0, rfl, rfl, b1, HR⟩
      case round =>
        obtain ⟨c, hc, rfl, hB, HL⟩ := hrel
        clear HR b1
        by_cases hcp : c < 11
        · obtain ⟨g, rfl⟩ : ∃ g, gk = g + 1 := ⟨gk - 1, by omega⟩
          have CF := CC.out (c + 1) (by omega)
          rw [show ((c + 1 : Nat) : Int) = (c : Int) + 1 by omega] at CF
          have CFF := Lib.hid CF
          clear CF
          have hlo : (c : Int) + 1 ≤ 11 := by omega
          cases he : (fstA (avW (bl p) a (c + 1) [])).2 with
          | true =>
            have HL2 := Lib.hid ((lonA_yes he).symm.trans HL.out)
            rw [he] at CFF
            clear he
            generalize (fstA (avW (bl p) a (c + 1) [])).1 = s at *
            go_wp2_with (go_at_call 64; refine (CFF.out _).mono ?_; rintro e w2 ⟨rfl, b2⟩)
            go_roundg g
            case measure => omega
            case rel => exact ⟨c + 1, by omega, by go_num, hB.then b2, HL2⟩
          | false =>
            have HL2 : R = ((c : Int), 0) := (HL.out.symm.trans (lonA_no he))
            rw [he] at CFF
            subst HL2
            clear he HL
            generalize (fstA (avW (bl p) a (c + 1) [])).1 = s at *
            go_wp2_with (go_at_call 64; refine (CFF.out _).mono ?_; rintro e w2 ⟨rfl, b2⟩)
            go_ret2
            exact ⟨by congr 3 <;> simp, hB.then b2⟩
        · obtain rfl : gk = 0 := by omega
          have HL2 : R = (0, 4) := HL.out.symm
          subst HL2
          clear HL
          have hlo : ¬ (c : Int) + 1 ≤ 11 := by omega
          go_wp2_with fail
          go_ret2
          exact ⟨rfl, hB⟩
    · rw [if_neg (fun e => h ⟨e.1, e.2.1⟩)] at CZ
      rw [longAvR_out hp h]
      clear h hp sp
      go_enter Tryd.func26, Tryd.ntmps26
      go_wp2_with (go_at_call 59; refine (CZ.out _).mono ?_; rintro e w1 ⟨rfl, b1⟩)
      go_ret2
      exact ⟨rfl, b1⟩
  · rw [if_neg hp] at CZ
    rw [longAvR_bad k hp]
    clear hp sp
    go_enter Tryd.func26, Tryd.ntmps26
    go_wp2_with (go_at_call 59; refine (CZ.out _).mono ?_; rintro e w1 ⟨rfl, b1⟩)
    go_ret2
    exact ⟨rfl, b1⟩

end Go.Proofs.YtiojaiddgnbpiaaDoor
