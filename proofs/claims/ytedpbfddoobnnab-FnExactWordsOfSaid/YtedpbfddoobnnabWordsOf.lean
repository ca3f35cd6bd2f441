/- All words of a length: the program and the model. -/
import Derived.Test.YtedpbfddoobnnabAll
namespace Go.Proofs.Ytedpbfddoobnnab
set_option linter.unusedVariables false
set_option linter.unusedSimpArgs false
open Go.RowKit

theorem pow_pos' {k j : Nat} (hk : 1 ≤ k) : 0 < k ^ j := Nat.pow_pos (by omega)

set_option maxRecDepth 100000 in
set_option maxHeartbeats 4000000 in
theorem impl_WordsOf (m k : Int) (w : World) (wm : (Lit.int .i64 m).wf = true) (wk : (Lit.int .i64 k).wf = true) :
    Calls Try.prog 23 #[.int .i64 m, .int .i64 k] w (RetS (wordsR m k).1 (wordsR m k).2 w) := by
  by_cases hb : m < 0 ∨ 60 < m ∨ k < 1 ∨ 5 < k
  · rw [wordsR_out hb]
    rcases (show m < 0 ∨ (0 ≤ m ∧ 60 < m) ∨ (0 ≤ m ∧ m ≤ 60 ∧ k < 1) ∨ (0 ≤ m ∧ m ≤ 60 ∧ 1 ≤ k ∧ 5 < k) by omega) with h | ⟨h1, h⟩ | ⟨h1, h2, h⟩ | ⟨h1, h2, h3, h⟩
    all_goals
      clear hb
      go_enter Try.func23, Try.ntmps23
      go_wp2
      go_ret2
      exact ⟨_, rfl, OwnS.nil _ _, Below.refl _ _⟩
  · obtain ⟨m, rfl⟩ := Int.eq_ofNat_of_zero_le (show 0 ≤ m by omega)
    obtain ⟨k, rfl⟩ := Int.eq_ofNat_of_zero_le (show 0 ≤ k by omega)
    have hm : m ≤ 60 := by omega
    have hk1 : 1 ≤ k := by omega
    have hk5 : k ≤ 5 := by omega
    clear hb
    go_enter Try.func23, Try.ntmps23
    go_wp2
    go_loopw [6, 23] (fun v q wr => ∃ j : Nat, j ≤ m ∧ q = .int .i64 j ∧ OwnS wr w.heap.size v (allW k j) ∧ Below w.heap.size w wr ∧ Hid (k ^ j ≤ 256)) (fun _ q _ => m - (intOf q).toNat)
    case atStart =>
      refine ⟨0, Nat.zero_le _, rfl, ?_, Below.new _ _, Lib.hid (by simp)⟩
      exact World.ownsRow_lit w #[.string ⟨#[]⟩] 1 (Nat.le_refl _) (by decide) (by simp)
    case round =>
      obtain ⟨j, hj, rfl, hown, hB, HP⟩ := hrel
      have hL := allW_len k j
      have hsz := allW_size k j
      have HS : Hid (∀ s ∈ allW k j, s.size ≤ 60) := Lib.hid fun s h => by have := hsz s h; omega
      have HN : Hid (nextW k (allW k j) = allW k (j + 1)) := Lib.hid rfl
      have hP := HP.out
      have HJ : Hid (j = m → allW k j = allW k m) := Lib.hid (fun h => by rw [h])
      generalize hA : allW k j = L at *
      have hlen : L.length ≤ 256 := by omega
      have hlen0 : 0 < L.length := by rw [hL]; exact pow_pos' hk1
      obtain ⟨g, cp, rfl, _, _, _, _, _, _⟩ := OwnS.row hown hlen0
      have HO := Lib.hid hown
      have hBz := hB.size
      by_cases hjm : j < m
      · have hmul : (L.length : Int) * (k : Int) = ((k ^ (j + 1) : Nat) : Int) := by rw [Nat.pow_succ, ← hL, Int.natCast_mul]
        have hle : L.length * k ≤ 256 * 5 := Nat.mul_le_mul hlen hk5
        have e0 : (0 : Int) ≤ (L.length : Int) * k := by rw [hmul]; omega
        have e1 : (L.length : Int) * k ≤ 1280 := by rw [← Int.natCast_mul]; omega
        by_cases hq : 256 < k ^ (j + 1)
        · have HL : Hid (wordsR (m : Int) (k : Int) = ([], 3)) := Lib.hid (wordsR_long hm hk1 hk5 (Nat.lt_of_lt_of_le hq (Nat.pow_le_pow_right hk1 (by omega))))
          have e2 : (256 : Int) < (L.length : Int) * k := by rw [hmul]; omega
          clear hmul hle hq hL hP hA hown hsz
          go_wp2_with fail
          go_ret2
          rw [HL.out]
          exact ⟨_, rfl, OwnS.nil _ _, hB⟩
        · have HP2 : Hid (k ^ (j + 1) ≤ 256) := Lib.hid (by omega)
          have e2 : (L.length : Int) * k ≤ 256 := by rw [hmul]; omega
          clear hmul hle hq hL hP hA hown hsz
          go_wp2_with fail
          refine (longer_any _ _ L k _ HO.out hlen hk5 HS.out).mono ?_
          rintro e w2 ⟨v2, rfl, o2, b2⟩
          rw [HN.out] at o2
          have HO2 := Lib.hid (OwnS.base o2 hBz)
          clear o2
          go_wp2_with fail
          go_roundw
          case rel => exact ⟨j + 1, by omega, by go_num, HO2.out, hB.then b2, HP2⟩
          case measure => simp [intOf]; omega
      · have hE : j = m := by omega
        have HE : Hid (wordsR (m : Int) (k : Int) = (L, 0)) := Lib.hid (by rw [wordsR_ok hm hk1 hk5 (by rw [← hE]; omega), HJ.out hE])
        clear hE hL hP hA hown hsz
        go_wp2_with fail
        go_ret2
        rw [HE.out]
        exact ⟨_, rfl, HO.out, hB⟩

set_option maxRecDepth 100000 in
set_option maxHeartbeats 4000000 in
theorem spec_WordsOf (m k : Int) (w : World) (wm : (Lit.int .i64 m).wf = true) (wk : (Lit.int .i64 k).wf = true) :
    Calls Try.prog 22 #[.int .i64 m, .int .i64 k] w (RetS (wordsR m k).1 (wordsR m k).2 w) := by
  by_cases hb : m < 0 ∨ 60 < m ∨ k < 1 ∨ 5 < k
  · rw [wordsR_out hb]
    by_cases hm : 0 ≤ m ∧ m ≤ 60
    · obtain ⟨h1, h2⟩ := hm
      have HB : Hid (¬ (1 ≤ k ∧ k ≤ 5)) := Lib.hid (by omega)
      clear hb
      go_enter Try.func22, Try.ntmps22
      go_wp2_with fail
      refine (l01In_yes' m 0 60 _ h1 h2).mono ?_
      rintro e w1 ⟨rfl, rfl⟩
      go_wp2_with fail
      refine (l01In_no' k 1 5 _ HB.out).mono ?_
      rintro e w1 ⟨rfl, rfl⟩
      go_wp2_with fail
      go_ret2
      exact ⟨_, rfl, OwnS.nil _ _, Below.refl _ _⟩
    · have HM := Lib.hid hm
      clear hb hm
      go_enter Try.func22, Try.ntmps22
      go_wp2_with fail
      refine (l01In_no' m 0 60 _ HM.out).mono ?_
      rintro e w1 ⟨rfl, rfl⟩
      go_wp2_with fail
      go_ret2
      exact ⟨_, rfl, OwnS.nil _ _, Below.refl _ _⟩
  · obtain ⟨m, rfl⟩ := Int.eq_ofNat_of_zero_le (show 0 ≤ m by omega)
    obtain ⟨k, rfl⟩ := Int.eq_ofNat_of_zero_le (show 0 ≤ k by omega)
    have hm : m ≤ 60 := by omega
    have hk1 : 1 ≤ k := by omega
    have hk5 : k ≤ 5 := by omega
    clear hb
    go_enter Try.func22, Try.ntmps22
    go_wp2_with fail
    refine (l01In_yes' _ 0 60 _ (by omega) (by omega)).mono ?_
    rintro e w1 ⟨rfl, rfl⟩
    go_wp2_with fail
    refine (l01In_yes' _ 1 5 _ (by omega) (by omega)).mono ?_
    rintro e w1 ⟨rfl, rfl⟩
    go_wp2_with fail
    go_loopw [6, 7] (fun v q wr => ∃ (i c : Nat), i ≤ m ∧ q = .int .i64 i ∧ v = .int .i64 c ∧ c ≤ 1280 ∧ wr = w ∧ Hid (c = k ^ i)) (fun _ q _ => m - (intOf q).toNat)
    case atStart => exact ⟨0, 1, Nat.zero_le _, rfl, rfl, by omega, rfl, Lib.hid (by simp)⟩
    case round =>
      obtain ⟨i, c, him, rfl, rfl, hc, rfl, HC⟩ := hrel
      by_cases h1 : i < m
      · by_cases h2 : c ≤ 256
        · have hmul : c * k ≤ 256 * 5 := Nat.mul_le_mul h2 hk5
          have hcast : ((c * k : Nat) : Int) = (c : Int) * (k : Int) := Int.natCast_mul _ _
          have e0 : (0 : Int) ≤ (c : Int) * k := by omega
          have e1 : (c : Int) * k ≤ 1280 := by omega
          have hc2 : c * k ≤ 1280 := by omega
          have HC2 : Hid (c * k = k ^ (i + 1)) := Lib.hid (by rw [Nat.pow_succ, HC.out])
          clear hcast hmul
          go_wp2_with fail
          go_roundw
          case rel => exact ⟨i + 1, c * k, by omega, by go_num, by go_num, hc2, by first | rfl | trivial, HC2⟩
          case measure => simp [intOf]; omega
        · have HL : Hid (wordsR (m : Int) (k : Int) = ([], 3)) := Lib.hid (wordsR_long hm hk1 hk5 (Nat.lt_of_lt_of_le (by rw [← HC.out]; omega) (Nat.pow_le_pow_right hk1 (by omega : i ≤ m))))
          have hd : decide ((c : Int) ≤ 256) = false := by simp; omega
          go_wp2_with fail
          go_ret2
          rw [HL.out]
          exact ⟨_, rfl, OwnS.nil _ _, Below.refl _ _⟩
      · have hE : i = m := by omega
        have hd1 : decide ((i : Int) < (m : Int)) = false := by simp; omega
        by_cases h2 : c ≤ 256
        · have HP : Hid (k ^ m ≤ 256) := Lib.hid (by rw [← hE, ← HC.out]; exact h2)
          have HE : Hid (wordsR (m : Int) (k : Int) = (allW k m, 0)) := Lib.hid (wordsR_ok hm hk1 hk5 (by have := HP.out; omega))
          clear hE
          go_wp2_with fail
          refine (l01All_any m k _ hm hk1 hk5 HP.out).mono ?_
          rintro e w2 ⟨v2, rfl, o2, b2⟩
          go_wp2_with fail
          go_ret2
          rw [HE.out]
          exact ⟨_, rfl, o2, b2⟩
        · have HL : Hid (wordsR (m : Int) (k : Int) = ([], 3)) := Lib.hid (wordsR_long hm hk1 hk5 (by rw [← hE, ← HC.out]; omega))
          clear hE
          go_wp2_with fail
          go_ret2
          rw [HL.out]
          exact ⟨_, rfl, OwnS.nil _ _, Below.refl _ _⟩

end Go.Proofs.Ytedpbfddoobnnab
