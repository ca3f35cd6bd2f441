/- The first of the longest antipowers: the program. -/
import Derived.Test.YtbhgghajbdlfkabAnti
namespace Go.Proofs.Ytbhgghajbdlfkab
set_option linter.unusedVariables false
set_option linter.unusedSimpArgs false
open Go.RowKit

set_option maxRecDepth 100000 in
set_option maxHeartbeats 1000000 in
theorem impl_LongestAntipower_ok (x : ByteArray) (m : Nat) (w : World) (h : IsW x) (hm : 1 ≤ m) (hm2 : m ≤ 60) (hmx : m ≤ x.size) :
    Calls Try.prog 40 #[.string x, .int .i64 (m : Int)] w fun e w' => e = .returned (.tuple #[.int .i64 ((antiB x m (x.size + 1 - m)).1 : Int), .int .i64 ((antiB x m (x.size + 1 - m)).2 : Int), .int .i64 0]) ∧ Below w.heap.size w w' := by
  have hx := h.size
  have HA := Lib.hid fun (i : Nat) (W : World) (hi : i ≤ x.size) => antipowerAhead_any x i m W hx hi hm hm2
  have HE := Lib.hid (antiB_out x m x.size (by omega))
  rw [← HE.out]
  have HL := Lib.hid fun n => antiB_le x m n
  have HK := Lib.hid fun n => antiK_le x m n
  have H := Lib.hid h
  have hm1 : ¬ (m : Int) < 1 := by omega
  have hm60 : ¬ (60 : Int) < (m : Int) := by omega
  have hmxi : ¬ (x.size : Int) < (m : Int) := by omega
  have d3 : decide (x.size < m) = false := decide_eq_false (by omega)
  clear h
  go_enter Try.func40, Try.ntmps40
  go_wp2_with (go_at_call 52; refine (isWord_yes x _ H.out).mono ?_; rintro e w1 ⟨rfl, b1⟩)
  go_loopg [7, 8, 26] x.size (fun gk p g i wr => ∃ k : Nat, k + gk = x.size ∧ i = .int .i64 (k : Int) ∧ p = .int .i64 ((antiB x m k).1 : Int) ∧ g = .int .i64 ((antiB x m k).2 : Int) ∧ Below w.heap.size w wr)
  case atStart => exact ⟨0, by omega, rfl, rfl, rfl, b1⟩
  case round =>
    obtain ⟨k, hk, rfl, rfl, rfl, hB⟩ := hrel
    by_cases hp : k < x.size
    · obtain ⟨gq, rfl⟩ : ∃ gq, gk = gq + 1 := ⟨gk - 1, by omega⟩
      have HKK := Lib.hid hk
      have hpi : (k : Int) < (x.size : Int) := by omega
      have hs1 := fun W => slice_fromA x k (by omega) W
      have HC := Lib.hid fun W => HA.out k W (by omega)
      have hb := HL.out k
      have hkk := HK.out k
      have HS : Hid (antiB x m (k + 1) = if (antiB x m k).2 < antiK x m k then (k, antiK x m k) else antiB x m k) := Lib.hid rfl
      clear hk
      generalize antiK x m k = q at *
      obtain ⟨p1, p2⟩ : ∃ a b, antiB x m k = (a, b) := ⟨_, _, rfl⟩
      obtain ⟨p2, hpp⟩ := p2
      rw [hpp] at hb HS
      rw [hpp]
      clear hpp
      dsimp only at hb HS ⊢
      generalize x.extract k x.size = t at *
      by_cases hlt : p2 < q
      · have hqi : (p2 : Int) < (q : Int) := by omega
        go_wp2_with (go_at_call 82; refine (HC.out _).mono ?_; rintro e w2 ⟨rfl, b2⟩)
        go_roundg gq
        case measure => omega
        case rel => exact ⟨k + 1, by have := HKK.out; omega, by go_num, by rw [HS.out, if_pos hlt], by rw [HS.out, if_pos hlt], hB.then b2⟩
      · have hqi : ¬ (p2 : Int) < (q : Int) := by omega
        go_wp2_with (go_at_call 82; refine (HC.out _).mono ?_; rintro e w2 ⟨rfl, b2⟩)
        go_roundg gq
        case measure => omega
        case rel => exact ⟨k + 1, by have := HKK.out; omega, by go_num, by rw [HS.out, if_neg hlt], by rw [HS.out, if_neg hlt], hB.then b2⟩
    · obtain rfl : gk = 0 := by omega
      obtain rfl : k = x.size := by omega
      have hpi : ¬ (x.size : Int) < (x.size : Int) := by omega
      go_wp2
      go_ret3
      exact ⟨rfl, hB⟩

set_option maxRecDepth 100000 in
theorem impl_LongestAntipower (x : ByteArray) (m : Int) (w : World) (sx : x.size ≤ maxLen) (wm : (Lit.int .i64 m).wf = true) :
    Calls Try.prog 40 #[.string x, .int .i64 m] w fun e w' => e = .returned (.tuple #[.int .i64 (laR x m).1, .int .i64 (laR x m).2.1, .int .i64 (laR x m).2.2]) ∧ Below w.heap.size w w' := by
  by_cases h : IsW x
  · by_cases h1 : m < 1
    · rw [laR_out h (.inl h1)]
      have H := Lib.hid h
      clear h
      go_enter Try.func40, Try.ntmps40
      go_wp2_with (go_at_call 52; refine (isWord_yes x _ H.out).mono ?_; rintro e w1 ⟨rfl, b1⟩)
      go_ret3
      exact ⟨rfl, b1⟩
    · by_cases h2 : 60 < m
      · rw [laR_out h (.inr h2)]
        have H := Lib.hid h
        clear h
        go_enter Try.func40, Try.ntmps40
        go_wp2_with (go_at_call 52; refine (isWord_yes x _ H.out).mono ?_; rintro e w1 ⟨rfl, b1⟩)
        go_ret3
        exact ⟨rfl, b1⟩
      · obtain ⟨n, rfl⟩ := Int.eq_ofNat_of_zero_le (show 0 ≤ m by omega)
        by_cases h3 : x.size < n
        · rw [laR_none h ⟨by omega, by omega⟩ h3]
          have H := Lib.hid h
          have h3i : (x.size : Int) < (n : Int) := by omega
          clear h
          go_enter Try.func40, Try.ntmps40
          go_wp2_with (go_at_call 52; refine (isWord_yes x _ H.out).mono ?_; rintro e w1 ⟨rfl, b1⟩)
          go_ret3
          exact ⟨rfl, b1⟩
        · rw [laR_ok h ⟨by omega, by omega⟩ (by omega)]
          exact impl_LongestAntipower_ok x n w h (by omega) (by omega) (by omega)
  · rw [laR_bad h]
    have H := Lib.hid h
    clear h
    go_enter Try.func40, Try.ntmps40
    go_wp2_with (go_at_call 52; refine (isWord_not x _ sx H.out).mono ?_; rintro e w1 ⟨rfl, b1⟩)
    go_ret3
    exact ⟨rfl, b1⟩

end Go.Proofs.Ytbhgghajbdlfkab
