/- Stepped words and paths: both sides. -/
import Derived.Test.YtddfdciohnabbaaSlo
namespace Go.Proofs.Ytddfdciohnabbaa
set_option linter.unusedVariables false
set_option linter.unusedSimpArgs false
open Go.RowKit

set_option maxRecDepth 100000 in
set_option maxHeartbeats 2000000 in
theorem impl_SteppedWord (a b c n : Int) (w : World) (wa : (Lit.int .i64 a).wf = true) (wb : (Lit.int .i64 b).wf = true) (wc : (Lit.int .i64 c).wf = true) (wn : (Lit.int .i64 n).wf = true) :
    Calls Try.prog 35 #[.int .i64 a, .int .i64 b, .int .i64 c, .int .i64 n] w fun e w' => e = .returned (.tuple #[.string (stepR a b c n).1, .int .i64 (stepR a b c n).2]) ∧ Below w.heap.size w w' := by
  by_cases h1 : b < 1
  · rw [stepR_no (.inl h1)]
    go_enter Try.func35, Try.ntmps35
    go_wp2
    go_ret2
    exact ⟨rfl, Below.refl _ _⟩
  by_cases h2 : 1000 < b
  · rw [stepR_no (.inr (.inl h2))]
    go_enter Try.func35, Try.ntmps35
    go_wp2
    go_ret2
    exact ⟨rfl, Below.refl _ _⟩
  by_cases h3 : a < 0
  · rw [stepR_no (.inr (.inr (.inl h3)))]
    go_enter Try.func35, Try.ntmps35
    go_wp2
    go_ret2
    exact ⟨rfl, Below.refl _ _⟩
  by_cases h4 : b < a
  · rw [stepR_no (.inr (.inr (.inr (.inl h4))))]
    go_enter Try.func35, Try.ntmps35
    go_wp2
    go_ret2
    exact ⟨rfl, Below.refl _ _⟩
  by_cases h5 : c < 0
  · rw [stepR_no (.inr (.inr (.inr (.inr (.inl h5)))))]
    go_enter Try.func35, Try.ntmps35
    go_wp2
    go_ret2
    exact ⟨rfl, Below.refl _ _⟩
  by_cases h6 : b - 1 < c
  · rw [stepR_no (.inr (.inr (.inr (.inr (.inr (.inl h6))))))]
    have h6' : b ≤ c := by omega
    clear h6
    go_enter Try.func35, Try.ntmps35
    go_wp2
    go_ret2
    exact ⟨rfl, Below.refl _ _⟩
  have h6' : ¬ b ≤ c := by omega
  by_cases h7 : n < 0
  · rw [stepR_no (.inr (.inr (.inr (.inr (.inr (.inr (.inl h7)))))))]
    clear h6
    go_enter Try.func35, Try.ntmps35
    go_wp2
    go_ret2
    exact ⟨rfl, Below.refl _ _⟩
  by_cases h8 : 60 < n
  · rw [stepR_no (.inr (.inr (.inr (.inr (.inr (.inr (.inr h8)))))))]
    clear h6
    go_enter Try.func35, Try.ntmps35
    go_wp2
    go_ret2
    exact ⟨rfl, Below.refl _ _⟩
  obtain ⟨a, rfl⟩ := Int.eq_ofNat_of_zero_le (show 0 ≤ a by omega)
  obtain ⟨b, rfl⟩ := Int.eq_ofNat_of_zero_le (show 0 ≤ b by omega)
  obtain ⟨c, rfl⟩ := Int.eq_ofNat_of_zero_le (show 0 ≤ c by omega)
  obtain ⟨n, rfl⟩ := Int.eq_ofNat_of_zero_le (show 0 ≤ n by omega)
  rw [stepR_ok (by omega) (by omega) (by omega) (by omega) (by omega)]
  have CW := Lib.hid fun W => steppedWord_any a b c n W (by omega) (by omega) (by omega) (by omega) (by omega)
  clear h6
  go_enter Try.func35, Try.ntmps35
  go_wp2_with fail
  refine (CW.out _).mono ?_
  rintro e w1 ⟨rfl, b1⟩
  go_wp2_with fail
  go_ret2
  exact ⟨rfl, b1⟩

set_option maxRecDepth 100000 in
set_option maxHeartbeats 2000000 in
theorem spec_SteppedWord (a b c n : Int) (w : World) (wa : (Lit.int .i64 a).wf = true) (wb : (Lit.int .i64 b).wf = true) (wc : (Lit.int .i64 c).wf = true) (wn : (Lit.int .i64 n).wf = true) :
    Calls Try.prog 34 #[.int .i64 a, .int .i64 b, .int .i64 c, .int .i64 n] w fun e w' => e = .returned (.tuple #[.string (stepR a b c n).1, .int .i64 (stepR a b c n).2]) ∧ Below w.heap.size w w' := by
  by_cases h1 : 1 ≤ b ∧ b ≤ 1000
  · have C1 := Lib.hid fun W => l01In_yes b 1 1000 W h1.1 h1.2
    by_cases h2 : 0 ≤ a ∧ a ≤ b
    · have C2 := Lib.hid fun W => l01In_yes a 0 b W h2.1 h2.2
      by_cases h3 : 0 ≤ c ∧ c ≤ b - 1
      · have C3 := Lib.hid fun W => l01In_yes c 0 (b - 1) W h3.1 h3.2
        by_cases h4 : 0 ≤ n ∧ n ≤ 60
        · have C4 := Lib.hid fun W => l01In_yes n 0 60 W h4.1 h4.2
          obtain ⟨a, rfl⟩ := Int.eq_ofNat_of_zero_le (show 0 ≤ a by omega)
          obtain ⟨b, rfl⟩ := Int.eq_ofNat_of_zero_le (show 0 ≤ b by omega)
          obtain ⟨c, rfl⟩ := Int.eq_ofNat_of_zero_le (show 0 ≤ c by omega)
          obtain ⟨n, rfl⟩ := Int.eq_ofNat_of_zero_le (show 0 ≤ n by omega)
          rw [stepR_ok (by omega) (by omega) (by omega) (by omega) (by omega)]
          have hab : a ≤ b := by omega
          have hb0 : 0 < b := by omega
          have hbz : ¬ b = 0 := by omega
          have hbzi : ¬ (b : Int) = 0 := by omega
          have hb1 : b ≤ 1000 := by omega
          have hc1 : c ≤ 1000 := by omega
          have hn1 : n ≤ 60 := by omega
          clear h1 h2 h3 h4
          go_enter Try.func34, Try.ntmps34
          go_wp2_with fail
          refine (C1.out _).mono ?_
          rintro e w1 ⟨rfl, b1⟩
          go_wp2_with fail
          refine (C2.out _).mono ?_
          rintro e w2 ⟨rfl, b2⟩
          go_wp2_with fail
          refine (C3.out _).mono ?_
          rintro e w3 ⟨rfl, b3⟩
          go_wp2_with fail
          refine (C4.out _).mono ?_
          rintro e w4 ⟨rfl, b4⟩
          have B4 := (((b1.then b2).then b3).then b4)
          clear b1 b2 b3 b4
          go_wp2_with fail
          go_loopw [10, 11] (fun o i wr => ∃ (k : Nat) (t : ByteArray), k ≤ n ∧ i = .int .i64 k ∧ o = .string t ∧ t.size ≤ k ∧ Hid (t = bt (stW a b c k)) ∧ Below w.heap.size w wr) (fun _ i _ => n - (intOf i).toNat)
          case atStart => exact ⟨0, ⟨#[]⟩, Nat.zero_le _, rfl, rfl, Nat.le_refl _, Lib.hid rfl, B4⟩
          case round =>
            obtain ⟨k, t, hk, rfl, rfl, ht, HT, hB⟩ := hrel
            by_cases hp : k < n
            · have hpi : (k : Int) < (n : Int) := by omega
              have hm1 := mul_le_n (i := k) (a := a) (n := 62) (b := 1000) (by omega) (by omega)
              have hm2 := mul_le_n (i := k + 1) (a := a) (n := 62) (b := 1000) (by omega) (by omega)
              have e1 : ((k : Int) + 1) * (a : Int) = (((k + 1) * a : Nat) : Int) := by norm_cast
              have e2 : (k : Int) * (a : Int) = ((k * a : Nat) : Int) := by norm_cast
              have e3 : ((((k + 1) * a : Nat) : Int) + (c : Int)) / (b : Int) = (stq a b c (k + 1) : Int) := by rw [← e1]; exact stq_int
              have e4 : (((k * a : Nat) : Int) + (c : Int)) / (b : Int) = (stq a b c k : Int) := by rw [← e2]; exact stq_int
              have l1 : stq a b c (k + 1) ≤ (k + 1) * a + c := stq_top
              have l2 : stq a b c k ≤ k * a + c := stq_top
              have hle := stq_le a b c k
              have HSN := Lib.hid (stW_succ a b c k)
              have HSD : Hid (std a b c k = stq a b c (k + 1) - stq a b c k) := Lib.hid rfl
              have hts : (t ++ (⟨#[98]⟩ : ByteArray)).size ≤ k + 1 := by rw [ByteArray.size_append]; show t.size + 1 ≤ _; omega
              have hts2 : (t ++ (⟨#[97]⟩ : ByteArray)).size ≤ k + 1 := by rw [ByteArray.size_append]; show t.size + 1 ≤ _; omega
              generalize stq a b c (k + 1) = s1 at *
              generalize stq a b c k = s0 at *
              generalize (k + 1) * a = m1 at *
              generalize k * a = m0 at *
              by_cases hs : s1 = s0
              · have hl : Hid (stl a b c k = 97) := Lib.hid (stl_a (by rw [HSD.out]; omega))
                subst hs
                clear hts
                have HTS := Lib.hid hts2
                clear hts2
                go_wp2
                go_quiet (fail)
                go_wp2
                go_roundw
                case rel => exact ⟨k + 1, t ++ ⟨#[97]⟩, by omega, by go_num, rfl, HTS.out, Lib.hid (by rw [HSN.out, hl.out, HT.out, ← bt_app]; rfl), hB.drewN _⟩
                case measure => simp [intOf]; omega
              · have hl : Hid (stl a b c k = 98) := Lib.hid (stl_b (by rw [HSD.out]; omega))
                have hsi : ¬ (s1 : Int) = (s0 : Int) := by omega
                clear hts2
                have HTS := Lib.hid hts
                clear hts hs
                go_wp2
                go_quiet (fail)
                go_wp2
                go_roundw
                case rel => exact ⟨k + 1, t ++ ⟨#[98]⟩, by omega, by go_num, rfl, HTS.out, Lib.hid (by rw [HSN.out, hl.out, HT.out, ← bt_app]; rfl), hB.drewN _⟩
                case measure => simp [intOf]; omega
            · obtain rfl : k = n := by omega
              go_wp2
              go_ret2
              exact ⟨by rw [HT.out]; rfl, hB⟩
        · rw [stepR_no (by omega)]
          have C4 := Lib.hid fun W => l01In_no n 0 60 W h4
          clear h3 h4
          go_enter Try.func34, Try.ntmps34
          go_wp2_with fail
          refine (C1.out _).mono ?_
          rintro e w1 ⟨rfl, b1⟩
          go_wp2_with fail
          refine (C2.out _).mono ?_
          rintro e w2 ⟨rfl, b2⟩
          go_wp2_with fail
          refine (C3.out _).mono ?_
          rintro e w3 ⟨rfl, b3⟩
          go_wp2_with fail
          refine (C4.out _).mono ?_
          rintro e w4 ⟨rfl, b4⟩
          go_wp2_with fail
          go_ret2
          exact ⟨rfl, ((b1.then b2).then b3).then b4⟩
      · rw [stepR_no (by omega)]
        have C3 := Lib.hid fun W => l01In_no c 0 (b - 1) W h3
        clear h3
        go_enter Try.func34, Try.ntmps34
        go_wp2_with fail
        refine (C1.out _).mono ?_
        rintro e w1 ⟨rfl, b1⟩
        go_wp2_with fail
        refine (C2.out _).mono ?_
        rintro e w2 ⟨rfl, b2⟩
        go_wp2_with fail
        refine (C3.out _).mono ?_
        rintro e w3 ⟨rfl, b3⟩
        go_wp2_with fail
        go_ret2
        exact ⟨rfl, (b1.then b2).then b3⟩
    · rw [stepR_no (by omega)]
      have C2 := Lib.hid fun W => l01In_no a 0 b W h2
      clear h2
      go_enter Try.func34, Try.ntmps34
      go_wp2_with fail
      refine (C1.out _).mono ?_
      rintro e w1 ⟨rfl, b1⟩
      go_wp2_with fail
      refine (C2.out _).mono ?_
      rintro e w2 ⟨rfl, b2⟩
      go_wp2_with fail
      go_ret2
      exact ⟨rfl, b1.then b2⟩
  · rw [stepR_no (by omega)]
    have C1 := Lib.hid fun W => l01In_no b 1 1000 W h1
    clear h1
    go_enter Try.func34, Try.ntmps34
    go_wp2_with fail
    refine (C1.out _).mono ?_
    rintro e w1 ⟨rfl, b1⟩
    go_wp2_with fail
    go_ret2
    exact ⟨rfl, b1⟩

end Go.Proofs.Ytddfdciohnabbaa
