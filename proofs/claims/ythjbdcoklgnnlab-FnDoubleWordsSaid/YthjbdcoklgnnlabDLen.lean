/- Double lengths: the program and the model. -/
import Derived.Test.YthjbdcoklgnnlabGcd
namespace Go.Proofs.Ythjbdcoklgnnlab
set_option linter.unusedVariables false
set_option linter.unusedSimpArgs false
open Go.RowKit

set_option maxRecDepth 100000 in
set_option maxHeartbeats 1000000 in
theorem spec_DoubleLength (p q : Int) (w : World) (wp : (Lit.int .i64 p).wf = true) (wq : (Lit.int .i64 q).wf = true) :
    Calls Try.prog 43 #[.int .i64 p, .int .i64 q] w fun e w' => e = .returned (.tuple #[.int .i64 (dlenR p q).1, .int .i64 (dlenR p q).2]) ∧ Below w.heap.size w w' := by
  by_cases hp : 1 ≤ p ∧ p ≤ 1000000
  · by_cases hq : 1 ≤ q ∧ q ≤ 1000000
    · obtain ⟨a, rfl⟩ := Int.eq_ofNat_of_zero_le (show 0 ≤ p by omega)
      obtain ⟨b, rfl⟩ := Int.eq_ofNat_of_zero_le (show 0 ≤ q by omega)
      obtain ⟨p1, p2⟩ := hp
      obtain ⟨q1, q2⟩ := hq
      rw [dlenR_ok (by omega) (by omega) (by omega) (by omega)]
      have CG := Lib.hid fun w => l02Gcd_any a b w (by omega) (by omega)
      have hg0 := Nat.gcd_pos_of_pos_left b (show 0 < a by omega)
      have hg1 := Nat.gcd_le_left b (show 0 < a by omega)
      generalize Nat.gcd a b = d at *
      go_enter Try.func43, Try.ntmps43
      go_wp2_with fail
      refine (l01In_yes _ _ _ _ p1 p2).mono ?_
      rintro e w1 ⟨rfl, b1⟩
      go_wp2_with fail
      refine (l01In_yes _ _ _ _ q1 q2).mono ?_
      rintro e w2 ⟨rfl, b2⟩
      go_wp2_with fail
      refine (CG.out _).mono ?_
      rintro e w3 ⟨rfl, b3⟩
      go_wp2_with fail
      go_ret2
      exact ⟨rfl, (b1.then b2).then b3⟩
    · rw [dlenR_bad (by omega)]
      have HQ := Lib.hid hq
      clear hq
      go_enter Try.func43, Try.ntmps43
      go_wp2_with fail
      refine (l01In_yes _ _ _ _ hp.1 hp.2).mono ?_
      rintro e w1 ⟨rfl, b1⟩
      go_wp2_with fail
      refine (l01In_no _ _ _ _ HQ.out).mono ?_
      rintro e w2 ⟨rfl, b2⟩
      go_wp2_with fail
      go_ret2
      exact ⟨rfl, b1.then b2⟩
  · rw [dlenR_bad (by omega)]
    have HP := Lib.hid hp
    clear hp
    go_enter Try.func43, Try.ntmps43
    go_wp2_with fail
    refine (l01In_no _ _ _ _ HP.out).mono ?_
    rintro e w1 ⟨rfl, b1⟩
    go_wp2_with fail
    go_ret2
    exact ⟨rfl, b1⟩

set_option maxRecDepth 100000 in
set_option maxHeartbeats 1000000 in
theorem impl_DoubleLength (p q : Int) (w : World) (wp : (Lit.int .i64 p).wf = true) (wq : (Lit.int .i64 q).wf = true) :
    Calls Try.prog 42 #[.int .i64 p, .int .i64 q] w fun e w' => e = .returned (.tuple #[.int .i64 (dlenR p q).1, .int .i64 (dlenR p q).2]) ∧ Below w.heap.size w w' := by
  by_cases h1 : min p q < 1
  · rw [dlenR_bad (by omega)]
    go_enter Try.func42, Try.ntmps42
    go_wp2
    go_ret2
    exact ⟨rfl, Below.refl _ _⟩
  · by_cases h2 : 1000000 < max p q
    · rw [dlenR_bad (by omega)]
      go_enter Try.func42, Try.ntmps42
      go_wp2
      go_ret2
      exact ⟨rfl, Below.refl _ _⟩
    · obtain ⟨a, rfl⟩ := Int.eq_ofNat_of_zero_le (show 0 ≤ p by omega)
      obtain ⟨b, rfl⟩ := Int.eq_ofNat_of_zero_le (show 0 ≤ q by omega)
      have p1 : 1 ≤ a := by omega
      have p2 : a ≤ 1000000 := by omega
      have q1 : 1 ≤ b := by omega
      have q2 : b ≤ 1000000 := by omega
      rw [dlenR_ok p1 q1 p2 q2]
      have CG := Lib.hid fun w => commonDivisor_any a b w (by omega) (by omega)
      have hg0 := Nat.gcd_pos_of_pos_left b (show 0 < a by omega)
      have hg1 := Nat.gcd_le_left b (show 0 < a by omega)
      generalize Nat.gcd a b = d at *
      go_enter Try.func42, Try.ntmps42
      go_wp2_with fail
      refine (CG.out _).mono ?_
      rintro e w3 ⟨rfl, b3⟩
      go_wp2_with fail
      go_ret2
      exact ⟨rfl, b3⟩

end Go.Proofs.Ythjbdcoklgnnlab
