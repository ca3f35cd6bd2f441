/- The greatest common divisor, exponents, double lengths: the program and the model. -/
import Derived.Test.YtddfdciohnabbaaRootL
import Derived.Test.YtddfdciohnabbaaTurn
import Derived.WalkSmall
namespace Go.Proofs.Ytddfdciohnabbaa
set_option linter.unusedVariables false
set_option linter.unusedSimpArgs false
open Go.RowKit

theorem gcd_step (p q : Nat) : Nat.gcd q (p % q) = Nat.gcd p q := by rw [Nat.gcd_comm p q, Nat.gcd_rec q p, Nat.gcd_comm]

set_option maxRecDepth 100000 in
theorem l02Gcd_any (a b : Nat) (w : World) (ha : a ≤ 1000000) (hb : b ≤ 1000000) :
    Calls Try.prog 58 #[.int .i64 (a : Int), .int .i64 (b : Int)] w fun e w' => e = .returned (.int .i64 (Nat.gcd a b : Int)) ∧ Below w.heap.size w w' := by
  go_enter Try.func58, Try.ntmps58
  go_wp2
  go_loopw [0, 1] (fun i j wr => ∃ p q : Nat, i = .int .i64 (p : Int) ∧ j = .int .i64 (q : Int) ∧ Hid (Nat.gcd p q = Nat.gcd a b) ∧ wr = w) (fun _ j _ => (intOf j).toNat)
  case atStart => exact ⟨a, b, rfl, rfl, Lib.hid rfl, rfl⟩
  case round =>
    obtain ⟨p, q, rfl, rfl, HG, rfl⟩ := hrel
    by_cases h0 : 0 < q
    · have hst := gcd_step p q
      have hlt := Nat.mod_lt p h0
      have HS : Hid (Nat.gcd q (p % q) = Nat.gcd a b) := Lib.hid (by rw [hst]; exact HG.out)
      have hmod : (p : Int) % (q : Int) = ((p % q : Nat) : Int) := by simp
      generalize p % q = r at hmod HS hlt
      have hqz : ¬ (q : Int) = 0 := by omega
      clear hst
      go_wp2
      go_roundw
      case rel => exact ⟨q, r, rfl, by rw [hmod], HS, by first | rfl | trivial⟩
      case measure => simp [intOf]; omega
    · have hq : q = 0 := by omega
      subst hq
      go_wp2
      go_ret
      exact ⟨by rw [← HG.out, Nat.gcd_zero_right]; rfl, Below.refl _ _⟩

set_option maxRecDepth 100000 in
theorem commonDivisor_any (a b : Nat) (w : World) (ha : a ≤ 1000000) (hb : b ≤ 1000000) :
    Calls Try.prog 71 #[.int .i64 (a : Int), .int .i64 (b : Int)] w fun e w' => e = .returned (.int .i64 (Nat.gcd a b : Int)) ∧ Below w.heap.size w w' := by
  go_enter Try.func71, Try.ntmps71
  go_wp2
  go_loopw [0, 1] (fun i j wr => ∃ p q : Nat, i = .int .i64 (p : Int) ∧ j = .int .i64 (q : Int) ∧ Hid (Nat.gcd p q = Nat.gcd a b) ∧ Below w.heap.size w wr) (fun _ j _ => (intOf j).toNat)
  case atStart => exact ⟨a, b, rfl, rfl, Lib.hid rfl, Below.refl _ _⟩
  case round =>
    obtain ⟨p, q, rfl, rfl, HG, hB⟩ := hrel
    by_cases h0 : 0 < q
    · have hst := gcd_step p q
      have hlt := Nat.mod_lt p h0
      have HS : Hid (Nat.gcd q (p % q) = Nat.gcd a b) := Lib.hid (by rw [hst]; exact HG.out)
      have hmod : (p : Int) % (q : Int) = ((p % q : Nat) : Int) := by simp
      generalize p % q = r at hmod HS hlt
      have hqz : ¬ (q : Int) = 0 := by omega
      clear hst
      go_wp2
      go_quiet (fail)
      go_wp2
      go_roundw
      case rel => exact ⟨q, r, rfl, by rw [hmod], HS, hB.drewN _⟩
      case measure => simp [intOf]; omega
    · have hq : q = 0 := by omega
      subst hq
      go_wp2
      go_ret
      exact ⟨by rw [← HG.out, Nat.gcd_zero_right]; rfl, hB⟩

end Go.Proofs.Ytddfdciohnabbaa
