/- Words of slopes, central words, stepped words, paths: the program and the model. -/
import Derived.Test.YtddfdciohnabbaaStp
import Derived.Test.YtddfdciohnabbaaLib
import Derived.Test.YtddfdciohnabbaaSq
namespace Go.Proofs.Ytddfdciohnabbaa
set_option linter.unusedVariables false
set_option linter.unusedSimpArgs false
open Go.RowKit

theorem slo_lowNo {p q low : Int} (h : ¬ (low ≤ p ∧ low ≤ q)) : slo p q low = false := by
  unfold slo
  rw [decide_eq_false_iff_not]
  rintro ⟨h1, h2, _⟩
  exact h ⟨h1, h2⟩
theorem slo_bigNo {p q low : Int} (h : ¬ (p ≤ 1000 ∧ q ≤ 1000)) : slo p q low = false := by
  unfold slo
  rw [decide_eq_false_iff_not]
  rintro ⟨_, _, h1, h2, _⟩
  exact h ⟨h1, h2⟩
theorem slo_gcd {p q : Nat} {low : Int} (h1 : low ≤ p) (h2 : low ≤ q) (h3 : p ≤ 1000) (h4 : q ≤ 1000) : slo p q low = decide ((Nat.gcd p q : Int) = 1) := by
  unfold slo
  rw [decide_eq_decide]
  constructor
  · rintro ⟨_, _, _, _, h⟩
    rw [Int.toNat_natCast, Int.toNat_natCast] at h
    omega
  · intro h
    exact ⟨h1, h2, by omega, by omega, by rw [Int.toNat_natCast, Int.toNat_natCast]; omega⟩

set_option maxRecDepth 100000 in
set_option maxHeartbeats 1000000 in
theorem isSlope_any (p q low : Int) (w : World) (h0 : 0 ≤ low) (wp : (Lit.int .i64 p).wf = true) (wq : (Lit.int .i64 q).wf = true) (wl : (Lit.int .i64 low).wf = true) :
    Calls Try.prog 42 #[.int .i64 p, .int .i64 q, .int .i64 low] w fun e w' => e = .returned (.bool (slo p q low)) ∧ Below w.heap.size w w' := by
  by_cases hl : low ≤ p ∧ low ≤ q
  · by_cases hb : p ≤ 1000 ∧ q ≤ 1000
    · obtain ⟨a, rfl⟩ := Int.eq_ofNat_of_zero_le (show 0 ≤ p by omega)
      obtain ⟨b, rfl⟩ := Int.eq_ofNat_of_zero_le (show 0 ≤ q by omega)
      have C1 := Lib.hid fun W => commonDivisor_any a b W (by omega) (by omega)
      rw [slo_gcd hl.1 hl.2 (by omega) (by omega)]
      generalize Nat.gcd a b = d at *
      obtain ⟨l1, l2⟩ := hl
      obtain ⟨l3, l4⟩ := hb
      have m1 : low ≤ min (a : Int) (b : Int) := by omega
      have m2 : max (a : Int) (b : Int) ≤ 1000 := by omega
      go_enter Try.func42, Try.ntmps42
      go_wp2_with fail
      refine (C1.out _).mono ?_
      rintro e w1 ⟨rfl, b1⟩
      go_wp2_with fail
      go_ret
      exact ⟨by first | rfl | (congr 2; rw [Bool.eq_iff_iff]; simp), b1⟩
    · rw [slo_bigNo hb]
      have m1 : low ≤ min p q := by omega
      have m2 : ¬ max p q ≤ 1000 := by omega
      go_enter Try.func42, Try.ntmps42
      go_wp2
      go_ret
      exact ⟨rfl, Below.refl _ _⟩
  · rw [slo_lowNo hl]
    have m1 : ¬ low ≤ min p q := by omega
    go_enter Try.func42, Try.ntmps42
    go_wp2
    go_ret
    exact ⟨rfl, Below.refl _ _⟩

/-- The model's code of two numbers. -/
def pairC (p q low : Int) : Int := if slo p q low = true then 0 else 2

set_option maxRecDepth 100000 in
set_option maxHeartbeats 1000000 in
theorem l08Pair_any (p q low : Int) (w : World) (h0 : 0 ≤ low) (wp : (Lit.int .i64 p).wf = true) (wq : (Lit.int .i64 q).wf = true) (wl : (Lit.int .i64 low).wf = true) :
    Calls Try.prog 40 #[.int .i64 p, .int .i64 q, .int .i64 low] w fun e w' => e = .returned (.int .i64 (pairC p q low)) ∧ Below w.heap.size w w' := by
  by_cases hp : low ≤ p ∧ p ≤ 1000
  · have CP := Lib.hid fun W => l01In_yes p low 1000 W hp.1 hp.2
    by_cases hq : low ≤ q ∧ q ≤ 1000
    · have CQ := Lib.hid fun W => l01In_yes q low 1000 W hq.1 hq.2
      obtain ⟨a, rfl⟩ := Int.eq_ofNat_of_zero_le (show 0 ≤ p by omega)
      obtain ⟨b, rfl⟩ := Int.eq_ofNat_of_zero_le (show 0 ≤ q by omega)
      have C1 := Lib.hid fun W => l02Gcd_any a b W (by omega) (by omega)
      have HS : Hid (slo a b low = decide ((Nat.gcd a b : Int) = 1)) := Lib.hid (slo_gcd hp.1 hq.1 (by omega) (by omega))
      generalize Nat.gcd a b = d at *
      clear hp hq
      by_cases hd : (d : Int) = 1
      · have HR : Hid (pairC a b low = 0) := Lib.hid (by unfold pairC; rw [HS.out, decide_eq_true hd]; rfl)
        go_enter Try.func40, Try.ntmps40
        go_wp2_with fail
        refine (CP.out _).mono ?_
        rintro e w1 ⟨rfl, b1⟩
        go_wp2_with fail
        refine (CQ.out _).mono ?_
        rintro e w2 ⟨rfl, b2⟩
        go_wp2_with fail
        refine (C1.out _).mono ?_
        rintro e w3 ⟨rfl, b3⟩
        go_wp2_with fail
        go_ret
        exact ⟨by rw [HR.out]; rfl, (b1.then b2).then b3⟩
      · have HR : Hid (pairC a b low = 2) := Lib.hid (by unfold pairC; rw [HS.out, decide_eq_false hd]; rfl)
        go_enter Try.func40, Try.ntmps40
        go_wp2_with fail
        refine (CP.out _).mono ?_
        rintro e w1 ⟨rfl, b1⟩
        go_wp2_with fail
        refine (CQ.out _).mono ?_
        rintro e w2 ⟨rfl, b2⟩
        go_wp2_with fail
        refine (C1.out _).mono ?_
        rintro e w3 ⟨rfl, b3⟩
        go_wp2_with fail
        go_ret
        exact ⟨by rw [HR.out]; rfl, (b1.then b2).then b3⟩
    · have CQ := Lib.hid fun W => l01In_no q low 1000 W hq
      have HR : Hid (pairC p q low = 2) := Lib.hid (by
        unfold pairC
        by_cases h : low ≤ p ∧ low ≤ q
        · rw [slo_bigNo (by omega)]; rfl
        · rw [slo_lowNo h]; rfl)
      clear hp hq
      go_enter Try.func40, Try.ntmps40
      go_wp2_with fail
      refine (CP.out _).mono ?_
      rintro e w1 ⟨rfl, b1⟩
      go_wp2_with fail
      refine (CQ.out _).mono ?_
      rintro e w2 ⟨rfl, b2⟩
      go_wp2_with fail
      go_ret
      exact ⟨by rw [HR.out]; rfl, b1.then b2⟩
  · have CP := Lib.hid fun W => l01In_no p low 1000 W hp
    have HR : Hid (pairC p q low = 2) := Lib.hid (by
      unfold pairC
      by_cases h : low ≤ p ∧ low ≤ q
      · rw [slo_bigNo (by omega)]; rfl
      · rw [slo_lowNo h]; rfl)
    clear hp
    go_enter Try.func40, Try.ntmps40
    go_wp2_with fail
    refine (CP.out _).mono ?_
    rintro e w1 ⟨rfl, b1⟩
    go_wp2_with fail
    go_ret
    exact ⟨by rw [HR.out]; rfl, b1⟩

end Go.Proofs.Ytddfdciohnabbaa
