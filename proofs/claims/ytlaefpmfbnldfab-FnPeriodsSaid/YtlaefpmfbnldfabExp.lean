/- Exponents and double lengths: the program and the model. -/
import Derived.Test.YtlaefpmfbnldfabGcd
namespace Go.Proofs.Ytlaefpmfbnldfab
set_option linter.unusedVariables false
set_option linter.unusedSimpArgs false
open Go.RowKit

/-- The model's periods: the first one is the least. -/
theorem l02Periods_first (x : ByteArray) (w : World) (hx : x.size ≤ 60) (h0 : 0 < x.size) :
    Calls Try.prog 118 #[.string x] w fun e w' => ∃ g n cp, e = .returned (.slice (some ⟨g, 0, none⟩) n cp) ∧ (0 : Int) < (n : Int) ∧ n ≤ cp ∧ w'.cell? ⟨g, 0, none⟩ = some (.int .i64 (lp (bl x) : Int)) ∧ Below w.heap.size w w' := by
  refine (l02Periods_any x w hx).mono ?_
  rintro e w2 ⟨v, rfl, o2, b2⟩
  obtain ⟨t, ht⟩ := pers_head (bl_ne h0)
  rw [bl_len] at ht
  rw [ht] at o2
  obtain ⟨g, cp, rfl, _, hg, hc, hm, cell, _⟩ := o2.row (by simp)
  have k1 := cell 0 (by simp)
  simp only [List.getElem_cons_zero] at k1
  exact ⟨g, _, cp, rfl, by simp <;> omega, hc, k1, b2⟩

set_option maxRecDepth 100000 in
set_option maxHeartbeats 1000000 in
theorem spec_ExponentOf (x : ByteArray) (w : World) (sx : x.size ≤ maxLen) :
    Calls Try.prog 21 #[.string x] w fun e w' => e = .returned (.tuple #[.int .i64 (expR x).1, .int .i64 (expR x).2.1, .int .i64 (expR x).2.2]) ∧ Below w.heap.size w w' := by
  by_cases h : IsW x
  · by_cases h0 : x.size = 0
    · rw [expR_nil h h0]
      have H := Lib.hid h
      clear h
      go_enter Try.func21, Try.ntmps21
      go_wp2_with fail
      refine (l02Given_nil x _ H.out h0).mono ?_
      rintro e w1 ⟨rfl, b1⟩
      go_wp2_with fail
      go_ret3
      exact ⟨rfl, b1⟩
    · rw [expR_ok h h0]
      have h1 := h.size
      have hlp := lp_ok (bl_ne (x := x) (by omega))
      have l0 := hlp.1
      have l1 := hlp.2.1
      rw [bl_len] at l1
      have H := Lib.hid h
      have CP := Lib.hid fun w => l02Periods_first x w h1 (by omega)
      have CG := Lib.hid fun w => l02Gcd_any x.size (lp (bl x)) w (by omega) (by omega)
      have hg0 := Nat.gcd_pos_of_pos_left (lp (bl x)) (show 0 < x.size by omega)
      clear h hlp
      generalize lp (bl x) = p at *
      generalize Nat.gcd x.size p = d at *
      have hdz : ¬ (d : Int) = 0 := by omega
      go_enter Try.func21, Try.ntmps21
      go_wp2_with fail
      refine (l02Given_ok x _ H.out h0).mono ?_
      rintro e w1 ⟨rfl, b1⟩
      go_wp2_with fail
      go_region_with (go_at_call 118; refine (CP.out _).mono ?_; rintro e w2 ⟨g, n, cp, rfl, hn, hc, k1, b2⟩)
      go_wp2_with fail
      refine (CG.out _).mono ?_
      rintro e w3 ⟨rfl, b3⟩
      go_wp2_with fail
      go_quiet (fail)
      go_wp2
      go_ret3
      exact ⟨by rw [← wrap_quo x.size d (by omega), ← wrap_quo p d (by omega)]; rfl, ((b1.drew.then b2).then b3).drewN _⟩
  · rw [expR_bad h]
    have H := Lib.hid h
    clear h
    go_enter Try.func21, Try.ntmps21
    go_wp2_with fail
    refine (l02Given_bad x _ sx H.out).mono ?_
    rintro e w1 ⟨rfl, b1⟩
    go_wp2_with fail
    go_ret3
    exact ⟨rfl, b1⟩

set_option maxRecDepth 100000 in
set_option maxHeartbeats 1000000 in
theorem impl_ExponentOf (x : ByteArray) (w : World) (sx : x.size ≤ maxLen) :
    Calls Try.prog 20 #[.string x] w fun e w' => e = .returned (.tuple #[.int .i64 (expR x).1, .int .i64 (expR x).2.1, .int .i64 (expR x).2.2]) ∧ Below w.heap.size w w' := by
  by_cases h : IsW x
  · by_cases h0 : x.size = 0
    · rw [expR_nil h h0]
      have hq := teq_nil h0
      have H := Lib.hid h
      clear h
      go_enter Try.func20, Try.ntmps20
      go_wp2_with fail
      refine (isWord_yes x _ H.out).mono ?_
      rintro e w1 ⟨rfl, b1⟩
      go_wp2_with fail
      go_ret3
      exact ⟨rfl, b1⟩
    · rw [expR_ok h h0]
      have hq := teq_not_nil h0
      have h1 := h.size
      have hlp := lp_ok (bl_ne (x := x) (by omega))
      have l0 := hlp.1
      have l1 := hlp.2.1
      rw [bl_len] at l1
      have H := Lib.hid h
      have CP := Lib.hid fun w => leastPeriod_any x w h1 (by omega)
      have CG := Lib.hid fun w => commonDivisor_any x.size (lp (bl x)) w (by omega) (by omega)
      have hg0 := Nat.gcd_pos_of_pos_left (lp (bl x)) (show 0 < x.size by omega)
      clear h hlp
      generalize lp (bl x) = p at *
      generalize Nat.gcd x.size p = d at *
      have hdz : ¬ (d : Int) = 0 := by omega
      go_enter Try.func20, Try.ntmps20
      go_wp2_with fail
      refine (isWord_yes x _ H.out).mono ?_
      rintro e w1 ⟨rfl, b1⟩
      go_wp2_with fail
      refine (CP.out _).mono ?_
      rintro e w2 ⟨rfl, b2⟩
      go_wp2_with fail
      refine (CG.out _).mono ?_
      rintro e w3 ⟨rfl, b3⟩
      go_wp2_with fail
      go_quiet (fail)
      go_wp2
      go_ret3
      exact ⟨by rw [← wrap_quo x.size d (by omega), ← wrap_quo p d (by omega)]; rfl, ((b1.then b2).then b3).drewN _⟩
  · rw [expR_bad h]
    have H := Lib.hid h
    clear h
    go_enter Try.func20, Try.ntmps20
    go_wp2_with fail
    refine (isWord_not x _ sx H.out).mono ?_
    rintro e w1 ⟨rfl, b1⟩
    go_wp2_with fail
    go_ret3
    exact ⟨rfl, b1⟩

end Go.Proofs.Ytlaefpmfbnldfab
