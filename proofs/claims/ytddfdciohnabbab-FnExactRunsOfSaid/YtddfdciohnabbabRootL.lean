/- The root of a word: the program and the model. -/
import Derived.Test.YtddfdciohnabbabRoot
import Derived.Outline
namespace Go.Proofs.Ytddfdciohnabbab
set_option linter.unusedVariables false
set_option linter.unusedSimpArgs false
open Go.RowKit

set_option maxRecDepth 100000 in
set_option maxHeartbeats 1000000 in
theorem impl_RootOf (x : ByteArray) (w : World) (sx : x.size ≤ maxLen) :
    Calls Try.prog 75 #[.string x] w fun e w' => e = .returned (.tuple #[.string (rootR x).1, .int .i64 (rootR x).2.1, .int .i64 (rootR x).2.2]) ∧ Below w.heap.size w w' := by
  by_cases h : IsW x
  · by_cases h0 : x.size = 0
    · rw [rootR_nil h h0]
      have hq := teq_nil h0
      have H := Lib.hid h
      clear h
      go_enter Try.func75, Try.ntmps75
      go_wp2_with fail
      refine (isWord_yes x _ H.out).mono ?_
      rintro e w1 ⟨rfl, b1⟩
      go_wp2_with fail
      go_ret3
      exact ⟨rfl, b1⟩
    · rw [rootR_ok h h0]
      have hq := teq_not_nil h0
      have h1 := h.size
      have hlp := lp_ok (bl_ne (x := x) (by omega))
      have l0 := hlp.1
      have l1 := hlp.2.1
      rw [bl_len] at l1
      have H := Lib.hid h
      clear h hlp
      have hrl : rl (bl x) = if x.size % lp (bl x) = 0 then lp (bl x) else x.size := by unfold rl; rw [bl_len]
      have CP := Lib.hid fun w => leastPeriod_any x w h1 (by omega)
      generalize lp (bl x) = p at *
      by_cases hd : x.size % p = 0
      · rw [if_pos hd] at hrl
        rw [hrl]
        have hd2 : (x.size : Int) % (p : Int) = 0 := by omega
        have hpz : ¬ (p : Int) = 0 := by omega
        clear hrl
        go_enter Try.func75, Try.ntmps75
        go_wp2_with fail
        refine (isWord_yes x _ H.out).mono ?_
        rintro e w1 ⟨rfl, b1⟩
        go_wp2_with fail
        refine (CP.out _).mono ?_
        rintro e w2 ⟨rfl, b2⟩
        go_wp2_with fail
        go_region_with (go_at_call 108; refine (strings_Clone _ _ (by first | omega | (simp; omega))).mono ?_; rintro e w3 ⟨rfl, b3⟩)
        all_goals (try go_wp2)
        all_goals go_ret3
        all_goals exact ⟨by rw [← wrap_quo x.size p (by omega)]; rfl, ((b1.then b2).drew).then b3⟩
      · rw [if_neg hd] at hrl
        rw [hrl, extract_all, Nat.div_self (by omega)]
        have hd2 : ¬ (x.size : Int) % (p : Int) = 0 := by omega
        have hxz : ¬ (x.size : Int) = 0 := by omega
        clear hrl
        go_enter Try.func75, Try.ntmps75
        go_wp2_with fail
        refine (isWord_yes x _ H.out).mono ?_
        rintro e w1 ⟨rfl, b1⟩
        go_wp2_with fail
        refine (CP.out _).mono ?_
        rintro e w2 ⟨rfl, b2⟩
        go_wp2_with fail
        go_region_with (go_at_call 108; refine (strings_Clone _ _ (by first | omega | (simp; omega))).mono ?_; rintro e w3 ⟨rfl, b3⟩)
        go_wp2
        go_ret3
        exact ⟨by rfl, ((b1.then b2).drew).then b3⟩
  · rw [rootR_bad h]
    have H := Lib.hid h
    clear h
    go_enter Try.func75, Try.ntmps75
    go_wp2_with fail
    refine (isWord_not x _ sx H.out).mono ?_
    rintro e w1 ⟨rfl, b1⟩
    go_wp2_with fail
    go_ret3
    exact ⟨rfl, b1⟩

end Go.Proofs.Ytddfdciohnabbab
