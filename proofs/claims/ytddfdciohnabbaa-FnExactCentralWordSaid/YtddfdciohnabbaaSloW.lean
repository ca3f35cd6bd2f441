/- Words of slopes and central words: both sides. -/
import Derived.Test.YtddfdciohnabbaaSlo
namespace Go.Proofs.Ytddfdciohnabbaa
set_option linter.unusedVariables false
set_option linter.unusedSimpArgs false
open Go.RowKit

theorem wf0 : (Lit.int .i64 0).wf = true := by decide
theorem wf1 : (Lit.int .i64 1).wf = true := by decide

set_option maxRecDepth 100000 in
set_option maxHeartbeats 1000000 in
theorem impl_WordOfSlope (p q : Int) (w : World) (wp : (Lit.int .i64 p).wf = true) (wq : (Lit.int .i64 q).wf = true) :
    Calls Try.prog 14 #[.int .i64 p, .int .i64 q] w fun e w' => e = .returned (.tuple #[.string (wosR p q).1, .int .i64 (wosR p q).2]) ∧ Below w.heap.size w w' := by
  have cs := fun W => isSlope_any p q 0 W (by omega) wp wq wf0
  cases hs : slo p q 0 with
  | false =>
    rw [wosR_no hs]
    rw [hs] at cs
    have CS := Lib.hid cs
    clear cs hs
    go_enter Try.func14, Try.ntmps14
    go_wp2_with fail
    refine (CS.out _).mono ?_
    rintro e w1 ⟨rfl, b1⟩
    go_wp2_with fail
    go_ret2
    exact ⟨rfl, b1⟩
  | true =>
    rw [hs] at cs
    obtain ⟨a, b, rfl, rfl, l1, l2, l3, l4, hg⟩ := slo_of (by omega) hs
    have hpos : 0 < a + b := by
      rcases Nat.eq_zero_or_pos (a + b) with e | e
      · obtain rfl : a = 0 := by omega
        obtain rfl : b = 0 := by omega
        simp at hg
      · exact e
    have CS := Lib.hid cs
    by_cases hl : a + b ≤ 60
    · rw [wosR_ok hs hl]
      have CW := Lib.hid fun W => slopeWord_any a b W hpos (by omega)
      clear cs hs hg
      go_enter Try.func14, Try.ntmps14
      go_wp2_with fail
      refine (CS.out _).mono ?_
      rintro e w1 ⟨rfl, b1⟩
      go_wp2_with fail
      refine (CW.out _).mono ?_
      rintro e w2 ⟨rfl, b2⟩
      go_wp2_with fail
      go_ret2
      exact ⟨rfl, b1.then b2⟩
    · rw [wosR_long hs (by omega)]
      clear cs hs hg
      go_enter Try.func14, Try.ntmps14
      go_wp2_with fail
      refine (CS.out _).mono ?_
      rintro e w1 ⟨rfl, b1⟩
      go_wp2_with fail
      go_ret2
      exact ⟨rfl, b1⟩

set_option maxRecDepth 100000 in
set_option maxHeartbeats 1000000 in
theorem spec_WordOfSlope (p q : Int) (w : World) (wp : (Lit.int .i64 p).wf = true) (wq : (Lit.int .i64 q).wf = true) :
    Calls Try.prog 13 #[.int .i64 p, .int .i64 q] w fun e w' => e = .returned (.tuple #[.string (wosR p q).1, .int .i64 (wosR p q).2]) ∧ Below w.heap.size w w' := by
  have cs := fun W => l08Pair_any p q 0 W (by omega) wp wq wf0
  cases hs : slo p q 0 with
  | false =>
    rw [wosR_no hs]
    rw [show pairC p q 0 = 2 from by unfold pairC; rw [hs]; rfl] at cs
    have CS := Lib.hid cs
    clear cs hs
    go_enter Try.func13, Try.ntmps13
    go_wp2_with fail
    refine (CS.out _).mono ?_
    rintro e w1 ⟨rfl, b1⟩
    go_wp2_with fail
    go_ret2
    exact ⟨rfl, b1⟩
  | true =>
    rw [show pairC p q 0 = 0 from by unfold pairC; rw [hs]; rfl] at cs
    obtain ⟨a, b, rfl, rfl, l1, l2, l3, l4, hg⟩ := slo_of (by omega) hs
    have hpos : 0 < a + b := by
      rcases Nat.eq_zero_or_pos (a + b) with e | e
      · obtain rfl : a = 0 := by omega
        obtain rfl : b = 0 := by omega
        simp at hg
      · exact e
    have CS := Lib.hid cs
    by_cases hl : a + b ≤ 60
    · rw [wosR_ok hs hl]
      have CW := Lib.hid fun W => l08Word_any a b W hpos (by omega)
      clear cs hs hg
      go_enter Try.func13, Try.ntmps13
      go_wp2_with fail
      refine (CS.out _).mono ?_
      rintro e w1 ⟨rfl, b1⟩
      go_wp2_with fail
      refine (CW.out _).mono ?_
      rintro e w2 ⟨rfl, b2⟩
      go_wp2_with fail
      go_ret2
      exact ⟨rfl, b1.then b2⟩
    · rw [wosR_long hs (by omega)]
      clear cs hs hg
      go_enter Try.func13, Try.ntmps13
      go_wp2_with fail
      refine (CS.out _).mono ?_
      rintro e w1 ⟨rfl, b1⟩
      go_wp2_with fail
      go_ret2
      exact ⟨rfl, b1⟩

set_option maxRecDepth 100000 in
set_option maxHeartbeats 1000000 in
theorem impl_CentralWord (p q : Int) (w : World) (wp : (Lit.int .i64 p).wf = true) (wq : (Lit.int .i64 q).wf = true) :
    Calls Try.prog 33 #[.int .i64 p, .int .i64 q] w fun e w' => e = .returned (.tuple #[.string (cenR p q).1, .int .i64 (cenR p q).2]) ∧ Below w.heap.size w w' := by
  have cs := fun W => isSlope_any p q 1 W (by omega) wp wq wf1
  cases hs : slo p q 1 with
  | false =>
    rw [cenR_no hs]
    rw [hs] at cs
    have CS := Lib.hid cs
    clear cs hs
    go_enter Try.func33, Try.ntmps33
    go_wp2_with fail
    refine (CS.out _).mono ?_
    rintro e w1 ⟨rfl, b1⟩
    go_wp2_with fail
    go_ret2
    exact ⟨rfl, b1⟩
  | true =>
    rw [hs] at cs
    obtain ⟨a, b, rfl, rfl, l1, l2, l3, l4, hg⟩ := slo_of (by omega) hs
    have CS := Lib.hid cs
    by_cases hl : a + b ≤ 62
    · rw [cenR_ok hs hl]
      have CW := Lib.hid fun W => slopeWord_any a b W (by omega) (by omega)
      have hsz : (bt (sloW a b)).size = a + b := sloW_len a b
      have hsl := fun W => slice_two (bt (sloW a b)) 1 ((a : Int) + (b : Int) - 1) 1 (a + b - 1) rfl (by omega) (by omega) (by omega) W
      rw [cen_cut] at hsl
      have hcs : (bt (cenW a b)).size ≤ 281474976710656 := by
        unfold cenW bt
        show ((sloW a b).take (a + b - 1) |>.drop 1).length ≤ _
        rw [List.length_drop, List.length_take, sloW_len]
        omega
      have HCS := Lib.hid hcs
      clear cs hs hg hcs hsz
      generalize bt (sloW a b) = x at *
      generalize bt (cenW a b) = y at *
      go_enter Try.func33, Try.ntmps33
      go_wp2_with fail
      refine (CS.out _).mono ?_
      rintro e w1 ⟨rfl, b1⟩
      go_wp2_with fail
      refine (CW.out _).mono ?_
      rintro e w2 ⟨rfl, b2⟩
      go_wp2_with fail
      refine (strings_Clone _ _ HCS.out).mono ?_
      rintro e w3 ⟨rfl, b3⟩
      go_wp2_with fail
      go_ret2
      exact ⟨rfl, (b1.then b2).then b3⟩
    · rw [cenR_long hs (by omega)]
      clear cs hs hg
      go_enter Try.func33, Try.ntmps33
      go_wp2_with fail
      refine (CS.out _).mono ?_
      rintro e w1 ⟨rfl, b1⟩
      go_wp2_with fail
      go_ret2
      exact ⟨rfl, b1⟩

set_option maxRecDepth 100000 in
set_option maxHeartbeats 1000000 in
theorem spec_CentralWord (p q : Int) (w : World) (wp : (Lit.int .i64 p).wf = true) (wq : (Lit.int .i64 q).wf = true) :
    Calls Try.prog 32 #[.int .i64 p, .int .i64 q] w fun e w' => e = .returned (.tuple #[.string (cenR p q).1, .int .i64 (cenR p q).2]) ∧ Below w.heap.size w w' := by
  have cs := fun W => l08Pair_any p q 1 W (by omega) wp wq wf1
  cases hs : slo p q 1 with
  | false =>
    rw [cenR_no hs]
    rw [show pairC p q 1 = 2 from by unfold pairC; rw [hs]; rfl] at cs
    have CS := Lib.hid cs
    clear cs hs
    go_enter Try.func32, Try.ntmps32
    go_wp2_with fail
    refine (CS.out _).mono ?_
    rintro e w1 ⟨rfl, b1⟩
    go_wp2_with fail
    go_ret2
    exact ⟨rfl, b1⟩
  | true =>
    rw [show pairC p q 1 = 0 from by unfold pairC; rw [hs]; rfl] at cs
    obtain ⟨a, b, rfl, rfl, l1, l2, l3, l4, hg⟩ := slo_of (by omega) hs
    have CS := Lib.hid cs
    by_cases hl : a + b ≤ 62
    · rw [cenR_ok hs hl]
      have CW := Lib.hid fun W => l08Word_any a b W (by omega) (by omega)
      have hsz : (bt (sloW a b)).size = a + b := sloW_len a b
      have hsl := fun W => slice_two (bt (sloW a b)) 1 (((bt (sloW a b)).size : Int) - 1) 1 (a + b - 1) rfl (by omega) (by omega) (by omega) W
      rw [cen_cut] at hsl
      have h1s : 1 ≤ (bt (sloW a b)).size := by omega
      have h2s : (bt (sloW a b)).size ≤ 62 := by omega
      clear cs hs hg hsz
      generalize bt (sloW a b) = x at *
      generalize bt (cenW a b) = y at *
      go_enter Try.func32, Try.ntmps32
      go_wp2_with fail
      refine (CS.out _).mono ?_
      rintro e w1 ⟨rfl, b1⟩
      go_wp2_with fail
      refine (CW.out _).mono ?_
      rintro e w2 ⟨rfl, b2⟩
      go_wp2_with fail
      go_ret2
      exact ⟨rfl, b1.then b2⟩
    · rw [cenR_long hs (by omega)]
      clear cs hs hg
      go_enter Try.func32, Try.ntmps32
      go_wp2_with fail
      refine (CS.out _).mono ?_
      rintro e w1 ⟨rfl, b1⟩
      go_wp2_with fail
      go_ret2
      exact ⟨rfl, b1⟩

end Go.Proofs.Ytddfdciohnabbaa
