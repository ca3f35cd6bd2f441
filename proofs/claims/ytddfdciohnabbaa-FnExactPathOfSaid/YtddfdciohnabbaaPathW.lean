/- Paths of slopes: both sides. -/
import Derived.Test.YtddfdciohnabbaaSlo
import Derived.Deep.LoopGhost
namespace Go.Proofs.Ytddfdciohnabbaa
set_option linter.unusedVariables false
set_option linter.unusedSimpArgs false
open Go.RowKit

theorem wf1p : (Lit.int .i64 1).wf = true := by decide

set_option maxRecDepth 100000 in
set_option maxHeartbeats 2000000 in
theorem spec_PathOf (p q : Int) (w : World) (wp : (Lit.int .i64 p).wf = true) (wq : (Lit.int .i64 q).wf = true) :
    Calls Try.prog 36 #[.int .i64 p, .int .i64 q] w fun e w' => e = .returned (.tuple #[.string (pathR p q).1, .int .i64 (pathR p q).2]) ∧ Below w.heap.size w w' := by
  have cs := fun W => l08Pair_any p q 1 W (by omega) wp wq wf1p
  cases hs : slo p q 1 with
  | false =>
    rw [pathR_no hs]
    rw [show pairC p q 1 = 2 from by unfold pairC; rw [hs]; rfl] at cs
    have CS := Lib.hid cs
    clear cs hs
    go_enter Try.func36, Try.ntmps36
    go_wp2_with fail
    refine (CS.out _).mono ?_
    rintro e w1 ⟨rfl, b1⟩
    go_wp2_with fail
    go_ret2
    exact ⟨rfl, b1⟩
  | true =>
    rw [show pairC p q 1 = 0 from by unfold pairC; rw [hs]; rfl] at cs
    obtain ⟨a, b, rfl, rfl, l1, l2, l3, l4, hg⟩ := slo_of (by omega) hs
    have CS := Lib.hid cs
    obtain ⟨R, hR⟩ : ∃ R, pathR (a : Int) (b : Int) = R := ⟨_, rfl⟩
    have HR1 : Hid (60 < (pthL a b).length → R = (tE, 3)) := Lib.hid fun h => by rw [← hR]; exact pathR_long hs h
    have HR0 : Hid ((pthL a b).length ≤ 60 → R = (bt (pthL a b), 0)) := Lib.hid fun h => by rw [← hR]; exact pathR_ok hs h
    have l1' : 0 < a := by omega
    have l2' : 0 < b := by omega
    rw [hR]
    clear hs hg cs hR
    go_enter Try.func36, Try.ntmps36
    go_wp2_with fail
    refine (CS.out _).mono ?_
    rintro e w1 ⟨rfl, b1⟩
    go_wp2_with fail
    go_loopg [0, 1, 7] 2000 (fun gk s0 s1 o wr => ∃ (x y : Nat) (l : List UInt8) (t : ByteArray), s0 = .int .i64 (x : Int) ∧ s1 = .int .i64 (y : Int) ∧ o = .string t ∧ Hid (t = bt l) ∧ Hid (t.size = l.length) ∧ t.size ≤ 60 ∧ 0 < x ∧ 0 < y ∧ x + y ≤ gk ∧ gk ≤ 2000 ∧ Hid (l ++ pthL x y = pthL a b) ∧ Below w.heap.size w wr)
    case atStart => exact ⟨a, b, [], ⟨#[]⟩, rfl, rfl, rfl, Lib.hid rfl, Lib.hid rfl, by show 0 ≤ 60; omega, l1', l2', by omega, by omega, Lib.hid rfl, b1⟩
    case round =>
      obtain ⟨x, y, l, t, rfl, rfl, rfl, HT, HS, ht, hx, hy, hg, hg2, HP, hB⟩ := hrel
      by_cases he : x = y
      · subst he
        have HL : Hid (l = pthL a b) := Lib.hid (by rw [← HP.out, pthL_eq x hx, List.append_nil])
        have HLE : Hid ((pthL a b).length ≤ 60) := Lib.hid (by rw [← HL.out, ← HS.out]; exact ht)
        go_wp2
        go_ret2
        exact ⟨by rw [HR0.out HLE.out, ← HL.out, HT.out]; rfl, hB⟩
      · have hei : ¬ (x : Int) = (y : Int) := by omega
        have hne : ((x : Int) != (y : Int)) = true := by simp; omega
        by_cases hlt : y < x
        · have hlti : (y : Int) < (x : Int) := by omega
          have hsub : (x : Int) - (y : Int) = ((x - y : Nat) : Int) := by omega
          have HP2 : Hid ((l ++ [98]) ++ pthL (x - y) y = pthL a b) := Lib.hid (by rw [← HP.out, pthL_gt hy hlt, List.append_assoc]; rfl)
          have ht2 : (t ++ (⟨#[98]⟩ : ByteArray)).size = t.size + 1 := by rw [ByteArray.size_append]; rfl
          have HT2 : Hid (t ++ (⟨#[98]⟩ : ByteArray) = bt (l ++ [98])) := Lib.hid (by rw [HT.out, ← bt_app]; rfl)
          have HS2 : Hid ((t ++ (⟨#[98]⟩ : ByteArray)).size = (l ++ [98]).length) := Lib.hid (by rw [HT2.out]; rfl)
          obtain ⟨d, hd⟩ : ∃ d, x - y = d := ⟨_, rfl⟩
          rw [hd] at hsub HP2
          have hd0 : 0 < d := by omega
          have hdg : d + y + 1 ≤ gk := by omega
          clear hd
          have HTS := Lib.hid ht2
          clear ht2
          by_cases h60 : 60 < t.size + 1
          · have HLO : Hid (60 < (pthL a b).length) := Lib.hid (by rw [← HP2.out, List.length_append, ← HS2.out, HTS.out]; omega)
            have h60i : (60 : Int) < (t.size : Int) + 1 := by omega
            clear h60
            go_wp2
            go_ret2
            exact ⟨by rw [HR1.out HLO.out]; rfl, hB⟩
          · have h60i : ¬ (60 : Int) < (t.size : Int) + 1 := by omega
            have h60' := Lib.hid (show t.size + 1 ≤ 60 by omega)
            clear h60
            go_wp2
            go_roundg (gk - 1)
            case measure => omega
            case rel => exact ⟨d, y, l ++ [98], t ++ ⟨#[98]⟩, by first | rfl | simp [*], rfl, rfl, HT2, HS2, by rw [HTS.out]; exact h60'.out, hd0, hy, by omega, by omega, HP2, hB⟩
        · have hlt2 : x < y := by omega
          have hlti : ¬ (y : Int) < (x : Int) := by omega
          have hsub : (y : Int) - (x : Int) = ((y - x : Nat) : Int) := by omega
          have HP2 : Hid ((l ++ [97]) ++ pthL x (y - x) = pthL a b) := Lib.hid (by rw [← HP.out, pthL_lt hx hlt2, List.append_assoc]; rfl)
          have ht2 : (t ++ (⟨#[97]⟩ : ByteArray)).size = t.size + 1 := by rw [ByteArray.size_append]; rfl
          have HT2 : Hid (t ++ (⟨#[97]⟩ : ByteArray) = bt (l ++ [97])) := Lib.hid (by rw [HT.out, ← bt_app]; rfl)
          have HS2 : Hid ((t ++ (⟨#[97]⟩ : ByteArray)).size = (l ++ [97]).length) := Lib.hid (by rw [HT2.out]; rfl)
          obtain ⟨d, hd⟩ : ∃ d, y - x = d := ⟨_, rfl⟩
          rw [hd] at hsub HP2
          have hd0 : 0 < d := by omega
          have hdg : x + d + 1 ≤ gk := by omega
          clear hd
          have HTS := Lib.hid ht2
          clear ht2
          by_cases h60 : 60 < t.size + 1
          · have HLO : Hid (60 < (pthL a b).length) := Lib.hid (by rw [← HP2.out, List.length_append, ← HS2.out, HTS.out]; omega)
            have h60i : (60 : Int) < (t.size : Int) + 1 := by omega
            clear h60
            go_wp2
            go_ret2
            exact ⟨by rw [HR1.out HLO.out]; rfl, hB⟩
          · have h60i : ¬ (60 : Int) < (t.size : Int) + 1 := by omega
            have h60' := Lib.hid (show t.size + 1 ≤ 60 by omega)
            clear h60
            go_wp2
            go_roundg (gk - 1)
            case measure => omega
            case rel => exact ⟨x, d, l ++ [97], t ++ ⟨#[97]⟩, rfl, by first | rfl | simp [*], rfl, HT2, HS2, by rw [HTS.out]; exact h60'.out, hx, hd0, by omega, by omega, HP2, hB⟩

set_option maxRecDepth 100000 in
set_option maxHeartbeats 2000000 in
theorem impl_PathOf (p q : Int) (w : World) (wp : (Lit.int .i64 p).wf = true) (wq : (Lit.int .i64 q).wf = true) :
    Calls Try.prog 37 #[.int .i64 p, .int .i64 q] w fun e w' => e = .returned (.tuple #[.string (pathR p q).1, .int .i64 (pathR p q).2]) ∧ Below w.heap.size w w' := by
  have cs := fun W => isSlope_any p q 1 W (by omega) wp wq wf1p
  cases hs : slo p q 1 with
  | false =>
    rw [pathR_no hs]
    rw [hs] at cs
    have CS := Lib.hid cs
    clear cs hs
    go_enter Try.func37, Try.ntmps37
    go_wp2_with fail
    refine (CS.out _).mono ?_
    rintro e w1 ⟨rfl, b1⟩
    go_wp2_with fail
    go_ret2
    exact ⟨rfl, b1⟩
  | true =>
    rw [hs] at cs
    obtain ⟨a, b, rfl, rfl, l1, l2, l3, l4, hg⟩ := slo_of (by omega) hs
    have CS := Lib.hid cs
    obtain ⟨R, hR⟩ : ∃ R, pathR (a : Int) (b : Int) = R := ⟨_, rfl⟩
    have HR1 : Hid (60 < (pthL a b).length → R = (tE, 3)) := Lib.hid fun h => by rw [← hR]; exact pathR_long hs h
    have HR0 : Hid ((pthL a b).length ≤ 60 → R = (bt (pthL a b), 0)) := Lib.hid fun h => by rw [← hR]; exact pathR_ok hs h
    have l1' : 0 < a := by omega
    have l2' : 0 < b := by omega
    rw [hR]
    clear hs hg cs hR
    go_enter Try.func37, Try.ntmps37
    go_wp2_with fail
    refine (CS.out _).mono ?_
    rintro e w1 ⟨rfl, b1⟩
    have hfb : Lib.IsBuilderF 76 5 w1.heap.size w1.heap.size (Lib.byteCells []) (w1.alloc (.cells #[.pointer none, .slice none 0 0] 76)) := Lib.IsBuilderF.of (Lib.fresh_isBuilder 76 5 w1)
    have HFB := Lib.hid hfb
    have HB1 := Lib.hid b1
    clear hfb b1
    go_wp2_with fail
    go_loopg [0, 1] 2000 (fun gk s0 s1 wr => ∃ (x y : Nat) (l : List UInt8), s0 = .int .i64 (x : Int) ∧ s1 = .int .i64 (y : Int) ∧ l.length ≤ 60 ∧ 0 < x ∧ 0 < y ∧ x + y ≤ gk ∧ gk ≤ 2000 ∧ Hid (l ++ pthL x y = pthL a b) ∧ Lib.IsBuilderF 76 5 w1.heap.size w1.heap.size (Lib.byteCells l) wr ∧ Below w1.heap.size w1 wr)
    case atStart => exact ⟨a, b, [], rfl, rfl, by show 0 ≤ 60; omega, l1', l2', by omega, by omega, Lib.hid rfl, HFB.out, Below.new _ _⟩
    case round =>
      obtain ⟨x, y, l, rfl, rfl, ht, hx, hy, hg, hg2, HP, hI, hB⟩ := hrel
      have HI := Lib.hid hI
      have hz := hB.size
      have HLC : Hid ((Lib.byteCells l).length = l.length) := Lib.hid (Lib.byteCells_length l)
      clear hI
      by_cases he : x = y
      · subst he
        have HL : Hid (l = pthL a b) := Lib.hid (by rw [← HP.out, pthL_eq x hx, List.append_nil])
        have HLE : Hid ((pthL a b).length ≤ 60) := Lib.hid (by rw [← HL.out]; exact ht)
        go_wp2_with fail
        refine (Try.Builder_String_any_k w1.heap.size w1.heap.size l _ HI.out hz).mono ?_
        rintro e w2 ⟨rfl, _, b2, _⟩
        go_wp2_with fail
        go_ret2
        exact ⟨by rw [HR0.out HLE.out, ← HL.out]; rfl, HB1.out.then (hB.trans b2)⟩
      · have hei : ¬ (x : Int) = (y : Int) := by omega
        have hne : ((x : Int) != (y : Int)) = true := by simp; omega
        by_cases h60 : l.length = 60
        · have HLO : Hid (60 < (pthL a b).length) := Lib.hid (by
            rw [← HP.out, List.length_append, h60]
            rcases Nat.lt_or_gt_of_ne he with h | h
            · rw [pthL_lt hx h, List.length_cons]; omega
            · rw [pthL_gt hy h, List.length_cons]; omega)
          have h60i : ((l.length : Int)) = 60 := by omega
          clear h60
          go_wp2_with fail
          refine (Try.Builder_Len_f w1.heap.size w1.heap.size _ _ HI.out).mono ?_
          rintro e w2 ⟨rfl, rfl⟩
          rw [HLC.out]
          go_wp2_with fail
          go_ret2
          exact ⟨by rw [HR1.out HLO.out]; rfl, HB1.out.then hB⟩
        · have h60i : ¬ ((l.length : Int)) = 60 := by omega
          have h60n : l.length + 1 ≤ 60 := by omega
          by_cases hlt : y < x
          · have hlti : (y : Int) < (x : Int) := by omega
            have hlti2 : ¬ (x : Int) < (y : Int) := by omega
            have hsub : (x : Int) - (y : Int) = ((x - y : Nat) : Int) := by omega
            have HP2 : Hid ((l ++ [98]) ++ pthL (x - y) y = pthL a b) := Lib.hid (by rw [← HP.out, pthL_gt hy hlt, List.append_assoc]; rfl)
            obtain ⟨d, hd⟩ : ∃ d, x - y = d := ⟨_, rfl⟩
            rw [hd] at hsub HP2
            have hd0 : 0 < d := by omega
            have hdg : d + y + 1 ≤ gk := by omega
            clear hd
            go_wp2_with fail
            refine (Try.Builder_Len_f w1.heap.size w1.heap.size _ _ HI.out).mono ?_
            rintro e w2 ⟨rfl, rfl⟩
            rw [HLC.out]
            go_wp2_with fail
            refine (Try.Builder_WriteByte_k w1.heap.size w1.heap.size _ 98 _ HI.out (by rw [HLC.out]; omega) hz).mono ?_
            rintro e w2 ⟨rfl, hI2, b2, _⟩
            have HI2 : Hid (Lib.IsBuilderF 76 5 w1.heap.size w1.heap.size (Lib.byteCells (l ++ [98])) w2) := Lib.hid (by rw [Lib.byteCells_append]; exact .inr hI2)
            clear hI2
            go_wp2_with fail
            go_roundg (gk - 1)
            case measure => omega
            case rel => exact ⟨d, y, l ++ [98], by first | rfl | simp [*], rfl, by rw [List.length_append]; exact h60n, hd0, hy, by omega, by omega, HP2, HI2.out, hB.trans b2⟩
          · have hlt2 : x < y := by omega
            have hlti : ¬ (y : Int) < (x : Int) := by omega
            have hlti2 : (x : Int) < (y : Int) := by omega
            have hsub : (y : Int) - (x : Int) = ((y - x : Nat) : Int) := by omega
            have HP2 : Hid ((l ++ [97]) ++ pthL x (y - x) = pthL a b) := Lib.hid (by rw [← HP.out, pthL_lt hx hlt2, List.append_assoc]; rfl)
            obtain ⟨d, hd⟩ : ∃ d, y - x = d := ⟨_, rfl⟩
            rw [hd] at hsub HP2
            have hd0 : 0 < d := by omega
            have hdg : x + d + 1 ≤ gk := by omega
            clear hd
            go_wp2_with fail
            refine (Try.Builder_Len_f w1.heap.size w1.heap.size _ _ HI.out).mono ?_
            rintro e w2 ⟨rfl, rfl⟩
            rw [HLC.out]
            go_wp2_with fail
            refine (Try.Builder_WriteByte_k w1.heap.size w1.heap.size _ 97 _ HI.out (by rw [HLC.out]; omega) hz).mono ?_
            rintro e w2 ⟨rfl, hI2, b2, _⟩
            have HI2 : Hid (Lib.IsBuilderF 76 5 w1.heap.size w1.heap.size (Lib.byteCells (l ++ [97])) w2) := Lib.hid (by rw [Lib.byteCells_append]; exact .inr hI2)
            clear hI2
            go_wp2_with fail
            go_roundg (gk - 1)
            case measure => omega
            case rel => exact ⟨x, d, l ++ [97], rfl, by first | rfl | simp [*], by rw [List.length_append]; exact h60n, hx, hd0, by omega, by omega, HP2, HI2.out, hB.trans b2⟩

end Go.Proofs.Ytddfdciohnabbaa
