/- Words back to their numbers, cuts: the functions. -/
import Derived.Test.YtddfdciohnabbaaSow
import Derived.Test.YtddfdciohnabbaaLib
import Derived.Deep.Cut
import Derived.Deep.RegionHeld3
namespace Go.Proofs.Ytddfdciohnabbaa
set_option linter.unusedVariables false
set_option linter.unusedSimpArgs false
open Go.RowKit

set_option maxRecDepth 100000 in
set_option maxHeartbeats 1000000 in
theorem impl_SlopeOfWord (x : ByteArray) (w : World) (sx : x.size ≤ maxLen) :
    Calls Try.prog 16 #[.string x] w fun e w' => e = .returned (.tuple #[.int .i64 (sowR x).1, .int .i64 (sowR x).2.1, .int .i64 (sowR x).2.2]) ∧ Below w.heap.size w w' := by
  have ct := fun W => isWordOfTwo_any x W sx
  by_cases h : Two x
  · rw [decide_eq_true h] at ct
    have CT := Lib.hid ct
    have cs := fun W => slopeOf_any x W h.ab h.1.size
    by_cases k : slW (bl x)
    · rw [sowR_ok h k]
      rw [decide_eq_true k] at cs
      have CS := Lib.hid cs
      clear ct cs h k
      generalize cA (bl x) = a at *
      generalize cB (bl x) = b at *
      go_enter Try.func16, Try.ntmps16
      go_wp2_with fail
      refine (CT.out _).mono ?_
      rintro e w1 ⟨rfl, b1⟩
      go_wp2_with fail
      refine (CS.out _).mono ?_
      rintro e w2 ⟨rfl, b2⟩
      go_wp2_with fail
      go_ret3
      exact ⟨rfl, b1.then b2⟩
    · rw [sowR_no h k]
      rw [decide_eq_false k] at cs
      have CS := Lib.hid cs
      clear ct cs h k
      generalize cA (bl x) = a at *
      generalize cB (bl x) = b at *
      go_enter Try.func16, Try.ntmps16
      go_wp2_with fail
      refine (CT.out _).mono ?_
      rintro e w1 ⟨rfl, b1⟩
      go_wp2_with fail
      refine (CS.out _).mono ?_
      rintro e w2 ⟨rfl, b2⟩
      go_wp2_with fail
      go_ret3
      exact ⟨rfl, b1.then b2⟩
  · rw [decide_eq_false h] at ct
    rw [sowR_bad h]
    have CT := Lib.hid ct
    clear ct h
    go_enter Try.func16, Try.ntmps16
    go_wp2_with fail
    refine (CT.out _).mono ?_
    rintro e w1 ⟨rfl, b1⟩
    go_wp2_with fail
    go_ret3
    exact ⟨rfl, b1⟩

set_option maxRecDepth 100000 in
set_option maxHeartbeats 1000000 in
theorem spec_SlopeOfWord (x : ByteArray) (w : World) (sx : x.size ≤ maxLen) :
    Calls Try.prog 15 #[.string x] w fun e w' => e = .returned (.tuple #[.int .i64 (sowR x).1, .int .i64 (sowR x).2.1, .int .i64 (sowR x).2.2]) ∧ Below w.heap.size w w' := by
  have ct := fun W => l08Is_any x W sx
  by_cases h : Two x
  · rw [decide_eq_true h] at ct
    have CT := Lib.hid ct
    have cs := fun W => l08Slope_any x W h.ab h.1.size
    by_cases k : slW (bl x)
    · rw [sowR_ok h k]
      rw [decide_eq_true k] at cs
      have CS := Lib.hid cs
      clear ct cs h k
      generalize cA (bl x) = a at *
      generalize cB (bl x) = b at *
      go_enter Try.func15, Try.ntmps15
      go_wp2_with fail
      refine (CT.out _).mono ?_
      rintro e w1 ⟨rfl, b1⟩
      go_wp2_with fail
      refine (CS.out _).mono ?_
      rintro e w2 ⟨rfl, b2⟩
      go_wp2_with fail
      go_ret3
      exact ⟨rfl, b1.then b2⟩
    · rw [sowR_no h k]
      rw [decide_eq_false k] at cs
      have CS := Lib.hid cs
      clear ct cs h k
      generalize cA (bl x) = a at *
      generalize cB (bl x) = b at *
      go_enter Try.func15, Try.ntmps15
      go_wp2_with fail
      refine (CT.out _).mono ?_
      rintro e w1 ⟨rfl, b1⟩
      go_wp2_with fail
      refine (CS.out _).mono ?_
      rintro e w2 ⟨rfl, b2⟩
      go_wp2_with fail
      go_ret3
      exact ⟨rfl, b1.then b2⟩
  · rw [decide_eq_false h] at ct
    rw [sowR_bad h]
    have CT := Lib.hid ct
    clear ct h
    go_enter Try.func15, Try.ntmps15
    go_wp2_with fail
    refine (CT.out _).mono ?_
    rintro e w1 ⟨rfl, b1⟩
    go_wp2_with fail
    go_ret3
    exact ⟨rfl, b1⟩

set_option maxRecDepth 100000 in
theorem isSlopeWord_any (x : ByteArray) (w : World) (h : ab (bl x)) (h60 : x.size ≤ 60) :
    Calls Try.prog 70 #[.string x] w fun e w' => e = .returned (.bool (decide (slW (bl x)))) ∧ Below w.heap.size w w' := by
  have CS := Lib.hid fun W => slopeOf_any x W h h60
  clear h
  generalize decide (slW (bl x)) = D at *
  go_enter Try.func70, Try.ntmps70
  go_wp2_with fail
  refine (CS.out _).mono ?_
  rintro e w2 ⟨rfl, b2⟩
  go_wp2_with fail
  go_ret
  exact ⟨rfl, b2⟩

theorem bl_cut1 (x : ByteArray) (i : Nat) : bl (x.extract 0 i) = (bl x).take i := bl_take x i
theorem sz_take {x : ByteArray} {i : Nat} (h : i ≤ x.size) : (x.extract 0 i).size = i := by rw [ByteArray.size_extract]; omega
theorem sz_drop {x : ByteArray} {i : Nat} : (x.extract i x.size).size = x.size - i := by rw [ByteArray.size_extract]; omega

set_option maxRecDepth 100000 in
set_option maxHeartbeats 4000000 in
theorem impl_CutOf (x : ByteArray) (w : World) (sx : x.size ≤ maxLen) :
    Calls Try.prog 39 #[.string x] w fun e w' => e = .returned (.tuple #[.string (cutR x).1, .string (cutR x).2.1, .int .i64 (cutR x).2.2]) ∧ Below w.heap.size w w' := by
  have hmo : Try.prog.follows .mixedOrders = true := by kernel_rfl
  have CS := Lib.hid fun W => impl_SlopeOfWord x W sx
  by_cases h : Two x
  · by_cases k : slW (bl x)
    · have cs := CS.out
      rw [sowR_ok h k] at cs
      have CS2 := Lib.hid cs
      have h60 := h.1.size
      have HAB := Lib.hid h.ab
      obtain ⟨R, hR⟩ : ∃ R, cutR x = R := ⟨_, rfl⟩
      have HN : Hid (cutG (bl x) 1 = none → R = (tE, tE, 5)) := Lib.hid fun e => by rw [← hR]; exact cutR_none h k e
      have HY : Hid (∀ i, cutG (bl x) 1 = some i → R = (x.extract 0 i, x.extract i x.size, 0)) := Lib.hid fun i e => by rw [← hR]; exact cutR_some h k e
      rw [hR]
      clear cs CS h k hR
      generalize cA (bl x) = a at *
      generalize cB (bl x) = b at *
      go_enter Try.func39, Try.ntmps39
      go_wp2_with fail
      refine (CS2.out _).mono ?_
      rintro e w1 ⟨rfl, b1⟩
      go_wp2_with fail
      go_loopg [8] 61 (fun gk s wr => ∃ i : Nat, 1 ≤ i ∧ i + gk = 62 ∧ s = .int .i64 (i : Int) ∧ Hid (cutG (bl x) i = cutG (bl x) 1) ∧ Below w.heap.size w wr)
      case atStart => exact ⟨1, Nat.le_refl _, by omega, rfl, Lib.hid rfl, b1⟩
      case round =>
        obtain ⟨i, hi1, hig, rfl, HG, hB⟩ := hrel
        by_cases hp : i < x.size
        · obtain ⟨g1, rfl⟩ : ∃ j, gk = j + 1 := ⟨gk - 1, by omega⟩
          have hpi : (i : Int) < (x.size : Int) := by omega
          have hpl : i < (bl x).length := hp
          have z1 := sz_take (x := x) (i := i) (by omega)
          have z2 := sz_drop (x := x) (i := i)
          have s1 := fun W => slice_to x (i : Int) i rfl (by omega) W
          have s2 := fun W => slice_from x (i : Int) i rfl (by omega) W
          have c1 := fun W => isSlopeWord_any (x.extract 0 i) W (by rw [bl_cut1]; exact ab_take HAB.out i) (by omega)
          have c2 := fun W => isSlopeWord_any (x.extract i x.size) W (by rw [bl_drop]; exact ab_drop HAB.out i) (by omega)
          rw [bl_cut1] at c1
          rw [bl_drop] at c2
          have k1 := fun W => strings_Clone (x.extract 0 i) W (by omega)
          have k2 := fun W => strings_Clone (x.extract i x.size) W (by omega)
          have HY2 := Lib.hid (HY.out i)
          have K1 := Lib.hid k1
          have K2 := Lib.hid k2
          have HST : Hid (isCut (bl x) i → cutG (bl x) 1 = some i) := Lib.hid fun e => by rw [← HG.out]; exact cutG_yes hpl e
          have HSN : Hid (¬ isCut (bl x) i → cutG (bl x) (i + 1) = cutG (bl x) 1) := Lib.hid fun e => by rw [← HG.out]; exact (cutG_no hpl e).symm
          clear k1 k2 hpl z1 z2
          by_cases e1 : slW ((bl x).take i)
          · rw [decide_eq_true e1] at c1
            by_cases e2 : slW ((bl x).drop i)
            · rw [decide_eq_true e2] at c2
              have C1 := Lib.hid c1
              have C2 := Lib.hid c2
              have HE := Lib.hid (HY2.out (HST.out ⟨e1, e2⟩))
              clear c1 c2 e1 e2 HY2 HST HSN HY HN
              generalize x.extract 0 i = y at *
              generalize x.extract i x.size = z at *
              go_wp2_with fail
              refine (C1.out _).mono ?_
              rintro e w2 ⟨rfl, b2⟩
              go_wp2_with fail
              refine (C2.out _).mono ?_
              rintro e w3 ⟨rfl, b3⟩
              have CUR := (hB.then b2).then b3
              clear b2 b3
              go_wp2_with fail
              go_region_held3 (fun w' => True) (trivial) (first | (go_at_call 53; (first | (with_reducible refine (K1.out _).mono ?_) | (with_reducible refine (K2.out _).mono ?_)); rintro e y1 ⟨rfl, q1⟩; have CUR := (by first | (with_reducible exact CUR.then q1) | (with_reducible exact CUR.drew.then q1))))
              all_goals go_wp2_with fail
              all_goals go_ret3
              all_goals exact ⟨by rw [HE.out]; rfl, CUR⟩
            · rw [decide_eq_false e2] at c2
              have C1 := Lib.hid c1
              have C2 := Lib.hid c2
              have HE := Lib.hid (HSN.out (fun q => e2 q.2))
              clear c1 c2 e1 e2 HY2 HST HSN
              generalize x.extract 0 i = y at *
              generalize x.extract i x.size = z at *
              go_wp2_with fail
              refine (C1.out _).mono ?_
              rintro e w2 ⟨rfl, b2⟩
              go_wp2_with fail
              refine (C2.out _).mono ?_
              rintro e w3 ⟨rfl, b3⟩
              go_wp2_with fail
              go_roundg g1
              case measure => omega
              case rel => exact ⟨i + 1, by omega, by omega, by go_num, HE, (hB.then b2).then b3⟩
          · rw [decide_eq_false e1] at c1
            have C1 := Lib.hid c1
            have HE := Lib.hid (HSN.out (fun q => e1 q.1))
            clear c1 c2 e1 HY2 HST HSN
            generalize x.extract 0 i = y at *
            generalize x.extract i x.size = z at *
            go_wp2_with fail
            refine (C1.out _).mono ?_
            rintro e w2 ⟨rfl, b2⟩
            go_wp2_with fail
            go_roundg g1
            case measure => omega
            case rel => exact ⟨i + 1, by omega, by omega, by go_num, HE, hB.then b2⟩
        · have hpi : ¬ (i : Int) < (x.size : Int) := by omega
          have HE : Hid (cutG (bl x) 1 = none) := Lib.hid (by rw [← HG.out]; exact cutG_end (by rw [bl_len]; omega))
          go_wp2_with fail
          go_ret3
          exact ⟨by rw [HN.out HE.out]; rfl, hB⟩
    · have cs := CS.out
      rw [sowR_no h k] at cs
      have CS2 := Lib.hid cs
      rw [cutR_no h k]
      clear cs CS h k
      go_enter Try.func39, Try.ntmps39
      go_wp2_with fail
      refine (CS2.out _).mono ?_
      rintro e w1 ⟨rfl, b1⟩
      go_wp2_with fail
      go_ret3
      exact ⟨rfl, b1⟩
  · have cs := CS.out
    rw [sowR_bad h] at cs
    have CS2 := Lib.hid cs
    rw [cutR_bad h]
    clear cs CS h
    go_enter Try.func39, Try.ntmps39
    go_wp2_with fail
    refine (CS2.out _).mono ?_
    rintro e w1 ⟨rfl, b1⟩
    go_wp2_with fail
    go_ret3
    exact ⟨rfl, b1⟩

set_option maxRecDepth 100000 in
set_option maxHeartbeats 4000000 in
theorem spec_CutOf (x : ByteArray) (w : World) (sx : x.size ≤ maxLen) :
    Calls Try.prog 38 #[.string x] w fun e w' => e = .returned (.tuple #[.string (cutR x).1, .string (cutR x).2.1, .int .i64 (cutR x).2.2]) ∧ Below w.heap.size w w' := by
  have ct := fun W => l08Is_any x W sx
  by_cases h : Two x
  · rw [decide_eq_true h] at ct
    have CT := Lib.hid ct
    have h60 := h.1.size
    have cs := fun W => l08Slope_any x W h.ab h60
    by_cases k : slW (bl x)
    · rw [decide_eq_true k] at cs
      have CS2 := Lib.hid cs
      have HAB := Lib.hid h.ab
      obtain ⟨R, hR⟩ : ∃ R, cutR x = R := ⟨_, rfl⟩
      have HN : Hid (cutG (bl x) 1 = none → R = (tE, tE, 5)) := Lib.hid fun e => by rw [← hR]; exact cutR_none h k e
      have HY : Hid (∀ i, cutG (bl x) 1 = some i → R = (x.extract 0 i, x.extract i x.size, 0)) := Lib.hid fun i e => by rw [← hR]; exact cutR_some h k e
      rw [hR]
      clear cs ct h k hR
      generalize cA (bl x) = a at *
      generalize cB (bl x) = b at *
      go_enter Try.func38, Try.ntmps38
      go_wp2_with fail
      refine (CT.out _).mono ?_
      rintro e w0 ⟨rfl, b0⟩
      go_wp2_with fail
      refine (CS2.out _).mono ?_
      rintro e w1 ⟨rfl, b1⟩
      have B1 := b0.then b1
      clear b0 b1
      go_wp2_with fail
      go_loopg [8] 61 (fun gk s wr => ∃ i : Nat, 1 ≤ i ∧ i + gk = 62 ∧ s = .int .i64 (i : Int) ∧ Hid (cutG (bl x) i = cutG (bl x) 1) ∧ Below w.heap.size w wr)
      case atStart => exact ⟨1, Nat.le_refl _, by omega, rfl, Lib.hid rfl, B1⟩
      case round =>
        obtain ⟨i, hi1, hig, rfl, HG, hB⟩ := hrel
        by_cases hp : i < x.size
        · obtain ⟨g1, rfl⟩ : ∃ j, gk = j + 1 := ⟨gk - 1, by omega⟩
          have hpi : (i : Int) < (x.size : Int) := by omega
          have hpd : decide ((i : Int) < (x.size : Int)) = true := by simp; omega
          have hpl : i < (bl x).length := hp
          have z1 := sz_take (x := x) (i := i) (by omega)
          have z2 := sz_drop (x := x) (i := i)
          have s1 := fun W => slice_to x (i : Int) i rfl (by omega) W
          have s2 := fun W => slice_from x (i : Int) i rfl (by omega) W
          have c1 := fun W => l08Slope_any (x.extract 0 i) W (by rw [bl_cut1]; exact ab_take HAB.out i) (by omega)
          have c2 := fun W => l08Slope_any (x.extract i x.size) W (by rw [bl_drop]; exact ab_drop HAB.out i) (by omega)
          rw [bl_cut1] at c1
          rw [bl_drop] at c2
          have HY2 := Lib.hid (HY.out i)
          have HST : Hid (isCut (bl x) i → cutG (bl x) 1 = some i) := Lib.hid fun e => by rw [← HG.out]; exact cutG_yes hpl e
          have HSN : Hid (¬ isCut (bl x) i → cutG (bl x) (i + 1) = cutG (bl x) 1) := Lib.hid fun e => by rw [← HG.out]; exact (cutG_no hpl e).symm
          clear hpl z1 z2
          generalize cA ((bl x).take i) = a1 at *
          generalize cB ((bl x).take i) = a2 at *
          generalize cA ((bl x).drop i) = a3 at *
          generalize cB ((bl x).drop i) = a4 at *
          by_cases e1 : slW ((bl x).take i)
          · rw [decide_eq_true e1] at c1
            by_cases e2 : slW ((bl x).drop i)
            · rw [decide_eq_true e2] at c2
              have C1 := Lib.hid c1
              have C2 := Lib.hid c2
              have HE := Lib.hid (HY2.out (HST.out ⟨e1, e2⟩))
              clear c1 c2 e1 e2 HY2 HST HSN HY HN
              generalize x.extract 0 i = y at *
              generalize x.extract i x.size = z at *
              go_wp2_with fail
              refine (C1.out _).mono ?_
              rintro e w2 ⟨rfl, b2⟩
              go_wp2_with fail
              refine (C2.out _).mono ?_
              rintro e w3 ⟨rfl, b3⟩
              have CUR := (hB.then b2).then b3
              clear b2 b3
              go_wp2_with fail
              go_quiet (fail)
              go_wp2_with fail
              go_ret3
              exact ⟨by rw [HE.out]; rfl, CUR.drewN _⟩
            · rw [decide_eq_false e2] at c2
              have C1 := Lib.hid c1
              have C2 := Lib.hid c2
              have HE := Lib.hid (HSN.out (fun q => e2 q.2))
              clear c1 c2 e1 e2 HY2 HST HSN
              generalize x.extract 0 i = y at *
              generalize x.extract i x.size = z at *
              go_wp2_with fail
              refine (C1.out _).mono ?_
              rintro e w2 ⟨rfl, b2⟩
              go_wp2_with fail
              refine (C2.out _).mono ?_
              rintro e w3 ⟨rfl, b3⟩
              go_wp2_with fail
              go_roundg g1
              case measure => omega
              case rel => exact ⟨i + 1, by omega, by omega, by go_num, HE, (hB.then b2).then b3⟩
          · rw [decide_eq_false e1] at c1
            have C1 := Lib.hid c1
            have HE := Lib.hid (HSN.out (fun q => e1 q.1))
            have C2 := Lib.hid c2
            clear c1 c2 e1 HY2 HST HSN
            generalize x.extract 0 i = y at *
            generalize x.extract i x.size = z at *
            go_wp2_with fail
            refine (C1.out _).mono ?_
            rintro e w2 ⟨rfl, b2⟩
            go_wp2_with fail
            refine (C2.out _).mono ?_
            rintro e w3 ⟨rfl, b3⟩
            go_wp2_with fail
            go_roundg g1
            case measure => omega
            case rel => exact ⟨i + 1, by omega, by omega, by go_num, HE, (hB.then b2).then b3⟩
        · have hpi : ¬ (i : Int) < (x.size : Int) := by omega
          have hpd : decide ((i : Int) < (x.size : Int)) = false := by simp; omega
          have HE : Hid (cutG (bl x) 1 = none) := Lib.hid (by rw [← HG.out]; exact cutG_end (by rw [bl_len]; omega))
          go_wp2_with fail
          go_ret3
          exact ⟨by rw [HN.out HE.out]; rfl, hB⟩
    · rw [decide_eq_false k] at cs
      have CS2 := Lib.hid cs
      rw [cutR_no h k]
      clear cs ct h k
      generalize cA (bl x) = a at *
      generalize cB (bl x) = b at *
      have h1d : ∀ n : Nat, True := fun _ => trivial
      go_enter Try.func38, Try.ntmps38
      go_wp2_with fail
      refine (CT.out _).mono ?_
      rintro e w0 ⟨rfl, b0⟩
      go_wp2_with fail
      refine (CS2.out _).mono ?_
      rintro e w1 ⟨rfl, b1⟩
      have B1 := b0.then b1
      clear b0 b1
      go_wp2_with fail
      refine wp_loop_rounds 1 ?_
      rw [rounds_succ]
      by_cases hp : (1 : Int) < (x.size : Int)
      · have hpd : decide ((1 : Int) < (x.size : Int)) = true := by simp; omega
        go_wp2_with fail
        go_ret3
        exact ⟨rfl, B1⟩
      · have hpd : decide ((1 : Int) < (x.size : Int)) = false := by simp; omega
        go_wp2_with fail
        go_ret3
        exact ⟨rfl, B1⟩
  · rw [decide_eq_false h] at ct
    rw [cutR_bad h]
    have CT := Lib.hid ct
    clear ct h
    go_enter Try.func38, Try.ntmps38
    go_wp2_with fail
    refine (CT.out _).mono ?_
    rintro e w1 ⟨rfl, b1⟩
    go_wp2_with fail
    go_ret3
    exact ⟨rfl, b1⟩

end Go.Proofs.Ytddfdciohnabbaa
