/- The longest factor that is not bordered: the model. -/
import Derived.Test.YtinanajagkilaaaLuPlain
import Derived.Test.YtinanajagkilaaaExp
import Derived.Test.YtinanajagkilaaaFactor
import Derived.WalkMore
import Derived.Deep.LoopGhost
namespace Go.Proofs.Ytinanajagkilaaa
set_option linter.unusedVariables false
set_option linter.unusedSimpArgs false
open Go.RowKit

set_option maxRecDepth 100000 in
set_option maxHeartbeats 2000000 in
theorem spec_LongestUnbordered (x : ByteArray) (w : World) (sx : x.size ≤ maxLen) :
    Calls Try.prog 45 #[.string x] w fun e w' => e = .returned (.tuple #[.string (luR x).1, .int .i64 (luR x).2]) ∧ Below w.heap.size w w' := by
  by_cases h : IsW x
  · by_cases h0 : x.size = 0
    · rw [luR_nil h h0]
      have H := Lib.hid h
      clear h
      go_enter Try.func45, Try.ntmps45
      go_wp2_with fail
      refine (l02Given_nil x _ H.out h0).mono ?_
      rintro e w1 ⟨rfl, b1⟩
      go_wp2_with fail
      go_ret2
      exact ⟨rfl, b1⟩
    · rw [luR_ok h h0]
      have h1 := h.size
      have H := Lib.hid h
      clear h
      obtain ⟨R, hR⟩ : ∃ R, luF x x.size = R := ⟨_, rfl⟩
      rw [hR]
      have HR0 := Lib.hid hR
      clear hR
      go_enter Try.func45, Try.ntmps45
      go_wp2_with fail
      refine (l02Given_ok x _ H.out h0).mono ?_
      rintro e w1 ⟨rfl, b1⟩
      go_wp2_with fail
      go_loopg [5] x.size (fun g s5 wr => ∃ n : Nat, n ≤ g ∧ n ≤ x.size ∧ s5 = .int .i64 (n : Int) ∧ Below w.heap.size w wr ∧ Hid (luF x n = R))
      case atStart => exact ⟨x.size, Nat.le_refl _, Nat.le_refl _, rfl, b1, HR0⟩
      case round =>
        obtain ⟨n, hn, hnx, rfl, hB, HR⟩ := hrel
        clear b1 HR0
        by_cases hp : 1 < n
        · obtain ⟨g, rfl⟩ : ∃ g, gk = g + 1 := ⟨gk - 1, by omega⟩
          have hpi : (1 : Int) < (n : Int) := by omega
          have hpd : decide ((1 : Int) < (n : Int)) = true := decide_eq_true hpi
          go_wp2
          try rw [hpd]
          clear hpd
          go_loopg [6] (x.size + 1 - n) (fun g2 s6 wr => ∃ i : Nat, i + g2 = x.size + 1 - n ∧ s6 = .int .i64 (i : Int) ∧ Below w.heap.size w wr ∧ Hid (luI x n 0 (x.size + 1 - n) = luI x n i g2))
          case atStart => exact ⟨0, by omega, rfl, hB, Lib.hid rfl⟩
          case round =>
            clear hB
            obtain ⟨i, hi, rfl, hB, HI⟩ := hrel
            by_cases hp2 : i + n ≤ x.size
            · obtain ⟨g2, rfl⟩ : ∃ g2, gk = g2 + 1 := ⟨gk - 1, by omega⟩
              have hsl := fun W => slice_mid x i n hp2 W
              have hle : (i : Int) + (n : Int) ≤ (x.size : Int) := by omega
              have z1 : (x.extract i (i + n)).size = n := by simp; omega
              by_cases he : lp (bl (x.extract i (i + n))) = n
              · have HV : Hid (R = x.extract i (i + n)) := Lib.hid (by
                  rw [← HR.out]
                  exact luF_hit (by omega) (by rw [HI.out, luI_hit he]))
                have CP := Lib.hid (fun w => l02Periods_first (x.extract i (i + n)) w (by omega) (by omega))
                generalize x.extract i (i + n) = y at *
                rw [he] at CP
                go_wp2_with fail
                refine (CP.out _).mono ?_
                rintro e w2 ⟨gg, nn, cp, rfl, hnn, hcc, k1, b2⟩
                have B := hB.then b2
                go_wp2_with fail
                go_ret2
                rw [HV.out]
                exact ⟨rfl, B⟩
              · have HN : Hid (luI x n 0 (x.size + 1 - n) = luI x n (i + 1) g2) := Lib.hid (by rw [HI.out, luI_miss he])
                have CP := Lib.hid (fun w => l02Periods_first (x.extract i (i + n)) w (by omega) (by omega))
                generalize x.extract i (i + n) = y at *
                have he2 : ¬ ((lp (bl y) : Nat) : Int) = (n : Int) := by omega
                generalize lp (bl y) = q at *
                go_wp2_with fail
                refine (CP.out _).mono ?_
                rintro e w2 ⟨gg, nn, cp, rfl, hnn, hcc, k1, b2⟩
                have B := hB.then b2
                go_wp2_with fail
                go_roundg g2
                case measure => omega
                case rel => exact ⟨i + 1, by omega, by go_num, B, HN⟩
            · have hle : ¬ (i : Int) + (n : Int) ≤ (x.size : Int) := by omega
              obtain rfl : gk = 0 := by omega
              have HN : Hid (luF x (n - 1) = R) := Lib.hid (by rw [← HR.out]; exact (luF_miss (by omega) (by rw [HI.out, luI_end])).symm)
              go_wp2
              go_roundg g
              case measure => omega
              case rel => exact ⟨n - 1, by omega, by omega, by go_num, hB, HN⟩
        · have hlow := luF_low x (m := n) (by omega)
          have hsl := fun W => slice_to x 1 1 rfl (by omega) W
          have HV : Hid (R = x.extract 0 1) := Lib.hid (by rw [← HR.out]; exact hlow)
          clear hlow
          generalize x.extract 0 1 = y at *
          go_wp2
          go_ret2
          rw [HV.out]
          exact ⟨rfl, hB⟩
  · rw [luR_bad h]
    have H := Lib.hid h
    clear h
    go_enter Try.func45, Try.ntmps45
    go_wp2_with fail
    refine (l02Given_bad x _ sx H.out).mono ?_
    rintro e w1 ⟨rfl, b1⟩
    go_wp2_with fail
    go_ret2
    exact ⟨rfl, b1⟩

end Go.Proofs.Ytinanajagkilaaa
