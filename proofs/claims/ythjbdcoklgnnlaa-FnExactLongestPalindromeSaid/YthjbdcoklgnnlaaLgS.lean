/- The longest palindrome of a word: the model. -/
import Derived.Test.YthjbdcoklgnnlaaLgPlain
import Derived.Test.YthjbdcoklgnnlaaPal
import Derived.Test.YthjbdcoklgnnlaaExp
import Derived.Test.YthjbdcoklgnnlaaFactor
import Derived.WalkMore
import Derived.Deep.LoopGhost
namespace Go.Proofs.Ythjbdcoklgnnlaa
set_option linter.unusedVariables false
set_option linter.unusedSimpArgs false
open Go.RowKit

set_option maxRecDepth 100000 in
set_option maxHeartbeats 2000000 in
theorem spec_LongestPalindrome (x : ByteArray) (w : World) (sx : x.size ≤ maxLen) :
    Calls Try.prog 26 #[.string x] w fun e w' => e = .returned (.tuple #[.string (lgR x).1, .int .i64 (lgR x).2.1, .int .i64 (lgR x).2.2]) ∧ Below w.heap.size w w' := by
  by_cases h : IsW x
  · by_cases h0 : x.size = 0
    · rw [lgR_nil h h0]
      have H := Lib.hid h
      clear h
      go_enter Try.func26, Try.ntmps26
      go_wp2_with fail
      refine (l02Given_nil x _ H.out h0).mono ?_
      rintro e w1 ⟨rfl, b1⟩
      go_wp2_with fail
      go_ret3
      exact ⟨rfl, b1⟩
    · rw [lgR_ok h h0]
      have h1 := h.size
      have H := Lib.hid h
      clear h
      obtain ⟨R, pl, hR⟩ : ∃ R pl, lgF x x.size = (R, pl) := ⟨_, _, rfl⟩
      rw [hR]
      have HR0 := Lib.hid hR
      clear hR
      go_enter Try.func26, Try.ntmps26
      go_wp2_with fail
      refine (l02Given_ok x _ H.out h0).mono ?_
      rintro e w1 ⟨rfl, b1⟩
      go_wp2_with fail
      go_loopg [6] x.size (fun g s6 wr => ∃ n : Nat, n ≤ g ∧ 1 ≤ n ∧ n ≤ x.size ∧ s6 = .int .i64 (n : Int) ∧ Below w.heap.size w wr ∧ Hid (lgF x n = (R, pl)))
      case atStart => exact ⟨x.size, Nat.le_refl _, by omega, Nat.le_refl _, rfl, b1, HR0⟩
      case round =>
        obtain ⟨n, hn, hn1, hnx, rfl, hB, HR⟩ := hrel
        clear b1 HR0
        by_cases hp : 1 < n
        · obtain ⟨g, rfl⟩ : ∃ g, gk = g + 1 := ⟨gk - 1, by omega⟩
          have hpi : (1 : Int) < (n : Int) := by omega
          have hpd : decide ((1 : Int) < (n : Int)) = true := decide_eq_true hpi
          go_wp2
          try rw [hpd]
          clear hpd
          go_loopg [7] (x.size + 1 - n) (fun g2 s7 wr => ∃ i : Nat, i + g2 = x.size + 1 - n ∧ s7 = .int .i64 (i : Int) ∧ Below w.heap.size w wr ∧ Hid (piI x n 0 (x.size + 1 - n) = piI x n i g2))
          case atStart => exact ⟨0, by omega, rfl, hB, Lib.hid rfl⟩
          case round =>
            clear hB
            obtain ⟨i, hi, rfl, hB, HI⟩ := hrel
            by_cases hp2 : i + n ≤ x.size
            · obtain ⟨g2, rfl⟩ : ∃ g2, gk = g2 + 1 := ⟨gk - 1, by omega⟩
              have hsl := fun W => slice_mid x i n hp2 W
              have hle : (i : Int) + (n : Int) ≤ (x.size : Int) := by omega
              have CP := Lib.hid (fun w => l04Is_any (x.extract i (i + n)) w (by simp; omega))
              by_cases he : palB (bl (x.extract i (i + n))) = true
              · have HV : Hid (R = x.extract i (i + n) ∧ pl = i) := Lib.hid (by
                  have e := lgF_hit (by omega) (by rw [HI.out, piI_hit he])
                  rw [HR.out] at e
                  exact Prod.mk.inj e)
                rw [he] at CP
                generalize x.extract i (i + n) = y at *
                go_wp2_with (go_at_call 46; refine (CP.out _).mono ?_; rintro e w2 ⟨rfl, b2⟩)
                go_ret3
                rw [HV.out.1, HV.out.2]
                exact ⟨rfl, hB.then b2⟩
              · have he2 : palB (bl (x.extract i (i + n))) = false := by simpa using he
                have HN : Hid (piI x n 0 (x.size + 1 - n) = piI x n (i + 1) g2) := Lib.hid (by rw [HI.out, piI_miss he2])
                rw [he2] at CP
                clear he he2
                generalize x.extract i (i + n) = y at *
                go_wp2_with (go_at_call 46; refine (CP.out _).mono ?_; rintro e w2 ⟨rfl, b2⟩)
                go_roundg g2
                case measure => omega
                case rel => exact ⟨i + 1, by omega, by go_num, hB.then b2, HN⟩
            · have hle : ¬ (i : Int) + (n : Int) ≤ (x.size : Int) := by omega
              obtain rfl : gk = 0 := by omega
              have HN : Hid (lgF x (n - 1) = (R, pl)) := Lib.hid (by rw [← HR.out]; exact (lgF_miss (by omega) (by rw [HI.out, piI_end])).symm)
              go_wp2
              go_roundg g
              case measure => omega
              case rel => exact ⟨n - 1, by omega, by omega, by omega, by go_num, hB, HN⟩
        · have hlow := HR.out
          rw [show n = 1 by omega, lgF_one (by omega)] at hlow
          have hsl := fun W => slice_to x 1 1 rfl (by omega) W
          have HV : Hid (R = x.extract 0 1 ∧ pl = 0) := Lib.hid (by
            obtain ⟨e1, e2⟩ := Prod.mk.inj hlow
            exact ⟨e1.symm, e2.symm⟩)
          clear hlow
          have hpi : ¬ (1 : Int) < (n : Int) := by omega
          generalize x.extract 0 1 = y at *
          go_wp2
          go_ret3
          rw [HV.out.1, HV.out.2]
          exact ⟨rfl, hB⟩
  · rw [lgR_bad h]
    have H := Lib.hid h
    clear h
    go_enter Try.func26, Try.ntmps26
    go_wp2_with fail
    refine (l02Given_bad x _ sx H.out).mono ?_
    rintro e w1 ⟨rfl, b1⟩
    go_wp2_with fail
    go_ret3
    exact ⟨rfl, b1⟩

end Go.Proofs.Ythjbdcoklgnnlaa
