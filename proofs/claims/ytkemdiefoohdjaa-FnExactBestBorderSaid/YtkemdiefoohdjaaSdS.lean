/- Seeds of a word, the model. -/
import Derived.Test.YtkemdiefoohdjaaCovS
import Derived.Test.YtkemdiefoohdjaaCvS
import Derived.Test.YtkemdiefoohdjaaSeedPlain
import Derived.Test.YtkemdiefoohdjaaFactorsS
import Derived.Test.YtkemdiefoohdjaaTurn
import Derived.Deep.RegionHeld3
import Derived.Deep.CutBlock
namespace Go.Proofs.Ytkemdiefoohdjaa
set_option linter.unusedVariables false
set_option linter.unusedSimpArgs false
open Go.RowKit

theorem slice_toS (x : ByteArray) (n : Nat) (h : n ≤ x.size) (W : World) :
    (Instr.slice 9 (.string x) none (some (.int .i64 (n : Int))) none).run Try.prog W = .ok (.string (x.extract 0 n)) W := by
  have := run_slice_string_h (P := Try.prog) W 9 x Try.underlying9 .i64 (n : Int) (by omega) (by omega)
  simpa using this
theorem slice_fromS (x : ByteArray) (n : Nat) (h : n ≤ x.size) (W : World) :
    (Instr.slice 9 (.string x) (some (.int .i64 (n : Int))) none none).run Try.prog W = .ok (.string (x.extract n x.size)) W := by
  have := run_slice_string_l (P := Try.prog) W 9 x Try.underlying9 .i64 (n : Int) (by omega) (by omega)
  simpa using this

set_option maxRecDepth 100000 in
set_option maxHeartbeats 4000000 in
theorem l09Seed_any (x u : ByteArray) (w : World) (hx : x.size ≤ 60) (hu : u.size ≤ x.size) (h1 : 1 ≤ u.size) :
    Calls Try.prog 62 #[.string x, .string u] w fun e w' => e = .returned (.bool (sdAll x u)) ∧ Below w.heap.size w w' := by
  have hmo : Try.prog.follows .mixedOrders = true := by kernel_rfl
  have hu60 : u.size ≤ 60 := by omega
  go_enter Try.func62, Try.ntmps62
  go_wp2_with fail
  refine (l09Places_any x u _ hx hu60).mono ?_
  rintro e w1 ⟨G, rfl, t1, b1⟩
  go_upto_block 0 with fail
  go_cut [6, 7] from 16 to 37 (fun s6 s7 wc => TabO wc w.heap.size G x.size (seedF1 x u) ∧ Below w.heap.size w wc)
  case first => as_aux_lemma =>
    go_wp2_with fail
    go_loopw [6] (fun s6 wr => ∃ m : Nat, m ≤ u.size - 1 ∧ s6 = .int .i64 (m : Int) ∧ lastP (hgL x u) (u.size - 1) = lastP (hgL x u) m ∧ TabO wr w.heap.size G x.size (cvB x u) ∧ Below w.heap.size w wr)
      (fun s6 _ => (intOf s6).toNat)
    case atStart => exact ⟨u.size - 1, Nat.le_refl _, by congr 1; omega, rfl, t1, b1⟩
    case round =>
      clear t1 b1
      obtain ⟨m, hm, rfl, hl, t1, b1⟩ := hrel
      by_cases hp : 0 < m
      · have hmi : (m : Int) > 0 := by omega
        have hm0 : (0 : Int) ≤ (m : Int) := by omega
        obtain ⟨p, hpp⟩ : ∃ p : Nat, u.size - m = p := ⟨_, rfl⟩
        have e1 : (u.size : Int) - (m : Int) = (p : Int) := by omega
        have hs1 := slice_toS x m (by omega)
        have hs2 := slice_fromS u p (by omega)
        by_cases he : x.extract 0 m = u.extract p u.size
        · have hg : hgL x u m = true := by unfold hgL; rw [hpp]; exact decide_eq_true he
          rw [lastP_self (by omega) hg] at hl
          have hq := teq_yes he
          have HF := Lib.hid (seedF1_at hl)
          have t2 : TabO wr w.heap.size G x.size (fun j => cvB x u j || decide (j < 0)) := by rw [fillL_zero]; exact t1
          clear he hg t1 hpp
          generalize x.extract 0 m = z1 at *
          generalize u.extract p u.size = z2 at *
          go_wp2_with fail
          go_region
          go_wp2_with fail
          go_loopw [7] (fun s7 wr2 => ∃ i : Nat, i ≤ m ∧ s7 = .int .i64 (i : Int) ∧ TabO wr2 w.heap.size G x.size (fun j => cvB x u j || decide (j < i)) ∧ Below w.heap.size w wr2)
            (fun s7 _ => m - (intOf s7).toNat)
          case atStart => exact ⟨0, Nat.zero_le _, rfl, World.ownsRow.drew t2, b1.drew⟩
          case round =>
            clear t2 b1
            obtain ⟨i, hi, rfl, t1, b1⟩ := hrel
            by_cases hpi : i < m
            · have him : (i : Int) < (m : Int) := by omega
              have hi0 : (0 : Int) ≤ (i : Int) := by omega
              have hix : (i : Int) < (x.size : Int) := by omega
              have ho := t1.set i true
              rw [fillL_succ] at ho
              have hfz := t1.frozenAt i
              have hGa := t1.at (p := i) (by omega)
              have B2 : Below w.heap.size w (wr.setCell ⟨G, i, none⟩ (.bool true)) := b1.setCell (p := ⟨G, i, none⟩) (t1.lt G rfl).1 _
              have HO := Lib.hid ho
              clear ho t1 b1
              go_wp2_with fail
              go_roundw
              case rel => exact ⟨i + 1, by omega, by go_num, HO.out, B2⟩
              case measure => simp [intOf]; omega
            · obtain rfl : i = m := by omega
              have him : ¬ (i : Int) < (i : Int) := by omega
              go_wp2_with fail
              go_meet
              case rel => exact ⟨by rw [← HF.out]; exact t1, b1⟩
        · have hg : hgL x u m = false := by unfold hgL; rw [hpp]; exact decide_eq_false he
          rw [lastP_pred (by omega) hg] at hl
          have hq := teq_no he
          clear he hg hpp
          generalize x.extract 0 m = z1 at *
          generalize u.extract p u.size = z2 at *
          go_wp2_with fail
          go_region
          go_wp2_with fail
          go_roundw
          case rel => exact ⟨m - 1, by omega, by congr 1; omega, hl, World.ownsRow.drew t1, b1.drew⟩
          case measure => simp [intOf]; omega
      · obtain rfl : m = 0 := by omega
        have hl0 : lastP (hgL x u) (u.size - 1) = 0 := hl
        have HF := Lib.hid (seedF1_at hl0)
        have t2 : TabO wr w.heap.size G x.size (fun j => cvB x u j || decide (j < 0)) := by rw [fillL_zero]; exact t1
        go_wp2_with fail
        go_meet
        case rel => exact ⟨by rw [← HF.out]; exact t2, b1⟩
  case rest =>
    clear t1 b1
    obtain ⟨t1, b1⟩ := hcut
    go_upto_block 4 with fail
    go_cut [8, 9] from 41 to 67 (fun s8 s9 wd => TabO wd w.heap.size G x.size (svB x u) ∧ Below w.heap.size w wd)
    case first => as_aux_lemma =>
      go_wp2_with fail
      go_loopw [8] (fun s8 wr => ∃ m : Nat, m ≤ u.size - 1 ∧ s8 = .int .i64 (m : Int) ∧ lastP (hgR x u) (u.size - 1) = lastP (hgR x u) m ∧ TabO wr w.heap.size G x.size (seedF1 x u) ∧ Below w.heap.size w wr)
        (fun s8 _ => (intOf s8).toNat)
      case atStart => exact ⟨u.size - 1, Nat.le_refl _, by congr 1; omega, rfl, t1, b1⟩
      case round =>
        clear t1 b1
        obtain ⟨m, hm, rfl, hl, t1, b1⟩ := hrel
        by_cases hp : 0 < m
        · have hmi : (m : Int) > 0 := by omega
          have hm0 : (0 : Int) ≤ (m : Int) := by omega
          obtain ⟨p, hpp⟩ : ∃ p : Nat, x.size - m = p := ⟨_, rfl⟩
          have e1 : (x.size : Int) - (m : Int) = (p : Int) := by omega
          have hs1 := slice_fromS x p (by omega)
          have hs2 := slice_toS u m (by omega)
          by_cases he : x.extract p x.size = u.extract 0 m
          · have hg : hgR x u m = true := by unfold hgR; rw [hpp]; exact decide_eq_true he
            rw [lastP_self (by omega) hg] at hl
            have hq := teq_yes he
            have hF := seedF2_at hl
            rw [hpp] at hF
            have HF := Lib.hid hF
            have t2 : TabO wr w.heap.size G x.size (fun j => seedF1 x u j || (decide (p ≤ j) && decide (j < p))) := by rw [fillR_zero]; exact t1
            clear he hg t1 hF
            have hpx : p ≤ x.size := by omega
            clear hpp
            generalize x.extract p x.size = z1 at *
            generalize u.extract 0 m = z2 at *
            go_wp2_with fail
            go_region
            go_wp2_with fail
            go_loopw [9] (fun s9 wr2 => ∃ i : Nat, p ≤ i ∧ i ≤ x.size ∧ s9 = .int .i64 (i : Int) ∧ TabO wr2 w.heap.size G x.size (fun j => seedF1 x u j || (decide (p ≤ j) && decide (j < i))) ∧ Below w.heap.size w wr2)
              (fun s9 _ => x.size - (intOf s9).toNat)
            case atStart => exact ⟨p, Nat.le_refl _, hpx, rfl, World.ownsRow.drew t2, b1.drew⟩
            case round =>
              clear t2 b1
              obtain ⟨i, hpi0, hi, rfl, t1, b1⟩ := hrel
              by_cases hpi : i < x.size
              · have him : (i : Int) < (x.size : Int) := by omega
                have hi0 : (0 : Int) ≤ (i : Int) := by omega
                have ho := t1.set i true
                rw [fillR_succ _ _ _ hpi0] at ho
                have hfz := t1.frozenAt i
                have hGa := t1.at (p := i) hpi
                have B2 : Below w.heap.size w (wr.setCell ⟨G, i, none⟩ (.bool true)) := b1.setCell (p := ⟨G, i, none⟩) (t1.lt G rfl).1 _
                have HO := Lib.hid ho
                clear ho t1 b1
                go_wp2_with fail
                go_roundw
                case rel => exact ⟨i + 1, by omega, by omega, by go_num, HO.out, B2⟩
                case measure => simp [intOf]; omega
              · obtain rfl : i = x.size := by omega
                have him : ¬ (x.size : Int) < (x.size : Int) := by omega
                go_wp2_with fail
                go_meet
                case rel => exact ⟨by rw [← HF.out]; exact t1, b1⟩
          · have hg : hgR x u m = false := by unfold hgR; rw [hpp]; exact decide_eq_false he
            rw [lastP_pred (by omega) hg] at hl
            have hq := teq_no he
            clear he hg
            have hpx : p ≤ x.size := by omega
            clear hpp
            generalize x.extract p x.size = z1 at *
            generalize u.extract 0 m = z2 at *
            go_wp2_with fail
            go_region
            go_wp2_with fail
            go_roundw
            case rel => exact ⟨m - 1, by omega, by congr 1; omega, hl, World.ownsRow.drew t1, b1.drew⟩
            case measure => simp [intOf]; omega
        · obtain rfl : m = 0 := by omega
          have hl0 : lastP (hgR x u) (u.size - 1) = 0 := hl
          have hF := seedF2_at hl0
          have e3 : (fun j => seedF1 x u j || (decide (x.size - 0 ≤ j) && decide (j < x.size))) = fun j => seedF1 x u j || (decide (x.size ≤ j) && decide (j < x.size)) := rfl
          rw [e3, fillR_zero] at hF
          have HF := Lib.hid hF
          clear hF e3
          go_wp2_with fail
          go_meet
          case rel => exact ⟨by rw [← HF.out]; exact t1, b1⟩
    case rest =>
      clear t1 b1
      obtain ⟨t1, b1⟩ := hcut
      have hd : (((cnB (svB x u) x.size : Nat) : Int) == (x.size : Int)) = sdAll x u := by
        rw [sdAll, ← cnB_dec, Bool.eq_iff_iff, beq_iff_eq, decide_eq_true_eq]
        omega
      have hle := cnB_le (svB x u) x.size
      have HC := Lib.hid (l09Count_any _ _ _ _ wc t1 hx)
      clear t1
      go_wp2_with (go_at_call 70; refine HC.out.mono ?_; rintro e w2 ⟨rfl, rfl⟩)
      go_ret
      exact ⟨rfl, b1⟩

end Go.Proofs.Ytkemdiefoohdjaa
