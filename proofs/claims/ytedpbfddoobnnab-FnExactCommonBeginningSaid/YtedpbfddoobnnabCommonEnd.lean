/- Common ends: the program's. -/
import Derived.Test.YtedpbfddoobnnabCommon
import Derived.IntWalk
namespace Go.Proofs.Ytedpbfddoobnnab
open Go.RowKit

set_option maxRecDepth 100000 in
set_option maxHeartbeats 1000000 in
theorem impl_CommonEnd (x y : ByteArray) (w : World) (sx : x.size ≤ maxLen) (sy : y.size ≤ maxLen) :
    Calls Try.prog 15 #[.string x, .string y] w fun e w' => e = .returned (.tuple #[.string (endR x y).1, .int .i64 (endR x y).2]) ∧ Below w.heap.size w w' := by
  by_cases h : IsW x ∧ IsW y
  · have s1 := h.1.size
    have s2 := h.2.size
    rw [endR_ok h]
    have H := Lib.hid h
    clear h
    go_enter Try.func15, Try.ntmps15
    go_wp2_with (go_at_call 39; refine (areWords2_yes _ x y _ (by simp) (by simp [go_sem]) (by simp [go_sem]) H.out.1 H.out.2).mono ?_; rintro e w1 ⟨rfl, b1⟩)
    have B1 := (Below.new w _).then b1
    clear b1
    go_loopw [6] (fun i wr => ∃ k f : Nat, k ≤ x.size ∧ k ≤ y.size ∧ i = .int .i64 k ∧ Below w.heap.size w wr ∧ comFrom (rev x) (rev y) f k = comN (rev x) (rev y) ∧ x.size ≤ k + f) (fun i _ => x.size - (intOf i).toNat)
    case atStart => exact ⟨0, x.size, Nat.zero_le _, Nat.zero_le _, rfl, B1, by rw [comN, rev_size], by omega⟩
    case round =>
      obtain ⟨k, f, hx, hy, rfl, hB, hc, hf⟩ := hrel
      have HC := Lib.hid hc
      clear hc
      by_cases hh : k < x.size ∧ k < y.size
      · obtain ⟨h1, h2⟩ := hh
        have hm : decide ((k : Int) < min (x.size : Int) (y.size : Int)) = true := by simp; omega
        have e1 : IntKind.i64.wrap ((x.size : Int) - 1) = (x.size : Int) - 1 := IntWalk.i64_in _ (by omega)
        have e2 : IntKind.i64.wrap ((x.size : Int) - 1 - k) = (x.size : Int) - 1 - k := IntWalk.i64_in _ (by omega)
        have e3 : IntKind.i64.wrap ((y.size : Int) - 1) = (y.size : Int) - 1 := IntWalk.i64_in _ (by omega)
        have e4 : IntKind.i64.wrap ((y.size : Int) - 1 - k) = (y.size : Int) - 1 - k := IntWalk.i64_in _ (by omega)
        have e5 : (0 : Int) ≤ (x.size : Int) - 1 - k := by omega
        have e6 : (0 : Int) ≤ (y.size : Int) - 1 - k := by omega
        have hix : ∀ W, (Instr.index 9 (.string x) (.int .i64 ((x.size : Int) - 1 - k))).run Try.prog W = .ok (.int .u8 ((x[x.size - 1 - k]'(by omega)).toNat : Int)) W := fun W => index_at x _ _ (by omega) (by omega) W
        have hiy : ∀ W, (Instr.index 9 (.string y) (.int .i64 ((y.size : Int) - 1 - k))).run Try.prog W = .ok (.int .u8 ((y[y.size - 1 - k]'(by omega)).toNat : Int)) W := fun W => index_at y _ _ (by omega) (by omega) W
        clear e5 e6
        by_cases he : x[x.size - 1 - k]'(by omega) = y[y.size - 1 - k]'(by omega)
        · have hd : (((x[x.size - 1 - k]'(by omega)).toNat : Int) == ((y[y.size - 1 - k]'(by omega)).toNat : Int)) = true := by rw [he]; simp
          obtain ⟨g, rfl⟩ : ∃ g, f = g + 1 := ⟨f - 1, by omega⟩
          have HE := Lib.hid he
          clear he
          go_wp2
          go_quiet (fail)
          go_wp2
          go_roundw
          case rel => exact ⟨k + 1, g, by omega, by omega, by go_num, hB.drewN _, by rw [← HC.out]; exact (comFrom_eq (by rw [rev_size]; exact h1) (by rw [rev_size]; exact h2) (by rw [rev_get x k _ (by omega), rev_get y k _ (by omega)]; exact HE.out)).symm, by omega⟩
          case measure => simp [intOf]; omega
        · have hd : (((x[x.size - 1 - k]'(by omega)).toNat : Int) == ((y[y.size - 1 - k]'(by omega)).toNat : Int)) = false := by
            rw [beq_eq_false_iff_ne]; intro h; exact he (byte_eq_iff.1 h)
          have hk : comN (rev x) (rev y) = k := by rw [← HC.out]; exact comFrom_ne (by rw [rev_size]; exact h1) (by rw [rev_size]; exact h2) (by rw [rev_get x k _ (by omega), rev_get y k _ (by omega)]; exact he)
          have HK := Lib.hid hk
          clear hk he
          go_wp2
          go_quiet (fail)
          go_wp2_with (go_at_call 40; refine (strings_Clone _ _ (by simp; omega)).mono ?_; rintro e w2 ⟨rfl, b2⟩)
          go_ret2
          exact ⟨by rw [HK.out]; rfl, (hB.drewN _).trans (b2.mono (by have := hB.size; simpa using this))⟩
      · have hk : comN (rev x) (rev y) = k := by rw [← HC.out]; exact comFrom_end (by rw [rev_size, rev_size]; exact hh)
        have HK := Lib.hid hk
        have hm : decide ((k : Int) < min (x.size : Int) (y.size : Int)) = false := by simp; omega
        clear hk hh
        go_wp2
        go_quiet (fail)
        go_wp2_with (go_at_call 40; refine (strings_Clone _ _ (by simp; omega)).mono ?_; rintro e w2 ⟨rfl, b2⟩)
        go_ret2
        exact ⟨by rw [HK.out]; rfl, (hB.drewN _).trans (b2.mono (by have := hB.size; simpa using this))⟩
  · rw [endR_bad h]
    have H := Lib.hid h
    clear h
    go_enter Try.func15, Try.ntmps15
    go_wp2_with (go_at_call 39; refine (areWords2_no _ x y _ (by simp) (by simp [go_sem]) (by simp [go_sem]) sx sy H.out).mono ?_; rintro e w1 ⟨rfl, b1⟩)
    go_ret2
    exact ⟨rfl, (Below.new _ _).then b1⟩

end Go.Proofs.Ytedpbfddoobnnab
