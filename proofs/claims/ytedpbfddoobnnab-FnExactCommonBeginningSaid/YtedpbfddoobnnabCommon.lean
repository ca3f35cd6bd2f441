/- Common beginnings: the program's and the model's. -/
import Derived.Test.YtedpbfddoobnnabWords
import Derived.Test.YtedpbfddoobnnabLib
import Derived.Test.YtedpbfddoobnnabComPlain
import Derived.WalkLawsBesides
namespace Go.Proofs.Ytedpbfddoobnnab
open Go.RowKit

set_option maxRecDepth 100000 in
theorem l01Common_any (x y : ByteArray) (w : World) (sx : x.size ≤ 60) (sy : y.size ≤ 60) :
    Calls Try.prog 38 #[.string x, .string y] w fun e w' => e = .returned (.int .i64 (comN x y)) ∧ Below w.heap.size w w' := by
  go_enter Try.func38, Try.ntmps38
  go_wp2
  go_loopw [5] (fun i wr => ∃ k f : Nat, k ≤ x.size ∧ k ≤ y.size ∧ i = .int .i64 k ∧ Below w.heap.size w wr ∧ comFrom x y f k = comN x y ∧ x.size ≤ k + f) (fun i _ => x.size - (intOf i).toNat)
  case atStart => exact ⟨0, x.size, Nat.zero_le _, Nat.zero_le _, rfl, Below.refl _ _, rfl, by omega⟩
  case round =>
    obtain ⟨k, f, hx, hy, rfl, hB, hc, hf⟩ := hrel
    have HC := Lib.hid hc
    clear hc
    by_cases h1 : k < x.size
    · by_cases h2 : k < y.size
      · by_cases he : x[k]'h1 = y[k]'h2
        · have hd : (((x[k]'h1).toNat : Int) == ((y[k]'h2).toNat : Int)) = true := by rw [he]; simp
          obtain ⟨g, rfl⟩ : ∃ g, f = g + 1 := ⟨f - 1, by omega⟩
          have HE := Lib.hid he
          clear he
          go_wp2
          go_quiet (fail)
          go_wp2
          go_roundw
          case rel => exact ⟨k + 1, g, by omega, by omega, by go_num, hB.drewN _, by rw [← HC.out, comFrom_eq h1 h2 HE.out], by omega⟩
          case measure => simp [intOf]; omega
        · have hd : (((x[k]'h1).toNat : Int) == ((y[k]'h2).toNat : Int)) = false := by
            rw [beq_eq_false_iff_ne]; intro h; exact he (byte_eq_iff.1 h)
          have hk : comN x y = k := by rw [← HC.out, comFrom_ne h1 h2 he]
          have HK := Lib.hid hk
          clear hk he
          go_wp2
          go_quiet (fail)
          go_wp2
          go_ret
          exact ⟨by rw [HK.out]; rfl, hB.drewN _⟩
      · have hk : comN x y = k := by rw [← HC.out, comFrom_end (fun h => h2 h.2)]
        have HK := Lib.hid hk
        have hd : decide ((k : Int) < (y.size : Int)) = false := by simp; omega
        clear hk
        go_wp2
        go_quiet (fail)
        go_wp2
        go_ret
        exact ⟨by rw [HK.out]; rfl, hB.drewN _⟩
    · have hk : comN x y = k := by rw [← HC.out, comFrom_end (fun h => h1 h.1)]
      have HK := Lib.hid hk
      have hd : decide ((k : Int) < (x.size : Int)) = false := by simp; omega
      clear hk
      go_wp2
      go_quiet (fail)
      go_wp2
      go_ret
      exact ⟨by rw [HK.out]; rfl, hB.drewN _⟩

set_option maxRecDepth 100000 in
set_option maxHeartbeats 1000000 in
theorem impl_CommonBeginning (x y : ByteArray) (w : World) (sx : x.size ≤ maxLen) (sy : y.size ≤ maxLen) :
    Calls Try.prog 13 #[.string x, .string y] w fun e w' => e = .returned (.tuple #[.string (beginR x y).1, .int .i64 (beginR x y).2]) ∧ Below w.heap.size w w' := by
  by_cases h : IsW x ∧ IsW y
  · have s1 := h.1.size
    have s2 := h.2.size
    rw [beginR_ok h]
    have H := Lib.hid h
    clear h
    go_enter Try.func13, Try.ntmps13
    go_wp2_with (go_at_call 39; refine (areWords2_yes _ x y _ (by simp) (by simp [go_sem]) (by simp [go_sem]) H.out.1 H.out.2).mono ?_; rintro e w1 ⟨rfl, b1⟩)
    have B1 := (Below.new w _).then b1
    clear b1
    go_loopw [6] (fun i wr => ∃ k f : Nat, k ≤ x.size ∧ k ≤ y.size ∧ i = .int .i64 k ∧ Below w.heap.size w wr ∧ comFrom x y f k = comN x y ∧ x.size ≤ k + f) (fun i _ => x.size - (intOf i).toNat)
    case atStart => exact ⟨0, x.size, Nat.zero_le _, Nat.zero_le _, rfl, B1, rfl, by omega⟩
    case round =>
      obtain ⟨k, f, hx, hy, rfl, hB, hc, hf⟩ := hrel
      have HC := Lib.hid hc
      clear hc
      by_cases hh : k < x.size ∧ k < y.size
      · obtain ⟨h1, h2⟩ := hh
        have hm : decide ((k : Int) < min (x.size : Int) (y.size : Int)) = true := by simp; omega
        by_cases he : x[k]'(by omega) = y[k]'(by omega)
        · have hd : (((x[k]'(by omega)).toNat : Int) == ((y[k]'(by omega)).toNat : Int)) = true := by rw [he]; simp
          obtain ⟨g, rfl⟩ : ∃ g, f = g + 1 := ⟨f - 1, by omega⟩
          have HE := Lib.hid he
          clear he
          go_wp2
          go_quiet (fail)
          go_wp2
          go_roundw
          case rel => exact ⟨k + 1, g, by omega, by omega, by go_num, hB.drewN _, by rw [← HC.out]; exact (comFrom_eq h1 h2 HE.out).symm, by omega⟩
          case measure => simp [intOf]; omega
        · have hd : (((x[k]'(by omega)).toNat : Int) == ((y[k]'(by omega)).toNat : Int)) = false := by
            rw [beq_eq_false_iff_ne]; intro h; exact he (byte_eq_iff.1 h)
          have hk : comN x y = k := by rw [← HC.out]; exact comFrom_ne h1 h2 he
          have HK := Lib.hid hk
          clear hk he
          go_wp2
          go_quiet (fail)
          go_wp2_with (go_at_call 40; refine (strings_Clone _ _ (by simp; omega)).mono ?_; rintro e w2 ⟨rfl, b2⟩)
          go_ret2
          exact ⟨by rw [HK.out]; rfl, (hB.drewN _).trans (b2.mono (by have := hB.size; simpa using this))⟩
      · have hk : comN x y = k := by rw [← HC.out]; exact comFrom_end hh
        have HK := Lib.hid hk
        have hm : decide ((k : Int) < min (x.size : Int) (y.size : Int)) = false := by simp; omega
        clear hk hh
        go_wp2
        go_quiet (fail)
        go_wp2_with (go_at_call 40; refine (strings_Clone _ _ (by simp; omega)).mono ?_; rintro e w2 ⟨rfl, b2⟩)
        go_ret2
        exact ⟨by rw [HK.out]; rfl, (hB.drewN _).trans (b2.mono (by have := hB.size; simpa using this))⟩
  · rw [beginR_bad h]
    have H := Lib.hid h
    clear h
    go_enter Try.func13, Try.ntmps13
    go_wp2_with (go_at_call 39; refine (areWords2_no _ x y _ (by simp) (by simp [go_sem]) (by simp [go_sem]) sx sy H.out).mono ?_; rintro e w1 ⟨rfl, b1⟩)
    go_ret2
    exact ⟨rfl, (Below.new _ _).then b1⟩

end Go.Proofs.Ytedpbfddoobnnab
