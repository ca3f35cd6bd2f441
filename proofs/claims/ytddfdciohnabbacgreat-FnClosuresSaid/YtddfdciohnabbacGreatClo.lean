/- Palindromic closures: the program and the model. -/
import Derived.Test.YtddfdciohnabbacGreatPalEnd
import Derived.Test.YtddfdciohnabbacGreatReverse
import Derived.Test.YtddfdciohnabbacGreatLib
import Derived.Test.YtddfdciohnabbacGreatRoot
import Derived.Test.YtddfdciohnabbacGreatFnPerPlain
namespace Go.Proofs.YtddfdciohnabbacGreat
set_option linter.unusedVariables false
set_option linter.unusedSimpArgs false
open Go.RowKit

/-- Letters alone, of whatever number. -/
def IsL (x : ByteArray) : Prop := ∀ i (h : i < x.size), 97 ≤ (x[i]'h).toNat ∧ (x[i]'h).toNat ≤ 101
theorem IsL.word {x : ByteArray} (h : IsL x) (hs : x.size ≤ 60) : IsW x := ⟨hs, h⟩
theorem IsW.lets {x : ByteArray} (h : IsW x) : IsL x := h.2
theorem clo_long (x : ByteArray) (a : Nat) (ha : x.size - endP (bl x) = a) : (clo x).size = x.size + a := by rw [clo_size, ha]

set_option maxRecDepth 100000 in
set_option maxHeartbeats 1000000 in
theorem closeWord_ok (x : ByteArray) (w : World) (h : IsL x) (hx : x.size ≤ 61) (hc : ¬ 60 < (clo x).size) :
    Calls Tryz.prog 33 #[.string x] w fun e w' => e = .returned (.tuple #[.string (clo x), .int .i64 0]) ∧ Below w.heap.size w w' := by
  have hz := endP_le (bl x)
  rw [bl_len] at hz
  have CP := Lib.hid fun w => palAtEnd_any x w (by omega)
  have hcs := clo_size x
  have HW : Hid (IsW (x.extract 0 (x.size - endP (bl x)))) := Lib.hid ((h.word (by omega)).extract _ _)
  have HC : Hid (clo x = x ++ rev (x.extract 0 (x.size - endP (bl x)))) := Lib.hid rfl
  clear h
  generalize clo x = c at *
  generalize endP (bl x) = z at *
  have hsl := fun W => slice_to x ((x.size : Int) - (z : Int)) (x.size - z) (by omega) (by omega) W
  have zs : (rev (x.extract 0 (x.size - z))).size = x.size - z := by rw [rev_size]; simp
  have CR : Hid (∀ w, Calls Tryz.prog 52 #[.string (x.extract 0 (x.size - z))] w fun e w' => e = .returned (.tuple #[.string (rev (x.extract 0 (x.size - z))), .int .i64 0]) ∧ Below w.heap.size w w') := Lib.hid fun w => by
    have := impl_ReverseOf (x.extract 0 (x.size - z)) w (by unfold maxLen; simp; omega)
    rwa [revR_ok HW.out] at this
  clear HW
  generalize x.extract 0 (x.size - z) = y at *
  generalize rev y = r at *
  have hsum : ∀ W, (Op.stringOp .add x r).run Tryz.prog W = .ok (.string c) W := fun W => by rw [HC.out]; exact run_string_add_sum W _ _ (by omega)
  have hcz : c.size ≤ 281474976710656 := by omega
  go_enter Tryz.func33, Tryz.ntmps33
  go_wp2_with fail
  refine (CP.out _).mono ?_
  rintro e w1 ⟨rfl, b1⟩
  have hlim : ¬ (60 : Int) < (x.size : Int) + ((x.size : Int) - (z : Int)) := by omega
  go_wp2_with fail
  refine (CR.out _).mono ?_
  rintro e w2 ⟨rfl, b2⟩
  go_wp2_with (go_at_call 30; refine (strings_Clone _ _ hcz).mono ?_; rintro e w3 ⟨rfl, b3⟩)
  go_ret2
  exact ⟨rfl, (b1.then b2).then b3⟩

set_option maxRecDepth 100000 in
set_option maxHeartbeats 1000000 in
theorem closeWord_long (x : ByteArray) (w : World) (hx : x.size ≤ 61) (hc : 60 < (clo x).size) :
    Calls Tryz.prog 33 #[.string x] w fun e w' => e = .returned (.tuple #[.string ⟨#[]⟩, .int .i64 3]) ∧ Below w.heap.size w w' := by
  have hz := endP_le (bl x)
  rw [bl_len] at hz
  have CP := Lib.hid fun w => palAtEnd_any x w (by omega)
  have hcs := clo_size x
  generalize clo x = c at *
  generalize endP (bl x) = z at *
  go_enter Tryz.func33, Tryz.ntmps33
  go_wp2_with fail
  refine (CP.out _).mono ?_
  rintro e w1 ⟨rfl, b1⟩
  have hlim : (60 : Int) < (x.size : Int) + ((x.size : Int) - (z : Int)) := by omega
  go_wp2_with fail
  go_ret2
  exact ⟨rfl, b1⟩

set_option maxRecDepth 100000 in
set_option maxHeartbeats 1000000 in
theorem impl_ClosureOf (x : ByteArray) (w : World) (sx : x.size ≤ maxLen) :
    Calls Tryz.prog 9 #[.string x] w fun e w' => e = .returned (.tuple #[.string (cloR x).1, .int .i64 (cloR x).2]) ∧ Below w.heap.size w w' := by
  by_cases h : IsW x
  · have h1 := h.size
    by_cases hc : 60 < (clo x).size
    · rw [cloR_long h hc]
      have CL := Lib.hid fun w => closeWord_long x w (by omega) hc
      have H := Lib.hid h
      clear h hc
      go_enter Tryz.func9, Tryz.ntmps9
      go_wp2_with fail
      refine (isWord_yes x _ H.out).mono ?_
      rintro e w1 ⟨rfl, b1⟩
      go_wp2_with fail
      refine (CL.out _).mono ?_
      rintro e w2 ⟨rfl, b2⟩
      go_wp2_with fail
      go_ret2
      exact ⟨rfl, b1.then b2⟩
    · rw [cloR_ok h hc]
      have CL := Lib.hid fun w => closeWord_ok x w h.lets (by omega) hc
      have H := Lib.hid h
      clear h hc
      generalize clo x = c at *
      go_enter Tryz.func9, Tryz.ntmps9
      go_wp2_with fail
      refine (isWord_yes x _ H.out).mono ?_
      rintro e w1 ⟨rfl, b1⟩
      go_wp2_with fail
      refine (CL.out _).mono ?_
      rintro e w2 ⟨rfl, b2⟩
      go_wp2_with fail
      go_ret2
      exact ⟨rfl, b1.then b2⟩
  · rw [cloR_bad h]
    have H := Lib.hid h
    clear h
    go_enter Tryz.func9, Tryz.ntmps9
    go_wp2_with fail
    refine (isWord_not x _ sx H.out).mono ?_
    rintro e w1 ⟨rfl, b1⟩
    go_wp2_with fail
    go_ret2
    exact ⟨rfl, b1⟩

/-! ### The model. -/
theorem clo_nil {x : ByteArray} (h : x.size = 0) : clo x = ⟨#[]⟩ := by
  refine size_zero ?_
  rw [clo_size]; omega

set_option maxRecDepth 100000 in
set_option maxHeartbeats 1000000 in
theorem l04Closure_any (x : ByteArray) (w : World) (hx : x.size ≤ 61) :
    Calls Tryz.prog 34 #[.string x] w fun e w' => e = .returned (.string (clo x)) ∧ Below w.heap.size w w' := by
  by_cases h0 : x.size = 0
  · rw [clo_nil h0]
    have hq := teq_nil h0
    go_enter Tryz.func34, Tryz.ntmps34
    go_wp2_with fail
    go_ret
    exact ⟨rfl, Below.refl _ _⟩
  · have hq := teq_not_nil h0
    have hz := endP_le (bl x)
    rw [bl_len] at hz
    have hz1 := endP_pos (bl x) (bl_ne (by omega))
    have CP := Lib.hid fun w => l04End_any x w (by omega)
    have hcs := clo_size x
    have HC : Hid (clo x = x ++ rev (x.extract 0 (x.size - endP (bl x)))) := Lib.hid rfl
    generalize clo x = c at *
    generalize endP (bl x) = z at *
    have hsl := fun W => slice_to x ((x.size : Int) - (z : Int)) (x.size - z) (by omega) (by omega) W
    have CR := Lib.hid fun w => l01Reversed_any (x.extract 0 (x.size - z)) w (by simp; omega)
    have zs : (rev (x.extract 0 (x.size - z))).size = x.size - z := by rw [rev_size]; simp
    generalize x.extract 0 (x.size - z) = y at *
    generalize rev y = r at *
    have hsum : ∀ W, (Op.stringOp .add x r).run Tryz.prog W = .ok (.string c) W := fun W => by rw [HC.out]; exact run_string_add_sum W _ _ (by omega)
    go_enter Tryz.func34, Tryz.ntmps34
    go_wp2_with fail
    refine (CP.out _).mono ?_
    rintro e w1 ⟨rfl, b1⟩
    go_wp2_with fail
    refine (CR.out _).mono ?_
    rintro e w2 ⟨rfl, b2⟩
    go_wp2_with fail
    go_ret
    exact ⟨rfl, b1.then b2⟩

set_option maxRecDepth 100000 in
set_option maxHeartbeats 1000000 in
theorem spec_ClosureOf (x : ByteArray) (w : World) (sx : x.size ≤ maxLen) :
    Calls Tryz.prog 10 #[.string x] w fun e w' => e = .returned (.tuple #[.string (cloR x).1, .int .i64 (cloR x).2]) ∧ Below w.heap.size w w' := by
  by_cases h : IsW x
  · have h1 := h.size
    have CL := Lib.hid fun w => l04Closure_any x w (by omega)
    by_cases hc : 60 < (clo x).size
    · rw [cloR_long h hc]
      have H := Lib.hid h
      clear h
      generalize clo x = c at *
      go_enter Tryz.func10, Tryz.ntmps10
      go_wp2_with fail
      refine (l01Is_yes x _ H.out).mono ?_
      rintro e w1 ⟨rfl, b1⟩
      go_wp2_with fail
      refine (CL.out _).mono ?_
      rintro e w2 ⟨rfl, b2⟩
      go_wp2_with fail
      go_ret2
      exact ⟨rfl, b1.then b2⟩
    · rw [cloR_ok h hc]
      have H := Lib.hid h
      clear h
      generalize clo x = c at *
      go_enter Tryz.func10, Tryz.ntmps10
      go_wp2_with fail
      refine (l01Is_yes x _ H.out).mono ?_
      rintro e w1 ⟨rfl, b1⟩
      go_wp2_with fail
      refine (CL.out _).mono ?_
      rintro e w2 ⟨rfl, b2⟩
      go_wp2_with fail
      go_ret2
      exact ⟨rfl, b1.then b2⟩
  · rw [cloR_bad h]
    have H := Lib.hid h
    clear h
    go_enter Tryz.func10, Tryz.ntmps10
    go_wp2_with fail
    refine (l01Is_no x _ sx H.out).mono ?_
    rintro e w1 ⟨rfl, b1⟩
    go_wp2_with fail
    go_ret2
    exact ⟨rfl, b1⟩

end Go.Proofs.YtddfdciohnabbacGreat
