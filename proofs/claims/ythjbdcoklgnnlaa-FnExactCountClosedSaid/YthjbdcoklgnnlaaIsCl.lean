/- Closed and privileged words: what the functions answer. -/
import Derived.Test.YthjbdcoklgnnlaaClosed
import Derived.Test.YthjbdcoklgnnlaaClosedS
namespace Go.Proofs.Ythjbdcoklgnnlaa
set_option linter.unusedVariables false
set_option linter.unusedSimpArgs false
open Go.RowKit

theorem Drawn.below {w wr : World} (h : Drawn w wr) : Below w.heap.size w wr := by
  obtain ⟨n, rfl⟩ := h
  exact (Below.refl _ _).drewN n
theorem maxOK_of {w : World} (h : w.ShapedOpen Try.prog) : MaxOK w := Try.laysM143.s1_3 w h

set_option maxRecDepth 100000 in
set_option maxHeartbeats 1000000 in
theorem spec_IsClosedWord (x : ByteArray) (w : World) (sx : x.size ≤ maxLen) :
    Calls Try.prog 39 #[.string x] w fun e w' => e = .returned (.tuple #[.bool (iscR x).1, .int .i64 (iscR x).2]) ∧ Below w.heap.size w w' := by
  by_cases h : IsW x
  · rw [iscR_ok h]
    have h1 := h.size
    have H := Lib.hid h
    have CC : Hid (∀ w, Calls Try.prog 62 #[.string x, .bool false] w fun e w' => e = .returned (.bool (clB (bl x))) ∧ Below w.heap.size w w') := Lib.hid fun w => (l04Closed_q x.size x false w (Nat.le_refl _) h1).mono fun e w' ⟨he, hd⟩ => ⟨he, Drawn.below hd⟩
    clear h
    go_enter Try.func39, Try.ntmps39
    go_wp2_with fail
    refine (l01Is_yes x _ H.out).mono ?_
    rintro e w1 ⟨rfl, b1⟩
    go_wp2_with fail
    refine (CC.out _).mono ?_
    rintro e w2 ⟨rfl, b2⟩
    go_wp2_with fail
    go_ret2
    exact ⟨rfl, b1.then b2⟩
  · rw [iscR_bad h]
    have H := Lib.hid h
    clear h
    go_enter Try.func39, Try.ntmps39
    go_wp2_with fail
    refine (l01Is_no x _ sx H.out).mono ?_
    rintro e w1 ⟨rfl, b1⟩
    go_wp2_with fail
    go_ret2
    exact ⟨rfl, b1⟩

set_option maxRecDepth 100000 in
set_option maxHeartbeats 1000000 in
theorem test_isClosed (x : ByteArray) (b : Bool) (w : World) (h : IsW x) (CF : ∀ W : World, Below w.heap.size w W → Calls Try.prog 63 #[.string x] W fun e w' => e = .returned (.bool b) ∧ Below W.heap.size W w') :
    Calls Try.prog 47 #[.string x, .func (.func 63) #[] #[]] w fun e w' => e = .returned (.tuple #[.bool b, .int .i64 0]) ∧ Below w.heap.size w w' := by
  have H := Lib.hid h
  have HF := Lib.hid CF
  clear h CF
  go_enter Try.func47, Try.ntmps47
  go_wp2_with fail
  refine (isWord_yes x _ H.out).mono ?_
  rintro e w1 ⟨rfl, b1⟩
  go_wp2_with (go_at_call 63; refine (HF.out _ b1).mono ?_; rintro e w2 ⟨rfl, b2⟩)
  go_ret2
  exact ⟨rfl, b1.then b2⟩

set_option maxRecDepth 100000 in
set_option maxHeartbeats 1000000 in
theorem testBad_isClosed (x : ByteArray) (w : World) (sx : x.size ≤ maxLen) (h : ¬ IsW x) :
    Calls Try.prog 47 #[.string x, .func (.func 63) #[] #[]] w fun e w' => e = .returned (.tuple #[.bool false, .int .i64 1]) ∧ Below w.heap.size w w' := by
  have H := Lib.hid h
  clear h
  go_enter Try.func47, Try.ntmps47
  go_wp2_with fail
  refine (isWord_not x _ sx H.out).mono ?_
  rintro e w1 ⟨rfl, b1⟩
  go_wp2_with fail
  go_ret2
  exact ⟨rfl, b1⟩

set_option maxRecDepth 100000 in
set_option maxHeartbeats 1000000 in
theorem impl_IsClosedWord (x : ByteArray) (w : World) (sx : x.size ≤ maxLen) (hM : MaxOK w) :
    Calls Try.prog 40 #[.string x] w fun e w' => e = .returned (.tuple #[.bool (iscR x).1, .int .i64 (iscR x).2]) ∧ Below w.heap.size w w' := by
  by_cases h : IsW x
  · rw [iscR_ok h]
    have h1 := h.size
    have CT := Lib.hid (test_isClosed x _ w h fun W hW => isClosed_any x W (by omega) (hM.below hW))
    clear h hM
    go_enter Try.func40, Try.ntmps40
    go_wp2_with fail
    refine CT.out.mono ?_
    rintro e w1 ⟨rfl, b1⟩
    go_wp2_with fail
    go_ret2
    exact ⟨rfl, b1⟩
  · rw [iscR_bad h]
    have H := Lib.hid h
    clear h hM
    go_enter Try.func40, Try.ntmps40
    go_wp2_with fail
    refine (testBad_isClosed x _ sx H.out).mono ?_
    rintro e w1 ⟨rfl, b1⟩
    go_wp2_with fail
    go_ret2
    exact ⟨rfl, b1⟩

set_option maxRecDepth 100000 in
set_option maxHeartbeats 1000000 in
theorem spec_IsPrivileged (x : ByteArray) (w : World) (sx : x.size ≤ maxLen) :
    Calls Try.prog 41 #[.string x] w fun e w' => e = .returned (.tuple #[.bool (isprR x).1, .int .i64 (isprR x).2]) ∧ Below w.heap.size w w' := by
  by_cases h : IsW x
  · rw [isprR_ok h]
    have h1 := h.size
    have H := Lib.hid h
    have CC : Hid (∀ w, Calls Try.prog 62 #[.string x, .bool true] w fun e w' => e = .returned (.bool (prB (bl x))) ∧ Below w.heap.size w w') := Lib.hid fun w => (l04Closed_q x.size x true w (Nat.le_refl _) h1).mono fun e w' ⟨he, hd⟩ => ⟨he, Drawn.below hd⟩
    clear h
    go_enter Try.func41, Try.ntmps41
    go_wp2_with fail
    refine (l01Is_yes x _ H.out).mono ?_
    rintro e w1 ⟨rfl, b1⟩
    go_wp2_with fail
    refine (CC.out _).mono ?_
    rintro e w2 ⟨rfl, b2⟩
    go_wp2_with fail
    go_ret2
    exact ⟨rfl, b1.then b2⟩
  · rw [isprR_bad h]
    have H := Lib.hid h
    clear h
    go_enter Try.func41, Try.ntmps41
    go_wp2_with fail
    refine (l01Is_no x _ sx H.out).mono ?_
    rintro e w1 ⟨rfl, b1⟩
    go_wp2_with fail
    go_ret2
    exact ⟨rfl, b1⟩

set_option maxRecDepth 100000 in
set_option maxHeartbeats 1000000 in
theorem test_isPrivileged (x : ByteArray) (b : Bool) (w : World) (h : IsW x) (CF : ∀ W : World, Below w.heap.size w W → Calls Try.prog 64 #[.string x] W fun e w' => e = .returned (.bool b) ∧ Below W.heap.size W w') :
    Calls Try.prog 47 #[.string x, .func (.func 64) #[] #[]] w fun e w' => e = .returned (.tuple #[.bool b, .int .i64 0]) ∧ Below w.heap.size w w' := by
  have H := Lib.hid h
  have HF := Lib.hid CF
  clear h CF
  go_enter Try.func47, Try.ntmps47
  go_wp2_with fail
  refine (isWord_yes x _ H.out).mono ?_
  rintro e w1 ⟨rfl, b1⟩
  go_wp2_with (go_at_call 64; refine (HF.out _ b1).mono ?_; rintro e w2 ⟨rfl, b2⟩)
  go_ret2
  exact ⟨rfl, b1.then b2⟩

set_option maxRecDepth 100000 in
set_option maxHeartbeats 1000000 in
theorem testBad_isPrivileged (x : ByteArray) (w : World) (sx : x.size ≤ maxLen) (h : ¬ IsW x) :
    Calls Try.prog 47 #[.string x, .func (.func 64) #[] #[]] w fun e w' => e = .returned (.tuple #[.bool false, .int .i64 1]) ∧ Below w.heap.size w w' := by
  have H := Lib.hid h
  clear h
  go_enter Try.func47, Try.ntmps47
  go_wp2_with fail
  refine (isWord_not x _ sx H.out).mono ?_
  rintro e w1 ⟨rfl, b1⟩
  go_wp2_with fail
  go_ret2
  exact ⟨rfl, b1⟩

set_option maxRecDepth 100000 in
set_option maxHeartbeats 1000000 in
theorem impl_IsPrivileged (x : ByteArray) (w : World) (sx : x.size ≤ maxLen) (hM : MaxOK w) :
    Calls Try.prog 42 #[.string x] w fun e w' => e = .returned (.tuple #[.bool (isprR x).1, .int .i64 (isprR x).2]) ∧ Below w.heap.size w w' := by
  by_cases h : IsW x
  · rw [isprR_ok h]
    have h1 := h.size
    have CT := Lib.hid (test_isPrivileged x _ w h fun W hW => isPriv_any _ x W (Nat.le_refl _) (by omega) (hM.below hW))
    clear h hM
    go_enter Try.func42, Try.ntmps42
    go_wp2_with fail
    refine CT.out.mono ?_
    rintro e w1 ⟨rfl, b1⟩
    go_wp2_with fail
    go_ret2
    exact ⟨rfl, b1⟩
  · rw [isprR_bad h]
    have H := Lib.hid h
    clear h hM
    go_enter Try.func42, Try.ntmps42
    go_wp2_with fail
    refine (testBad_isPrivileged x _ sx H.out).mono ?_
    rintro e w1 ⟨rfl, b1⟩
    go_wp2_with fail
    go_ret2
    exact ⟨rfl, b1⟩

end Go.Proofs.Ythjbdcoklgnnlaa
