/- Words turned: the program's and the model's. -/
import Derived.Test.YtlaefpmfbnldfabWords
import Derived.Test.YtlaefpmfbnldfabLib
import Derived.Deep.QuietTactic
import Derived.BigQuiet
import Derived.Deep.RegionWith
namespace Go.Proofs.Ytlaefpmfbnldfab
set_option linter.unusedVariables false
open Go.RowKit

set_option maxRecDepth 100000 in
theorem l01In_yes (n lo hi : Int) (w : World) (h1 : lo ≤ n) (h2 : n ≤ hi) :
    Calls Try.prog 100 #[.int .i64 n, .int .i64 lo, .int .i64 hi] w fun e w' => e = .returned (.bool true) ∧ Below w.heap.size w w' := by
  go_enter Try.func100, Try.ntmps100
  go_wp2
  go_ret
  exact ⟨ret_bool (by simp [*]), Below.refl _ _⟩

set_option maxRecDepth 100000 in
theorem l01In_no (n lo hi : Int) (w : World) (h : ¬ (lo ≤ n ∧ n ≤ hi)) :
    Calls Try.prog 100 #[.int .i64 n, .int .i64 lo, .int .i64 hi] w fun e w' => e = .returned (.bool false) ∧ Below w.heap.size w w' := by
  by_cases h1 : lo ≤ n
  · have h2 : hi < n := by omega
    clear h
    go_enter Try.func100, Try.ntmps100
    go_wp2
    go_ret
    exact ⟨ret_bool (by simp; omega), Below.refl _ _⟩
  · have h2 : n < lo := by omega
    clear h h1
    go_enter Try.func100, Try.ntmps100
    go_wp2
    go_ret
    exact ⟨rfl, Below.refl _ _⟩

set_option maxRecDepth 100000 in
theorem l01Turned_any (x : ByteArray) (k : Nat) (w : World) (hk : k ≤ x.size) (hx : x.size ≤ 60) :
    Calls Try.prog 135 #[.string x, .int .i64 k] w fun e w' => e = .returned (.string (turned x k)) ∧ Below w.heap.size w w' := by
  go_enter Try.func135, Try.ntmps135
  go_wp2
  go_quiet (fail)
  go_wp2
  go_ret
  exact ⟨rfl, (Below.refl _ _).drewN _⟩

set_option maxRecDepth 100000 in
theorem impl_TurnWord (x : ByteArray) (k : Int) (w : World) (sx : x.size ≤ maxLen) (wk : (Lit.int .i64 k).wf = true) :
    Calls Try.prog 27 #[.string x, .int .i64 k] w fun e w' => e = .returned (.tuple #[.string (turnR x k).1, .int .i64 (turnR x k).2]) ∧ Below w.heap.size w w' := by
  by_cases h : IsW x
  · have h1 := h.size
    by_cases hk : k < 0 ∨ (x.size : Int) < k
    · rw [turnR_out h hk]
      have H := Lib.hid h
      clear h
      rcases hk with hk | hk
      · go_enter Try.func27, Try.ntmps27
        go_wp2_with (go_at_call 52; refine (isWord_yes x _ H.out).mono ?_; rintro e w1 ⟨rfl, b1⟩)
        go_ret2
        exact ⟨rfl, b1⟩
      · have hk0 : 0 ≤ k := by omega
        go_enter Try.func27, Try.ntmps27
        go_wp2_with (go_at_call 52; refine (isWord_yes x _ H.out).mono ?_; rintro e w1 ⟨rfl, b1⟩)
        go_ret2
        exact ⟨rfl, b1⟩
    · obtain ⟨n, rfl⟩ := Int.eq_ofNat_of_zero_le (show 0 ≤ k by omega)
      have hn : n ≤ x.size := by omega
      clear hk
      rw [turnR_ok h hn]
      have H := Lib.hid h
      clear h
      go_enter Try.func27, Try.ntmps27
      go_wp2_with (go_at_call 52; refine (isWord_yes x _ H.out).mono ?_; rintro e w1 ⟨rfl, b1⟩)
      go_region_with (go_at_call 113; refine (strings_Clone _ _ (by simp; omega)).mono ?_; rintro e w2 ⟨rfl, b2⟩)
      go_wp2_with fail
      go_ret2
      exact ⟨rfl, (b1.drew).then b2⟩
  · rw [turnR_bad h]
    have H := Lib.hid h
    clear h
    go_enter Try.func27, Try.ntmps27
    go_wp2_with (go_at_call 52; refine (isWord_not x _ sx H.out).mono ?_; rintro e w1 ⟨rfl, b1⟩)
    go_ret2
    exact ⟨rfl, b1⟩

set_option maxRecDepth 100000 in
theorem spec_TurnWord (x : ByteArray) (k : Int) (w : World) (sx : x.size ≤ maxLen) (wk : (Lit.int .i64 k).wf = true) :
    Calls Try.prog 62 #[.string x, .int .i64 k] w fun e w' => e = .returned (.tuple #[.string (turnR x k).1, .int .i64 (turnR x k).2]) ∧ Below w.heap.size w w' := by
  by_cases h : IsW x
  · have h1 := h.size
    by_cases hk : k < 0 ∨ (x.size : Int) < k
    · rw [turnR_out h hk]
      have H := Lib.hid h
      clear h
      go_enter Try.func62, Try.ntmps62
      go_wp2_with fail
      refine (l01Is_yes x _ H.out).mono ?_
      rintro e w1 ⟨rfl, b1⟩
      go_wp2_with fail
      refine (l01In_no _ _ _ _ (by omega)).mono ?_
      rintro e w2 ⟨rfl, b2⟩
      go_wp2_with fail
      go_ret2
      exact ⟨rfl, b1.trans (b2.mono b1.size)⟩
    · obtain ⟨n, rfl⟩ := Int.eq_ofNat_of_zero_le (show 0 ≤ k by omega)
      have hn : n ≤ x.size := by omega
      clear hk
      rw [turnR_ok h hn]
      have H := Lib.hid h
      clear h
      go_enter Try.func62, Try.ntmps62
      go_wp2_with fail
      refine (l01Is_yes x _ H.out).mono ?_
      rintro e w1 ⟨rfl, b1⟩
      go_wp2_with fail
      refine (l01In_yes _ _ _ _ (by omega) (by omega)).mono ?_
      rintro e w2 ⟨rfl, b2⟩
      go_wp2_with fail
      refine (l01Turned_any _ _ _ hn h1).mono ?_
      rintro e w3 ⟨rfl, b3⟩
      go_wp2_with fail
      go_ret2
      exact ⟨rfl, (b1.trans (b2.mono b1.size)).trans (b3.mono (Nat.le_trans b1.size b2.size))⟩
  · rw [turnR_bad h]
    have H := Lib.hid h
    clear h
    go_enter Try.func62, Try.ntmps62
    go_wp2_with (go_at_call 117; refine (l01Is_no x _ sx H.out).mono ?_; rintro e w1 ⟨rfl, b1⟩)
    go_ret2
    exact ⟨rfl, b1⟩

end Go.Proofs.Ytlaefpmfbnldfab
