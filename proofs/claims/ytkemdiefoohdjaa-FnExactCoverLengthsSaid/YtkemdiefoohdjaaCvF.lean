/- CoversOf, LeastCover, IsSuperprimitive, CoverLengths: the program. -/
import Derived.Test.YtkemdiefoohdjaaCvC
namespace Go.Proofs.Ytkemdiefoohdjaa
set_option linter.unusedVariables false
set_option linter.unusedSimpArgs false
open Go.RowKit

theorem cvs_size {x : ByteArray} (h : x.size ≤ 60) : ∀ z ∈ cvs x, z.size ≤ 60 := fun z hz => Nat.le_trans (cvs_mem hz) h

set_option maxRecDepth 100000 in
set_option maxHeartbeats 1000000 in
theorem coversOf1_any (b : Nat) (x : ByteArray) (w : World) (c1 : Boxed w b 9 (.string x)) (sx : x.size ≤ maxLen) :
    Calls Try.prog 52 #[.pointer (some ⟨b, 0, none⟩)] w fun e w' => EndS (coversR x) w.heap.size e w' ∧ Below w.heap.size w w' := by
  have k1 := c1.cell
  have l1 := c1.lt
  by_cases h : IsW x
  · rw [coversR_ok h]
    have h1 := h.size
    have H := Lib.hid h
    have HS := Lib.hid (cvs_size h1)
    have hl := cvs_len x
    clear h
    go_enter Try.func52, Try.ntmps52
    go_wp2_with (first | (go_at_call 53; refine (isWord_yes x _ H.out).mono ?_; rintro e w1 ⟨rfl, a1⟩; have k2 := (boxed_past c1 a1 l1).cell) | (go_at_call 46; refine (refuse_yes _ _).mono ?_; rintro e w2 ⟨rfl, rfl⟩) | (go_at_call 54; refine (coversOf_any x _ H.out).mono ?_; rintro e w3 ⟨v3, rfl, o3, a3⟩) | (go_at_call 55; refine (texts_C _ _ _ _ o3 (by omega) HS.out).mono ?_; rintro e w4 ⟨v4, rfl, o4, a4⟩))
    go_ret
    exact ⟨.inl ⟨_, rfl, o4.base (a1.then a3).size, rfl⟩, (a1.then a3).then a4⟩
  · rw [coversR_bad h]
    have H := Lib.hid h
    clear h
    go_enter Try.func52, Try.ntmps52
    go_wp2_with (first | (go_at_call 53; refine (isWord_not x _ sx H.out).mono ?_; rintro e w1 ⟨rfl, a1⟩) | (go_at_call 46; refine (refuse_no _ _).mono ?_; rintro e w2 ⟨rfl, rfl⟩))
    exact ⟨rfl, .inr ⟨rfl, rfl⟩, a1⟩

set_option maxRecDepth 100000 in
theorem impl_CoversOf (x : ByteArray) (w : World) (sx : x.size ≤ maxLen) :
    Calls Try.prog 17 #[.string x] w (RetS (coversR x).1 (coversR x).2 w) := by
  have hmf : ∀ (fn : Fn) (first cap : Array Value) (w : World), (Instr.makeFunc fn first cap).run Try.prog w = .ok (.func fn first cap) w := fun _ _ _ _ => rfl
  have c1 : Boxed ((w.alloc (.cells #[.string x] 9)).alloc (.cells #[.int .i64 0] 2)) w.heap.size 9 (.string x) := (Boxed.new w _ _).alloc _
  have hB : Below w.heap.size w (w.alloc (.cells #[.string x] 9)) := Below.new _ _
  go_enter Try.func17, Try.ntmps17
  go_wp2_with (go_at_call 51; refine (door_list 52 _ _ (coversR x) (enters_of Try.func52 (by kernel_rfl) rfl) (coversOf1_any w.heap.size x _ c1 sx)).mono ?_; rintro e w1 ⟨v, rfl, o1, b1⟩)
  go_ret2
  exact ⟨_, rfl, o1.base (by simp), hB.then b1⟩

set_option maxRecDepth 100000 in
set_option maxHeartbeats 1000000 in
theorem leastCover1_any (b : Nat) (x : ByteArray) (w : World) (c1 : Boxed w b 9 (.string x)) (sx : x.size ≤ maxLen) :
    Calls Try.prog 58 #[.pointer (some ⟨b, 0, none⟩)] w fun e w' => EndT (leastCoverR x) e ∧ Below w.heap.size w w' := by
  have k1 := c1.cell
  have l1 := c1.lt
  by_cases h : IsW x
  · by_cases h0 : x.size = 0
    · rw [leastCoverR_empty h h0]
      have hq := nil_yesC h0
      have H := Lib.hid h
      clear h
      go_enter Try.func58, Try.ntmps58
      go_wp2_with (first | (go_at_call 53; refine (isWord_yes x _ H.out).mono ?_; rintro e w1 ⟨rfl, a1⟩; have k2 := (boxed_past c1 a1 l1).cell) | (go_at_call 46; first | (with_reducible refine (refuse_yes _ _).mono ?_; rintro e w2 ⟨rfl, rfl⟩) | (with_reducible refine (refuse_no _ _).mono ?_; rintro e w2 ⟨rfl, rfl⟩)))
      exact ⟨rfl, .inr ⟨rfl, rfl⟩, a1⟩
    · rw [leastCoverR_ok h h0]
      have hq := nil_noC h0
      have h1 := h.size
      have H := Lib.hid h
      have HS := Lib.hid (cvs_size h1)
      have hl := cvs_len x
      have hp := cvs_pos (x := x) (by omega)
      have HG := Lib.hid (lc_get (x := x) (by omega))
      clear h
      go_enter Try.func58, Try.ntmps58
      go_wp2_with (first | (go_at_call 53; refine (isWord_yes x _ H.out).mono ?_; rintro e w1 ⟨rfl, a1⟩; have k2 := (boxed_past c1 a1 l1).cell) | (go_at_call 46; first | (with_reducible refine (refuse_yes _ _).mono ?_; rintro e w2 ⟨rfl, rfl⟩) | (with_reducible refine (refuse_no _ _).mono ?_; rintro e w2 ⟨rfl, rfl⟩)) | (go_at_call 54; refine (coversOf_any x _ H.out).mono ?_; rintro e w3 ⟨v3, rfl, o3, a3⟩) | (go_at_call 55; refine (texts_C _ _ _ _ o3 (by omega) HS.out).mono ?_; rintro e w4 ⟨v4, rfl, o4, a4⟩; obtain ⟨g4, c4, rfl, z1, z2, z3, z4, z5, z6⟩ := o4.row hp; have y1 := z5 0 hp; rw [HG.out] at y1; clear z5; have y2 : (0 : Int) < ((cvs x).length : Int) := (by omega)))
      go_ret
      exact ⟨.inl ⟨rfl, rfl⟩, (a1.then a3).then a4⟩
  · rw [leastCoverR_bad h]
    have H := Lib.hid h
    clear h
    go_enter Try.func58, Try.ntmps58
    go_wp2_with (first | (go_at_call 53; refine (isWord_not x _ sx H.out).mono ?_; rintro e w1 ⟨rfl, a1⟩) | (go_at_call 46; refine (refuse_no _ _).mono ?_; rintro e w2 ⟨rfl, rfl⟩))
    exact ⟨rfl, .inr ⟨rfl, rfl⟩, a1⟩

set_option maxRecDepth 100000 in
theorem impl_LeastCover (x : ByteArray) (w : World) (sx : x.size ≤ maxLen) :
    Calls Try.prog 22 #[.string x] w fun e w' => e = .returned (.tuple #[.string (leastCoverR x).1, .int .i64 (leastCoverR x).2]) ∧ Below w.heap.size w w' := by
  have hmf : ∀ (fn : Fn) (first cap : Array Value) (w : World), (Instr.makeFunc fn first cap).run Try.prog w = .ok (.func fn first cap) w := fun _ _ _ _ => rfl
  have c1 : Boxed ((w.alloc (.cells #[.string x] 9)).alloc (.cells #[.int .i64 0] 2)) w.heap.size 9 (.string x) := (Boxed.new w _ _).alloc _
  have hB : Below w.heap.size w (w.alloc (.cells #[.string x] 9)) := Below.new _ _
  go_enter Try.func22, Try.ntmps22
  go_wp2_with (go_at_call 57; refine (door_text 58 _ _ (leastCoverR x) (enters_of Try.func58 (by kernel_rfl) rfl) (leastCover1_any w.heap.size x _ c1 sx)).mono ?_; rintro e w1 ⟨rfl, b1⟩)
  go_ret2
  exact ⟨rfl, hB.then b1⟩

set_option maxRecDepth 100000 in
set_option maxHeartbeats 1000000 in
theorem super1_any (b : Nat) (x : ByteArray) (w : World) (c1 : Boxed w b 9 (.string x)) (sx : x.size ≤ maxLen) :
    Calls Try.prog 59 #[.pointer (some ⟨b, 0, none⟩)] w fun e w' => EndB (superR x) e ∧ Below w.heap.size w w' := by
  have k1 := c1.cell
  have l1 := c1.lt
  by_cases h : IsW x
  · rw [superR_ok h]
    have h1 := h.size
    have H := Lib.hid h
    have hl := cvs_len x
    have hd : (((cvs x).length : Int) == 1) = decide ((cvs x).length = 1) := by rw [Bool.eq_iff_iff, beq_iff_eq, decide_eq_true_eq]; omega
    clear h
    go_enter Try.func59, Try.ntmps59
    go_wp2_with (first | (go_at_call 53; refine (isWord_yes x _ H.out).mono ?_; rintro e w1 ⟨rfl, a1⟩; have k2 := (boxed_past c1 a1 l1).cell) | (go_at_call 46; refine (refuse_yes _ _).mono ?_; rintro e w2 ⟨rfl, rfl⟩) | (go_at_call 54; refine (coversOf_any x _ H.out).mono ?_; rintro e w3 ⟨v3, rfl, o3, a3⟩; obtain ⟨ad3, c3, rfl, _⟩ := ownC_look o3))
    go_ret
    exact ⟨.inl ⟨by first | rfl | rw [← hd], rfl⟩, a1.then a3⟩
  · rw [superR_bad h]
    have H := Lib.hid h
    clear h
    go_enter Try.func59, Try.ntmps59
    go_wp2_with (first | (go_at_call 53; refine (isWord_not x _ sx H.out).mono ?_; rintro e w1 ⟨rfl, a1⟩) | (go_at_call 46; refine (refuse_no _ _).mono ?_; rintro e w2 ⟨rfl, rfl⟩))
    exact ⟨rfl, .inr ⟨rfl, rfl⟩, a1⟩

set_option maxRecDepth 100000 in
theorem impl_IsSuperprimitive (x : ByteArray) (w : World) (sx : x.size ≤ maxLen) :
    Calls Try.prog 24 #[.string x] w fun e w' => e = .returned (.tuple #[.bool (superR x).1, .int .i64 (superR x).2]) ∧ Below w.heap.size w w' := by
  have hmf : ∀ (fn : Fn) (first cap : Array Value) (w : World), (Instr.makeFunc fn first cap).run Try.prog w = .ok (.func fn first cap) w := fun _ _ _ _ => rfl
  have c1 : Boxed ((w.alloc (.cells #[.string x] 9)).alloc (.cells #[.int .i64 0] 2)) w.heap.size 9 (.string x) := (Boxed.new w _ _).alloc _
  have hB : Below w.heap.size w (w.alloc (.cells #[.string x] 9)) := Below.new _ _
  go_enter Try.func24, Try.ntmps24
  go_wp2_with (go_at_call 44; refine (door_test 59 _ _ (superR x) (enters_of Try.func59 (by kernel_rfl) rfl) (super1_any w.heap.size x _ c1 sx)).mono ?_; rintro e w1 ⟨rfl, b1⟩)
  go_ret2
  exact ⟨rfl, hB.then b1⟩

end Go.Proofs.Ytkemdiefoohdjaa
