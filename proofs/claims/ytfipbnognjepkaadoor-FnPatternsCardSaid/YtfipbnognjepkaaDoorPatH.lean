/- The functions on a word and a pattern, with their doors. -/
import Derived.Test.YtfipbnognjepkaaDoorPatF
import Derived.Test.YtfipbnognjepkaaDoorPatT
import Derived.Test.YtfipbnognjepkaaDoorWord
namespace Go.Proofs.YtfipbnognjepkaaDoor
set_option linter.unusedVariables false
set_option linter.unusedSimpArgs false
open Go.RowKit

set_option maxRecDepth 100000 in
set_option maxHeartbeats 2000000 in
theorem FitsPattern1_any (b1 b2 : Nat) (x p : ByteArray) (w : World) (c1 : Boxed w b1 9 (.string x)) (c2 : Boxed w b2 9 (.string p)) (sx : x.size ≤ maxLen) (sp : p.size ≤ maxLen) :
    Calls Tryd.prog 80 #[.pointer (some ⟨b1, 0, none⟩), .pointer (some ⟨b2, 0, none⟩)] w fun e w' => EndB (fitsR x p) e ∧ Below w.heap.size w w' := by
  have k1 := c1.cell
  have k2 := c2.cell
  have l1 := c1.lt
  have l2 := c2.lt
  by_cases hx : IsW x
  · by_cases hp : IsP p
    · rw [fitsR_ok ⟨hx, hp⟩]
      have HX := Lib.hid hx
      have HP := Lib.hid hp
      have CF := Lib.hid (fun W => wholeFits_any p x hp hx W)
      clear hx hp
      go_enter Tryd.func80, Tryd.ntmps80
      go_wp2_with (first | (go_at_call 61; (with_reducible refine (isWord_yes x _ HX.out).mono ?_); rintro e w1 ⟨rfl, a0⟩; have d1 := boxed_past c1 a0 l1; have d2 := boxed_past c2 a0 l2; have k3 := d1.cell; have k4 := d2.cell; have l3 := d1.lt; have l4 := d2.lt) | (go_at_call 62; (with_reducible refine (isPattern_yes p HP.out _).mono ?_); rintro e w2 ⟨rfl, a1⟩; have k5 := (boxed_past d1 a1 l3).cell; have k6 := (boxed_past d2 a1 l4).cell) | (go_at_call 70; (with_reducible refine (refuse_yes _ _).mono ?_); rintro e w3 ⟨rfl, rfl⟩) | (go_at_call 81; (with_reducible refine (CF.out _).mono ?_); rintro e w4 ⟨rfl, a4⟩))
      go_ret
      exact ⟨.inl ⟨rfl, rfl⟩, (a0.then a1).then a4⟩
    · rw [fitsR_bad (fun h => hp h.2)]
      have HX := Lib.hid hx
      have HP := Lib.hid hp
      have SP := Lib.hid sp
      clear hx hp sp sx
      go_enter Tryd.func80, Tryd.ntmps80
      go_wp2_with (first | (go_at_call 61; (with_reducible refine (isWord_yes x _ HX.out).mono ?_); rintro e w1 ⟨rfl, a0⟩; have d1 := boxed_past c1 a0 l1; have d2 := boxed_past c2 a0 l2; have k3 := d1.cell; have k4 := d2.cell; have l3 := d1.lt; have l4 := d2.lt) | (go_at_call 62; (with_reducible refine (isPattern_no p SP.out HP.out _).mono ?_); rintro e w2 ⟨rfl, a1⟩) | (go_at_call 70; (with_reducible refine (refuse_no _ _).mono ?_); rintro e w3 ⟨rfl, rfl⟩))
      exact ⟨rfl, .inr ⟨rfl, rfl⟩, a0.then a1⟩
  · rw [fitsR_bad (fun h => hx h.1)]
    have HX := Lib.hid hx
    have SX := Lib.hid sx
    clear hx sp sx
    go_enter Tryd.func80, Tryd.ntmps80
    go_wp2_with (first | (go_at_call 61; (with_reducible refine (isWord_not x _ SX.out HX.out).mono ?_); rintro e w1 ⟨rfl, a0⟩; have d1 := boxed_past c1 a0 l1; have d2 := boxed_past c2 a0 l2; have k3 := d1.cell; have k4 := d2.cell; have l3 := d1.lt; have l4 := d2.lt) | (go_at_call 70; (with_reducible refine (refuse_no _ _).mono ?_); rintro e w3 ⟨rfl, rfl⟩))
    exact ⟨rfl, .inr ⟨rfl, rfl⟩, a0⟩

set_option maxRecDepth 100000 in
set_option maxHeartbeats 1000000 in
theorem impl_FitsPattern (x p : ByteArray) (w : World) (sx : x.size ≤ maxLen) (sp : p.size ≤ maxLen) :
    Calls Tryd.prog 24 #[.string x, .string p] w fun e w' => e = .returned (.tuple #[.bool (fitsR x p).1, .int .i64 (fitsR x p).2]) ∧ Below w.heap.size w w' := by
  have c1 : Boxed ((w.alloc (.cells #[.string x] 9)).alloc (.cells #[.string p] 9)) w.heap.size 9 (.string x) := (Boxed.new w _ _).alloc _
  have c2 : Boxed ((w.alloc (.cells #[.string x] 9)).alloc (.cells #[.string p] 9)) (w.heap.size + 1) 9 (.string p) := by
    have h := Boxed.new (w.alloc (.cells #[.string x] 9)) 9 (.string p)
    rwa [World.size_alloc] at h
  have C1 := Lib.hid (c1.alloc (.cells #[.int .i64 0] 2))
  have C2 := Lib.hid (c2.alloc (.cells #[.int .i64 0] 2))
  clear c1 c2
  go_enter Tryd.func24, Tryd.ntmps24
  go_wp2_with (go_at_call 75; refine (door_test 80 _ _ (fitsR x p) (enters_of Tryd.func80 (by kernel_rfl) rfl) (FitsPattern1_any w.heap.size (w.heap.size + 1) x p _ C1.out C2.out sx sp)).mono ?_; rintro e w1 ⟨rfl, b1⟩)
  go_ret2
  exact ⟨rfl, ((Below.new w _).alloc (by simp) _).then b1⟩

set_option maxRecDepth 100000 in
set_option maxHeartbeats 2000000 in
theorem HasPattern1_any (b1 b2 : Nat) (x p : ByteArray) (w : World) (c1 : Boxed w b1 9 (.string x)) (c2 : Boxed w b2 9 (.string p)) (sx : x.size ≤ maxLen) (sp : p.size ≤ maxLen) :
    Calls Tryd.prog 76 #[.pointer (some ⟨b1, 0, none⟩), .pointer (some ⟨b2, 0, none⟩)] w fun e w' => EndB (hasR x p) e ∧ Below w.heap.size w w' := by
  have k1 := c1.cell
  have k2 := c2.cell
  have l1 := c1.lt
  have l2 := c2.lt
  by_cases hx : IsW x
  · by_cases hp : IsP p
    · rw [hasR_ok ⟨hx, hp⟩]
      have HX := Lib.hid hx
      have HP := Lib.hid hp
      have CF := Lib.hid (fun W => firstFit_any p x hp hx W)
      clear hx hp
      have hhb : hasB (bl x) (bl p) = (pff (bl x) (bl p)).isSome := rfl
      rw [hhb]
      generalize pff (bl x) (bl p) = r at *
      cases r with
      | none =>
        go_enter Tryd.func76, Tryd.ntmps76
        go_wp2_with (first | (go_at_call 61; (with_reducible refine (isWord_yes x _ HX.out).mono ?_); rintro e w1 ⟨rfl, a0⟩; have d1 := boxed_past c1 a0 l1; have d2 := boxed_past c2 a0 l2; have k3 := d1.cell; have k4 := d2.cell; have l3 := d1.lt; have l4 := d2.lt) | (go_at_call 62; (with_reducible refine (isPattern_yes p HP.out _).mono ?_); rintro e w2 ⟨rfl, a1⟩; have k5 := (boxed_past d1 a1 l3).cell; have k6 := (boxed_past d2 a1 l4).cell) | (go_at_call 70; (with_reducible refine (refuse_yes _ _).mono ?_); rintro e w3 ⟨rfl, rfl⟩) | (go_at_call 71; (with_reducible refine (CF.out _).mono ?_); rintro e w4 ⟨a4, g, hg, he, hL⟩; obtain rfl : e = .returned (.tuple #[.agg #[.int .i64 0, .slice none 0 0], .bool false]) := he))
        go_ret
        exact ⟨.inl ⟨rfl, rfl⟩, ((a0.then a1).then a4).alloc (by have := ((a0.then a1).then a4).size; omega) _⟩
      | some iW =>
        obtain ⟨i, W⟩ := iW
        go_enter Tryd.func76, Tryd.ntmps76
        go_wp2_with (first | (go_at_call 61; (with_reducible refine (isWord_yes x _ HX.out).mono ?_); rintro e w1 ⟨rfl, a0⟩; have d1 := boxed_past c1 a0 l1; have d2 := boxed_past c2 a0 l2; have k3 := d1.cell; have k4 := d2.cell; have l3 := d1.lt; have l4 := d2.lt) | (go_at_call 62; (with_reducible refine (isPattern_yes p HP.out _).mono ?_); rintro e w2 ⟨rfl, a1⟩; have k5 := (boxed_past d1 a1 l3).cell; have k6 := (boxed_past d2 a1 l4).cell) | (go_at_call 70; (with_reducible refine (refuse_yes _ _).mono ?_); rintro e w3 ⟨rfl, rfl⟩) | (go_at_call 71; (with_reducible refine (CF.out _).mono ?_); rintro e w4 ⟨a4, g, hg, he, hL⟩; obtain ⟨v1, rfl, hown⟩ := he; obtain ⟨va, vn, vc, rfl⟩ := hown.shape))
        go_ret
        exact ⟨.inl ⟨rfl, rfl⟩, ((a0.then a1).then a4).alloc (by have := ((a0.then a1).then a4).size; omega) _⟩
    · rw [hasR_bad (fun h => hp h.2)]
      have HX := Lib.hid hx
      have HP := Lib.hid hp
      have SP := Lib.hid sp
      clear hx hp sp sx
      go_enter Tryd.func76, Tryd.ntmps76
      go_wp2_with (first | (go_at_call 61; (with_reducible refine (isWord_yes x _ HX.out).mono ?_); rintro e w1 ⟨rfl, a0⟩; have d1 := boxed_past c1 a0 l1; have d2 := boxed_past c2 a0 l2; have k3 := d1.cell; have k4 := d2.cell; have l3 := d1.lt; have l4 := d2.lt) | (go_at_call 62; (with_reducible refine (isPattern_no p SP.out HP.out _).mono ?_); rintro e w2 ⟨rfl, a1⟩) | (go_at_call 70; (with_reducible refine (refuse_no _ _).mono ?_); rintro e w3 ⟨rfl, rfl⟩))
      exact ⟨rfl, .inr ⟨rfl, rfl⟩, a0.then a1⟩
  · rw [hasR_bad (fun h => hx h.1)]
    have HX := Lib.hid hx
    have SX := Lib.hid sx
    clear hx sp sx
    go_enter Tryd.func76, Tryd.ntmps76
    go_wp2_with (first | (go_at_call 61; (with_reducible refine (isWord_not x _ SX.out HX.out).mono ?_); rintro e w1 ⟨rfl, a0⟩; have d1 := boxed_past c1 a0 l1; have d2 := boxed_past c2 a0 l2; have k3 := d1.cell; have k4 := d2.cell; have l3 := d1.lt; have l4 := d2.lt) | (go_at_call 70; (with_reducible refine (refuse_no _ _).mono ?_); rintro e w3 ⟨rfl, rfl⟩))
    exact ⟨rfl, .inr ⟨rfl, rfl⟩, a0⟩

set_option maxRecDepth 100000 in
set_option maxHeartbeats 1000000 in
theorem impl_HasPattern (x p : ByteArray) (w : World) (sx : x.size ≤ maxLen) (sp : p.size ≤ maxLen) :
    Calls Tryd.prog 21 #[.string x, .string p] w fun e w' => e = .returned (.tuple #[.bool (hasR x p).1, .int .i64 (hasR x p).2]) ∧ Below w.heap.size w w' := by
  have c1 : Boxed ((w.alloc (.cells #[.string x] 9)).alloc (.cells #[.string p] 9)) w.heap.size 9 (.string x) := (Boxed.new w _ _).alloc _
  have c2 : Boxed ((w.alloc (.cells #[.string x] 9)).alloc (.cells #[.string p] 9)) (w.heap.size + 1) 9 (.string p) := by
    have h := Boxed.new (w.alloc (.cells #[.string x] 9)) 9 (.string p)
    rwa [World.size_alloc] at h
  have C1 := Lib.hid (c1.alloc (.cells #[.int .i64 0] 2))
  have C2 := Lib.hid (c2.alloc (.cells #[.int .i64 0] 2))
  clear c1 c2
  go_enter Tryd.func21, Tryd.ntmps21
  go_wp2_with (go_at_call 75; refine (door_test 76 _ _ (hasR x p) (enters_of Tryd.func76 (by kernel_rfl) rfl) (HasPattern1_any w.heap.size (w.heap.size + 1) x p _ C1.out C2.out sx sp)).mono ?_; rintro e w1 ⟨rfl, b1⟩)
  go_ret2
  exact ⟨rfl, ((Below.new w _).alloc (by simp) _).then b1⟩

end Go.Proofs.YtfipbnognjepkaaDoor
