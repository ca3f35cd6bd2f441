/- A desk is told apart from others: the model and the program. -/
import Derived.Test.YtfipbnognjepkaaDoorDesk
import Derived.Test.YtfipbnognjepkaaDoorMorC
import Derived.Test.YtfipbnognjepkaaDoorPatB
namespace Go.Proofs.YtfipbnognjepkaaDoor
set_option linter.unusedVariables false
set_option linter.unusedSimpArgs false
open Go.RowKit

/-- Is it a desk? -/
noncomputable def dskR (x y : ByteArray) (I : List (List UInt8)) : Bool := @ite _ (IsW x ∧ IsP y ∧ Mor I) (Classical.propDecidable _) true false
theorem dskR_no {x y : ByteArray} {I : List (List UInt8)} (h : ¬ (IsW x ∧ IsP y ∧ Mor I)) : dskR x y I = false := if_neg h
theorem dskR_mor {x y : ByteArray} {I : List (List UInt8)} (hx : IsW x) (hy : IsP y) : dskR x y I = decide (Mor I) := by
  by_cases h : Mor I
  · rw [decide_eq_true h]; exact if_pos ⟨hx, hy, h⟩
  · rw [decide_eq_false h]; exact if_neg fun q => h q.2.2

set_option maxRecDepth 100000 in
set_option maxHeartbeats 1000000 in
theorem spec_IsDesk (B : Nat) (x y : ByteArray) (v : Value) (I : List (List UInt8)) (w : World) (h : OwnS w B v (I.map bt)) (t : Tot I) (sx : x.size ≤ maxLen) (sy : y.size ≤ maxLen) :
    Calls Tryd.prog 9 #[.agg #[.string x, .string y, v]] w fun e w' => e = .returned (.bool (dskR x y I)) ∧ Below w.heap.size w w' := by
  have B0 : Below w.heap.size w (w.alloc (.cells #[.string x, .string y, v] dkI)) := Below.new _ _
  have D0 := Dk3.new dkI w (.string x) (.string y) v
  by_cases hx : IsW x
  · have HX := Lib.hid hx
    by_cases hy : IsP y
    · have e1 : dskR x y I = decide (Mor I) := dskR_mor hx hy
      rw [e1]
      have cm := fun W h => l06Is_any B v I W h t
      generalize decide (Mor I) = r at cm ⊢
      have CM := Lib.hid cm
      have H := Lib.hid h
      have HY := Lib.hid hy
      clear cm h t hx hy e1
      go_enter Tryd.func9, Tryd.ntmps9
      go_wp2_with (first | (go_at_call 57; (with_reducible refine (l01Is_yes x _ HX.out).mono ?_); rintro e w1 ⟨rfl, b1⟩; have d1 := D0.later b1; have k1 := d1.c1; have k2 := d1.c2) | (go_at_call 58; (with_reducible refine (l10Is_yes y _ HY.out).mono ?_); rintro e w2 ⟨rfl, b2⟩; have d2 := d1.later b2; have k3 := d2.c2) | (go_at_call 59; refine (CM.out _ (H.out.below ((B0.then b1).then b2))).mono ?_; rintro e w3 ⟨rfl, b3⟩))
      go_ret
      exact ⟨rfl, ((B0.then b1).then b2).then b3⟩
    · have e1 : dskR x y I = false := dskR_no (fun h => hy h.2.1)
      rw [e1]
      have HY := Lib.hid hy
      have SY := Lib.hid sy
      clear h t hx hy e1
      go_enter Tryd.func9, Tryd.ntmps9
      go_wp2_with (first | (go_at_call 57; (with_reducible refine (l01Is_yes x _ HX.out).mono ?_); rintro e w1 ⟨rfl, b1⟩; have d1 := D0.later b1; have k1 := d1.c1; have k2 := d1.c2) | (go_at_call 58; (with_reducible refine (l10Is_no y _ SY.out HY.out).mono ?_); rintro e w2 ⟨rfl, b2⟩; have d2 := d1.later b2; have k3 := d2.c2))
      go_ret
      exact ⟨rfl, (B0.then b1).then b2⟩
  · have e1 : dskR x y I = false := dskR_no (fun h => hx h.1)
    rw [e1]
    have HX := Lib.hid hx
    have SX := Lib.hid sx
    clear h t hx e1
    go_enter Tryd.func9, Tryd.ntmps9
    go_wp2_with (first | (go_at_call 57; (with_reducible refine (l01Is_no x _ SX.out HX.out).mono ?_); rintro e w1 ⟨rfl, b1⟩; have d1 := D0.later b1; have k1 := d1.c1; have k2 := d1.c2))
    go_ret
    exact ⟨rfl, B0.then b1⟩

set_option maxRecDepth 100000 in
set_option maxHeartbeats 1000000 in
theorem impl_IsDesk (B : Nat) (x y : ByteArray) (v : Value) (I : List (List UInt8)) (w : World) (h : OwnS w B v (I.map bt)) (t : Tot I) (sx : x.size ≤ maxLen) (sy : y.size ≤ maxLen) :
    Calls Tryd.prog 11 #[.agg #[.string x, .string y, v]] w fun e w' => e = .returned (.bool (dskR x y I)) ∧ Below w.heap.size w w' := by
  have B0 : Below w.heap.size w (w.alloc (.cells #[.string x, .string y, v] dkI)) := Below.new _ _
  have D0 := Dk3.new dkI w (.string x) (.string y) v
  by_cases hx : IsW x
  · have HX := Lib.hid hx
    by_cases hy : IsP y
    · have e1 : dskR x y I = decide (Mor I) := dskR_mor hx hy
      rw [e1]
      have cm := fun W h => impl_IsMorphism B v I W h t
      generalize decide (Mor I) = r at cm ⊢
      have CM := Lib.hid cm
      have H := Lib.hid h
      have HY := Lib.hid hy
      clear cm h t hx hy e1
      go_enter Tryd.func11, Tryd.ntmps11
      go_wp2_with (first | (go_at_call 61; (with_reducible refine (isWord_yes x _ HX.out).mono ?_); rintro e w1 ⟨rfl, b1⟩; have d1 := D0.later b1; have k1 := d1.c1; have k2 := d1.c2) | (go_at_call 62; (with_reducible refine (isPattern_yes y HY.out _).mono ?_); rintro e w2 ⟨rfl, b2⟩; have d2 := d1.later b2; have k3 := d2.c2) | (go_at_call 63; refine (CM.out _ (H.out.below ((B0.then b1).then b2))).mono ?_; rintro e w3 ⟨rfl, b3⟩))
      go_ret
      exact ⟨rfl, ((B0.then b1).then b2).then b3⟩
    · have e1 : dskR x y I = false := dskR_no (fun h => hy h.2.1)
      rw [e1]
      have HY := Lib.hid hy
      have SY := Lib.hid sy
      clear h t hx hy e1
      go_enter Tryd.func11, Tryd.ntmps11
      go_wp2_with (first | (go_at_call 61; (with_reducible refine (isWord_yes x _ HX.out).mono ?_); rintro e w1 ⟨rfl, b1⟩; have d1 := D0.later b1; have k1 := d1.c1; have k2 := d1.c2) | (go_at_call 62; (with_reducible refine (isPattern_no y SY.out HY.out _).mono ?_); rintro e w2 ⟨rfl, b2⟩; have d2 := d1.later b2; have k3 := d2.c2))
      go_ret
      exact ⟨rfl, (B0.then b1).then b2⟩
  · have e1 : dskR x y I = false := dskR_no (fun h => hx h.1)
    rw [e1]
    have HX := Lib.hid hx
    have SX := Lib.hid sx
    clear h t hx e1
    go_enter Tryd.func11, Tryd.ntmps11
    go_wp2_with (first | (go_at_call 61; (with_reducible refine (isWord_not x _ SX.out HX.out).mono ?_); rintro e w1 ⟨rfl, b1⟩; have d1 := D0.later b1; have k1 := d1.c1; have k2 := d1.c2))
    go_ret
    exact ⟨rfl, B0.then b1⟩

end Go.Proofs.YtfipbnognjepkaaDoor
