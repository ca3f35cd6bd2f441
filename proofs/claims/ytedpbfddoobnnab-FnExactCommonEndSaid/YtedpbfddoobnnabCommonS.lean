/- Common beginnings and ends: the model's. -/
import Derived.Test.YtedpbfddoobnnabCommon
import Derived.Test.YtedpbfddoobnnabOwn
import Derived.IntWalk
namespace Go.Proofs.Ytedpbfddoobnnab
open Go.RowKit

theorem slice_from (x : ByteArray) (i : Int) (n : Nat) (hn : n ≤ x.size) (h : i = n) (W : World) :
    (Instr.slice 9 (.string x) (some (.int .i64 i)) none none).run Try.prog W = .ok (.string (x.extract n x.size)) W := by
  subst h
  have := run_slice_string_l (P := Try.prog) (w := W) (t := 9) (ht := Try.underlying9) (s := x) .i64 (n : Int) (by omega) (by omega)
  simpa using this

set_option maxRecDepth 100000 in
theorem spec_CommonBeginning (x y : ByteArray) (w : World) (sx : x.size ≤ maxLen) (sy : y.size ≤ maxLen) :
    Calls Try.prog 12 #[.string x, .string y] w fun e w' => e = .returned (.tuple #[.string (beginR x y).1, .int .i64 (beginR x y).2]) ∧ Below w.heap.size w w' := by
  by_cases h1 : IsW x
  · by_cases h2 : IsW y
    · have s1 := h1.size
      have s2 := h2.size
      rw [beginR_ok ⟨h1, h2⟩]
      have H1 := Lib.hid h1
      have H2 := Lib.hid h2
      clear h1 h2
      have hcm := comN_le x y
      go_enter Try.func12, Try.ntmps12
      go_wp2_with fail
      refine (l01Is_yes x _ H1.out).mono ?_
      rintro e w1 ⟨rfl, b1⟩
      go_wp2_with fail
      refine (l01Is_yes y _ H2.out).mono ?_
      rintro e w2 ⟨rfl, b2⟩
      have B2 := b1.then b2
      clear b1 b2
      go_wp2_with fail
      refine (l01Common_any x y _ s1 s2).mono ?_
      rintro e w3 ⟨rfl, b3⟩
      go_wp2_with fail
      go_ret2
      exact ⟨rfl, B2.then b3⟩
    · rw [beginR_bad (fun h => h2 h.2)]
      have H1 := Lib.hid h1
      have H2 := Lib.hid h2
      clear h1 h2
      go_enter Try.func12, Try.ntmps12
      go_wp2_with fail
      refine (l01Is_yes x _ H1.out).mono ?_
      rintro e w1 ⟨rfl, b1⟩
      go_wp2_with fail
      refine (l01Is_no y _ sy H2.out).mono ?_
      rintro e w2 ⟨rfl, b2⟩
      go_wp2_with fail
      go_ret2
      exact ⟨rfl, b1.then b2⟩
  · rw [beginR_bad (fun h => h1 h.1)]
    have H1 := Lib.hid h1
    clear h1
    go_enter Try.func12, Try.ntmps12
    go_wp2_with (go_at_call 37; refine (l01Is_no x _ sx H1.out).mono ?_; rintro e w1 ⟨rfl, b1⟩)
    go_ret2
    exact ⟨rfl, b1⟩

set_option maxRecDepth 100000 in
theorem spec_CommonEnd (x y : ByteArray) (w : World) (sx : x.size ≤ maxLen) (sy : y.size ≤ maxLen) :
    Calls Try.prog 14 #[.string x, .string y] w fun e w' => e = .returned (.tuple #[.string (endR x y).1, .int .i64 (endR x y).2]) ∧ Below w.heap.size w w' := by
  by_cases h1 : IsW x
  · by_cases h2 : IsW y
    · have s1 := h1.size
      have s2 := h2.size
      rw [endR_ok ⟨h1, h2⟩]
      have H1 := Lib.hid h1
      have H2 := Lib.hid h2
      clear h1 h2
      have hcm := comN_le (rev x) (rev y)
      have t1 := rev_size x
      have t2 := rev_size y
      have T1 : (rev x).size ≤ 60 := by omega
      have T2 : (rev y).size ≤ 60 := by omega
      have T3 : comN (rev x) (rev y) ≤ x.size := by omega
      clear hcm t1 t2
      have e1 : IntKind.i64.wrap ((x.size : Int) - comN (rev x) (rev y)) = (x.size : Int) - comN (rev x) (rev y) := IntWalk.i64_in _ (by omega)
      have hsl : ∀ W, (Instr.slice 9 (.string x) (some (.int .i64 ((x.size : Int) - comN (rev x) (rev y)))) none none).run Try.prog W = .ok (.string (x.extract (x.size - comN (rev x) (rev y)) x.size)) W := fun W => slice_from x _ _ (by omega) (by omega) W
      go_enter Try.func14, Try.ntmps14
      go_wp2_with fail
      refine (l01Is_yes x _ H1.out).mono ?_
      rintro e w1 ⟨rfl, b1⟩
      go_wp2_with fail
      refine (l01Is_yes y _ H2.out).mono ?_
      rintro e w2 ⟨rfl, b2⟩
      have B2 := b1.then b2
      clear b1 b2
      go_wp2_with fail
      refine (l01Reversed_any x _ s1).mono ?_
      rintro e w3 ⟨rfl, b3⟩
      go_wp2_with fail
      refine (l01Reversed_any y _ s2).mono ?_
      rintro e w4 ⟨rfl, b4⟩
      go_wp2_with fail
      refine (l01Common_any (rev x) (rev y) _ T1 T2).mono ?_
      rintro e w5 ⟨rfl, b5⟩
      go_wp2_with fail
      go_ret2
      exact ⟨rfl, ((B2.then b3).then b4).then b5⟩
    · rw [endR_bad (fun h => h2 h.2)]
      have H1 := Lib.hid h1
      have H2 := Lib.hid h2
      clear h1 h2
      go_enter Try.func14, Try.ntmps14
      go_wp2_with fail
      refine (l01Is_yes x _ H1.out).mono ?_
      rintro e w1 ⟨rfl, b1⟩
      go_wp2_with fail
      refine (l01Is_no y _ sy H2.out).mono ?_
      rintro e w2 ⟨rfl, b2⟩
      go_wp2_with fail
      go_ret2
      exact ⟨rfl, b1.then b2⟩
  · rw [endR_bad (fun h => h1 h.1)]
    have H1 := Lib.hid h1
    clear h1
    go_enter Try.func14, Try.ntmps14
    go_wp2_with (go_at_call 37; refine (l01Is_no x _ sx H1.out).mono ?_; rintro e w1 ⟨rfl, b1⟩)
    go_ret2
    exact ⟨rfl, b1⟩

end Go.Proofs.Ytedpbfddoobnnab
