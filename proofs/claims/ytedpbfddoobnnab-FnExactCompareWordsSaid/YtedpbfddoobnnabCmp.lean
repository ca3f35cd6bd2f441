/- Words in order: the program and the model. -/
import Derived.Test.YtedpbfddoobnnabWords
import Derived.Test.YtedpbfddoobnnabLib
import Derived.Test.YtedpbfddoobnnabCmpPlain
import Derived.WalkLawsBesides
import Derived.Sort.Walk0
namespace Go.Proofs.Ytedpbfddoobnnab
set_option linter.unusedVariables false
set_option linter.unusedSimpArgs false
open Go.RowKit

set_option maxRecDepth 100000 in
theorem impl_CompareWords (x y : ByteArray) (w : World) (sx : x.size ≤ maxLen) (sy : y.size ≤ maxLen) :
    Calls Try.prog 21 #[.string x, .string y] w fun e w' => e = .returned (.tuple #[.int .i64 (cmpR x y).1, .int .i64 (cmpR x y).2]) ∧ Below w.heap.size w w' := by
  by_cases h : IsW x ∧ IsW y
  · have s1 := h.1.size
    have s2 := h.2.size
    rw [cmpR_ok h]
    have H := Lib.hid h
    clear h
    generalize hg : Lib.compareBytes x.data.toList y.data.toList = c
    have G := Lib.hid hg
    clear hg
    go_enter Try.func21, Try.ntmps21
    go_wp2_with (first | (go_at_call 39; refine (areWords2_yes _ x y _ (by simp) (by simp [go_sem]) (by simp [go_sem]) H.out.1 H.out.2).mono ?_; rintro e w1 ⟨rfl, b1⟩) | (go_at_call 42; refine (Try.strings_Compare x y _).mono ?_; rintro e w2 ⟨rfl, hw2⟩; rw [G.out]; subst hw2))
    go_ret2
    exact ⟨rfl, (Below.new w _).then b1⟩
  · rw [cmpR_bad h]
    have H := Lib.hid h
    clear h
    go_enter Try.func21, Try.ntmps21
    go_wp2_with (go_at_call 39; refine (areWords2_no _ x y _ (by simp) (by simp [go_sem]) (by simp [go_sem]) sx sy H.out).mono ?_; rintro e w1 ⟨rfl, b1⟩)
    go_ret2
    exact ⟨rfl, (Below.new _ _).then b1⟩

set_option maxRecDepth 100000 in
theorem spec_CompareWords (x y : ByteArray) (w : World) (sx : x.size ≤ maxLen) (sy : y.size ≤ maxLen) :
    Calls Try.prog 20 #[.string x, .string y] w fun e w' => e = .returned (.tuple #[.int .i64 (cmpR x y).1, .int .i64 (cmpR x y).2]) ∧ Below w.heap.size w w' := by
  by_cases h1 : IsW x
  · by_cases h2 : IsW y
    · have s1 := h1.size
      have s2 := h2.size
      rw [cmpR_ok ⟨h1, h2⟩, cmp_lists]
      have H1 := Lib.hid h1
      have H2 := Lib.hid h2
      clear h1 h2
      by_cases k1 : x.data.toList < y.data.toList
      · rw [if_pos k1]
        have d1 : Op.bytesLess x.toList y.toList = true := by rw [Proofs.bytesLess_eq, Lib.toList_data, Lib.toList_data]; simpa using k1
        clear k1
        go_enter Try.func20, Try.ntmps20
        go_wp2_with fail
        refine (l01Is_yes x _ H1.out).mono ?_
        rintro e w1 ⟨rfl, b1⟩
        go_wp2_with fail
        refine (l01Is_yes y _ H2.out).mono ?_
        rintro e w2 ⟨rfl, b2⟩
        have B2 := b1.then b2
        clear b1 b2
        go_wp2_with fail
        go_ret2
        exact ⟨rfl, B2⟩
      · by_cases k2 : y.data.toList < x.data.toList
        · rw [if_neg k1, if_pos k2]
          have d1 : Op.bytesLess x.toList y.toList = false := by rw [Proofs.bytesLess_eq, Lib.toList_data, Lib.toList_data]; simpa using k1
          have d2 : (x.toList == y.toList) = false := by
            rw [Lib.toList_data, Lib.toList_data, beq_eq_false_iff_ne]
            intro e
            rw [e] at k2
            exact List.lt_irrefl _ k2
          clear k1 k2
          go_enter Try.func20, Try.ntmps20
          go_wp2_with fail
          refine (l01Is_yes x _ H1.out).mono ?_
          rintro e w1 ⟨rfl, b1⟩
          go_wp2_with fail
          refine (l01Is_yes y _ H2.out).mono ?_
          rintro e w2 ⟨rfl, b2⟩
          have B2 := b1.then b2
          clear b1 b2
          go_wp2_with fail
          go_ret2
          exact ⟨rfl, B2⟩
        · rw [if_neg k1, if_neg k2]
          have d1 : Op.bytesLess x.toList y.toList = false := by rw [Proofs.bytesLess_eq, Lib.toList_data, Lib.toList_data]; simpa using k1
          have d2 : (x.toList == y.toList) = true := by
            rw [Lib.toList_data, Lib.toList_data, beq_iff_eq]
            exact List.le_antisymm (List.not_lt.1 k2) (List.not_lt.1 k1)
          clear k1 k2
          go_enter Try.func20, Try.ntmps20
          go_wp2_with fail
          refine (l01Is_yes x _ H1.out).mono ?_
          rintro e w1 ⟨rfl, b1⟩
          go_wp2_with fail
          refine (l01Is_yes y _ H2.out).mono ?_
          rintro e w2 ⟨rfl, b2⟩
          have B2 := b1.then b2
          clear b1 b2
          go_wp2_with fail
          go_ret2
          exact ⟨rfl, B2⟩
    · rw [cmpR_bad (fun h => h2 h.2)]
      have H1 := Lib.hid h1
      have H2 := Lib.hid h2
      clear h1 h2
      go_enter Try.func20, Try.ntmps20
      go_wp2_with fail
      refine (l01Is_yes x _ H1.out).mono ?_
      rintro e w1 ⟨rfl, b1⟩
      go_wp2_with fail
      refine (l01Is_no y _ sy H2.out).mono ?_
      rintro e w2 ⟨rfl, b2⟩
      go_wp2_with fail
      go_ret2
      exact ⟨rfl, b1.then b2⟩
  · rw [cmpR_bad (fun h => h1 h.1)]
    have H1 := Lib.hid h1
    clear h1
    go_enter Try.func20, Try.ntmps20
    go_wp2_with (go_at_call 37; refine (l01Is_no x _ sx H1.out).mono ?_; rintro e w1 ⟨rfl, b1⟩)
    go_ret2
    exact ⟨rfl, b1⟩

end Go.Proofs.Ytedpbfddoobnnab
