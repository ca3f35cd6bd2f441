/- Words with names: the model. -/
import Derived.Test.YtedpbfddoobnnabNamedS
import Derived.Test.YtedpbfddoobnnabNamedI
namespace Go.Proofs.Ytedpbfddoobnnab
set_option linter.unusedVariables false
set_option linter.unusedSimpArgs false
open Go.RowKit

set_option maxRecDepth 100000 in
theorem spec_NamedWord (s : ByteArray) (m : Int) (w : World) (sx : s.size ≤ maxLen) (wm : (Lit.int .i64 m).wf = true) :
    Calls Try.prog 35 #[.string s, .int .i64 m] w fun e w' => e = .returned (.tuple #[.string (namedR s m).1, .int .i64 (namedR s m).2]) ∧ Below w.heap.size w w' := by
  by_cases hb : m < 0 ∨ 60 < m
  · rw [namedR_out hb]
    have HB := Lib.hid hb
    clear hb
    go_enter Try.func35, Try.ntmps35
    go_wp2_with fail
    refine (l01In_no' m 0 60 _ (by have := HB.out; omega)).mono ?_
    rintro e w1 ⟨rfl, rfl⟩
    go_wp2_with fail
    go_ret2
    exact ⟨rfl, Below.refl _ _⟩
  · rcases way_of s with ⟨hid, hw⟩ | ⟨d, hd, hid, hw⟩
    · rw [namedR_none hb hid]
      have HW := Lib.hid hw
      have h0 : 0 ≤ m := by omega
      have h1 : m ≤ 60 := by omega
      clear hb hid hw
      go_enter Try.func35, Try.ntmps35
      go_wp2_with fail
      refine (l01In_yes' m 0 60 _ h0 h1).mono ?_
      rintro e w1 ⟨rfl, rfl⟩
      go_wp2_with fail
      refine (l01Named_none s m _ HW.out).mono ?_
      rintro e w2 ⟨rfl, b2⟩
      go_wp2_with fail
      go_ret2
      exact ⟨rfl, b2⟩
    · obtain ⟨m, rfl⟩ := Int.eq_ofNat_of_zero_le (show 0 ≤ m by omega)
      have hm : m ≤ 60 := by omega
      rw [namedR_some hm hid]
      have HW := Lib.hid hw
      clear hb hid hw
      generalize hq : bt ((namedS d m).take m) = t
      have HQ := Lib.hid hq
      clear hq
      go_enter Try.func35, Try.ntmps35
      go_wp2_with fail
      refine (l01In_yes' _ 0 60 _ (by omega) (by omega)).mono ?_
      rintro e w1 ⟨rfl, rfl⟩
      go_wp2_with fail
      refine (l01Named_some s m d _ hd hm HW.out).mono ?_
      rintro e w2 ⟨rfl, b2⟩
      rw [HQ.out]
      go_wp2_with fail
      go_ret2
      exact ⟨rfl, b2⟩

end Go.Proofs.Ytedpbfddoobnnab
