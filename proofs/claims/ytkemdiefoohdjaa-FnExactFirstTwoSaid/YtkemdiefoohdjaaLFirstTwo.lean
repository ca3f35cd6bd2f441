/- For every string and number: the program and the model alike answer the first two factors that cover together, with the same code. No condition. -/
import Derived.Test.YtkemdiefoohdjaaFtS
import Derived.Test.YtkemdiefoohdjaaFtI
import Derived.Test.YtkemdiefoohdjaaRows
import Derived.WalkKit
import Derived.ProofKit
import Derived.OpenShut
import Derived.ShutString
import Derived.ChangeOld
import Derived.Below
namespace Go.Proofs.Ytkemdiefoohdjaa.fnExactFirstTwo
open Go.ChangeShapes Go.WideShapes Go.ChangeAt Go.RowKit
open Go.ChangeMaps (open_string shut_string)
set_option linter.unusedVariables false

set_option maxRecDepth 100000 in
set_option maxHeartbeats 1000000 in
theorem walk (a0 : ByteArray) (a1 : Int) (w : World) (w0 : a0.size ≤ maxLen) (w1 : (Lit.int .i64 a1).wf = true) :
    Calls Try.prog 13 #[.string a0, .int .i64 a1] w fun e w' => e = .returned (.bool true) ∧ Below w.heap.size w w' := by
  have m0 := w0
  unfold maxLen at m0
  by_cases hb0 : 1048576 < a0.size
  · go_enter Try.func13, Try.ntmps13
    go_wp2
    go_ret
    exact ⟨rfl, Below.refl _ _⟩
  have hlen := firstTwoR_len a0 a1
  have cs := fun w => spec_FirstTwo a0 a1 w w0 w1
  have ci := fun w => impl_FirstTwo a0 a1 w w0 w1
  generalize (firstTwoR a0 a1).1 = L at cs ci hlen
  generalize (firstTwoR a0 a1).2 = c at cs ci
  have CS := Lib.hid cs
  have CI := Lib.hid ci
  clear cs ci
  go_enter Try.func13, Try.ntmps13
  go_wp2_with fail
  refine (CS.out _).mono ?_
  rintro e w1 ⟨v0, rfl, o0, b1⟩
  have hlt := fun k hk => (OwnS.lt o0 k hk).2
  have hw1 := b1.size
  go_wp2_with fail
  refine (CI.out _).mono ?_
  rintro e w2 ⟨v1, rfl, o1, b2⟩
  have o0 := o0.below b2
  have B2 := b1.then b2
  go_wp2_with fail
  refine (eqS_yes _ _ v1 v0 L _ o1 o0).mono ?_
  rintro e w3 ⟨rfl, b3⟩
  have B3 := B2.then b3
  have o0 := o0.below b3
  have o1 := o1.below b3
  clear b1 b2 b3 B2
  go_wp2_with fail
  refine (markS _ v1 L 1 _ o1 (by omega) (by omega) (by omega)).mono ?_
  rintro e w4 ⟨rfl, o4, g4⟩
  have o0 := o0.kept o1 hlt g4
  have B4 := below_markedS B3 o1 hw1 g4
  clear g4 o1 B3
  go_wp2_with fail
  refine (heldS _ v1 L.length 1 _ o4 (by omega) (by omega) (by omega)).mono ?_
  rintro e w5 ⟨rfl, b5⟩
  have o0 := o0.below b5
  have o4 := o4.below b5
  have B5 := B4.then b5
  clear b5 B4
  go_wp2_with fail
  refine (CI.out _).mono ?_
  rintro e w6 ⟨v2, rfl, o6, b6⟩
  have o0 := o0.below b6
  have o4 := o4.below b6
  have B6 := B5.then b6
  clear b6 B5
  go_wp2_with fail
  refine (eqS_yes _ _ v2 v0 L _ o6 o0).mono ?_
  rintro e w7 ⟨rfl, b7⟩
  have o4 := o4.below b7
  have B7 := B6.then b7
  clear b7 B6
  go_wp2_with fail
  refine (heldS _ v1 L.length 1 _ o4 (by omega) (by omega) (by omega)).mono ?_
  rintro e w8 ⟨rfl, b8⟩
  have B8 := B7.then b8
  clear b8 B7
  go_wp2_with fail
  go_ret
  exact ⟨rfl, B8⟩

theorem own : ownKnob Try.prog.godebug = none := by kernel_rfl

set_option maxRecDepth 100000 in
theorem lifted (os : Os) (started : os.Started) (H : Type) (enc : TypeId × Value → H) :
    ReturnsInHanded {} Try.checked os 13 .any (Rows.fnExactFirstTwoSpec.pre6 enc Try.prog Try.f13 Rows.fnExactFirstTwoRow.domain false) (Rows.fnExactFirstTwoSpec.post enc Try.prog Try.f13 false true false false) := by
  refine returnsInHanded_of_change (C := Try.checked) own started (by kernel_rfl) Try.func13
    (ChangeSpec.witness6 (enc := enc) (C := Try.checked) false ⟨#[], #[.string ByteArray.empty, .int .i64 0], []⟩ 8 (by kernel_rfl) (by kernel_rfl) (by kernel_rfl) (by kernel_rfl)) ?_
  intro W base args ds gs before hval0 hW hcnd _
  have hval : ∀ (j : Nat) t v, Try.f13.params[j]? = some t → args[j]? = some v → Value.okWide Try.prog W .any base t v := hval0
  have hW' := hW
  obtain ⟨p, q, hA0, hV, rfl, hfz, hnd⟩ := hW
  have hA : DataW.TrodAll enc Try.prog W 0 (fun _ => true) true Try.f13.params.toList args.toList ds p := hA0
  rw [Try.params13] at hA hval
  obtain ⟨v0, vs0, d0, ds0, p0, q0, hargs, rfl, rfl, h0, r0⟩ := trodAll_cons hA
  obtain ⟨v1, vs1, d1, ds1, p1, q1, rfl, rfl, rfl, h1, r1⟩ := trodAll_cons r0
  obtain ⟨rfl, rfl, rfl⟩ := trodAll_nil r1
  obtain rfl : args = #[v0, v1] := by cases args; simp_all
  obtain ⟨rfl, rfl⟩ := trodVars_none hV
  obtain ⟨a0, rfl, rfl, rfl, w0⟩ := open_string Try.underlying9 (hval 0 9 v0 rfl rfl) h0
  obtain ⟨a1, rfl, rfl, rfl, w1⟩ := open_int Try.underlying2 (hval 1 2 v1 rfl rfl) h1
  clear hA0 hval0
  refine (walk a0 a1 W w0 w1).mono fun e W' ⟨he, bel⟩ => ?_
  subst he
  exact ⟨_, rfl, _, _, _, [], _, [], hW', trodAll_mk1 (shut_bool Try.underlying4 _), (trodAll_cons_mk (shut_string Try.underlying9 w0) (trodAll_cons_mk (shut_int Try.underlying2 w1) trodAll_mk0)), rfl, bel.frame _, fun h => by cases h⟩

theorem over : Rows.fnExactFirstTwoRow.holds Try.pinned (OpenSpec.ofChange Rows.fnExactFirstTwoSpec) :=
  OpenClaim.holds_of_wide 13 Try.f13 rfl rfl rfl rfl rfl rfl rfl ⟨rfl, rfl, rfl, rfl, rfl⟩ rfl rfl rfl rfl rfl (by kernel_rfl) Try.func13 (by kernel_rfl)
    (of_decide_eq_true (by kernel_rfl)) (by unfold Func.isWrapper; first | (rw [if_pos (by decide +kernel)]; kernel_rfl) | (rw [if_neg (by decide +kernel)]; exact ⟨rfl, rfl⟩))
    (fun os started H enc _ => lifted os started H enc)

theorem proved : Rows.FnExactFirstTwoSaid := over
#print axioms proved
end Go.Proofs.Ytkemdiefoohdjaa.fnExactFirstTwo
