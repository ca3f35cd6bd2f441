/- For every text: the program and the model agree on all abelian periods with their heads, pairs and code; the answer owns its memory. No condition. -/
import Derived.Test.YtolboinemechpaaApP
import Derived.Test.YtolboinemechpaaRowsLaw
import Derived.Test.YtolboinemechpaaRows
import Derived.WalkKit
import Derived.ProofKit
import Derived.OpenShut
import Derived.ShutString
import Derived.ChangeOld
import Derived.Below
namespace Go.Proofs.Ytolboinemechpaa.fnExactAbelianPeriods
open Go.ChangeShapes Go.WideShapes Go.ChangeAt Go.RowKit
open Go.ChangeMaps (open_string shut_string)
set_option linter.unusedVariables false

set_option maxRecDepth 100000 in
set_option maxHeartbeats 1000000 in
theorem walk (a0 : ByteArray) (w : World) (w0 : a0.size ≤ maxLen) :
    Calls Try.prog 10 #[.string a0] w fun e w' => e = .returned (.bool true) ∧ Below w.heap.size w w' := by
  have m0 := w0
  unfold maxLen at m0
  by_cases hb0 : 1048576 < a0.size
  · go_enter Try.func10, Try.ntmps10
    go_wp2
    go_ret
    exact ⟨rfl, Below.refl _ _⟩
  have hlen := apdR_len a0
  have htot := apdR_tot a0
  have cs := fun w => spec_AbelianPeriods a0 w w0
  have ci := fun w => impl_AbelianPeriods a0 w w0
  generalize (apdR a0).1 = L at cs ci hlen htot
  generalize (apdR a0).2 = c at cs ci
  have CS := Lib.hid cs
  have CI := Lib.hid ci
  clear cs ci
  go_enter Try.func10, Try.ntmps10
  go_wp2_with fail
  refine (CS.out _).mono ?_
  rintro e w1 ⟨v0, rfl, o0, b1⟩
  have hw1 := b1.size
  go_wp2_with fail
  refine (CI.out _).mono ?_
  rintro e w2 ⟨v1, rfl, o1, C2⟩
  go_wp2_with fail
  refine (eqR_yes _ _ v1 v0 L _ o1 (o0.below C2)).mono ?_
  rintro e w3 ⟨rfl, b3⟩
  have C3 := C2.then b3
  have o1 := o1.below b3
  clear b3 C2
  go_wp2_with fail
  refine (markR _ v1 L 1 _ o1 (by omega) (by omega) (by omega) (by omega)).mono ?_
  rintro e w4 ⟨rfl, o4, g4⟩
  have C4 : Below w1.heap.size w1 w4 := C3.trans (g4.mono (by have := C3.size; omega))
  clear g4 o1 C3
  go_wp2_with fail
  refine (heldR _ v1 L 1 _ o4 (by omega) (by omega) (by omega) (by omega)).mono ?_
  rintro e w5 ⟨rfl, b5⟩
  have o4 := o4.below b5
  have C5 := C4.then b5
  clear b5 C4
  go_wp2_with fail
  refine (CI.out _).mono ?_
  rintro e w6 ⟨v2, rfl, o6, b6⟩
  have o4 := o4.below b6
  have C6 := C5.then b6
  clear b6 C5
  go_wp2_with fail
  refine (eqR_yes _ _ v2 v0 L _ o6 (o0.below C6)).mono ?_
  rintro e w7 ⟨rfl, b7⟩
  have o4 := o4.below b7
  have C7 := C6.then b7
  clear b7 C6
  go_wp2_with fail
  refine (heldR _ v1 L 1 _ o4 (by omega) (by omega) (by omega) (by omega)).mono ?_
  rintro e w8 ⟨rfl, b8⟩
  have C8 := C7.then b8
  clear b8 C7
  go_wp2_with fail
  go_ret
  exact ⟨rfl, b1.trans (C8.mono hw1)⟩

theorem own : ownKnob Try.prog.godebug = none := by kernel_rfl

set_option maxRecDepth 100000 in
theorem lifted (os : Os) (started : os.Started) (H : Type) (enc : TypeId × Value → H) :
    ReturnsInHanded {} Try.checked os 10 .any (Rows.fnExactAbelianPeriodsSpec.pre6 enc Try.prog Try.f10 Rows.fnExactAbelianPeriodsRow.domain false) (Rows.fnExactAbelianPeriodsSpec.post enc Try.prog Try.f10 false true false false) := by
  refine returnsInHanded_of_change (C := Try.checked) own started (by kernel_rfl) Try.func10
    (ChangeSpec.witness6 (enc := enc) (C := Try.checked) false ⟨#[], #[.string ByteArray.empty], []⟩ 8 (by kernel_rfl) (by kernel_rfl) (by kernel_rfl) (by kernel_rfl)) ?_
  intro W base args ds gs before hval0 hW hcnd _
  have hval : ∀ (j : Nat) t v, Try.f10.params[j]? = some t → args[j]? = some v → Value.okWide Try.prog W .any base t v := hval0
  have hW' := hW
  obtain ⟨p, q, hA0, hV, rfl, hfz, hnd⟩ := hW
  have hA : DataW.TrodAll enc Try.prog W 0 (fun _ => true) true Try.f10.params.toList args.toList ds p := hA0
  rw [Try.params10] at hA hval
  obtain ⟨v0, vs0, d0, ds0, p0, q0, hargs, rfl, rfl, h0, r0⟩ := trodAll_cons hA
  obtain ⟨rfl, rfl, rfl⟩ := trodAll_nil r0
  obtain rfl : args = #[v0] := by cases args; simp_all
  obtain ⟨rfl, rfl⟩ := trodVars_none hV
  obtain ⟨a0, rfl, rfl, rfl, w0⟩ := open_string Try.underlying9 (hval 0 9 v0 rfl rfl) h0
  clear hA0 hval0
  refine (walk a0 W w0).mono fun e W' ⟨he, bel⟩ => ?_
  subst he
  exact ⟨_, rfl, _, _, _, [], _, [], hW', trodAll_mk1 (shut_bool Try.underlying4 _), (trodAll_cons_mk (shut_string Try.underlying9 w0) trodAll_mk0), rfl, bel.frame _, fun h => by cases h⟩

theorem over : Rows.fnExactAbelianPeriodsRow.holds Try.pinned (OpenSpec.ofChange Rows.fnExactAbelianPeriodsSpec) :=
  OpenClaim.holds_of_wide 10 Try.f10 rfl rfl rfl rfl rfl rfl rfl ⟨rfl, rfl, rfl, rfl, rfl⟩ rfl rfl rfl rfl rfl (by kernel_rfl) Try.func10 (by kernel_rfl)
    (of_decide_eq_true (by kernel_rfl)) (by unfold Func.isWrapper; first | (rw [if_pos (by decide +kernel)]; kernel_rfl) | (rw [if_neg (by decide +kernel)]; exact ⟨rfl, rfl⟩))
    (fun os started H enc _ => lifted os started H enc)

theorem proved : Rows.FnExactAbelianPeriodsSaid := over
#print axioms proved
end Go.Proofs.Ytolboinemechpaa.fnExactAbelianPeriods
