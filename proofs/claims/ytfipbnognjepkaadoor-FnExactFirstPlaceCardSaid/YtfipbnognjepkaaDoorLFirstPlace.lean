/- For every two texts: the program and the model agree on the first place of a pattern, its values and the code; the values are memory of the program's own, in which nothing else lies. No condition. -/
import Derived.Test.YtfipbnognjepkaaDoorPlcS
import Derived.Test.YtfipbnognjepkaaDoorPlcF
import Derived.Test.YtfipbnognjepkaaDoorRows
import Derived.WalkKit
import Derived.ProofKit
import Derived.OpenShut
import Derived.ShutString
import Derived.ChangeOld
import Derived.Below
import Derived.LaidMore
import Derived.Lay
import Derived.SevenTiedAt
import Derived.Test.YtfipbnognjepkaaDoorCards
import Derived.Test.YtfipbnognjepkaaDoorTie
import Derived.Stop.Joined
namespace Go.Proofs.YtfipbnognjepkaaDoor.fnExactFirstPlace
open Go.ChangeShapes Go.WideShapes Go.ChangeAt Go.RowKit
open Go.ChangeMaps (open_string shut_string)
set_option linter.unusedVariables false

set_option maxRecDepth 100000 in
set_option maxHeartbeats 1000000 in
theorem walk (a0 : ByteArray) (a1 : ByteArray) (w : World) (w0 : a0.size ≤ maxLen) (w1 : a1.size ≤ maxLen) :
    Calls Tryd.prog 4 #[.string a0, .string a1] w fun e w' => e = .returned (.bool true) ∧ Below w.heap.size w w' := by
  have m0 := w0
  unfold maxLen at m0
  have m1 := w1
  unfold maxLen at m1
  by_cases hb0 : 1048576 < a0.size
  · go_enter Tryd.func4, Tryd.ntmps4
    go_wp2
    go_ret
    exact ⟨rfl, Below.refl _ _⟩
  by_cases hb1 : 1048576 < a1.size
  · go_enter Tryd.func4, Tryd.ntmps4
    go_wp2
    go_ret
    exact ⟨rfl, Below.refl _ _⟩
  have hlen := placeR_len a0 a1
  have cs := fun w => spec_FirstPlace a0 a1 w w0 w1
  have ci := fun w => impl_FirstPlace a0 a1 w w0 w1
  unfold RetP at cs ci
  generalize (placeR a0 a1).2.1 = L at cs ci hlen
  generalize (placeR a0 a1).1 = n0 at cs ci
  generalize (placeR a0 a1).2.2 = c at cs ci
  have CS := Lib.hid cs
  have CI := Lib.hid ci
  clear cs ci
  go_enter Tryd.func4, Tryd.ntmps4
  go_wp2_with fail
  refine (CS.out _).mono ?_
  rintro e w1 ⟨v0, rfl, o0, b1⟩
  have hlt := fun k hk => (OwnS.lt o0 k hk).2
  have hw1 := b1.size
  go_wp2_with fail
  refine (CI.out _).mono ?_
  rintro e w2 ⟨v1, rfl, o1, b2⟩
  have o0 := o0.below b2
  have B2 := b1.then b2
  go_wp2_with fail
  refine (eqS_yes _ _ v1 v0 L _ o1 o0).mono ?_
  rintro e w3 ⟨rfl, b3⟩
  have B3 := B2.then b3
  have o0 := o0.below b3
  have o1 := o1.below b3
  clear b1 b2 b3 B2
  go_wp2_with fail
  refine (markS _ v1 L 1 _ o1 (by omega) (by omega) (by omega)).mono ?_
  rintro e w4 ⟨rfl, o4, g4⟩
  have o0 := o0.kept o1 hlt g4
  have B4 := below_markedS B3 o1 hw1 g4
  clear g4 o1 B3
  go_wp2_with fail
  refine (heldS _ v1 L.length 1 _ o4 (by omega) (by omega) (by omega)).mono ?_
  rintro e w5 ⟨rfl, b5⟩
  have o0 := o0.below b5
  have o4 := o4.below b5
  have B5 := B4.then b5
  clear b5 B4
  go_wp2_with fail
  refine (CI.out _).mono ?_
  rintro e w6 ⟨v2, rfl, o6, b6⟩
  have o0 := o0.below b6
  have o4 := o4.below b6
  have B6 := B5.then b6
  clear b6 B5
  go_wp2_with fail
  refine (eqS_yes _ _ v2 v0 L _ o6 o0).mono ?_
  rintro e w7 ⟨rfl, b7⟩
  have o4 := o4.below b7
  have B7 := B6.then b7
  clear b7 B6
  go_wp2_with fail
  refine (heldS _ v1 L.length 1 _ o4 (by omega) (by omega) (by omega)).mono ?_
  rintro e w8 ⟨rfl, b8⟩
  have B8 := B7.then b8
  clear b8 B7
  go_wp2_with fail
  go_ret
  exact ⟨rfl, B8⟩

theorem own : ownKnob Tryd.prog.godebug = none := by kernel_rfl

set_option maxRecDepth 100000 in
theorem lifted (os : Os) (started : os.Started) (H : Type) (enc : TypeId × Value → H) :
    ReturnsInHanded {} Tryd.checked os 4 .any (fun w args => (Rows.fnExactFirstPlaceSpec.pre enc Tryd.prog Tryd.f4 Rows.fnExactFirstPlaceRow.domain false w args ∧ laidMetH Tryd.prog Rows.fnExactFirstPlaceRow.laid w) ∧ sizedMet enc Tryd.prog Tryd.f4 (OpenSpec.ofChange Rows.fnExactFirstPlaceSpec) false w args)
      (Rows.fnExactFirstPlaceSpec.post enc Tryd.prog Tryd.f4 false true false false) := by
  refine returnsInHanded_of_change_and (C := Tryd.checked) (X := fun w _ => laidMetH Tryd.prog Rows.fnExactFirstPlaceRow.laid w) (fun _ _ _ hh h => h.of_heap hh) own started (by kernel_rfl) Tryd.func4
    (ChangeSpec.witness_shaped (enc := enc) (C := Tryd.checked) (os := os) (X := fun w _ => laidMetH Tryd.prog Rows.fnExactFirstPlaceRow.laid w) false (World.laidAll Tryd.prog os Rows.fnExactFirstPlaceRow.laid) #[.string ByteArray.empty, .string ByteArray.empty] 8 (World.laidAll_os _ _ _)
      (World.shaped_of_ZipB (by kernel_rfl) (by kernel_rfl)) (by kernel_rfl) (by kernel_rfl) (by kernel_rfl)
      (by rw [MakeChecks.laidMetH_plain _ _ _ (by kernel_rfl)]; exact laidMet_laidAll _ (by kernel_rfl) (by kernel_rfl))) ?_
  intro W base args ds gs before hval0 hW hcnd _ hL _
  have hval : ∀ (j : Nat) t v, Tryd.f4.params[j]? = some t → args[j]? = some v → Value.okWide Tryd.prog W .any base t v := hval0
  have hW' := hW
  obtain ⟨p, q, hA0, hV, rfl, hfz, hnd⟩ := hW
  have hA : DataW.TrodAll enc Tryd.prog W 0 (fun _ => true) true Tryd.f4.params.toList args.toList ds p := hA0
  rw [Tryd.params4] at hA hval
  obtain ⟨v0, vs0, d0, ds0, p0, q0, hargs, rfl, rfl, h0, r0⟩ := trodAll_cons hA
  obtain ⟨v1, vs1, d1, ds1, p1, q1, rfl, rfl, rfl, h1, r1⟩ := trodAll_cons r0
  obtain ⟨rfl, rfl, rfl⟩ := trodAll_nil r1
  obtain rfl : args = #[v0, v1] := by cases args; simp_all
  obtain ⟨rfl, rfl⟩ := trodVars_none hV
  obtain ⟨a0, rfl, rfl, rfl, w0⟩ := open_string Tryd.underlying9 (hval 0 9 v0 rfl rfl) h0
  obtain ⟨a1, rfl, rfl, rfl, w1⟩ := open_string Tryd.underlying9 (hval 1 9 v1 rfl rfl) h1
  clear hA0 hval0
  refine (walk a0 a1 W w0 w1).mono fun e W' ⟨he, bel⟩ => ?_
  subst he
  exact ⟨_, rfl, _, _, _, [], _, [], hW', trodAll_mk1 (shut_bool Tryd.underlying4 _), (trodAll_cons_mk (shut_string Tryd.underlying9 w0) (trodAll_cons_mk (shut_string Tryd.underlying9 w1) trodAll_mk0)), rfl, bel.frame _, fun h => by cases h⟩

theorem over : Rows.fnExactFirstPlaceRow.holds Tryd.pinned (OpenSpec.ofChange Rows.fnExactFirstPlaceSpec) :=
  OpenClaim.holds_of_wide 4 Tryd.f4 rfl rfl rfl rfl rfl rfl rfl ⟨rfl, rfl, rfl, rfl, rfl⟩ rfl rfl rfl rfl rfl (by kernel_rfl) Tryd.func4 (by kernel_rfl)
    (of_decide_eq_true (by kernel_rfl)) (by unfold Func.isWrapper; first | (rw [if_pos (by decide +kernel)]; kernel_rfl) | (rw [if_neg (by decide +kernel)]; exact ⟨rfl, rfl⟩))
    (fun os started H enc _ => lifted os started H enc)

theorem proved : Rows.FnExactFirstPlaceCardSaid :=
  Claim7.holds_tied_plain_at .later [] [.data, .pinned] true _ _ over (fun _ h => by cases h) (by kernel_rfl) (fun _ h => by cases h) fnExactFirstPlace_row_tie rfl ⟨rfl, rfl⟩ (by kernel_rfl) rfl
    (fun f fn hf hfn => by
      obtain rfl : f = 4 := Option.some.inj ((show Tryd.prog.funcNamed "loop.example/g01371/laws.FnExactFirstPlace" = some 4 by kernel_rfl).symm.trans hf) |>.symm
      obtain rfl : fn = Tryd.f4 := (Option.some.inj (Tryd.func4.symm.trans hfn)).symm
      exact ⟨by kernel_rfl, fun j t ht => by
        have hall : (Tryd.f4.params.toList.all fun u => !Tryd.prog.wantsStandIn u) = true := by kernel_rfl
        have hm : t ∈ Tryd.f4.params.toList := by simpa using Array.mem_of_getElem? ht
        exact (show Tryd.prog.wantsStandIn t = false by simpa using List.all_eq_true.1 hall t hm)⟩)
    (by kernel_rfl)
#print axioms proved
end Go.Proofs.YtfipbnognjepkaaDoor.fnExactFirstPlace
