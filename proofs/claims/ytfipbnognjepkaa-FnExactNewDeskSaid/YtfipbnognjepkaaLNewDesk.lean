/- The program's new desk is the model's; its list is memory of its own, in which nothing else lies. No condition. -/
import Derived.Test.YtfipbnognjepkaaDeskN
import Derived.Test.YtfipbnognjepkaaRows
import Derived.WalkKit
import Derived.ProofKit
import Derived.OpenShut
import Derived.ShutString
import Derived.ChangeOld
import Derived.Below
namespace Go.Proofs.Ytfipbnognjepkaa.fnExactNewDesk
open Go.ChangeShapes Go.WideShapes Go.ChangeAt Go.RowKit
open Go.ChangeMaps (open_string shut_string)
set_option linter.unusedVariables false

set_option maxRecDepth 100000 in
set_option maxHeartbeats 2000000 in
theorem walk (w : World) :
    Calls Try.prog 3 #[] w fun e w' => e = .returned (.bool true) ∧ Below w.heap.size w w' := by
  have cs := spec_NewDesk
  have ci := impl_NewDesk
  unfold RetD at cs ci
  have hl : deskL.length ≤ 10 := by decide
  generalize deskL = L at cs ci hl
  generalize deskA = x at cs ci
  generalize deskP = y at cs ci
  have CS := Lib.hid cs
  have CI := Lib.hid ci
  clear cs ci
  go_enter Try.func3, Try.ntmps3
  go_wp2_with fail
  refine (CS.out _).mono ?_
  rintro e x1 ⟨v0, rfl, o0, B⟩
  obtain ⟨p0, c0, rfl⟩ := ownS_value o0
  have hlt0 := fun k hk => (OwnS.lt o0 k hk).2
  have hw0 := B.size
  go_wp2_with fail
  obtain ⟨yx1, hy, d0, b⟩ : ∃ yy : World, yy = x1.alloc (.cells #[.string x, .string y, .slice p0 L.length c0] dkI) ∧ Dk3 dkI yy x1.heap.size (.string x) (.string y) (.slice p0 L.length c0) ∧ Below x1.heap.size x1 yy := ⟨_, rfl, Dk3.new _ _ _ _ _, Below.new _ _⟩
  simp only [dkI] at hy
  rw [← hy]
  clear hy
  have B := B.then b
  have o0 := o0.below b
  have hy1 := b.size
  have hd0 := d0.lt
  clear b
  refine (CI.out _).mono ?_
  rintro e x2 ⟨v1, rfl, o1, b⟩
  obtain ⟨p1, c1, rfl⟩ := ownS_value o1
  have hlt1 := fun k hk => (OwnS.lt o1 k hk).2
  have hge1 := fun k hk => (OwnS.lt o1 k hk).1
  have B := B.then b
  have o0 := o0.below b
  have d0 := d0.later b
  have hx2 := b.size
  clear b
  have dn := d0.later (Below.new x2 (.cells #[.string x, .string y, .slice p1 L.length c1] 26))
  have k0 := dn.c0
  have k1 := dn.c1
  have k2 := dn.c2
  go_wp2_with fail
  clear k0 k1 k2 dn
  obtain ⟨yx2, hy, d1, b⟩ : ∃ yy : World, yy = x2.alloc (.cells #[.string x, .string y, .slice p1 L.length c1] dkI) ∧ Dk3 dkI yy x2.heap.size (.string x) (.string y) (.slice p1 L.length c1) ∧ Below x2.heap.size x2 yy := ⟨_, rfl, Dk3.new _ _ _ _ _, Below.new _ _⟩
  simp only [dkI] at hy
  rw [← hy]
  clear hy
  have B := B.then b
  have o0 := o0.below b
  have o1 := o1.below b
  have d0 := d0.later b
  have hy2 := b.size
  have hd1 := d1.lt
  clear b
  refine (eqD_yes _ _ x y (.slice p1 L.length c1) (.slice p0 L.length c0) L _ o1 o0).mono ?_
  rintro e x3 ⟨rfl, b⟩
  have B := B.then b
  have o0 := o0.below b
  have o1 := o1.below b
  have d0 := d0.later b
  have d1 := d1.later b
  clear b
  have k0 := d1.c0
  have k1 := d1.c1
  have k2 := d1.c2
  go_wp2_with fail
  clear k0 k1 k2
  refine (markD _ x y (.slice p1 L.length c1) L 1 _ o1 (by omega) (by omega) (by omega)).mono ?_
  rintro e x4 ⟨rfl, o4, g4⟩
  have o0 := o0.kept o1 (fun k hk => by have := hlt0 k hk; omega) g4
  have B := below_markedS B o1 (by omega) g4
  have d0 := d0.grown g4 (fun e => by have := hge1 _ e.symm; omega)
  have d1 := d1.grown g4 (fun e => by have := hlt1 _ e.symm; omega)
  clear g4 o1
  have k0 := d1.c0
  have k1 := d1.c1
  have k2 := d1.c2
  go_wp2_with fail
  clear k0 k1 k2
  refine (heldD _ x y (.slice p1 L.length c1) L.length 1 _ o4 (by omega) (by omega) (by omega)).mono ?_
  rintro e x5 ⟨rfl, b⟩
  have B := B.then b
  have o0 := o0.below b
  have o4 := o4.below b
  have d0 := d0.later b
  have d1 := d1.later b
  clear b
  go_wp2_with fail
  refine (CI.out _).mono ?_
  rintro e x6 ⟨v2, rfl, o6, b⟩
  obtain ⟨p2, c2, rfl⟩ := ownS_value o6
  have B := B.then b
  have o0 := o0.below b
  have o4 := o4.below b
  have d0 := d0.later b
  have d1 := d1.later b
  clear b
  have dn := d0.later (Below.new x6 (.cells #[.string x, .string y, .slice p2 L.length c2] 26))
  have k0 := dn.c0
  have k1 := dn.c1
  have k2 := dn.c2
  go_wp2_with fail
  clear k0 k1 k2 dn
  obtain ⟨yx6, hy, d2, b⟩ : ∃ yy : World, yy = x6.alloc (.cells #[.string x, .string y, .slice p2 L.length c2] dkI) ∧ Dk3 dkI yy x6.heap.size (.string x) (.string y) (.slice p2 L.length c2) ∧ Below x6.heap.size x6 yy := ⟨_, rfl, Dk3.new _ _ _ _ _, Below.new _ _⟩
  simp only [dkI] at hy
  rw [← hy]
  clear hy
  have B := B.then b
  have o0 := o0.below b
  have o4 := o4.below b
  have o6 := o6.below b
  have d1 := d1.later b
  clear b
  refine (eqD_yes _ _ x y (.slice p2 L.length c2) (.slice p0 L.length c0) L _ o6 o0).mono ?_
  rintro e x7 ⟨rfl, b⟩
  have B := B.then b
  have o4 := o4.below b
  have d1 := d1.later b
  clear b
  have k0 := d1.c0
  have k1 := d1.c1
  have k2 := d1.c2
  go_wp2_with fail
  clear k0 k1 k2
  refine (heldD _ x y (.slice p1 L.length c1) L.length 1 _ o4 (by omega) (by omega) (by omega)).mono ?_
  rintro e x8 ⟨rfl, b⟩
  have B := B.then b
  clear b
  go_wp2_with fail
  go_ret
  exact ⟨rfl, B⟩

theorem own : ownKnob Try.prog.godebug = none := by kernel_rfl

set_option maxRecDepth 100000 in
theorem lifted (os : Os) (started : os.Started) (H : Type) (enc : TypeId × Value → H) :
    ReturnsInHanded {} Try.checked os 3 .any (Rows.fnExactNewDeskSpec.pre6 enc Try.prog Try.f3 Rows.fnExactNewDeskRow.domain false) (Rows.fnExactNewDeskSpec.post enc Try.prog Try.f3 false true false false) := by
  refine returnsInHanded_of_change (C := Try.checked) own started (by kernel_rfl) Try.func3
    (ChangeSpec.witness6 (enc := enc) (C := Try.checked) false ⟨#[], #[], []⟩ 8 (by kernel_rfl) (by kernel_rfl) (by kernel_rfl) (by kernel_rfl)) ?_
  intro W base args ds gs before hval0 hW hcnd _
  have hval : ∀ (j : Nat) t v, Try.f3.params[j]? = some t → args[j]? = some v → Value.okWide Try.prog W .any base t v := hval0
  have hW' := hW
  obtain ⟨p, q, hA0, hV, rfl, hfz, hnd⟩ := hW
  have hA : DataW.TrodAll enc Try.prog W 0 (fun _ => true) true Try.f3.params.toList args.toList ds p := hA0
  rw [Try.params3] at hA hval
  obtain ⟨hargs, rfl, rfl⟩ := trodAll_nil hA
  obtain rfl : args = #[] := by cases args; simp_all
  obtain ⟨rfl, rfl⟩ := trodVars_none hV
  clear hA0 hval0
  refine (walk  W ).mono fun e W' ⟨he, bel⟩ => ?_
  subst he
  exact ⟨_, rfl, _, _, _, [], _, [], hW', trodAll_mk1 (shut_bool Try.underlying4 _), trodAll_mk0, rfl, bel.frame _, fun h => by cases h⟩

theorem over : Rows.fnExactNewDeskRow.holds Try.pinned (OpenSpec.ofChange Rows.fnExactNewDeskSpec) :=
  OpenClaim.holds_of_wide 3 Try.f3 rfl rfl rfl rfl rfl rfl rfl ⟨rfl, rfl, rfl, rfl, rfl⟩ rfl rfl rfl rfl rfl (by kernel_rfl) Try.func3 (by kernel_rfl)
    (of_decide_eq_true (by kernel_rfl)) (by unfold Func.isWrapper; first | (rw [if_pos (by decide +kernel)]; kernel_rfl) | (rw [if_neg (by decide +kernel)]; exact ⟨rfl, rfl⟩))
    (fun os started H enc _ => lifted os started H enc)

theorem proved : Rows.FnExactNewDeskSaid := over
#print axioms proved
end Go.Proofs.Ytfipbnognjepkaa.fnExactNewDesk
