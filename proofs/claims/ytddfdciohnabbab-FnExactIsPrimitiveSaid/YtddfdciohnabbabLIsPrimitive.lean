/- For every struct of texts: the program and the model agree on whether it is a primitive morphism, answer and code; it is left as it was. No condition. -/
import Derived.Test.YtddfdciohnabbabPrimI
import Derived.Test.YtddfdciohnabbabPrimS
import Derived.Test.YtddfdciohnabbabToS
import Derived.Test.YtddfdciohnabbabRows
import Derived.WalkKit
import Derived.ProofKit
import Derived.OpenShut
import Derived.ShutString
import Derived.ChangeOld
import Derived.Below
namespace Go.Proofs.Ytddfdciohnabbab.fnExactIsPrimitive
open Go.ChangeShapes Go.WideShapes Go.ChangeAt Go.RowKit
open Go.ChangeMaps (open_string shut_string)
set_option linter.unusedVariables false
set_option maxRecDepth 100000 in
set_option maxHeartbeats 1000000 in
theorem walk (c0 : Option Addr) (len0 cap0 : Nat) (z0 : List ByteArray) (w : World) (w0 : IsRowS w c0 len0 cap0 z0) :
    Calls Try.prog 5 #[.agg #[.slice c0 len0 cap0]] w fun e w' => e = .returned (.bool true) ∧ Below w.heap.size w w' := by
  have wf0 := Lib.hid w0
  clear w0
  go_enter Try.func5, Try.ntmps5
  go_wp2_with fail
  obtain ⟨wa, hwa, Ba, bxa0⟩ : ∃ wa : World, wa = (w.alloc (.cells #[(.slice c0 len0 cap0)] 54)) ∧ Below w.heap.size w wa ∧ Boxed wa (w.heap.size) 54 (.slice c0 len0 cap0) := ⟨_, rfl, Below.new _ _, Boxed.new _ _ _⟩
  rw [← hwa]
  clear hwa
  refine (szM_any c0 len0 cap0 z0 1048576 _ (wf0.out.below Ba) (by omega) (by omega)).mono ?_
  rintro e x1 ⟨r0, rfl, b, hr0⟩
  rcases hr0 with rfl | ⟨ra0, rb0, rc0⟩
  · go_wp2
    go_ret
    exact ⟨rfl, Ba.then b⟩
  have hn0 : ¬ r0 < 0 := by omega
  have BW1 := Ba.then b
  replace bxa0 := boxed_later bxa0 b
  clear b Ba
  have kbxa0 := bxa0.cell
  go_wp2_with fail
  clear kbxa0
  have hl0 : len0 ≤ 1048576 := by omega
  have to0 := fun w' (b : Below w.heap.size w w') => toM_any c0 len0 cap0 z0 w' (wf0.out.below b) hl0
  have tt0 := tot_of (len := len0) (zs := z0) hl0 (fun s hs => by have := rc0 s hs; omega)
  have tl0 := take_lts_le len0 z0
  have cs := fun B0q v0q w' h0q => spec_IsPrimitive B0q v0q ((z0.take len0).map lts) w' h0q tt0
  have ci := fun B0q v0q w' h0q => impl_IsPrimitive B0q v0q ((z0.take len0).map lts) w' h0q tt0
  generalize (primR ((z0.take len0).map lts)).1 = qr at cs ci
  generalize (primR ((z0.take len0).map lts)).2 = qs at cs ci
  generalize ((z0.take len0).map lts) = I0 at cs ci to0 tt0 tl0
  have TO0 := Lib.hid to0
  have hI0 : I0.length ≤ len0 := tl0
  clear to0 tl0 tt0
  have CS := Lib.hid cs
  have CI := Lib.hid ci
  clear cs ci
  refine (TO0.out _ BW1).mono ?_
  rintro e x2 ⟨px2, cx2, rfl, ox2, b⟩
  have BW2 := BW1.then b
  replace bxa0 := boxed_later bxa0 b
  clear b BW1
  have kbxa0 := bxa0.cell
  go_wp2_with fail
  clear kbxa0
  refine (CS.out _ (Value.slice px2 I0.length cx2) _ ox2).mono ?_
  rintro e x3 ⟨rfl, b⟩
  have BW3 := BW2.then b
  replace bxa0 := boxed_later bxa0 b
  clear b BW2 ox2
  have kbxa0 := bxa0.cell
  go_wp2_with fail
  clear kbxa0
  refine (TO0.out _ BW3).mono ?_
  rintro e x4 ⟨px4, cx4, rfl, ox4, b⟩
  have BW4 := BW3.then b
  replace bxa0 := boxed_later bxa0 b
  clear b BW3
  have kbxa0 := bxa0.cell
  go_wp2_with fail
  clear kbxa0
  obtain ⟨yx4, hy, byx4, b⟩ : ∃ y : World, y = x4.alloc (.cells #[(Value.slice px4 I0.length cx4)] 57) ∧ Boxed y x4.heap.size 57 (Value.slice px4 I0.length cx4) ∧ Below x4.heap.size x4 y := ⟨_, rfl, Boxed.new _ _ _, Below.new _ _⟩
  rw [← hy]
  clear hy
  have BW5 := BW4.then b
  replace ox4 := ox4.below b
  replace bxa0 := boxed_later bxa0 b
  clear b BW4
  refine (CI.out _ (Value.slice px4 I0.length cx4) _ ox4).mono ?_
  rintro e x5 ⟨rfl, b⟩
  have BW6 := BW5.then b
  replace ox4 := ox4.below b
  replace bxa0 := boxed_later bxa0 b
  replace byx4 := boxed_later byx4 b
  clear b BW5
  have kbxa0 := bxa0.cell
  have kbyx4 := byx4.cell
  go_wp2_with fail
  clear kbxa0 kbyx4
  have kbxa0 := bxa0.cell
  have kbyx4 := byx4.cell
  have CUR := BW6
  go_region_held3 (fun w' => w'.cell? ⟨(w.heap.size), 0, none⟩ = some (.slice c0 len0 cap0) ∧ w'.cell? ⟨x4.heap.size, 0, none⟩ = some (Value.slice px4 I0.length cx4)) (go_keep) (first | (go_at_call 42; refine (TO0.out _ (by first | exact CUR | exact CUR.drew | exact CUR.drewN _)).mono ?_; rintro e x6 ⟨px6, cx6, rfl, ox6, b⟩; have b := below_undrew b; have kbxa0_x6 := (boxed_later bxa0 b).cell; have kbyx4_x6 := (boxed_later byx4 b).cell) | (go_at_call 44; refine (eqM_yes _ _ _ _ _ _ (ox4.below b) ox6).mono ?_; rintro e x7 ⟨rfl, b2⟩; have kbxa0_x7 := (boxed_later bxa0 (b.then b2)).cell; have kbyx4_x7 := (boxed_later byx4 (b.then b2)).cell))
  have b3 := b.then b2
  clear b b2 ox6 CUR
  clear kbxa0_x6 kbxa0_x7 kbyx4_x6 kbyx4_x7
  clear kbxa0 kbyx4
  have BW7 := BW6.then b3
  replace ox4 := ox4.below b3
  replace bxa0 := boxed_later bxa0 b3
  replace byx4 := boxed_later byx4 b3
  clear b3 BW6
  have kbxa0 := bxa0.cell
  have kbyx4 := byx4.cell
  go_wp2_with fail
  clear kbxa0 kbyx4
  go_ret
  exact ⟨rfl, BW7⟩

theorem own : ownKnob Try.prog.godebug = none := by kernel_rfl
theorem laidOut : laidOutB Try.prog = true := by kernel_rfl

set_option maxRecDepth 100000 in
theorem lifted (os : Os) (started : os.Started) (H : Type) (enc : TypeId × Value → H) :
    ReturnsInHanded {} Try.checked os 5 .any (Rows.fnExactIsPrimitiveSpec.pre6 enc Try.prog Try.f5 Rows.fnExactIsPrimitiveRow.domain false) (Rows.fnExactIsPrimitiveSpec.post enc Try.prog Try.f5 false true false false) := by
  refine returnsInHanded_of_change (C := Try.checked) own started (by kernel_rfl) Try.func5
    (ChangeSpec.witness6 (enc := enc) (C := Try.checked) false ⟨#[], #[.agg #[.slice none 0 0]], []⟩ 8 (by kernel_rfl) (by kernel_rfl) (by kernel_rfl) (by kernel_rfl)) ?_
  intro W base args ds gs before hval0 hW hcnd _
  have hval : ∀ (j : Nat) t v, Try.f5.params[j]? = some t → args[j]? = some v → Value.okWide Try.prog W .any base t v := hval0
  have hW' := hW
  obtain ⟨p, q, hA0, hV, rfl, hfz, hnd⟩ := hW
  have hA : DataW.TrodAll enc Try.prog W 0 (fun _ => true) true Try.f5.params.toList args.toList ds p := hA0
  rw [Try.params5] at hA hval
  obtain ⟨v0, vs0, d0, ds0, p0, q0, hargs, rfl, rfl, h0, r0⟩ := trodAll_cons hA
  obtain ⟨rfl, rfl, rfl⟩ := trodAll_nil r0
  obtain rfl : args = #[v0] := by cases args; simp_all
  obtain ⟨rfl, rfl⟩ := trodVars_none hV
  obtain ⟨cc0, rfl, hcc0⟩ := okWide_struct Try.underlying54 (hval 0 54 v0 rfl rfl)
  have k0 := h0
  have lt0 : ∀ x ∈ p0, x.block < W.heap.size := by obtain ⟨m, hm⟩ := k0; exact DataW.trod_lt m _ _ _ hm
  obtain ⟨c0, len0, cap0, z0, rfl, w0⟩ := open_mor Try.underlying54 Try.underlying32 Try.underlying9 (by kernel_rfl) (by kernel_rfl) (by kernel_rfl) (hcc0.trans (by kernel_rfl)) h0
  clear hA0 hval0
  refine (walk c0 len0 cap0 z0 W w0).mono fun e W' ⟨he, bel⟩ => ?_
  subst he
  exact ⟨_, rfl, _, _, _, [], _, [], hW', trodAll_mk1 (shut_bool Try.underlying4 _), (trodAll_cons_mk (Below.trod laidOut (by kernel_rfl) (of_decide_eq_true (by kernel_rfl)) k0 bel lt0) trodAll_mk0), rfl, bel.frame _, fun h => by cases h⟩

theorem over : Rows.fnExactIsPrimitiveRow.holds Try.pinned (OpenSpec.ofChange Rows.fnExactIsPrimitiveSpec) :=
  OpenClaim.holds_of_wide 5 Try.f5 rfl rfl rfl rfl rfl rfl rfl ⟨rfl, rfl, rfl, rfl, rfl⟩ rfl rfl rfl rfl rfl (by kernel_rfl) Try.func5 (by kernel_rfl)
    (of_decide_eq_true (by kernel_rfl)) (by unfold Func.isWrapper; first | (rw [if_pos (by decide +kernel)]; kernel_rfl) | (rw [if_neg (by decide +kernel)]; exact ⟨rfl, rfl⟩))
    (fun os started H enc _ => lifted os started H enc)

theorem proved : Rows.FnExactIsPrimitiveSaid := over
#print axioms proved
end Go.Proofs.Ytddfdciohnabbab.fnExactIsPrimitive
