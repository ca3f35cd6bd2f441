/- For every struct of texts: the program and the model agree on its matrix, rows and code; the struct is left as it was, and the answer owns its memory. No condition. -/
import Derived.Test.YtjneebhbgogppaaMatR
import Derived.Test.YtjneebhbgogppaaMatI
import Derived.Test.YtjneebhbgogppaaRowsLaw
import Derived.Test.YtjneebhbgogppaaToS
import Derived.Test.YtjneebhbgogppaaRetM
import Derived.Test.YtjneebhbgogppaaRows
import Derived.WalkKit
import Derived.ProofKit
import Derived.OpenShut
import Derived.ShutString
import Derived.ChangeOld
import Derived.Below
namespace Go.Proofs.Ytjneebhbgogppaa.fnExactMatrixOf
open Go.ChangeShapes Go.WideShapes Go.ChangeAt Go.RowKit
open Go.ChangeMaps (open_string shut_string)
set_option linter.unusedVariables false
set_option maxRecDepth 100000 in
set_option maxHeartbeats 1000000 in
theorem walk (c0 : Option Addr) (len0 cap0 : Nat) (z0 : List ByteArray) (w : World) (w0 : IsRowS w c0 len0 cap0 z0) :
    Calls Try.prog 9 #[.agg #[.slice c0 len0 cap0]] w fun e w' => e = .returned (.bool true) ∧ Below w.heap.size w w' := by
  have wf0 := Lib.hid w0
  clear w0
  go_enter Try.func9, Try.ntmps9
  go_wp2_with fail
  obtain ⟨wa, hwa, Ba, bxa0⟩ : ∃ wa : World, wa = (w.alloc (.cells #[(.slice c0 len0 cap0)] 24)) ∧ Below w.heap.size w wa ∧ Boxed wa (w.heap.size) 24 (.slice c0 len0 cap0) := ⟨_, rfl, Below.new _ _, Boxed.new _ _ _⟩
  rw [← hwa]
  clear hwa
  refine (szM_any c0 len0 cap0 z0 1048576 _ (wf0.out.below Ba) (by omega) (by omega)).mono ?_
  rintro e x1 ⟨r0, rfl, b, hr0⟩
  rcases hr0 with rfl | ⟨ra0, rb0, rc0⟩
  · go_wp2
    go_ret
    exact ⟨rfl, Ba.then b⟩
  have hn0 : ¬ r0 < 0 := by omega
  have BW1 := Ba.then b
  replace bxa0 := boxed_later bxa0 b
  clear b Ba
  have kbxa0 := bxa0.cell
  go_wp2_with fail
  clear kbxa0
  have hl0 : len0 ≤ 1048576 := by omega
  have to0 := fun w' (b : Below w.heap.size w w') => toM_any c0 len0 cap0 z0 w' (wf0.out.below b) hl0
  have tt0 := tot_of (len := len0) (zs := z0) hl0 (fun s hs => by have := rc0 s hs; omega)
  have tl0 := take_lts_le len0 z0
  have cs := fun B0q v0q w' h0q => spec_MatrixOf B0q v0q ((z0.take len0).map lts) w' h0q tt0
  have ci := fun B0q v0q w' h0q => impl_MatrixOf B0q v0q ((z0.take len0).map lts) w' h0q tt0
  have hlen := matR_len ((z0.take len0).map lts)
  have htot := matR_tot ((z0.take len0).map lts)
  generalize (matR ((z0.take len0).map lts)).1 = L at cs ci hlen htot
  generalize (matR ((z0.take len0).map lts)).2 = c at cs ci
  generalize ((z0.take len0).map lts) = I0 at cs ci to0 tt0 tl0
  have TO0 := Lib.hid to0
  have hI0 : I0.length ≤ len0 := tl0
  clear to0 tl0 tt0
  have CS := Lib.hid cs
  have CI := Lib.hid ci
  clear cs ci
  refine (TO0.out _ BW1).mono ?_
  rintro e x2 ⟨px2, cx2, rfl, ox2, b⟩
  have BW2 := BW1.then b
  replace bxa0 := boxed_later bxa0 b
  clear b BW1
  have kbxa0 := bxa0.cell
  go_wp2_with fail
  clear kbxa0
  refine (CS.out _ (Value.slice px2 I0.length cx2) _ ox2).mono ?_
  rintro e x3 ⟨vw, rfl, ow, b⟩
  have BW3 := BW2.then b
  replace bxa0 := boxed_later bxa0 b
  clear b BW2 ox2
  have C0 : Below x3.heap.size x3 x3 := Below.refl _ _
  have OW := Lib.hid ow
  clear ow
  have kbxa0 := bxa0.cell
  go_wp2_with fail
  clear kbxa0
  have hb0 := BW3.size
  have hc0 := C0.size
  refine (TO0.out _ BW3).mono ?_
  rintro e x4 ⟨px4, cx4, rfl, ox4, b⟩
  have CW1 := C0.then b
  clear C0
  have BW4 := BW3.then b
  replace bxa0 := boxed_later bxa0 b
  clear b BW3
  have kbxa0 := bxa0.cell
  go_wp2_with fail
  clear kbxa0
  obtain ⟨yx4, hy, byx4, b⟩ : ∃ y : World, y = x4.alloc (.cells #[(Value.slice px4 I0.length cx4)] 27) ∧ Boxed y x4.heap.size 27 (Value.slice px4 I0.length cx4) ∧ Below x4.heap.size x4 y := ⟨_, rfl, Boxed.new _ _ _, Below.new _ _⟩
  rw [← hy]
  clear hy
  have CW2 := CW1.then b
  clear CW1
  have BW5 := BW4.then b
  replace ox4 := ox4.below b
  replace bxa0 := boxed_later bxa0 b
  clear b BW4
  have lgx4 := fun k (hk : (Value.slice px4 I0.length cx4).ownBlock = some k) => (ox4.lt k hk).2
  have hbg := BW5.size
  have ltA := bxa0.lt
  have ltB := byx4.lt
  have hcg := CW2.size
  refine (CI.out _ (Value.slice px4 I0.length cx4) _ ox4).mono ?_
  rintro e x5 ⟨vg, rfl, og, b⟩
  have CW3 := CW2.then b
  clear CW2
  have BW6 := BW5.then b
  replace ox4 := ox4.below b
  replace bxa0 := boxed_later bxa0 b
  replace byx4 := boxed_later byx4 b
  clear b BW5
  have kbxa0 := bxa0.cell
  have kbyx4 := byx4.cell
  go_wp2_with fail
  clear kbxa0 kbyx4
  refine (eqR_yes _ _ vg vw L _ og (OW.out.below CW3)).mono ?_
  rintro e x6 ⟨rfl, b⟩
  have CW4 := CW3.then b
  clear CW3
  have BW7 := BW6.then b
  replace ox4 := ox4.below b
  replace og := og.below b
  replace bxa0 := boxed_later bxa0 b
  replace byx4 := boxed_later byx4 b
  clear b BW6
  have kbxa0 := bxa0.cell
  have kbyx4 := byx4.cell
  go_wp2_with fail
  clear kbxa0 kbyx4
  have kbxa0 := bxa0.cell
  have kbyx4 := byx4.cell
  have CUR := BW7
  go_region_held3 (fun w' => w'.cell? ⟨(w.heap.size), 0, none⟩ = some (.slice c0 len0 cap0) ∧ w'.cell? ⟨x4.heap.size, 0, none⟩ = some (Value.slice px4 I0.length cx4)) (go_keep) (first | (go_at_call 17; refine (TO0.out _ (by first | exact CUR | exact CUR.drew | exact CUR.drewN _)).mono ?_; rintro e x7 ⟨px7, cx7, rfl, ox7, b⟩; have b := below_undrew b; have kbxa0_x7 := (boxed_later bxa0 b).cell; have kbyx4_x7 := (boxed_later byx4 b).cell) | (go_at_call 19; refine (eqM_yes _ _ _ _ _ _ (ox4.below b) ox7).mono ?_; rintro e x8 ⟨rfl, b2⟩; have kbxa0_x8 := (boxed_later bxa0 (b.then b2)).cell; have kbyx4_x8 := (boxed_later byx4 (b.then b2)).cell))
  have b3 := b.then b2
  clear b b2 ox7 CUR
  clear kbxa0_x7 kbxa0_x8 kbyx4_x7 kbyx4_x8
  clear kbxa0 kbyx4
  have CW5 := CW4.then b3
  clear CW4
  have BW8 := BW7.then b3
  replace ox4 := ox4.below b3
  replace og := og.below b3
  replace bxa0 := boxed_later bxa0 b3
  replace byx4 := boxed_later byx4 b3
  clear b3 BW7
  have kbxa0 := bxa0.cell
  have kbyx4 := byx4.cell
  go_wp2_with fail
  clear kbxa0 kbyx4
  refine (markM _ (Value.slice px4 I0.length cx4) (I0.map bt) _ _ ox4 (by first | omega | (simp; omega)) (by first | omega | (simp; omega)) (by first | omega | (simp; omega) | simp)).mono ?_
  rintro e x9 ⟨rfl, om, g⟩
  have BW9 := below_markedS BW8 ox4 hb0 g
  have CW6 := below_markedS CW5 ox4 hc0 g
  replace og := og.past g lgx4
  replace bxa0 := Boxed.kept bxa0 g (Boxed.not_row bxa0 (by decide) ox4)
  replace byx4 := Boxed.kept byx4 g (Boxed.not_row byx4 (by decide) ox4)
  clear BW8 CW5 om ox4 g
  have kbxa0 := bxa0.cell
  have kbyx4 := byx4.cell
  go_wp2_with fail
  clear kbxa0 kbyx4
  refine (eqR_yes _ _ vg vw L _ og (OW.out.below CW6)).mono ?_
  rintro e x10 ⟨rfl, b⟩
  have CW7 := CW6.then b
  clear CW6
  have BW10 := BW9.then b
  replace og := og.below b
  replace bxa0 := boxed_later bxa0 b
  replace byx4 := boxed_later byx4 b
  clear b BW9
  have kbxa0 := bxa0.cell
  have kbyx4 := byx4.cell
  go_wp2_with fail
  clear kbxa0 kbyx4
  refine (markR _ vg L 1 _ og (by omega) (by omega) (by omega) (by omega)).mono ?_
  rintro e x11 ⟨rfl, oq, g⟩
  have BW11 := BW10.trans (g.mono (by have := BW10.size; omega))
  have CW8 := CW7.trans (g.mono (by have := CW7.size; omega))
  have lbxa0 := bxa0.lt
  replace bxa0 : Boxed _ _ _ _ := (g.block _ (by omega)).trans bxa0
  have lbyx4 := byx4.lt
  replace byx4 : Boxed _ _ _ _ := (g.block _ (by omega)).trans byx4
  clear BW10 CW7 og g
  have kbxa0 := bxa0.cell
  have kbyx4 := byx4.cell
  go_wp2_with fail
  clear kbxa0 kbyx4
  refine (heldR _ vg L 1 _ oq (by omega) (by omega) (by omega) (by omega)).mono ?_
  rintro e x12 ⟨rfl, b⟩
  have CW9 := CW8.then b
  clear CW8
  have BW12 := BW11.then b
  replace oq := oq.below b
  replace bxa0 := boxed_later bxa0 b
  replace byx4 := boxed_later byx4 b
  clear b BW11
  have kbxa0 := bxa0.cell
  have kbyx4 := byx4.cell
  go_wp2_with fail
  clear kbxa0 kbyx4
  refine (TO0.out _ BW12).mono ?_
  rintro e x13 ⟨px13, cx13, rfl, ox13, b⟩
  have CW10 := CW9.then b
  clear CW9
  have BW13 := BW12.then b
  replace oq := oq.below b
  replace bxa0 := boxed_later bxa0 b
  replace byx4 := boxed_later byx4 b
  clear b BW12
  have kbxa0 := bxa0.cell
  have kbyx4 := byx4.cell
  go_wp2_with fail
  clear kbxa0 kbyx4
  refine (CI.out _ (Value.slice px13 I0.length cx13) _ ox13).mono ?_
  rintro e x14 ⟨vh, rfl, oh, b⟩
  have CW11 := CW10.then b
  clear CW10
  have BW14 := BW13.then b
  replace oq := oq.below b
  replace bxa0 := boxed_later bxa0 b
  replace byx4 := boxed_later byx4 b
  clear b BW13 ox13
  have kbxa0 := bxa0.cell
  have kbyx4 := byx4.cell
  go_wp2_with fail
  clear kbxa0 kbyx4
  refine (eqR_yes _ _ vh vw L _ oh (OW.out.below CW11)).mono ?_
  rintro e x15 ⟨rfl, b⟩
  have CW12 := CW11.then b
  clear CW11
  have BW15 := BW14.then b
  replace oq := oq.below b
  replace oh := oh.below b
  replace bxa0 := boxed_later bxa0 b
  replace byx4 := boxed_later byx4 b
  clear b BW14
  have kbxa0 := bxa0.cell
  have kbyx4 := byx4.cell
  go_wp2_with fail
  clear kbxa0 kbyx4
  refine (heldR _ vg L 1 _ oq (by omega) (by omega) (by omega) (by omega)).mono ?_
  rintro e x16 ⟨rfl, b⟩
  have CW13 := CW12.then b
  clear CW12
  have BW16 := BW15.then b
  replace oq := oq.below b
  replace oh := oh.below b
  replace bxa0 := boxed_later bxa0 b
  replace byx4 := boxed_later byx4 b
  clear b BW15
  have kbxa0 := bxa0.cell
  have kbyx4 := byx4.cell
  go_wp2_with fail
  clear kbxa0 kbyx4
  go_ret
  exact ⟨rfl, BW16⟩

theorem own : ownKnob Try.prog.godebug = none := by kernel_rfl
theorem laidOut : laidOutB Try.prog = true := by kernel_rfl

set_option maxRecDepth 100000 in
theorem lifted (os : Os) (started : os.Started) (H : Type) (enc : TypeId × Value → H) :
    ReturnsInHanded {} Try.checked os 9 .any (Rows.fnExactMatrixOfSpec.pre6 enc Try.prog Try.f9 Rows.fnExactMatrixOfRow.domain false) (Rows.fnExactMatrixOfSpec.post enc Try.prog Try.f9 false true false false) := by
  refine returnsInHanded_of_change (C := Try.checked) own started (by kernel_rfl) Try.func9
    (ChangeSpec.witness6 (enc := enc) (C := Try.checked) false ⟨#[], #[.agg #[.slice none 0 0]], []⟩ 8 (by kernel_rfl) (by kernel_rfl) (by kernel_rfl) (by kernel_rfl)) ?_
  intro W base args ds gs before hval0 hW hcnd _
  have hval : ∀ (j : Nat) t v, Try.f9.params[j]? = some t → args[j]? = some v → Value.okWide Try.prog W .any base t v := hval0
  have hW' := hW
  obtain ⟨p, q, hA0, hV, rfl, hfz, hnd⟩ := hW
  have hA : DataW.TrodAll enc Try.prog W 0 (fun _ => true) true Try.f9.params.toList args.toList ds p := hA0
  rw [Try.params9] at hA hval
  obtain ⟨v0, vs0, d0, ds0, p0, q0, hargs, rfl, rfl, h0, r0⟩ := trodAll_cons hA
  obtain ⟨rfl, rfl, rfl⟩ := trodAll_nil r0
  obtain rfl : args = #[v0] := by cases args; simp_all
  obtain ⟨rfl, rfl⟩ := trodVars_none hV
  obtain ⟨cc0, rfl, hcc0⟩ := okWide_struct Try.underlying24 (hval 0 24 v0 rfl rfl)
  have k0 := h0
  have lt0 : ∀ x ∈ p0, x.block < W.heap.size := by obtain ⟨m, hm⟩ := k0; exact DataW.trod_lt m _ _ _ hm
  obtain ⟨c0, len0, cap0, z0, rfl, w0⟩ := open_mor Try.underlying24 Try.underlying22 Try.underlying9 (by kernel_rfl) (by kernel_rfl) (by kernel_rfl) (hcc0.trans (by kernel_rfl)) h0
  clear hA0 hval0
  refine (walk c0 len0 cap0 z0 W w0).mono fun e W' ⟨he, bel⟩ => ?_
  subst he
  exact ⟨_, rfl, _, _, _, [], _, [], hW', trodAll_mk1 (shut_bool Try.underlying4 _), (trodAll_cons_mk (Below.trod laidOut (by kernel_rfl) (of_decide_eq_true (by kernel_rfl)) k0 bel lt0) trodAll_mk0), rfl, bel.frame _, fun h => by cases h⟩

theorem over : Rows.fnExactMatrixOfRow.holds Try.pinned (OpenSpec.ofChange Rows.fnExactMatrixOfSpec) :=
  OpenClaim.holds_of_wide 9 Try.f9 rfl rfl rfl rfl rfl rfl rfl ⟨rfl, rfl, rfl, rfl, rfl⟩ rfl rfl rfl rfl rfl (by kernel_rfl) Try.func9 (by kernel_rfl)
    (of_decide_eq_true (by kernel_rfl)) (by unfold Func.isWrapper; first | (rw [if_pos (by decide +kernel)]; kernel_rfl) | (rw [if_neg (by decide +kernel)]; exact ⟨rfl, rfl⟩))
    (fun os started H enc _ => lifted os started H enc)

theorem proved : Rows.FnExactMatrixOfSaid := over
#print axioms proved
end Go.Proofs.Ytjneebhbgogppaa.fnExactMatrixOf
