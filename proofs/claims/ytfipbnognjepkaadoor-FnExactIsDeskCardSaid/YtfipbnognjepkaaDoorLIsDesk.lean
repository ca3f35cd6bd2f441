/- For every struct of two texts and a list of texts: the program and the model agree on whether it is a desk; it is left as it was. Condition: the tables of the library that its code names hold what the program's text lays. -/
import Derived.Test.YtfipbnognjepkaaDoorDeskI
import Derived.Test.YtfipbnognjepkaaDoorRows
import Derived.WalkKit
import Derived.ProofKit
import Derived.OpenShut
import Derived.ShutString
import Derived.ChangeOld
import Derived.Below
import Derived.LaidMore
import Derived.Lay
import Derived.SevenTiedAt
import Derived.Test.YtfipbnognjepkaaDoorCards
import Derived.Test.YtfipbnognjepkaaDoorTie
import Derived.Stop.Joined
import Derived.Deep.RegionHeld3
namespace Go.Proofs.YtfipbnognjepkaaDoor.fnExactIsDesk
open Go.ChangeShapes Go.WideShapes Go.ChangeAt Go.RowKit
open Go.ChangeMaps (open_string shut_string)
set_option linter.unusedVariables false

/-- The cells of two desks. -/
def Two3 (W : World) (b1 b2 : Nat) (x y : ByteArray) (u v : Value) : Prop := Dk3 dkL W b1 (.string x) (.string y) u ∧ Dk3 dkI W b2 (.string x) (.string y) v

set_option maxRecDepth 100000 in
set_option maxHeartbeats 2000000 in
theorem walk (x y : ByteArray) (c0 : Option Addr) (len0 cap0 : Nat) (z0 : List ByteArray) (w : World) (sx : x.size ≤ maxLen) (sy : y.size ≤ maxLen) (w0 : IsRowS w c0 len0 cap0 z0) :
    Calls Tryd.prog 3 #[.agg #[.string x, .string y, .slice c0 len0 cap0]] w fun e w' => e = .returned (.bool true) ∧ Below w.heap.size w w' := by
  have wf0 := Lib.hid w0
  clear w0
  go_enter Tryd.func3, Tryd.ntmps3
  go_wp2_with fail
  obtain ⟨wa, hwa, Ba, bx⟩ : ∃ wa : World, wa = (w.alloc (.cells #[.string x, .string y, .slice c0 len0 cap0] dkL)) ∧ Below w.heap.size w wa ∧ Dk3 dkL wa w.heap.size (.string x) (.string y) (.slice c0 len0 cap0) := ⟨_, rfl, Below.new _ _, Dk3.new _ _ _ _ _⟩
  simp only [dkL] at hwa
  rw [← hwa]
  clear hwa
  refine (szD_any x y c0 len0 cap0 z0 _ (wf0.out.below Ba) sx sy).mono ?_
  rintro e x1 ⟨r0, rfl, b, hr0⟩
  rcases hr0 with rfl | ⟨ra0, rb0, rc0, rd0, re0⟩
  · go_wp2
    go_ret
    exact ⟨rfl, Ba.then b⟩
  have hn0 : ¬ r0 < 0 := by omega
  have BW := Ba.then b
  replace bx := bx.later b
  clear b Ba
  have k0 := bx.c0
  have k1 := bx.c1
  have k2 := bx.c2
  go_wp2_with fail
  clear k0 k1 k2
  have to0 := fun w' (b : Below w.heap.size w w') => toD_any x y c0 len0 cap0 z0 w' (wf0.out.below b) rd0
  have tt0 := tot_of (len := len0) (zs := z0) rd0 (fun s hs => re0 s hs)
  have cs := fun B0q v0q w' h0q => spec_IsDesk B0q x y v0q ((z0.take len0).map lts) w' h0q tt0 sx sy
  have ci := fun B0q v0q w' h0q => impl_IsDesk B0q x y v0q ((z0.take len0).map lts) w' h0q tt0 sx sy
  generalize (dskR x y ((z0.take len0).map lts)) = qr at cs ci
  generalize ((z0.take len0).map lts) = I0 at cs ci to0 tt0
  have TO0 := Lib.hid to0
  have CS := Lib.hid cs
  have CI := Lib.hid ci
  clear to0 tt0 cs ci
  refine (TO0.out _ BW).mono ?_
  rintro e x2 ⟨p2, c2, rfl, o2, b⟩
  replace BW := BW.then b
  replace bx := bx.later b
  clear b
  go_wp2_with fail
  refine (CS.out _ _ _ o2).mono ?_
  rintro e x3 ⟨rfl, b⟩
  replace BW := BW.then b
  replace bx := bx.later b
  clear b o2
  have k0 := bx.c0
  have k1 := bx.c1
  have k2 := bx.c2
  go_wp2_with fail
  clear k0 k1 k2
  refine (TO0.out _ BW).mono ?_
  rintro e x4 ⟨p4, c4, rfl, o4, b⟩
  replace BW := BW.then b
  replace bx := bx.later b
  clear b
  go_wp2_with fail
  obtain ⟨yx, hy, bz, b⟩ : ∃ yy : World, yy = x4.alloc (.cells #[.string x, .string y, .slice p4 I0.length c4] dkI) ∧ Dk3 dkI yy x4.heap.size (.string x) (.string y) (.slice p4 I0.length c4) ∧ Below x4.heap.size x4 yy := ⟨_, rfl, Dk3.new _ _ _ _ _, Below.new _ _⟩
  simp only [dkI] at hy
  rw [← hy]
  clear hy
  replace BW := BW.then b
  replace o4 := o4.below b
  replace bx := bx.later b
  clear b
  refine (CI.out _ _ _ o4).mono ?_
  rintro e x5 ⟨rfl, b⟩
  replace BW := BW.then b
  replace o4 := o4.below b
  replace bx := bx.later b
  replace bz := bz.later b
  clear b
  have k0 := bx.c0
  have k1 := bx.c1
  have k2 := bx.c2
  have k3 := bz.c0
  have k4 := bz.c1
  have k5 := bz.c2
  have CUR := BW
  generalize x4.heap.size = G at *
  go_wp2_with fail
  go_region_held3 (fun w' => w'.cell? ⟨w.heap.size, 0, none⟩ = some (.string x) ∧ w'.cell? ⟨w.heap.size, 1, none⟩ = some (.string y) ∧ w'.cell? ⟨w.heap.size, 2, none⟩ = some (.slice c0 len0 cap0) ∧ w'.cell? ⟨G, 0, none⟩ = some (.string x) ∧ w'.cell? ⟨G, 1, none⟩ = some (.string y) ∧ w'.cell? ⟨G, 2, none⟩ = some (.slice p4 I0.length c4)) (go_keep) (first | (go_at_call 10; refine (TO0.out _ (by first | exact CUR | exact CUR.drew | exact CUR.drewN _)).mono ?_; rintro e x6 ⟨p6, c6, rfl, o6, b⟩; have b := below_undrew b; have q0 := (bx.later b).c0; have q1 := (bx.later b).c1; have q2 := (bx.later b).c2; have q3 := (bz.later b).c0; have q4 := (bz.later b).c1; have q5 := (bz.later b).c2) | (go_at_call 12; refine (eqD_yes _ _ _ _ _ _ _ _ (o4.below b) o6).mono ?_; rintro e x7 ⟨rfl, b2⟩; have r0 := (bx.later (b.then b2)).c0; have r1 := (bx.later (b.then b2)).c1; have r2 := (bx.later (b.then b2)).c2; have r3 := (bz.later (b.then b2)).c0; have r4 := (bz.later (b.then b2)).c1; have r5 := (bz.later (b.then b2)).c2))
  have b3 := b.then b2
  have BF := BW.then b3
  clear b b2 o6 CUR
  go_wp2_with fail
  go_ret
  exact ⟨rfl, BF⟩

theorem own : ownKnob Tryd.prog.godebug = none := by kernel_rfl
theorem laidOut : laidOutB Tryd.prog = true := by kernel_rfl

set_option maxRecDepth 100000 in
theorem lifted (os : Os) (started : os.Started) (H : Type) (enc : TypeId × Value → H) :
    ReturnsInHanded {} Tryd.checked os 3 .any (fun w args => (Rows.fnExactIsDeskSpec.pre enc Tryd.prog Tryd.f3 Rows.fnExactIsDeskRow.domain false w args ∧ laidMetH Tryd.prog Rows.fnExactIsDeskRow.laid w) ∧ sizedMet enc Tryd.prog Tryd.f3 (OpenSpec.ofChange Rows.fnExactIsDeskSpec) false w args)
      (Rows.fnExactIsDeskSpec.post enc Tryd.prog Tryd.f3 false true false false) := by
  refine returnsInHanded_of_change_and (C := Tryd.checked) (X := fun w _ => laidMetH Tryd.prog Rows.fnExactIsDeskRow.laid w) (fun _ _ _ hh h => h.of_heap hh) own started (by kernel_rfl) Tryd.func3
    (ChangeSpec.witness_shaped (enc := enc) (C := Tryd.checked) (os := os) (X := fun w _ => laidMetH Tryd.prog Rows.fnExactIsDeskRow.laid w) false (World.laidAll Tryd.prog os Rows.fnExactIsDeskRow.laid) #[.agg #[.string ByteArray.empty, .string ByteArray.empty, .slice none 0 0]] 8 (World.laidAll_os _ _ _)
      (World.shaped_of_ZipB (by kernel_rfl) (by kernel_rfl)) (by kernel_rfl) (by kernel_rfl) (by kernel_rfl)
      (by rw [MakeChecks.laidMetH_plain _ _ _ (by kernel_rfl)]; exact laidMet_laidAll _ (by kernel_rfl) (by kernel_rfl))) ?_
  intro W base args ds gs before hval0 hW hcnd _ hL _
  have hval : ∀ (j : Nat) t v, Tryd.f3.params[j]? = some t → args[j]? = some v → Value.okWide Tryd.prog W .any base t v := hval0
  have hW' := hW
  obtain ⟨p, q, hA0, hV, rfl, hfz, hnd⟩ := hW
  have hA : DataW.TrodAll enc Tryd.prog W 0 (fun _ => true) true Tryd.f3.params.toList args.toList ds p := hA0
  rw [Tryd.params3] at hA hval
  obtain ⟨v0, vs0, d0, ds0, p0, q0, hargs, rfl, rfl, h0, r0⟩ := trodAll_cons hA
  obtain ⟨rfl, rfl, rfl⟩ := trodAll_nil r0
  obtain rfl : args = #[v0] := by cases args; simp_all
  obtain ⟨rfl, rfl⟩ := trodVars_none hV
  obtain ⟨cc0, rfl, hcc0⟩ := okWide_struct Tryd.underlying26 (hval 0 26 v0 rfl rfl)
  have k0 := h0
  have lt0 : ∀ x ∈ p0, x.block < W.heap.size := by obtain ⟨m, hm⟩ := k0; exact DataW.trod_lt m _ _ _ hm
  obtain ⟨a0, b0, c0, len0, cap0, z0, rfl, wa0, wb0, w0⟩ := open_desk Tryd.underlying26 Tryd.underlying24 Tryd.underlying22 Tryd.underlying9 (by kernel_rfl) (by kernel_rfl) (by kernel_rfl) (by kernel_rfl) (by kernel_rfl) (by kernel_rfl) (by kernel_rfl) (hcc0.trans (by kernel_rfl)) h0
  clear hA0 hval0
  refine (walk a0 b0 c0 len0 cap0 z0 W wa0 wb0 w0).mono fun e W' ⟨he, bel⟩ => ?_
  subst he
  exact ⟨_, rfl, _, _, _, [], _, [], hW', trodAll_mk1 (shut_bool Tryd.underlying4 _), (trodAll_cons_mk (Below.trod laidOut (by kernel_rfl) (of_decide_eq_true (by kernel_rfl)) k0 bel lt0) trodAll_mk0), rfl, bel.frame _, fun h => by cases h⟩

theorem over : Rows.fnExactIsDeskRow.holds Tryd.pinned (OpenSpec.ofChange Rows.fnExactIsDeskSpec) :=
  OpenClaim.holds_of_wide 3 Tryd.f3 rfl rfl rfl rfl rfl rfl rfl ⟨rfl, rfl, rfl, rfl, rfl⟩ rfl rfl rfl rfl rfl (by kernel_rfl) Tryd.func3 (by kernel_rfl)
    (of_decide_eq_true (by kernel_rfl)) (by unfold Func.isWrapper; first | (rw [if_pos (by decide +kernel)]; kernel_rfl) | (rw [if_neg (by decide +kernel)]; exact ⟨rfl, rfl⟩))
    (fun os started H enc _ => lifted os started H enc)

theorem proved : Rows.FnExactIsDeskCardSaid :=
  Claim7.holds_tied_plain_at .later [] [.data, .pinned] true _ _ over (fun _ h => by cases h) (by kernel_rfl) (fun _ h => by cases h) fnExactIsDesk_row_tie rfl ⟨rfl, rfl⟩ (by kernel_rfl) rfl
    (fun f fn hf hfn => by
      obtain rfl : f = 3 := Option.some.inj ((show Tryd.prog.funcNamed "loop.example/g01371/laws.FnExactIsDesk" = some 3 by kernel_rfl).symm.trans hf) |>.symm
      obtain rfl : fn = Tryd.f3 := (Option.some.inj (Tryd.func3.symm.trans hfn)).symm
      exact ⟨by kernel_rfl, fun j t ht => by
        have hall : (Tryd.f3.params.toList.all fun u => !Tryd.prog.wantsStandIn u) = true := by kernel_rfl
        have hm : t ∈ Tryd.f3.params.toList := by simpa using Array.mem_of_getElem? ht
        exact (show Tryd.prog.wantsStandIn t = false by simpa using List.all_eq_true.1 hall t hm)⟩)
    (by kernel_rfl)
#print axioms proved
end Go.Proofs.YtfipbnognjepkaaDoor.fnExactIsDesk
