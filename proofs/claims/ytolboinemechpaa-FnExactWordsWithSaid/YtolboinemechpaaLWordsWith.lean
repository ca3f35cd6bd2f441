/- For every slice of numbers: the program and the model agree on all words with this vector, list and code; the slice is left as it was, and the answer owns its memory. No condition. -/
import Derived.Test.YtolboinemechpaaWwI
import Derived.Test.YtolboinemechpaaWwS
import Derived.Test.YtolboinemechpaaToI
import Derived.Test.YtolboinemechpaaStrs
import Derived.Test.YtolboinemechpaaRows
import Derived.WalkKit
import Derived.ProofKit
import Derived.OpenShut
import Derived.ShutString
import Derived.ChangeOld
import Derived.Below
namespace Go.Proofs.Ytolboinemechpaa.fnExactWordsWith
open Go.ChangeShapes Go.WideShapes Go.ChangeAt Go.RowKit
open Go.ChangeMaps (open_string shut_string)
set_option linter.unusedVariables false

set_option maxRecDepth 100000 in
set_option maxHeartbeats 1000000 in
theorem walk (a0 : Option Addr) (len0 cap0 : Nat) (z0 : List Int) (w : World) (w0 : IsRow .i64 w a0 len0 cap0 z0) :
    Calls Try.prog 6 #[.slice a0 len0 cap0] w fun e w' => e = .returned (.bool true) ∧ Below w.heap.size w w' := by
  have hlm : len0 ≤ 9223372036854775807 := w0.len_le
  have W := Lib.hid w0
  clear w0
  by_cases hb0 : 1048576 < len0
  · go_enter Try.func6, Try.ntmps6
    go_wp2
    go_ret
    exact ⟨rfl, Below.refl _ _⟩
  have hl : len0 ≤ 1048576 := by omega
  have hl2 : (z0.take len0).length ≤ 1048576 := by simp; omega
  have hlen := wwR_len  (z0.take len0)
  have cs := fun B v w h => spec_WordsWith  B v (z0.take len0) w  h hl2
  have ci := fun B v w h => impl_WordsWith  B v (z0.take len0) w  h hl2
  generalize (wwR (z0.take len0)).1 = L at cs ci hlen
  generalize (wwR (z0.take len0)).2 = c at cs ci
  have CS := Lib.hid cs
  have CI := Lib.hid ci
  clear cs ci
  go_enter Try.func6, Try.ntmps6
  go_wp2_with fail
  refine (toI_any a0 len0 cap0 z0 _ W.out hl).mono ?_
  rintro e w1 ⟨v, rfl, o, b1⟩
  go_wp2_with fail
  refine (CS.out _ v _ o).mono ?_
  rintro e w2 ⟨v0, rfl, o0, b2⟩
  have B2 := b1.then b2
  have hlt0 := fun k hk => (OwnS.lt o0 k hk).2
  clear b1 b2 o
  go_wp2_with fail
  refine (toI_any a0 len0 cap0 z0 _ (W.out.below B2) hl).mono ?_
  rintro e w3 ⟨x0, rfl, ox, b3⟩
  have o0 := o0.below b3
  have B3 := B2.then b3
  have hs3 := b3.size
  have hs2 := B2.size
  clear b3 B2
  go_wp2_with fail
  refine (CI.out _ x0 _ ox).mono ?_
  rintro e w4 ⟨v1, rfl, o1, b4⟩
  have hlt : ∀ k, v0.ownBlock = some k → k < w3.heap.size := fun k hk => by have := hlt0 k hk; omega
  have o0 := o0.below b4
  have ox := ox.below b4
  have hw3 := B3.size
  have B4 := B3.then b4
  clear b4 B3 hlt0
  go_wp2_with fail
  refine (eqS_yes _ _ v1 v0 L _ o1 o0).mono ?_
  rintro e w5 ⟨rfl, b5⟩
  have o0 := o0.below b5
  have o1 := o1.below b5
  have ox := ox.below b5
  have B5 := B4.then b5
  clear b5 B4
  go_wp2_with fail
  refine (toI_any a0 len0 cap0 z0 _ (W.out.below B5) hl).mono ?_
  rintro e w6 ⟨v2, rfl, o2, b6⟩
  have o0 := o0.below b6
  have o1 := o1.below b6
  have ox := ox.below b6
  have B6 := B5.then b6
  clear b6 B5
  go_wp2_with fail
  refine (eqI_yes _ _ x0 v2 _ _ ox o2).mono ?_
  rintro e w7 ⟨rfl, b7⟩
  have o0 := o0.below b7
  have o1 := o1.below b7
  have ox := ox.below b7
  have B7 := B6.then b7
  clear b7 B6 o2
  go_wp2_with fail
  refine (markI _ x0 _ 1 _ ox (by omega) (by omega) (by omega)).mono ?_
  rintro e w8 ⟨rfl, ox8, g8⟩
  have o0 : OwnS w8 _ v0 L := own_other o0 g8 (fun k hk => own_apart o0 ox (by decide) hk)
  have o1 : OwnS w8 _ v1 L := own_other o1 g8 (fun k hk => own_apart o1 ox (by decide) hk)
  have B8 : Below w.heap.size w w8 := B7.grown g8 B7.size (fun q hq => by have := (World.ownsRow.lt ox q hq).1; omega)
  have hmk : ¬ (1 + ((z0.take len0).length : Int) < 0) := by omega
  generalize (z0.take len0).length = lz at *
  clear g8 ox ox8 B7
  go_wp2_with fail
  refine (eqS_yes _ _ v1 v0 L _ o1 o0).mono ?_
  rintro e w9 ⟨rfl, b9⟩
  have o0 := o0.below b9
  have o1 := o1.below b9
  have B9 := B8.then b9
  clear b9 B8
  go_wp2_with fail
  refine (markS _ v1 L 1 _ o1 (by omega) (by omega) (by omega)).mono ?_
  rintro e wa ⟨rfl, oa, ga⟩
  have o0 := o0.kept o1 hlt ga
  have Ba := below_markedS B9 o1 hw3 ga
  clear ga o1 B9
  go_wp2_with fail
  refine (heldS _ v1 L.length 1 _ oa (by omega) (by omega) (by omega)).mono ?_
  rintro e wb ⟨rfl, bb⟩
  have o0 := o0.below bb
  have oa := oa.below bb
  have Bb := Ba.then bb
  clear bb Ba
  go_wp2_with fail
  refine (toI_any a0 len0 cap0 z0 _ (W.out.below Bb) hl).mono ?_
  rintro e wc ⟨v4, rfl, o4, bc⟩
  have o0 := o0.below bc
  have oa := oa.below bc
  have Bc := Bb.then bc
  clear bc Bb
  go_wp2_with fail
  refine (CI.out _ v4 _ o4).mono ?_
  rintro e wd ⟨v5, rfl, o5, bd⟩
  have o0 := o0.below bd
  have oa := oa.below bd
  have Bd := Bc.then bd
  clear bd Bc o4
  go_wp2_with fail
  refine (eqS_yes _ _ v5 v0 L _ o5 o0).mono ?_
  rintro e we ⟨rfl, be⟩
  have oa := oa.below be
  have Be := Bd.then be
  clear be Bd
  go_wp2_with fail
  refine (heldS _ v1 L.length 1 _ oa (by omega) (by omega) (by omega)).mono ?_
  rintro e wf ⟨rfl, bf⟩
  have Bf := Be.then bf
  clear bf Be
  go_wp2_with fail
  go_ret
  exact ⟨rfl, Bf⟩

theorem own : ownKnob Try.prog.godebug = none := by kernel_rfl
theorem laidOut : laidOutB Try.prog = true := by kernel_rfl

set_option maxRecDepth 100000 in
theorem lifted (os : Os) (started : os.Started) (H : Type) (enc : TypeId × Value → H) :
    ReturnsInHanded {} Try.checked os 6 .any (Rows.fnExactWordsWithSpec.pre6 enc Try.prog Try.f6 Rows.fnExactWordsWithRow.domain false) (Rows.fnExactWordsWithSpec.post enc Try.prog Try.f6 false true false false) := by
  refine returnsInHanded_of_change (C := Try.checked) own started (by kernel_rfl) Try.func6
    (ChangeSpec.witness6 (enc := enc) (C := Try.checked) false ⟨#[], #[.slice none 0 0], []⟩ 8 (by kernel_rfl) (by kernel_rfl) (by kernel_rfl) (by kernel_rfl)) ?_
  intro W base args ds gs before hval0 hW hcnd _
  have hval : ∀ (j : Nat) t v, Try.f6.params[j]? = some t → args[j]? = some v → Value.okWide Try.prog W .any base t v := hval0
  have hW' := hW
  obtain ⟨p, q, hA0, hV, rfl, hfz, hnd⟩ := hW
  have hA : DataW.TrodAll enc Try.prog W 0 (fun _ => true) true Try.f6.params.toList args.toList ds p := hA0
  rw [Try.params6] at hA hval
  obtain ⟨v0, vs0, d0, ds0, p0, q0, hargs, rfl, rfl, h0, r0⟩ := trodAll_cons hA
  obtain ⟨rfl, rfl, rfl⟩ := trodAll_nil r0
  obtain rfl : args = #[v0] := by cases args; simp_all
  obtain ⟨rfl, rfl⟩ := trodVars_none hV
  obtain ⟨a0, len0, cap0, rfl⟩ := okWide_slice Try.underlying30 (hval 0 30 v0 rfl rfl)
  have k0 := h0
  have lt0 : ∀ x ∈ p0, x.block < W.heap.size := by obtain ⟨m, hm⟩ := k0; exact DataW.trod_lt m _ _ _ hm
  obtain ⟨z0, w0⟩ : ∃ zs, IsRow .i64 W a0 len0 cap0 zs := by
    obtain ⟨fuel, hf⟩ := h0
    rcases open_ints Try.underlying30 Try.underlying2 (by kernel_rfl) hf with ⟨hcs, _⟩ | ⟨x, l, c, zs, hcs, _, hl, hm, hz, _, hcell, hwz⟩
    · simp [Value.cells] at hcs
      obtain ⟨rfl, rfl, rfl⟩ := hcs
      exact ⟨[], .inl ⟨rfl, rfl, rfl, rfl⟩⟩
    · simp [Value.cells] at hcs
      obtain ⟨rfl, rfl, rfl⟩ := hcs
      exact ⟨zs, .inr ⟨_, rfl, hl, hm, by simpa using hz, hcell, hwz⟩⟩
  clear hA0 hval0
  refine (walk a0 len0 cap0 z0 W w0).mono fun e W' ⟨he, bel⟩ => ?_
  subst he
  exact ⟨_, rfl, _, _, _, [], _, [], hW', trodAll_mk1 (shut_bool Try.underlying4 _), (trodAll_cons_mk (Below.trod laidOut (by kernel_rfl) (of_decide_eq_true (by kernel_rfl)) k0 bel lt0) trodAll_mk0), rfl, bel.frame _, fun h => by cases h⟩

theorem over : Rows.fnExactWordsWithRow.holds Try.pinned (OpenSpec.ofChange Rows.fnExactWordsWithSpec) :=
  OpenClaim.holds_of_wide 6 Try.f6 rfl rfl rfl rfl rfl rfl rfl ⟨rfl, rfl, rfl, rfl, rfl⟩ rfl rfl rfl rfl rfl (by kernel_rfl) Try.func6 (by kernel_rfl)
    (of_decide_eq_true (by kernel_rfl)) (by unfold Func.isWrapper; first | (rw [if_pos (by decide +kernel)]; kernel_rfl) | (rw [if_neg (by decide +kernel)]; exact ⟨rfl, rfl⟩))
    (fun os started H enc _ => lifted os started H enc)

theorem proved : Rows.FnExactWordsWithSaid := over
#print axioms proved
end Go.Proofs.Ytolboinemechpaa.fnExactWordsWith
