/- Composed morphisms: the program. -/
import Derived.Test.YtjneebhbgogppaaImgI
import Derived.Test.YtjneebhbgogppaaCompPlain
import Derived.Test.YtjneebhbgogppaaRetM
import Derived.RangeFuncBox
import Derived.Maps.AppendAt
namespace Go.Proofs.Ytjneebhbgogppaa
set_option linter.unusedVariables false
set_option linter.unusedSimpArgs false
open Go.RowKit

set_option maxRecDepth 100000 in
set_option maxHeartbeats 2000000 in
theorem impl_ComposeMorphisms (B0 : Nat) (v0 : Value) (H : List (List UInt8)) (B1 : Nat) (v1 : Value) (G : List (List UInt8)) (w : World) (h0 : OwnS w B0 v0 (H.map bt)) (t0 : Tot H) (h1 : OwnS w B1 v1 (G.map bt)) (t1 : Tot G) :
    Calls Try.prog 25 #[.agg #[v0], .agg #[v1]] w (RetM (compR H G).1 (compR H G).2 w) := by
  obtain ⟨i0, hi0, hz0, hz1, hz2⟩ := info_parts infoStr
  have hH := t0.1
  have hG := t1.1
  by_cases gg : Mor H ∧ Mor G
  · obtain ⟨g0, g1⟩ := gg
    have n1 := g0.len1
    have n5 := g0.len5
    have m1 := g1.len1
    have m5 := g1.len5
    obtain ⟨p, cap, rfl, hp, hc, cellH⟩ := h0.rowM (by omega)
    obtain ⟨q, cap2, rfl, hq, hc2, cellG⟩ := h1.rowM (by omega)
    obtain ⟨W0, hW0⟩ : ∃ W0 : World, W0 = ((w.alloc (.cells #[(.slice (some ⟨p, 0, none⟩) H.length cap)] 27)).alloc (.cells #[(.slice (some ⟨q, 0, none⟩) G.length cap2)] 27)).alloc (.cells #[.slice none 0 0] 27) := ⟨_, rfl⟩
    have x0 : Boxed W0 w.heap.size 27 (.slice (some ⟨p, 0, none⟩) H.length cap) := by rw [hW0]; exact ((Boxed.new _ _ _).alloc _).alloc _
    have x1 : Boxed W0 (w.heap.size + 1) 27 (.slice (some ⟨q, 0, none⟩) G.length cap2) := by
      have := Boxed.new (w.alloc (.cells #[(.slice (some ⟨p, 0, none⟩) H.length cap)] 27)) 27 (.slice (some ⟨q, 0, none⟩) G.length cap2)
      rw [World.size_alloc] at this
      rw [hW0]
      exact this.alloc _
    have x2 : Boxed W0 (w.heap.size + 1 + 1) 27 (.slice none 0 0) := by
      have := Boxed.new ((w.alloc (.cells #[(.slice (some ⟨p, 0, none⟩) H.length cap)] 27)).alloc (.cells #[(.slice (some ⟨q, 0, none⟩) G.length cap2)] 27)) 27 (.slice none 0 0)
      simp only [World.size_alloc] at this
      rw [hW0]
      exact this
    have BA0 : Below w.heap.size w W0 := by rw [hW0]; exact ((Below.new _ _).alloc (by simp) _).alloc (by simp; omega) _
    have o0 := h0.below BA0
    have o1 := h1.below BA0
    have HW0 := Lib.hid hW0
    have X0 := Lib.hid x0
    have X1 := Lib.hid x1
    have X2 := Lib.hid x2
    have O0 := Lib.hid o0
    have O1 := Lib.hid o1
    have hw0 := x2.lt
    have c0 := fun W h => isMor_yes B0 (.slice (some ⟨p, 0, none⟩) H.length cap) H W h g0
    have c1 := fun W h => isMor_yes B1 (.slice (some ⟨q, 0, none⟩) G.length cap2) G W h g1
    have C0 := Lib.hid c0
    have C1 := Lib.hid c1
    have CG := Lib.hid cellG
    have G0 := Lib.hid g0
    have G1 := Lib.hid g1
    by_cases hl : H.length = G.length
    · obtain ⟨R, hR⟩ : ∃ R, compR H G = R := ⟨_, rfl⟩
      rw [hR]
      have HL3 := Lib.hid (fun k (hk : k < G.length) (hx : ¬ (imgOf H (G[k]'hk)).length ≤ 12) => (hR.symm.trans (compR_long ⟨g0, g1⟩ hl hk hx) : R = ([], 3)))
      have HOK := Lib.hid (fun (c : CompTo H G G.length) => (hR.symm.trans (compR_ok ⟨g0, g1⟩ hl c) : R = (compL H G, 0)))
      have HLL := Lib.hid hl
      have hli : (H.length : Int) = (G.length : Int) := by omega
      have hln : ((H.length : Int) != (G.length : Int)) = false := by simp [hli]
      clear c0 c1 cellG cellH g0 g1 hW0 x0 x1 x2 o0 o1 h0 h1 hR hl hli
      go_enter Try.func25, Try.ntmps25
      go_wp2_with fail
      rw [← HW0.out]
      refine (C0.out _ O0.out).mono ?_
      rintro e w1 ⟨rfl, b1⟩
      have y1 := (boxed_later X1.out b1).cell
      go_wp2_with fail
      refine (C1.out _ (O1.out.below b1)).mono ?_
      rintro e w2 ⟨rfl, b2⟩
      have b12 := b1.then b2
      have x0 := boxed_later X0.out b12
      have x1 := boxed_later X1.out b12
      have x2 := boxed_later X2.out b12
      have B2 := BA0.then b12
      have OO := Lib.hid (O0.out.below b12)
      have k0 := x0.cell
      have k1 := x1.cell
      have hlt0 := x0.lt
      have hlt1 := x1.lt
      have hlt2 := x2.lt
      obtain ⟨W3, hW3⟩ : ∃ W3 : World, W3 = w2.alloc (.cells #[.slice none 0 0] 27) := ⟨_, rfl⟩
      have x3 : Boxed W3 w2.heap.size 27 (.slice none 0 0) := by rw [hW3]; exact Boxed.new _ _ _
      have r3 : W3.ownsRow w2.heap.size 9 1 (.slice none 0 0) 0 [] := World.ownsRow_nil _ _ _ _
      have B3 : Below w2.heap.size w2 W3 := by rw [hW3]; exact Below.new _ _
      have HW3 := Lib.hid hW3
      have X3 := Lib.hid x3
      have R3 := Lib.hid r3
      have X0' := Lib.hid (boxed_later x0 B3)
      have X1' := Lib.hid (boxed_later x1 B3)
      have X2' := Lib.hid (boxed_later x2 B3)
      have hne1 : ¬ w.heap.size + 1 = w2.heap.size := by omega
      have hne2 : ¬ w.heap.size + 1 = w2.heap.size + 1 := by omega
      have hbz := B2.size
      clear x0 x1 x2 x3 r3 hW3 b1 b2 b12 y1
      go_wp2_with fail
      rw [← HW3.out]
      clear k0 k1
      go_loopw [8, 9, 10, 31] (fun _ _ _ s wr => ∃ (i : Nat) (pp : Option Addr) (cc : Nat), i ≤ G.length ∧ s = .int .i64 (i : Int) ∧ Hid (CompTo H G i) ∧ Boxed wr (w2.heap.size) 27 (.slice pp i cc) ∧ wr.ownsRow w2.heap.size 9 1 (.slice pp i cc) i (((compL H (G.take i)).map bt).map Value.string) ∧ Boxed wr w.heap.size 27 (.slice (some ⟨p, 0, none⟩) H.length cap) ∧ Boxed wr (w.heap.size + 1) 27 (.slice (some ⟨q, 0, none⟩) G.length cap2) ∧ Boxed wr (w.heap.size + 1 + 1) 27 (.slice none 0 0) ∧ Below w2.heap.size w2 wr) (fun _ _ _ s _ => G.length - (intOf s).toNat)
      case atStart => exact ⟨0, none, 0, Nat.zero_le _, rfl, Lib.hid (CompTo.zero _ _), X3.out, R3.out, X0'.out, X1'.out, X2'.out, B3⟩
      case round =>
        obtain ⟨i, pp, cc, hi, rfl, HU, x3, own, x0, x1, x2, hB⟩ := hrel
        have BW := B2.then hB
        have k0 := x0.cell
        have k1 := x1.cell
        have hbw := hB.size
        by_cases hpi : i < G.length
        · have kc : wr.cell? ⟨q, i, none⟩ = some (.string (bt (G[i]'hpi))) := by rw [(bcell BW).1 q i hq]; exact CG.out i hpi
          have hic : i < cap2 := by omega
          obtain ⟨s12, sw, sf⟩ := G1.out.im i hpi
          have hl1 := lets_of sw sf
          rw [lt_bt] at hl1
          have hl2 := lets_len HLL.out hl1
          have hl12 : (G[i]'hpi).length ≤ 12 := s12
          have hil := imgOf_len G0.out hl2
          have oH := OO.out.below hB
          have ci := fun W h => iterateOf_any B0 (.slice (some ⟨p, 0, none⟩) H.length cap) H (G[i]'hpi) (bt (G[i]'hpi)) 1 W h G0.out rfl hl2 (by omega) (by omega)
          by_cases hx : (imgOf H (G[i]'hpi)).length ≤ 12
          · rw [itr_one (show ¬ 60 < (imgOf H (G[i]'hpi)).length by omega)] at ci
            simp only [itT, Option.isSome_some] at ci
            have hsn : ((compL H (G.take i)).map bt).map Value.string ++ [Value.string (bt (imgOf H (G[i]'hpi)))] = ((compL H (G.take (i + 1))).map bt).map Value.string := by
              rw [← comp_snoc H G i hpi, List.map_append]
              rfl
            have HSN := Lib.hid hsn
            have HU2 := Lib.hid (HU.out.succ hpi hx)
            have hys : (bt (imgOf H (G[i]'hpi))).size ≤ 12 := hx
            clear hsn
            generalize bt (imgOf H (G[i]'hpi)) = y at *
            generalize bt (G[i]'hpi) = z at *
            have KC := Lib.hid kc
            have CI := Lib.hid ci
            have OWN := Lib.hid own
            clear ci sw sf hl1 hl2 hil own
            go_wp2_with fail
            refine (CI.out _ oH).mono ?_
            rintro e w5 ⟨rfl, b5⟩
            have x0 := boxed_later x0 b5
            have x1 := boxed_later x1 b5
            have x2 := boxed_later x2 b5
            have x3 := boxed_later x3 b5
            have own := own_below OWN.out b5
            have hB5 := hB.then b5
            have x0a := (x0.alloc (.cells #[.string y] 9))
            have x1a := (x1.alloc (.cells #[.string y] 9))
            have x2a := (x2.alloc (.cells #[.string y] 9))
            have x3a := (x3.alloc (.cells #[.string y] 9))
            have OWN5 := Lib.hid own
            have X0A := Lib.hid x0a
            have X1A := Lib.hid x1a
            have X2A := Lib.hid x2a
            have X3A := Lib.hid x3a
            have k3 := x3.cell
            have l3 := x3.lt
            have hb5 := hB5.size
            clear own x0 x1 x2 x3 x0a x1a x2a x3a k0 k1
            go_wp2_with (at_builtin; refine wpList_append_own _ rfl _ _ 22 rfl w2.heap.size 9 i0 (.string ⟨#[]⟩) 1 16 Try.underlying22 hi0 hz0 hz1 hz2 rfl (by decide) _ _ _ rfl (OWN5.out.alloc _) ⟨_, 0, none⟩ 1 1 [.string y] rfl rfl (cell_new _ _ _) (by intro u hu; simp at hu; subst hu; rfl) (by unfold maxLen; omega) (by omega) (by simp; omega) ?_; intro v' w6 hown' hgrow _; obtain ⟨pp2, cc2, rfl⟩ := own_sliceV hown'; have y3 := X3A.out.kept hgrow (X3A.out.not_row (by decide) (OWN5.out.alloc _)); have k6 := y3.cell; have f6 := y3.frozen)
            have y0 := X0A.out.kept hgrow (X0A.out.not_row (by decide) (OWN5.out.alloc _))
            have y1 := X1A.out.kept hgrow (X1A.out.not_row (by decide) (OWN5.out.alloc _))
            have y2 := X2A.out.kept hgrow (X2A.out.not_row (by decide) (OWN5.out.alloc _))
            have z3 := y3.set (.slice pp2 (i + 1) cc2)
            have z0 := y0.other (B' := w2.heap.size) (by omega) (.slice pp2 (i + 1) cc2)
            have z1 := y1.other (B' := w2.heap.size) (by omega) (.slice pp2 (i + 1) cc2)
            have z2 := y2.other (B' := w2.heap.size) (by omega) (.slice pp2 (i + 1) cc2)
            have zo := World.ownsRow.kept hown' (grownBy_setCell' _ (w2.heap.size) (.slice pp2 (i + 1) cc2)) (.inr (fun e => y3.not_row (by decide) hown' e.symm))
            have zB : Below w2.heap.size w2 (w6.setCell ⟨w2.heap.size, 0, none⟩ (.slice pp2 (i + 1) cc2)) := ((hB5.alloc hb5 _).grown hgrow (by simp; omega) (fun k hk => (OWN5.out.lt k hk).1)).setCell (p := ⟨w2.heap.size, 0, none⟩) (by show _ ≤ w2.heap.size; omega) _
            have Z0 := Lib.hid z0
            have Z1 := Lib.hid z1
            have Z2 := Lib.hid z2
            have Z3 := Lib.hid z3
            have ZO := Lib.hid zo
            have ZB := Lib.hid zB
            clear y0 y1 y2 y3 z0 z1 z2 z3 zo zB hown' hgrow
            go_wp2_with fail
            go_roundw
            case rel => exact ⟨i + 1, pp2, cc2, by omega, by go_num, HU2, Z3.out, by rw [← HSN.out]; exact ZO.out, Z0.out, Z1.out, Z2.out, ZB.out⟩
            case measure => simp [intOf]; omega
          · have HV := Lib.hid (HL3.out i hpi hx)
            by_cases hx2 : 60 < (imgOf H (G[i]'hpi)).length
            · rw [itr_long (show 60 < (imgOf H (G[i]'hpi)).length by omega)] at ci
              simp only [itT, Option.isSome_none] at ci
              generalize bt (imgOf H (G[i]'hpi)) = y at *
              generalize bt (G[i]'hpi) = z at *
              have KC := Lib.hid kc
              have CI := Lib.hid ci
              have OWN := Lib.hid own
              clear ci sw sf hl1 hl2 hil own
              go_wp2_with fail
              refine (CI.out _ oH).mono ?_
              rintro e w5 ⟨rfl, b5⟩
              have x0 := boxed_later x0 b5
              have x1 := boxed_later x1 b5
              have x2 := boxed_later x2 b5
              have x3 := boxed_later x3 b5
              have own := own_below OWN.out b5
              have hB5 := hB.then b5
              have YY := Lib.hid (x2.set (.slice none 0 0))
              have BB := Lib.hid ((B2.then hB5).setCell (p := ⟨w.heap.size + 1 + 1, 0, none⟩) (by show _ ≤ w.heap.size + 1 + 1; omega) (.slice none 0 0))
              have k2 := x2.cell
              have f2 := x2.frozen
              go_wp2_with fail
              refine bodyPost_ret (v := .tuple #[.agg #[.slice none 0 0], .int .i64 3]) ?_ rfl ?_
              · have hc := YY.out.cell
                simp [results, Try.results25, go_sem, hc]
              · show RetM R.1 R.2 w _ _; rw [HV.out]; exact ⟨none, 0, rfl, OwnS.nil _ _, BB.out⟩
            · rw [itr_one (show ¬ 60 < (imgOf H (G[i]'hpi)).length by omega)] at ci
              simp only [itT, Option.isSome_some] at ci
              have hys : 12 < (bt (imgOf H (G[i]'hpi))).size := by show 12 < (imgOf H (G[i]'hpi)).length; omega
              have hys2 : (bt (imgOf H (G[i]'hpi))).size ≤ 60 := by show (imgOf H (G[i]'hpi)).length ≤ 60; omega
              generalize bt (imgOf H (G[i]'hpi)) = y at *
              generalize bt (G[i]'hpi) = z at *
              have KC := Lib.hid kc
              have CI := Lib.hid ci
              have OWN := Lib.hid own
              clear ci sw sf hl1 hl2 hil own
              go_wp2_with fail
              refine (CI.out _ oH).mono ?_
              rintro e w5 ⟨rfl, b5⟩
              have x0 := boxed_later x0 b5
              have x1 := boxed_later x1 b5
              have x2 := boxed_later x2 b5
              have x3 := boxed_later x3 b5
              have own := own_below OWN.out b5
              have hB5 := hB.then b5
              have YY := Lib.hid (x2.set (.slice none 0 0))
              have BB := Lib.hid ((B2.then hB5).setCell (p := ⟨w.heap.size + 1 + 1, 0, none⟩) (by show _ ≤ w.heap.size + 1 + 1; omega) (.slice none 0 0))
              have k2 := x2.cell
              have f2 := x2.frozen
              go_wp2_with fail
              refine bodyPost_ret (v := .tuple #[.agg #[.slice none 0 0], .int .i64 3]) ?_ rfl ?_
              · have hc := YY.out.cell
                simp [results, Try.results25, go_sem, hc]
              · show RetM R.1 R.2 w _ _; rw [HV.out]; exact ⟨none, 0, rfl, OwnS.nil _ _, BB.out⟩
        · have hie : i = G.length := by omega
          subst hie
          have HV := Lib.hid (HOK.out HU.out)
          rw [List.take_length] at own
          have k3 := x3.cell
          have k2 := x2.cell
          have f2 := x2.frozen
          have zr := x2.set (.slice pp G.length cc)
          have zo := World.ownsRow.kept own (grownBy_setCell' _ (w.heap.size + 1 + 1) (.slice pp G.length cc)) (.inr (fun e => x2.not_row (by decide) own e.symm))
          have zB := BW.setCell (p := ⟨w.heap.size + 1 + 1, 0, none⟩) (by show _ ≤ w.heap.size + 1 + 1; omega) (.slice pp G.length cc)
          have ZR := Lib.hid zr
          have ZO := Lib.hid zo
          have ZB := Lib.hid zB
          clear own x0 x1 x2 x3 zr zo zB
          go_wp2_with fail
          refine bodyPost_ret (v := .tuple #[.agg #[.slice pp G.length cc], .int .i64 0]) ?_ rfl ?_
          · have hc := ZR.out.cell
            simp [results, Try.results25, go_sem, hc]
          · show RetM R.1 R.2 w _ _
            rw [HV.out]
            have hlen : (compL H G).length = G.length := by simp [compL]
            refine ⟨pp, cc, by rw [hlen], ?_, ZB.out⟩
            rw [hlen]
            have := own_base ZO.out (B' := w.heap.size) hbz
            unfold OwnS
            rw [List.length_map, hlen]
            exact this
    · rw [compR_out ⟨g0, g1⟩ hl]
      have hln : ((H.length : Int) != (G.length : Int)) = true := by simp; omega
      clear c0 c1 cellG cellH g0 g1 hW0 x0 x1 x2 o0 o1 h0 h1 hl
      go_enter Try.func25, Try.ntmps25
      go_wp2_with fail
      rw [← HW0.out]
      refine (C0.out _ O0.out).mono ?_
      rintro e w1 ⟨rfl, b1⟩
      have y1 := (boxed_later X1.out b1).cell
      go_wp2_with fail
      refine (C1.out _ (O1.out.below b1)).mono ?_
      rintro e w2 ⟨rfl, b2⟩
      have b12 := b1.then b2
      have k0 := (boxed_later X0.out b12).cell
      have k1 := (boxed_later X1.out b12).cell
      have x2 := boxed_later X2.out b12
      have B2 := BA0.then b12
      have YY := Lib.hid (x2.set (.slice none 0 0))
      have BB := Lib.hid (B2.setCell (p := ⟨w.heap.size + 1 + 1, 0, none⟩) (by show _ ≤ w.heap.size + 1 + 1; omega) (.slice none 0 0))
      have k2 := x2.cell
      have f2 := x2.frozen
      go_wp2_with fail
      refine bodyPost_ret (v := .tuple #[.agg #[.slice none 0 0], .int .i64 2]) ?_ rfl ?_
      · have hc := YY.out.cell
        simp [results, Try.results25, go_sem, hc]
      · show RetM [] 2 w _ _; exact ⟨none, 0, rfl, OwnS.nil _ _, BB.out⟩
  · rw [compR_bad gg]
    obtain ⟨p, cap, hv0⟩ := ownS_value h0
    obtain ⟨q, cap2, hv1⟩ := ownS_value h1
    rw [List.length_map] at hv0 hv1
    subst hv0 hv1
    obtain ⟨W0, hW0⟩ : ∃ W0 : World, W0 = ((w.alloc (.cells #[(.slice p H.length cap)] 27)).alloc (.cells #[(.slice q G.length cap2)] 27)).alloc (.cells #[.slice none 0 0] 27) := ⟨_, rfl⟩
    have x0 : Boxed W0 w.heap.size 27 (.slice p H.length cap) := by rw [hW0]; exact ((Boxed.new _ _ _).alloc _).alloc _
    have x1 : Boxed W0 (w.heap.size + 1) 27 (.slice q G.length cap2) := by
      have := Boxed.new (w.alloc (.cells #[(.slice p H.length cap)] 27)) 27 (.slice q G.length cap2)
      rw [World.size_alloc] at this
      rw [hW0]
      exact this.alloc _
    have x2 : Boxed W0 (w.heap.size + 1 + 1) 27 (.slice none 0 0) := by
      have := Boxed.new ((w.alloc (.cells #[(.slice p H.length cap)] 27)).alloc (.cells #[(.slice q G.length cap2)] 27)) 27 (.slice none 0 0)
      simp only [World.size_alloc] at this
      rw [hW0]
      exact this
    have BA0 : Below w.heap.size w W0 := by rw [hW0]; exact ((Below.new _ _).alloc (by simp) _).alloc (by simp; omega) _
    have o0 := h0.below BA0
    have o1 := h1.below BA0
    have HW0 := Lib.hid hW0
    have X0 := Lib.hid x0
    have X1 := Lib.hid x1
    have X2 := Lib.hid x2
    have O0 := Lib.hid o0
    have O1 := Lib.hid o1
    have hw0 := x2.lt
    by_cases g0 : Mor H
    · have c0 := fun W h => isMor_yes B0 (.slice p H.length cap) H W h g0
      have c1 := fun W h => isMor_no B1 (.slice q G.length cap2) G W h t1 (fun k => gg ⟨g0, k⟩)
      have C0 := Lib.hid c0
      have C1 := Lib.hid c1
      clear c0 c1 g0 gg hW0 x0 x1 x2 o0 o1 h0 h1
      go_enter Try.func25, Try.ntmps25
      go_wp2_with fail
      rw [← HW0.out]
      refine (C0.out _ O0.out).mono ?_
      rintro e w1 ⟨rfl, b1⟩
      have y1 := (boxed_later X1.out b1).cell
      go_wp2_with fail
      refine (C1.out _ (O1.out.below b1)).mono ?_
      rintro e w2 ⟨rfl, b2⟩
      have b12 := b1.then b2
      have x2 := boxed_later X2.out b12
      have B2 := BA0.then b12
      have YY := Lib.hid (x2.set (.slice none 0 0))
      have BB := Lib.hid (B2.setCell (p := ⟨w.heap.size + 1 + 1, 0, none⟩) (by show _ ≤ w.heap.size + 1 + 1; omega) (.slice none 0 0))
      have k2 := x2.cell
      have f2 := x2.frozen
      go_wp2_with fail
      refine bodyPost_ret (v := .tuple #[.agg #[.slice none 0 0], .int .i64 1]) ?_ rfl ?_
      · have hc := YY.out.cell
        simp [results, Try.results25, go_sem, hc]
      · show RetM [] 1 w _ _; exact ⟨none, 0, rfl, OwnS.nil _ _, BB.out⟩
    · have c0 := fun W h => isMor_no B0 (.slice p H.length cap) H W h t0 g0
      have C0 := Lib.hid c0
      clear c0 g0 gg hW0 x0 x1 x2 o0 o1 h0 h1
      go_enter Try.func25, Try.ntmps25
      go_wp2_with fail
      rw [← HW0.out]
      refine (C0.out _ O0.out).mono ?_
      rintro e w2 ⟨rfl, b2⟩
      have x2 := boxed_later X2.out b2
      have B2 := BA0.then b2
      have YY := Lib.hid (x2.set (.slice none 0 0))
      have BB := Lib.hid (B2.setCell (p := ⟨w.heap.size + 1 + 1, 0, none⟩) (by show _ ≤ w.heap.size + 1 + 1; omega) (.slice none 0 0))
      have k2 := x2.cell
      have f2 := x2.frozen
      go_wp2_with fail
      refine bodyPost_ret (v := .tuple #[.agg #[.slice none 0 0], .int .i64 1]) ?_ rfl ?_
      · have hc := YY.out.cell
        simp [results, Try.results25, go_sem, hc]
      · show RetM [] 1 w _ _; exact ⟨none, 0, rfl, OwnS.nil _ _, BB.out⟩

end Go.Proofs.Ytjneebhbgogppaa
