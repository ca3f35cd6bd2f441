/- For every two structs of texts: the program and the model agree on the composed morphism, images and code; the structs are left as they were, and the answer owns its memory. No condition. -/
import Derived.Test.YtjneebhbgogppaaCompS
import Derived.Test.YtjneebhbgogppaaCompI
import Derived.Test.YtjneebhbgogppaaRetM
import Derived.RangeFuncBox
import Derived.Deep.RegionHeld3
import Derived.Deep.Cut
import Derived.Test.YtjneebhbgogppaaRows
import Derived.WalkKit
import Derived.ProofKit
import Derived.OpenShut
import Derived.ShutString
import Derived.ChangeOld
import Derived.Below
namespace Go.Proofs.Ytjneebhbgogppaa.fnExactComposeMorphisms
open Go.ChangeShapes Go.WideShapes Go.ChangeAt Go.RowKit
open Go.ChangeMaps (open_string shut_string)
set_option linter.unusedVariables false
set_option maxRecDepth 100000 in
set_option maxHeartbeats 8000000 in
theorem walk (c0 : Option Addr) (len0 cap0 : Nat) (z0 : List ByteArray) (c1 : Option Addr) (len1 cap1 : Nat) (z1 : List ByteArray) (w : World) (w0 : IsRowS w c0 len0 cap0 z0) (w1 : IsRowS w c1 len1 cap1 z1) :
    Calls Try.prog 6 #[.agg #[.slice c0 len0 cap0], .agg #[.slice c1 len1 cap1]] w fun e w' => e = .returned (.bool true) ∧ Below w.heap.size w w' := by
  have wf0 := Lib.hid w0
  clear w0
  have wf1 := Lib.hid w1
  clear w1
  go_enter Try.func6, Try.ntmps6
  go_wp2_with fail
  obtain ⟨wa, hwa, Ba, bxa0, bxa1⟩ : ∃ wa : World, wa = ((w.alloc (.cells #[(.slice c0 len0 cap0)] 24)).alloc (.cells #[(.slice c1 len1 cap1)] 24)) ∧ Below w.heap.size w wa ∧ Boxed wa (w.heap.size) 24 (.slice c0 len0 cap0) ∧ Boxed wa (w.heap.size + 1) 24 (.slice c1 len1 cap1) := ⟨_, rfl, (Below.new _ _).alloc (by simp) _, (Boxed.new _ _ _).alloc _, (by have := Boxed.new (w.alloc (.cells #[(.slice c0 len0 cap0)] 24)) 24 (.slice c1 len1 cap1); rw [World.size_alloc] at this; exact this)⟩
  rw [← hwa]
  clear hwa
  refine (szM_any c0 len0 cap0 z0 1048576 _ (wf0.out.below Ba) (by omega) (by omega)).mono ?_
  rintro e x1 ⟨r0, rfl, b, hr0⟩
  rcases hr0 with rfl | ⟨ra0, rb0, rc0⟩
  · go_wp2
    go_ret
    exact ⟨rfl, Ba.then b⟩
  have hn0 : ¬ r0 < 0 := by omega
  have BW1 := Ba.then b
  replace bxa0 := boxed_later bxa0 b
  replace bxa1 := boxed_later bxa1 b
  clear b Ba
  have kbxa0 := bxa0.cell
  have nbxa0 : ¬ (w.heap.size) = x1.heap.size := by have := bxa0.lt; omega
  have kbxa1 := bxa1.cell
  have nbxa1 : ¬ (w.heap.size + 1) = x1.heap.size := by have := bxa1.lt; omega
  go_wp2_with fail
  clear kbxa0 nbxa0 kbxa1 nbxa1
  refine (szM_any c1 len1 cap1 z1 r0 _ (wf1.out.below BW1) (by omega) (by omega)).mono ?_
  rintro e x2 ⟨r1, rfl, b, hr1⟩
  rcases hr1 with rfl | ⟨ra1, rb1, rc1⟩
  · go_wp2
    go_ret
    exact ⟨rfl, BW1.then b⟩
  have hn1 : ¬ r1 < 0 := by omega
  have BW2 := BW1.then b
  replace bxa0 := boxed_later bxa0 b
  replace bxa1 := boxed_later bxa1 b
  clear b BW1
  have kbxa0 := bxa0.cell
  have nbxa0 : ¬ (w.heap.size) = x2.heap.size := by have := bxa0.lt; omega
  have kbxa1 := bxa1.cell
  have nbxa1 : ¬ (w.heap.size + 1) = x2.heap.size := by have := bxa1.lt; omega
  go_wp2_with fail
  clear kbxa0 nbxa0 kbxa1 nbxa1
  have hl0 : len0 ≤ 1048576 := by omega
  have to0 := fun w' (b : Below w.heap.size w w') => toM_any c0 len0 cap0 z0 w' (wf0.out.below b) hl0
  have tt0 := tot_of (len := len0) (zs := z0) hl0 (fun s hs => by have := rc0 s hs; omega)
  have tl0 := take_lts_le len0 z0
  have hl1 : len1 ≤ 1048576 := by omega
  have to1 := fun w' (b : Below w.heap.size w w') => toM_any c1 len1 cap1 z1 w' (wf1.out.below b) hl1
  have tt1 := tot_of (len := len1) (zs := z1) hl1 (fun s hs => by have := rc1 s hs; omega)
  have tl1 := take_lts_le len1 z1
  have cs := fun B0q v0q B1q v1q w' h0q h1q => spec_ComposeMorphisms B0q v0q ((z0.take len0).map lts) B1q v1q ((z1.take len1).map lts) w' h0q tt0 h1q tt1
  have ci := fun B0q v0q B1q v1q w' h0q h1q => impl_ComposeMorphisms B0q v0q ((z0.take len0).map lts) B1q v1q ((z1.take len1).map lts) w' h0q tt0 h1q tt1
  have hlen := compR_len ((z0.take len0).map lts) ((z1.take len1).map lts)
  generalize (compR ((z0.take len0).map lts) ((z1.take len1).map lts)).1 = L at cs ci hlen
  generalize (compR ((z0.take len0).map lts) ((z1.take len1).map lts)).2 = c at cs ci
  generalize ((z0.take len0).map lts) = I0 at cs ci to0 tt0 tl0
  have TO0 := Lib.hid to0
  have hI0 : I0.length ≤ len0 := tl0
  clear to0 tl0 tt0
  generalize ((z1.take len1).map lts) = I1 at cs ci to1 tt1 tl1
  have TO1 := Lib.hid to1
  have hI1 : I1.length ≤ len1 := tl1
  clear to1 tl1 tt1
  have CS := Lib.hid cs
  have CI := Lib.hid ci
  clear cs ci
  go_cut [6, 7] from 27 (fun sa sb wc => ∃ (yw : World) (bq : Nat) (pv : Option Addr) (cv Bv : Nat), yw = wc ∧ sa = .pointer (some ⟨bq, 0, none⟩) ∧ sb = .int .i64 c ∧ Boxed wc bq 27 (.slice pv L.length cv) ∧ OwnS wc Bv (.slice pv L.length cv) (L.map bt) ∧ Below (World.heap x2).size x2 wc)
  case first => as_aux_lemma =>
    have kbxa0 := bxa0.cell
    have kbxa1 := bxa1.cell
    have N0 := World.new_ne _ _ kbxa0
    have N1 := World.new_ne _ _ kbxa1
    have CUR := BW2
    have lbxa0 := bxa0.lt
    have lbxa1 := bxa1.lt
    go_region_held3 (fun w' => w'.cell? ⟨(w.heap.size), 0, none⟩ = some (.slice c0 len0 cap0) ∧ w'.cell? ⟨(w.heap.size + 1), 0, none⟩ = some (.slice c1 len1 cap1)) (first | ((try dsimp only); refine ⟨?_, ?_⟩ <;> (first | assumption | go_keep | (simp [*, World.cell?_alloc_some]; done) | (rw [World.cell?_setCell_far _ _ _ _ (by have z0 := bx3.size; have z1 := bx4.size; dsimp only; omega)]; assumption))) | go_keep) (first | (go_at_call 17; (with_reducible refine (TO0.out _ (by first | (with_reducible exact CUR.drew) | (with_reducible exact CUR.drew.alloc CUR.drew.size _) | exact CUR.drew.alloc CUR.drew.size _ | (exact (CUR.drew.alloc (by have := (CUR.drew).size; simp at this ⊢; omega) _)) | (with_reducible exact (BW2.alloc BW2.size _).drew) | exact (BW2.alloc BW2.size _).drew)).mono ?_); rintro e x3 ⟨px3, cx3, rfl, ox3, bx3x⟩; have bx3 : Below (World.heap x2).size x2 x3 := (by first | (with_reducible exact (Below.refl _ _).drew.then bx3x) | (with_reducible exact (Below.refl _ _).drew.then ((Below.new _ _).then bx3x)) | exact (Below.refl _ _).drew.then ((Below.new _ _).then bx3x) | exact (((Below.refl _ _).alloc (Nat.le_refl _) _).drew).then bx3x); (first | (have bq : Boxed x3 (World.heap x2).size 27 (.slice none 0 0) := (bx3x.block _ (by simp; done)).trans (boxed_alone (W := x2))) | skip); have kbxa0_x3 := (boxed_later bxa0 bx3).cell; have kbxa1_x3 := (boxed_later bxa1 bx3).cell) | (go_at_call 17; (with_reducible refine (TO1.out _ (by first | (with_reducible exact (CUR.then bx3)) | (with_reducible exact (CUR.then bx3).alloc (CUR.then bx3).size _) | exact (CUR.then bx3).alloc (CUR.then bx3).size _ | (exact ((CUR.then bx3).alloc (by have := ((CUR.then bx3)).size; simp at this ⊢; omega) _)))).mono ?_); rintro e x4 ⟨px4, cx4, rfl, ox4, bx4x⟩; have bx4 : Below (World.heap x2).size x2 x4 := (by first | (with_reducible exact bx3.then bx4x) | (with_reducible exact bx3.then ((Below.new _ _).then bx4x)) | exact bx3.then ((Below.new _ _).then bx4x)); (first | (with_reducible have bq := boxed_later bq bx4x) | (with_reducible have bq := boxed_later (boxed_alone (W := x3) (t := 27) (v := .slice none 0 0)) bx4x) | skip); (first | (with_reducible have ox3 := ox3.below bx4x) | (with_reducible have ox3 := ox3.below ((Below.new _ _).then bx4x))); have kbxa0_x4 := (boxed_later bxa0 bx4).cell; have kbxa1_x4 := (boxed_later bxa1 bx4).cell) | (go_at_call 24; (with_reducible refine (CS.out _ (Value.slice px3 I0.length cx3) _ (Value.slice px4 I1.length cx4) _ (by first | (with_reducible exact ox3) | (with_reducible exact ox3.below (Below.new _ _))) (by first | (with_reducible exact ox4) | (with_reducible exact ox4.below (Below.new _ _)))).mono ?_); rintro e x5 ⟨pw, cw, rfl, ow, bx5x⟩; have bx5 : Below (World.heap x2).size x2 x5 := (by first | (with_reducible exact bx4.then bx5x) | (with_reducible exact bx4.then ((Below.new _ _).then bx5x))); (first | (with_reducible have bq := boxed_later bq bx5x) | (with_reducible have bq := boxed_later (boxed_alone (W := x4) (t := 27) (v := .slice none 0 0)) bx5x) | skip); (try (have kq := bq.cell; have fq := bq.frozen; have lq := bq.lt)); have kbxa0_x5 := (boxed_later bxa0 bx5).cell; have kbxa1_x5 := (boxed_later bxa1 bx5).cell))
    all_goals (try go_wp2_with fail)
    all_goals go_meet
    all_goals first | exact ⟨_, _, pw, cw, _, rfl, rfl, rfl, Boxed.new _ _ _, ow.below (Below.new _ _), bx5.alloc bx5.size _⟩ | exact ⟨_, _, pw, cw, _, rfl, rfl, rfl, bq.set _, World.ownsRow.kept ow (grownBy_setCell' _ _ _) (.inr (fun e => bq.not_row (by decide) ow e.symm)), bx5.setCell (by have z0 := bx3.size; have z1 := bx4.size; dsimp only; omega) _⟩
  obtain ⟨yw, bqw, pw, cw, Bww, rfl, rfl, rfl, byw, ow, b⟩ := hcut
  have BW3 := BW2.then b
  replace bxa0 := boxed_later bxa0 b
  replace bxa1 := boxed_later bxa1 b
  clear b BW2
  have C0 : Below yw.heap.size yw yw := Below.refl _ _
  have OW := Lib.hid ow
  clear ow
  have kbxa0 := bxa0.cell
  have nbxa0 : ¬ (w.heap.size) = yw.heap.size := by have := bxa0.lt; omega
  have kbxa1 := bxa1.cell
  have nbxa1 : ¬ (w.heap.size + 1) = yw.heap.size := by have := bxa1.lt; omega
  have kbyw := byw.cell
  have nbyw : ¬ bqw = yw.heap.size := by have := byw.lt; omega
  go_wp2_with fail
  clear kbxa0 nbxa0 kbxa1 nbxa1 kbyw nbyw
  have hb0 := BW3.size
  have hc0 := C0.size
  refine (TO0.out _ BW3).mono ?_
  rintro e x6 ⟨px6, cx6, rfl, ox6, b⟩
  have CW1 := C0.then b
  clear C0
  have BW4 := BW3.then b
  replace bxa0 := boxed_later bxa0 b
  replace bxa1 := boxed_later bxa1 b
  replace byw := boxed_later byw b
  clear b BW3
  have abxa0 := (Boxed.alloc bxa0 (.cells #[(Value.slice px6 I0.length cx6)] 27)).cell
  have abxa1 := (Boxed.alloc bxa1 (.cells #[(Value.slice px6 I0.length cx6)] 27)).cell
  have abyw := (Boxed.alloc byw (.cells #[(Value.slice px6 I0.length cx6)] 27)).cell
  have kbxa0 := bxa0.cell
  have nbxa0 : ¬ (w.heap.size) = x6.heap.size := by have := bxa0.lt; omega
  have kbxa1 := bxa1.cell
  have nbxa1 : ¬ (w.heap.size + 1) = x6.heap.size := by have := bxa1.lt; omega
  have kbyw := byw.cell
  have nbyw : ¬ bqw = x6.heap.size := by have := byw.lt; omega
  go_wp2_with fail
  clear kbxa0 nbxa0 kbxa1 nbxa1 kbyw nbyw
  clear abxa0 abxa1 abyw
  obtain ⟨yx6, hy, byx6, b⟩ : ∃ y : World, y = x6.alloc (.cells #[(Value.slice px6 I0.length cx6)] 27) ∧ Boxed y x6.heap.size 27 (Value.slice px6 I0.length cx6) ∧ Below x6.heap.size x6 y := ⟨_, rfl, Boxed.new _ _ _, Below.new _ _⟩
  rw [← hy]
  clear hy
  have CW2 := CW1.then b
  clear CW1
  have BW5 := BW4.then b
  replace ox6 := ox6.below b
  replace bxa0 := boxed_later bxa0 b
  replace bxa1 := boxed_later bxa1 b
  replace byw := boxed_later byw b
  clear b BW4
  have lxx6_1 := fun k (hk : (Value.slice px6 I0.length cx6).ownBlock = some k) => (ox6.lt k hk).2
  have hb1 := BW5.size
  have hc1 := CW2.size
  refine (TO1.out _ BW5).mono ?_
  rintro e x7 ⟨px7, cx7, rfl, ox7, b⟩
  have CW3 := CW2.then b
  clear CW2
  have BW6 := BW5.then b
  replace ox6 := ox6.below b
  replace bxa0 := boxed_later bxa0 b
  replace bxa1 := boxed_later bxa1 b
  replace byw := boxed_later byw b
  replace byx6 := boxed_later byx6 b
  clear b BW5
  have abxa0 := (Boxed.alloc bxa0 (.cells #[(Value.slice px7 I1.length cx7)] 27)).cell
  have abxa1 := (Boxed.alloc bxa1 (.cells #[(Value.slice px7 I1.length cx7)] 27)).cell
  have abyw := (Boxed.alloc byw (.cells #[(Value.slice px7 I1.length cx7)] 27)).cell
  have abyx6 := (Boxed.alloc byx6 (.cells #[(Value.slice px7 I1.length cx7)] 27)).cell
  have kbxa0 := bxa0.cell
  have nbxa0 : ¬ (w.heap.size) = x7.heap.size := by have := bxa0.lt; omega
  have kbxa1 := bxa1.cell
  have nbxa1 : ¬ (w.heap.size + 1) = x7.heap.size := by have := bxa1.lt; omega
  have kbyw := byw.cell
  have nbyw : ¬ bqw = x7.heap.size := by have := byw.lt; omega
  have kbyx6 := byx6.cell
  have nbyx6 : ¬ x6.heap.size = x7.heap.size := by have := byx6.lt; omega
  go_wp2_with fail
  clear kbxa0 nbxa0 kbxa1 nbxa1 kbyw nbyw kbyx6 nbyx6
  clear abxa0 abxa1 abyw abyx6
  obtain ⟨yx7, hy, byx7, b⟩ : ∃ y : World, y = x7.alloc (.cells #[(Value.slice px7 I1.length cx7)] 27) ∧ Boxed y x7.heap.size 27 (Value.slice px7 I1.length cx7) ∧ Below x7.heap.size x7 y := ⟨_, rfl, Boxed.new _ _ _, Below.new _ _⟩
  rw [← hy]
  clear hy
  have CW4 := CW3.then b
  clear CW3
  have BW7 := BW6.then b
  replace ox6 := ox6.below b
  replace ox7 := ox7.below b
  replace bxa0 := boxed_later bxa0 b
  replace bxa1 := boxed_later bxa1 b
  replace byw := boxed_later byw b
  replace byx6 := boxed_later byx6 b
  clear b BW6
  have lgx6 := fun k (hk : (Value.slice px6 I0.length cx6).ownBlock = some k) => (ox6.lt k hk).2
  have lgx7 := fun k (hk : (Value.slice px7 I1.length cx7).ownBlock = some k) => (ox7.lt k hk).2
  have hbg := BW7.size
  have hcg := CW4.size
  refine (CI.out _ (Value.slice px6 I0.length cx6) _ (Value.slice px7 I1.length cx7) _ ox6 ox7).mono ?_
  rintro e x8 ⟨pg, cg, rfl, og, b⟩
  have CW5 := CW4.then b
  clear CW4
  have BW8 := BW7.then b
  replace ox6 := ox6.below b
  replace ox7 := ox7.below b
  replace bxa0 := boxed_later bxa0 b
  replace bxa1 := boxed_later bxa1 b
  replace byw := boxed_later byw b
  replace byx6 := boxed_later byx6 b
  replace byx7 := boxed_later byx7 b
  clear b BW7
  have abxa0 := (Boxed.alloc bxa0 (.cells #[(Value.slice pg L.length cg)] 27)).cell
  have abxa1 := (Boxed.alloc bxa1 (.cells #[(Value.slice pg L.length cg)] 27)).cell
  have abyw := (Boxed.alloc byw (.cells #[(Value.slice pg L.length cg)] 27)).cell
  have abyx6 := (Boxed.alloc byx6 (.cells #[(Value.slice pg L.length cg)] 27)).cell
  have abyx7 := (Boxed.alloc byx7 (.cells #[(Value.slice pg L.length cg)] 27)).cell
  have kbxa0 := bxa0.cell
  have nbxa0 : ¬ (w.heap.size) = x8.heap.size := by have := bxa0.lt; omega
  have kbxa1 := bxa1.cell
  have nbxa1 : ¬ (w.heap.size + 1) = x8.heap.size := by have := bxa1.lt; omega
  have kbyw := byw.cell
  have nbyw : ¬ bqw = x8.heap.size := by have := byw.lt; omega
  have kbyx6 := byx6.cell
  have nbyx6 : ¬ x6.heap.size = x8.heap.size := by have := byx6.lt; omega
  have kbyx7 := byx7.cell
  have nbyx7 : ¬ x7.heap.size = x8.heap.size := by have := byx7.lt; omega
  go_wp2_with fail
  clear kbxa0 nbxa0 kbxa1 nbxa1 kbyw nbyw kbyx6 nbyx6 kbyx7 nbyx7
  clear abxa0 abxa1 abyw abyx6 abyx7
  obtain ⟨yg, hy, byx8, b⟩ : ∃ y : World, y = x8.alloc (.cells #[(Value.slice pg L.length cg)] 27) ∧ Boxed y x8.heap.size 27 (Value.slice pg L.length cg) ∧ Below x8.heap.size x8 y := ⟨_, rfl, Boxed.new _ _ _, Below.new _ _⟩
  rw [← hy]
  clear hy
  have CW6 := CW5.then b
  clear CW5
  have BW9 := BW8.then b
  replace ox6 := ox6.below b
  replace ox7 := ox7.below b
  replace og := og.below b
  replace bxa0 := boxed_later bxa0 b
  replace bxa1 := boxed_later bxa1 b
  replace byw := boxed_later byw b
  replace byx6 := boxed_later byx6 b
  replace byx7 := boxed_later byx7 b
  clear b BW8
  refine (eqM_yes _ _ (Value.slice pg L.length cg) (Value.slice pw L.length cw) (L.map bt) _ og (OW.out.below CW6)).mono ?_
  rintro e x9 ⟨rfl, b⟩
  have CW7 := CW6.then b
  clear CW6
  have BW10 := BW9.then b
  replace ox6 := ox6.below b
  replace ox7 := ox7.below b
  replace og := og.below b
  replace bxa0 := boxed_later bxa0 b
  replace bxa1 := boxed_later bxa1 b
  replace byw := boxed_later byw b
  replace byx6 := boxed_later byx6 b
  replace byx7 := boxed_later byx7 b
  replace byx8 := boxed_later byx8 b
  clear b BW9
  have kbxa0 := bxa0.cell
  have nbxa0 : ¬ (w.heap.size) = x9.heap.size := by have := bxa0.lt; omega
  have kbxa1 := bxa1.cell
  have nbxa1 : ¬ (w.heap.size + 1) = x9.heap.size := by have := bxa1.lt; omega
  have kbyw := byw.cell
  have nbyw : ¬ bqw = x9.heap.size := by have := byw.lt; omega
  have kbyx6 := byx6.cell
  have nbyx6 : ¬ x6.heap.size = x9.heap.size := by have := byx6.lt; omega
  have kbyx7 := byx7.cell
  have nbyx7 : ¬ x7.heap.size = x9.heap.size := by have := byx7.lt; omega
  have kbyx8 := byx8.cell
  have nbyx8 : ¬ x8.heap.size = x9.heap.size := by have := byx8.lt; omega
  go_wp2_with fail
  clear kbxa0 nbxa0 kbxa1 nbxa1 kbyw nbyw kbyx6 nbyx6 kbyx7 nbyx7 kbyx8 nbyx8
  have kbxa0 := bxa0.cell
  have nbxa0 : ¬ (w.heap.size) = x9.heap.size := by have := bxa0.lt; omega
  have kbxa1 := bxa1.cell
  have nbxa1 : ¬ (w.heap.size + 1) = x9.heap.size := by have := bxa1.lt; omega
  have kbyw := byw.cell
  have nbyw : ¬ bqw = x9.heap.size := by have := byw.lt; omega
  have kbyx6 := byx6.cell
  have nbyx6 : ¬ x6.heap.size = x9.heap.size := by have := byx6.lt; omega
  have kbyx7 := byx7.cell
  have nbyx7 : ¬ x7.heap.size = x9.heap.size := by have := byx7.lt; omega
  have kbyx8 := byx8.cell
  have nbyx8 : ¬ x8.heap.size = x9.heap.size := by have := byx8.lt; omega
  have CUR := BW10
  go_region_held3 (fun w' => w'.cell? ⟨(w.heap.size), 0, none⟩ = some (.slice c0 len0 cap0) ∧ w'.cell? ⟨x6.heap.size, 0, none⟩ = some (Value.slice px6 I0.length cx6)) (go_keep) (first | (go_at_call 17; refine (TO0.out _ (by first | exact CUR | exact CUR.drew | exact CUR.drewN _)).mono ?_; rintro e x10 ⟨px10, cx10, rfl, ox10, b⟩; have b := below_undrew b; have kbxa0_x10 := (boxed_later bxa0 b).cell; have kbyx6_x10 := (boxed_later byx6 b).cell) | (go_at_call 19; refine (eqM_yes _ _ _ _ _ _ (ox6.below b) ox10).mono ?_; rintro e x11 ⟨rfl, b2⟩; have kbxa0_x11 := (boxed_later bxa0 (b.then b2)).cell; have kbyx6_x11 := (boxed_later byx6 (b.then b2)).cell))
  have b3 := b.then b2
  clear b b2 ox10 CUR
  clear kbxa0_x10 kbxa0_x11 kbyx6_x10 kbyx6_x11
  clear kbxa0 nbxa0 kbxa1 nbxa1 kbyw nbyw kbyx6 nbyx6 kbyx7 nbyx7 kbyx8 nbyx8
  have CW8 := CW7.then b3
  clear CW7
  have BW11 := BW10.then b3
  replace ox6 := ox6.below b3
  replace ox7 := ox7.below b3
  replace og := og.below b3
  replace bxa0 := boxed_later bxa0 b3
  replace bxa1 := boxed_later bxa1 b3
  replace byw := boxed_later byw b3
  replace byx6 := boxed_later byx6 b3
  replace byx7 := boxed_later byx7 b3
  replace byx8 := boxed_later byx8 b3
  clear b3 BW10
  have kbxa0 := bxa0.cell
  have nbxa0 : ¬ (w.heap.size) = x11.heap.size := by have := bxa0.lt; omega
  have kbxa1 := bxa1.cell
  have nbxa1 : ¬ (w.heap.size + 1) = x11.heap.size := by have := bxa1.lt; omega
  have kbyw := byw.cell
  have nbyw : ¬ bqw = x11.heap.size := by have := byw.lt; omega
  have kbyx6 := byx6.cell
  have nbyx6 : ¬ x6.heap.size = x11.heap.size := by have := byx6.lt; omega
  have kbyx7 := byx7.cell
  have nbyx7 : ¬ x7.heap.size = x11.heap.size := by have := byx7.lt; omega
  have kbyx8 := byx8.cell
  have nbyx8 : ¬ x8.heap.size = x11.heap.size := by have := byx8.lt; omega
  go_wp2_with fail
  clear kbxa0 nbxa0 kbxa1 nbxa1 kbyw nbyw kbyx6 nbyx6 kbyx7 nbyx7 kbyx8 nbyx8
  have kbxa0 := bxa0.cell
  have nbxa0 : ¬ (w.heap.size) = x11.heap.size := by have := bxa0.lt; omega
  have kbxa1 := bxa1.cell
  have nbxa1 : ¬ (w.heap.size + 1) = x11.heap.size := by have := bxa1.lt; omega
  have kbyw := byw.cell
  have nbyw : ¬ bqw = x11.heap.size := by have := byw.lt; omega
  have kbyx6 := byx6.cell
  have nbyx6 : ¬ x6.heap.size = x11.heap.size := by have := byx6.lt; omega
  have kbyx7 := byx7.cell
  have nbyx7 : ¬ x7.heap.size = x11.heap.size := by have := byx7.lt; omega
  have kbyx8 := byx8.cell
  have nbyx8 : ¬ x8.heap.size = x11.heap.size := by have := byx8.lt; omega
  have CUR := BW11
  go_region_held3 (fun w' => w'.cell? ⟨(w.heap.size + 1), 0, none⟩ = some (.slice c1 len1 cap1) ∧ w'.cell? ⟨x7.heap.size, 0, none⟩ = some (Value.slice px7 I1.length cx7)) (go_keep) (first | (go_at_call 17; refine (TO1.out _ (by first | exact CUR | exact CUR.drew | exact CUR.drewN _)).mono ?_; rintro e x12 ⟨px12, cx12, rfl, ox12, b⟩; have b := below_undrew b; have kbxa1_x12 := (boxed_later bxa1 b).cell; have kbyx7_x12 := (boxed_later byx7 b).cell) | (go_at_call 19; refine (eqM_yes _ _ _ _ _ _ (ox7.below b) ox12).mono ?_; rintro e x13 ⟨rfl, b2⟩; have kbxa1_x13 := (boxed_later bxa1 (b.then b2)).cell; have kbyx7_x13 := (boxed_later byx7 (b.then b2)).cell))
  have b3 := b.then b2
  clear b b2 ox12 CUR
  clear kbxa1_x12 kbxa1_x13 kbyx7_x12 kbyx7_x13
  clear kbxa0 nbxa0 kbxa1 nbxa1 kbyw nbyw kbyx6 nbyx6 kbyx7 nbyx7 kbyx8 nbyx8
  have CW9 := CW8.then b3
  clear CW8
  have BW12 := BW11.then b3
  replace ox6 := ox6.below b3
  replace ox7 := ox7.below b3
  replace og := og.below b3
  replace bxa0 := boxed_later bxa0 b3
  replace bxa1 := boxed_later bxa1 b3
  replace byw := boxed_later byw b3
  replace byx6 := boxed_later byx6 b3
  replace byx7 := boxed_later byx7 b3
  replace byx8 := boxed_later byx8 b3
  clear b3 BW11
  have kbxa0 := bxa0.cell
  have nbxa0 : ¬ (w.heap.size) = x13.heap.size := by have := bxa0.lt; omega
  have kbxa1 := bxa1.cell
  have nbxa1 : ¬ (w.heap.size + 1) = x13.heap.size := by have := bxa1.lt; omega
  have kbyw := byw.cell
  have nbyw : ¬ bqw = x13.heap.size := by have := byw.lt; omega
  have kbyx6 := byx6.cell
  have nbyx6 : ¬ x6.heap.size = x13.heap.size := by have := byx6.lt; omega
  have kbyx7 := byx7.cell
  have nbyx7 : ¬ x7.heap.size = x13.heap.size := by have := byx7.lt; omega
  have kbyx8 := byx8.cell
  have nbyx8 : ¬ x8.heap.size = x13.heap.size := by have := byx8.lt; omega
  go_wp2_with fail
  clear kbxa0 nbxa0 kbxa1 nbxa1 kbyw nbyw kbyx6 nbyx6 kbyx7 nbyx7 kbyx8 nbyx8
  refine (markM _ (Value.slice px6 I0.length cx6) (I0.map bt) _ _ ox6 (by first | omega | (simp; omega)) (by first | omega | (simp; omega)) (by first | omega | (simp; omega) | simp)).mono ?_
  rintro e x14 ⟨rfl, om, g⟩
  have BW13 := below_markedS BW12 ox6 hb0 g
  have CW10 := below_markedS CW9 ox6 hc0 g
  replace og := og.past g lgx6
  replace ox7 := ox7.past g lxx6_1
  replace bxa0 := Boxed.kept bxa0 g (Boxed.not_row bxa0 (by decide) ox6)
  replace bxa1 := Boxed.kept bxa1 g (Boxed.not_row bxa1 (by decide) ox6)
  replace byw := Boxed.kept byw g (Boxed.not_row byw (by decide) ox6)
  replace byx6 := Boxed.kept byx6 g (Boxed.not_row byx6 (by decide) ox6)
  replace byx7 := Boxed.kept byx7 g (Boxed.not_row byx7 (by decide) ox6)
  replace byx8 := Boxed.kept byx8 g (Boxed.not_row byx8 (by decide) ox6)
  clear BW12 CW9 om ox6 g
  have kbxa0 := bxa0.cell
  have nbxa0 : ¬ (w.heap.size) = x14.heap.size := by have := bxa0.lt; omega
  have kbxa1 := bxa1.cell
  have nbxa1 : ¬ (w.heap.size + 1) = x14.heap.size := by have := bxa1.lt; omega
  have kbyw := byw.cell
  have nbyw : ¬ bqw = x14.heap.size := by have := byw.lt; omega
  have kbyx6 := byx6.cell
  have nbyx6 : ¬ x6.heap.size = x14.heap.size := by have := byx6.lt; omega
  have kbyx7 := byx7.cell
  have nbyx7 : ¬ x7.heap.size = x14.heap.size := by have := byx7.lt; omega
  have kbyx8 := byx8.cell
  have nbyx8 : ¬ x8.heap.size = x14.heap.size := by have := byx8.lt; omega
  go_wp2_with fail
  clear kbxa0 nbxa0 kbxa1 nbxa1 kbyw nbyw kbyx6 nbyx6 kbyx7 nbyx7 kbyx8 nbyx8
  refine (markM _ (Value.slice px7 I1.length cx7) (I1.map bt) _ _ ox7 (by first | omega | (simp; omega)) (by first | omega | (simp; omega)) (by first | omega | (simp; omega) | simp)).mono ?_
  rintro e x15 ⟨rfl, om, g⟩
  have BW14 := below_markedS BW13 ox7 hb1 g
  have CW11 := below_markedS CW10 ox7 hc1 g
  replace og := og.past g lgx7
  replace bxa0 := Boxed.kept bxa0 g (Boxed.not_row bxa0 (by decide) ox7)
  replace bxa1 := Boxed.kept bxa1 g (Boxed.not_row bxa1 (by decide) ox7)
  replace byw := Boxed.kept byw g (Boxed.not_row byw (by decide) ox7)
  replace byx6 := Boxed.kept byx6 g (Boxed.not_row byx6 (by decide) ox7)
  replace byx7 := Boxed.kept byx7 g (Boxed.not_row byx7 (by decide) ox7)
  replace byx8 := Boxed.kept byx8 g (Boxed.not_row byx8 (by decide) ox7)
  clear BW13 CW10 om ox7 g
  have kbxa0 := bxa0.cell
  have nbxa0 : ¬ (w.heap.size) = x15.heap.size := by have := bxa0.lt; omega
  have kbxa1 := bxa1.cell
  have nbxa1 : ¬ (w.heap.size + 1) = x15.heap.size := by have := bxa1.lt; omega
  have kbyw := byw.cell
  have nbyw : ¬ bqw = x15.heap.size := by have := byw.lt; omega
  have kbyx6 := byx6.cell
  have nbyx6 : ¬ x6.heap.size = x15.heap.size := by have := byx6.lt; omega
  have kbyx7 := byx7.cell
  have nbyx7 : ¬ x7.heap.size = x15.heap.size := by have := byx7.lt; omega
  have kbyx8 := byx8.cell
  have nbyx8 : ¬ x8.heap.size = x15.heap.size := by have := byx8.lt; omega
  go_wp2_with fail
  clear kbxa0 nbxa0 kbxa1 nbxa1 kbyw nbyw kbyx6 nbyx6 kbyx7 nbyx7 kbyx8 nbyx8
  refine (eqM_yes _ _ (Value.slice pg L.length cg) (Value.slice pw L.length cw) (L.map bt) _ og (OW.out.below CW11)).mono ?_
  rintro e x16 ⟨rfl, b⟩
  have CW12 := CW11.then b
  clear CW11
  have BW15 := BW14.then b
  replace og := og.below b
  replace bxa0 := boxed_later bxa0 b
  replace bxa1 := boxed_later bxa1 b
  replace byw := boxed_later byw b
  replace byx6 := boxed_later byx6 b
  replace byx7 := boxed_later byx7 b
  replace byx8 := boxed_later byx8 b
  clear b BW14
  have kbxa0 := bxa0.cell
  have nbxa0 : ¬ (w.heap.size) = x16.heap.size := by have := bxa0.lt; omega
  have kbxa1 := bxa1.cell
  have nbxa1 : ¬ (w.heap.size + 1) = x16.heap.size := by have := bxa1.lt; omega
  have kbyw := byw.cell
  have nbyw : ¬ bqw = x16.heap.size := by have := byw.lt; omega
  have kbyx6 := byx6.cell
  have nbyx6 : ¬ x6.heap.size = x16.heap.size := by have := byx6.lt; omega
  have kbyx7 := byx7.cell
  have nbyx7 : ¬ x7.heap.size = x16.heap.size := by have := byx7.lt; omega
  have kbyx8 := byx8.cell
  have nbyx8 : ¬ x8.heap.size = x16.heap.size := by have := byx8.lt; omega
  go_wp2_with fail
  clear kbxa0 nbxa0 kbxa1 nbxa1 kbyw nbyw kbyx6 nbyx6 kbyx7 nbyx7 kbyx8 nbyx8
  refine (markM _ (Value.slice pg L.length cg) (L.map bt) 1 _ og (by omega) (by omega) (by first | omega | (simp; omega))).mono ?_
  rintro e x17 ⟨rfl, oq, g⟩
  have BW16 := below_markedS BW15 og hbg g
  have CW13 := below_markedS CW12 og hcg g
  replace bxa0 := Boxed.kept bxa0 g (Boxed.not_row bxa0 (by decide) og)
  replace bxa1 := Boxed.kept bxa1 g (Boxed.not_row bxa1 (by decide) og)
  replace byw := Boxed.kept byw g (Boxed.not_row byw (by decide) og)
  replace byx6 := Boxed.kept byx6 g (Boxed.not_row byx6 (by decide) og)
  replace byx7 := Boxed.kept byx7 g (Boxed.not_row byx7 (by decide) og)
  replace byx8 := Boxed.kept byx8 g (Boxed.not_row byx8 (by decide) og)
  clear BW15 CW12 og g
  have kbxa0 := bxa0.cell
  have nbxa0 : ¬ (w.heap.size) = x17.heap.size := by have := bxa0.lt; omega
  have kbxa1 := bxa1.cell
  have nbxa1 : ¬ (w.heap.size + 1) = x17.heap.size := by have := bxa1.lt; omega
  have kbyw := byw.cell
  have nbyw : ¬ bqw = x17.heap.size := by have := byw.lt; omega
  have kbyx6 := byx6.cell
  have nbyx6 : ¬ x6.heap.size = x17.heap.size := by have := byx6.lt; omega
  have kbyx7 := byx7.cell
  have nbyx7 : ¬ x7.heap.size = x17.heap.size := by have := byx7.lt; omega
  have kbyx8 := byx8.cell
  have nbyx8 : ¬ x8.heap.size = x17.heap.size := by have := byx8.lt; omega
  go_wp2_with fail
  clear kbxa0 nbxa0 kbxa1 nbxa1 kbyw nbyw kbyx6 nbyx6 kbyx7 nbyx7 kbyx8 nbyx8
  refine (heldM _ (Value.slice pg L.length cg) (L.map bt).length 1 _ oq (by omega) (by omega) (by first | omega | (simp; omega))).mono ?_
  rintro e x18 ⟨rfl, b⟩
  have CW14 := CW13.then b
  clear CW13
  have BW17 := BW16.then b
  replace oq := oq.below b
  replace bxa0 := boxed_later bxa0 b
  replace bxa1 := boxed_later bxa1 b
  replace byw := boxed_later byw b
  replace byx6 := boxed_later byx6 b
  replace byx7 := boxed_later byx7 b
  replace byx8 := boxed_later byx8 b
  clear b BW16
  have kbxa0 := bxa0.cell
  have nbxa0 : ¬ (w.heap.size) = x18.heap.size := by have := bxa0.lt; omega
  have kbxa1 := bxa1.cell
  have nbxa1 : ¬ (w.heap.size + 1) = x18.heap.size := by have := bxa1.lt; omega
  have kbyw := byw.cell
  have nbyw : ¬ bqw = x18.heap.size := by have := byw.lt; omega
  have kbyx6 := byx6.cell
  have nbyx6 : ¬ x6.heap.size = x18.heap.size := by have := byx6.lt; omega
  have kbyx7 := byx7.cell
  have nbyx7 : ¬ x7.heap.size = x18.heap.size := by have := byx7.lt; omega
  have kbyx8 := byx8.cell
  have nbyx8 : ¬ x8.heap.size = x18.heap.size := by have := byx8.lt; omega
  go_wp2_with fail
  clear kbxa0 nbxa0 kbxa1 nbxa1 kbyw nbyw kbyx6 nbyx6 kbyx7 nbyx7 kbyx8 nbyx8
  go_cut [15, 16] from 94 (fun sa sb wc => ∃ (yh : World) (bq : Nat) (pv : Option Addr) (cv Bv : Nat), yh = wc ∧ sa = .pointer (some ⟨bq, 0, none⟩) ∧ sb = .int .i64 c ∧ Boxed wc bq 27 (.slice pv L.length cv) ∧ OwnS wc Bv (.slice pv L.length cv) (L.map bt) ∧ Below (World.heap x18).size x18 wc)
  case first => as_aux_lemma =>
    have kbxa0 := bxa0.cell
    have kbxa1 := bxa1.cell
    have kbyw := byw.cell
    have kbyx6 := byx6.cell
    have kbyx7 := byx7.cell
    have kbyx8 := byx8.cell
    have N0 := World.new_ne _ _ kbxa0
    have N1 := World.new_ne _ _ kbxa1
    have CUR := BW17
    have lbxa0 := bxa0.lt
    have lbxa1 := bxa1.lt
    go_region_held3 (fun w' => w'.cell? ⟨(w.heap.size), 0, none⟩ = some (.slice c0 len0 cap0) ∧ w'.cell? ⟨(w.heap.size + 1), 0, none⟩ = some (.slice c1 len1 cap1)) (first | ((try dsimp only); refine ⟨?_, ?_⟩ <;> (first | assumption | go_keep | (simp [*, World.cell?_alloc_some]; done) | (rw [World.cell?_setCell_far _ _ _ _ (by have z0 := bx19.size; have z1 := bx20.size; dsimp only; omega)]; assumption))) | go_keep) (first | (go_at_call 17; (with_reducible refine (TO0.out _ (by first | (with_reducible exact CUR.drew) | (with_reducible exact CUR.drew.alloc CUR.drew.size _) | exact CUR.drew.alloc CUR.drew.size _ | (exact (CUR.drew.alloc (by have := (CUR.drew).size; simp at this ⊢; omega) _)) | (with_reducible exact (BW17.alloc BW17.size _).drew) | exact (BW17.alloc BW17.size _).drew)).mono ?_); rintro e x19 ⟨px19, cx19, rfl, ox19, bx19x⟩; have bx19 : Below (World.heap x18).size x18 x19 := (by first | (with_reducible exact (Below.refl _ _).drew.then bx19x) | (with_reducible exact (Below.refl _ _).drew.then ((Below.new _ _).then bx19x)) | exact (Below.refl _ _).drew.then ((Below.new _ _).then bx19x) | exact (((Below.refl _ _).alloc (Nat.le_refl _) _).drew).then bx19x); (first | (have bq : Boxed x19 (World.heap x18).size 27 (.slice none 0 0) := (bx19x.block _ (by simp; done)).trans (boxed_alone (W := x18))) | skip); have kbxa0_x19 := (boxed_later bxa0 bx19).cell; have kbxa1_x19 := (boxed_later bxa1 bx19).cell) | (go_at_call 17; (with_reducible refine (TO1.out _ (by first | (with_reducible exact (CUR.then bx19)) | (with_reducible exact (CUR.then bx19).alloc (CUR.then bx19).size _) | exact (CUR.then bx19).alloc (CUR.then bx19).size _ | (exact ((CUR.then bx19).alloc (by have := ((CUR.then bx19)).size; simp at this ⊢; omega) _)))).mono ?_); rintro e x20 ⟨px20, cx20, rfl, ox20, bx20x⟩; have bx20 : Below (World.heap x18).size x18 x20 := (by first | (with_reducible exact bx19.then bx20x) | (with_reducible exact bx19.then ((Below.new _ _).then bx20x)) | exact bx19.then ((Below.new _ _).then bx20x)); (first | (with_reducible have bq := boxed_later bq bx20x) | (with_reducible have bq := boxed_later (boxed_alone (W := x19) (t := 27) (v := .slice none 0 0)) bx20x) | skip); (first | (with_reducible have ox19 := ox19.below bx20x) | (with_reducible have ox19 := ox19.below ((Below.new _ _).then bx20x))); have kbxa0_x20 := (boxed_later bxa0 bx20).cell; have kbxa1_x20 := (boxed_later bxa1 bx20).cell) | (go_at_call 25; (with_reducible refine (CI.out _ (Value.slice px19 I0.length cx19) _ (Value.slice px20 I1.length cx20) _ (by first | (with_reducible exact ox19) | (with_reducible exact ox19.below (Below.new _ _))) (by first | (with_reducible exact ox20) | (with_reducible exact ox20.below (Below.new _ _)))).mono ?_); rintro e x21 ⟨ph, ch, rfl, oh, bx21x⟩; have bx21 : Below (World.heap x18).size x18 x21 := (by first | (with_reducible exact bx20.then bx21x) | (with_reducible exact bx20.then ((Below.new _ _).then bx21x))); (first | (with_reducible have bq := boxed_later bq bx21x) | (with_reducible have bq := boxed_later (boxed_alone (W := x20) (t := 27) (v := .slice none 0 0)) bx21x) | skip); (try (have kq := bq.cell; have fq := bq.frozen; have lq := bq.lt)); have kbxa0_x21 := (boxed_later bxa0 bx21).cell; have kbxa1_x21 := (boxed_later bxa1 bx21).cell))
    all_goals (try go_wp2_with fail)
    all_goals go_meet
    all_goals first | exact ⟨_, _, ph, ch, _, rfl, rfl, rfl, Boxed.new _ _ _, oh.below (Below.new _ _), bx21.alloc bx21.size _⟩ | exact ⟨_, _, ph, ch, _, rfl, rfl, rfl, bq.set _, World.ownsRow.kept oh (grownBy_setCell' _ _ _) (.inr (fun e => bq.not_row (by decide) oh e.symm)), bx21.setCell (by have z0 := bx19.size; have z1 := bx20.size; dsimp only; omega) _⟩
  obtain ⟨yh, bqh, ph, ch, Bwh, rfl, rfl, rfl, byh, oh, b⟩ := hcut
  have CW15 := CW14.then b
  clear CW14
  have BW18 := BW17.then b
  replace oq := oq.below b
  replace bxa0 := boxed_later bxa0 b
  replace bxa1 := boxed_later bxa1 b
  replace byw := boxed_later byw b
  replace byx6 := boxed_later byx6 b
  replace byx7 := boxed_later byx7 b
  replace byx8 := boxed_later byx8 b
  clear b BW17
  have kbxa0 := bxa0.cell
  have nbxa0 : ¬ (w.heap.size) = yh.heap.size := by have := bxa0.lt; omega
  have kbxa1 := bxa1.cell
  have nbxa1 : ¬ (w.heap.size + 1) = yh.heap.size := by have := bxa1.lt; omega
  have kbyw := byw.cell
  have nbyw : ¬ bqw = yh.heap.size := by have := byw.lt; omega
  have kbyx6 := byx6.cell
  have nbyx6 : ¬ x6.heap.size = yh.heap.size := by have := byx6.lt; omega
  have kbyx7 := byx7.cell
  have nbyx7 : ¬ x7.heap.size = yh.heap.size := by have := byx7.lt; omega
  have kbyx8 := byx8.cell
  have nbyx8 : ¬ x8.heap.size = yh.heap.size := by have := byx8.lt; omega
  have kbyh := byh.cell
  have nbyh : ¬ bqh = yh.heap.size := by have := byh.lt; omega
  go_wp2_with fail
  clear kbxa0 nbxa0 kbxa1 nbxa1 kbyw nbyw kbyx6 nbyx6 kbyx7 nbyx7 kbyx8 nbyx8 kbyh nbyh
  refine (eqM_yes _ _ (Value.slice ph L.length ch) (Value.slice pw L.length cw) (L.map bt) _ oh (OW.out.below CW15)).mono ?_
  rintro e x22 ⟨rfl, b⟩
  have CW16 := CW15.then b
  clear CW15
  have BW19 := BW18.then b
  replace oq := oq.below b
  replace oh := oh.below b
  replace bxa0 := boxed_later bxa0 b
  replace bxa1 := boxed_later bxa1 b
  replace byw := boxed_later byw b
  replace byx6 := boxed_later byx6 b
  replace byx7 := boxed_later byx7 b
  replace byx8 := boxed_later byx8 b
  replace byh := boxed_later byh b
  clear b BW18
  have kbxa0 := bxa0.cell
  have nbxa0 : ¬ (w.heap.size) = x22.heap.size := by have := bxa0.lt; omega
  have kbxa1 := bxa1.cell
  have nbxa1 : ¬ (w.heap.size + 1) = x22.heap.size := by have := bxa1.lt; omega
  have kbyw := byw.cell
  have nbyw : ¬ bqw = x22.heap.size := by have := byw.lt; omega
  have kbyx6 := byx6.cell
  have nbyx6 : ¬ x6.heap.size = x22.heap.size := by have := byx6.lt; omega
  have kbyx7 := byx7.cell
  have nbyx7 : ¬ x7.heap.size = x22.heap.size := by have := byx7.lt; omega
  have kbyx8 := byx8.cell
  have nbyx8 : ¬ x8.heap.size = x22.heap.size := by have := byx8.lt; omega
  have kbyh := byh.cell
  have nbyh : ¬ bqh = x22.heap.size := by have := byh.lt; omega
  go_wp2_with fail
  clear kbxa0 nbxa0 kbxa1 nbxa1 kbyw nbyw kbyx6 nbyx6 kbyx7 nbyx7 kbyx8 nbyx8 kbyh nbyh
  refine (heldM _ (Value.slice pg L.length cg) (L.map bt).length 1 _ oq (by omega) (by omega) (by first | omega | (simp; omega))).mono ?_
  rintro e x23 ⟨rfl, b⟩
  have CW17 := CW16.then b
  clear CW16
  have BW20 := BW19.then b
  replace oq := oq.below b
  replace oh := oh.below b
  replace bxa0 := boxed_later bxa0 b
  replace bxa1 := boxed_later bxa1 b
  replace byw := boxed_later byw b
  replace byx6 := boxed_later byx6 b
  replace byx7 := boxed_later byx7 b
  replace byx8 := boxed_later byx8 b
  replace byh := boxed_later byh b
  clear b BW19
  have kbxa0 := bxa0.cell
  have nbxa0 : ¬ (w.heap.size) = x23.heap.size := by have := bxa0.lt; omega
  have kbxa1 := bxa1.cell
  have nbxa1 : ¬ (w.heap.size + 1) = x23.heap.size := by have := bxa1.lt; omega
  have kbyw := byw.cell
  have nbyw : ¬ bqw = x23.heap.size := by have := byw.lt; omega
  have kbyx6 := byx6.cell
  have nbyx6 : ¬ x6.heap.size = x23.heap.size := by have := byx6.lt; omega
  have kbyx7 := byx7.cell
  have nbyx7 : ¬ x7.heap.size = x23.heap.size := by have := byx7.lt; omega
  have kbyx8 := byx8.cell
  have nbyx8 : ¬ x8.heap.size = x23.heap.size := by have := byx8.lt; omega
  have kbyh := byh.cell
  have nbyh : ¬ bqh = x23.heap.size := by have := byh.lt; omega
  go_wp2_with fail
  clear kbxa0 nbxa0 kbxa1 nbxa1 kbyw nbyw kbyx6 nbyx6 kbyx7 nbyx7 kbyx8 nbyx8 kbyh nbyh
  go_ret
  exact ⟨rfl, BW20⟩

theorem own : ownKnob Try.prog.godebug = none := by kernel_rfl
theorem laidOut : laidOutB Try.prog = true := by kernel_rfl

set_option maxRecDepth 100000 in
theorem lifted (os : Os) (started : os.Started) (H : Type) (enc : TypeId × Value → H) :
    ReturnsInHanded {} Try.checked os 6 .any (Rows.fnExactComposeMorphismsSpec.pre6 enc Try.prog Try.f6 Rows.fnExactComposeMorphismsRow.domain false) (Rows.fnExactComposeMorphismsSpec.post enc Try.prog Try.f6 false true false false) := by
  refine returnsInHanded_of_change (C := Try.checked) own started (by kernel_rfl) Try.func6
    (ChangeSpec.witness6 (enc := enc) (C := Try.checked) false ⟨#[], #[.agg #[.slice none 0 0], .agg #[.slice none 0 0]], []⟩ 8 (by kernel_rfl) (by kernel_rfl) (by kernel_rfl) (by kernel_rfl)) ?_
  intro W base args ds gs before hval0 hW hcnd _
  have hval : ∀ (j : Nat) t v, Try.f6.params[j]? = some t → args[j]? = some v → Value.okWide Try.prog W .any base t v := hval0
  have hW' := hW
  obtain ⟨p, q, hA0, hV, rfl, hfz, hnd⟩ := hW
  have hA : DataW.TrodAll enc Try.prog W 0 (fun _ => true) true Try.f6.params.toList args.toList ds p := hA0
  rw [Try.params6] at hA hval
  obtain ⟨v0, vs0, d0, ds0, p0, q0, hargs, rfl, rfl, h0, r0⟩ := trodAll_cons hA
  obtain ⟨v1, vs1, d1, ds1, p1, q1, rfl, rfl, rfl, h1, r1⟩ := trodAll_cons r0
  obtain ⟨rfl, rfl, rfl⟩ := trodAll_nil r1
  obtain rfl : args = #[v0, v1] := by cases args; simp_all
  obtain ⟨rfl, rfl⟩ := trodVars_none hV
  obtain ⟨cc0, rfl, hcc0⟩ := okWide_struct Try.underlying24 (hval 0 24 v0 rfl rfl)
  have k0 := h0
  have lt0 : ∀ x ∈ p0, x.block < W.heap.size := by obtain ⟨m, hm⟩ := k0; exact DataW.trod_lt m _ _ _ hm
  obtain ⟨c0, len0, cap0, z0, rfl, w0⟩ := open_mor Try.underlying24 Try.underlying22 Try.underlying9 (by kernel_rfl) (by kernel_rfl) (by kernel_rfl) (hcc0.trans (by kernel_rfl)) h0
  obtain ⟨cc1, rfl, hcc1⟩ := okWide_struct Try.underlying24 (hval 1 24 v1 rfl rfl)
  have k1 := h1
  have lt1 : ∀ x ∈ p1, x.block < W.heap.size := by obtain ⟨m, hm⟩ := k1; exact DataW.trod_lt m _ _ _ hm
  obtain ⟨c1, len1, cap1, z1, rfl, w1⟩ := open_mor Try.underlying24 Try.underlying22 Try.underlying9 (by kernel_rfl) (by kernel_rfl) (by kernel_rfl) (hcc1.trans (by kernel_rfl)) h1
  clear hA0 hval0
  refine (walk c0 len0 cap0 z0 c1 len1 cap1 z1 W w0 w1).mono fun e W' ⟨he, bel⟩ => ?_
  subst he
  exact ⟨_, rfl, _, _, _, [], _, [], hW', trodAll_mk1 (shut_bool Try.underlying4 _), (trodAll_cons_mk (Below.trod laidOut (by kernel_rfl) (of_decide_eq_true (by kernel_rfl)) k0 bel lt0) (trodAll_cons_mk (Below.trod laidOut (by kernel_rfl) (of_decide_eq_true (by kernel_rfl)) k1 bel lt1) trodAll_mk0)), rfl, bel.frame _, fun h => by cases h⟩

theorem over : Rows.fnExactComposeMorphismsRow.holds Try.pinned (OpenSpec.ofChange Rows.fnExactComposeMorphismsSpec) :=
  OpenClaim.holds_of_wide 6 Try.f6 rfl rfl rfl rfl rfl rfl rfl ⟨rfl, rfl, rfl, rfl, rfl⟩ rfl rfl rfl rfl rfl (by kernel_rfl) Try.func6 (by kernel_rfl)
    (of_decide_eq_true (by kernel_rfl)) (by unfold Func.isWrapper; first | (rw [if_pos (by decide +kernel)]; kernel_rfl) | (rw [if_neg (by decide +kernel)]; exact ⟨rfl, rfl⟩))
    (fun os started H enc _ => lifted os started H enc)

theorem proved : Rows.FnExactComposeMorphismsSaid := over
#print axioms proved
end Go.Proofs.Ytjneebhbgogppaa.fnExactComposeMorphisms
