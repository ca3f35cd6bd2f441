/- MatrixOf: the program. -/
import Derived.Test.YtddfdciohnabbabMatR
import Derived.Test.YtddfdciohnabbabLaPlain
import Derived.Test.YtddfdciohnabbabTestI
import Derived.Test.YtddfdciohnabbabRetM
import Derived.Test.YtddfdciohnabbabShelf
import Derived.Deep.Cut
import Derived.Deep.CutRange
import Derived.Deep.RegionHeld3
namespace Go.Proofs.Ytddfdciohnabbab
set_option linter.unusedVariables false
set_option linter.unusedSimpArgs false
open Go.RowKit

theorem OwnR.past {w w' : World} {B : Nat} {v : Value} {L : List (List Int)} {row : Option Nat} (h : OwnR w B v L) (hg : w.grownBy w' row) (hr : ∀ k, row = some k → k < B) : OwnR w' B v L := by
  obtain ⟨us, h1, h2⟩ := h
  exact ⟨us, own_past h1 hg hr, h2.1, fun j hj => (h2.2.1 j hj).past hg hr, h2.2.2⟩
theorem arr5_store {W : World} {b : Nat} {f : Nat → Nat} (a : Arr5 W b f) (F : Nat → Nat) : Arr5 (((((W.setCell ⟨b, 0, none⟩ (.int .i64 (F 0 : Int))).setCell ⟨b, 1, none⟩ (.int .i64 (F 1 : Int))).setCell ⟨b, 2, none⟩ (.int .i64 (F 2 : Int))).setCell ⟨b, 3, none⟩ (.int .i64 (F 3 : Int))).setCell ⟨b, 4, none⟩ (.int .i64 (F 4 : Int))) b F :=
  (((((a.set 0 (by omega) (F 0)).set 1 (by omega) (F 1)).set 2 (by omega) (F 2)).set 3 (by omega) (F 3)).set 4 (by omega) (F 4)).congr fun j hj => by
    rcases (show j = 0 ∨ j = 1 ∨ j = 2 ∨ j = 3 ∨ j = 4 by omega) with rfl | rfl | rfl | rfl | rfl <;> rfl
theorem arr5_zero {W W' : World} (b : Below (W.alloc (.cells #[.int .i64 0, .int .i64 0, .int .i64 0, .int .i64 0, .int .i64 0] 91)).heap.size (W.alloc (.cells #[.int .i64 0, .int .i64 0, .int .i64 0, .int .i64 0, .int .i64 0] 91)) W') : Arr5 W' W.heap.size (fun _ => 0) := (Arr5.new W (fun _ => 0)).later b
theorem arr5_zerod {W W' : World} (b : Below (W.alloc (.cells #[.int .i64 0, .int .i64 0, .int .i64 0, .int .i64 0, .int .i64 0] 91)).drew.heap.size (W.alloc (.cells #[.int .i64 0, .int .i64 0, .int .i64 0, .int .i64 0, .int .i64 0] 91)).drew W') : Arr5 W' W.heap.size (fun _ => 0) := (Arr5.new W (fun _ => 0)).later (((Below.refl _ _).drew).then b)
theorem bel_zero {w W W' : World} (h : Below w.heap.size w W) (b : Below (W.alloc (.cells #[.int .i64 0, .int .i64 0, .int .i64 0, .int .i64 0, .int .i64 0] 91)).heap.size (W.alloc (.cells #[.int .i64 0, .int .i64 0, .int .i64 0, .int .i64 0, .int .i64 0] 91)) W') : Below w.heap.size w W' := h.then ((Below.new _ _).then b)
theorem bel_zerod {w W W' : World} (h : Below w.heap.size w W) (b : Below (W.alloc (.cells #[.int .i64 0, .int .i64 0, .int .i64 0, .int .i64 0, .int .i64 0] 91)).drew.heap.size (W.alloc (.cells #[.int .i64 0, .int .i64 0, .int .i64 0, .int .i64 0, .int .i64 0] 91)).drew W') : Below w.heap.size w W' := h.then (((Below.new _ _).drew).then b)
theorem below_store5 {B b : Nat} {w W : World} (h : Below B w W) (hb : B ≤ b) (F : Nat → Nat) : Below B w (((((W.setCell ⟨b, 0, none⟩ (.int .i64 (F 0 : Int))).setCell ⟨b, 1, none⟩ (.int .i64 (F 1 : Int))).setCell ⟨b, 2, none⟩ (.int .i64 (F 2 : Int))).setCell ⟨b, 3, none⟩ (.int .i64 (F 3 : Int))).setCell ⟨b, 4, none⟩ (.int .i64 (F 4 : Int))) :=
  ((((h.setCell (p := ⟨b, 0, none⟩) hb _).setCell (p := ⟨b, 1, none⟩) hb _).setCell (p := ⟨b, 2, none⟩) hb _).setCell (p := ⟨b, 3, none⟩) hb _).setCell (p := ⟨b, 4, none⟩) hb _

set_option maxRecDepth 100000 in
set_option maxHeartbeats 4000000 in
theorem impl_MatrixOf (B : Nat) (v : Value) (I : List (List UInt8)) (w : World) (h : OwnS w B v (I.map bt)) (t : Tot I) :
    Calls Try.prog 61 #[.agg #[v]] w (RetR (matR I).1 (matR I).2 w) := by
  obtain ⟨r0, hri, hrz0, hrz1, hrz2⟩ := info_parts infoSI
  obtain ⟨p, c, hv⟩ := ownS_value h
  rw [List.length_map] at hv
  subst hv
  obtain ⟨W1, hW1⟩ : ∃ W1 : World, W1 = w.alloc (.cells #[.slice p I.length c] 57) := ⟨_, rfl⟩
  have B1 : Below w.heap.size w W1 := by rw [hW1]; exact Below.new _ _
  have Q1 : Boxed W1 w.heap.size 57 (.slice p I.length c) := by rw [hW1]; exact Boxed.new _ _ _
  have HW1 := Lib.hid hW1
  have HB1 := Lib.hid B1
  have HQ1 := Lib.hid Q1
  have H := Lib.hid (h.below B1)
  have hs1 := B1.size
  have hq1 := Q1.lt
  clear h hW1 B1 Q1
  by_cases g : Mor I
  · have h1 := g.len1
    have h5 := g.len5
    have c1 := fun W h => isMor_yes B (.slice p I.length c) I W h g
    rw [show matR I = (matK I I.length, 0) from if_pos g]
    have cc := fun W h i (hi : i < I.length) => counts_any B (.slice p I.length c) I (ct [letr i]) W h g (fun j _ => by
      have := acc_len g (lets_oneL g hi) (k := 0) (by show 1 ≤ big15; unfold big15; omega) j
      exact this)
    have ce : ∀ i, i < I.length → (fun j => acc I (ct [letr i]) j I.length) = ct (I.getD i []) := fun i hi => funext fun j => acc_one I _ j i _ hi (fun a ha => ct_one (by omega) (by omega))
    have C1 := Lib.hid c1
    have CC := Lib.hid cc
    have CE := Lib.hid ce
    have CO := Lib.hid (fun W i (hi : i < I.length) => oneLetter_any i (by omega) W)
    have MS := Lib.hid (matK_snoc I)
    clear c1 cc ce g t
    go_enter Try.func61, Try.ntmps61
    go_wp2_with fail
    rw [← HW1.out]
    have kq := HQ1.out.cell
    go_wp2_with fail
    refine (C1.out _ H.out).mono ?_
    rintro e w1 ⟨rfl, b1⟩
    have q2 := boxed_later HQ1.out b1
    have S2 := Lib.hid (H.out.below b1)
    have hz2 := b1.size
    have B2 := Lib.hid b1
    clear kq b1
    have kq := q2.cell
    go_wp2_with fail
    go_loopw [5, 15] (fun v t wr => ∃ i : Nat, i ≤ I.length ∧ t = .int .i64 (i : Int) ∧ OwnR wr w1.heap.size v (matK I i) ∧ Below w1.heap.size w1 wr) (fun _ t _ => I.length - (intOf t).toNat)
    case atStart => exact ⟨0, Nat.zero_le _, rfl, OwnR.nil _ _, Below.refl _ _⟩
    case round =>
      obtain ⟨i, hil, rfl, hown, hB⟩ := hrel
      have hbz := hB.size
      by_cases hp : i < I.length
      · obtain ⟨us, own, rows⟩ := hown
        have hul := rows.1
        rw [matK_len] at hul
        obtain ⟨wo, hwo⟩ : ∃ wo : World, wo = wr := ⟨_, rfl⟩
        rw [← hwo] at own rows hB hbz
        have q3 := boxed_later q2 hB
        have S3 := Lib.hid (S2.out.below hB)
        have co := fun W => CO.out W i hp
        have cc := fun W h => CC.out W h i hp
        rw [CE.out i hp] at cc
        have hms := MS.out i
        have CO2 := Lib.hid co
        have CC2 := Lib.hid cc
        have HMS := Lib.hid hms
        have HOWN := Lib.hid own
        have HROWS := Lib.hid rows
        have HB := Lib.hid hB
        rw [← hwo]
        generalize ct [letr i] = F1 at *
        generalize ct (I.getD i []) = F2 at *
        clear co cc hms own rows hB hwo kq
        have kq := q3.cell
        have kl := q3.lt
        go_wp2_with fail
        go_cut [7] from 18 to 28 (fun s wc => ∃ b : Nat, s = .pointer (some ⟨b, 0, none⟩) ∧ Arr5 wc b F2 ∧ wo.heap.size ≤ b ∧ Below wo.heap.size wo wc)
        case first =>
          have CUR : Below wo.heap.size wo wo := Below.refl _ _
          go_region_held3 (fun w' => w'.cell? ⟨w.heap.size, 0, none⟩ = some (.slice p I.length c)) (first | (with_reducible assumption) | ((repeat rw [World.cell?_setCell_far _ _ _ _ (by dsimp only; omega)]); with_reducible assumption) | go_keep) (first
            | (go_at_call 120; refine (CO2.out _).mono ?_; rintro e y1 ⟨rfl, b1x⟩; have bb : Below wo.heap.size wo y1 := (by first | (with_reducible exact CUR.drew.then b1x) | (with_reducible exact bel_zerod CUR b1x)); (first | (with_reducible have aq := arr5_zerod b1x) | skip); have ky := (boxed_later q3 bb).cell; have ly := (boxed_later q3 bb).lt; have zy := bb.size)
            | (go_at_call 121; refine (CC2.out _ (S3.out.below (by first | (with_reducible exact bb) | (with_reducible exact bb.alloc bb.size _)))).mono ?_; rintro e y2 ⟨rfl, b2x⟩; have bb2 : Below wo.heap.size wo y2 := (by first | (with_reducible exact bb.then b2x) | (with_reducible exact bel_zero bb b2x)); (first | (with_reducible have aq := aq.later b2x) | (with_reducible have aq := arr5_zero b2x) | skip); (try (have f0 := aq.frozen 0; have f1 := aq.frozen 1; have f2 := aq.frozen 2; have f3 := aq.frozen 3; have f4 := aq.frozen 4; have e0 := aq.cell 0 (by omega); have e1 := aq.cell 1 (by omega); have e2 := aq.cell 2 (by omega); have e3 := aq.cell 3 (by omega); have e4 := aq.cell 4 (by omega))); have ky := (boxed_later q3 bb2).cell; have ly2 := (boxed_later q3 bb2).lt; have zy2 := bb2.size))
          all_goals (try go_wp2_with fail)
          all_goals go_meet
          all_goals first
            | (with_reducible exact ⟨_, rfl, Arr5.new y2 F2, bb2.size, bb2.alloc bb2.size _⟩)
            | (with_reducible exact ⟨_, rfl, arr5_store aq F2, bb.size, below_store5 bb2 bb.size F2⟩)
            | (with_reducible exact ⟨_, rfl, arr5_store aq F2, Nat.le_refl _, below_store5 bb2 (Nat.le_refl _) F2⟩)
        obtain ⟨b, rfl, ab, hbl, bc⟩ := hcut
        have k0 := ab.cell 0 (by omega)
        have k1 := ab.cell 1 (by omega)
        have k2 := ab.cell 2 (by omega)
        have k3 := ab.cell 3 (by omega)
        have k4 := ab.cell 4 (by omega)
        have hsl := fun W => slice5 b I.length h5 W
        have ccl := Try.slices_Clone_int b 0 I.length 5 [(F2 0 : Int), F2 1, F2 2, F2 3, F2 4] wc (by simpa using h5) (by omega) (fun j hj => by
          have hj5 : j < 5 := by simpa using hj
          rw [Nat.zero_add, ab.cell j hj5]
          rcases (show j = 0 ∨ j = 1 ∨ j = 2 ∨ j = 3 ∨ j = 4 by omega) with rfl | rfl | rfl | rfl | rfl <;> rfl)
        have CL := Lib.hid ccl
        clear ccl k0 k1 k2 k3 k4
        go_wp2_with fail
        refine CL.out.mono ?_
        rintro e w5 ⟨u, rfl, ou, _, b5⟩
        have oi : OwnI w5 wc.heap.size u (fm I.length F2) := by
          have hr : (([(F2 0 : Int), F2 1, F2 2, F2 3, F2 4].take I.length).map (Value.int .i64)) = (fm I.length F2).map (Value.int .i64) := by
            rcases (show I.length = 1 ∨ I.length = 2 ∨ I.length = 3 ∨ I.length = 4 ∨ I.length = 5 by omega) with e | e | e | e | e <;> rw [e] <;> rfl
          rw [hr] at ou
          unfold OwnI
          rw [fm_len]
          exact ou
        obtain ⟨g9, c9, rfl, -⟩ := oi.row (by rw [fm_len]; omega)
        rw [fm_len] at oi
        rw [fm_len]
        have B5 := bc.then b5
        have own2 := own_below HOWN.out B5
        have rows2 := HROWS.out.below B5
        have hcz := bc.size
        have hB2 := HB.out.then B5
        have hz5 := hB2.size
        have OI := Lib.hid oi
        have HO2 := Lib.hid own2
        have HR2 := Lib.hid rows2
        have HB2 := Lib.hid hB2
        have ownA := World.ownsRow.alloc own2 (.cells #[.slice (some ⟨g9, 0, none⟩) I.length c9] 30)
        clear oi own2 rows2 hB2 ou b5 B5 ab
        go_wp2_with (at_builtin; go_loud (refine wpList_append_own _ rfl _ _ 39 rfl w1.heap.size 30 r0 (.slice none 0 0) 1 24 Try.underlying39 hri hrz0 hrz1 hrz2 rfl (by decide) _ _ _ rfl ownA ⟨_, 0, none⟩ 1 1 [.slice (some ⟨g9, 0, none⟩) I.length c9] rfl rfl (cell_new _ _ _) (by intro u hu; simp at hu; subst hu; rfl) (by unfold maxLen; omega) (by omega) (by simp; omega) ?_); intro v' w8 hown' hgrow _)
        have hO := rows_more HO2.out HR2.out (OI.out.base (by omega)) (b := wo.heap.size) (fun j hj k hk => (HROWS.out.lt j hj k hk).2) (fun k hk => by have := (OI.out.lt k hk).1; omega) hown' hgrow
        rw [← HMS.out] at hO
        have HO := Lib.hid hO
        have hB3 : Below w1.heap.size w1 w8 := (HB2.out.alloc HB2.out.size _).grown hgrow (by simp; omega) (fun q hq => (HO2.out.lt q hq).1)
        clear hO hown' hgrow
        go_roundw
        case rel => exact ⟨i + 1, by omega, by go_num, HO.out, hB3⟩
        case measure => simp [intOf]; omega
      · have hie : i = I.length := by omega
        subst hie
        go_wp2_with fail
        go_ret2
        exact ⟨_, rfl, hown.base (by omega), HB1.out.then (B2.out.then hB)⟩
  · rw [show matR I = ([], 1) from if_neg g]
    have c1 := fun W h => isMor_no B (.slice p I.length c) I W h t g
    have C1 := Lib.hid c1
    clear c1 g t
    go_enter Try.func61, Try.ntmps61
    go_wp2_with fail
    rw [← HW1.out]
    have kq := HQ1.out.cell
    go_wp2_with fail
    refine (C1.out _ H.out).mono ?_
    rintro e w1 ⟨rfl, b1⟩
    go_wp2_with fail
    go_ret2
    exact ⟨_, rfl, OwnR.nil _ _, HB1.out.then b1⟩
end Go.Proofs.Ytddfdciohnabbab
