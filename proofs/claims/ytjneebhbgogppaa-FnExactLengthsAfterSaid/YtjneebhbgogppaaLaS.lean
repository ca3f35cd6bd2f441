/- Lengths of iterates: the model. -/
import Derived.Test.YtjneebhbgogppaaMatS
import Derived.Test.YtjneebhbgogppaaLetS
import Derived.Test.YtjneebhbgogppaaLaPlain
import Derived.Deep.Cut
import Derived.Deep.RegionHeld3
import Derived.BigQuiet
import Derived.StillTailTactics
namespace Go.Proofs.Ytjneebhbgogppaa
set_option linter.unusedVariables false
set_option linter.unusedSimpArgs false
open Go.RowKit

/-- The matrix as cells, in blocks from lo on and below hi. -/
def MatC (W : World) (lo hi : Nat) (I : List (List UInt8)) (gm capm : Nat) : Prop := I.length ≤ capm ∧ hi ≤ W.heap.size ∧ lo ≤ gm ∧ gm < hi ∧ ∀ i, i < I.length → ∃ gr cr, W.cell? ⟨gm, i, none⟩ = some (.slice (some ⟨gr, 0, none⟩) I.length cr) ∧ I.length ≤ cr ∧ lo ≤ gr ∧ gr < hi ∧ ∀ j, j < I.length → W.cell? ⟨gr, j, none⟩ = some (.int .i64 (ct (I.getD i []) j : Int))
theorem mat_cells {W : World} {B : Nat} {v : Value} {I : List (List UInt8)} (h : OwnR W B v (matK I I.length)) (hn : 0 < I.length) : ∃ gm capm, v = .slice (some ⟨gm, 0, none⟩) I.length capm ∧ MatC W B W.heap.size I gm capm := by
  obtain ⟨g, cap, us, hv, h1, h2, h3, h4, h5, rows, own⟩ := h.row (by rw [matK_len]; exact hn)
  rw [matK_len] at hv h3 h5
  refine ⟨g, cap, hv, h3, Nat.le_refl _, h1, h2, fun i hi => ?_⟩
  have hul := rows.1
  rw [matK_len] at hul
  have hr := rows.2.1 i (by omega)
  have hge : (matK I I.length).getD i [] = fm I.length (ct (I.getD i [])) := by
    rw [getD_at _ _ (by rw [matK_len]; exact hi)]
    simp [matK]
  rw [hge] at hr
  obtain ⟨gr, cr, hv2, k1, k2, k3, _, k5, _⟩ := hr.row (by rw [fm_len]; exact hn)
  rw [fm_len] at hv2 k3
  refine ⟨gr, cr, by rw [h5 i hi, hv2], k3, k1, k2, fun j hj => ?_⟩
  rw [k5 j (by rw [fm_len]; exact hj), fm_get]
theorem MatC.later {W W' : World} {lo hi : Nat} {I : List (List UInt8)} {gm capm : Nat} (h : MatC W lo hi I gm capm) (b : Below W.heap.size W W') : MatC W' lo hi I gm capm := by
  obtain ⟨h1, h0, h2, h3, h4⟩ := h
  have hs := b.size
  refine ⟨h1, by omega, h2, h3, fun i hi => ?_⟩
  obtain ⟨gr, cr, k1, k2, k3, k4, k5⟩ := h4 i hi
  exact ⟨gr, cr, by rw [(bcell b).1 gm i (by omega)]; exact k1, k2, k3, k4, fun j hj => by rw [(bcell b).1 gr j (by omega)]; exact k5 j hj⟩
theorem MatC.set {W : World} {lo hi : Nat} {I : List (List UInt8)} {gm capm g : Nat} (h : MatC W lo hi I gm capm) (hg : g < lo ∨ hi ≤ g) (k : Nat) (u : Value) : MatC (W.setCell ⟨g, k, none⟩ u) lo hi I gm capm := by
  obtain ⟨h1, h0, h2, h3, h4⟩ := h
  have hs : (W.setCell ⟨g, k, none⟩ u).heap.size = W.heap.size := by simp [World.setCell]
  have hc : ∀ b j, lo ≤ b → b < hi → (W.setCell ⟨g, k, none⟩ u).cell? ⟨b, j, none⟩ = W.cell? ⟨b, j, none⟩ := fun b j e1 e2 => World.cell?_of_block (Below.heap_setCell _ _ _ b (fun e => by have h9 : b = g := e; omega))
  refine ⟨h1, by omega, h2, h3, fun i hi => ?_⟩
  obtain ⟨gr, cr, k1, k2, k3, k4, k5⟩ := h4 i hi
  exact ⟨gr, cr, by rw [hc gm i h2 h3]; exact k1, k2, k3, k4, fun j hj => by rw [hc gr j k3 k4]; exact k5 j hj⟩
theorem make_cells (n : Nat) (hn : n ≤ 5) (W : World) : (Instr.makeSlice 42 (.int .i64 (n : Int)) (.int .i64 (n : Int))).run Try.prog W = .ok (.slice (some ⟨W.heap.size, 0, none⟩) n n) (W.alloc (.cells (madeCells #[.int .i64 0] n) 2)) := by
  obtain ⟨i0, hi, hz0, hz1, hz2⟩ := info_parts infoI64
  have := run_make (P := Try.prog) W 42 2 i0 (.int .i64 0) Try.underlying42 hi hz0 .i64 .i64 n n (by omega) (Int.le_refl _) (by rw [hz2]; omega) (by omega)
  simpa [hz1, Value.cells] using this
theorem made_tab (n : Nat) (hn : n ≤ 5) (W : World) (B : Nat) (hB : B ≤ W.heap.size) : TabM (W.alloc (.cells (madeCells #[.int .i64 0] n) 2)) B W.heap.size n (fun _ => 0) := by
  refine TabM.zero (own_base ?_ hB) (fun _ _ => rfl)
  rw [Nat.mul_one]
  exact World.ownsRow_lit W (madeCells #[.int .i64 0] n) n (Nat.le_refl _) (by unfold maxLen; omega) (by simpa using size_madeCells (#[Value.int .i64 0]) n)

theorem int_snoc2 (L : List Int) (z : Int) : L.map (Value.int .i64) ++ [Value.int .i64 z] = (L ++ [z]).map (Value.int .i64) := by rw [List.map_append]; rfl

set_option maxRecDepth 100000 in
set_option maxHeartbeats 4000000 in
theorem spec_LengthsAfter (B : Nat) (v : Value) (I : List (List UInt8)) (q k : Int) (w : World) (h : OwnS w B v (I.map bt)) (t : Tot I) (wq : (Lit.int .i64 q).wf = true) (wk : (Lit.int .i64 k).wf = true) :
    Calls Try.prog 30 #[.agg #[v], .int .i64 q, .int .i64 k] w (RetI (lensR I q k).1 (lensR I q k).2 w) := by
  obtain ⟨i0, hi, hz0, hz1, hz2⟩ := info_parts infoI64
  have hmo : Try.prog.follows .mixedOrders = true := by kernel_rfl
  obtain ⟨p, c, hv⟩ := ownS_value h
  rw [List.length_map] at hv
  subst hv
  have hI := t.1
  obtain ⟨W1, hW1⟩ : ∃ W1 : World, W1 = w.alloc (.cells #[.slice p I.length c] 27) := ⟨_, rfl⟩
  have B1 : Below w.heap.size w W1 := by rw [hW1]; exact Below.new _ _
  have Q1 : Boxed W1 w.heap.size 27 (.slice p I.length c) := by rw [hW1]; exact Boxed.new _ _ _
  have HW1 := Lib.hid hW1
  have HB1 := Lib.hid B1
  have HQ1 := Lib.hid Q1
  have H := Lib.hid (h.below B1)
  have hs1 := B1.size
  have hq1 := Q1.lt
  have c1 := fun W h => l06Letter_any B (.slice p I.length c) I q W h t wq
  have C1 := Lib.hid c1
  clear h hW1 B1 Q1 c1
  by_cases g : Mor I
  · have h1 := g.len1
    have h5 := g.len5
    by_cases hb : 0 ≤ q ∧ q < (I.length : Int)
    · rw [show letC I q = 0 by unfold letC; rw [if_neg (not_not_intro g), if_neg (by omega)]] at C1
      by_cases hk0 : 0 ≤ k ∧ k ≤ 20
      · obtain ⟨qn, rfl⟩ : ∃ qn : Nat, q = (qn : Int) := ⟨q.toNat, by omega⟩
        obtain ⟨kn, rfl⟩ : ∃ kn : Nat, k = (kn : Int) := ⟨k.toNat, by omega⟩
        have hqn : qn < I.length := by omega
        have hkn : kn ≤ 20 := by omega
        have ha := lets_oneL g hqn
        have c2 := fun W => l01In_yesM (kn : Int) 0 20 W (by omega) (by omega)
        have c3 := fun W h => l06Matrix_any B (.slice p I.length c) I W h g
        have C2 := Lib.hid c2
        have C3 := Lib.hid c3
        have HMK : ∀ W, _ := fun W => make_cells I.length h5 W
        have HTB := Lib.hid (fun W B hB => made_tab I.length h5 W B hB)
        have HMC := Lib.hid (fun W B v (h : OwnR W B v (matK I I.length)) => mat_cells h (by omega))
        have HP : Hid (Mor I ∧ lets I [letr qn]) := Lib.hid ⟨g, ha⟩
        clear c2 c3 ha g hb hk0 wq wk t
        go_enter Try.func30, Try.ntmps30
        go_wp2_with fail
        rw [← HW1.out]
        have kq := HQ1.out.cell
        go_wp2_with fail
        refine (C1.out _ H.out).mono ?_
        rintro e w1 ⟨rfl, b1⟩
        clear kq
        go_wp2_with fail
        refine (C2.out _).mono ?_
        rintro e w2 ⟨rfl, rfl⟩
        have q2 := boxed_later HQ1.out b1
        have S2 := Lib.hid (H.out.below b1)
        have kq := q2.cell
        have hz2w := b1.size
        have B2 := Lib.hid b1
        clear b1
        go_wp2_with fail
        go_cut [9, 10] from 30 (fun m r wc => ∃ lo hi gm capm gn, m = .slice (some ⟨gm, 0, none⟩) I.length capm ∧ r = .slice (some ⟨gn, 0, none⟩) I.length I.length ∧ MatC wc lo hi I gm capm ∧ TabM wc w1.heap.size gn I.length (fun _ => 0) ∧ (gn < lo ∨ hi ≤ gn) ∧ Below w1.heap.size w1 wc)
        case first =>
          have CUR : Below w1.heap.size w1 w1 := Below.refl _ _
          go_region_held3 (fun w' => w'.cell? ⟨w.heap.size, 0, none⟩ = some (.slice p I.length c)) (go_keep) (first | (go_at_call 68; refine (C3.out _ (by first | exact S2.out.below (CUR.drew) | exact S2.out.below ((CUR.drew).alloc (by simp) _))).mono ?_; rintro e w3 ⟨u, rfl, ou, b3⟩; obtain ⟨gm, capm, rfl, mc⟩ := HMC.out _ _ _ ou; have k3 : w3.cell? ⟨w.heap.size, 0, none⟩ = some (.slice p I.length c) := (by first | exact (boxed_later q2 (CUR.drew.then b3)).cell | exact (boxed_later q2 (((CUR.drew).alloc (by simp) _).then b3)).cell)))
          all_goals (try go_wp2_with fail)
          all_goals go_meet
          all_goals first
            | exact ⟨_, _, gm, capm, _, rfl, rfl, mc.later (Below.new _ _), HTB.out _ _ (by have := b3.size; simpa using this), .inr (Nat.le_refl _), (CUR.drew.then b3).alloc (by have := b3.size; simpa using this) _⟩
            | exact ⟨_, _, gm, capm, _, rfl, rfl, mc, own_below (World.ownsRow.drew (HTB.out w1 w1.heap.size (Nat.le_refl _))) b3, .inl (by simp), ((Below.new w1 _).drew).then b3⟩
        obtain ⟨lo, hi', gm, capm, gn, rfl, rfl, MC, T0, hlh, bc⟩ := hcut
        obtain ⟨W3, hW3⟩ : ∃ W3 : World, W3 = wc.setCell ⟨gn, qn, none⟩ (.int .i64 1) := ⟨_, rfl⟩
        have hgn : w1.heap.size ≤ gn := by
          rcases own_forms T0 with ⟨h, _⟩ | ⟨g, cap, h, h3, _⟩
          · cases h
          · cases h; exact h3
        have T1 : TabM W3 w1.heap.size gn I.length (ct (hk I 0 [letr qn])) := by
          rw [hW3]
          exact T0.put (v := 1) (fun j hj => by
            show ct [letr qn] j = _
            rw [ct_one (by omega) (by omega)]
            by_cases e : j = qn
            · rw [if_pos e.symm, if_pos e]
            · rw [if_neg (fun e2 => e e2.symm), if_neg e])
        have M1 : MatC W3 lo hi' I gm capm := by rw [hW3]; exact MC.set hlh _ _
        have B3 : Below w1.heap.size w1 W3 := by rw [hW3]; exact bc.setCell (p := ⟨gn, qn, none⟩) hgn _
        have fz : wc.frozen? ⟨gn, qn, none⟩ = false := T0.frozenAt qn
        have kz := T0.at' hqn
        have HW3 := Lib.hid hW3
        have HM1 := Lib.hid M1
        have HT1 := Lib.hid T1
        have HB3 := Lib.hid B3
        have hz3 := B3.size
        have HTO := Lib.hid (lenTo.zero I (letr qn))
        clear MC T0 bc hW3 T1 M1 B3 hlh kq q2
        have he : ∀ i j, acc I (ct (hk I i [letr qn])) j I.length = ct (hk I (i + 1) [letr qn]) j := fun i j => acc_hkL HP.out.1 HP.out.2 i j
        have hbd : ∀ i j, (hk I i [letr qn]).length ≤ big15 → acc I (ct (hk I i [letr qn])) j I.length ≤ 4000000000000000000 := fun i j h => acc_len HP.out.1 HP.out.2 h j
        have HE := Lib.hid he
        have HBD := Lib.hid hbd
        have ROK : Hid (lenTo I (letr qn) kn → lensR I (qn : Int) (kn : Int) = (lensL I (letr qn) kn, 0)) := Lib.hid fun h => lensR_ok HP.out.1 hqn hkn h
        have ROV : Hid (lenOver I (letr qn) kn → lensR I (qn : Int) (kn : Int) = ([], 3)) := Lib.hid fun h => lensR_over HP.out.1 hqn hkn h
        have SCT : Hid (∀ i, sct (hk I i [letr qn]) I.length = (hk I i [letr qn]).length) := Lib.hid fun i => sct_all h5 _ fun c hc => by
          have h := hk_lets HP.out.1 i HP.out.2 c hc
          omega
        have LNX : Hid (∀ i, (hk I i [letr qn]).length ≤ big15 → (hk I (i + 1) [letr qn]).length ≤ 12000000000000000) := Lib.hid fun i h => len_next HP.out.1 HP.out.2 h
        have SNO : Hid (∀ i, lensL I (letr qn) (i + 1) = lensL I (letr qn) i ++ [((hk I (i + 1) [letr qn]).length : Int)]) := Lib.hid fun i => lensL_snoc I (letr qn) i
        have SC5 : Hid (∀ i, sct (hk I i [letr qn]) 5 = (hk I i [letr qn]).length) := Lib.hid fun i => sct_hk HP.out.1 HP.out.2 i
        clear he hbd
        go_wp2_with fail
        rw [← HW3.out]
        go_loopw [2, 10, 11] (fun kk nw o wr => ∃ i g : Nat, i ≤ kn ∧ kk = .int .i64 ((kn : Int) - (i : Int)) ∧ nw = .slice (some ⟨g, 0, none⟩) I.length I.length ∧ TabM wr w1.heap.size g I.length (ct (hk I i [letr qn])) ∧ OwnI wr W3.heap.size o (lensL I (letr qn) i) ∧ lenTo I (letr qn) i ∧ Below W3.heap.size W3 wr) (fun kk _ _ _ => (intOf kk).toNat)
        case atStart =>
          refine ⟨0, gn, Nat.zero_le _, by simp, rfl, World.ownsRow.alloc HT1.out _, ?_, HTO.out, Below.new _ _⟩
          have := World.ownsRow_lit (base := W3.heap.size) (e := 2) (size := 1) W3 #[.int .i64 1] 1 (Nat.le_refl _) (by decide) (by simp)
          have hsz : W3.heap.size = wc.heap.size := by rw [HW3.out]; simp [World.setCell]
          first | exact this | (rw [hsz] at this ⊢; exact this) | (trace_state; sorry)
        case round =>
          obtain ⟨i, g, hik, rfl, rfl, tn, on, hto, hB⟩ := hrel
          by_cases hp : i < kn
          · have hpi : (0 : Int) < (kn : Int) - (i : Int) := by omega
            obtain ⟨wo, hwo⟩ : ∃ wo : World, wo = wr := ⟨_, rfl⟩
            obtain ⟨l2, hl2⟩ : ∃ l2, hk I (i + 1) [letr qn] = l2 := ⟨_, rfl⟩
            have hLL := lensL_len I (letr qn) i
            have hnx := LNX.out i (hto i (by omega))
            have hsn := SNO.out i
            have hov : big15 < (hk I (i + 1) [letr qn]).length → lensR I (qn : Int) (kn : Int) = ([], 3) := fun h => ROV.out (lenTo.over h (by omega))
            have hok : (hk I (i + 1) [letr qn]).length ≤ big15 → lenTo I (letr qn) (i + 1) := fun h => hto.succ h
            have hs5 := SCT.out (i + 1)
            have hs55 := SC5.out (i + 1)
            have hac := HE.out i
            have hbd := fun j => HBD.out i j (hto i (by omega))
            rw [hl2] at hnx hsn hov hok hs5 hs55
            simp only [hl2] at hac
            have hss := sct_succ l2
            have hsl := fun n hn => sct_le (n := n) hs55 hn
            rw [← hwo] at tn on hB
            have hbw := hB.size
            generalize ct (hk I i [letr qn]) = F at *
            have TN := Lib.hid tn
            have ON := Lib.hid on
            have HB := Lib.hid hB
            have MO := Lib.hid (HM1.out.later hB)
            have HOV := Lib.hid hov
            have HOK := Lib.hid hok
            have HSN := Lib.hid hsn
            have HSS := Lib.hid hss
            have HSL := Lib.hid hsl
            have HS5 := Lib.hid hs5
            have HL2 := Lib.hid hl2
            have HAC := Lib.hid hac
            have HBB := Lib.hid hbd
            have HLL := Lib.hid hLL
            have TZ := Lib.hid (HTB.out wo w1.heap.size (by omega))
            rw [← hwo]
            clear tn on hB hov hok hsn hss hsl hs5 hs55 hto hl2 hac hbd hLL hwo
            go_wp2_with fail
            go_loopw [14] (fun t wq => ∃ a : Nat, a ≤ I.length ∧ t = .int .i64 (a : Int) ∧ TabM wq w1.heap.size wo.heap.size I.length (fun j => acc I F j a) ∧ Below wo.heap.size wo wq) (fun t _ => I.length - (intOf t).toNat)
            case atStart => exact ⟨0, Nat.zero_le _, rfl, TZ.out, Below.new _ _⟩
            case round =>
              obtain ⟨a, hal, rfl, ht, hBq⟩ := hrel
              have HT := Lib.hid ht
              have HBq := Lib.hid hBq
              clear ht hBq
              by_cases hpa : a < I.length
              · go_wp2_with fail
                go_loopw [15] (fun t wq => ∃ b : Nat, b ≤ I.length ∧ t = .int .i64 (b : Int) ∧ TabM wq w1.heap.size wo.heap.size I.length (fun j => if j < b then acc I F j (a + 1) else acc I F j a) ∧ Below wo.heap.size wo wq) (fun t _ => I.length - (intOf t).toNat)
                case atStart => exact ⟨0, Nat.zero_le _, rfl, HT.out.congr (fun j _ => by rw [if_neg (by omega)]), HBq.out⟩
                case round =>
                  obtain ⟨b, hbl, rfl, ht, hBq⟩ := hrel
                  by_cases hpb : b < I.length
                  · have kt := ht.at' hpb
                    rw [if_neg (by omega)] at kt
                    have ft := ht.frozenAt b
                    have kn1 := TabM.at' (own_below TN.out hBq) hpa
                    obtain ⟨hcm, _, _, _, mm⟩ := MO.out.later hBq
                    obtain ⟨gr, cr, km, hcr, _, _, kr⟩ := mm a hpa
                    have krb := kr b hpb
                    clear kr
                    have hle : acc I F b (a + 1) ≤ 4000000000000000000 := Nat.le_trans (acc_mono I F b (by omega)) (HBB.out b)
                    have has := acc_succ I F b a
                    have hput := ht.put (k := b) (v := acc I F b (a + 1)) (H := fun j => if j < b + 1 then acc I F j (a + 1) else acc I F j a) (fun j hj => by
                      show (if j < b + 1 then acc I F j (a + 1) else acc I F j a) = if j = b then acc I F b (a + 1) else (if j < b then acc I F j (a + 1) else acc I F j a)
                      by_cases e : j = b
                      · subst e; rw [if_pos (by omega), if_pos rfl]
                      · rw [if_neg e]
                        by_cases e2 : j < b
                        · rw [if_pos e2, if_pos (by omega)]
                        · rw [if_neg e2, if_neg (by omega)])
                    have hBs := (hBq.drew).setCell (p := ⟨wo.heap.size, b, none⟩) (Nat.le_refl _) (.int .i64 ((acc I F b (a + 1) : Nat) : Int))
                    have HPUT := Lib.hid hput
                    have HBS := Lib.hid hBs
                    generalize acc I F b (a + 1) = X at *
                    generalize acc I F b a = Y at *
                    obtain ⟨Z, hZ⟩ : ∃ Z, ct (I.getD a []) b = Z := ⟨_, rfl⟩
                    rw [hZ] at krb has
                    clear hZ
                    generalize F a = V at *
                    have hmul : ((V * Z : Nat) : Int) = (V : Int) * (Z : Int) := Int.natCast_mul V Z
                    generalize V * Z = P at *
                    have hw1 : IntKind.i64.wrap ((V : Int) * (Z : Int)) = (P : Int) := by rw [← hmul]; exact IntWalk.i64_in _ (by omega)
                    have hw2 : IntKind.i64.wrap ((Y : Int) + (P : Int)) = (X : Int) := by rw [IntWalk.i64_in _ (by omega)]; omega
                    have hac2 : a < capm := by omega
                    have hbc : b < cr := by omega
                    clear hput hBs ht hBq mm hmul has hle hcm hcr
                    go_wp2_with fail
                    go_still_tail 20, hmo
                    go_wp2_with fail
                    go_roundw
                    case rel => exact ⟨b + 1, by omega, by go_num, HPUT.out, HBS.out⟩
                    case measure => simp [intOf]; omega
                  · have HT2 := Lib.hid (ht.congr (H := fun j => acc I F j (a + 1)) (fun j hj => by rw [if_pos (by omega)]))
                    have HBq2 := Lib.hid hBq
                    clear ht hBq
                    go_wp2_with fail
                    go_roundw
                    case rel => exact ⟨a + 1, by omega, by go_num, HT2.out, HBq2.out⟩
                    case measure => simp [intOf]; omega
              · have hae : a = I.length := by omega
                subst hae
                have HT2 := Lib.hid (HT.out.congr (H := ct l2) (fun j hj => HAC.out j))
                go_wp2_with fail
                go_loopw [13, 16] (fun s t wq => ∃ b : Nat, b ≤ I.length ∧ t = .int .i64 (b : Int) ∧ s = .int .i64 (sct l2 b : Int) ∧ TabM wq w1.heap.size wo.heap.size I.length (ct l2) ∧ Below wo.heap.size wo wq) (fun _ t _ => I.length - (intOf t).toNat)
                case atStart => exact ⟨0, Nat.zero_le _, rfl, rfl, HT2.out, HBq.out⟩
                case round =>
                  obtain ⟨b, hbl, rfl, rfl, ht, hBq⟩ := hrel
                  by_cases hpb : b < I.length
                  · have kt := ht.at' hpb
                    have hw : IntKind.i64.wrap ((sct l2 b : Int) + (ct l2 b : Int)) = ((sct l2 (b + 1) : Nat) : Int) := by
                      have h1 := HSL.out (b + 1) (by omega)
                      have h2 := HSS.out b
                      rw [IntWalk.i64_in _ (by omega)]
                      omega
                    have HT3 := Lib.hid ht
                    have HB3q := Lib.hid hBq
                    clear ht hBq
                    go_wp2_with fail
                    go_roundw
                    case rel => exact ⟨b + 1, by omega, by go_num, by first | rfl | rw [hw], HT3.out, HB3q.out⟩
                    case measure => simp [intOf]; omega
                  · have hbe : b = I.length := by omega
                    subst hbe
                    rw [HS5.out]
                    by_cases hbig : big15 < l2.length
                    · have HR := Lib.hid (HOV.out hbig)
                      have hb2 : (1000000000000000 : Int) < (l2.length : Int) := by unfold big15 at hbig; omega
                      have HBt := Lib.hid (HB1.out.then (B2.out.then (HB3.out.then (HB.out.then hBq))))
                      clear hbig ht hBq
                      go_wp2_with fail
                      go_ret2
                      unfold RetI
                      rw [HR.out]
                      exact ⟨_, rfl, OwnI.nil _ _, HBt.out⟩
                    · have hb2 : ¬ (1000000000000000 : Int) < (l2.length : Int) := by unfold big15 at hbig; omega
                      have HTT := Lib.hid (HOK.out (by omega))
                      clear hbig
                      have on7 := ON.out.below hBq
                      have hlt7 := ON.out.lt
                      have hB7 := HB.out.then hBq
                      have hz7 := hB7.size
                      have hzo := hBq.size
                      have HT4 := Lib.hid ht
                      have hlo7 : (lensL I (letr qn) i).length ≤ 21 := by have := HLL.out; omega
                      generalize lensL I (letr qn) i = L at *
                      generalize hm : l2.length = m at *
                      have HM := Lib.hid hm
                      clear hm ht
                      go_wp2_with (at_builtin; go_loud (refine wpList_append_own _ rfl _ _ 42 rfl W3.heap.size 2 i0 (.int .i64 0) 1 8 Try.underlying42 hi hz0 hz1 hz2 rfl (by decide) _ _ _ rfl (on7.alloc _) ⟨_, 0, none⟩ 1 1 [.int .i64 (m : Int)] rfl rfl (cell_new _ _ _) (by intro u hu; simp at hu; subst hu; rfl) (by unfold maxLen; omega) (by omega) (by simp; omega) ?_); intro v' w8 hown' hgrow _)
                      go_roundw
                      case rel =>
                        refine ⟨i + 1, wo.heap.size, by omega, by go_num, rfl, ?_, ?_, HTT.out, ?_⟩
                        · rw [HL2.out]
                          exact own_other (World.ownsRow.alloc HT4.out _) hgrow (fun k hk c => by
                            have e1 : wo.heap.size = k := Option.some.inj hk
                            have e2 := (hlt7 k c).2
                            omega)
                        · unfold OwnI; rw [HSN.out, List.length_append, ← int_snoc2]; exact hown'
                        · exact (hB7.alloc hz7 _).grown hgrow (by simp; omega) (fun q hq => (on7.lt q hq).1)
                      case measure => simp [intOf]; omega
          · have hie : i = kn := by omega
            subst hie
            have hp0 : ¬ (0 : Int) < (i : Int) - (i : Int) := by omega
            have HR := Lib.hid (ROK.out hto)
            have ON := Lib.hid on
            have HBt := Lib.hid (HB1.out.then (B2.out.then (HB3.out.then hB)))
            clear on hto tn hB
            go_wp2_with fail
            go_ret2
            unfold RetI
            rw [HR.out]
            exact ⟨_, rfl, ON.out.base (by omega), HBt.out⟩
      · rw [lensR_out g (by omega)]
        have c2 := fun W => l01In_noM k 0 20 W hk0
        have C2 := Lib.hid c2
        clear c2 g hb hk0 wq wk t
        go_enter Try.func30, Try.ntmps30
        go_wp2_with fail
        rw [← HW1.out]
        have kq := HQ1.out.cell
        go_wp2_with fail
        refine (C1.out _ H.out).mono ?_
        rintro e w1 ⟨rfl, b1⟩
        clear kq
        go_wp2_with fail
        refine (C2.out _).mono ?_
        rintro e w2 ⟨rfl, rfl⟩
        go_wp2_with fail
        go_ret2
        exact ⟨_, rfl, OwnI.nil _ _, HB1.out.then b1⟩
    · rw [lensR_out g (by omega)]
      rw [show letC I q = 2 by unfold letC; rw [if_neg (not_not_intro g), if_pos (by omega)]] at C1
      clear g hb wq wk t
      go_enter Try.func30, Try.ntmps30
      go_wp2_with fail
      rw [← HW1.out]
      have kq := HQ1.out.cell
      go_wp2_with fail
      refine (C1.out _ H.out).mono ?_
      rintro e w1 ⟨rfl, b1⟩
      clear kq
      go_wp2_with fail
      go_ret2
      exact ⟨_, rfl, OwnI.nil _ _, HB1.out.then b1⟩
  · rw [lensR_bad g]
    rw [show letC I q = 1 by unfold letC; rw [if_pos g]] at C1
    clear g wq wk t
    go_enter Try.func30, Try.ntmps30
    go_wp2_with fail
    rw [← HW1.out]
    have kq := HQ1.out.cell
    go_wp2_with fail
    refine (C1.out _ H.out).mono ?_
    rintro e w1 ⟨rfl, b1⟩
    clear kq
    go_wp2_with fail
    go_ret2
    exact ⟨_, rfl, OwnI.nil _ _, HB1.out.then b1⟩
end Go.Proofs.Ytjneebhbgogppaa
