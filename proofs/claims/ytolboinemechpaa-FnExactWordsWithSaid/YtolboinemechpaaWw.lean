/- The words with a vector: the program. -/
import Derived.Test.YtolboinemechpaaNwPlain
import Derived.Test.YtolboinemechpaaNw
import Derived.Test.YtolboinemechpaaWordOf
import Derived.Test.YtolboinemechpaaWordsPlain
import Derived.Test.YtolboinemechpaaStrs
import Derived.Maps.AppendAt
import Derived.Test.YtolboinemechpaaRows2
namespace Go.Proofs.Ytolboinemechpaa
set_option linter.unusedVariables false
set_option linter.unusedSimpArgs false
open Go.RowKit

theorem own_valueS {w : World} {B : Nat} {v : Value} {L : List ByteArray} (h : OwnS w B v L) : ∃ a c, v = .slice a L.length c := by
  rcases own_forms h with ⟨rfl, h0, _⟩ | ⟨g, cap, hv, _⟩
  · exact ⟨none, 0, by rw [h0]⟩
  · exact ⟨_, cap, hv⟩
theorem ret_b {a b : Bool} (h : a = b) : Ending.returned (.bool a) = .returned (.bool b) := by rw [h]

set_option maxRecDepth 100000 in
set_option maxHeartbeats 1000000 in
theorem isSmallVector_any (B : Nat) (v : Value) (L : List Int) (w : World) (h : OwnI w B v L) (hl : L.length ≤ 1048576) :
    Calls Try.prog 63 #[v] w fun e w' => e = .returned (.bool (decide (smallV L))) ∧ Below w.heap.size w w' := by
  obtain ⟨R, hR⟩ : ∃ R, decide (smallV L) = R := ⟨_, rfl⟩
  rw [hR]
  have HR := Lib.hid hR
  clear hR
  by_cases h0 : L = []
  · subst h0
    obtain ⟨a1, c1, rfl⟩ := h.empty
    have HN : Hid (R = false) := Lib.hid (by rw [← HR.out]; exact decide_eq_false (fun q => by have := q.1; simp at this))
    clear h
    go_enter Try.func63, Try.ntmps63
    go_wp2
    refine wp_loop_rounds 1 ?_
    rw [rounds_succ]
    go_wp2
    go_ret
    exact ⟨by rw [HN.out]; rfl, Below.refl _ _⟩
  · have hn : 0 < L.length := List.length_pos_iff.2 h0
    obtain ⟨g, cap, rfl, _, hg, hc, hm, cell, _⟩ := h.row hn
    have C := Lib.hid cell
    clear h cell h0
    go_enter Try.func63, Try.ntmps63
    go_wp2
    go_loopg [3, 8] L.length (fun gk s3 s8 wr => ∃ k r : Nat, k + gk = L.length ∧ s3 = .int .i64 (r : Int) ∧ r ≤ 8 ∧ s8 = .int .i64 (k : Int) ∧ Hid (svTo L k r) ∧ Below w.heap.size w wr)
    case atStart => exact ⟨0, 8, by omega, rfl, by omega, rfl, Lib.hid (svTo.zero L), Below.refl _ _⟩
    case round =>
      obtain ⟨k, r, hk, rfl, hr, rfl, HT, hB⟩ := hrel
      by_cases hp : k < L.length
      · obtain ⟨gq, rfl⟩ : ∃ g, gk = g + 1 := ⟨gk - 1, by omega⟩
        have kc : wr.cell? ⟨g, k, none⟩ = some (.int .i64 (L[k]'hp)) := by rw [(bcell hB).1 g k hg]; exact C.out k hp
        have hge : L.getD k 0 = L[k]'hp := by rw [List.getD_eq_getElem?_getD, List.getElem?_eq_getElem hp]; rfl
        have HG := Lib.hid hge
        have hpc : k < cap := by omega
        have hpi : (k : Int) < (L.length : Int) := by omega
        clear hge
        generalize hz : L[k]'hp = z at *
        by_cases hz1 : z < 0 ∨ (r : Int) < z
        · have HN : Hid (R = false) := Lib.hid (by
            rw [← HR.out]
            refine decide_eq_false fun q => ?_
            have h5 := q.1
            have h1 := q.2.1 k (by omega)
            rw [HG.out] at h1
            have h2 := (q.to (show k + 1 ≤ 5 by omega)).2
            have h3 := HT.out.2
            rw [sm_succ] at h2
            have : fv L k = z.toNat := by unfold fv; rw [HG.out]
            omega)
          rcases (show z < 0 ∨ (0 ≤ z ∧ (r : Int) < z) by omega) with h1 | ⟨h1, h2⟩
          all_goals
            clear hz1
            go_wp2
            go_ret
            exact ⟨by rw [HN.out]; rfl, hB⟩
        · obtain ⟨n, rfl⟩ := Int.eq_ofNat_of_zero_le (show 0 ≤ z by omega)
          have hnr : n ≤ r := by omega
          have HT2 := Lib.hid (HT.out.succ HG.out hnr)
          have hz2 : (n : Int) ≤ (r : Int) := by omega
          have hz3 : ¬ (n : Int) < 0 := by omega
          have hz4 : ¬ (r : Int) < (n : Int) := by omega
          clear hz1
          go_wp2
          go_roundg gq
          case measure => omega
          case rel => exact ⟨k + 1, r - n, by omega, by go_num, by omega, by go_num, HT2, hB⟩
      · obtain rfl : gk = 0 := by omega
        obtain rfl : k = L.length := by omega
        have HN : Hid (R = ((L.length : Int) == 5)) := Lib.hid (by
          rw [← HR.out, Bool.eq_iff_iff, decide_eq_true_iff, beq_iff_eq]
          constructor
          · intro q; have := q.1; omega
          · intro q
            have h5 : L.length = 5 := by omega
            have := HT.out
            rw [h5] at this
            exact this.yes h5)
        have hpi : ¬ (L.length : Int) < (L.length : Int) := by omega
        go_wp2
        go_ret
        exact ⟨by rw [HN.out]; rfl, hB⟩

set_option maxRecDepth 100000 in
set_option maxHeartbeats 4000000 in
theorem wordsWith_any : ∀ (n : Nat) (f : Nat → Nat) (w : World), sm f 5 = n → n ≤ 8 →
    Calls Try.prog 64 #[vecV f] w fun e w' => ∃ v, e = .returned v ∧ OwnS w' w.heap.size v ((wl n f).map bt) ∧ Below w.heap.size w w'
  | 0, f, w, hs, hn => by
    have hf := sm_none hs
    have e0 := hf 0 (by omega)
    have e1 := hf 1 (by omega)
    have e2 := hf 2 (by omega)
    have e3 := hf 3 (by omega)
    have e4 := hf 4 (by omega)
    have hV : vecV f = .agg #[.int .i64 0, .int .i64 0, .int .i64 0, .int .i64 0, .int .i64 0] := by unfold vecV; rw [e0, e1, e2, e3, e4]; rfl
    rw [hV]
    have eq : ∀ W, (Op.equalIn 10000 55 (.agg #[.int .i64 0, .int .i64 0, .int .i64 0, .int .i64 0, .int .i64 0]) (.agg #[.int .i64 0, .int .i64 0, .int .i64 0, .int .i64 0, .int .i64 0])).run Try.prog W = .ok true W := fun W => by
      have := eq5_run W 0 0 0 0 0 0 0 0 0 0
      simpa using this
    clear hf hs hn e0 e1 e2 e3 e4 hV
    go_enter Try.func64, Try.ntmps64
    go_wp2
    go_ret
    have hO : OwnS ((w.alloc (.cells #[.int .i64 0, .int .i64 0, .int .i64 0, .int .i64 0, .int .i64 0] 55)).alloc (.cells #[.string ⟨#[]⟩] 9)) w.heap.size (.slice (some ⟨w.heap.size + 1, 0, none⟩) 1 1) [⟨#[]⟩] := by
      have := own_base (B' := w.heap.size) (World.ownsRow_lit (w.alloc (.cells #[.int .i64 0, .int .i64 0, .int .i64 0, .int .i64 0, .int .i64 0] 55)) #[.string ⟨#[]⟩] (e := 9) 1 (Nat.le_refl _) (by decide) (by simp)) (by simp)
      simp only [World.size_alloc] at this
      exact this
    all_goals exact ⟨_, rfl, hO, (Below.new _ _).alloc (by simp) _⟩
  | n + 1, f, w, hs, hn => by
    obtain ⟨i0, hi, hz0, hz1, hz2⟩ := info_parts infoStr
    obtain ⟨R, hR⟩ : ∃ R, wl (n + 1) f = R := ⟨_, rfl⟩
    rw [hR]
    have HR := Lib.hid ((wl_succ n f).symm.trans hR)
    have HRL : Hid (R.length ≤ 390625) := Lib.hid (by
      rw [← hR]
      exact Nat.le_trans (wl_len _ _) (Nat.pow_le_pow_right (by decide) hn))
    have HS := Lib.hid hs
    have IH := Lib.hid (wordsWith_any n)
    have hne := sm_some hs
    have eq : ∀ W, (Op.equalIn 10000 55 (vecV f) (.agg #[.int .i64 0, .int .i64 0, .int .i64 0, .int .i64 0, .int .i64 0])).run Try.prog W = .ok false W := fun W => by
      have := eq5_run W (f 0 : Int) (f 1) (f 2) (f 3) (f 4) 0 0 0 0 0
      rw [decide_eq_false (by omega)] at this
      exact this
    have IX := Lib.hid fun j hj W => idx5 f j hj W
    have A0 := Lib.hid (Arr5.new w f)
    have OK : Hid (∀ j, ¬ f j = 0 → j < 5 → sm (dec1 f j) 5 = n) := Lib.hid fun j h1 h2 => sm_dec5 h2 h1 HS.out
    have hn7 : n ≤ 7 := by omega
    have HB0 := Lib.hid (Below.new w (.cells #[.int .i64 (f 0 : Int), .int .i64 (f 1 : Int), .int .i64 (f 2 : Int), .int .i64 (f 3 : Int), .int .i64 (f 4 : Int)] 55))
    clear hR hs hne
    go_enter Try.func64, Try.ntmps64
    go_wp2
    go_loopg [3, 14] 5 (fun gk s3 s14 wr => ∃ j : Nat, j + gk = 5 ∧ s14 = .int .i64 (j : Int) ∧ OwnS wr (w.heap.size + 1) s3 ((wlK n f j).map bt) ∧ Arr5 wr w.heap.size f ∧ Below w.heap.size w wr)
    case atStart => exact ⟨0, by omega, rfl, OwnS.nil _ _, A0.out, HB0.out⟩
    case round =>
      obtain ⟨j, hg, rfl, hown, hA, hB⟩ := hrel
      by_cases hj : j < 5
      · obtain ⟨g, rfl⟩ : ∃ g, gk = g + 1 := ⟨gk - 1, by omega⟩
        have hix := fun W => IX.out j hj W
        by_cases hq : f j = 0
        · have hN := wlK_skip (n := n) hq
          rw [hq] at hix
          have HN := Lib.hid hN
          clear hN hq
          go_wp2
          go_roundg g
          case measure => omega
          case rel => exact ⟨j + 1, by omega, by go_num, by rw [HN.out]; exact hown, hA, hB⟩
        · have HN := Lib.hid (wlK_more (n := n) hq)
          have HD := Lib.hid (OK.out j hq hj)
          obtain ⟨p, hp⟩ : ∃ p, f j = p + 1 := ⟨f j - 1, by omega⟩
          have hix2 : ∀ W, (Instr.index 55 (vecV f) (.int .i64 (j : Int))).run Try.prog W = .ok (.int .i64 ((p : Int) + 1)) W := fun W => by rw [hix W, hp]; rfl
          have z0 := hA.cell 0 (by decide)
          have z1 := hA.cell 1 (by decide)
          have z2 := hA.cell 2 (by decide)
          have z3 := hA.cell 3 (by decide)
          have z4 := hA.cell 4 (by decide)
          have hp0 : ((p : Int) + 1 == 0) = false := by rw [beq_eq_false_iff_ne]; omega
          have hkd : decide ((j : Int) < 5) = true := by simp; omega
          have HP := Lib.hid hp
          have HOW := Lib.hid hown
          have HA := Lib.hid hA
          have hbz := hB.size
          have hwl := hA.lt
          have hp8 : p ≤ 8 := by
            have h1 := sm_mono f (show j + 1 ≤ 5 by omega)
            rw [sm_succ, HS.out] at h1
            omega
          clear hq hp hix hown hA
          go_upto_region 9 with fail
          have A1 : Arr5 (wr.alloc (.cells #[.int .i64 (f 0 : Int), .int .i64 (f 1 : Int), .int .i64 (f 2 : Int), .int .i64 (f 3 : Int), .int .i64 (f 4 : Int)] 55)) wr.heap.size f := Arr5.new _ _
          have B1 : Below wr.heap.size wr (wr.alloc (.cells #[.int .i64 (f 0 : Int), .int .i64 (f 1 : Int), .int .i64 (f 2 : Int), .int .i64 (f 3 : Int), .int .i64 (f 4 : Int)] 55)) := Below.new _ _
          have hs1 : (wr.alloc (.cells #[.int .i64 (f 0 : Int), .int .i64 (f 1 : Int), .int .i64 (f 2 : Int), .int .i64 (f 3 : Int), .int .i64 (f 4 : Int)] 55)).heap.size = wr.heap.size + 1 := by simp
          have kc := A1.cell j hj
          rw [HP.out] at kc
          have kc' : (wr.alloc (.cells #[.int .i64 (f 0 : Int), .int .i64 (f 1 : Int), .int .i64 (f 2 : Int), .int .i64 (f 3 : Int), .int .i64 (f 4 : Int)] 55)).cell? ⟨wr.heap.size, j, none⟩ = some (.int .i64 ((p : Int) + 1)) := kc
          have kf := A1.frozen j
          have A2 := A1.set j hj p
          have hdec : ∀ i, i < 5 → (fun i => if i = j then p else f i) i = dec1 f j i := fun i _ => by
            unfold dec1
            by_cases e : i = j
            · subst e; simp [HP.out]
            · simp [e]
          have A3 := A2.congr hdec
          clear z0 z1 z2 z3 z4 A1 A2 hdec kc
          generalize wr.alloc (.cells #[.int .i64 (f 0 : Int), .int .i64 (f 1 : Int), .int .i64 (f 2 : Int), .int .i64 (f 3 : Int), .int .i64 (f 4 : Int)] 55) = W1 at *
          go_upto_region 10 with fail
          have BW : Below wr.heap.size wr (W1.setCell ⟨wr.heap.size, j, none⟩ (.int .i64 (p : Int))) := B1.setCell (p := ⟨wr.heap.size, j, none⟩) (Nat.le_refl _) _
          have hO2 := HOW.out.below BW
          have hA2 := HA.out.later BW
          have hB2 := hB.then BW
          have z0 := A3.cell 0 (by decide)
          have z1 := A3.cell 1 (by decide)
          have z2 := A3.cell 2 (by decide)
          have z3 := A3.cell 3 (by decide)
          have z4 := A3.cell 4 (by decide)
          clear A3 BW B1 hs1 kc' kf HOW HA hB
          generalize W1.setCell ⟨wr.heap.size, j, none⟩ (.int .i64 (p : Int)) = W2 at *
          obtain ⟨D, hD⟩ : ∃ D, wl n (dec1 f j) = D := ⟨_, rfl⟩
          have CI := Lib.hid fun W => IH.out (dec1 f j) W HD.out (by omega)
          rw [hD] at CI
          have HDn := Lib.hid hD
          clear hD
          go_wp2_with fail
          refine (CI.out _).mono ?_
          rintro e w3 ⟨v, rfl, o3, b3⟩
          obtain ⟨a3, c3, hv3⟩ := own_valueS o3
          rw [List.length_map] at hv3
          subst hv3
          have hO4 := hO2.below b3
          have hA4 := hA2.later b3
          have hB4 := hB2.then b3
          have hb23 := b3.size
          have hb02 := hB2.size
          have hX : ∀ k, u3.ownBlock = some k → k < W2.heap.size := fun k hk => (hO2.lt k hk).2
          obtain ⟨Wk, hWk⟩ : ∃ Wk, wlK n f j = Wk := ⟨_, rfl⟩
          rw [hWk] at hO4 HN
          have HD1 : Hid (D.length ≤ 78125) := Lib.hid (by
            rw [← HDn.out]
            exact Nat.le_trans (wl_len _ _) (Nat.pow_le_pow_right (by decide) hn7))
          have HW1 : Hid (Wk.length ≤ 390625) := Lib.hid (by
            rw [← hWk]
            have := wlK_len n f (5 ^ n) (fun j => wl_len n _) j
            have h2 : 5 ^ n ≤ 5 ^ 7 := Nat.pow_le_pow_right (by decide) hn7
            have h3 : j * 5 ^ n ≤ 5 * 5 ^ 7 := Nat.mul_le_mul (by omega) h2
            omega)
          have HDm : Hid (∀ u ∈ D, u.length ≤ 8) := Lib.hid fun u hu => by
            rw [← HDn.out] at hu
            have := (wl_mem n _ u hu).1
            omega
          have hO4' : OwnS w3 (w.heap.size + 1) u3 ((Wk ++ (D.take 0).map (letr j :: ·)).map bt) := by simpa using hO4
          have hX4 : ∀ k, u3.ownBlock = some k → k < W2.heap.size ∨ w3.heap.size ≤ k := fun k hk => .inl (hX k hk)
          rw [HDn.out] at HN
          clear hO4 hA2 hO2 hB2 b3 hX hWk HDn HD CI z0 z1 z2 z3 z4
          go_wp2_with fail
          go_loopg [3, 29] D.length (fun gk s3 s29 wr' => ∃ i : Nat, i + gk = D.length ∧ s29 = .int .i64 (i : Int) ∧ OwnS wr' (w.heap.size + 1) s3 ((Wk ++ (D.take i).map (letr j :: ·)).map bt) ∧ OwnS wr' W2.heap.size (.slice a3 D.length c3) (D.map bt) ∧ (∀ k, s3.ownBlock = some k → k < W2.heap.size ∨ w3.heap.size ≤ k) ∧ w3.heap.size ≤ wr'.heap.size ∧ (∀ k, (Value.slice a3 D.length c3).ownBlock = some k → k < w3.heap.size) ∧ Arr5 wr' w.heap.size f ∧ Below w.heap.size w wr')
          case atStart => exact ⟨0, by omega, rfl, hO4', o3, hX4, Nat.le_refl _, fun k hk => (o3.lt k hk).2, hA4, hB4⟩
          case round =>
            clear hO4' o3 hX4 hA4 hB4
            obtain ⟨i, hi2, rfl, hO, oD, hX, hsz, hXD, hA, hB⟩ := hrel
            by_cases hiD : i < D.length
            · obtain ⟨g2, rfl⟩ : ∃ g2, gk = g2 + 1 := ⟨gk - 1, by omega⟩
              obtain ⟨gD, capD, hvD, hBD, hgD, hcD, _, cellD, _⟩ := OwnS.row oD (by rw [List.length_map]; omega)
              rw [List.length_map] at hvD hcD
              injection hvD with q1 _ q3
              subst q1
              subst q3
              have kc : wr.cell? ⟨gD, i, none⟩ = some (.string (bt (D[i]'hiD))) := by
                have := cellD i (by rw [List.length_map]; exact hiD)
                rw [this]
                simp
              have hsz8 := HDm.out (D[i]'hiD) (List.getElem_mem hiD)
              obtain ⟨Q, hQ⟩ : ∃ Q, (Wk ++ (D.take i).map (letr j :: ·)).map bt = Q := ⟨_, rfl⟩
              rw [hQ] at hO
              have hQl : Q.length ≤ 468750 := by
                rw [← hQ]
                have h1 := HW1.out
                have h2 := HD1.out
                simp only [List.length_map, List.length_append, List.length_take]
                omega
              have HQ2 : Hid (Q ++ [lt1 j ++ bt (D[i]'hiD)] = (Wk ++ (D.take (i + 1)).map (letr j :: ·)).map bt) := Lib.hid (by
                rw [← hQ, List.take_succ_eq_append_getElem hiD, List.map_append, List.map_append, List.map_append, List.map_append, List.append_assoc]
                have he : lt1 j ++ bt (D[i]'hiD) = bt (letr j :: D[i]'hiD) := by
                  refine bl_inj ?_
                  rw [bl_append]
                  rfl
                rw [he]
                rfl)
              have henc := encode_letter j (by omega)
              have e1 := lt1_size j
              have e2 : (bt (D[i]'hiD)).size ≤ 8 := by rw [bt_size]; exact hsz8
              have hdi : (i : Int) < (D.length : Int) := by omega
              have hic : i < c3 := by omega
              have hi78 : i < 78125 := Nat.lt_of_lt_of_le hiD HD1.out
              have hbz := hB.size
              clear cellD hQ hsz8
              generalize bt (D[i]'hiD) = s at *
              generalize lt1 j = t at *
              have hsum : ∀ W, (Op.stringOp .add t s).run Try.prog W = .ok (.string (t ++ s)) W := fun W => run_string_add_sum W _ _ (by omega)
              generalize t ++ s = y at *
              go_wp2_with fail
              refine (letterOf_any (j : Int) _ (by omega) (by omega)).mono ?_
              rintro e w5 ⟨rfl, rfl⟩
              go_wp2_with (at_builtin; refine wpList_append_own_at _ rfl _ _ 31 rfl (w.heap.size + 1) 9 i0 (.string ⟨#[]⟩) 1 16 Try.underlying31 hi hz0 hz1 hz2 rfl (by decide) _ _ _ rfl (World.ownsRow.alloc hO _) ⟨wr.heap.size, 0, none⟩ 1 1 [.string y] rfl rfl (cell_new _ _ _) (by intro u hu; simp at hu; subst hu; rfl) (by unfold maxLen; omega) (by omega) (by simp; omega) ?_; intro v' w4 hown' hgrow hnil hat)
              have oD4 : OwnS w4 W2.heap.size (.slice (some ⟨gD, 0, none⟩) D.length c3) (D.map bt) := own_other (own_below oD (Below.new _ _)) hgrow (fun k hk e => by
                have h1 := (OwnS.lt oD k hk).1
                have h2 := hXD k hk
                rcases hX k e with h3 | h3 <;> omega)
              have hX4 : ∀ k, v'.ownBlock = some k → k < W2.heap.size ∨ w3.heap.size ≤ k := fun k hk => by
                rcases hat with e | e
                · exact hX k (e.symm.trans hk)
                · rw [e] at hk
                  have : (wr.alloc (.cells #[.string y] 9)).heap.size = k := Option.some.inj hk
                  rw [World.size_alloc] at this
                  omega
              have hA4 : Arr5 w4 w.heap.size f := (hgrow.block _ (by rw [World.size_alloc]; have := hA.lt; omega) (fun e => by
                have := (OwnS.lt hO _ e.symm).1
                omega)).trans (hA.later (Below.new _ _))
              have hB4 : Below w.heap.size w w4 := (hB.alloc hbz _).grown hgrow (by rw [World.size_alloc]; omega) (fun q hq => by have := (OwnS.lt hO q hq).1; omega)
              have hs4 : w3.heap.size ≤ w4.heap.size := by have := hgrow.size; rw [World.size_alloc] at this; omega
              have hO5 : OwnS w4 (w.heap.size + 1) v' ((Wk ++ (D.take (i + 1)).map (letr j :: ·)).map bt) := by
                rw [← HQ2.out]
                unfold OwnS
                rw [List.length_append, List.map_append]
                exact hown'
              clear hown' hgrow hnil hat hO oD hX hA hB HQ2 hsum
              go_roundg g2
              case measure => omega
              case rel => exact ⟨i + 1, by omega, by go_num, hO5, oD4, hX4, hs4, hXD, hA4, hB4⟩
            · obtain rfl : gk = 0 := by omega
              obtain rfl : i = D.length := by omega
              have hdi : ¬ (D.length : Int) < (D.length : Int) := by omega
              rw [List.take_length, ← HN.out] at hO
              go_wp2
              go_roundg g
              case measure => omega
              case rel => exact ⟨j + 1, by omega, by go_num, hO, hA, hB⟩
      · obtain rfl : gk = 0 := by omega
        obtain rfl : j = 5 := by omega
        rw [HR.out] at hown
        go_wp2
        go_ret
        exact ⟨_, rfl, OwnS.base hown (by omega), hB⟩

end Go.Proofs.Ytolboinemechpaa
