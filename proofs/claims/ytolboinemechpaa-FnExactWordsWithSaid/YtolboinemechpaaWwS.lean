/- The words with a vector: the model. -/
import Derived.Test.YtolboinemechpaaWw
import Derived.Test.YtolboinemechpaaLetter
import Derived.Test.YtolboinemechpaaTurn
import Derived.Test.YtolboinemechpaaNw
namespace Go.Proofs.Ytolboinemechpaa
set_option linter.unusedVariables false
set_option linter.unusedSimpArgs false
open Go.RowKit

set_option maxRecDepth 100000 in
set_option maxHeartbeats 1000000 in
theorem l01Own_any (B : Nat) (v : Value) (L : List Int) (w : World) (h : OwnI w B v L) (hl : L.length ≤ 1048576) (hn : 0 < L.length) :
    Calls Try.prog 88 #[v] w fun e w' => ∃ u, e = .returned u ∧ OwnI w' w.heap.size u L ∧ Below w.heap.size w w' := by
  obtain ⟨i0, hi, hz0, hz1, hz2⟩ := info_parts infoI64
  have o0 : (w.alloc (.cells #[] 2)).ownsRow w.heap.size 2 1 (.slice (some ⟨w.heap.size, 0, none⟩) 0 0) 0 [] := World.ownsRow_lit w #[] 0 (Nat.le_refl _) (by decide) (by simp)
  obtain ⟨g, cap, rfl, _, hg, hc, hm, cell, _⟩ := h.row hn
  clear h
  go_enter Try.func88, Try.ntmps88
  go_wp2_with (at_builtin; refine wpList_append_own _ rfl _ _ 30 rfl w.heap.size 2 i0 (.int .i64 0) 1 8 Try.underlying30 hi hz0 hz1 hz2 rfl (by decide) _ _ _ rfl o0 ⟨g, 0, none⟩ L.length cap (L.map (Value.int .i64)) rfl (by simp) (by
    intro j u hj
    obtain ⟨h1, rfl⟩ := List.getElem?_eq_some_iff.1 hj
    have h2 : j < L.length := by simpa using h1
    rw [List.getElem_map, show ((⟨g, 0, none⟩ : Addr).add j) = ⟨g, j, none⟩ by simp [Addr.add, eq_comm], (bcell (Below.new w _)).1 g j hg]
    exact cell j h2) (by intro u hu; obtain ⟨y, _, rfl⟩ := List.mem_map.1 hu; rfl) (by unfold maxLen; omega) (by omega) (by simp) ?_; intro v' w1 hown' hgrow _)
  go_ret
  refine ⟨_, rfl, ?_, ?_⟩
  · unfold OwnI
    have := hown'
    rw [Nat.zero_add, List.nil_append] at this
    exact this
  · exact ((Below.refl _ _).alloc (Nat.le_refl _) _).grown hgrow (by simp) (fun q hq => by
      have : w.heap.size = q := Option.some.inj hq
      omega)

theorem set_dec {L : List Int} {f : Nat → Nat} {j p : Nat} (hl : L.length = 5) (hf : ∀ i, i < 5 → L[i]? = some (f i : Int)) (hj : j < 5) (hp : f j = p + 1) : ∀ i, i < 5 → (L.set j (p : Int))[i]? = some (dec1 f j i : Int) := by
  intro i hi
  rw [List.getElem?_set]
  unfold dec1
  by_cases e : j = i
  · subst e
    rw [if_pos rfl, if_pos (by omega), if_pos rfl, hp]
    rfl
  · rw [if_neg e, if_neg (fun q => e q.symm)]
    exact hf i hi

set_option maxRecDepth 100000 in
set_option maxHeartbeats 4000000 in
theorem l07Words_any : ∀ (n : Nat) (f : Nat → Nat) (B : Nat) (v : Value) (L : List Int) (x : ByteArray) (w : World), OwnI w B v L → L.length = 5 → (∀ j, j < 5 → L[j]? = some (f j : Int)) → sm f 5 = n → n ≤ 8 → x.size + n ≤ 60 →
    Calls Try.prog 62 #[.string x, v] w fun e w' => ∃ u, e = .returned u ∧ OwnS w' w.heap.size u ((wl n f).map fun q => x ++ bt q) ∧ Below w.heap.size w w'
  | 0, f, B, v, L, x, w, h, hl, hf, hs, hn, hx => by
    obtain ⟨g0, cap, rfl, hg0, hcap, CL⟩ := own_five h hl hf
    have HZ := Lib.hid (sm_none hs)
    clear h hl hf hs hn
    have HB := Lib.hid (Below.new w (.cells #[] 9))
    go_enter Try.func62, Try.ntmps62
    go_wp2
    go_loopg [6, 7] 5 (fun gk s6 s7 wr => ∃ j : Nat, j + gk = 5 ∧ s7 = .int .i64 (j : Int) ∧ s6 = .bool true ∧ Below w.heap.size w wr)
    case atStart => exact ⟨0, by omega, rfl, rfl, HB.out⟩
    case round =>
      obtain ⟨j, hg, rfl, rfl, hB⟩ := hrel
      by_cases hj : j < 5
      · obtain ⟨g, rfl⟩ : ∃ g, gk = g + 1 := ⟨gk - 1, by omega⟩
        have kc : wr.cell? ⟨g0, j, none⟩ = some (.int .i64 0) := by rw [(bcell hB).1 g0 j hg0, CL.out j hj, HZ.out j hj]; rfl
        have hjc : j < cap := by omega
        go_wp2
        go_roundg g
        case measure => omega
        case rel => exact ⟨j + 1, by omega, by go_num, rfl, hB⟩
      · obtain rfl : gk = 0 := by omega
        obtain rfl : j = 5 := by omega
        have hO : OwnS (wr.alloc (.cells #[.string x] 9)) w.heap.size (.slice (some ⟨wr.heap.size, 0, none⟩) 1 1) ((wl 0 f).map fun q => x ++ bt q) := by
          have e : ((wl 0 f).map fun q => x ++ bt q) = [x] := by
            show [x ++ bt []] = [x]
            congr 1
            exact bl_inj (by rw [bl_append]; simp [bt])
          rw [e]
          exact own_base (B' := w.heap.size) (World.ownsRow_lit wr #[.string x] (e := 9) 1 (Nat.le_refl _) (by decide) (by simp)) hB.size
        go_wp2
        go_ret
        exact ⟨_, rfl, hO, hB.alloc hB.size _⟩
  | n + 1, f, B, v, L, x, w, h, hl, hf, hs, hn, hx => by
    obtain ⟨i0, hi, hz0, hz1, hz2⟩ := info_parts infoStr
    obtain ⟨R, hR⟩ : ∃ R, wl (n + 1) f = R := ⟨_, rfl⟩
    rw [hR]
    have HR := Lib.hid ((wl_succ n f).symm.trans hR)
    have HO := Lib.hid h
    have HL5 := Lib.hid hl
    have HF := Lib.hid hf
    obtain ⟨g0, cap, rfl, hg0, hcap, CL⟩ := own_five h hl hf
    have HS := Lib.hid hs
    have IH := Lib.hid (l07Words_any n)
    have HNZ := Lib.hid (sm_ex hs)
    have OK : Hid (∀ j, ¬ f j = 0 → j < 5 → sm (dec1 f j) 5 = n) := Lib.hid fun j h1 h2 => sm_dec5 h2 h1 HS.out
    have hn7 : n ≤ 7 := by omega
    have hx60 : x.size ≤ 59 := by omega
    have HX := Lib.hid hx
    have HB := Lib.hid (Below.new w (.cells #[] 9))
    have O0 : Hid (OwnS (w.alloc (.cells #[] 9)) w.heap.size (.slice (some ⟨w.heap.size, 0, none⟩) 0 0) []) := Lib.hid (World.ownsRow_lit w #[] 0 (Nat.le_refl _) (by decide) (by simp))
    clear hR hs h hl hf hx
    go_enter Try.func62, Try.ntmps62
    go_wp2
    go_loopg [5, 6, 7] 5 (fun gk s5 s6 s7 wr => ∃ (j : Nat) (b : Bool), j + gk = 5 ∧ s7 = .int .i64 (j : Int) ∧ s6 = .bool b ∧ Hid (b = true → ∀ i, i < j → f i = 0) ∧ OwnS wr w.heap.size s5 ((wlK n f j).map fun q => x ++ bt q) ∧ Below w.heap.size w wr)
    case atStart => exact ⟨0, true, by omega, rfl, rfl, Lib.hid (fun _ i h => by omega), O0.out, HB.out⟩
    case round =>
      obtain ⟨j, b, hg, rfl, rfl, HBb, hown, hB⟩ := hrel
      by_cases hj : j < 5
      · obtain ⟨g, rfl⟩ : ∃ g, gk = g + 1 := ⟨gk - 1, by omega⟩
        have kc : wr.cell? ⟨g0, j, none⟩ = some (.int .i64 (f j : Int)) := by rw [(bcell hB).1 g0 j hg0, CL.out j hj]
        have hjc : j < cap := by omega
        by_cases hq : f j = 0
        · have HN := Lib.hid (wlK_skip (n := n) hq)
          have HB2 : Hid (b = true → ∀ i, i < j + 1 → f i = 0) := Lib.hid fun e i hi => by
            by_cases e2 : i = j
            · rw [e2]; exact hq
            · exact HBb.out e i (by omega)
          rw [hq] at kc
          clear hq
          go_wp2
          go_roundg g
          case measure => omega
          case rel => exact ⟨j + 1, b, by omega, by go_num, rfl, HB2, by rw [HN.out]; exact hown, hB⟩
        · have HN := Lib.hid (wlK_more (n := n) hq)
          have HD := Lib.hid (OK.out j hq hj)
          obtain ⟨p, hp⟩ : ∃ p, f j = p + 1 := ⟨f j - 1, by omega⟩
          have HSD := Lib.hid (set_dec HL5.out HF.out hj hp)
          have kc' : wr.cell? ⟨g0, j, none⟩ = some (.int .i64 ((p : Int) + 1)) := by rw [kc, hp]; rfl
          have hp0 : ((p : Int) + 1 == 0) = false := by rw [beq_eq_false_iff_ne]; omega
          have hp8 : p ≤ 8 := by
            have h1 := sm_mono f (show j + 1 ≤ 5 by omega)
            rw [sm_succ, HS.out] at h1
            omega
          have hLj : L[j]? = some ((p : Int) + 1) := by rw [HF.out j hj, hp]; rfl
          have HLJ := Lib.hid hLj
          have OW := Lib.hid fun W (o : OwnI W B (.slice (some ⟨g0, 0, none⟩) 5 cap) L) => l01Own_any B _ L W o (by rw [HL5.out]; decide) (by rw [HL5.out]; decide)
          have hO1 := HO.out.below hB
          clear hq hp kc hLj
          go_wp2_with fail
          refine (OW.out _ hO1).mono ?_
          rintro e w2 ⟨u, rfl, o2, b2⟩
          obtain ⟨gu, cu, rfl, hBu, hgu, hcu, _, cellu, fru⟩ := o2.row (by rw [HL5.out]; decide)
          have k2 : w2.cell? ⟨gu, j, none⟩ = some (.int .i64 ((p : Int) + 1)) := by
            have h1 := HLJ.out
            rw [List.getElem?_eq_getElem (by rw [HL5.out]; exact hj)] at h1
            rw [cellu j (by rw [HL5.out]; exact hj), Option.some.inj h1]
          have f2 := fru j
          obtain ⟨hst, hgr⟩ := World.ownsRow.stored o2 j (.int .i64 (p : Int))
          rw [← List.map_set] at hst
          have hS3 : OwnI (w2.setCell ⟨gu, j, none⟩ (.int .i64 (p : Int))) wr.heap.size (.slice (some ⟨gu, 0, none⟩) L.length cu) (L.set j (p : Int)) := by
            unfold OwnI
            rw [List.length_set]
            exact hst
          have hB3 : Below wr.heap.size wr (w2.setCell ⟨gu, j, none⟩ (.int .i64 (p : Int))) := b2.setCell (p := ⟨gu, j, none⟩) hBu _
          have hown3 := OwnS.below hown hB3
          have hBB := hB.then hB3
          rw [HL5.out] at hcu
          rw [HL5.out] at hS3 ⊢
          have hju : j < cu := by omega
          clear hst hgr cellu fru o2 hB3 hown hO1 hB b2
          go_wp2_with fail
          generalize w2.setCell ⟨gu, j, none⟩ (.int .i64 (p : Int)) = w3 at *
          have e1 := lt1_size j
          have LT := Lib.hid (show (⟨#[letB (j : Int)]⟩ : ByteArray) = lt1 j from rfl)
          have hsum : ∀ W, (Op.stringOp .add x (lt1 j)).run Try.prog W = .ok (.string (x ++ lt1 j)) W := fun W => run_string_add_sum W _ _ (by omega)
          have hys : (x ++ lt1 j).size = x.size + 1 := by rw [ByteArray.size_append, lt1_size]
          obtain ⟨D, hD⟩ : ∃ D, wl n (dec1 f j) = D := ⟨_, rfl⟩
          have hDp : 0 < D.length := by rw [← hD]; exact wl_pos n _ HD.out
          have hDl : D.length ≤ 78125 := by
            rw [← hD]
            exact Nat.le_trans (wl_len _ _) (Nat.pow_le_pow_right (by decide) hn7)
          have CI := Lib.hid fun (o : OwnI w3 wr.heap.size (.slice (some ⟨gu, 0, none⟩) 5 cu) (L.set j (p : Int))) W (b : Below w3.heap.size w3 W) => IH.out (dec1 f j) _ _ (L.set j (p : Int)) (x ++ lt1 j) W (o.below b) (by rw [List.length_set]; exact HL5.out) HSD.out HD.out (by omega) (by have := HX.out; omega)
          obtain ⟨Q, hQ⟩ : ∃ Q, (wlK n f j).map (fun q => x ++ bt q) = Q := ⟨_, rfl⟩
          have hQl : Q.length ≤ 390625 := by
            rw [← hQ, List.length_map]
            have := wlK_len n f (5 ^ n) (fun j => wl_len n _) j
            have h2 : 5 ^ n ≤ 5 ^ 7 := Nat.pow_le_pow_right (by decide) hn7
            have h3 : j * 5 ^ n ≤ 5 * 5 ^ 7 := Nat.mul_le_mul (by omega) h2
            omega
          obtain ⟨E, hE⟩ : ∃ E, D.map (fun q => x ++ lt1 j ++ bt q) = E := ⟨_, rfl⟩
          have HQE : Hid (Q ++ E = (wlK n f (j + 1)).map fun q => x ++ bt q) := Lib.hid (by
            rw [HN.out, List.map_append, hQ, ← hE, hD, List.map_map]
            congr 1
            refine List.map_congr_left fun q _ => ?_
            refine bl_inj ?_
            simp only [Function.comp, bl_append, List.append_assoc]
            rfl)
          have hEl1 : 0 < E.length := by rw [← hE, List.length_map]; exact hDp
          have hEl2 : E.length ≤ 78125 := by rw [← hE, List.length_map]; exact hDl
          rw [hD, hE] at CI
          rw [hQ] at hown3
          clear hD hE hQ hDp hDl
          generalize lt1 j = t at *
          generalize x ++ t = y at *
          refine (l01Letter_any (j : Int) _ (by omega) (by omega)).mono ?_
          rintro e w4 ⟨rfl, b4⟩
          rw [LT.out]
          go_simp
          go_wp2_with fail
          refine (CI.out hS3 _ b4).mono ?_
          rintro e w5 ⟨u2, rfl, o5, b5⟩
          obtain ⟨g2, c2, rfl, _, hg2, hc2, hm2, cell2, _⟩ := OwnS.row o5 (by omega)
          have hown5 := (hown3.below b4).below b5
          have hBB5 := (hBB.then b4).then b5
          have hbz := hBB5.size
          have HC2 := Lib.hid cell2
          clear hown3 hS3 cell2 b4 b5 hBB o5
          have hnews : ∀ jj uu, (E.map Value.string)[jj]? = some uu → w5.cell? ((⟨g2, 0, none⟩ : Addr).add jj) = some uu := by
            intro jj uu hj2
            obtain ⟨h1, rfl⟩ := List.getElem?_eq_some_iff.1 hj2
            have h2 : jj < E.length := by simpa using h1
            rw [List.getElem_map, show ((⟨g2, 0, none⟩ : Addr).add jj) = ⟨g2, jj, none⟩ by simp [Addr.add, eq_comm]]
            exact HC2.out jj h2
          have hone : ∀ u ∈ E.map Value.string, u.oneCell' = true := by intro u hu; obtain ⟨y, _, rfl⟩ := List.mem_map.1 hu; rfl
          have HNW := Lib.hid hnews
          have HON := Lib.hid hone
          clear hnews hone
          go_simp
          go_wp2_with (at_builtin; refine wpList_append_own _ rfl _ _ 31 rfl w.heap.size 9 i0 (.string ⟨#[]⟩) 1 16 Try.underlying31 hi hz0 hz1 hz2 rfl (by decide) _ _ _ rfl hown5 ⟨g2, 0, none⟩ E.length c2 (E.map Value.string) rfl (by simp) HNW.out HON.out (by unfold maxLen; omega) (by omega) (by omega) ?_; intro v' w6 hown' hgrow hnl)
          have hO6 : OwnS w6 w.heap.size v' ((wlK n f (j + 1)).map fun q => x ++ bt q) := by
            rw [← HQE.out]
            unfold OwnS
            rw [List.length_append, List.map_append]
            exact hown'
          have hB6 : Below w.heap.size w w6 := hBB5.grown hgrow hbz (fun q hq => (OwnS.lt hown5 q hq).1)
          clear hown' hgrow hown5 hBB5
          go_roundg g
          case measure => omega
          case rel => exact ⟨j + 1, false, by omega, by go_num, rfl, Lib.hid (fun e => by cases e), hO6, hB6⟩
      · obtain rfl : gk = 0 := by omega
        obtain rfl : j = 5 := by omega
        have hb : b = false := by
          cases b with
          | false => rfl
          | true =>
            obtain ⟨i, hi, h0⟩ := HNZ.out
            exact absurd (HBb.out rfl i hi) h0
        subst hb
        rw [HR.out] at hown
        go_wp2
        go_ret
        exact ⟨_, rfl, hown, hB⟩

set_option maxRecDepth 100000 in
set_option maxHeartbeats 1000000 in
theorem spec_WordsWith (B : Nat) (v : Value) (L : List Int) (w : World) (h : OwnI w B v L) (hl : L.length ≤ 1048576) :
    Calls Try.prog 21 #[v] w (RetS (wwR L).1 (wwR L).2 w) := by
  by_cases h5 : L.length = 5
  · have HO := Lib.hid h
    have H5 := Lib.hid h5
    obtain ⟨g0, cap, rfl, hBg, hg0, hcap, hm, cell, _⟩ := h.row (by omega)
    have HC := Lib.hid cell
    obtain ⟨R, hR⟩ : ∃ R, wwR L = R := ⟨_, rfl⟩
    rw [hR]
    have HR := Lib.hid hR
    rw [h5] at hcap HO ⊢
    clear hR h cell
    have HN : Hid (¬ smallV L → R = ([], 2)) := Lib.hid fun q => HR.out.symm.trans (wwR_out q)
    clear hl hm h5
    go_enter Try.func21, Try.ntmps21
    go_wp2
    go_loopg [4, 5] 5 (fun gk s4 s5 wr => ∃ j s : Nat, j + gk = 5 ∧ s4 = .int .i64 (s : Int) ∧ s5 = .int .i64 (j : Int) ∧ s ≤ 8 * j ∧ Hid ((∀ i, i < j → 0 ≤ L.getD i 0) ∧ sm (fv L) j = s) ∧ Below w.heap.size w wr)
    case atStart => exact ⟨0, 0, by omega, rfl, rfl, by omega, Lib.hid ⟨fun i h => by omega, rfl⟩, Below.refl _ _⟩
    case round =>
      obtain ⟨j, s, hg, rfl, rfl, hs8, HT, hB⟩ := hrel
      by_cases hj : j < 5
      · obtain ⟨g, rfl⟩ : ∃ g, gk = g + 1 := ⟨gk - 1, by omega⟩
        have hjL : j < L.length := by rw [H5.out]; exact hj
        have kc : wr.cell? ⟨g0, j, none⟩ = some (.int .i64 (L[j]'hjL)) := by rw [(bcell hB).1 g0 j hg0]; exact HC.out j hjL
        have HG : Hid (L.getD j 0 = L[j]'hjL) := Lib.hid (by rw [List.getD_eq_getElem?_getD, List.getElem?_eq_getElem hjL]; rfl)
        have hjc : j < cap := by omega
        generalize L[j]'hjL = z at *
        by_cases hz : 0 ≤ z ∧ z ≤ 8
        · obtain ⟨n, rfl⟩ := Int.eq_ofNat_of_zero_le hz.1
          have hz1 := hz.1
          have hz2 := hz.2
          have HT2 : Hid ((∀ i, i < j + 1 → 0 ≤ L.getD i 0) ∧ sm (fv L) (j + 1) = s + n) := Lib.hid (by
            refine ⟨fun i hi => ?_, ?_⟩
            · by_cases e : i = j
              · rw [e, HG.out]; exact hz1
              · exact HT.out.1 i (by omega)
            · rw [sm_succ, HT.out.2]
              unfold fv
              rw [HG.out]
              rfl)
          clear hz
          go_wp2_with fail
          refine (l01In_yes _ _ _ _ hz1 hz2).mono ?_
          rintro e w1 ⟨rfl, b1⟩
          have kc2 : w1.cell? ⟨g0, j, none⟩ = some (.int .i64 (n : Int)) := by rw [(bcell b1).1 g0 j (Nat.lt_of_lt_of_le hg0 hB.size)]; exact kc
          have hB1 := hB.then b1
          clear b1 kc hB
          go_wp2_with fail
          go_roundg g
          case measure => omega
          case rel => exact ⟨j + 1, s + n, by omega, by go_num, by go_num, by omega, HT2, hB1⟩
        · have hno : R = ([], 2) := HN.out fun q => hz (by
            have h1 := q.2.1 j hj
            rw [HG.out] at h1
            have h2 := sm_mono (fv L) (show j + 1 ≤ 5 by omega)
            rw [sm_succ] at h2
            have h3 := q.2.2
            have h4 : fv L j = z.toNat := by unfold fv; rw [HG.out]
            omega)
          have HNO := Lib.hid hno
          clear hno
          go_wp2_with fail
          refine (l01In_no _ _ _ _ hz).mono ?_
          rintro e w1 ⟨rfl, b1⟩
          go_wp2_with fail
          go_ret2
          rw [HNO.out]
          exact ⟨_, rfl, OwnS.nil _ _, hB.then b1⟩
      · obtain rfl : gk = 0 := by omega
        obtain rfl : j = 5 := by omega
        by_cases hs : 8 < s
        · have hsi : (8 : Int) < (s : Int) := by omega
          have HNO := Lib.hid (HN.out fun q => by have := q.2.2; rw [HT.out.2] at this; omega)
          go_wp2
          go_ret2
          rw [HNO.out]
          exact ⟨_, rfl, OwnS.nil _ _, hB⟩
        · have hsi : ¬ (8 : Int) < (s : Int) := by omega
          have hsv : smallV L := ⟨H5.out, HT.out.1, by rw [HT.out.2]; omega⟩
          have hs12 : sm (fv L) 5 ≤ 12 := by rw [HT.out.2]; omega
          have CN := Lib.hid fun W (o : OwnI W B (.slice (some ⟨g0, 0, none⟩) 5 cap) L) => l07Number_any B _ L (fv L) W o H5.out hsv.get hs12
          have CW := Lib.hid fun W (o : OwnI W B (.slice (some ⟨g0, 0, none⟩) 5 cap) L) => l07Words_any (sm (fv L) 5) (fv L) B _ L ⟨#[]⟩ W o H5.out hsv.get rfl hsv.2.2 (by have := hsv.2.2; show 0 + _ ≤ 60; omega)
          have e2 : ((wl (sm (fv L) 5) (fv L)).map fun q => (⟨#[]⟩ : ByteArray) ++ bt q) = (wl (sm (fv L) 5) (fv L)).map bt := List.map_congr_left fun q _ => bl_inj (by rw [bl_append]; rfl)
          rw [e2] at CW
          have HK1 : Hid (300 < nw (fv L) → R = ([], 3)) := Lib.hid fun q => HR.out.symm.trans (wwR_many hsv q)
          have HK2 : Hid (¬ 300 < nw (fv L) → R = ((wl (sm (fv L) 5) (fv L)).map bt, 0)) := Lib.hid fun q => HR.out.symm.trans (wwR_ok hsv q)
          generalize (wl (sm (fv L) 5) (fv L)).map bt = D at *
          generalize nw (fv L) = q at *
          have hO := HO.out.below hB
          clear hsv hs12 e2
          go_wp2_with fail
          refine (CN.out _ hO).mono ?_
          rintro e w1 ⟨rfl, b1⟩
          have hO1 := hO.below b1
          by_cases hq : 300 < q
          · have hqi : (300 : Int) < (q : Int) := by omega
            have HNO := Lib.hid (HK1.out hq)
            go_wp2_with fail
            go_ret2
            rw [HNO.out]
            exact ⟨_, rfl, OwnS.nil _ _, hB.then b1⟩
          · have hqi : ¬ (300 : Int) < (q : Int) := by omega
            have HNO := Lib.hid (HK2.out hq)
            go_wp2_with fail
            refine (CW.out _ hO1).mono ?_
            rintro e w2 ⟨u, rfl, o2, b2⟩
            go_wp2_with fail
            go_ret2
            rw [HNO.out]
            have hB2 := (hB.then b1).then b2
            exact ⟨_, rfl, OwnS.base o2 (by have := (hB.then b1).size; omega), hB2⟩
  · rw [wwR_out (fun q => h5 q.1)]
    obtain ⟨a, c, rfl⟩ := own_value5 h
    have h5i : ((L.length : Int) == 5) = false := by rw [beq_eq_false_iff_ne]; omega
    have h5j : ¬ (L.length : Int) = 5 := by omega
    clear h
    go_enter Try.func21, Try.ntmps21
    go_wp2
    go_ret2
    exact ⟨_, rfl, OwnS.nil _ _, Below.refl _ _⟩

end Go.Proofs.Ytolboinemechpaa
