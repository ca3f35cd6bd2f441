/- Abelian powers: the model. -/
import Derived.Test.YtolboinemechpaaAb
import Derived.Test.YtolboinemechpaaPowersS
import Derived.Test.YtolboinemechpaaTurn
namespace Go.Proofs.Ytolboinemechpaa
set_option linter.unusedVariables false
set_option linter.unusedSimpArgs false
open Go.RowKit

set_option maxRecDepth 100000 in
set_option maxHeartbeats 2000000 in
theorem l07Power_any (x : ByteArray) (i m k : Nat) (w : World) (h : IsW x) (hi : i ≤ 60) (hm1 : 1 ≤ m) (hm2 : m ≤ 61) (hk1 : 1 ≤ k) (hk2 : k ≤ 60) :
    Calls Try.prog 89 #[.string x, .int .i64 (i : Int), .int .i64 (m : Int), .int .i64 (k : Int)] w fun e w' => e = .returned (.bool (decide (apB (bl x) k i m))) ∧ Below w.heap.size w w' := by
  obtain ⟨R, hR⟩ : ∃ R, decide (apB (bl x) k i m) = R := ⟨_, rfl⟩
  rw [hR]
  have HR := Lib.hid hR
  clear hR
  have hx := h.size
  obtain ⟨P, hP⟩ : ∃ P, k * m = P := ⟨_, rfl⟩
  have hPi : (m : Int) * (k : Int) = (P : Int) := by rw [← hP, Int.mul_comm]; exact (Int.natCast_mul k m).symm
  have hPl : P ≤ 4000 := by rw [← hP]; exact Nat.le_trans (Nat.mul_le_mul hk2 hm2) (by decide)
  have hPm : m ≤ P := by rw [← hP]; exact Nat.le_mul_of_pos_left m (by omega)
  have HP := Lib.hid hP
  clear hP
  by_cases hc : i + P ≤ x.size
  · have hci : (i : Int) + (P : Int) ≤ (x.size : Int) := by omega
    have CF := Lib.hid fun W => l01Count_ct (x.extract i (i + m)) W (h.sub _ _)
    have hsl := fun W => slice_nm x (i : Int) ((i : Int) + (m : Int)) i (i + m) rfl (by omega) (by omega) (by omega) W
    have H := Lib.hid h
    have hF : bl (x.extract i (i + m)) = ((bl x).drop i).take m := by rw [bl_extract, Nat.add_sub_cancel_left]
    rw [hF] at CF
    clear h hF
    go_enter Try.func89, Try.ntmps89
    go_wp2_with fail
    refine (CF.out _).mono ?_
    rintro e w1 ⟨v, rfl, o1, b1⟩
    have O1 := Lib.hid o1
    clear o1 hsl
    go_wp2
    go_loopg [10] k (fun gk j wr => ∃ r : Nat, 1 ≤ r ∧ r + gk = k + 1 ∧ r ≤ k ∧ j = .int .i64 (r : Int) ∧ Hid (apTo (bl x) i m r) ∧ Below w1.heap.size w1 wr)
    case atStart => exact ⟨1, by omega, by omega, by omega, rfl, Lib.hid (apTo.one _ _ _), Below.refl _ _⟩
    case round =>
      obtain ⟨r, hr1, hr, hrk', rfl, HT, hB⟩ := hrel
      by_cases hp : r < k
      · obtain ⟨g, rfl⟩ : ∃ g, gk = g + 1 := ⟨gk - 1, by omega⟩
        obtain ⟨P1, hP1⟩ : ∃ P, r * m = P := ⟨_, rfl⟩
        have hP1i : (r : Int) * (m : Int) = (P1 : Int) := by rw [← hP1]; exact (Int.natCast_mul r m).symm
        have hP2 : (r + 1) * m = P1 + m := by rw [← hP1, Nat.add_mul, Nat.one_mul]
        have hP2i : ((r : Int) + 1) * (m : Int) = (P1 : Int) + (m : Int) := by rw [Int.add_mul, hP1i, Int.one_mul]
        have hle : P1 + m ≤ P := by rw [← hP2, ← HP.out]; exact Nat.mul_le_mul_right m (by omega)
        have CG := Lib.hid fun W => l01Count_ct (x.extract (i + P1) (i + (P1 + m))) W (H.out.sub _ _)
        have hsl2 := fun W => slice_nm x ((i : Int) + (P1 : Int)) ((i : Int) + ((P1 : Int) + (m : Int))) (i + P1) (i + (P1 + m)) (by omega) (by omega) (by omega) (by omega) W
        have hG : bl (x.extract (i + P1) (i + (P1 + m))) = ((bl x).drop (i + P1)).take m := by rw [bl_extract, show i + (P1 + m) - (i + P1) = m by omega]
        rw [hG] at CG
        have HV : Hid (((bl x).drop (i + P1)).take m = ((bl x).drop (i + r * m)).take m) := Lib.hid (by rw [hP1])
        have hrk : (r : Int) < (k : Int) := by omega
        have hPl2 : P1 + m ≤ 4000 := by omega
        clear hG hP1 hP2
        obtain ⟨q, hq⟩ : ∃ q, vq (((bl x).drop i).take m) (((bl x).drop (i + P1)).take m) = q := ⟨_, rfl⟩
        have HQ := Lib.hid hq
        have hO := O1.out.below hB
        clear hq
        go_wp2_with fail
        refine (CG.out _).mono ?_
        rintro e w2 ⟨u, rfl, o2, b2⟩
        have hO2 := hO.below b2
        go_wp2_with fail
        refine (l07Same_any _ _ _ _ _ _ _ hO2 o2).mono ?_
        rintro e w3 ⟨rfl, b3⟩
        rw [HQ.out]
        have hB3 := (hB.then b2).then b3
        clear hO hO2 o2 hsl2 b2 b3
        cases q with
        | true =>
          have HT2 := Lib.hid (HT.out.succ (by rw [← HV.out]; exact HQ.out))
          go_wp2
          go_roundg g
          case measure => omega
          case rel => exact ⟨r + 1, by omega, by omega, by omega, by go_num, HT2, hB3⟩
        | false =>
          have HN : Hid (R = false) := Lib.hid (by
            rw [← HR.out]
            have := apB_miss (l := bl x) (k := k) (i := i) hm1 hr1 hp (by rw [← HV.out]; exact HQ.out)
            simp [this])
          go_wp2
          go_ret
          exact ⟨by rw [HN.out]; rfl, b1.then hB3⟩
      · obtain rfl : r = k := by omega
        have HN : Hid (R = true) := Lib.hid (by
          rw [← HR.out]
          have := HT.out.yes hm1 (by rw [HP.out, bl_len]; exact hc)
          simp [this])
        have hrk : ¬ (r : Int) < (r : Int) := by omega
        go_wp2
        go_ret
        exact ⟨by rw [HN.out]; rfl, b1.then hB⟩
  · have hci : ¬ (i : Int) + (P : Int) ≤ (x.size : Int) := by omega
    have HN : Hid (R = false) := Lib.hid (by
      rw [← HR.out]
      have : ¬ apB (bl x) k i m := fun h => hc (by have := h.1; rw [HP.out, bl_len] at this; exact this)
      simp [this])
    clear h
    go_enter Try.func89, Try.ntmps89
    go_wp2
    go_ret
    exact ⟨by rw [HN.out]; rfl, Below.refl _ _⟩

set_option maxRecDepth 100000 in
set_option maxHeartbeats 2000000 in
theorem l07Powers_any (x : ByteArray) (k : Nat) (w : World) (h : IsW x) (k1 : 2 ≤ k) (k2 : k ≤ 60) :
    Calls Try.prog 66 #[.string x, .int .i64 (k : Int)] w fun e w' => ∃ v, e = .returned v ∧ OwnR w' w.heap.size v (rowsN (aps (bl x) k)) ∧ Below w.heap.size w w' := by
  obtain ⟨i0, hi, hz0, hz1, hz2⟩ := info_parts infoSI
  have hx := h.size
  obtain ⟨R, hR⟩ : ∃ R, aps (bl x) k = R := ⟨_, rfl⟩
  rw [hR]
  have HR0 : Hid (pall (apB (bl x) k) x.size 0 x.size = R) := Lib.hid hR
  have HRL : Hid (R.length ≤ 3600) := Lib.hid (by rw [← hR]; exact aps_short _ hx)
  have H := Lib.hid h
  clear hR h
  go_enter Try.func66, Try.ntmps66
  go_wp2
  go_loopg [5, 7] x.size (fun g s5 s7 wr => ∃ (i : Nat) (pre : List (Nat × Nat)), i + g = x.size ∧ s7 = .int .i64 (i : Int) ∧ OwnR wr w.heap.size s5 (rowsN pre) ∧ Below w.heap.size w wr ∧ Hid (pre ++ pall (apB (bl x) k) x.size i g = R))
  case atStart => exact ⟨0, [], by omega, rfl, OwnR.lit0 w (Nat.le_refl _), Below.new _ _, HR0⟩
  case round =>
    obtain ⟨i, pre, hg, rfl, hown, hB, HR⟩ := hrel
    clear HR0
    by_cases hp : i < x.size
    · obtain ⟨g, rfl⟩ : ∃ g, gk = g + 1 := ⟨gk - 1, by omega⟩
      have HR1 : Hid (pre ++ prow (apB (bl x) k) i 1 x.size ++ pall (apB (bl x) k) x.size (i + 1) g = R) := Lib.hid (by rw [List.append_assoc]; exact HR.out)
      have hpd : decide ((i : Int) < (x.size : Int)) = true := by simp; omega
      go_wp2
      go_loopg [5, 8] x.size (fun g2 s5 s8 wr => ∃ (q : Nat) (pre : List (Nat × Nat)), 0 < q ∧ q + g2 = x.size + 1 ∧ s8 = .int .i64 (q : Int) ∧ OwnR wr w.heap.size s5 (rowsN pre) ∧ Below w.heap.size w wr ∧ Hid (pre ++ prow (apB (bl x) k) i q g2 ++ pall (apB (bl x) k) x.size (i + 1) g = R))
      case atStart => exact ⟨1, pre, by omega, by omega, rfl, hown, hB, HR1⟩
      case round =>
        clear hown hB HR HR1
        obtain ⟨q, pre2, hq, hg2, rfl, hown, hB, HR⟩ := hrel
        obtain ⟨P, hP⟩ : ∃ P, k * q = P := ⟨_, rfl⟩
        have hPi : (q : Int) * (k : Int) = (P : Int) := by rw [← hP, Int.mul_comm]; exact (Int.natCast_mul k q).symm
        have hPq : q ≤ P := by rw [← hP]; exact Nat.le_mul_of_pos_left q (by omega)
        have hPl : P ≤ 4000 := by rw [← hP]; exact Nat.le_trans (Nat.mul_le_mul k2 (show q ≤ 61 by omega)) (by decide)
        have HP := Lib.hid hP
        clear hP
        by_cases hc : i + P ≤ x.size
        · obtain ⟨g2, rfl⟩ : ∃ g2, gk = g2 + 1 := ⟨gk - 1, by omega⟩
          have CP := fun w => l07Power_any x i q k w H.out (by omega) (by omega) (by omega) (by omega) k2
          have hP0 : (0 : Int) ≤ (q : Int) * (k : Int) := by omega
          have hci : (i : Int) + (P : Int) ≤ (x.size : Int) := by omega
          by_cases he : apB (bl x) k i q
          · have HN : Hid (pre2 ++ [(i, q)] ++ prow (apB (bl x) k) i (q + 1) g2 ++ pall (apB (bl x) k) x.size (i + 1) g = R) := Lib.hid (by rw [← HR.out, prow_hit he]; simp)
            have HL : Hid (pre2.length < 3600) := Lib.hid (by
              have h1 := HRL.out
              have h2 := congrArg List.length HN.out
              simp only [List.length_append, List.length_cons, List.length_nil] at h2
              omega)
            simp only [he, decide_true] at CP
            have CP2 := Lib.hid CP
            clear he CP
            go_wp2_with fail
            refine (CP2.out _).mono ?_
            rintro e w2 ⟨rfl, b2⟩
            obtain ⟨us, own, rows⟩ := hown.below b2
            have hB2 := hB.then b2
            have hbz2 := hB2.size
            have hul := rows.1
            rw [rowsN_len] at hul
            have hu36 : us.length < 3600 := by have := HL.out; omega
            have HUL := Lib.hid hul
            clear hown hB b2 hul
            have ownA := World.ownsRow.alloc (World.ownsRow.alloc own (.cells #[.int .i64 (i : Int), .int .i64 (q : Int)] 2)) (.cells #[.slice (some ⟨w2.heap.size, 0, none⟩) 2 2] 30)
            go_wp2_with (at_builtin; refine wpList_append_own _ rfl _ _ 40 rfl w.heap.size 30 i0 (.slice none 0 0) 1 24 Try.underlying40 hi hz0 hz1 hz2 rfl (by decide) _ _ _ rfl ownA ⟨_, 0, none⟩ 1 1 [.slice (some ⟨w2.heap.size, 0, none⟩) 2 2] rfl rfl (cell_new1 _ _ _ _) (by intro u hu; simp at hu; subst hu; rfl) (by unfold maxLen; omega) (by omega) (by simp; omega) ?_; intro v' w3 hown' hgrow _)
            have hO := rows_grown own rows hbz2 hown' hgrow
            rw [← rowsN_snoc pre2 (i, q)] at hO
            have HO := Lib.hid hO
            have hB3 : Below w.heap.size w w3 := ((hB2.alloc hbz2 _).alloc (by simp; omega) _).grown hgrow (by simp; omega) (fun q hq => (own.lt q hq).1)
            clear hO hown' hgrow own rows
            go_roundg g2
            case measure => omega
            case rel => exact ⟨q + 1, pre2 ++ [(i, q)], by omega, by omega, by go_num, HO.out, hB3, HN⟩
          · have HN : Hid (pre2 ++ prow (apB (bl x) k) i (q + 1) g2 ++ pall (apB (bl x) k) x.size (i + 1) g = R) := Lib.hid (by rw [← HR.out, prow_miss he])
            simp only [he, decide_false] at CP
            have CP2 := Lib.hid CP
            clear he CP
            go_wp2_with fail
            refine (CP2.out _).mono ?_
            rintro e w2 ⟨rfl, b2⟩
            go_wp2_with fail
            go_roundg g2
            case measure => omega
            case rel => exact ⟨q + 1, pre2, by omega, by omega, by go_num, hown.below b2, hB.then b2, HN⟩
        · have hci : ¬ (i : Int) + (P : Int) ≤ (x.size : Int) := by omega
          have hP0 : (0 : Int) ≤ (q : Int) * (k : Int) := by omega
          have HN : Hid (pre2 ++ pall (apB (bl x) k) x.size (i + 1) g = R) := Lib.hid (by
            rw [← HR.out, prow_stop _ (by rw [HP.out, bl_len]; omega), List.append_nil])
          go_wp2
          go_roundg g
          case measure => omega
          case rel => exact ⟨i + 1, pre2, by omega, by go_num, hown, hB, HN⟩
    · obtain rfl : gk = 0 := by omega
      have HV : Hid (pre = R) := Lib.hid (by rw [← HR.out, pall, List.append_nil])
      go_wp2
      go_ret
      rw [← HV.out]
      exact ⟨_, rfl, hown, hB⟩

end Go.Proofs.Ytolboinemechpaa
