/- Abelian periods: the functions. -/
import Derived.Test.YtolboinemechpaaApI
namespace Go.Proofs.Ytolboinemechpaa
set_option linter.unusedVariables false
set_option linter.unusedSimpArgs false
open Go.RowKit

theorem rowsH_snoc (L : List (Nat × Nat)) (h m : Nat) : rowsN (L ++ [(h, m)]) = rowsN L ++ [[(h : Int), (m : Int)]] := rowsN_snoc L (h, m)

set_option maxRecDepth 100000 in
set_option maxHeartbeats 2000000 in
theorem impl_AbelianPeriods (x : ByteArray) (w : World) (sx : x.size ≤ maxLen) :
    Calls Try.prog 39 #[.string x] w (RetR (apdR x).1 (apdR x).2 w) := by
  by_cases hx : IsW x
  · rw [apdR_ok hx]
    obtain ⟨i0, hi, hz0, hz1, hz2⟩ := info_parts infoSI
    have hs := hx.size
    obtain ⟨R, hR⟩ : ∃ R, apd (bl x) = R := ⟨_, rfl⟩
    rw [hR]
    have HR0 : Hid (hall (apT (bl x)) 1 x.size = R) := Lib.hid hR
    have HRL : Hid (R.length ≤ 3660) := Lib.hid (by rw [← hR]; exact apd_short hs)
    have H := Lib.hid hx
    clear hR hx
    go_enter Try.func39, Try.ntmps39
    go_wp2_with fail
    refine (isWord_yes x _ H.out).mono ?_
    rintro e w1 ⟨rfl, b1⟩
    have HB1 := Lib.hid b1
    have hb1 := b1.size
    clear b1
    go_wp2_with fail
    go_loopg [5, 6] x.size (fun g s5 s6 wr => ∃ (m : Nat) (pre : List (Nat × Nat)), 1 ≤ m ∧ m + g = x.size + 1 ∧ s6 = .int .i64 (m : Int) ∧ OwnR wr w.heap.size s5 (rowsN pre) ∧ Below w.heap.size w wr ∧ Hid (pre ++ hall (apT (bl x)) m g = R))
    case atStart => exact ⟨1, [], by omega, by omega, rfl, OwnR.nil _ _, HB1.out, HR0⟩
    case round =>
      obtain ⟨m, pre, m1, hg, rfl, hown, hB, HR⟩ := hrel
      clear HR0
      by_cases hp : m ≤ x.size
      · obtain ⟨g, rfl⟩ : ∃ g, gk = g + 1 := ⟨gk - 1, by omega⟩
        have HR1 : Hid (pre ++ hrow (apT (bl x)) m 0 m ++ hall (apT (bl x)) (m + 1) g = R) := Lib.hid (by rw [List.append_assoc]; exact HR.out)
        have hpd : decide ((m : Int) ≤ (x.size : Int)) = true := by simp; omega
        go_wp2
        go_loopg [5, 7] m (fun g2 s5 s7 wr => ∃ (h : Nat) (pre : List (Nat × Nat)), h + g2 = m ∧ s7 = .int .i64 (h : Int) ∧ OwnR wr w.heap.size s5 (rowsN pre) ∧ Below w.heap.size w wr ∧ Hid (pre ++ hrow (apT (bl x)) m h g2 ++ hall (apT (bl x)) (m + 1) g = R))
        case atStart => exact ⟨0, pre, by omega, rfl, hown, hB, HR1⟩
        case round =>
          clear hown hB HR HR1
          obtain ⟨h, pre2, hg2, rfl, hown, hB, HR⟩ := hrel
          by_cases hc : h < m
          · obtain ⟨g2, rfl⟩ : ∃ g2, gk = g2 + 1 := ⟨gk - 1, by omega⟩
            have hci : (h : Int) < (m : Int) := by omega
            have hcd : decide ((h : Int) < (m : Int)) = true := by simp; omega
            by_cases hd : h + m ≤ x.size
            · have hdi : (h : Int) + (m : Int) ≤ (x.size : Int) := by omega
              have CP := fun w => hasAbelianPeriod_any x m h w H.out m1 hd
              by_cases he : apT (bl x) m h
              · have HN : Hid (pre2 ++ [(h, m)] ++ hrow (apT (bl x)) m (h + 1) g2 ++ hall (apT (bl x)) (m + 1) g = R) := Lib.hid (by rw [← HR.out, hrow_hit he]; simp)
                have HL : Hid (pre2.length < 3660) := Lib.hid (by
                  have h1 := HRL.out
                  have h2 := congrArg List.length HN.out
                  simp only [List.length_append, List.length_cons, List.length_nil] at h2
                  omega)
                simp only [he, decide_true] at CP
                have CP2 := Lib.hid CP
                clear he CP
                go_wp2_with fail
                refine (CP2.out _).mono ?_
                rintro e w2 ⟨rfl, b2⟩
                obtain ⟨us, own, rows⟩ := hown.below b2
                have hB2 := hB.then b2
                have hbz2 := hB2.size
                have hul := rows.1
                rw [rowsN_len] at hul
                have hu36 : us.length < 3660 := by have := HL.out; omega
                have HUL := Lib.hid hul
                clear hown hB b2 hul
                have ownA := World.ownsRow.alloc (World.ownsRow.alloc own (.cells #[.int .i64 (h : Int), .int .i64 (m : Int)] 2)) (.cells #[.slice (some ⟨w2.heap.size, 0, none⟩) 2 2] 30)
                go_wp2_with (at_builtin; refine wpList_append_own _ rfl _ _ 40 rfl w.heap.size 30 i0 (.slice none 0 0) 1 24 Try.underlying40 hi hz0 hz1 hz2 rfl (by decide) _ _ _ rfl ownA ⟨_, 0, none⟩ 1 1 [.slice (some ⟨w2.heap.size, 0, none⟩) 2 2] rfl rfl (cell_new1 _ _ _ _) (by intro u hu; simp at hu; subst hu; rfl) (by unfold maxLen; omega) (by omega) (by simp; omega) ?_; intro v' w3 hown' hgrow _)
                have hO := rows_grown own rows hbz2 hown' hgrow
                rw [← rowsH_snoc pre2 h m] at hO
                have HO := Lib.hid hO
                have hB3 : Below w.heap.size w w3 := ((hB2.alloc hbz2 _).alloc (by simp; omega) _).grown hgrow (by simp; omega) (fun q hq => (own.lt q hq).1)
                clear hO hown' hgrow own rows
                go_roundg g2
                case measure => omega
                case rel => exact ⟨h + 1, pre2 ++ [(h, m)], by omega, by go_num, HO.out, hB3, HN⟩
              · have HN : Hid (pre2 ++ hrow (apT (bl x)) m (h + 1) g2 ++ hall (apT (bl x)) (m + 1) g = R) := Lib.hid (by rw [← HR.out, hrow_miss he])
                simp only [he, decide_false] at CP
                have CP2 := Lib.hid CP
                clear he CP
                go_wp2_with fail
                refine (CP2.out _).mono ?_
                rintro e w2 ⟨rfl, b2⟩
                go_wp2_with fail
                go_roundg g2
                case measure => omega
                case rel => exact ⟨h + 1, pre2, by omega, by go_num, hown.below b2, hB.then b2, HN⟩
            · have hdi : ¬ (h : Int) + (m : Int) ≤ (x.size : Int) := by omega
              have HN : Hid (pre2 ++ hall (apT (bl x)) (m + 1) g = R) := Lib.hid (by
                rw [← HR.out, hrow_stop _ (by rw [bl_len]; exact hd), List.append_nil])
              go_wp2
              go_roundg g
              case measure => omega
              case rel => exact ⟨m + 1, pre2, by omega, by omega, by go_num, hown, hB, HN⟩
          · obtain rfl : gk = 0 := by omega
            have hci : ¬ (h : Int) < (m : Int) := by omega
            have hcd : decide ((h : Int) < (m : Int)) = false := by simp; omega
            have HN : Hid (pre2 ++ hall (apT (bl x)) (m + 1) g = R) := Lib.hid (by rw [← HR.out, hrow, List.append_nil])
            go_wp2
            go_roundg g
            case measure => omega
            case rel => exact ⟨m + 1, pre2, by omega, by omega, by go_num, hown, hB, HN⟩
      · obtain rfl : gk = 0 := by omega
        have HV : Hid (pre = R) := Lib.hid (by rw [← HR.out, hall, List.append_nil])
        go_wp2
        go_ret2
        rw [← HV.out]
        exact ⟨_, rfl, hown, hB⟩
  · rw [apdR_bad hx]
    have H := Lib.hid hx
    clear hx
    go_enter Try.func39, Try.ntmps39
    go_wp2_with fail
    refine (isWord_not x _ sx H.out).mono ?_
    rintro e w1 ⟨rfl, b1⟩
    go_wp2_with fail
    go_ret2
    exact ⟨_, rfl, OwnR.nil _ _, b1⟩

set_option maxRecDepth 100000 in
set_option maxHeartbeats 2000000 in
theorem spec_AbelianPeriods (x : ByteArray) (w : World) (sx : x.size ≤ maxLen) :
    Calls Try.prog 38 #[.string x] w (RetR (apdR x).1 (apdR x).2 w) := by
  by_cases hx : IsW x
  · rw [apdR_ok hx]
    obtain ⟨i0, hi, hz0, hz1, hz2⟩ := info_parts infoSI
    have hs := hx.size
    obtain ⟨R, hR⟩ : ∃ R, apd (bl x) = R := ⟨_, rfl⟩
    rw [hR]
    have HR0 : Hid (hall (apT (bl x)) 1 x.size = R) := Lib.hid hR
    have HRL : Hid (R.length ≤ 3660) := Lib.hid (by rw [← hR]; exact apd_short hs)
    have H := Lib.hid hx
    clear hR hx
    go_enter Try.func38, Try.ntmps38
    go_wp2_with fail
    refine (l01Is_yes x _ H.out).mono ?_
    rintro e w1 ⟨rfl, b1⟩
    have hb1 := b1.size
    have HB1 := Lib.hid (b1.then (Below.new w1 (.cells #[] 30)))
    have HO1 := Lib.hid (OwnR.lit0 w1 (B := w.heap.size) hb1)
    clear b1
    go_wp2_with fail
    go_loopg [4, 5] x.size (fun g s4 s5 wr => ∃ (m : Nat) (pre : List (Nat × Nat)), 1 ≤ m ∧ m + g = x.size + 1 ∧ s5 = .int .i64 (m : Int) ∧ OwnR wr w.heap.size s4 (rowsN pre) ∧ Below w.heap.size w wr ∧ Hid (pre ++ hall (apT (bl x)) m g = R))
    case atStart => exact ⟨1, [], by omega, by omega, rfl, HO1.out, HB1.out, HR0⟩
    case round =>
      obtain ⟨m, pre, m1, hg, rfl, hown, hB, HR⟩ := hrel
      clear HR0
      by_cases hp : m ≤ x.size
      · obtain ⟨g, rfl⟩ : ∃ g, gk = g + 1 := ⟨gk - 1, by omega⟩
        have HR1 : Hid (pre ++ hrow (apT (bl x)) m 0 m ++ hall (apT (bl x)) (m + 1) g = R) := Lib.hid (by rw [List.append_assoc]; exact HR.out)
        have hpd : decide ((m : Int) ≤ (x.size : Int)) = true := by simp; omega
        go_wp2
        go_loopg [4, 6] m (fun g2 s4 s6 wr => ∃ (h : Nat) (pre : List (Nat × Nat)), h + g2 = m ∧ s6 = .int .i64 (h : Int) ∧ OwnR wr w.heap.size s4 (rowsN pre) ∧ Below w.heap.size w wr ∧ Hid (pre ++ hrow (apT (bl x)) m h g2 ++ hall (apT (bl x)) (m + 1) g = R))
        case atStart => exact ⟨0, pre, by omega, rfl, hown, hB, HR1⟩
        case round =>
          clear hown hB HR HR1
          obtain ⟨h, pre2, hg2, rfl, hown, hB, HR⟩ := hrel
          by_cases hc : h < m
          · obtain ⟨g2, rfl⟩ : ∃ g2, gk = g2 + 1 := ⟨gk - 1, by omega⟩
            have hci : (h : Int) < (m : Int) := by omega
            have hcd : decide ((h : Int) < (m : Int)) = true := by simp; omega
            have CP := fun w => l07Period_any x h m w H.out (by omega) m1 (by omega)
            by_cases he : apT (bl x) m h
            · have HN : Hid (pre2 ++ [(h, m)] ++ hrow (apT (bl x)) m (h + 1) g2 ++ hall (apT (bl x)) (m + 1) g = R) := Lib.hid (by rw [← HR.out, hrow_hit he]; simp)
              have HL : Hid (pre2.length < 3660) := Lib.hid (by
                have h1 := HRL.out
                have h2 := congrArg List.length HN.out
                simp only [List.length_append, List.length_cons, List.length_nil] at h2
                omega)
              simp only [he, decide_true] at CP
              have CP2 := Lib.hid CP
              clear he CP
              go_wp2_with fail
              refine (CP2.out _).mono ?_
              rintro e w2 ⟨rfl, b2⟩
              obtain ⟨us, own, rows⟩ := hown.below b2
              have hB2 := hB.then b2
              have hbz2 := hB2.size
              have hul := rows.1
              rw [rowsN_len] at hul
              have hu36 : us.length < 3660 := by have := HL.out; omega
              have HUL := Lib.hid hul
              clear hown hB b2 hul
              have ownA := World.ownsRow.alloc (World.ownsRow.alloc own (.cells #[.int .i64 (h : Int), .int .i64 (m : Int)] 2)) (.cells #[.slice (some ⟨w2.heap.size, 0, none⟩) 2 2] 30)
              go_wp2_with (at_builtin; refine wpList_append_own _ rfl _ _ 40 rfl w.heap.size 30 i0 (.slice none 0 0) 1 24 Try.underlying40 hi hz0 hz1 hz2 rfl (by decide) _ _ _ rfl ownA ⟨_, 0, none⟩ 1 1 [.slice (some ⟨w2.heap.size, 0, none⟩) 2 2] rfl rfl (cell_new1 _ _ _ _) (by intro u hu; simp at hu; subst hu; rfl) (by unfold maxLen; omega) (by omega) (by simp; omega) ?_; intro v' w3 hown' hgrow _)
              have hO := rows_grown own rows hbz2 hown' hgrow
              rw [← rowsH_snoc pre2 h m] at hO
              have HO := Lib.hid hO
              have hB3 : Below w.heap.size w w3 := ((hB2.alloc hbz2 _).alloc (by simp; omega) _).grown hgrow (by simp; omega) (fun q hq => (own.lt q hq).1)
              clear hO hown' hgrow own rows
              go_roundg g2
              case measure => omega
              case rel => exact ⟨h + 1, pre2 ++ [(h, m)], by omega, by go_num, HO.out, hB3, HN⟩
            · have HN : Hid (pre2 ++ hrow (apT (bl x)) m (h + 1) g2 ++ hall (apT (bl x)) (m + 1) g = R) := Lib.hid (by rw [← HR.out, hrow_miss he])
              simp only [he, decide_false] at CP
              have CP2 := Lib.hid CP
              clear he CP
              go_wp2_with fail
              refine (CP2.out _).mono ?_
              rintro e w2 ⟨rfl, b2⟩
              go_wp2_with fail
              go_roundg g2
              case measure => omega
              case rel => exact ⟨h + 1, pre2, by omega, by go_num, hown.below b2, hB.then b2, HN⟩
          · obtain rfl : gk = 0 := by omega
            have hci : ¬ (h : Int) < (m : Int) := by omega
            have HN : Hid (pre2 ++ hall (apT (bl x)) (m + 1) g = R) := Lib.hid (by rw [← HR.out, hrow, List.append_nil])
            go_wp2
            go_roundg g
            case measure => omega
            case rel => exact ⟨m + 1, pre2, by omega, by omega, by go_num, hown, hB, HN⟩
      · obtain rfl : gk = 0 := by omega
        have HV : Hid (pre = R) := Lib.hid (by rw [← HR.out, hall, List.append_nil])
        go_wp2
        go_ret2
        rw [← HV.out]
        exact ⟨_, rfl, hown, hB⟩
  · rw [apdR_bad hx]
    have H := Lib.hid hx
    clear hx
    go_enter Try.func38, Try.ntmps38
    go_wp2_with fail
    refine (l01Is_no x _ sx H.out).mono ?_
    rintro e w1 ⟨rfl, b1⟩
    go_wp2_with fail
    go_ret2
    exact ⟨_, rfl, OwnR.nil _ _, b1⟩

theorem apdR_len (x : ByteArray) : (apdR x).1.length ≤ 3660 := by
  by_cases h : IsW x
  · rw [apdR_ok h, rowsN_len]; exact apd_short h.size
  · rw [apdR_bad h]; decide
theorem apdR_tot (x : ByteArray) : totR (apdR x).1 ≤ 7320 := by
  by_cases h : IsW x
  · rw [apdR_ok h, rowsN_tot]
    have : (apd (bl x)).length ≤ 3660 := apd_short h.size
    omega
  · rw [apdR_bad h]; decide

end Go.Proofs.Ytolboinemechpaa
