/- The longest factor of two words: the program. -/
import Derived.Test.YtbhgghajbdlfkaaLcf
import Derived.Test.YtbhgghajbdlfkaaFactor
import Derived.Test.YtbhgghajbdlfkaaPut
import Derived.Test.YtbhgghajbdlfkaaShelf
namespace Go.Proofs.Ytbhgghajbdlfkaa
set_option linter.unusedVariables false
set_option linter.unusedSimpArgs false
open Go.RowKit

theorem lrow_len (x u : ByteArray) (i : Nat) : (lrow x u i).length = u.size + 1 := by simp [lrow]
theorem lrow_get (x u : ByteArray) (i j : Nat) (h : j < u.size + 1) : (lrow x u i).getD j 0 = (lce x u i j : Int) := by
  rw [List.getD_eq_getElem?_getD]
  simp [lrow, h]

set_option maxRecDepth 100000 in
set_option maxHeartbeats 2000000 in
theorem impl_LongestCommonFactor (x u : ByteArray) (w : World) (sx : x.size ≤ maxLen) (su : u.size ≤ maxLen) :
    Calls Try.prog 47 #[.string x, .string u] w fun e w' => e = .returned (.tuple #[.string (lcfR x u).1, .int .i64 (lcfR x u).2]) ∧ Below w.heap.size w w' := by
  by_cases h : IsW x ∧ IsW u
  · rw [lcfR_ok h]
    have hx := h.1.size
    have hu := h.2.size
    have HB := Lib.hid (bestW_size x u hx)
    have CL := Lib.hid fun w => commonLengths_any x u w hx hu
    have hbl := HB.out (x.size + 1) (Nat.le_refl _)
    obtain ⟨R, HR0⟩ : ∃ R, R = bestW x u (x.size + 1) := ⟨_, rfl⟩
    rw [← HR0] at hbl ⊢
    have HR := Lib.hid HR0
    have H := Lib.hid h
    clear h HR0
    go_enter Try.func47, Try.ntmps47
    go_wp2_with (first
      | (go_at_call 74; refine (areWords2_yes _ x u _ (by simp) (by simp [go_sem]) (by simp [go_sem]) H.out.1 H.out.2).mono ?_; rintro e w1 ⟨rfl, b1⟩)
      | (go_at_call 75; refine (CL.out _).mono ?_; rintro e w2 ⟨gR, gT, rfl, lR, lT, cR, cT, b2⟩))
    have B2 := ((Below.new w _).then b1).then b2
    have hbz := B2.size
    have CR := Lib.hid cR
    have CT := Lib.hid cT
    clear b1 b2 cR cT
    go_loopg [6, 19] (x.size + 1) (fun gg s6 s19 wr => ∃ k : Nat, k + gg = x.size + 1 ∧ s19 = .int .i64 (k : Int) ∧ s6 = .string (bestW x u k) ∧ Below w2.heap.size w2 wr)
    case atStart => exact ⟨0, by omega, rfl, rfl, Below.refl _ _⟩
    case round =>
      obtain ⟨k, hk, rfl, rfl, hB⟩ := hrel
      by_cases hpk : k < x.size + 1
      · obtain ⟨gq, rfl⟩ : ∃ q, gk = q + 1 := ⟨gk - 1, by omega⟩
        have hpi : (k : Int) < (x.size : Int) + 1 := by omega
        have ck := (hB.cell (p := ⟨gR, k, none⟩) lR).trans (CR.out k (by omega))
        obtain ⟨m1, m2, m3, m4⟩ := lmax_spec x u k (by omega)
        have HMX : Hid (∀ W, Below w2.heap.size w2 W → Calls Try.prog 76 #[.slice (some ⟨gT, k * (u.size + 1), none⟩) (u.size + 1) (u.size + 1)] W fun e w' => e = .returned (.int .i64 (lmax x u k : Int)) ∧ w' = W) := Lib.hid fun W hW => by
          have := Try.slices_Max_int gT (k * (u.size + 1)) (u.size + 1) (u.size + 1) (lrow x u k) W (by omega) (by rw [lrow_len]; omega) (by omega) (fun j hj => by rw [lrow_len] at hj; rw [lrow_get x u k j hj]; exact (hW.cell (p := ⟨gT, k * (u.size + 1) + j, none⟩) lT).trans (CT.out k j (by omega) (by omega)))
          rw [← lrow_len x u k, List.take_length, m1, lrow_len] at this
          exact this
        have hs := fun W => slice_mid x k (lmax x u k) m4 W
        have hsz := cand_size x u k (by omega)
        unfold candW at hsz
        have HS : Hid (bestW x u (k + 1) = if betterB (x.extract k (k + lmax x u k)) (bestW x u k) = true then x.extract k (k + lmax x u k) else bestW x u k) := Lib.hid rfl
        have hbk := HB.out k (by omega)
        have HK := Lib.hid hk
        clear m1 m2 m3 hk
        generalize k * (u.size + 1) = lo at *
        generalize x.extract k (k + lmax x u k) = t at *
        generalize lmax x u k = m at *
        generalize bestW x u k = b at *
        by_cases q1 : b.size < t.size
        · have q1i : (b.size : Int) < (t.size : Int) := by omega
          have hb2 : betterB t b = true := (better_iff t b).2 (.inl q1)
          have HS2 : Hid (bestW x u (k + 1) = t) := Lib.hid (by rw [HS.out, if_pos hb2])
          clear hb2
          go_wp2_with (go_at_call 76; refine (HMX.out _ hB).mono ?_; rintro e w3 ⟨rfl, rfl⟩)
          go_roundg gq
          case measure => omega
          case rel => exact ⟨k + 1, by have := HK.out; omega, by go_num, by rw [HS2.out], hB⟩
        · have q1i : ¬ (b.size : Int) < (t.size : Int) := by omega
          by_cases q2 : t.size = b.size
          · have q2i : (t.size : Int) = (b.size : Int) := by omega
            by_cases q3 : wlt t b
            · obtain ⟨f1, f2⟩ := lt_facts q3
              have hb2 : betterB t b = true := (better_iff t b).2 (.inr ⟨q2, q3⟩)
              have HS2 : Hid (bestW x u (k + 1) = t) := Lib.hid (by rw [HS.out, if_pos hb2])
              clear hb2
              go_wp2_with (go_at_call 76; refine (HMX.out _ hB).mono ?_; rintro e w3 ⟨rfl, rfl⟩)
              go_roundg gq
              case measure => omega
              case rel => exact ⟨k + 1, by have := HK.out; omega, by go_num, by rw [HS2.out], hB⟩
            · have f1 : Op.bytesLess t.toList b.toList = false := by
                by_cases q4 : t = b
                · subst q4; exact (eq_facts t).1
                · exact (gt_facts (wlt_tri q3 q4)).1
              have hb2 : ¬ betterB t b = true := fun h => by rcases (better_iff t b).1 h with h | ⟨_, h⟩ <;> first | omega | exact q3 h
              have HS2 : Hid (bestW x u (k + 1) = b) := Lib.hid (by rw [HS.out, if_neg hb2])
              clear hb2
              go_wp2_with (go_at_call 76; refine (HMX.out _ hB).mono ?_; rintro e w3 ⟨rfl, rfl⟩)
              go_roundg gq
              case measure => omega
              case rel => exact ⟨k + 1, by have := HK.out; omega, by go_num, by rw [HS2.out], hB⟩
          · have q2i : ¬ (t.size : Int) = (b.size : Int) := by omega
            have q2b : ((t.size : Int) == (b.size : Int)) = false := by rw [beq_eq_false_iff_ne]; exact q2i
            have hb2 : ¬ betterB t b = true := fun h => by rcases (better_iff t b).1 h with h | ⟨h, _⟩ <;> omega
            have HS2 : Hid (bestW x u (k + 1) = b) := Lib.hid (by rw [HS.out, if_neg hb2])
            clear hb2
            go_wp2_with (go_at_call 76; refine (HMX.out _ hB).mono ?_; rintro e w3 ⟨rfl, rfl⟩)
            go_roundg gq
            case measure => omega
            case rel => exact ⟨k + 1, by have := HK.out; omega, by go_num, by rw [HS2.out], hB⟩
      · obtain rfl : gk = 0 := by omega
        obtain rfl : k = x.size + 1 := by omega
        have hpi : ¬ (((x.size + 1 : Nat) : Int) < (x.size : Int) + 1) := by omega
        rw [← HR.out]
        have hB2 := B2.trans (hB.mono hbz)
        clear hB B2 hk
        go_wp2_with (go_at_call 63; refine (strings_Clone _ _ (by omega)).mono ?_; rintro e w3 ⟨rfl, b3⟩)
        go_ret2
        exact ⟨rfl, hB2.then b3⟩
  · rw [lcfR_bad h]
    have H := Lib.hid h
    clear h
    go_enter Try.func47, Try.ntmps47
    go_wp2_with (go_at_call 74; refine (areWords2_no _ x u _ (by simp) (by simp [go_sem]) (by simp [go_sem]) sx su H.out).mono ?_; rintro e w1 ⟨rfl, b1⟩)
    go_ret2
    exact ⟨rfl, (Below.new w _).then b1⟩

end Go.Proofs.Ytbhgghajbdlfkaa
