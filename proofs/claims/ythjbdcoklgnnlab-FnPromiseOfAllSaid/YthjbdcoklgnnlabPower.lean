/- Powers: the program and the model. -/
import Derived.Test.YthjbdcoklgnnlabTurn
import Derived.Test.YthjbdcoklgnnlabLib
import Derived.Test.YthjbdcoklgnnlabPowPlain
namespace Go.Proofs.Ythjbdcoklgnnlab
set_option linter.unusedVariables false
set_option linter.unusedSimpArgs false
open Go.RowKit

set_option maxRecDepth 100000 in
set_option maxHeartbeats 1000000 in
theorem impl_PowerOf (x : ByteArray) (k : Int) (w : World) (sx : x.size ≤ maxLen) (wk : (Lit.int .i64 k).wf = true) :
    Calls Try.prog 75 #[.string x, .int .i64 k] w fun e w' => e = .returned (.tuple #[.string (powR x k).1, .int .i64 (powR x k).2]) ∧ Below w.heap.size w w' := by
  by_cases h : IsW x
  · have h1 := h.size
    by_cases hk : k < 0 ∨ 1000 < k
    · rw [powR_out h hk]
      have H := Lib.hid h
      clear h
      rcases hk with hk | hk
      · go_enter Try.func75, Try.ntmps75
        go_wp2_with (go_at_call 85; refine (isWord_yes x _ H.out).mono ?_; rintro e w1 ⟨rfl, b1⟩)
        go_ret2
        exact ⟨rfl, b1⟩
      · have hk0 : 0 ≤ k := by omega
        go_enter Try.func75, Try.ntmps75
        go_wp2_with (go_at_call 85; refine (isWord_yes x _ H.out).mono ?_; rintro e w1 ⟨rfl, b1⟩)
        go_ret2
        exact ⟨rfl, b1⟩
    · obtain ⟨n, rfl⟩ := Int.eq_ofNat_of_zero_le (show 0 ≤ k by omega)
      have hn : n ≤ 1000 := by omega
      clear hk
      have hmul : ((x.size * n : Nat) : Int) = (x.size : Int) * n := Int.natCast_mul _ _
      have hle : x.size * n ≤ 60 * 1000 := Nat.mul_le_mul h1 hn
      have m0 : (0 : Int) ≤ (x.size : Int) * n := by omega
      have m1 : (x.size : Int) * n ≤ 60000 := by omega
      by_cases hl : 60 < x.size * n
      · rw [powR_long h hn hl]
        have H := Lib.hid h
        have hl2 : (60 : Int) < (x.size : Int) * n := by omega
        clear h hmul hl hle
        go_enter Try.func75, Try.ntmps75
        go_wp2_with (go_at_call 85; refine (isWord_yes x _ H.out).mono ?_; rintro e w1 ⟨rfl, b1⟩)
        go_ret2
        exact ⟨rfl, b1⟩
      · rw [powR_ok h hn (by omega)]
        have H := Lib.hid h
        have HL : Hid (x.size * n ≤ 60) := Lib.hid (by omega)
        have hl2 : (x.size : Int) * n ≤ 60 := by omega
        clear h hmul hl hle
        go_enter Try.func75, Try.ntmps75
        go_wp2_with (go_at_call 85; refine (isWord_yes x _ H.out).mono ?_; rintro e w1 ⟨rfl, b1⟩)
        refine (Try.strings_Repeat x n _ (by omega) (by have := HL.out; omega)).mono ?_
        rintro e w2 ⟨rfl, b2⟩
        have hps : (pow x n).size ≤ 281474976710656 := by rw [pow_size]; have := HL.out; omega
        have HPS := Lib.hid hps
        clear hps
        rw [show (⟨(Lib.repeatL x.data.toList n).toArray⟩ : ByteArray) = pow x n from rfl]
        go_wp2_with fail
        refine (strings_Clone _ _ HPS.out).mono ?_
        rintro e w3 ⟨rfl, b3⟩
        go_wp2_with fail
        go_ret2
        exact ⟨rfl, (b1.then b2).then b3⟩
  · rw [powR_bad h]
    have H := Lib.hid h
    clear h
    go_enter Try.func75, Try.ntmps75
    go_wp2_with (go_at_call 85; refine (isWord_not x _ sx H.out).mono ?_; rintro e w1 ⟨rfl, b1⟩)
    go_ret2
    exact ⟨rfl, b1⟩

set_option maxRecDepth 100000 in
set_option maxHeartbeats 1000000 in
theorem spec_PowerOf (x : ByteArray) (k : Int) (w : World) (sx : x.size ≤ maxLen) (wk : (Lit.int .i64 k).wf = true) :
    Calls Try.prog 81 #[.string x, .int .i64 k] w fun e w' => e = .returned (.tuple #[.string (powR x k).1, .int .i64 (powR x k).2]) ∧ Below w.heap.size w w' := by
  by_cases h : IsW x
  · have h1 := h.size
    by_cases hk : k < 0 ∨ 1000 < k
    · rw [powR_out h hk]
      have H := Lib.hid h
      clear h
      have HK := Lib.hid hk
      clear hk
      go_enter Try.func81, Try.ntmps81
      go_wp2_with fail
      refine (l01Is_yes _ _ H.out).mono ?_
      rintro e w1 ⟨rfl, b1⟩
      go_wp2_with fail
      refine (l01In_no _ _ _ _ (by have := HK.out; omega)).mono ?_
      rintro e w2 ⟨rfl, b2⟩
      go_wp2_with fail
      go_ret2
      exact ⟨rfl, b1.then b2⟩
    · obtain ⟨n, rfl⟩ := Int.eq_ofNat_of_zero_le (show 0 ≤ k by omega)
      have hn : n ≤ 1000 := by omega
      clear hk
      have hmul : ((x.size * n : Nat) : Int) = (x.size : Int) * n := Int.natCast_mul _ _
      have hle : x.size * n ≤ 60 * 1000 := Nat.mul_le_mul h1 hn
      have m0 : (0 : Int) ≤ (x.size : Int) * n := by omega
      have m1 : (x.size : Int) * n ≤ 60000 := by omega
      by_cases hl : 60 < x.size * n
      · rw [powR_long h hn hl]
        have H := Lib.hid h
        have hl2 : (60 : Int) < (x.size : Int) * n := by omega
        clear h hmul hl hle
        go_enter Try.func81, Try.ntmps81
        go_wp2_with fail
        refine (l01Is_yes _ _ H.out).mono ?_
        rintro e w1 ⟨rfl, b1⟩
        go_wp2_with fail
        refine (l01In_yes _ _ _ _ (by omega) (by omega)).mono ?_
        rintro e w2 ⟨rfl, b2⟩
        go_wp2_with fail
        go_ret2
        exact ⟨rfl, b1.then b2⟩
      · rw [powR_ok h hn (by omega)]
        have H := Lib.hid h
        have HL : Hid (x.size * n ≤ 60) := Lib.hid (by omega)
        have hl2 : (x.size : Int) * n ≤ 60 := by omega
        clear h hmul hl hle
        by_cases hx : x.size = 0
        · obtain rfl : x = ⟨#[]⟩ := by
            apply ByteArray.ext
            exact Array.eq_empty_of_size_eq_zero hx
          rw [pow_empty]
          clear m0 m1 hl2 h1 hx sx
          go_enter Try.func81, Try.ntmps81
          go_wp2_with fail
          refine (l01Is_yes _ _ H.out).mono ?_
          rintro e w1 ⟨rfl, b1⟩
          go_wp2_with fail
          refine (l01In_yes _ _ _ _ (by omega) (by omega)).mono ?_
          rintro e w2 ⟨rfl, b2⟩
          have B2 := b1.then b2
          go_wp2_with fail
          refine wp_loop_rounds 1 ?_
          rw [rounds_succ]
          by_cases hn0 : 0 < n
          · go_wp2
            go_ret2
            exact ⟨rfl, B2⟩
          · go_wp2
            go_ret2
            exact ⟨rfl, B2⟩
        · have he : x.toList ≠ [] := by
            rw [Lib.toList_data]
            intro e
            apply hx
            show x.data.size = 0
            rw [← Array.length_toList, e]
            rfl
          have hne : (!x.toList.isEmpty) = true := by
            cases hq : x.toList with
            | nil => exact absurd hq he
            | cons a b => rfl
          have hxp : 0 < x.size := by omega
          clear he hx
          go_enter Try.func81, Try.ntmps81
          go_wp2_with fail
          refine (l01Is_yes _ _ H.out).mono ?_
          rintro e w1 ⟨rfl, b1⟩
          go_wp2_with fail
          refine (l01In_yes _ _ _ _ (by omega) (by omega)).mono ?_
          rintro e w2 ⟨rfl, b2⟩
          have B2 := b1.then b2
          clear b1 b2
          go_wp2_with fail
          go_loopw [1, 6] (fun q o wr => ∃ (j : Nat) (t : ByteArray), j ≤ n ∧ q = .int .i64 ((n : Int) - j) ∧ o = .string t ∧ t.size ≤ 60 ∧ Hid (t = pow x j) ∧ Below w.heap.size w wr) (fun q _ _ => (intOf q).toNat)
          case atStart => exact ⟨0, ⟨#[]⟩, Nat.zero_le _, by simp, rfl, by decide, Lib.hid (pow_zero x).symm, B2⟩
          case round =>
            obtain ⟨j, t, hj, rfl, rfl, ht, HT, hB⟩ := hrel
            by_cases hp : j < n
            · have hts : (t ++ x).size ≤ 60 := by
                rw [HT.out, pow_succ, pow_size]
                exact Nat.le_trans (Nat.mul_le_mul (Nat.le_refl _) (by omega)) HL.out
              have HTS := Lib.hid hts
              clear hts
              go_wp2
              go_roundw
              case rel => exact ⟨j + 1, t ++ x, by omega, by go_num, rfl, HTS.out, Lib.hid (by rw [HT.out, pow_succ]), hB⟩
              case measure => simp [intOf]; omega
            · have hke : n ≤ j := by omega
              have HE : Hid (j = n) := Lib.hid (by omega)
              go_wp2
              go_ret2
              exact ⟨by rw [HT.out, HE.out]; rfl, hB⟩
  · rw [powR_bad h]
    have H := Lib.hid h
    clear h
    go_enter Try.func81, Try.ntmps81
    go_wp2_with (go_at_call 83; refine (l01Is_no x _ sx H.out).mono ?_; rintro e w1 ⟨rfl, b1⟩)
    go_ret2
    exact ⟨rfl, b1⟩

end Go.Proofs.Ythjbdcoklgnnlab
