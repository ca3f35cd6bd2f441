/- The lengths of the longest palindromes at the ends of beginnings: the program and the model. -/
import Derived.Test.YthjbdcoklgnnlaaPalEnd
import Derived.Test.YthjbdcoklgnnlaaInts
namespace Go.Proofs.Ythjbdcoklgnnlaa
set_option linter.unusedVariables false
set_option linter.unusedSimpArgs false
open Go.RowKit

set_option maxRecDepth 100000 in
set_option maxHeartbeats 1000000 in
theorem impl_EndLengths (x : ByteArray) (w : World) (sx : x.size ≤ maxLen) :
    Calls Try.prog 29 #[.string x] w (RetI (endsR x).1 (endsR x).2 w) := by
  obtain ⟨i0, hi, hz0, hz1, hz2⟩ := info_parts infoI64
  by_cases h : IsW x
  · rw [endsR_ok h]
    have h1 := h.size
    have H := Lib.hid h
    clear h
    go_enter Try.func29, Try.ntmps29
    go_wp2_with fail
    refine (isWord_yes x _ H.out).mono ?_
    rintro e w1 ⟨rfl, b1⟩
    go_wp2_with fail
    go_loopw [4, 11] (fun v i wr => ∃ k : Nat, k ≤ x.size ∧ i = .int .i64 (k : Int) ∧ OwnI wr w.heap.size v (endsL x k) ∧ Below w.heap.size w wr)
      (fun _ i _ => x.size + 1 - (intOf i).toNat)
    case atStart => exact ⟨0, Nat.zero_le _, rfl, OwnI.nil _ _, b1⟩
    case round =>
      clear b1
      obtain ⟨k, hk, rfl, hown, hB⟩ := hrel
      have hlen := endsL_len x k
      by_cases hp : k < x.size
      · have HS := Lib.hid (endsL_succ x k)
        have hsl := fun W => slice_to x ((k : Int) + 1) (k + 1) (by omega) (by omega) W
        have z1 : (x.extract 0 (k + 1)).size = k + 1 := by simp; omega
        have CP := Lib.hid fun w => palAtEnd_any (x.extract 0 (k + 1)) w (by omega)
        generalize endsL x k = L at hown hlen HS
        generalize x.extract 0 (k + 1) = y at *
        have hz := endP_le (bl y)
        rw [bl_len] at hz
        generalize endP (bl y) = z at *
        go_wp2_with fail
        refine (CP.out _).mono ?_
        rintro e w2 ⟨rfl, b2⟩
        have hown2 := hown.below b2
        have hB2 := hB.then b2
        have hbz2 := hB2.size
        clear hown hB b2
        go_wp2_with (at_builtin; refine wpList_append_own _ rfl _ _ 34 rfl w.heap.size 2 i0 (.int .i64 0) 1 8 Try.underlying34 hi hz0 hz1 hz2 rfl (by decide) _ _ _ rfl (hown2.alloc _) ⟨_, 0, none⟩ 1 1 [.int .i64 (z : Int)] rfl rfl (cell_new _ _ _) (by intro u hu; simp at hu; subst hu; rfl) (by unfold maxLen; omega) (by omega) (by simp; omega) ?_; intro v' w3 hown' hgrow _)
        go_roundw
        case rel =>
          refine ⟨k + 1, by omega, by go_num, ?_, ?_⟩
          · unfold OwnI; rw [HS.out, List.length_append, ← map_snoc]; exact hown'
          · exact (hB2.alloc hbz2 _).grown hgrow (by simp; omega) (fun q hq => (hown2.lt q hq).1)
        case measure => simp [intOf]; omega
      · have hke : k = x.size := by omega
        have HO := Lib.hid hown
        clear hown
        go_wp2
        go_ret2
        rw [← hke]
        exact ⟨_, rfl, HO.out, hB⟩
  · rw [endsR_bad h]
    have H := Lib.hid h
    clear h
    go_enter Try.func29, Try.ntmps29
    go_wp2_with fail
    refine (isWord_not x _ sx H.out).mono ?_
    rintro e w1 ⟨rfl, b1⟩
    go_wp2_with fail
    go_ret2
    exact ⟨_, rfl, OwnI.nil _ _, b1⟩

set_option maxRecDepth 100000 in
set_option maxHeartbeats 1000000 in
theorem spec_EndLengths (x : ByteArray) (w : World) (sx : x.size ≤ maxLen) :
    Calls Try.prog 28 #[.string x] w (RetI (endsR x).1 (endsR x).2 w) := by
  obtain ⟨i0, hi, hz0, hz1, hz2⟩ := info_parts infoI64
  by_cases h : IsW x
  · rw [endsR_ok h]
    have h1 := h.size
    have H := Lib.hid h
    clear h
    go_enter Try.func28, Try.ntmps28
    go_wp2_with fail
    refine (l01Is_yes x _ H.out).mono ?_
    rintro e w1 ⟨rfl, b1⟩
    go_wp2_with fail
    go_loopw [4, 5] (fun v i wr => ∃ k : Nat, k ≤ x.size ∧ i = .int .i64 ((k : Int) + 1) ∧ OwnI wr w.heap.size v (endsL x k) ∧ Below w.heap.size w wr)
      (fun _ i _ => x.size + 2 - (intOf i).toNat)
    case atStart => exact ⟨0, Nat.zero_le _, rfl, (OwnI.lit0 w1 b1.size), b1.alloc b1.size _⟩
    case round =>
      clear b1
      obtain ⟨k, hk, rfl, hown, hB⟩ := hrel
      have hlen := endsL_len x k
      by_cases hp : k < x.size
      · have HS := Lib.hid (endsL_succ x k)
        have hsl := fun W => slice_to x ((k : Int) + 1) (k + 1) (by omega) (by omega) W
        have z1 : (x.extract 0 (k + 1)).size = k + 1 := by simp; omega
        have CP := Lib.hid fun w => l04End_any (x.extract 0 (k + 1)) w (by omega)
        generalize endsL x k = L at hown hlen HS
        generalize x.extract 0 (k + 1) = y at *
        have hz := endP_le (bl y)
        rw [bl_len] at hz
        generalize endP (bl y) = z at *
        go_wp2_with fail
        refine (CP.out _).mono ?_
        rintro e w2 ⟨rfl, b2⟩
        have hown2 := hown.below b2
        have hB2 := hB.then b2
        have hbz2 := hB2.size
        clear hown hB b2
        go_wp2_with (at_builtin; refine wpList_append_own _ rfl _ _ 34 rfl w.heap.size 2 i0 (.int .i64 0) 1 8 Try.underlying34 hi hz0 hz1 hz2 rfl (by decide) _ _ _ rfl (hown2.alloc _) ⟨_, 0, none⟩ 1 1 [.int .i64 (z : Int)] rfl rfl (cell_new _ _ _) (by intro u hu; simp at hu; subst hu; rfl) (by unfold maxLen; omega) (by omega) (by simp; omega) ?_; intro v' w3 hown' hgrow _)
        go_roundw
        case rel =>
          refine ⟨k + 1, by omega, by go_num, ?_, ?_⟩
          · unfold OwnI; rw [HS.out, List.length_append, ← map_snoc]; exact hown'
          · exact (hB2.alloc hbz2 _).grown hgrow (by simp; omega) (fun q hq => (hown2.lt q hq).1)
        case measure => simp [intOf]; omega
      · have hke : k = x.size := by omega
        have HO := Lib.hid hown
        clear hown
        go_wp2
        go_ret2
        rw [← hke]
        exact ⟨_, rfl, HO.out, hB⟩
  · rw [endsR_bad h]
    have H := Lib.hid h
    clear h
    go_enter Try.func28, Try.ntmps28
    go_wp2_with fail
    refine (l01Is_no x _ sx H.out).mono ?_
    rintro e w1 ⟨rfl, b1⟩
    go_wp2_with fail
    go_ret2
    exact ⟨_, rfl, OwnI.nil _ _, b1⟩

end Go.Proofs.Ythjbdcoklgnnlaa
