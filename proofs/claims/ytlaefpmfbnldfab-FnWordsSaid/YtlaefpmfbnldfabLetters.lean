/- The letters of a word: the program and the model. -/
import Derived.Test.YtlaefpmfbnldfabNumbers
namespace Go.Proofs.Ytlaefpmfbnldfab
set_option linter.unusedVariables false
set_option linter.unusedSimpArgs false
open Go.RowKit

set_option maxRecDepth 100000 in
theorem impl_LettersOf (x : ByteArray) (w : World) (sx : x.size ≤ maxLen) :
    Calls Try.prog 55 #[.string x] w (RetI (lettersR x).1 (lettersR x).2 w) := by
  by_cases h : IsW x
  · rw [lettersR_ok h]
    have H := Lib.hid h
    clear h
    go_enter Try.func55, Try.ntmps55
    go_wp2_with fail
    refine (isWord_yes x _ H.out).mono ?_
    rintro e w1 ⟨rfl, b1⟩
    go_wp2_with fail
    refine (numbersOf_any x _ H.out).mono ?_
    rintro e w2 ⟨v, rfl, o2, b2⟩
    go_wp2_with fail
    go_ret2
    exact ⟨v, rfl, o2.base b1.size, b1.then b2⟩
  · rw [lettersR_bad h]
    have H := Lib.hid h
    clear h
    go_enter Try.func55, Try.ntmps55
    go_wp2_with (go_at_call 52; refine (isWord_not x _ sx H.out).mono ?_; rintro e w1 ⟨rfl, b1⟩)
    go_ret2
    exact ⟨_, rfl, OwnI.nil _ _, b1⟩

set_option maxRecDepth 100000 in
set_option maxHeartbeats 1000000 in
theorem spec_LettersOf (x : ByteArray) (w : World) (sx : x.size ≤ maxLen) :
    Calls Try.prog 97 #[.string x] w (RetI (lettersR x).1 (lettersR x).2 w) := by
  by_cases h : IsW x
  · obtain ⟨i0, hi, hz0, hz1, hz2⟩ := info_parts infoI64
    have h1 := h.size
    rw [lettersR_ok h]
    have H := Lib.hid h
    clear h
    go_enter Try.func97, Try.ntmps97
    go_wp2_with fail
    refine (l01Is_yes x _ H.out).mono ?_
    rintro e w1 ⟨rfl, b1⟩
    go_wp2_with fail
    have hz := b1.size
    go_loopw [4, 5] (fun v i wr => ∃ k : Nat, k ≤ x.size ∧ i = .int .i64 k ∧ wr.ownsRow w.heap.size 2 1 v k (((numsR x).take k).map (Value.int .i64)) ∧ Below w.heap.size w wr)
      (fun _ i _ => x.size - (intOf i).toNat)
    case atStart =>
      refine ⟨0, Nat.zero_le _, rfl, ?_, b1.alloc hz _⟩
      exact World.ownsRow_lit w1 #[] 0 hz (by decide) (by simp)
    case round =>
      obtain ⟨k, hk, rfl, hown, hB⟩ := hrel
      by_cases hp : k < x.size
      · have hsn := nums_snoc (numsR x) k (by rw [numsR_len]; exact hp)
        rw [numsR_get x k _ hp] at hsn
        have HS := Lib.hid hsn
        clear hsn
        have hbz := hB.size
        go_wp2_with fail
        refine (l01At_any x k _ hp h1).mono ?_
        rintro e w2 ⟨rfl, b2⟩
        have hown := own_below hown b2
        have hB := hB.then b2
        have hbz := hB.size
        go_wp2_with (at_builtin; refine wpList_append_own _ rfl _ _ 30 rfl w.heap.size 2 i0 (.int .i64 0) 1 8 Try.underlying30 hi hz0 hz1 hz2 rfl (by decide) _ _ _ rfl (hown.alloc _) ⟨_, 0, none⟩ 1 1 [.int .i64 (((x[k]'hp).toNat : Int) - 97)] rfl rfl (cell_new _ _ _) (by intro u hu; simp at hu; subst hu; rfl) (by unfold maxLen; omega) (by omega) (by simp; omega) ?_; intro v' w3 hown' hgrow _)
        go_roundw
        case rel =>
          refine ⟨k + 1, by omega, by go_num, by rw [← HS.out]; exact hown', ?_⟩
          exact (hB.alloc hbz _).grown hgrow (by simp; omega) (fun q hq => (hown.lt q hq).1)
        case measure => simp [intOf]; omega
      · have hke : k = x.size := by omega
        subst hke
        have HO := Lib.hid hown
        clear hown
        go_wp2
        go_ret2
        refine ⟨_, rfl, ?_, hB⟩
        have h2 := HO.out
        rw [List.take_of_length_le (by rw [numsR_len]; exact Nat.le_refl _)] at h2
        unfold OwnI
        rw [numsR_len]
        exact h2
  · rw [lettersR_bad h]
    have H := Lib.hid h
    clear h
    go_enter Try.func97, Try.ntmps97
    go_wp2_with (go_at_call 117; refine (l01Is_no x _ sx H.out).mono ?_; rintro e w1 ⟨rfl, b1⟩)
    go_ret2
    exact ⟨_, rfl, OwnI.nil _ _, b1⟩

end Go.Proofs.Ytlaefpmfbnldfab
