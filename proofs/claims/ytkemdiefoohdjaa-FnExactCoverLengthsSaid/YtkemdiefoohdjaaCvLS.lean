/- CoverLengths, the model. -/
import Derived.Test.YtkemdiefoohdjaaCvS
namespace Go.Proofs.Ytkemdiefoohdjaa
set_option linter.unusedVariables false
set_option linter.unusedSimpArgs false
open Go.RowKit

theorem ints_snocS (L : List Int) (z : Int) : L.map (Value.int .i64) ++ [Value.int .i64 z] = (L ++ [z]).map (Value.int .i64) := by rw [List.map_append]; rfl
set_option maxRecDepth 100000 in
set_option maxHeartbeats 2000000 in
theorem spec_CoverLengths (x : ByteArray) (w : World) (sx : x.size ≤ maxLen) :
    Calls Try.prog 25 #[.string x] w (RetI (coverLengthsR x).1 (coverLengthsR x).2 w) := by
  obtain ⟨i0, hi, hz0, hz1, hz2⟩ := info_parts infoI64
  by_cases h : IsW x
  · rw [coverLengthsR_ok h]
    have h1 := h.size
    have H := Lib.hid h
    clear h
    go_enter Try.func25, Try.ntmps25
    go_wp2_with (go_at_call 49; refine (l01Is_yes x _ H.out).mono ?_; rintro e w1 ⟨rfl, a1⟩)
    go_loopw [4, 5] (fun v s5 wr => ∃ k : Nat, k ≤ x.size ∧ s5 = .int .i64 ((k : Int) + 1) ∧ wr.ownsRow w1.heap.size 2 1 v k ((clsL x k).map (Value.int .i64)) ∧ Below w1.heap.size w1 wr)
      (fun _ s5 _ => x.size + 2 - (intOf s5).toNat)
    case atStart => exact ⟨0, Nat.zero_le _, rfl, own_base (World.ownsRow_lit w1 #[] 0 (Nat.le_refl _) (by decide) (by simp)) (Nat.le_refl _), Below.new _ _⟩
    case round =>
      obtain ⟨k, hk, rfl, hown, hB⟩ := hrel
      have hbz := hB.size
      by_cases hp : k < x.size
      · have HS := Lib.hid (clsL_succ x k)
        have hsl := slice_begS x k hp
        have hbs := beg_size hp
        have hb60 : (beg x k).size ≤ 60 := by omega
        have hcp := cvs_pos (x := beg x k) (by omega)
        have HG : Hid (∀ h : 0 < (cvs (beg x k)).length, (cvs (beg x k))[0]'h = lc (beg x k)) := Lib.hid (fun h => head_get h)
        have hll := lc_le (x := beg x k)
        have hkn : ((k : Int) + 1) ≤ (x.size : Int) := by omega
        generalize beg x k = z at *
        go_wp2_with (first | (go_at_call 50; refine (l09Covers_any z _ hb60).mono ?_; rintro e w3 ⟨v3, rfl, o3, a3⟩; obtain ⟨g4, c4, rfl, z1, z2, z3, z4, z5, z6⟩ := o3.row hcp; have y1 := z5 0 hcp; rw [HG.out hcp] at y1; clear z5; have y2 : (0 : Int) < ((cvs z).length : Int) := (by omega); have hown3 : w3.ownsRow w1.heap.size 2 1 u4 k ((clsL x k).map (Value.int .i64)) := own_below hown a3; have a3z := a3.size) | (at_builtin; refine wpList_append_own _ rfl _ _ 34 rfl w1.heap.size 2 i0 (.int .i64 0) 1 8 Try.underlying34 hi hz0 hz1 hz2 rfl (by decide) _ _ _ rfl (hown3.alloc _) ⟨_, 0, none⟩ 1 1 [.int .i64 ((lc z).size : Int)] rfl rfl (cell_new _ _ _) (by intro u hu; simp at hu; subst hu; rfl) (by unfold maxLen; omega) (by omega) (by simp; omega) ?_; intro v' w4 hown' hgrow _))
        go_roundw
        case rel =>
          refine ⟨k + 1, by omega, by go_num, by rw [HS.out, ← ints_snocS]; exact hown', ?_⟩
          exact ((hB.then a3).alloc (by omega) _).grown hgrow (by simp; omega) (fun q hq => (hown3.lt q hq).1)
        case measure => simp [intOf]; omega
      · obtain rfl : k = x.size := by omega
        have hkn : ¬ ((x.size : Int) + 1) ≤ (x.size : Int) := by omega
        have ho : OwnI wr w.heap.size u4 (clsL x x.size) := by unfold OwnI; rw [clsL_len]; exact own_base hown a1.size
        go_wp2_with fail
        go_ret2
        exact ⟨_, rfl, ho, a1.then hB⟩
  · rw [coverLengthsR_bad h]
    have H := Lib.hid h
    clear h
    go_enter Try.func25, Try.ntmps25
    go_wp2_with (go_at_call 49; refine (l01Is_no x _ sx H.out).mono ?_; rintro e w1 ⟨rfl, a1⟩)
    go_ret2
    exact ⟨_, rfl, OwnI.nil _ _, a1⟩

end Go.Proofs.Ytkemdiefoohdjaa
