/- Covers of a word, the model. -/
import Derived.Test.YtkemdiefoohdjaaCovS
import Derived.Test.YtkemdiefoohdjaaStrs
namespace Go.Proofs.Ytkemdiefoohdjaa
set_option linter.unusedVariables false
set_option linter.unusedSimpArgs false
open Go.RowKit

theorem slice_begS (x : ByteArray) (k : Nat) (h : k < x.size) (W : World) :
    (Instr.slice 9 (.string x) none (some (.int .i64 ((k : Int) + 1))) none).run Try.prog W = .ok (.string (beg x k)) W := by
  have := run_slice_string_h (P := Try.prog) W 9 x Try.underlying9 .i64 ((k : Int) + 1) (by omega) (by omega)
  have e : ((k : Int) + 1).toNat = k + 1 := by omega
  rw [e] at this
  exact this
theorem ownS_put {w : World} {B : Nat} {v : Value} {L : List ByteArray} {s : ByteArray} (h : w.ownsRow B 9 1 v (L.length + 1) (L.map Value.string ++ [Value.string s])) : OwnS w B v (L ++ [s]) := by
  unfold OwnS
  rw [List.length_append, List.map_append]
  exact h
theorem ownS_lk {w : World} {B : Nat} {v : Value} {L : List ByteArray} (h : OwnS w B v L) : ∃ ad cap, v = .slice ad L.length cap := by
  rcases own_forms h with ⟨rfl, h0, _⟩ | ⟨g, cap, rfl, _⟩
  · exact ⟨_, _, by rw [h0]⟩
  · exact ⟨_, _, rfl⟩

set_option maxRecDepth 100000 in
set_option maxHeartbeats 2000000 in
theorem l09Covers_any (x : ByteArray) (w : World) (hx : x.size ≤ 60) :
    Calls Try.prog 50 #[.string x] w fun e w' => ∃ v, e = .returned v ∧ OwnS w' w.heap.size v (cvs x) ∧ Below w.heap.size w w' := by
  obtain ⟨i0, hi, hz0, hz1, hz2⟩ := info_parts infoStr
  go_enter Try.func50, Try.ntmps50
  go_wp2
  go_loopw [3, 4] (fun v s4 wr => ∃ k : Nat, k ≤ x.size ∧ s4 = .int .i64 ((k : Int) + 1) ∧ OwnS wr w.heap.size v (cvsL x k) ∧ Below w.heap.size w wr)
    (fun _ s4 _ => x.size + 2 - (intOf s4).toNat)
  case atStart => exact ⟨0, Nat.zero_le _, rfl, own_base (World.ownsRow_lit w #[] 0 (Nat.le_refl _) (by decide) (by simp)) (Nat.le_refl _), Below.new _ _⟩
  case round =>
    obtain ⟨k, hk, rfl, hown, hB⟩ := hrel
    have hlen := cvsL_len x k
    have hbz := hB.size
    by_cases hp : k < x.size
    · have hsl := slice_begS x k hp
      have hbs : (beg x k).size ≤ 60 := by rw [beg_size hp]; omega
      have hc := fun W => l09Cover_any x (beg x k) W hx hbs
      have hkn : ((k : Int) + 1) ≤ (x.size : Int) := by omega
      cases hcv : cvAll x (beg x k) with
      | true =>
        have HS := Lib.hid (cvsL_hit hcv)
        rw [hcv] at hc
        have HC := Lib.hid hc
        clear hc hcv
        generalize cvsL x k = L at *
        generalize beg x k = z at *
        go_wp2_with (first | (go_at_call 43; refine (HC.out _).mono ?_; rintro e w1 ⟨rfl, b1⟩; have hown1 : OwnS w1 w.heap.size u3 L := own_below hown b1; have b1z := b1.size) | (at_builtin; refine wpList_append_own _ rfl _ _ 25 rfl w.heap.size 9 i0 (.string ⟨#[]⟩) 1 16 Try.underlying25 hi hz0 hz1 hz2 rfl (by decide) _ _ _ rfl (World.ownsRow.alloc hown1 _) ⟨_, 0, none⟩ 1 1 [.string z] rfl rfl (cell_new _ _ _) (by intro u hu; simp at hu; subst hu; rfl) (by unfold maxLen; omega) (by omega) (by simp; omega) ?_; intro v' w3 hown' hgrow _))
        go_roundw
        case rel =>
          refine ⟨k + 1, by omega, by go_num, by rw [HS.out]; exact ownS_put hown', ?_⟩
          exact ((hB.then b1).alloc (by omega) _).grown hgrow (by simp; omega) (fun q hq => (hown1.lt q hq).1)
        case measure => simp [intOf]; omega
      | false =>
        have HS := Lib.hid (cvsL_miss hcv)
        rw [hcv] at hc
        have HC := Lib.hid hc
        clear hc hcv
        generalize beg x k = z at *
        go_wp2_with (go_at_call 43; refine (HC.out _).mono ?_; rintro e w1 ⟨rfl, b1⟩)
        go_roundw
        case rel => exact ⟨k + 1, by omega, by go_num, by rw [HS.out]; exact own_below hown b1, hB.then b1⟩
        case measure => simp [intOf]; omega
    · obtain rfl : k = x.size := by omega
      have hkn : ¬ ((x.size : Int) + 1) ≤ (x.size : Int) := by omega
      go_wp2_with fail
      go_ret
      exact ⟨_, rfl, hown, hB⟩

set_option maxRecDepth 100000 in
theorem spec_CoversOf (x : ByteArray) (w : World) (sx : x.size ≤ maxLen) :
    Calls Try.prog 16 #[.string x] w (RetS (coversR x).1 (coversR x).2 w) := by
  by_cases h : IsW x
  · rw [coversR_ok h]
    have h1 := h.size
    have H := Lib.hid h
    clear h
    go_enter Try.func16, Try.ntmps16
    go_wp2_with (first | (go_at_call 49; refine (l01Is_yes x _ H.out).mono ?_; rintro e w1 ⟨rfl, a1⟩) | (go_at_call 50; refine (l09Covers_any x _ h1).mono ?_; rintro e w2 ⟨v, rfl, o2, a2⟩))
    go_ret2
    exact ⟨_, rfl, o2.base a1.size, a1.then a2⟩
  · rw [coversR_bad h]
    have H := Lib.hid h
    clear h
    go_enter Try.func16, Try.ntmps16
    go_wp2_with (go_at_call 49; refine (l01Is_no x _ sx H.out).mono ?_; rintro e w1 ⟨rfl, a1⟩)
    go_ret2
    exact ⟨_, rfl, OwnS.nil _ _, a1⟩

set_option maxRecDepth 100000 in
theorem spec_LeastCover (x : ByteArray) (w : World) (sx : x.size ≤ maxLen) :
    Calls Try.prog 21 #[.string x] w fun e w' => e = .returned (.tuple #[.string (leastCoverR x).1, .int .i64 (leastCoverR x).2]) ∧ Below w.heap.size w w' := by
  by_cases h : IsW x
  · by_cases h0 : x.size = 0
    · rw [leastCoverR_empty h h0]
      have hq := nil_yesS h0
      have H := Lib.hid h
      clear h
      go_enter Try.func21, Try.ntmps21
      go_wp2_with (go_at_call 49; refine (l01Is_yes x _ H.out).mono ?_; rintro e w1 ⟨rfl, a1⟩)
      go_ret2
      exact ⟨rfl, a1⟩
    · rw [leastCoverR_ok h h0]
      have hq := nil_noS h0
      have h1 := h.size
      have H := Lib.hid h
      have hp := cvs_pos (x := x) (by omega)
      have HG := Lib.hid (lc_get (x := x) (by omega))
      clear h
      go_enter Try.func21, Try.ntmps21
      go_wp2_with (first | (go_at_call 49; refine (l01Is_yes x _ H.out).mono ?_; rintro e w1 ⟨rfl, a1⟩) | (go_at_call 50; refine (l09Covers_any x _ h1).mono ?_; rintro e w2 ⟨v, rfl, o2, a2⟩; obtain ⟨g4, c4, rfl, z1, z2, z3, z4, z5, z6⟩ := o2.row hp; have y1 := z5 0 hp; rw [HG.out] at y1; clear z5; have y2 : (0 : Int) < ((cvs x).length : Int) := (by omega)))
      go_ret2
      exact ⟨rfl, a1.then a2⟩
  · rw [leastCoverR_bad h]
    have H := Lib.hid h
    clear h
    go_enter Try.func21, Try.ntmps21
    go_wp2_with (go_at_call 49; refine (l01Is_no x _ sx H.out).mono ?_; rintro e w1 ⟨rfl, a1⟩)
    go_ret2
    exact ⟨rfl, a1⟩

set_option maxRecDepth 100000 in
theorem spec_IsSuperprimitive (x : ByteArray) (w : World) (sx : x.size ≤ maxLen) :
    Calls Try.prog 23 #[.string x] w fun e w' => e = .returned (.tuple #[.bool (superR x).1, .int .i64 (superR x).2]) ∧ Below w.heap.size w w' := by
  by_cases h : IsW x
  · rw [superR_ok h]
    have h1 := h.size
    have H := Lib.hid h
    have hl := cvs_len x
    have hd : (((cvs x).length : Int) == 1) = decide ((cvs x).length = 1) := by rw [Bool.eq_iff_iff, beq_iff_eq, decide_eq_true_eq]; omega
    clear h
    go_enter Try.func23, Try.ntmps23
    go_wp2_with (first | (go_at_call 49; refine (l01Is_yes x _ H.out).mono ?_; rintro e w1 ⟨rfl, a1⟩) | (go_at_call 50; refine (l09Covers_any x _ h1).mono ?_; rintro e w2 ⟨v, rfl, o2, a2⟩; obtain ⟨ad4, c4, rfl⟩ := ownS_lk o2))
    go_ret2
    exact ⟨by first | rfl | rw [← hd], a1.then a2⟩
  · rw [superR_bad h]
    have H := Lib.hid h
    clear h
    go_enter Try.func23, Try.ntmps23
    go_wp2_with (go_at_call 49; refine (l01Is_no x _ sx H.out).mono ?_; rintro e w1 ⟨rfl, a1⟩)
    go_ret2
    exact ⟨rfl, a1⟩

end Go.Proofs.Ytkemdiefoohdjaa
