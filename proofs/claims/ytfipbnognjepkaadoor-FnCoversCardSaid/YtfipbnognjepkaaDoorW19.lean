/- Covers, seeds and uncovered places in the program. -/
import Derived.Test.YtfipbnognjepkaaDoorCvC
import Derived.Test.YtfipbnognjepkaaDoorCovI
import Derived.Test.YtfipbnognjepkaaDoorSeedPlain
import Derived.Test.YtfipbnognjepkaaDoorLib
import Derived.Test.YtfipbnognjepkaaDoorDoorT
import Derived.Test.YtfipbnognjepkaaDoorCovPlain
import Derived.Lib.TrailingZeros
import Derived.Shelf.Spec.TrailingZeros
import Derived.Deep.RegionHeld3
import Derived.Test.YtfipbnognjepkaaDoorRows
import Derived.LaidMore
import Derived.Lay
import Derived.Stop.Joined

/-! ### CvF -/
namespace Go.Proofs.YtfipbnognjepkaaDoor
set_option linter.unusedVariables false
set_option linter.unusedSimpArgs false
open Go.RowKit

theorem cvs_size {x : ByteArray} (h : x.size ≤ 60) : ∀ z ∈ cvs x, z.size ≤ 60 := fun z hz => Nat.le_trans (cvs_mem hz) h

set_option maxRecDepth 100000 in
set_option maxHeartbeats 1000000 in
theorem coversOf1_any (b : Nat) (x : ByteArray) (w : World) (c1 : Boxed w b 9 (.string x)) (sx : x.size ≤ maxLen) :
    Calls Tryd.prog 95 #[.pointer (some ⟨b, 0, none⟩)] w fun e w' => EndS (coversR x) w.heap.size e w' ∧ Below w.heap.size w w' := by
  have k1 := c1.cell
  have l1 := c1.lt
  by_cases h : IsW x
  · rw [coversR_ok h]
    have h1 := h.size
    have H := Lib.hid h
    have HS := Lib.hid (cvs_size h1)
    have hl := cvs_len x
    clear h
    go_enter Tryd.func95, Tryd.ntmps95
    go_wp2_with (first | (go_at_call 61; refine (isWord_yes x _ H.out).mono ?_; rintro e w1 ⟨rfl, a1⟩; have k2 := (boxed_past c1 a1 l1).cell) | (go_at_call 70; refine (refuse_yes _ _).mono ?_; rintro e w2 ⟨rfl, rfl⟩) | (go_at_call 96; refine (coversOf_any x _ H.out).mono ?_; rintro e w3 ⟨v3, rfl, o3, a3⟩) | (go_at_call 97; refine (texts_C _ _ _ _ o3 (by omega) HS.out).mono ?_; rintro e w4 ⟨v4, rfl, o4, a4⟩))
    go_ret
    exact ⟨.inl ⟨_, rfl, o4.base (a1.then a3).size, rfl⟩, (a1.then a3).then a4⟩
  · rw [coversR_bad h]
    have H := Lib.hid h
    clear h
    go_enter Tryd.func95, Tryd.ntmps95
    go_wp2_with (first | (go_at_call 61; refine (isWord_not x _ sx H.out).mono ?_; rintro e w1 ⟨rfl, a1⟩) | (go_at_call 70; refine (refuse_no _ _).mono ?_; rintro e w2 ⟨rfl, rfl⟩))
    exact ⟨rfl, .inr ⟨rfl, rfl⟩, a1⟩

set_option maxRecDepth 100000 in
theorem impl_CoversOf (x : ByteArray) (w : World) (sx : x.size ≤ maxLen) :
    Calls Tryd.prog 35 #[.string x] w (RetS (coversR x).1 (coversR x).2 w) := by
  have hmf : ∀ (fn : Fn) (first cap : Array Value) (w : World), (Instr.makeFunc fn first cap).run Tryd.prog w = .ok (.func fn first cap) w := fun _ _ _ _ => rfl
  have c1 : Boxed ((w.alloc (.cells #[.string x] 9)).alloc (.cells #[.int .i64 0] 2)) w.heap.size 9 (.string x) := (Boxed.new w _ _).alloc _
  have hB : Below w.heap.size w (w.alloc (.cells #[.string x] 9)) := Below.new _ _
  go_enter Tryd.func35, Tryd.ntmps35
  go_wp2_with (go_at_call 94; refine (door_list 95 _ _ (coversR x) (enters_of Tryd.func95 (by kernel_rfl) rfl) (coversOf1_any w.heap.size x _ c1 sx)).mono ?_; rintro e w1 ⟨v, rfl, o1, b1⟩)
  go_ret2
  exact ⟨_, rfl, o1.base (by simp), hB.then b1⟩

set_option maxRecDepth 100000 in
set_option maxHeartbeats 1000000 in
theorem leastCover1_any (b : Nat) (x : ByteArray) (w : World) (c1 : Boxed w b 9 (.string x)) (sx : x.size ≤ maxLen) :
    Calls Tryd.prog 100 #[.pointer (some ⟨b, 0, none⟩)] w fun e w' => EndT (leastCoverR x) e ∧ Below w.heap.size w w' := by
  have k1 := c1.cell
  have l1 := c1.lt
  by_cases h : IsW x
  · by_cases h0 : x.size = 0
    · rw [leastCoverR_empty h h0]
      have hq := nil_yesC h0
      have H := Lib.hid h
      clear h
      go_enter Tryd.func100, Tryd.ntmps100
      go_wp2_with (first | (go_at_call 61; refine (isWord_yes x _ H.out).mono ?_; rintro e w1 ⟨rfl, a1⟩; have k2 := (boxed_past c1 a1 l1).cell) | (go_at_call 70; first | (with_reducible refine (refuse_yes _ _).mono ?_; rintro e w2 ⟨rfl, rfl⟩) | (with_reducible refine (refuse_no _ _).mono ?_; rintro e w2 ⟨rfl, rfl⟩)))
      exact ⟨rfl, .inr ⟨rfl, rfl⟩, a1⟩
    · rw [leastCoverR_ok h h0]
      have hq := nil_noC h0
      have h1 := h.size
      have H := Lib.hid h
      have HS := Lib.hid (cvs_size h1)
      have hl := cvs_len x
      have hp := cvs_pos (x := x) (by omega)
      have HG := Lib.hid (lc_get (x := x) (by omega))
      clear h
      go_enter Tryd.func100, Tryd.ntmps100
      go_wp2_with (first | (go_at_call 61; refine (isWord_yes x _ H.out).mono ?_; rintro e w1 ⟨rfl, a1⟩; have k2 := (boxed_past c1 a1 l1).cell) | (go_at_call 70; first | (with_reducible refine (refuse_yes _ _).mono ?_; rintro e w2 ⟨rfl, rfl⟩) | (with_reducible refine (refuse_no _ _).mono ?_; rintro e w2 ⟨rfl, rfl⟩)) | (go_at_call 96; refine (coversOf_any x _ H.out).mono ?_; rintro e w3 ⟨v3, rfl, o3, a3⟩) | (go_at_call 97; refine (texts_C _ _ _ _ o3 (by omega) HS.out).mono ?_; rintro e w4 ⟨v4, rfl, o4, a4⟩; obtain ⟨g4, c4, rfl, z1, z2, z3, z4, z5, z6⟩ := o4.row hp; have y1 := z5 0 hp; rw [HG.out] at y1; clear z5; have y2 : (0 : Int) < ((cvs x).length : Int) := (by omega)))
      go_ret
      exact ⟨.inl ⟨rfl, rfl⟩, (a1.then a3).then a4⟩
  · rw [leastCoverR_bad h]
    have H := Lib.hid h
    clear h
    go_enter Tryd.func100, Tryd.ntmps100
    go_wp2_with (first | (go_at_call 61; refine (isWord_not x _ sx H.out).mono ?_; rintro e w1 ⟨rfl, a1⟩) | (go_at_call 70; refine (refuse_no _ _).mono ?_; rintro e w2 ⟨rfl, rfl⟩))
    exact ⟨rfl, .inr ⟨rfl, rfl⟩, a1⟩

set_option maxRecDepth 100000 in
theorem impl_LeastCover (x : ByteArray) (w : World) (sx : x.size ≤ maxLen) :
    Calls Tryd.prog 37 #[.string x] w fun e w' => e = .returned (.tuple #[.string (leastCoverR x).1, .int .i64 (leastCoverR x).2]) ∧ Below w.heap.size w w' := by
  have hmf : ∀ (fn : Fn) (first cap : Array Value) (w : World), (Instr.makeFunc fn first cap).run Tryd.prog w = .ok (.func fn first cap) w := fun _ _ _ _ => rfl
  have c1 : Boxed ((w.alloc (.cells #[.string x] 9)).alloc (.cells #[.int .i64 0] 2)) w.heap.size 9 (.string x) := (Boxed.new w _ _).alloc _
  have hB : Below w.heap.size w (w.alloc (.cells #[.string x] 9)) := Below.new _ _
  go_enter Tryd.func37, Tryd.ntmps37
  go_wp2_with (go_at_call 99; refine (door_text 100 _ _ (leastCoverR x) (enters_of Tryd.func100 (by kernel_rfl) rfl) (leastCover1_any w.heap.size x _ c1 sx)).mono ?_; rintro e w1 ⟨rfl, b1⟩)
  go_ret2
  exact ⟨rfl, hB.then b1⟩

set_option maxRecDepth 100000 in
set_option maxHeartbeats 1000000 in
theorem super1_any (b : Nat) (x : ByteArray) (w : World) (c1 : Boxed w b 9 (.string x)) (sx : x.size ≤ maxLen) :
    Calls Tryd.prog 103 #[.pointer (some ⟨b, 0, none⟩)] w fun e w' => EndB (superR x) e ∧ Below w.heap.size w w' := by
  have k1 := c1.cell
  have l1 := c1.lt
  by_cases h : IsW x
  · rw [superR_ok h]
    have h1 := h.size
    have H := Lib.hid h
    have hl := cvs_len x
    have hd : (((cvs x).length : Int) == 1) = decide ((cvs x).length = 1) := by rw [Bool.eq_iff_iff, beq_iff_eq, decide_eq_true_eq]; omega
    clear h
    go_enter Tryd.func103, Tryd.ntmps103
    go_wp2_with (first | (go_at_call 61; refine (isWord_yes x _ H.out).mono ?_; rintro e w1 ⟨rfl, a1⟩; have k2 := (boxed_past c1 a1 l1).cell) | (go_at_call 70; refine (refuse_yes _ _).mono ?_; rintro e w2 ⟨rfl, rfl⟩) | (go_at_call 96; refine (coversOf_any x _ H.out).mono ?_; rintro e w3 ⟨v3, rfl, o3, a3⟩; obtain ⟨ad3, c3, rfl, _⟩ := ownC_look o3))
    go_ret
    exact ⟨.inl ⟨by first | rfl | rw [← hd], rfl⟩, a1.then a3⟩
  · rw [superR_bad h]
    have H := Lib.hid h
    clear h
    go_enter Tryd.func103, Tryd.ntmps103
    go_wp2_with (first | (go_at_call 61; refine (isWord_not x _ sx H.out).mono ?_; rintro e w1 ⟨rfl, a1⟩) | (go_at_call 70; refine (refuse_no _ _).mono ?_; rintro e w2 ⟨rfl, rfl⟩))
    exact ⟨rfl, .inr ⟨rfl, rfl⟩, a1⟩

set_option maxRecDepth 100000 in
theorem impl_IsSuperprimitive (x : ByteArray) (w : World) (sx : x.size ≤ maxLen) :
    Calls Tryd.prog 41 #[.string x] w fun e w' => e = .returned (.tuple #[.bool (superR x).1, .int .i64 (superR x).2]) ∧ Below w.heap.size w w' := by
  have hmf : ∀ (fn : Fn) (first cap : Array Value) (w : World), (Instr.makeFunc fn first cap).run Tryd.prog w = .ok (.func fn first cap) w := fun _ _ _ _ => rfl
  have c1 : Boxed ((w.alloc (.cells #[.string x] 9)).alloc (.cells #[.int .i64 0] 2)) w.heap.size 9 (.string x) := (Boxed.new w _ _).alloc _
  have hB : Below w.heap.size w (w.alloc (.cells #[.string x] 9)) := Below.new _ _
  go_enter Tryd.func41, Tryd.ntmps41
  go_wp2_with (go_at_call 75; refine (door_test 103 _ _ (superR x) (enters_of Tryd.func103 (by kernel_rfl) rfl) (super1_any w.heap.size x _ c1 sx)).mono ?_; rintro e w1 ⟨rfl, b1⟩)
  go_ret2
  exact ⟨rfl, hB.then b1⟩

end Go.Proofs.YtfipbnognjepkaaDoor

/-! ### CvLI -/
namespace Go.Proofs.YtfipbnognjepkaaDoor
set_option linter.unusedVariables false
set_option linter.unusedSimpArgs false
open Go.RowKit

theorem isW_beg {x : ByteArray} (h : IsW x) {k : Nat} (hk : k < x.size) : IsW (beg x k) := by
  have hs := beg_size hk
  refine ⟨by rw [hs]; have := h.size; omega, fun i hi => ?_⟩
  have hi2 : i < x.size := by omega
  have e : (beg x k)[i]'hi = x[i]'hi2 := by
    simp only [beg, ByteArray.getElem_extract, Nat.zero_add]
  rw [e]
  exact h.2 i hi2
theorem ints_snocC (L : List Int) (z : Int) : L.map (Value.int .i64) ++ [Value.int .i64 z] = (L ++ [z]).map (Value.int .i64) := by rw [List.map_append]; rfl

set_option maxRecDepth 100000 in
set_option maxHeartbeats 2000000 in
theorem coverLengths1_any (b : Nat) (x : ByteArray) (w : World) (c1 : Boxed w b 9 (.string x)) (sx : x.size ≤ maxLen) :
    Calls Tryd.prog 102 #[.pointer (some ⟨b, 0, none⟩)] w fun e w' => EndI (coverLengthsR x) w.heap.size e w' ∧ Below w.heap.size w w' := by
  obtain ⟨i0, hi, hz0, hz1, hz2⟩ := info_parts infoI64
  have k1 := c1.cell
  have l1 := c1.lt
  by_cases h : IsW x
  · rw [coverLengthsR_ok h]
    have h1 := h.size
    have H := Lib.hid h
    clear h
    go_enter Tryd.func102, Tryd.ntmps102
    go_wp2_with (first | (go_at_call 61; refine (isWord_yes x _ H.out).mono ?_; rintro e w1 ⟨rfl, a1⟩; have c2 := boxed_past c1 a1 l1; have k2 := c2.cell) | (go_at_call 70; refine (refuse_yes _ _).mono ?_; rintro e w2 ⟨rfl, rfl⟩))

    have hz1w := a1.size
    go_loopw [2] (fun v wr => ∃ k : Nat, k ≤ x.size ∧ wr.heap[w2.heap.size]? = some (.stringIter x k) ∧ wr.ownsRow (w2.heap.size + 1) 2 1 v k ((clsL x k).map (Value.int .i64)) ∧ Below w2.heap.size w2 wr ∧ w2.heap.size < wr.heap.size)
      (fun _ wr => x.size - wr.iterPos w2.heap.size)
    case atStart => exact ⟨0, Nat.zero_le _, World.iter_heap w2 x 0, World.ownsRow_nil _ _ _ _, Below.new _ _, by simp [World.iter]⟩
    case round =>
      obtain ⟨k, hk, hit, hown, hB, hsz⟩ := hrel
      by_cases hp : k < x.size
      · have hlo := H.out.lo k hp
        have hhi := H.out.hi k hp
        have hnx : ∀ ty, (Instr.next (.pointer (some ⟨w2.heap.size, 0, none⟩)) true ty).run Tryd.prog wr = _ := fun ty => Lib.run_next_ascii_at wr w2.heap.size x k ty hit hp (by omega)
        have HS := Lib.hid (clsL_succ x k)
        have hsl := slice_beg x k hp
        have HW := Lib.hid (isW_beg H.out hp)
        have hbs := beg_size hp
        have hcp := cvs_pos (x := beg x k) (by omega)
        have HG : Hid (∀ h : 0 < (cvs (beg x k)).length, (cvs (beg x k))[0]'h = lc (beg x k)) := Lib.hid (fun h => head_get h)
        have hll := lc_le (x := beg x k)
        have hit2 := Lib.iterAt_heap wr w2.heap.size x k (k + 1) hit
        have hB2 := Lib.below_iterAt hB (Nat.le_refl _) x (k + 1)
        have hown := ownsRow_iterAt hown (Nat.lt_succ_self _) x (k + 1)
        have hsz2 : w2.heap.size < (wr.iterAt w2.heap.size x (k + 1)).heap.size := by rw [Lib.iterAt_size]; exact hsz
        have c3 := (boxed_past c2 hB2 (by have := c2.lt; omega)).cell
        have HIT := Lib.hid hit
        have HIT2 := Lib.hid hit2
        clear hit hit2
        generalize hgw : wr.iterAt w2.heap.size x (k + 1) = wi at *
        have HGW := Lib.hid hgw
        clear hgw
        generalize beg x k = z at *
        go_wp2_with (first | (go_at_call 96; refine (coversOf_any z _ HW.out).mono ?_; rintro e w3 ⟨v3, rfl, o3, a3⟩; obtain ⟨ad3, cp3, rfl, lk3⟩ := ownC_look o3; obtain ⟨g3, rfl, y0, y1, y2⟩ := lk3 0 hcp; rw [HG.out hcp] at y2; clear lk3; have y3 : (0 : Int) < ((cvs z).length : Int) := (by omega); have hown3 : w3.ownsRow (w2.heap.size + 1) 2 1 u2 k ((clsL x k).map (Value.int .i64)) := own_below hown a3; have a3z := a3.size) | (at_builtin; refine wpList_append_own _ rfl _ _ 59 rfl (w2.heap.size + 1) 2 i0 (.int .i64 0) 1 8 Tryd.underlying59 hi hz0 hz1 hz2 rfl (by decide) _ _ _ rfl (hown3.alloc _) ⟨_, 0, none⟩ 1 1 [.int .i64 ((lc z).size : Int)] rfl rfl (cell_new _ _ _) (by intro u hu; simp at hu; subst hu; rfl) (by unfold maxLen; omega) (by omega) (by simp; omega) ?_; intro v' w4 hown' hgrow _))
        have hkeep : w4.heap[w2.heap.size]? = some (.stringIter x (k + 1)) := by
          rw [hgrow.block _ (by simp; omega) (fun e => by have := (hown3.lt _ e.symm).1; omega), Below.heap_alloc _ _ _ (by omega), a3.block _ hsz2]
          exact HIT2.out
        have hB3 : Below w2.heap.size w2 w4 := ((hB2.then a3).alloc (by omega) _).grown hgrow (by simp; omega) (fun q hq => Nat.le_of_lt (hown3.lt q hq).1)
        have hsz3 : w2.heap.size < w4.heap.size := by have := hgrow.size; simp at this; omega
        have HK := Lib.hid hkeep
        clear hkeep
        go_roundw
        case rel => exact ⟨k + 1, by omega, HK.out, by rw [HS.out, ← ints_snocC]; exact hown', hB3, hsz3⟩
        case measure => simp only [World.iterPos, HK.out, HIT.out]; omega
      · have hke : k = x.size := by omega
        subst hke
        have hnx : ∀ ty, (Instr.next (.pointer (some ⟨w2.heap.size, 0, none⟩)) true ty).run Tryd.prog wr = _ := fun ty => Lib.run_next_end_at wr w2.heap.size x x.size ty hit hp
        have ho : OwnI wr w.heap.size u2 (clsL x x.size) := by unfold OwnI; rw [clsL_len]; exact own_base hown (by omega)
        have HO := Lib.hid ho
        clear hown ho
        go_wp2_with fail
        go_ret
        exact ⟨.inl ⟨_, rfl, HO.out, rfl⟩, a1.then hB⟩
  · rw [coverLengthsR_bad h]
    have H := Lib.hid h
    clear h
    go_enter Tryd.func102, Tryd.ntmps102
    go_wp2_with (first | (go_at_call 61; refine (isWord_not x _ sx H.out).mono ?_; rintro e w1 ⟨rfl, a1⟩) | (go_at_call 70; refine (refuse_no _ _).mono ?_; rintro e w2 ⟨rfl, rfl⟩))
    exact ⟨rfl, .inr ⟨rfl, rfl⟩, a1⟩

set_option maxRecDepth 100000 in
theorem impl_CoverLengths (x : ByteArray) (w : World) (sx : x.size ≤ maxLen) :
    Calls Tryd.prog 39 #[.string x] w (RetI (coverLengthsR x).1 (coverLengthsR x).2 w) := by
  have hmf : ∀ (fn : Fn) (first cap : Array Value) (w : World), (Instr.makeFunc fn first cap).run Tryd.prog w = .ok (.func fn first cap) w := fun _ _ _ _ => rfl
  have c1 : Boxed ((w.alloc (.cells #[.string x] 9)).alloc (.cells #[.int .i64 0] 2)) w.heap.size 9 (.string x) := (Boxed.new w _ _).alloc _
  have hB : Below w.heap.size w (w.alloc (.cells #[.string x] 9)) := Below.new _ _
  go_enter Tryd.func39, Tryd.ntmps39
  go_wp2_with (go_at_call 101; refine (door_ints 102 _ _ (coverLengthsR x) (enters_of Tryd.func102 (by kernel_rfl) rfl) (coverLengths1_any w.heap.size x _ c1 sx)).mono ?_; rintro e w1 ⟨v, rfl, o1, b1⟩)
  go_ret2
  exact ⟨_, rfl, o1.base (by simp), hB.then b1⟩

end Go.Proofs.YtfipbnognjepkaaDoor

/-! ### SdC -/
namespace Go.Proofs.YtfipbnognjepkaaDoor
set_option linter.unusedVariables false
set_option linter.unusedSimpArgs false
open Go.RowKit

theorem slice_seed_to (u : ByteArray) (m : Nat) (h : m ≤ u.size) (W : World) :
    (Instr.slice 122 (.string u) none (some (.int .i64 (m : Int))) none).run Tryd.prog W = .ok (.string (u.extract 0 m)) W := by
  have := run_slice_string_h (P := Tryd.prog) W 122 u Tryd.underlying122 .i64 (m : Int) (by omega) (by omega)
  simpa using this
theorem slice_seed_from (u : ByteArray) (m : Nat) (h : m ≤ u.size) (W : World) :
    (Instr.slice 122 (.string u) (some (.int .i64 (m : Int))) none none).run Tryd.prog W = .ok (.string (u.extract m u.size)) W := by
  have := run_slice_string_l (P := Tryd.prog) W 122 u Tryd.underlying122 .i64 (m : Int) (by omega) (by omega)
  simpa using this
theorem smk_lt64 {x u : ByteArray} {k : Nat} (h : x.size ≤ 60) (hk : k ≤ x.size) : smk x u k < 18446744073709551616 := by
  have h1 := smk_lt (x := x) (u := u) hk
  have h2 : 2 ^ x.size ≤ 2 ^ 60 := Nat.pow_le_pow_right (by omega) h
  omega
theorem mskF_lt64 {i m : Nat} (h : i + m ≤ 60) : mskF i m < 18446744073709551616 := by
  have h1 := mskF_lt h
  omega
theorem or_lt64 {a b : Nat} (h : a < 18446744073709551616) (k : b < 18446744073709551616) : a ||| b < 18446744073709551616 := by
  have := Nat.or_lt_two_pow (x := a) (y := b) (n := 64) (by omega) (by omega)
  omega

set_option maxRecDepth 100000 in
set_option maxHeartbeats 4000000 in
theorem seed_covered (x u : ByteArray) (w : World) (hx : x.size ≤ 60) (hu : u.size ≤ x.size) :
    Calls Tryd.prog 234 #[.string u, .string x] w fun e w' => e = .returned (.int .u64 ((smk x u (u.size - 1) : Nat) : Int)) ∧ Below w.heap.size w w' := by
  have hu60 : u.size ≤ 60 := by omega
  have hc := fun W => callsIn_wide.1 (inner_covered_in x u W hx hu60)
  have HC := Lib.hid hc
  clear hc
  go_enter Tryd.func234, Tryd.ntmps234
  go_wp2_with (go_at_call 109; refine (HC.out _).mono ?_; rintro e w1 ⟨rfl, b1⟩)
  go_loopw [5, 6] (fun s5 s6 wr => wr = w1 ∧ ∃ m : Nat, 1 ≤ m ∧ (m ≤ u.size ∨ m = 1) ∧ s6 = .int .i64 (m : Int) ∧ s5 = .int .u64 ((smk x u (m - 1) : Nat) : Int))
    (fun _ s6 _ => u.size + 1 - (intOf s6).toNat)
  case atStart => exact ⟨rfl, 1, Nat.le_refl _, .inr rfl, rfl, rfl⟩
  case round =>
    obtain ⟨rfl, m, hm1, hm2, rfl, rfl⟩ := hrel
    by_cases hp : m < u.size
    · have hmu : (m : Int) < (u.size : Int) := by omega
      obtain ⟨p, hpp⟩ : ∃ p : Nat, u.size - m = p := ⟨_, rfl⟩
      obtain ⟨q, hqq⟩ : ∃ q : Nat, x.size - m = q := ⟨_, rfl⟩
      have e1 : (u.size : Int) - (m : Int) = (p : Int) := by omega
      have e2 : (x.size : Int) - (m : Int) = (q : Int) := by omega
      have hs1 := slice_seed_from u p (by omega)
      have hs2 := slice_seed_to u m (by omega)
      have hL := hgL_prefix (x := x) (u := u) (m := m) (by omega)
      have hR := hgR_suffix (x := x) (u := u) (m := m) (by omega) (by omega)
      rw [hpp] at hL
      have hCL := fun W => Tryd.strings_HasPrefix x (u.extract p u.size) W
      have hCR := fun W => Tryd.strings_HasSuffix x (u.extract 0 m) W (by omega)
      have hCL2 : ∀ W, Calls Tryd.prog 235 #[.string x, .string (u.extract p u.size)] W fun e w' => e = .returned (.bool (hgL x u m)) ∧ w' = W := fun W => (hCL W).mono (by rintro e w' ⟨rfl, rfl⟩; exact ⟨by rw [← hL]; rfl, rfl⟩)
      have hCR2 : ∀ W, Calls Tryd.prog 161 #[.string x, .string (u.extract 0 m)] W fun e w' => e = .returned (.bool (hgR x u m)) ∧ w' = W := fun W => (hCR W).mono (by rintro e w' ⟨rfl, rfl⟩; exact ⟨by rw [← hR]; rfl, rfl⟩)
      have hstep : smk x u m = (if hgR x u m = true then (if hgL x u m = true then smk x u (m - 1) ||| mskF 0 m else smk x u (m - 1)) ||| mskF q m
          else (if hgL x u m = true then smk x u (m - 1) ||| mskF 0 m else smk x u (m - 1))) := by
        obtain ⟨k, rfl⟩ : ∃ k, m = k + 1 := ⟨m - 1, by omega⟩
        rw [← hqq]
        rfl
      have za : smk x u (m - 1) < 18446744073709551616 := smk_lt64 hx (by omega)
      have zb : mskF 0 m < 18446744073709551616 := mskF_lt64 (by omega)
      have zc : mskF q m < 18446744073709551616 := mskF_lt64 (by omega)
      have o1 := bits_or_u64_nat _ _ za zb
      have o2 := bits_or_u64_nat _ _ za zc
      have o3 := bits_or_u64_nat _ _ (or_lt64 za zb) zc
      have pf1 : ∀ W, Calls Tryd.prog 108 #[.int .i64 0, .int .i64 (m : Int)] W fun e w' => e = .returned (.int .u64 ((mskF 0 m : Nat) : Int)) ∧ w' = W := fun W => placesFrom_any 0 m W (by omega)
      have pf2 := fun W => placesFrom_any q m W (by omega)
      clear hL hR hCL hCR hpp hqq za zb zc
      generalize u.extract p u.size = t1 at *
      generalize u.extract 0 m = t2 at *
      have C1 := Lib.hid hCL2
      have C2 := Lib.hid hCR2
      have P1 := Lib.hid pf1
      have P2 := Lib.hid pf2
      clear hCL2 hCR2 pf1 pf2
      generalize mskF 0 m = f1 at *
      generalize mskF q m = f2 at *
      have HS := Lib.hid hstep
      have e9 : m + 1 - 1 = m := by omega
      cases h1 : hgL x u m <;> cases h2 : hgR x u m <;>
      · rw [h1, h2] at hstep
        simp only [Bool.false_eq_true, if_false, if_true] at hstep
        have HS := Lib.hid hstep
        rw [h1] at C1
        rw [h2] at C2
        clear hstep h1 h2
        generalize smk x u (m - 1) = a at *
        go_wp2_with (first | (go_at_call 235; refine (C1.out _).mono ?_; rintro e w2 ⟨rfl, rfl⟩) | (go_at_call 161; refine (C2.out _).mono ?_; rintro e w2 ⟨rfl, rfl⟩) | (go_at_call 108; first | (with_reducible refine (P1.out _).mono ?_; rintro e w2 ⟨rfl, rfl⟩) | (with_reducible refine (P2.out _).mono ?_; rintro e w2 ⟨rfl, rfl⟩)))
        go_roundw
        case rel => exact ⟨trivial, m + 1, by omega, .inl (by omega), by go_num, by rw [e9, HS.out]⟩
        case measure => simp [intOf]; omega
    · have hmu : ¬ (m : Int) < (u.size : Int) := by omega
      have e9 : m - 1 = u.size - 1 := by omega
      rw [e9]
      go_wp2_with fail
      go_ret
      exact ⟨rfl, b1⟩

theorem seed_beq {x u : ByteArray} (h : u.size ≤ x.size) : (((smk x u (u.size - 1) : Nat) : Int) == ((mskF 0 x.size : Nat) : Int)) = sdAll x u :=
  full_beq (smk_lt (by omega)) (fun j => smk_bit x u j _ (by omega))
set_option maxHeartbeats 1000000 in
theorem coversAll_seed (x u : ByteArray) (w : World) (hx : x.size ≤ 60) (hu : u.size ≤ x.size) :
    Calls Tryd.prog 106 #[.iface 122 (.string u), .string x] w fun e w' => e = .returned (.bool (sdAll x u)) ∧ Below w.heap.size w w' := by
  have hb := seed_beq hu
  go_enter Tryd.func106, Tryd.ntmps106
  go_wp2_with (first | (go_at_call 234; refine (seed_covered x u _ hx hu).mono ?_; rintro e w1 ⟨rfl, b1⟩) | (go_at_call 108; refine (placesFrom_any 0 x.size _ (by omega)).mono ?_; rintro e w2 ⟨rfl, rfl⟩))
  go_ret
  exact ⟨rfl, b1⟩

end Go.Proofs.YtfipbnognjepkaaDoor

/-! ### SdI -/
namespace Go.Proofs.YtfipbnognjepkaaDoor
set_option linter.unusedVariables false
set_option linter.unusedSimpArgs false
open Go.RowKit

theorem infoD : (Tryd.prog.info? 122).map (fun i => (i.zero, i.size, i.bytes)) = some (some (.string ⟨#[]⟩), 1, 16) := by kernel_rfl
/-- A list of words of this kind that a call made. -/
def OwnD (w : World) (B : Nat) (v : Value) (L : List ByteArray) : Prop := w.ownsRow B 122 1 v L.length (L.map (Value.string))
theorem ownD_nil (w : World) (B : Nat) : OwnD w B (.slice none 0 0) [] := World.ownsRow_nil _ _ _ _
theorem ownD_snoc {w : World} {B : Nat} {v : Value} {L : List ByteArray} {s : ByteArray} (h : w.ownsRow B 122 1 v (L.length + 1) (L.map Value.string ++ [Value.string s])) : OwnD w B v (L ++ [s]) := by
  unfold OwnD
  rw [List.length_append, List.map_append]
  exact h
theorem ownD_look {w : World} {B : Nat} {v : Value} {L : List ByteArray} (h : OwnD w B v L) : ∃ ad cap, v = .slice ad L.length cap ∧ ∀ j (hj : j < L.length), ∃ g, ad = some ⟨g, 0, none⟩ ∧ g < w.heap.size ∧ j < cap ∧ w.cell? ⟨g, j, none⟩ = some (.string (L[j]'hj)) := by
  rcases own_forms h with ⟨rfl, h0, _⟩ | ⟨g, cap, rfl, _, hg, hc, _, hk, _⟩
  · exact ⟨_, _, by rw [h0], fun j hj => by omega⟩
  · refine ⟨_, _, rfl, fun j hj => ⟨g, rfl, hg, by omega, ?_⟩⟩
    rw [hk j hj]
    simp [hj]
theorem filtD_hit {L : List ByteArray} {p : ByteArray → Bool} {k : Nat} (h : k < L.length) (hp : p (L[k]'h) = true) : (L.take (k + 1)).filter p = (L.take k).filter p ++ [L[k]'h] := by
  rw [List.take_succ_eq_append_getElem h, List.filter_append]; simp [hp]
theorem filtD_miss {L : List ByteArray} {p : ByteArray → Bool} {k : Nat} (h : k < L.length) (hp : p (L[k]'h) = false) : (L.take (k + 1)).filter p = (L.take k).filter p := by
  rw [List.take_succ_eq_append_getElem h, List.filter_append]; simp [hp]

end Go.Proofs.YtfipbnognjepkaaDoor

/-! ### SdFa -/
namespace Go.Proofs.YtfipbnognjepkaaDoor
set_option linter.unusedVariables false
set_option linter.unusedSimpArgs false
open Go.RowKit

set_option maxRecDepth 100000 in
set_option maxHeartbeats 1000000 in
theorem isSeed1_any (b1 b2 : Nat) (x u : ByteArray) (w : World) (c1 : Boxed w b1 9 (.string x)) (c2 : Boxed w b2 9 (.string u)) (sx : x.size ≤ maxLen) (su : u.size ≤ maxLen) :
    Calls Tryd.prog 111 #[.pointer (some ⟨b1, 0, none⟩), .pointer (some ⟨b2, 0, none⟩)] w fun e w' => EndB (isSeedR x u) e ∧ Below w.heap.size w w' := by
  have k1 := c1.cell
  have k2 := c2.cell
  have c1' : Boxed (w.alloc (.cells #[.string x, .string u] 9)) b1 9 (.string x) := c1.alloc _
  have c2' : Boxed (w.alloc (.cells #[.string x, .string u] 9)) b2 9 (.string u) := c2.alloc _
  have l1' := c1'.lt
  have l2' := c2'.lt
  by_cases h : IsW x ∧ IsW u
  · have H := Lib.hid h
    have zx := h.1.size
    have zu := h.2.size
    by_cases h0 : u.size = 0 ∨ x.size < u.size
    · rw [isSeedR_out h h0]
      clear h
      have hq : u.toList.isEmpty = true ∨ (u.toList.isEmpty = false ∧ decide (u.size ≤ x.size) = false) := by
        by_cases hu : u.size = 0
        · exact .inl (nil_yesC hu)
        · exact .inr ⟨nil_noC hu, decide_eq_false (by have := h0.resolve_left hu; omega)⟩
      clear h0
      rcases hq with hq | ⟨hq, hq2⟩
      all_goals
        go_enter Tryd.func111, Tryd.ntmps111
        go_wp2_with (first | (go_at_call 105; refine (areWords2_yes _ x u _ (by simp) (by simp [go_sem]) (by simp [go_sem]) H.out.1 H.out.2).mono ?_; rintro e w1 ⟨rfl, a1⟩; have k3 := (boxed_past c2' a1 l2').cell; have k4 := (boxed_past c1' a1 l1').cell) | (go_at_call 70; first | (with_reducible refine (refuse_yes _ _).mono ?_; rintro e w2 ⟨rfl, rfl⟩) | (with_reducible refine (refuse_no _ _).mono ?_; rintro e w2 ⟨rfl, rfl⟩)))
        exact ⟨rfl, .inr ⟨rfl, rfl⟩, (Below.new _ _).then a1⟩
    · rw [isSeedR_ok h h0]
      have hq := nil_noC (fun e => h0 (.inl e))
      have hq2 : decide (u.size ≤ x.size) = true := decide_eq_true (by omega)
      have hle : u.size ≤ x.size := by omega
      clear h h0
      go_enter Tryd.func111, Tryd.ntmps111
      go_wp2_with (first | (go_at_call 105; refine (areWords2_yes _ x u _ (by simp) (by simp [go_sem]) (by simp [go_sem]) H.out.1 H.out.2).mono ?_; rintro e w1 ⟨rfl, a1⟩; have k3 := (boxed_past c2' a1 l2').cell; have k4 := (boxed_past c1' a1 l1').cell) | (go_at_call 70; first | (with_reducible refine (refuse_yes _ _).mono ?_; rintro e w2 ⟨rfl, rfl⟩) | (with_reducible refine (refuse_no _ _).mono ?_; rintro e w2 ⟨rfl, rfl⟩)) | (go_at_call 106; refine (coversAll_seed x u _ zx hle).mono ?_; rintro e w3 ⟨rfl, a3⟩))
      go_ret
      exact ⟨.inl ⟨rfl, rfl⟩, ((Below.new _ _).then a1).then a3⟩
  · rw [isSeedR_bad h]
    have H := Lib.hid h
    clear h
    go_enter Tryd.func111, Tryd.ntmps111
    go_wp2_with (first | (go_at_call 105; refine (areWords2_no _ x u _ (by simp) (by simp [go_sem]) (by simp [go_sem]) sx su H.out).mono ?_; rintro e w1 ⟨rfl, a1⟩) | (go_at_call 70; refine (refuse_no _ _).mono ?_; rintro e w2 ⟨rfl, rfl⟩))
    exact ⟨rfl, .inr ⟨rfl, rfl⟩, (Below.new _ _).then a1⟩

set_option maxRecDepth 100000 in
set_option maxHeartbeats 1000000 in
theorem impl_IsSeed (x u : ByteArray) (w : World) (sx : x.size ≤ maxLen) (su : u.size ≤ maxLen) :
    Calls Tryd.prog 47 #[.string x, .string u] w fun e w' => e = .returned (.tuple #[.bool (isSeedR x u).1, .int .i64 (isSeedR x u).2]) ∧ Below w.heap.size w w' := by
  have hmf : ∀ (fn : Fn) (first cap : Array Value) (w : World), (Instr.makeFunc fn first cap).run Tryd.prog w = .ok (.func fn first cap) w := fun _ _ _ _ => rfl
  have c1 : Boxed (((w.alloc (.cells #[.string x] 9)).alloc (.cells #[.string u] 9)).alloc (.cells #[.int .i64 0] 2)) w.heap.size 9 (.string x) := ((Boxed.new w _ _).alloc _).alloc _
  have c2 : Boxed (((w.alloc (.cells #[.string x] 9)).alloc (.cells #[.string u] 9)).alloc (.cells #[.int .i64 0] 2)) (w.heap.size + 1) 9 (.string u) := by
    have := Boxed.new (w.alloc (.cells #[.string x] 9)) 9 (.string u)
    rw [World.size_alloc] at this
    exact this.alloc _
  have hB : Below w.heap.size w ((w.alloc (.cells #[.string x] 9)).alloc (.cells #[.string u] 9)) := (Below.new _ _).alloc (by simp) _
  go_enter Tryd.func47, Tryd.ntmps47
  go_wp2_with (go_at_call 75; refine (door_test 111 _ _ (isSeedR x u) (enters_of Tryd.func111 (by kernel_rfl) rfl) (isSeed1_any _ _ x u _ c1 c2 sx su)).mono ?_; rintro e w1 ⟨rfl, b1⟩)
  go_ret2
  exact ⟨rfl, hB.trans (b1.mono (by simp; omega))⟩

end Go.Proofs.YtfipbnognjepkaaDoor

/-! ### UncPlain -/
namespace Go.Proofs.YtfipbnognjepkaaDoor
set_option linter.unusedVariables false
set_option linter.unusedSimpArgs false
open Go.RowKit

theorem low_form {R : Nat} (h0 : 0 < R) (h : R < 18446744073709551616) : ∃ m, R = 2 ^ Lib.ctz 64 R * (2 * m + 1) ∧ Lib.ctz 64 R < 64 := by
  unfold Lib.ctz
  rw [if_neg (by omega)]
  exact Lib.ctzFrom_spec 64 R h0 (by omega)
theorem low_bit {R : Nat} (h0 : 0 < R) (h : R < 18446744073709551616) : R.testBit (Lib.ctz 64 R) = true := by
  obtain ⟨m, e, hk⟩ := low_form h0 h
  generalize Lib.ctz 64 R = k at *
  rw [e, Nat.testBit_two_pow_mul]
  simp [Nat.testBit_zero]
theorem low_none {R : Nat} (h0 : 0 < R) (h : R < 18446744073709551616) {j : Nat} (hj : j < Lib.ctz 64 R) : R.testBit j = false := by
  obtain ⟨m, e, hk⟩ := low_form h0 h
  generalize Lib.ctz 64 R = k at *
  rw [e, Nat.testBit_two_pow_mul]
  have : ¬ k ≤ j := by omega
  simp [this]
theorem low_pred {R : Nat} (h0 : 0 < R) (h : R < 18446744073709551616) (j : Nat) : (R &&& (R - 1)).testBit j = (R.testBit j && decide (j ≠ Lib.ctz 64 R)) := by
  obtain ⟨m, e, hk⟩ := low_form h0 h
  generalize Lib.ctz 64 R = k at *
  have hp : 0 < 2 ^ k := Nat.pow_pos (by omega)
  have e1 : R = 2 ^ k * (2 * m + 1) + 0 := by omega
  have e2 : R - 1 = 2 ^ k * (2 * m) + (2 ^ k - 1) := by
    rw [e, Nat.mul_add, Nat.mul_one]; omega
  rw [Nat.testBit_and, e2, Nat.testBit_two_pow_mul_add _ (by omega)]
  by_cases hj : j < k
  · have hf : R.testBit j = false := by
      rw [e, Nat.testBit_two_pow_mul]
      have : ¬ k ≤ j := by omega
      simp [this]
    rw [hf]; rfl
  · rw [if_neg hj]
    by_cases he : j = k
    · subst he
      have : (2 * m).testBit (j - j) = false := by rw [Nat.sub_self, Nat.testBit_zero]; simp
      rw [this]; simp
    · obtain ⟨i, hi⟩ : ∃ i, j - k = i + 1 := ⟨j - k - 1, by omega⟩
      have hR : R.testBit j = m.testBit i := by
        rw [e, Nat.testBit_two_pow_mul, hi, Nat.testBit_succ]
        have : k ≤ j := by omega
        simp only [this, ge_iff_le, decide_true, Bool.true_and]
        congr 1; omega
      rw [hR, hi, Nat.testBit_succ]
      have d : 2 * m / 2 = m := by omega
      rw [d]
      simp [he]
/-- The places below c that a set has. -/
def lowL (s c : Nat) : List Int := ((List.range c).filter fun j => s.testBit j).map Int.ofNat
theorem lowL_len (s c : Nat) : (lowL s c).length ≤ c := by
  unfold lowL; rw [List.length_map]
  have := List.length_filter_le (fun j => s.testBit j) (List.range c)
  rw [List.length_range] at this; exact this
theorem lowL_skip {s c : Nat} : ∀ d, (∀ j, c ≤ j → j < c + d → s.testBit j = false) → lowL s (c + d) = lowL s c
  | 0, _ => rfl
  | d + 1, h => by
    have ih := lowL_skip (s := s) (c := c) d (fun j h1 h2 => h j h1 (by omega))
    have hf := h (c + d) (by omega) (by omega)
    rw [← ih]
    unfold lowL
    rw [← Nat.add_assoc, List.range_succ, List.filter_append]
    simp [hf]
theorem lowL_hit {s c : Nat} (h : s.testBit c = true) : lowL s (c + 1) = lowL s c ++ [(c : Int)] := by
  unfold lowL
  rw [List.range_succ, List.filter_append]
  simp [h]
/-- What is left behind the places below c. -/
def Rest (s c R : Nat) : Prop := ∀ j, R.testBit j = (s.testBit j && decide (c ≤ j))
theorem rest_start (s : Nat) : Rest s 0 s := fun j => by simp
theorem rest_step {s c R : Nat} (h : Rest s c R) (h0 : 0 < R) (hR : R < 18446744073709551616) : c ≤ Lib.ctz 64 R ∧ s.testBit (Lib.ctz 64 R) = true ∧ lowL s (Lib.ctz 64 R + 1) = lowL s c ++ [(Lib.ctz 64 R : Int)] ∧ Rest s (Lib.ctz 64 R + 1) (R &&& (R - 1)) := by
  have h1 := low_bit h0 hR
  have h2 := fun j => low_none (j := j) h0 hR
  have h3 := low_pred h0 hR
  generalize Lib.ctz 64 R = k at *
  have hk := h k
  rw [h1] at hk
  have hk1 : s.testBit k = true ∧ c ≤ k := by
    have := hk.symm
    simpa using this
  refine ⟨hk1.2, hk1.1, ?_, fun j => ?_⟩
  · rw [lowL_hit hk1.1]
    have e : lowL s k = lowL s c := by
      obtain ⟨d, rfl⟩ : ∃ d, k = c + d := ⟨k - c, by omega⟩
      refine lowL_skip d (fun j h4 h5 => ?_)
      have := h j
      rw [h2 j h5] at this
      have h6 : (decide (c ≤ j)) = true := decide_eq_true h4
      rw [h6, Bool.and_true] at this
      exact this.symm
    rw [e]
  · rw [h3 j, h j]
    by_cases hj : j = k
    · subst hj; simp
    · by_cases hlt : j < k
      · have := h j
        rw [h2 j hlt] at this
        rw [← this]
        have : ¬ k + 1 ≤ j := by omega
        simp [this]
      · have a : c ≤ j := by omega
        have b : k + 1 ≤ j := by omega
        simp [a, b, hj]
theorem rest_end {s c : Nat} {n : Nat} (h : Rest s c 0) (hs : s < 2 ^ n) : lowL s c = lowL s n := by
  by_cases hc : c ≤ n
  · obtain ⟨d, rfl⟩ : ∃ d, n = c + d := ⟨n - c, by omega⟩
    refine (lowL_skip d (fun j h1 _ => ?_)).symm
    have := h j
    rw [Nat.zero_testBit] at this
    have h6 : (decide (c ≤ j)) = true := decide_eq_true h1
    rw [h6, Bool.and_true] at this
    exact this.symm
  · obtain ⟨d, rfl⟩ : ∃ d, c = n + d := ⟨c - n, by omega⟩
    exact lowL_skip d (fun j h1 _ => Nat.testBit_lt_two_pow (Nat.lt_of_lt_of_le hs (Nat.pow_le_pow_right (by omega) h1)))
theorem rest_lt {s c R : Nat} (h : Rest s c R) (hs : s < 18446744073709551616) : R < 18446744073709551616 := by
  have : R < 2 ^ 64 := by
    apply Nat.lt_pow_two_of_testBit
    intro j hj
    rw [h j]
    have : s.testBit j = false := Nat.testBit_lt_two_pow (Nat.lt_of_lt_of_le hs (by have := Nat.pow_le_pow_right (n := 2) (by omega) hj; omega))
    simp [this]
  omega
theorem lowL_unc {x u : ByteArray} {s : Nat} (h : ∀ j, s.testBit j = (decide (j < x.size) && !cvB x u j)) : lowL s x.size = uncL x u x.size := by
  unfold lowL uncL
  congr 1
  apply List.filter_congr
  intro j hj
  rw [h j]
  simp [List.mem_range.1 hj]

end Go.Proofs.YtfipbnognjepkaaDoor

/-! ### UncI -/
namespace Go.Proofs.YtfipbnognjepkaaDoor
set_option linter.unusedVariables false
set_option linter.unusedSimpArgs false
open Go.RowKit

/-- The library's table in its variable. -/
def TabZ (W : World) : Prop := ∀ j, j < 64 → W.cell? ⟨0, j, none⟩ = some (.int .u8 (Lib.deBruijn64tab.getD j 0))
theorem TabZ.later {W W' : World} {B : Nat} (h : TabZ W) (b : Below B W W') (hB : 0 < B) : TabZ W' := fun j hj => by rw [b.cell hB]; exact h j hj

set_option maxHeartbeats 1000000 in
theorem tz64_core (x k idx : Nat) (w : World) (hx0 : ((x : Int) == 0) = false)
    (key : IntKind.u64.wrap (bits BinOp.and IntKind.u64 (x : Int) (IntKind.u64.wrap (-(x : Int))) * 285870213051353865) / 288230376151711744 = (idx : Int))
    (hi : idx < 64) (hk : k < 64) (hcell : w.cell? ⟨0, idx, none⟩ = some (.int .u8 k)) :
    Calls Tryd.prog 160 #[.int .u64 x] w fun e w' => e = .returned (.int .i64 k) ∧ w' = w := by
  go_enter Tryd.func160, Tryd.ntmps160
  go_wp2_with (simp only [key])
  go_ret
  exact ⟨rfl, rfl⟩
theorem tz64_any (x : Nat) (w : World) (hx : x < 18446744073709551616) (hx0 : 0 < x) (hT : TabZ w) :
    Calls Tryd.prog 160 #[.int .u64 x] w fun e w' => e = .returned (.int .i64 (Lib.ctz 64 x)) ∧ w' = w := by
  obtain ⟨hlow, hk⟩ := Lib.lowest_bit 64 x (by omega) hx
  obtain ⟨hi, htab⟩ := Lib.deBruijn64_at _ hk
  have hcell := hT _ hi
  rw [htab] at hcell
  exact tz64_core x _ _ w (by simp; omega) (tz64_key x _ hx (by omega) hlow) hi hk hcell
theorem bits_andNot_u64 (a b : Nat) (ha : a < 18446744073709551616) (hb : b < 18446744073709551616) :
    ∃ s : Nat, bits .andNot .u64 (a : Int) (b : Int) = (s : Int) ∧ s < 18446744073709551616 ∧ ∀ j, s.testBit j = (a.testBit j && !b.testBit j) := by
  have h1 : (BitVec.ofInt 64 (a : Int)).toNat = a := by
    rw [BitVec.ofInt_natCast, BitVec.toNat_ofNat]; exact Nat.mod_eq_of_lt (by omega)
  have h2 : (BitVec.ofInt 64 (b : Int)).toNat = b := by
    rw [BitVec.ofInt_natCast, BitVec.toNat_ofNat]; exact Nat.mod_eq_of_lt (by omega)
  refine ⟨(BitVec.ofInt 64 (a : Int) &&& ~~~ BitVec.ofInt 64 (b : Int)).toNat, ?_, by have := (BitVec.ofInt 64 (a : Int) &&& ~~~ BitVec.ofInt 64 (b : Int)).isLt; omega, fun j => ?_⟩
  · show IntKind.u64.wrap ((BitVec.ofInt 64 (a : Int) &&& ~~~ BitVec.ofInt 64 (b : Int)).toNat : Int) = _
    have := (BitVec.ofInt 64 (a : Int) &&& ~~~ BitVec.ofInt 64 (b : Int)).isLt
    rw [IntKind.wrap_u64]
    omega
  · rw [BitVec.testBit_toNat, BitVec.getLsbD_and, BitVec.getLsbD_not, ← BitVec.testBit_toNat, ← BitVec.testBit_toNat, h1, h2]
    by_cases hj : j < 64
    · simp [hj]
    · have : a.testBit j = false := Nat.testBit_lt_two_pow (Nat.lt_of_lt_of_le ha (by have := Nat.pow_le_pow_right (n := 2) (by omega) (show 64 ≤ j by omega); omega))
      simp [this]

set_option maxRecDepth 100000 in
set_option maxHeartbeats 2000000 in
theorem list_any (s n : Nat) (w : World) (hs : s < 2 ^ n) (hn : n ≤ 60) (hT : TabZ w) (hw0 : 0 < w.heap.size) :
    Calls Tryd.prog 110 #[.int .u64 (s : Int)] w fun e w' => ∃ v, e = .returned v ∧ OwnI w' w.heap.size v (lowL s n) ∧ Below w.heap.size w w' := by
  obtain ⟨i0, hi, hz0, hz1, hz2⟩ := info_parts infoI64
  have hs64 : s < 18446744073709551616 := by
    have h2 : 2 ^ n ≤ 2 ^ 60 := Nat.pow_le_pow_right (by omega) hn
    omega
  have HT := Lib.hid hT
  clear hT
  go_enter Tryd.func110, Tryd.ntmps110
  go_wp2
  go_loopw [3, 4] (fun s3 s4 wr => ∃ c R : Nat, c ≤ 64 ∧ s4 = .int .u64 (R : Int) ∧ Rest s c R ∧ OwnI wr w.heap.size s3 (lowL s c) ∧ Below w.heap.size w wr)
    (fun _ s4 _ => (intOf s4).toNat)
  case atStart => exact ⟨0, s, by omega, rfl, rest_start s, OwnI.nil _ _, Below.refl _ _⟩
  case round =>
    obtain ⟨c, R, hc, rfl, hR, hown, hB⟩ := hrel
    have hR64 := rest_lt hR hs64
    have hbz := hB.size
    by_cases h0 : 0 < R
    · obtain ⟨z1, z2, z3, z4⟩ := rest_step hR h0 hR64
      have hk64 := (low_form h0 hR64).choose_spec.2
      have hl := lowL_len s c
      have hTr := HT.out.later hB hw0
      have htz := fun W (hh : TabZ W) => tz64_any R W hR64 h0 hh
      have hand := bits_and_u64_nat R (R - 1) hR64 (by omega)
      have e1 : (R : Int) - 1 = ((R - 1 : Nat) : Int) := by omega
      have hlt : R &&& (R - 1) < R := by
        have := Nat.and_le_right (n := R) (m := R - 1)
        omega
      have hne : ((R : Int) == 0) = false := by simp; omega
      have hR0 : ¬ (R : Int) = 0 := by omega
      have Z3 := Lib.hid z3
      have Z4 := Lib.hid z4
      have HTr := Lib.hid hTr
      have HTZ := Lib.hid htz
      clear z2 z3 z4 hTr htz hR
      generalize lowL s c = L at *
      generalize hkk : Lib.ctz 64 R = k at *
      generalize hRR : R &&& (R - 1) = R2 at *
      clear hkk hRR
      go_wp2_with (first | (go_at_call 160; refine (HTZ.out _ HTr.out).mono ?_; rintro e w5 ⟨rfl, rfl⟩) | (at_builtin; refine wpList_append_own _ rfl _ _ 59 rfl w.heap.size 2 i0 (.int .i64 0) 1 8 Tryd.underlying59 hi hz0 hz1 hz2 rfl (by decide) _ _ _ rfl (World.ownsRow.alloc hown _) ⟨_, 0, none⟩ 1 1 [.int .i64 (k : Int)] rfl rfl (cell_new _ _ _) (by intro u hu; simp at hu; subst hu; rfl) (by unfold maxLen; omega) (by omega) (by simp; omega) ?_; intro v' w3 hown' hgrow _))
      refine ⟨⟨k + 1, R2, by omega, rfl, Z4.out, ?_, ?_⟩, by simp [intOf]; omega⟩
      · rw [Z3.out]
        unfold OwnI
        rw [List.length_append, List.map_append]
        exact hown'
      · exact (hB.alloc (by omega) _).grown hgrow (by simp; omega) (fun q hq => (hown.lt q hq).1)
    · obtain rfl : R = 0 := by omega
      have he := rest_end hR hs
      rw [he] at hown
      go_wp2_with fail
      go_ret
      exact ⟨_, rfl, hown, hB⟩

theorem unc_past {w W w1 : World} {p q : Addr} {a b : Value} (b1 : Below W.heap.size W w1) (h : W.cell? p = some a ∧ W.cell? q = some b ∧ Below w.heap.size w W) (hp : p.block < w.heap.size) (hq : q.block < w.heap.size) :
    w1.cell? p = some a ∧ w1.cell? q = some b ∧ Below w.heap.size w w1 := by
  have hs := h.2.2.size
  exact ⟨by rw [b1.cell (by omega)]; exact h.1, by rw [b1.cell (by omega)]; exact h.2.1, h.2.2.then b1⟩

set_option maxRecDepth 100000 in
set_option maxHeartbeats 4000000 in
theorem uncovered1_any (b1 b2 : Nat) (x u : ByteArray) (w : World) (c1 : Boxed w b1 9 (.string x)) (c2 : Boxed w b2 9 (.string u)) (sx : x.size ≤ maxLen) (su : u.size ≤ maxLen) (hT : TabZ w) (hw0 : 0 < w.heap.size) :
    Calls Tryd.prog 107 #[.pointer (some ⟨b1, 0, none⟩), .pointer (some ⟨b2, 0, none⟩)] w fun e w' => EndI (uncoveredR x u) w.heap.size e w' ∧ Below w.heap.size w w' := by
  have hmo : Tryd.prog.follows .mixedOrders = true := by kernel_rfl
  have k1 := c1.cell
  have k2 := c2.cell
  have c1' : Boxed (w.alloc (.cells #[.string x, .string u] 9)) b1 9 (.string x) := c1.alloc _
  have c2' : Boxed (w.alloc (.cells #[.string x, .string u] 9)) b2 9 (.string u) := c2.alloc _
  have l1' := c1'.lt
  have l2' := c2'.lt
  have hT1 : TabZ (w.alloc (.cells #[.string x, .string u] 9)) := hT.later (Below.new _ _) hw0
  have HT := Lib.hid hT1
  clear hT hT1
  by_cases h : IsW x ∧ IsW u
  · have H := Lib.hid h
    by_cases hu0 : u.size = 0
    · rw [uncoveredR_empty h hu0]
      have hq := nil_yesC hu0
      clear h
      go_enter Tryd.func107, Tryd.ntmps107
      go_wp2_with (first | (go_at_call 105; refine (areWords2_yes _ x u _ (by simp) (by simp [go_sem]) (by simp [go_sem]) H.out.1 H.out.2).mono ?_; rintro e w1 ⟨rfl, a1⟩; have k3 := (boxed_past c2' a1 l2').cell) | (go_at_call 70; first | (with_reducible refine (refuse_yes _ _).mono ?_; rintro e w2 ⟨rfl, rfl⟩) | (with_reducible refine (refuse_no _ _).mono ?_; rintro e w2 ⟨rfl, rfl⟩)))
      exact ⟨rfl, .inr ⟨rfl, rfl⟩, (Below.new _ _).then a1⟩
    · rw [uncoveredR_ok h hu0]
      have hq := nil_noC hu0
      have zx := h.1.size
      have zu := h.2.size
      have hic := fun W => callsIn_wide.1 (inner_covered_in x u W zx zu)
      have HIC := Lib.hid hic
      have hmf : mskF 0 x.size < 18446744073709551616 := by have := mskF_lt (i := 0) (m := x.size) (n := 60) (by omega); omega
      have hmk : msk x u < 18446744073709551616 := by
        have h1 := msk_lt x u
        have h2 : 2 ^ x.size ≤ 2 ^ 60 := Nat.pow_le_pow_right (by omega) zx
        omega
      obtain ⟨s, hs1, hs2, hs3⟩ := bits_andNot_u64 _ _ hmf hmk
      have hsb : ∀ j, s.testBit j = (decide (j < x.size) && !cvB x u j) := fun j => by
        rw [hs3 j, mskF_bit, msk_bit]
        simp
      have hsl : s < 2 ^ x.size := by
        apply Nat.lt_pow_two_of_testBit
        intro j hj
        rw [hsb j]
        have : ¬ j < x.size := by omega
        simp [this]
      have hLL := Lib.hid (lowL_unc hsb)
      have pf1 : ∀ W, Calls Tryd.prog 108 #[.int .i64 0, .int .i64 (x.size : Int)] W fun e w' => e = .returned (.int .u64 ((mskF 0 x.size : Nat) : Int)) ∧ w' = W := fun W => placesFrom_any 0 x.size W (by omega)
      have PF := Lib.hid pf1
      clear h hsb hs3 hic pf1
      go_enter Tryd.func107, Tryd.ntmps107
      go_wp2_with (first | (go_at_call 105; refine (areWords2_yes _ x u _ (by simp) (by simp [go_sem]) (by simp [go_sem]) H.out.1 H.out.2).mono ?_; rintro e w2 ⟨rfl, a1⟩; have c3 := boxed_past c2' a1 l2'; have k3 := c3.cell; have c4 := boxed_past c1' a1 l1'; have k4 := c4.cell) | (go_at_call 70; with_reducible refine (refuse_yes _ _).mono ?_; rintro e w1 ⟨rfl, rfl⟩))
      have B1 : Below w.heap.size w w1 := (Below.new _ _).then a1
      have hT2 := HT.out.later a1 (by simp)
      have l3 := c3.lt
      have l4 := c4.lt
      go_region_held3 (fun w' => w'.cell? ⟨b1, 0, none⟩ = some (.string x) ∧ w'.cell? ⟨b2, 0, none⟩ = some (.string u) ∧ Below w1.heap.size w1 w') (first | assumption | exact ⟨k4, k3, Below.refl _ _⟩ | exact ⟨k4, k3, (Below.refl _ _).drew⟩ | (refine ⟨?_, ?_, ?_⟩ <;> first | assumption | exact Below.drew (by assumption) | go_keep)) (first | (go_at_call 109; refine (HIC.out _).mono ?_; rintro e w5 ⟨rfl, b5⟩; have kp := unc_past b5 (by first | assumption | exact ⟨by assumption, by assumption, by assumption⟩ | exact ⟨k4, k3, Below.refl _ _⟩ | exact ⟨k4, k3, (Below.refl _ _).drew⟩) l4 l3) | (go_at_call 108; refine (PF.out _).mono ?_; rintro e w6 ⟨rfl, rfl⟩))
      all_goals (try go_wp2_with fail)
      all_goals (
        obtain ⟨z0, z1, z2⟩ := (by assumption : (_ ∧ _ ∧ Below w1.heap.size w1 _))
        have y1 : 0 < w1.heap.size := by have := B1.size; omega
        refine (list_any s x.size _ hsl zx (hT2.later z2 y1) (by have := z2.size; omega)).mono ?_
        rintro e w9 ⟨v9, rfl, o9, b9⟩
        go_wp2_with fail
        go_ret
        refine ⟨.inl ⟨_, rfl, ?_, rfl⟩, (B1.then z2).then b9⟩
        rw [← hLL.out]
        exact o9.base (B1.then z2).size)
  · rw [uncoveredR_bad h]
    have H := Lib.hid h
    clear h
    go_enter Tryd.func107, Tryd.ntmps107
    go_wp2_with (first | (go_at_call 105; refine (areWords2_no _ x u _ (by simp) (by simp [go_sem]) (by simp [go_sem]) sx su H.out).mono ?_; rintro e w1 ⟨rfl, a1⟩) | (go_at_call 70; refine (refuse_no _ _).mono ?_; rintro e w2 ⟨rfl, rfl⟩))
    exact ⟨rfl, .inr ⟨rfl, rfl⟩, (Below.new _ _).then a1⟩

set_option maxRecDepth 100000 in
set_option maxHeartbeats 1000000 in
theorem impl_UncoveredPlaces (x u : ByteArray) (w : World) (sx : x.size ≤ maxLen) (su : u.size ≤ maxLen) (hT : TabZ w) (hw0 : 0 < w.heap.size) :
    Calls Tryd.prog 46 #[.string x, .string u] w (RetI (uncoveredR x u).1 (uncoveredR x u).2 w) := by
  have hmf : ∀ (fn : Fn) (first cap : Array Value) (w : World), (Instr.makeFunc fn first cap).run Tryd.prog w = .ok (.func fn first cap) w := fun _ _ _ _ => rfl
  have c1 : Boxed (((w.alloc (.cells #[.string x] 9)).alloc (.cells #[.string u] 9)).alloc (.cells #[.int .i64 0] 2)) w.heap.size 9 (.string x) := ((Boxed.new w _ _).alloc _).alloc _
  have c2 : Boxed (((w.alloc (.cells #[.string x] 9)).alloc (.cells #[.string u] 9)).alloc (.cells #[.int .i64 0] 2)) (w.heap.size + 1) 9 (.string u) := by
    have := Boxed.new (w.alloc (.cells #[.string x] 9)) 9 (.string u)
    rw [World.size_alloc] at this
    exact this.alloc _
  have hB : Below w.heap.size w ((w.alloc (.cells #[.string x] 9)).alloc (.cells #[.string u] 9)) := (Below.new _ _).alloc (by simp) _
  have hT2 : TabZ (((w.alloc (.cells #[.string x] 9)).alloc (.cells #[.string u] 9)).alloc (.cells #[.int .i64 0] 2)) := hT.later (hB.alloc (by simp; omega) _) hw0
  have HT2 := Lib.hid hT2
  clear hT hT2
  go_enter Tryd.func46, Tryd.ntmps46
  go_wp2_with (go_at_call 101; refine (door_ints 107 _ _ (uncoveredR x u) (enters_of Tryd.func107 (by kernel_rfl) rfl) (uncovered1_any _ _ x u _ c1 c2 sx su HT2.out (by simp))).mono ?_; rintro e w1 ⟨v, rfl, o1, b1⟩)
  go_ret2
  exact ⟨_, rfl, o1.base (by simp; omega), hB.trans (b1.mono (by simp; omega))⟩

end Go.Proofs.YtfipbnognjepkaaDoor

/-! ### TabZ -/
namespace Go.Proofs.YtfipbnognjepkaaDoor
set_option linter.unusedVariables false
open Go.ChangeShapes Go.WideShapes Go.ChangeAt Go.RowKit

theorem tab_of_laid {W : World} (h : laidMetH Tryd.prog [("math/bits.deBruijn64tab", Rows.laid_math_bits_deBruijn64tab)] W) : TabZ W ∧ 0 < W.heap.size := by
  rw [MakeChecks.laidMetH_plain _ _ _ (by kernel_rfl)] at h
  obtain ⟨ps, ⟨g, t, cs, fuel, p, q, hg, ht, hv, hd, _, _⟩, _⟩ := h
  obtain rfl := Option.some.inj ((show Tryd.prog.globalNamed "math/bits.deBruijn64tab" = some 0 by kernel_rfl).symm.trans hg)
  obtain rfl := Option.some.inj ((show (Tryd.prog.globals[0]?).map (·.type) = some 187 by kernel_rfl).symm.trans ht)
  obtain ⟨xs, m, _, ex, _, hl, hel⟩ := DataW.trod_array Tryd.underlying187 hd
  have c5 : Tryd.prog.cellsOf 5 = 1 := by kernel_rfl
  have hlen : Lib.deBruijn64tab.length = 64 := by decide
  have hdat : (Rows.laid_math_bits_deBruijn64tab : DataW Unit) = .agg (Lib.deBruijn64tab.map fun (n : Nat) => .lit (.int .u8 (n : Int))) := by kernel_rfl
  have key : ∀ r, r < 64 → W.cell? ⟨0, r, none⟩ = some (.int .u8 (Lib.deBruijn64tab.getD r 0)) := by
    intro r hr
    have hE := hel r hr
    rw [c5, Nat.mul_one, List.getElem?_eq_getElem (by omega)] at hE
    obtain ⟨z, e1, e2, _⟩ := DataW.trod_int Tryd.underlying5 hE
    have e3 : (xs.map (·.1)) = Lib.deBruijn64tab.map fun (n : Nat) => .lit (.int .u8 (n : Int)) := by
      have := (Prod.mk.inj ex).1
      rw [hdat] at this
      exact (DataW.agg.inj this).symm
    have e4 : (xs.map (·.1))[r]? = (Lib.deBruijn64tab.map fun (n : Nat) => (DataW.lit (.int .u8 (n : Int)) : DataW Unit))[r]? := by rw [e3]
    rw [List.getElem?_map, List.getElem?_map, List.getElem?_eq_getElem (by omega : r < xs.length), List.getElem?_eq_getElem (by omega : r < Lib.deBruijn64tab.length), e2] at e4
    have hz : z = (Lib.deBruijn64tab.getD r 0 : Nat) := by
      simp only [Option.map_some, Option.some.injEq, DataW.lit.injEq, Lit.int.injEq, true_and] at e4
      rw [e4, List.getD, List.getElem?_eq_getElem (by omega : r < Lib.deBruijn64tab.length)]; rfl
    rw [World.var?_cell hg hv r, ← hz]
    have : cs.toList[r]? = some (.int .u8 z) := by
      have h0 : ((cs.toList.drop r).take 1)[0]? = some (.int .u8 z) := by rw [e1]; rfl
      simpa using h0
    simpa using this
  refine ⟨key, ?_⟩
  have h0 := key 0 (by omega)
  by_cases e : 0 < W.heap.size
  · exact e
  · dsimp only [World.cell?] at h0
    rw [Array.getElem?_eq_none (by omega)] at h0
    cases h0

end Go.Proofs.YtfipbnognjepkaaDoor
