/- CoverLengths, the program. -/
import Derived.Test.YtkemdiefoohdjaaCvF
namespace Go.Proofs.Ytkemdiefoohdjaa
set_option linter.unusedVariables false
set_option linter.unusedSimpArgs false
open Go.RowKit

theorem isW_beg {x : ByteArray} (h : IsW x) {k : Nat} (hk : k < x.size) : IsW (beg x k) := by
  have hs := beg_size hk
  refine ⟨by rw [hs]; have := h.size; omega, fun i hi => ?_⟩
  have hi2 : i < x.size := by omega
  have e : (beg x k)[i]'hi = x[i]'hi2 := by
    simp only [beg, ByteArray.getElem_extract, Nat.zero_add]
  rw [e]
  exact h.2 i hi2
theorem ints_snocC (L : List Int) (z : Int) : L.map (Value.int .i64) ++ [Value.int .i64 z] = (L ++ [z]).map (Value.int .i64) := by rw [List.map_append]; rfl

set_option maxRecDepth 100000 in
set_option maxHeartbeats 2000000 in
theorem coverLengths1_any (b : Nat) (x : ByteArray) (w : World) (c1 : Boxed w b 9 (.string x)) (sx : x.size ≤ maxLen) :
    Calls Try.prog 61 #[.pointer (some ⟨b, 0, none⟩)] w fun e w' => EndI (coverLengthsR x) w.heap.size e w' ∧ Below w.heap.size w w' := by
  obtain ⟨i0, hi, hz0, hz1, hz2⟩ := info_parts infoI64
  have k1 := c1.cell
  have l1 := c1.lt
  by_cases h : IsW x
  · rw [coverLengthsR_ok h]
    have h1 := h.size
    have H := Lib.hid h
    clear h
    go_enter Try.func61, Try.ntmps61
    go_wp2_with (first | (go_at_call 53; refine (isWord_yes x _ H.out).mono ?_; rintro e w1 ⟨rfl, a1⟩; have c2 := boxed_past c1 a1 l1; have k2 := c2.cell) | (go_at_call 46; refine (refuse_yes _ _).mono ?_; rintro e w2 ⟨rfl, rfl⟩))

    have hz1w := a1.size
    go_loopw [2] (fun v wr => ∃ k : Nat, k ≤ x.size ∧ wr.heap[w2.heap.size]? = some (.stringIter x k) ∧ wr.ownsRow (w2.heap.size + 1) 2 1 v k ((clsL x k).map (Value.int .i64)) ∧ Below w2.heap.size w2 wr ∧ w2.heap.size < wr.heap.size)
      (fun _ wr => x.size - wr.iterPos w2.heap.size)
    case atStart => exact ⟨0, Nat.zero_le _, World.iter_heap w2 x 0, World.ownsRow_nil _ _ _ _, Below.new _ _, by simp [World.iter]⟩
    case round =>
      obtain ⟨k, hk, hit, hown, hB, hsz⟩ := hrel
      by_cases hp : k < x.size
      · have hlo := H.out.lo k hp
        have hhi := H.out.hi k hp
        have hnx : ∀ ty, (Instr.next (.pointer (some ⟨w2.heap.size, 0, none⟩)) true ty).run Try.prog wr = _ := fun ty => Lib.run_next_ascii_at wr w2.heap.size x k ty hit hp (by omega)
        have HS := Lib.hid (clsL_succ x k)
        have hsl := slice_beg x k hp
        have HW := Lib.hid (isW_beg H.out hp)
        have hbs := beg_size hp
        have hcp := cvs_pos (x := beg x k) (by omega)
        have HG : Hid (∀ h : 0 < (cvs (beg x k)).length, (cvs (beg x k))[0]'h = lc (beg x k)) := Lib.hid (fun h => head_get h)
        have hll := lc_le (x := beg x k)
        have hit2 := Lib.iterAt_heap wr w2.heap.size x k (k + 1) hit
        have hB2 := Lib.below_iterAt hB (Nat.le_refl _) x (k + 1)
        have hown := ownsRow_iterAt hown (Nat.lt_succ_self _) x (k + 1)
        have hsz2 : w2.heap.size < (wr.iterAt w2.heap.size x (k + 1)).heap.size := by rw [Lib.iterAt_size]; exact hsz
        have c3 := (boxed_past c2 hB2 (by have := c2.lt; omega)).cell
        have HIT := Lib.hid hit
        have HIT2 := Lib.hid hit2
        clear hit hit2
        generalize hgw : wr.iterAt w2.heap.size x (k + 1) = wi at *
        have HGW := Lib.hid hgw
        clear hgw
        generalize beg x k = z at *
        go_wp2_with (first | (go_at_call 54; refine (coversOf_any z _ HW.out).mono ?_; rintro e w3 ⟨v3, rfl, o3, a3⟩; obtain ⟨ad3, cp3, rfl, lk3⟩ := ownC_look o3; obtain ⟨g3, rfl, y0, y1, y2⟩ := lk3 0 hcp; rw [HG.out hcp] at y2; clear lk3; have y3 : (0 : Int) < ((cvs z).length : Int) := (by omega); have hown3 : w3.ownsRow (w2.heap.size + 1) 2 1 u2 k ((clsL x k).map (Value.int .i64)) := own_below hown a3; have a3z := a3.size) | (at_builtin; refine wpList_append_own _ rfl _ _ 34 rfl (w2.heap.size + 1) 2 i0 (.int .i64 0) 1 8 Try.underlying34 hi hz0 hz1 hz2 rfl (by decide) _ _ _ rfl (hown3.alloc _) ⟨_, 0, none⟩ 1 1 [.int .i64 ((lc z).size : Int)] rfl rfl (cell_new _ _ _) (by intro u hu; simp at hu; subst hu; rfl) (by unfold maxLen; omega) (by omega) (by simp; omega) ?_; intro v' w4 hown' hgrow _))
        have hkeep : w4.heap[w2.heap.size]? = some (.stringIter x (k + 1)) := by
          rw [hgrow.block _ (by simp; omega) (fun e => by have := (hown3.lt _ e.symm).1; omega), Below.heap_alloc _ _ _ (by omega), a3.block _ hsz2]
          exact HIT2.out
        have hB3 : Below w2.heap.size w2 w4 := ((hB2.then a3).alloc (by omega) _).grown hgrow (by simp; omega) (fun q hq => Nat.le_of_lt (hown3.lt q hq).1)
        have hsz3 : w2.heap.size < w4.heap.size := by have := hgrow.size; simp at this; omega
        have HK := Lib.hid hkeep
        clear hkeep
        go_roundw
        case rel => exact ⟨k + 1, by omega, HK.out, by rw [HS.out, ← ints_snocC]; exact hown', hB3, hsz3⟩
        case measure => simp only [World.iterPos, HK.out, HIT.out]; omega
      · have hke : k = x.size := by omega
        subst hke
        have hnx : ∀ ty, (Instr.next (.pointer (some ⟨w2.heap.size, 0, none⟩)) true ty).run Try.prog wr = _ := fun ty => Lib.run_next_end_at wr w2.heap.size x x.size ty hit hp
        have ho : OwnI wr w.heap.size u2 (clsL x x.size) := by unfold OwnI; rw [clsL_len]; exact own_base hown (by omega)
        have HO := Lib.hid ho
        clear hown ho
        go_wp2_with fail
        go_ret
        exact ⟨.inl ⟨_, rfl, HO.out, rfl⟩, a1.then hB⟩
  · rw [coverLengthsR_bad h]
    have H := Lib.hid h
    clear h
    go_enter Try.func61, Try.ntmps61
    go_wp2_with (first | (go_at_call 53; refine (isWord_not x _ sx H.out).mono ?_; rintro e w1 ⟨rfl, a1⟩) | (go_at_call 46; refine (refuse_no _ _).mono ?_; rintro e w2 ⟨rfl, rfl⟩))
    exact ⟨rfl, .inr ⟨rfl, rfl⟩, a1⟩

set_option maxRecDepth 100000 in
theorem impl_CoverLengths (x : ByteArray) (w : World) (sx : x.size ≤ maxLen) :
    Calls Try.prog 26 #[.string x] w (RetI (coverLengthsR x).1 (coverLengthsR x).2 w) := by
  have hmf : ∀ (fn : Fn) (first cap : Array Value) (w : World), (Instr.makeFunc fn first cap).run Try.prog w = .ok (.func fn first cap) w := fun _ _ _ _ => rfl
  have c1 : Boxed ((w.alloc (.cells #[.string x] 9)).alloc (.cells #[.int .i64 0] 2)) w.heap.size 9 (.string x) := (Boxed.new w _ _).alloc _
  have hB : Below w.heap.size w (w.alloc (.cells #[.string x] 9)) := Below.new _ _
  go_enter Try.func26, Try.ntmps26
  go_wp2_with (go_at_call 60; refine (door_ints 61 _ _ (coverLengthsR x) (enters_of Try.func61 (by kernel_rfl) rfl) (coverLengths1_any w.heap.size x _ c1 sx)).mono ?_; rintro e w1 ⟨v, rfl, o1, b1⟩)
  go_ret2
  exact ⟨_, rfl, o1.base (by simp), hB.then b1⟩

end Go.Proofs.Ytkemdiefoohdjaa
