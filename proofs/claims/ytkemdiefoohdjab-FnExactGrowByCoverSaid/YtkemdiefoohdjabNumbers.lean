/- The numbers of letters. -/
import Derived.Test.YtkemdiefoohdjabInts
import Derived.Test.YtkemdiefoohdjabLettersPlain
import Derived.Lib.OthersKept
import Derived.WalkSmall
namespace Go.Proofs.Ytkemdiefoohdjab
set_option linter.unusedVariables false
set_option linter.unusedSimpArgs false
open Go.RowKit

set_option maxRecDepth 100000 in
theorem l01At_any (x : ByteArray) (k : Nat) (w : World) (h : k < x.size) (hs : x.size ≤ 60) :
    Calls Try.prog 126 #[.string x, .int .i64 k] w fun e w' => e = .returned (.int .i64 (((x[k]'h).toNat : Int) - 97)) ∧ Below w.heap.size w w' := by
  have hb : (x[k]'h).toNat ≤ 255 := by have := (x[k]'h).toNat_lt; omega
  go_enter Try.func126, Try.ntmps126
  go_wp2
  go_ret
  exact ⟨rfl, Below.refl _ _⟩

set_option maxRecDepth 100000 in
set_option maxHeartbeats 1000000 in
theorem numbersOf_any (x : ByteArray) (w : World) (h : IsW x) :
    Calls Try.prog 75 #[.string x] w fun e w' => ∃ v, e = .returned v ∧ OwnI w' w.heap.size v (numsR x) ∧ Below w.heap.size w w' := by
  obtain ⟨i0, hi, hz0, hz1, hz2⟩ := info_parts infoI64
  have h1 := h.size
  have H := Lib.hid h
  clear h
  go_enter Try.func75, Try.ntmps75
  go_wp2
  go_loopw [3] (fun v wr => ∃ k : Nat, k ≤ x.size ∧ wr.heap[w.heap.size]? = some (.stringIter x k) ∧ wr.ownsRow (w.heap.size + 1) 2 1 v k (((numsR x).take k).map (Value.int .i64)) ∧ Below w.heap.size w wr ∧ w.heap.size < wr.heap.size)
    (fun _ wr => x.size - wr.iterPos w.heap.size)
  case atStart => exact ⟨0, Nat.zero_le _, World.iter_heap w x 0, World.ownsRow_nil _ _ _ _, Below.new _ _, by simp [World.iter]⟩
  case round =>
    rename_i u3 _
    obtain ⟨k, hk, hit, hown, hB, hsz⟩ := hrel
    by_cases hp : k < x.size
    · have hlo := H.out.lo k hp
      have hhi := H.out.hi k hp
      have hnx : ∀ ty, (Instr.next (.pointer (some ⟨w.heap.size, 0, none⟩)) true ty).run Try.prog wr = _ := fun ty => Lib.run_next_ascii_at wr w.heap.size x k ty hit hp (by omega)
      have hsn := nums_snoc (numsR x) k (by rw [numsR_len]; exact hp)
      rw [numsR_get x k _ hp] at hsn
      have HS := Lib.hid hsn
      clear hsn
      have hit2 := Lib.iterAt_heap wr w.heap.size x k (k + 1) hit
      have hB2 := Lib.below_iterAt hB (Nat.le_refl _) x (k + 1)
      have hown := ownsRow_iterAt hown (Nat.lt_succ_self _) x (k + 1)
      have hsz2 : w.heap.size < (wr.iterAt w.heap.size x (k + 1)).heap.size := by rw [Lib.iterAt_size]; exact hsz
      have HIT := Lib.hid hit
      have HIT2 := Lib.hid hit2
      clear hit hit2
      generalize hgw : wr.iterAt w.heap.size x (k + 1) = wi at *
      have HG := Lib.hid hgw
      clear hgw
      go_wp2_with (at_builtin; refine wpList_append_own _ rfl _ _ 22 rfl (w.heap.size + 1) 2 i0 (.int .i64 0) 1 8 Try.underlying22 hi hz0 hz1 hz2 rfl (by decide) _ _ _ rfl (hown.alloc _) ⟨_, 0, none⟩ 1 1 [.int .i64 (((x[k]'hp).toNat : Int) - 97)] rfl rfl (cell_new _ _ _) (by intro u hu; simp at hu; subst hu; rfl) (by unfold maxLen; omega) (by omega) (by simp; omega) ?_; intro v' w1 hown' hgrow _)
      have hkeep : w1.heap[w.heap.size]? = some (.stringIter x (k + 1)) := by
        rw [hgrow.block _ (by simp; omega) (fun e => by have := (hown.lt _ e.symm).1; omega), Below.heap_alloc _ _ _ hsz2]
        exact HIT2.out
      have hB3 : Below w.heap.size w w1 := (hB2.alloc (Nat.le_of_lt hsz2) _).grown hgrow (by simp; omega) (fun q hq => Nat.le_of_lt (hown.lt q hq).1)
      have hsz3 : w.heap.size < w1.heap.size := by have := hgrow.size; simp at this; omega
      have HK := Lib.hid hkeep
      clear hkeep
      go_roundw
      case rel => exact ⟨k + 1, by omega, HK.out, by rw [← HS.out]; exact hown', hB3, hsz3⟩
      case measure => simp only [World.iterPos, HK.out, HIT.out]; omega
    · have hke : k = x.size := by omega
      subst hke
      have hnx : ∀ ty, (Instr.next (.pointer (some ⟨w.heap.size, 0, none⟩)) true ty).run Try.prog wr = _ := fun ty => Lib.run_next_end_at wr w.heap.size x x.size ty hit hp
      have HO := Lib.hid hown
      clear hown
      go_wp2
      go_ret
      refine ⟨_, rfl, ?_, hB⟩
      have h2 := HO.out
      rw [List.take_of_length_le (by rw [numsR_len]; exact Nat.le_refl _)] at h2
      unfold OwnI
      rw [numsR_len]
      exact own_base h2 (Nat.le_succ _)

end Go.Proofs.Ytkemdiefoohdjab
