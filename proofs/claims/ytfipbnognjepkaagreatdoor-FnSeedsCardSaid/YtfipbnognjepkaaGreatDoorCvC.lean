/- Covers of a word, the program. -/
import Derived.Test.YtfipbnognjepkaaGreatDoorCvI
import Derived.Test.YtfipbnognjepkaaGreatDoorNumbers
namespace Go.Proofs.YtfipbnognjepkaaGreatDoor
set_option linter.unusedVariables false
set_option linter.unusedSimpArgs false
open Go.RowKit

theorem slice_beg (x : ByteArray) (k : Nat) (h : k < x.size) (W : World) :
    (Instr.slice 9 (.string x) none (some (.int .i64 ((k : Int) + 1))) none).run Tryz.prog W = .ok (.string (beg x k)) W := by
  have := run_slice_string_h (P := Tryz.prog) W 9 x Tryz.underlying9 .i64 ((k : Int) + 1) (by omega) (by omega)
  have e : ((k : Int) + 1).toNat = k + 1 := by omega
  rw [e] at this
  exact this
theorem begs_take (x : ByteArray) (k : Nat) : (begs x (k + 1)).map Value.string = (begs x k).map Value.string ++ [Value.string (beg x k)] := by rw [begs_succ, List.map_append]; rfl
theorem begs_mem {x z : ByteArray} (h : z ∈ begs x x.size) : z.size ≤ x.size := by
  unfold begs at h
  obtain ⟨i, hi, rfl⟩ := List.mem_map.1 h
  rw [beg_size (List.mem_range.1 hi)]
  exact List.mem_range.1 hi

set_option maxRecDepth 100000 in
set_option maxHeartbeats 2000000 in
theorem coversOf_any (x : ByteArray) (w : World) (h : IsW x) :
    Calls Tryz.prog 88 #[.string x] w fun e w' => ∃ v, e = .returned v ∧ OwnC w' w.heap.size v (cvs x) ∧ Below w.heap.size w w' := by
  obtain ⟨i0, hi, hz0, hz1, hz2⟩ := info_parts infoC
  have h1 := h.size
  have hf := fun B v W (hh : OwnC W B v (begs x x.size)) => coveringAll_C B v (begs x x.size) x W hh (by rw [begs_len]; omega) h1 (fun z hz => by have := begs_mem hz; omega)
  have HF := Lib.hid hf
  have H := Lib.hid h
  clear h hf
  go_enter Tryz.func88, Tryz.ntmps88
  go_wp2
  go_loopw [3] (fun v wr => ∃ k : Nat, k ≤ x.size ∧ wr.heap[w.heap.size]? = some (.stringIter x k) ∧ wr.ownsRow (w.heap.size + 1) 100 1 v k ((begs x k).map Value.string) ∧ Below w.heap.size w wr ∧ w.heap.size < wr.heap.size)
    (fun _ wr => x.size - wr.iterPos w.heap.size)
  case atStart => exact ⟨0, Nat.zero_le _, World.iter_heap w x 0, World.ownsRow_nil _ _ _ _, Below.new _ _, by simp [World.iter]⟩
  case round =>
    obtain ⟨k, hk, hit, hown, hB, hsz⟩ := hrel
    by_cases hp : k < x.size
    · have hlo := H.out.lo k hp
      have hhi := H.out.hi k hp
      have hnx : ∀ ty, (Instr.next (.pointer (some ⟨w.heap.size, 0, none⟩)) true ty).run Tryz.prog wr = _ := fun ty => Lib.run_next_ascii_at wr w.heap.size x k ty hit hp (by omega)
      have HS := Lib.hid (begs_take x k)
      have hsl := slice_beg x k hp
      have hit2 := Lib.iterAt_heap wr w.heap.size x k (k + 1) hit
      have hB2 := Lib.below_iterAt hB (Nat.le_refl _) x (k + 1)
      have hown := ownsRow_iterAt hown (Nat.lt_succ_self _) x (k + 1)
      have hsz2 : w.heap.size < (wr.iterAt w.heap.size x (k + 1)).heap.size := by rw [Lib.iterAt_size]; exact hsz
      have HIT := Lib.hid hit
      have HIT2 := Lib.hid hit2
      clear hit hit2
      generalize hgw : wr.iterAt w.heap.size x (k + 1) = wi at *
      have HG := Lib.hid hgw
      clear hgw
      generalize beg x k = z at *
      go_wp2_with (at_builtin; refine wpList_append_own _ rfl _ _ 98 rfl (w.heap.size + 1) 100 i0 (.string ⟨#[]⟩) 1 16 Tryz.underlying98 hi hz0 hz1 hz2 rfl (by decide) _ _ _ rfl (hown.alloc _) ⟨_, 0, none⟩ 1 1 [.string z] rfl rfl (cell_new _ _ _) (by intro u hu; simp at hu; subst hu; rfl) (by unfold maxLen; omega) (by omega) (by simp; omega) ?_; intro v' w1 hown' hgrow _)
      have hkeep : w1.heap[w.heap.size]? = some (.stringIter x (k + 1)) := by
        rw [hgrow.block _ (by simp; omega) (fun e => by have := (hown.lt _ e.symm).1; omega), Below.heap_alloc _ _ _ hsz2]
        exact HIT2.out
      have hB3 : Below w.heap.size w w1 := (hB2.alloc (Nat.le_of_lt hsz2) _).grown hgrow (by simp; omega) (fun q hq => Nat.le_of_lt (hown.lt q hq).1)
      have hsz3 : w.heap.size < w1.heap.size := by have := hgrow.size; simp at this; omega
      have HK := Lib.hid hkeep
      clear hkeep
      go_roundw
      case rel => exact ⟨k + 1, by omega, HK.out, by rw [HS.out]; exact hown', hB3, hsz3⟩
      case measure => simp only [World.iterPos, HK.out, HIT.out]; omega
    · have hke : k = x.size := by omega
      subst hke
      have hnx : ∀ ty, (Instr.next (.pointer (some ⟨w.heap.size, 0, none⟩)) true ty).run Tryz.prog wr = _ := fun ty => Lib.run_next_end_at wr w.heap.size x x.size ty hit hp
      have ho : OwnC wr (w.heap.size + 1) u3 (begs x x.size) := by unfold OwnC; rw [begs_len]; exact hown
      have HO := Lib.hid ho
      clear hown ho
      go_wp2_with (go_at_call 141; refine (HF.out _ _ _ HO.out).mono ?_; rintro e w1 ⟨v1, rfl, o1, b1⟩)
      go_ret
      exact ⟨_, rfl, own_base o1 (Nat.le_of_lt hsz), hB.then b1⟩

end Go.Proofs.YtfipbnognjepkaaGreatDoor
