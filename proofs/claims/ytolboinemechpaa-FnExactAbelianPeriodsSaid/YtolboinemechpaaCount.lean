/- The counts of letters: the program and the model. -/
import Derived.Test.YtolboinemechpaaNumbers
import Derived.Test.YtolboinemechpaaCountPlain
namespace Go.Proofs.Ytolboinemechpaa
set_option linter.unusedVariables false
set_option linter.unusedSimpArgs false
open Go.RowKit


set_option maxRecDepth 100000 in
set_option maxHeartbeats 1000000 in
theorem l01Count_any (x : ByteArray) (w : World) (h : IsW x) :
    Calls Try.prog 51 #[.string x] w fun e w' => ∃ v, e = .returned v ∧ OwnI w' w.heap.size v (cntK x x.size) ∧ Below w.heap.size w w' := by
  obtain ⟨i0, hi, hz0, hz1, hz2⟩ := info_parts infoI64
  have h1 := h.size
  have H := Lib.hid h
  clear h
  go_enter Try.func51, Try.ntmps51
  go_wp2_with (at_make; refine wpList_make_full _ rfl _ _ 30 rfl w.heap.size 2 i0 (.int .i64 0) 1 Try.underlying30 hi hz0 hz1 .i64 .i64 5 5 5 rfl rfl rfl rfl (by rw [hz2]; decide) (by decide) (Nat.le_refl _) ?_; intro w1 hown hgrow)
  have hown0 : w1.ownsRow w.heap.size 2 1 (.slice (some ⟨w.heap.size, 0, none⟩) 5 5) 5 ((cntK x 0).map (Value.int .i64)) := by
    have h2 := hown
    rw [show (Value.int .i64 0).cells = #[Value.int .i64 0] from rfl, toList_madeCells_one] at h2
    rw [cntK_zero]
    exact h2
  clear hown
  have B1 : Below w.heap.size w w1 := (Below.refl _ _).grown hgrow (Nat.le_refl _) (fun _ e => by cases e)
  clear hgrow
  go_loopw [4] (fun i wr => ∃ k : Nat, k ≤ x.size ∧ i = .int .i64 k ∧ wr.ownsRow w.heap.size 2 1 (.slice (some ⟨w.heap.size, 0, none⟩) 5 5) 5 ((cntK x k).map (Value.int .i64)) ∧ Below w.heap.size w wr)
    (fun i _ => x.size - (intOf i).toNat)
  case atStart => exact ⟨0, Nat.zero_le _, rfl, hown0, B1⟩
  case round =>
    obtain ⟨k, hk, rfl, hown, hB⟩ := hrel
    clear hown0 B1
    by_cases hp : k < x.size
    · go_wp2_with fail
      refine (l01At_any x k _ hp h1).mono ?_
      rintro e w2 ⟨rfl, b2⟩
      have hown := own_below hown b2
      have hB := hB.then b2
      have hcl := cntK_len x k
      have hlo := H.out.lo k hp
      have hhi := H.out.hi k hp
      obtain ⟨n, hn⟩ : ∃ n : Nat, ((x[k]'hp).toNat : Int) = (n : Int) + 97 := ⟨(x[k]'hp).toNat - 97, by omega⟩
      have hn4 : n ≤ 4 := by omega
      have hsucc : bump (cntK x k) (n : Int) = cntK x (k + 1) := by rw [cntK_succ x k hp, show ((x[k]'hp).toNat : Int) - 97 = (n : Int) from by omega]
      have hbd := cntK_bd x k (Nat.le_of_lt hp) n
      have k1 : w2.cell? ⟨w.heap.size, n, none⟩ = some (.int .i64 ((cntK x k).getD n 0)) := by
        rw [hown.cellAt n (by omega)]
        simp [List.getD_eq_getElem?_getD, List.getElem?_eq_getElem (show n < (cntK x k).length by omega)]
      have k2 : w2.frozen? ⟨w.heap.size, n, none⟩ = false := hown.frozenAt n
      have hst := hown.stored n (.int .i64 ((cntK x k).getD n 0 + 1))
      rw [bump_map, show bump (cntK x k) n = bump (cntK x k) (n : Int) from rfl, hsucc] at hst
      generalize (cntK x k).getD n 0 = z at k1 hst hbd
      obtain ⟨z0, z1⟩ := hbd
      have e1 : ((x[k]'hp).toNat : Int) - 97 = n := by omega
      have HS := Lib.hid hst
      have HN := Lib.hid hsucc
      clear hst hown hsucc hn hcl
      rw [e1]
      clear e1
      go_wp2
      go_roundw
      case rel =>
        refine ⟨k + 1, by omega, by go_num, HS.out.1, ?_⟩
        exact hB.setCell (p := ⟨w.heap.size, n, none⟩) (Nat.le_refl _) _
      case measure => simp [intOf]; omega
    · have hke : k = x.size := by omega
      subst hke
      have HO := Lib.hid hown
      clear hown
      go_wp2
      go_ret
      refine ⟨_, rfl, ?_, hB⟩
      unfold OwnI
      rw [cntK_len]
      exact HO.out

set_option maxRecDepth 100000 in
set_option maxHeartbeats 1000000 in
theorem impl_CountLetters (x : ByteArray) (w : World) (sx : x.size ≤ maxLen) :
    Calls Try.prog 81 #[.string x] w (RetI (countR x).1 (countR x).2 w) := by
  by_cases h : IsW x
  · obtain ⟨i0, hi, hz0, hz1, hz2⟩ := info_parts infoI64
    have h1 := h.size
    rw [countR_ok h]
    have H := Lib.hid h
    clear h
    go_enter Try.func81, Try.ntmps81
    go_wp2_with fail
    refine (isWord_yes x _ H.out).mono ?_
    rintro e w1 ⟨rfl, b1⟩
    have hz := b1.size
    go_wp2_with (at_make; refine wpList_make_full _ rfl _ _ 30 rfl w.heap.size 2 i0 (.int .i64 0) 1 Try.underlying30 hi hz0 hz1 .i64 .i64 5 5 5 rfl rfl rfl rfl (by rw [hz2]; decide) (by decide) hz ?_; intro w2 hown hgrow)
    have hown0 : w2.ownsRow w.heap.size 2 1 (.slice (some ⟨w1.heap.size, 0, none⟩) 5 5) 5 ((cntK x 0).map (Value.int .i64)) := by
      have h2 := hown
      rw [show (Value.int .i64 0).cells = #[Value.int .i64 0] from rfl, toList_madeCells_one] at h2
      rw [cntK_zero]
      exact h2
    clear hown
    have B2 : Below w.heap.size w w2 := b1.grown hgrow hz (fun _ e => by cases e)
    have hz2' : w1.heap.size < w2.heap.size := by
      rcases own_forms hown0 with ⟨h, _⟩ | ⟨g, cap, h, _, h3, _⟩
      · cases h
      · cases h; exact h3
    clear hgrow
    generalize hG : w1.heap.size = G at *
    clear hG
    go_loopw [] (fun wr => ∃ k : Nat, k ≤ x.size ∧ wr.heap[w2.heap.size]? = some (.stringIter x k) ∧ wr.ownsRow w.heap.size 2 1 (.slice (some ⟨G, 0, none⟩) 5 5) 5 ((cntK x k).map (Value.int .i64)) ∧ Below w.heap.size w wr)
      (fun wr => x.size - wr.iterPos w2.heap.size)
    case atStart => exact ⟨0, Nat.zero_le _, World.iter_heap w2 x 0, hown0.alloc _, B2.alloc B2.size _⟩
    case round =>
      obtain ⟨k, hk, hit, hown, hB⟩ := hrel
      have hle := B2.size
      clear hown0 B2 b1
      by_cases hp : k < x.size
      · have hnx : ∀ ty, (Instr.next (.pointer (some ⟨w2.heap.size, 0, none⟩)) true ty).run Try.prog wr = _ := fun ty => Lib.run_next_ascii_at wr w2.heap.size x k ty hit hp (by have := H.out.hi k hp; omega)
        have hit2 := Lib.iterAt_heap wr w2.heap.size x k (k + 1) hit
        have hB2 := Lib.below_iterAt hB hle x (k + 1)
        have hown := ownsRow_iterAt' hown hit (k + 1)
        have HIT := Lib.hid hit
        have HIT2 := Lib.hid hit2
        clear hit hit2 hB
        generalize hgw : wr.iterAt w2.heap.size x (k + 1) = wi at *
        have HG := Lib.hid hgw
        clear hgw
        have hcl := cntK_len x k
        have hlo := H.out.lo k hp
        have hhi := H.out.hi k hp
        obtain ⟨n, hn⟩ : ∃ n : Nat, ((x[k]'hp).toNat : Int) = (n : Int) + 97 := ⟨(x[k]'hp).toNat - 97, by omega⟩
        have hn4 : n ≤ 4 := by omega
        have hsucc : bump (cntK x k) (n : Int) = cntK x (k + 1) := by rw [cntK_succ x k hp, show ((x[k]'hp).toNat : Int) - 97 = (n : Int) from by omega]
        have hbd := cntK_bd x k (Nat.le_of_lt hp) n
        have k1 : wi.cell? ⟨G, n, none⟩ = some (.int .i64 ((cntK x k).getD n 0)) := by
          rw [hown.cellAt n (by omega)]
          simp [List.getD_eq_getElem?_getD, List.getElem?_eq_getElem (show n < (cntK x k).length by omega)]
        have k2 : wi.frozen? ⟨G, n, none⟩ = false := hown.frozenAt n
        have hst := hown.stored n (.int .i64 ((cntK x k).getD n 0 + 1))
        rw [bump_map, show bump (cntK x k) n = bump (cntK x k) (n : Int) from rfl, hsucc] at hst
        generalize (cntK x k).getD n 0 = z at k1 hst hbd
        obtain ⟨z0, z1⟩ := hbd
        have e1 : ((x[k]'hp).toNat : Int) - 97 = n := by omega
        have hGB : w.heap.size ≤ G := by
          rcases own_forms hown with ⟨h, _⟩ | ⟨g, cap, h, h2, _⟩
          · cases h
          · cases h; exact h2
        have HS := Lib.hid hst
        have HN := Lib.hid hsucc
        clear hst hown hsucc hcl
        have E1 := e1
        clear hn
        go_wp2
        go_roundw
        case rel =>
          refine ⟨k + 1, by omega, ?_, HS.out.1, ?_⟩
          · rw [Below.heap_setCell _ _ _ _ (by simp; omega)]; exact HIT2.out
          · exact hB2.setCell (p := ⟨G, n, none⟩) hGB _
        case measure =>
          have hh : (wi.setCell ⟨G, n, none⟩ (.int .i64 (z + 1))).heap[w2.heap.size]? = some (.stringIter x (k + 1)) := by
            rw [Below.heap_setCell _ _ _ _ (by simp; omega)]; exact HIT2.out
          simp only [World.iterPos, hh, HIT.out]; omega
      · have hke : k = x.size := by omega
        subst hke
        have hnx : ∀ ty, (Instr.next (.pointer (some ⟨w2.heap.size, 0, none⟩)) true ty).run Try.prog wr = _ := fun ty => Lib.run_next_end_at wr w2.heap.size x x.size ty hit hp
        have HO := Lib.hid hown
        clear hown
        go_wp2
        go_ret2
        refine ⟨_, rfl, ?_, hB⟩
        unfold OwnI
        rw [cntK_len]
        exact HO.out
  · rw [countR_bad h]
    have H := Lib.hid h
    clear h
    go_enter Try.func81, Try.ntmps81
    go_wp2_with (go_at_call 55; refine (isWord_not x _ sx H.out).mono ?_; rintro e w1 ⟨rfl, b1⟩)
    go_ret2
    exact ⟨_, rfl, OwnI.nil _ _, b1⟩

end Go.Proofs.Ytolboinemechpaa
