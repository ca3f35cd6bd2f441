/- The numbers of factors by length: the program. -/
import Derived.Test.YtbhgghajbdlfkabGreatOver
import Derived.Deep.LoopGhost
namespace Go.Proofs.YtbhgghajbdlfkabGreat
set_option linter.unusedVariables false
set_option linter.unusedSimpArgs false
open Go.RowKit Go.Conc

theorem own_setChan {w : World} {B : Nat} {e : TypeId} {v : Value} {n : Nat} {xs : List Value} (h : w.ownsRow B e 1 v n xs) {c : Nat} (hne : ∀ g, v.ownBlock = some g → g ≠ c) (cap : Nat) (buf : Array Value) (cl : Bool) (s r : Nat) (tm : Bool) :
    (w.setChan c cap buf cl s r tm).ownsRow B e 1 v n xs := by
  obtain ⟨hl, h1 | ⟨g, cap', cur, rfl, hg, hh, rr⟩⟩ := h
  · exact ⟨hl, .inl h1⟩
  · refine ⟨hl, .inr ⟨g, cap', cur, rfl, hg, ?_, rr⟩⟩
    have := hne g rfl
    simp only [World.setChan]
    rw [Array.getElem?_setIfInBounds_ne (fun e => this e.symm)]
    exact hh
theorem bufS_get (z : ByteArray) (R : List ByteArray) : (bufS (z :: R)).getD 0 undef = .string z := by simp [bufS]
theorem bufS_tail (z : ByteArray) (R : List ByteArray) : (bufS (z :: R)).extract 1 (bufS (z :: R)).size = bufS R := by
  apply Array.toList_inj.1
  simp [bufS, List.take_of_length_le]
theorem bufS_nil : bufS [] = #[] := rfl
theorem chanAt_set {w : World} {c cap : Nat} {L : List ByteArray} {cl : Bool} {s r : Nat} (h : ChanAt w c cap L cl s r) {g : Nat} (hne : c ≠ g) (j : Nat) (u : Value) : ChanAt (w.setCell ⟨g, j, none⟩ u) c cap L cl s r := by
  unfold ChanAt
  rw [heap_setCell_other w ⟨g, j, none⟩ c u (fun e => hne (by simpa using e))]
  exact h
theorem chanAt_recv {w : World} {c cap : Nat} {z : ByteArray} {R : List ByteArray} {cl : Bool} {s r : Nat} (h : ChanAt w c cap (z :: R) cl s r) :
    ChanAt (w.setChan c cap ((bufS (z :: R)).extract 1 (bufS (z :: R)).size) cl s (r + 1) false) c cap R cl s (r + 1) := by
  have hlt := (Array.getElem?_eq_some_iff.1 h).1
  unfold ChanAt
  rw [heap_setChan _ _ _ _ _ _ _ _ hlt, bufS_tail]

/-- The row while the factors of the length j are counted. -/
def rowC (x : ByteArray) (j i : Nat) : List Int := cxs x j ++ (i : Int) :: List.replicate (x.size - j) 0
theorem rowC_get (x : ByteArray) (j i : Nat) (h : j < (rowC x j i).length) : (rowC x j i)[j]'h = (i : Int) := by
  have h2 : (rowC x j i)[j]? = some (i : Int) := by
    unfold rowC
    rw [List.getElem?_append_right (by rw [cxs_len]; exact Nat.le_refl _), cxs_len, Nat.sub_self]
    rfl
  rw [List.getElem?_eq_getElem h] at h2
  exact Option.some.inj h2
theorem rowC_set (x : ByteArray) (j i : Nat) : (rowC x j i).set j ((i : Int) + 1) = rowC x j (i + 1) := by
  unfold rowC
  rw [List.set_append_right _ _ (by rw [cxs_len]; exact Nat.le_refl _)]
  simp [cxs_len]
theorem rowC_len (x : ByteArray) (j i : Nat) (h : j ≤ x.size) : (rowC x j i).length = x.size + 1 := by
  unfold rowC
  rw [List.length_append, cxs_len]
  simp
  omega
/-- The row ahead of the length j. -/
def rowR (x : ByteArray) (j : Nat) : List Int := cxs x j ++ List.replicate (x.size + 1 - j) 0
theorem rowR_start (x : ByteArray) (j : Nat) (h : j ≤ x.size) : rowR x j = rowC x j 0 := by
  unfold rowR rowC
  rw [show x.size + 1 - j = (x.size - j) + 1 by omega, List.replicate_succ]
  rfl
theorem rowR_next (x : ByteArray) (j : Nat) (h : j ≤ x.size) : rowR x (j + 1) = rowC x j (facs x j).length := by
  unfold rowR rowC
  rw [cxs_succ, List.append_assoc, show x.size + 1 - (j + 1) = x.size - j by omega]
  rfl
theorem rowR_end (x : ByteArray) : rowR x (x.size + 1) = cxs x (x.size + 1) := by unfold rowR; simp
theorem rowR_zero (x : ByteArray) : (rowR x 0).map (Value.int .i64) = List.replicate (x.size + 1) (.int .i64 0) := by unfold rowR cxs; simp

set_option maxRecDepth 100000 in
set_option maxHeartbeats 1000000 in
theorem impl_ComplexityOf_ok (x : ByteArray) (w : World) (h : IsW x) (sx : x.size ≤ maxLen) :
    Calls Tryz.prog 22 #[.string x] w (RetI (cxs x (x.size + 1)) 0 w) := by
  obtain ⟨i0, hi, hz0, hz1, hz2⟩ := info_parts infoI64
  have hx := h.size
  have HO : Hid (∀ (j : Nat) (W : World), j ≤ x.size → Calls Tryz.prog 76 #[.string x, .int .i64 (j : Int)] W fun e w' => ∃ c, e = .returned (.chan (some c)) ∧ W.heap.size ≤ c ∧ c < w'.heap.size ∧ (∃ s, ChanAt w' c (facs x j).length (facs x j) true s 0) ∧ Below W.heap.size W w') := Lib.hid fun j W hj => by
    have := factorsOver_any x (j : Int) W sx (WalkArith.wf_i64 (by omega))
    rw [factorsR_ok h (by omega)] at this
    exact this
  have H := Lib.hid h
  clear h
  go_enter Tryz.func22, Tryz.ntmps22
  go_wp2_with (first | (go_at_call 80; refine (isWord_yes x _ H.out).mono ?_; rintro e w1 ⟨rfl, b1⟩; have hb1 := b1.size) | (at_make; refine wpList_make_full _ rfl _ _ 36 rfl w1.heap.size 2 i0 (.int .i64 0) 1 Tryz.underlying36 hi hz0 hz1 .i64 .i64 ((x.size : Int) + 1) ((x.size : Int) + 1) (x.size + 1) rfl rfl (by omega) (by omega) (by rw [hz2]; omega) (by unfold maxLen; omega) (Nat.le_refl _) ?_; intro wm hown hgrow))
  rw [show (Value.int .i64 0).cells = #[Value.int .i64 0] from rfl, toList_madeCells_one, Nat.mul_one, ← rowR_zero] at hown
  have Bm : Below w1.heap.size w1 wm := (Below.refl w1.heap.size w1).grown hgrow (Nat.le_refl _) (fun _ e => by cases e)
  have HG := Lib.hid b1
  clear hgrow b1
  go_wp2
  go_loopg [15] (x.size + 1) (fun gk i wr => ∃ j : Nat, j + gk = x.size + 1 ∧ i = .int .i64 (j : Int) ∧ wr.ownsRow w1.heap.size 2 1 (.slice (some ⟨w1.heap.size, 0, none⟩) (x.size + 1) (x.size + 1)) (x.size + 1) ((rowR x j).map (Value.int .i64)) ∧ Below w1.heap.size w1 wr)
  case atStart => exact ⟨0, by omega, rfl, hown, Bm⟩
  case round =>
    clear hown Bm
    obtain ⟨j, hj, rfl, hown, hB⟩ := hrel
    have hbz := hB.size
    by_cases hp : j < x.size + 1
    · obtain ⟨gq, rfl⟩ : ∃ gq, gk = gq + 1 := ⟨gk - 1, by omega⟩
      have HJ := Lib.hid hj
      have hpi : (j : Int) < (x.size : Int) + 1 := by omega
      rw [rowR_start x j (by omega)] at hown
      have HN := Lib.hid (rowR_next x j (by omega))
      have hF : (facs x j).length ≤ 61 := by have := facs_len x j; omega
      have hlt := (hown.lt w1.heap.size rfl).2
      clear hj
      go_wp2_with (go_at_call 76; refine (HO.out j _ (by omega)).mono ?_; rintro e w2 ⟨c, rfl, hc1, hc2, ⟨s2, hch⟩, b2⟩)
      have hown2 := own_below hown b2
      have hB2 := hB.then b2
      have hne : w1.heap.size ≠ c := by omega
      generalize facs x j = FF at *
      clear hown b2
      go_loopg [] FF.length (fun gi wr' => ∃ i : Nat, i + gi = FF.length ∧ (∃ s r, ChanAt wr' c FF.length (FF.drop i) true s r) ∧ wr'.ownsRow w1.heap.size 2 1 (.slice (some ⟨w1.heap.size, 0, none⟩) (x.size + 1) (x.size + 1)) (x.size + 1) ((rowC x j i).map (Value.int .i64)) ∧ Below w1.heap.size w1 wr')
      case atStart => exact ⟨0, by omega, ⟨_, _, hch⟩, hown2, hB2⟩
      case round =>
        clear hown2 hB2 hch
        obtain ⟨i, hi2, ⟨s, r, hch⟩, hown, hB3⟩ := hrel
        by_cases hp2 : i < FF.length
        · obtain ⟨gr, rfl⟩ : ∃ gr, gk = gr + 1 := ⟨gk - 1, by omega⟩
          have HI := Lib.hid hi2
          have hd := List.drop_eq_getElem_cons hp2
          rw [hd] at hch
          clear hi2 hd
          generalize FF[i]'hp2 = z at *
          go_upto_region 8 with fail
          refine opsTo_region ?_
          show OpsTo _ _ _ [0, 1] _ _
          refine opsTo_recv (c := c) (z := .string ⟨#[]⟩) (w₁ := wr) true rfl rfl (by simp [go_sem, Act.eval, rcase]) hch (by rw [bufS_size]; exact Nat.succ_pos _) ?_
          have hch2 := chanAt_recv hch
          have hown2 := own_setChan hown (c := c) (fun g e => by cases e; exact hne) FF.length ((bufS (z :: FF.drop (i + 1))).extract 1 (bufS (z :: FF.drop (i + 1))).size) true s (r + 1) false
          have hB4 := below_setChan hB3 (show w1.heap.size ≤ c by omega) FF.length ((bufS (z :: FF.drop (i + 1))).extract 1 (bufS (z :: FF.drop (i + 1))).size) true s (r + 1) false
          rw [bufS_get]
          generalize wr.setChan c FF.length ((bufS (z :: FF.drop (i + 1))).extract 1 (bufS (z :: FF.drop (i + 1))).size) true s (r + 1) false = wn at *
          refine opsTo_value (v := .bool true) (w' := wn) rfl rfl (by simp [go_sem, Act.eval, Act.put, got]) ?_
          refine opsTo_nil ?_
          have hg0 : wn.cell? ⟨w1.heap.size, j, none⟩ = some (.int .i64 (i : Int)) := by
            have h1 := hown2.cellAt j (by omega)
            have h2 : j < (rowC x j i).length := by rw [rowC_len x j i (by omega)]; omega
            rw [h1, List.getElem?_map, List.getElem?_eq_getElem h2, rowC_get]
            rfl
          have hgf := hown2.frozenAt j
          obtain ⟨hst, hgr⟩ := hown2.stored j (.int .i64 ((i : Int) + 1))
          rw [← List.map_set, rowC_set] at hst
          have hch3 := chanAt_set hch2 (fun e => hne e.symm) (g := w1.heap.size) j (.int .i64 ((i : Int) + 1))
          have hB5 := hB4.setCell (p := ⟨w1.heap.size, j, none⟩) (Nat.le_refl _) (.int .i64 ((i : Int) + 1))
          simp only [Act.put, List.setIfInBounds_toArray, List.set_cons_succ, List.set_cons_zero]
          have hjx : j < x.size + 1 := hp
          clear hown hch hB3 hown2 hB4 hch2
          go_wp2
          go_roundg gr
          case measure => omega
          case rel => exact ⟨i + 1, by have := HI.out; omega, ⟨_, _, hch3⟩, hst, hB5⟩
        · obtain rfl : gk = 0 := by omega
          obtain rfl : i = FF.length := by omega
          rw [List.drop_length] at hch
          go_upto_region 8 with fail
          refine opsTo_region ?_
          show OpsTo _ _ _ [0, 1] _ _
          refine opsTo_shut (c := c) (z := .string ⟨#[]⟩) (w₁ := wr) true rfl rfl (by simp [go_sem, Act.eval, rcase]) hch ?_
          refine opsTo_value (v := .bool false) (w' := wr) rfl rfl (by simp [go_sem, Act.eval, Act.put, got]) ?_
          refine opsTo_nil ?_
          simp only [Act.put, List.setIfInBounds_toArray, List.set_cons_succ, List.set_cons_zero]
          rw [← HN.out] at hown
          clear hch
          go_wp2
          go_roundg gq
          case measure => omega
          case rel => exact ⟨j + 1, by have := HJ.out; omega, by go_num, hown, hB3⟩
    · obtain rfl : gk = 0 := by omega
      obtain rfl : j = x.size + 1 := by omega
      rw [rowR_end] at hown
      have HOW := Lib.hid hown
      have hpi : ¬ ((x.size : Int) + 1 < (x.size : Int) + 1) := by omega
      clear hown
      go_wp2
      go_ret2
      refine ⟨_, rfl, ?_, HG.out.then hB⟩
      unfold OwnI
      rw [cxs_len]
      exact own_base HOW.out HG.out.size

end Go.Proofs.YtbhgghajbdlfkabGreat
