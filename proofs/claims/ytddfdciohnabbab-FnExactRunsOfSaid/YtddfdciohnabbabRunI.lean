/- Runs: the program. -/
import Derived.Test.YtddfdciohnabbabRunS
import Derived.Test.YtddfdciohnabbabTurn
import Derived.Laws.Rows
namespace Go.Proofs.Ytddfdciohnabbab
set_option linter.unusedVariables false
set_option linter.unusedSimpArgs false
open Go.RowKit

/-- A block of the three numbers of a run. -/
def Rn3 (W : World) (b : Nat) (x y z : Value) : Prop := W.heap[b]? = some (.cells #[x, y, z] 113 (0, 0))
theorem Rn3.lt {W : World} {b : Nat} {x y z : Value} (h : Rn3 W b x y z) : b < W.heap.size := (Array.getElem?_eq_some_iff.1 h).1
theorem Rn3.c0 {W : World} {b : Nat} {x y z : Value} (h : Rn3 W b x y z) : W.cell? ⟨b, 0, none⟩ = some x := by simp [World.cell?, show W.heap[b]? = _ from h]
theorem Rn3.c1 {W : World} {b : Nat} {x y z : Value} (h : Rn3 W b x y z) : W.cell? ⟨b, 1, none⟩ = some y := by simp [World.cell?, show W.heap[b]? = _ from h]
theorem Rn3.c2 {W : World} {b : Nat} {x y z : Value} (h : Rn3 W b x y z) : W.cell? ⟨b, 2, none⟩ = some z := by simp [World.cell?, show W.heap[b]? = _ from h]
theorem Rn3.fz {W : World} {b : Nat} {x y z : Value} (h : Rn3 W b x y z) (j : Nat) : W.frozen? ⟨b, j, none⟩ = false := by simp [World.frozen?, show W.heap[b]? = _ from h]
theorem Rn3.later {W W' : World} {b : Nat} {x y z : Value} (h : Rn3 W b x y z) (k : Below W.heap.size W W') : Rn3 W' b x y z := (k.block _ h.lt).trans h

theorem Rn3.all3 {W : World} {b : Nat} {x y z : Value} (h : Rn3 W b x y z) : W.cell? ⟨b, 0, none⟩ = some x ∧ W.cell? ⟨b, 1, none⟩ = some y ∧ W.cell? ⟨b, 2, none⟩ = some z := ⟨h.c0, h.c1, h.c2⟩
theorem Rn3.other {W : World} {b : Nat} {x y z : Value} (h : Rn3 W b x y z) {b' j : Nat} (hne : b ≠ b') (u : Value) : Rn3 (W.setCell ⟨b', j, none⟩ u) b x y z := (Below.heap_setCell _ _ _ b (fun e => hne (by rw [e]))).trans h
theorem Rn3.seta {W : World} {b : Nat} {x y z : Value} (h : Rn3 W b x y z) (p : Value) : Rn3 (W.setCell ⟨b, 0, none⟩ p) b p y z := by
  obtain ⟨hlt, hk⟩ := Array.getElem?_eq_some_iff.1 h
  show (W.heap.modify b _)[b]? = _
  rw [Array.getElem?_eq_getElem (by rw [Array.size_modify]; exact hlt), Array.getElem_modify_self, hk]
  rfl
theorem Rn3.setb {W : World} {b : Nat} {x y z : Value} (h : Rn3 W b x y z) (p : Value) : Rn3 (W.setCell ⟨b, 1, none⟩ p) b x p z := by
  obtain ⟨hlt, hk⟩ := Array.getElem?_eq_some_iff.1 h
  show (W.heap.modify b _)[b]? = _
  rw [Array.getElem?_eq_getElem (by rw [Array.size_modify]; exact hlt), Array.getElem_modify_self, hk]
  rfl
theorem Rn3.setc {W : World} {b : Nat} {x y z : Value} (h : Rn3 W b x y z) (p : Value) : Rn3 (W.setCell ⟨b, 2, none⟩ p) b x y p := by
  obtain ⟨hlt, hk⟩ := Array.getElem?_eq_some_iff.1 h
  show (W.heap.modify b _)[b]? = _
  rw [Array.getElem?_eq_getElem (by rw [Array.size_modify]; exact hlt), Array.getElem_modify_self, hk]
  rfl
theorem Rn3.set3 {W : World} {b : Nat} {x y z : Value} (h : Rn3 W b x y z) (p q r : Value) : Rn3 (((W.setCell ⟨b, 0, none⟩ p).setCell ⟨b, 1, none⟩ q).setCell ⟨b, 2, none⟩ r) b p q r := ((h.seta p).setb q).setc r
theorem Rn3.far3 {W : World} {b b2 : Nat} {x y z : Value} (h : Rn3 W b x y z) (hne : b ≠ b2) (p q r : Value) :
    (((W.setCell ⟨b2, 0, none⟩ p).setCell ⟨b2, 1, none⟩ q).setCell ⟨b2, 2, none⟩ r).cell? ⟨b, 0, none⟩ = some x ∧ (((W.setCell ⟨b2, 0, none⟩ p).setCell ⟨b2, 1, none⟩ q).setCell ⟨b2, 2, none⟩ r).cell? ⟨b, 1, none⟩ = some y ∧ (((W.setCell ⟨b2, 0, none⟩ p).setCell ⟨b2, 1, none⟩ q).setCell ⟨b2, 2, none⟩ r).cell? ⟨b, 2, none⟩ = some z :=
  (((h.other hne p).other hne q).other hne r).all3
theorem Rn3.new (W : World) (x y z : Value) : Rn3 (W.alloc (.cells #[x, y, z] 113)) W.heap.size x y z := World.alloc_heap_new W _
theorem Rn3.grown {W W' : World} {b : Nat} {x y z : Value} {r : Option Nat} (h : Rn3 W b x y z) (k : W.grownBy W' r) (hr : some b ≠ r) : Rn3 W' b x y z := (k.block b h.lt hr).trans h


theorem strF_onK {x : ByteArray} {q k : Nat} (h0 : 0 < k) (h : (bl x)[k - 1]? = (bl x)[k - 1 + q]?) : strF x q k = strF x q (k - 1) := by
  obtain ⟨j, rfl⟩ : ∃ j, k = j + 1 := ⟨k - 1, by omega⟩
  rw [Nat.add_sub_cancel] at h ⊢
  exact strF_on h
theorem strF_offK {x : ByteArray} {q k : Nat} (h0 : 0 < k) (h : ¬ (bl x)[k - 1]? = (bl x)[k - 1 + q]?) : strF x q k = k := by
  obtain ⟨j, rfl⟩ : ∃ j, k = j + 1 := ⟨k - 1, by omega⟩
  rw [Nat.add_sub_cancel] at h
  exact strF_off h

set_option maxRecDepth 100000 in
set_option maxHeartbeats 4000000 in
theorem stretchOf_any (x : ByteArray) (i q : Nat) (w : World) (hx : x.size ≤ 60) (hq : 0 < q) (hi : i + q ≤ x.size) :
    Calls Try.prog 166 #[.string x, .int .i64 (i : Int), .int .i64 (q : Int)] w fun e w' => e = .returned (.agg #[.int .i64 (strF x q i : Int), .int .i64 (strT x q (i + q) : Int), .int .i64 (q : Int)]) ∧ Below w.heap.size w w' := by
  obtain ⟨F, hF⟩ : ∃ F, strF x q i = F := ⟨_, rfl⟩
  obtain ⟨T, hT⟩ : ∃ T, strT x q (i + q) = T := ⟨_, rfl⟩
  rw [hF, hT]
  have HF := Lib.hid hF
  have HT := Lib.hid hT
  clear hF hT
  have st := Rn3.new w (.int .i64 0) (.int .i64 0) (.int .i64 0)
  have ST := Lib.hid st
  clear st
  go_enter Try.func166, Try.ntmps166
  go_wp2
  go_loopg [7] i (fun gk s wr => ∃ k : Nat, k ≤ gk ∧ k ≤ i ∧ s = .int .i64 (k : Int) ∧ Hid (strF x q k = F) ∧ Below (w.alloc (.cells #[.int .i64 0, .int .i64 0, .int .i64 0] 113)).heap.size (w.alloc (.cells #[.int .i64 0, .int .i64 0, .int .i64 0] 113)) wr)
  case atStart => exact ⟨i, Nat.le_refl _, Nat.le_refl _, rfl, HF, Below.refl _ _⟩
  case round =>
    obtain ⟨k, hkg, hki, rfl, HK, hB⟩ := hrel
    by_cases h0 : 0 < k
    · have h0i : (0 : Int) < (k : Int) := by omega
      have h0d : decide ((0 : Int) < (k : Int)) = true := decide_eq_true h0i
      have h0e : decide (0 < k) = true := decide_eq_true h0
      have w1 : IntKind.i64.wrap ((k : Int) - 1) = (k : Int) - 1 := IntWalk.i64_in _ (by omega)
      have w2 : IntKind.i64.wrap ((k : Int) - 1 + (q : Int)) = (k : Int) - 1 + (q : Int) := IntWalk.i64_in _ (by omega)
      have x1 := fun W => index_at x ((k : Int) - 1) (k - 1) (by omega) (by omega) W
      have x2 := fun W => index_at x ((k : Int) - 1 + (q : Int)) (k - 1 + q) (by omega) (by omega) W
      have heq1 := at_eq (x := x) (show k - 1 < x.size by omega) (show k - 1 + q < x.size by omega)
      by_cases hE : (bl x)[k - 1]? = (bl x)[k - 1 + q]?
      · have hEb := beq_iff_eq.2 (heq1.1 hE)
        have HN : Hid (strF x q (k - 1) = F) := Lib.hid (by rw [← HK.out, strF_onK h0 hE])
        clear heq1 hE
        generalize x[k - 1]'(by omega) = c1 at *
        generalize x[k - 1 + q]'(by omega) = c2 at *
        go_wp2
        go_quiet (fail)
        go_wp2
        go_roundg (k - 1)
        case measure => omega
        case rel => exact ⟨k - 1, Nat.le_refl _, by omega, by first | rfl | (congr 1; omega), HN, hB.drewN _⟩
      · have hEb := beq_eq_false_iff_ne.2 (fun e => hE (heq1.2 e))
        have HN : Hid (k = F) := Lib.hid (by rw [← HK.out, strF_offK h0 hE])
        clear heq1 hE
        generalize x[k - 1]'(by omega) = c1 at *
        generalize x[k - 1 + q]'(by omega) = c2 at *
        go_wp2
        go_quiet (fail)
        go_wp2
        have hB2 := hB.drewN nq
        generalize World.drewN wr nq = wa at *
        go_loopg [8] (x.size - (i + q)) (fun gk s wr => ∃ t : Nat, t + gk = x.size ∧ i + q ≤ t ∧ s = .int .i64 (t : Int) ∧ Hid (strT x q t = T) ∧ Below (w.alloc (.cells #[.int .i64 0, .int .i64 0, .int .i64 0] 113)).heap.size (w.alloc (.cells #[.int .i64 0, .int .i64 0, .int .i64 0] 113)) wr)
        case atStart => exact ⟨i + q, by omega, Nat.le_refl _, by go_num, HT, hB2⟩
        case round =>
          clear hB2
          obtain ⟨t, htg, hit, rfl, HK2, hB2⟩ := hrel
          by_cases ht : t < x.size
          · have hti : (t : Int) < (x.size : Int) := by omega
            have htd : decide ((t : Int) < (x.size : Int)) = true := decide_eq_true hti
            have hte : decide (t < x.size) = true := decide_eq_true ht
            have v1 : IntKind.i64.wrap ((t : Int) - (q : Int)) = (t : Int) - (q : Int) := IntWalk.i64_in _ (by omega)
            have y1 := fun W => index_at x (t : Int) t ht rfl W
            have y2 := fun W => index_at x ((t : Int) - (q : Int)) (t - q) (by omega) (by omega) W
            have heq2 := at_eq (x := x) ht (show t - q < x.size by omega)
            by_cases hE2 : (bl x)[t]? = (bl x)[t - q]?
            · have hEb2 := beq_iff_eq.2 (heq2.1 hE2)
              have HM : Hid (strT x q (t + 1) = T) := Lib.hid (by rw [← HK2.out, strT_on ht hE2])
              clear heq2 hE2
              generalize x[t]'ht = c3 at *
              generalize x[t - q]'(by omega) = c4 at *
              go_wp2
              go_quiet (fail)
              go_wp2
              go_roundg (gk - 1)
              case measure => omega
              case rel => exact ⟨t + 1, by omega, by omega, by go_num, HM, hB2.drewN _⟩
            · have hEb2 := beq_eq_false_iff_ne.2 (fun e => hE2 (heq2.2 e))
              have HM : Hid (t = T) := Lib.hid (by rw [← HK2.out, strT_off hE2])
              clear heq2 hE2
              generalize x[t]'ht = c3 at *
              generalize x[t - q]'(by omega) = c4 at *
              go_wp2
              go_quiet (fail)
              have hB3 := hB2.drewN nq
              have st := ST.out.later hB3
              have st3 := st.set3 (.int .i64 (k : Int)) (.int .i64 (t : Int)) (.int .i64 (q : Int))
              have bb := ((((Below.new w _).then hB3).setCell (p := ⟨w.heap.size, 0, none⟩) (Nat.le_refl _) (.int .i64 (k : Int))).setCell (p := ⟨w.heap.size, 1, none⟩) (Nat.le_refl _) (.int .i64 (t : Int))).setCell (p := ⟨w.heap.size, 2, none⟩) (Nat.le_refl _) (.int .i64 (q : Int))
              have d0 := st.c0
              have d1 := st.c1
              have d2 := st.c2
              have f0 := st.fz 0
              have f1 := st.fz 1
              have f2 := st.fz 2
              have ST3 := Lib.hid st3
              have BB := Lib.hid bb
              clear st st3 bb
              go_wp2
              exact bodyPost_ret (results_cell_row Try.results166 _ _ w.heap.size _ _ _ _ rfl ST3.out Try.underlying113 rfl (by kernel_rfl)) rfl ⟨by rw [← HN.out, ← HM.out], BB.out⟩
          · have hti : ¬ (t : Int) < (x.size : Int) := by omega
            have htd : decide ((t : Int) < (x.size : Int)) = false := decide_eq_false hti
            have hte : decide (t < x.size) = false := decide_eq_false ht
            have HM : Hid (t = T) := Lib.hid (by rw [← HK2.out, strT_end (by omega)])
            go_wp2
            go_quiet (fail)
            have hB3 := hB2.drewN nq
            have st := ST.out.later hB3
            have st3 := st.set3 (.int .i64 (k : Int)) (.int .i64 (t : Int)) (.int .i64 (q : Int))
            have bb := ((((Below.new w _).then hB3).setCell (p := ⟨w.heap.size, 0, none⟩) (Nat.le_refl _) (.int .i64 (k : Int))).setCell (p := ⟨w.heap.size, 1, none⟩) (Nat.le_refl _) (.int .i64 (t : Int))).setCell (p := ⟨w.heap.size, 2, none⟩) (Nat.le_refl _) (.int .i64 (q : Int))
            have d0 := st.c0
            have d1 := st.c1
            have d2 := st.c2
            have f0 := st.fz 0
            have f1 := st.fz 1
            have f2 := st.fz 2
            have ST3 := Lib.hid st3
            have BB := Lib.hid bb
            clear st st3 bb
            go_wp2
            exact bodyPost_ret (results_cell_row Try.results166 _ _ w.heap.size _ _ _ _ rfl ST3.out Try.underlying113 rfl (by kernel_rfl)) rfl ⟨by rw [← HN.out, ← HM.out], BB.out⟩
    · have h0i : ¬ (0 : Int) < (k : Int) := by omega
      have h0d : decide ((0 : Int) < (k : Int)) = false := decide_eq_false h0i
      have h0e : decide (0 < k) = false := decide_eq_false h0
      have HN : Hid (k = F) := Lib.hid (by
        have e : k = 0 := by omega
        rw [← HK.out, e, strF_zero])
      go_wp2
      go_quiet (fail)
      go_wp2
      have hB2 := hB.drewN nq
      generalize World.drewN wr nq = wa at *
      go_loopg [8] (x.size - (i + q)) (fun gk s wr => ∃ t : Nat, t + gk = x.size ∧ i + q ≤ t ∧ s = .int .i64 (t : Int) ∧ Hid (strT x q t = T) ∧ Below (w.alloc (.cells #[.int .i64 0, .int .i64 0, .int .i64 0] 113)).heap.size (w.alloc (.cells #[.int .i64 0, .int .i64 0, .int .i64 0] 113)) wr)
      case atStart => exact ⟨i + q, by omega, Nat.le_refl _, by go_num, HT, hB2⟩
      case round =>
        clear hB2
        obtain ⟨t, htg, hit, rfl, HK2, hB2⟩ := hrel
        by_cases ht : t < x.size
        · have hti : (t : Int) < (x.size : Int) := by omega
          have htd : decide ((t : Int) < (x.size : Int)) = true := decide_eq_true hti
          have hte : decide (t < x.size) = true := decide_eq_true ht
          have v1 : IntKind.i64.wrap ((t : Int) - (q : Int)) = (t : Int) - (q : Int) := IntWalk.i64_in _ (by omega)
          have y1 := fun W => index_at x (t : Int) t ht rfl W
          have y2 := fun W => index_at x ((t : Int) - (q : Int)) (t - q) (by omega) (by omega) W
          have heq2 := at_eq (x := x) ht (show t - q < x.size by omega)
          by_cases hE2 : (bl x)[t]? = (bl x)[t - q]?
          · have hEb2 := beq_iff_eq.2 (heq2.1 hE2)
            have HM : Hid (strT x q (t + 1) = T) := Lib.hid (by rw [← HK2.out, strT_on ht hE2])
            clear heq2 hE2
            generalize x[t]'ht = c3 at *
            generalize x[t - q]'(by omega) = c4 at *
            go_wp2
            go_quiet (fail)
            go_wp2
            go_roundg (gk - 1)
            case measure => omega
            case rel => exact ⟨t + 1, by omega, by omega, by go_num, HM, hB2.drewN _⟩
          · have hEb2 := beq_eq_false_iff_ne.2 (fun e => hE2 (heq2.2 e))
            have HM : Hid (t = T) := Lib.hid (by rw [← HK2.out, strT_off hE2])
            clear heq2 hE2
            generalize x[t]'ht = c3 at *
            generalize x[t - q]'(by omega) = c4 at *
            go_wp2
            go_quiet (fail)
            have hB3 := hB2.drewN nq
            have st := ST.out.later hB3
            have st3 := st.set3 (.int .i64 (k : Int)) (.int .i64 (t : Int)) (.int .i64 (q : Int))
            have bb := ((((Below.new w _).then hB3).setCell (p := ⟨w.heap.size, 0, none⟩) (Nat.le_refl _) (.int .i64 (k : Int))).setCell (p := ⟨w.heap.size, 1, none⟩) (Nat.le_refl _) (.int .i64 (t : Int))).setCell (p := ⟨w.heap.size, 2, none⟩) (Nat.le_refl _) (.int .i64 (q : Int))
            have d0 := st.c0
            have d1 := st.c1
            have d2 := st.c2
            have f0 := st.fz 0
            have f1 := st.fz 1
            have f2 := st.fz 2
            have ST3 := Lib.hid st3
            have BB := Lib.hid bb
            clear st st3 bb
            go_wp2
            exact bodyPost_ret (results_cell_row Try.results166 _ _ w.heap.size _ _ _ _ rfl ST3.out Try.underlying113 rfl (by kernel_rfl)) rfl ⟨by rw [← HN.out, ← HM.out], BB.out⟩
        · have hti : ¬ (t : Int) < (x.size : Int) := by omega
          have htd : decide ((t : Int) < (x.size : Int)) = false := decide_eq_false hti
          have hte : decide (t < x.size) = false := decide_eq_false ht
          have HM : Hid (t = T) := Lib.hid (by rw [← HK2.out, strT_end (by omega)])
          go_wp2
          go_quiet (fail)
          have hB3 := hB2.drewN nq
          have st := ST.out.later hB3
          have st3 := st.set3 (.int .i64 (k : Int)) (.int .i64 (t : Int)) (.int .i64 (q : Int))
          have bb := ((((Below.new w _).then hB3).setCell (p := ⟨w.heap.size, 0, none⟩) (Nat.le_refl _) (.int .i64 (k : Int))).setCell (p := ⟨w.heap.size, 1, none⟩) (Nat.le_refl _) (.int .i64 (t : Int))).setCell (p := ⟨w.heap.size, 2, none⟩) (Nat.le_refl _) (.int .i64 (q : Int))
          have d0 := st.c0
          have d1 := st.c1
          have d2 := st.c2
          have f0 := st.fz 0
          have f1 := st.fz 1
          have f2 := st.fz 2
          have ST3 := Lib.hid st3
          have BB := Lib.hid bb
          clear st st3 bb
          go_wp2
          exact bodyPost_ret (results_cell_row Try.results166 _ _ w.heap.size _ _ _ _ rfl ST3.out Try.underlying113 rfl (by kernel_rfl)) rfl ⟨by rw [← HN.out, ← HM.out], BB.out⟩

end Go.Proofs.Ytddfdciohnabbab
