/- All powers of a word, and all overlaps: the program. -/
import Derived.Test.YtkemdiefoohdjabGreatRepIter
import Derived.Test.YtkemdiefoohdjabGreatPowersS
namespace Go.Proofs.YtkemdiefoohdjabGreat
set_option linter.unusedVariables false
set_option linter.unusedSimpArgs false
open Go.RowKit Go.Shelf
attribute [local go_sem] Oper.semAt_some

/-- A row stays while no cells are written. -/
theorem own_kept {w w' : World} {B : Nat} {e : TypeId} {v : Value} {n : Nat} {xs : List Value} {row : Option Nat} (h : w.ownsRow B e 1 v n xs) (hg : w.grownBy w' row) (hr : ∀ r, row = some r → ∃ o : Obj, w.heap[r]? = some o ∧ o.isCells = false) : w'.ownsRow B e 1 v n xs := by
  refine own_other h hg fun k hk c => ?_
  obtain ⟨o, ho, hc⟩ := hr k c
  obtain ⟨_, ⟨rfl, _⟩ | ⟨g, cap, cur, rfl, _, hh, _⟩⟩ := h
  · cases hk
  · have e1 : g = k := Option.some.inj hk
    subst e1
    rw [hh] at ho
    cases ho
    cases hc
theorem OwnR.kept {w w' : World} {B : Nat} {v : Value} {L : List (List Int)} {row : Option Nat} (h : OwnR w B v L) (hg : w.grownBy w' row) (hr : ∀ r, row = some r → ∃ o : Obj, w.heap[r]? = some o ∧ o.isCells = false) : OwnR w' B v L := by
  obtain ⟨us, h1, h2, h3, h4⟩ := h
  exact ⟨us, own_kept h1 hg hr, h2, fun j hj => own_kept (h3 j hj) hg hr, h4⟩
/-- Rows stay while a box below them is written. -/
theorem OwnR.setBox {w : World} {B b : Nat} {v u : Value} {L : List (List Int)} (h : OwnR w B v L) (hb : b < B) : OwnR (w.setCell ⟨b, 0, none⟩ u) B v L := by
  obtain ⟨us, h1, h2, h3, h4⟩ := h
  have hg := grownBy_setCell' w b u
  refine ⟨us, own_other h1 hg fun k hk c => ?_, h2, fun j hj => own_other (h3 j hj) hg fun k hk c => ?_, h4⟩
  · have := (h1.lt k hk).1
    cases c
    omega
  · have := ((h3 j hj).lt k hk).1
    cases c
    omega

set_option maxRecDepth 100000 in
set_option maxHeartbeats 2000000 in
theorem pairsOf_in (b1 b2 b3 : Nat) (x : ByteArray) (k m : Nat) (w : World) (hx : x.size ≤ 60) (hk1 : 1 ≤ k) (hk2 : k ≤ 60) (hm : m ≤ 60)
    (c1 : Boxed w b1 9 (.string x)) (c2 : Boxed w b2 2 (.int .i64 (k : Int))) (c3 : Boxed w b3 2 (.int .i64 (m : Int))) :
    CallsIn Fence.wide 4 Tryz.prog 33 #[.func (.func 58) #[] #[.pointer (some ⟨b1, 0, none⟩), .pointer (some ⟨b2, 0, none⟩), .pointer (some ⟨b3, 0, none⟩)]] w fun e w' =>
      ∃ v, e = .returned v ∧ OwnR w' w.heap.size v (rowsN (reps (bl x) (eP k m))) ∧ Below w.heap.size w w' := by
  obtain ⟨i0, hi, hz0, hz1, hz2⟩ := info_parts infoSI
  have HRL := reps_short (l := bl x) (eP k m) hx
  refine callsIn_of_wp_marks Tryz.func33 rfl trivial ?_ rfl
  simp only [Tryz.ntmps33, List.size_toArray, List.length_cons, List.length_nil, Nat.reduceAdd, Nat.reduceSub, Array.replicate_succ, Array.replicate_zero, List.push_toArray, List.append_toArray, List.nil_append, List.cons_append]
  gi_wp2
  have l1 := c1.lt
  have l2 := c2.lt
  have l3 := c3.lt
  have p0 : Boxed (w.alloc (.cells #[.slice none 0 0] 28)) w.heap.size 28 (.slice none 0 0) := Boxed.new w _ _
  have q1 := c1.alloc (.cells #[.slice none 0 0] 28)
  have q2 := c2.alloc (.cells #[.slice none 0 0] 28)
  have q3 := c3.alloc (.cells #[.slice none 0 0] 28)
  have hB0 : Below w.heap.size w (w.alloc (.cells #[.slice none 0 0] 28)) := Below.new _ _
  have hs0 : (w.alloc (.cells #[.slice none 0 0] 28)).heap.size = w.heap.size + 1 := by simp
  generalize hW0 : w.alloc (.cells #[.slice none 0 0] 28) = W0 at p0 q1 q2 q3 hB0 hs0 ⊢
  clear hW0
  refine wpIn_rangeFunc_ownG rfl (by decide) (gf := 58) (lb := #[.pointer (some ⟨b1, 0, none⟩), .pointer (some ⟨b2, 0, none⟩), .pointer (some ⟨b3, 0, none⟩)]) rfl trivial (enters_of Tryz.func58 (by kernel_rfl) rfl)
    (repeats_stops Fence.wide 3 trivial rfl (by decide) b1 b2 b3 w.heap.size x k m hx hk1 hk2 hm W0 q1 q2 q3) kpR_t (kpR_b (by omega) (by omega) (by omega) (by omega)) (Below.refl _ _) (fun _ => rfl)
    (fun pre W => ((∃ v, Boxed W w.heap.size 28 v ∧ OwnR W W0.heap.size v (rowsN pre)) ∧ (Boxed W b1 9 (.string x) ∧ Boxed W b2 2 (.int .i64 (k : Int)) ∧ Boxed W b3 2 (.int .i64 (m : Int)))) ∧ Below w.heap.size w W)
    (fun _ _ _ => False)
    (OwnFrom.and (OwnFrom.and (fun s W W' row hs hg hr => by
        obtain ⟨v, hv, ho⟩ := hs
        exact ⟨v, hv.kept hg (fun e => by
          obtain ⟨_, o, ho', hc⟩ := hr _ e.symm
          have hs' : W.heap[w.heap.size]? = _ := hv
          rw [hs'] at ho'
          cases ho'
          cases hc), ho.kept hg (fun r e => (hr r e).2)⟩) (OwnFrom.and (Own.from (boxed_own _ _ _) _) (OwnFrom.and (Own.from (boxed_own _ _ _) _) (Own.from (boxed_own _ _ _) _)))) (ownFrom_below (Nat.le_refl _) (by omega)))
    (fun _ _ _ _ _ hs _ _ => hs)
    ⟨⟨⟨_, p0, OwnR.nil _ _⟩, q1, q2, q3⟩, hB0⟩
    (fun p => { tmps := #[.func (.func 58) #[] #[.pointer (some ⟨b1, 0, none⟩), .pointer (some ⟨b2, 0, none⟩), .pointer (some ⟨b3, 0, none⟩)], undef, .slice none 0 0, .pointer (some ⟨w.heap.size, 0, none⟩), .int .i64 (p.1 : Int), .int .i64 (p.2 : Int), .func (.func 58) #[] #[.pointer (some ⟨b1, 0, none⟩), .pointer (some ⟨b2, 0, none⟩), .pointer (some ⟨b3, 0, none⟩)], .int .i64 (p.1 : Int), .int .i64 (p.2 : Int), undef, undef, undef, undef, undef, undef, undef], defers := [] }) ?assign ?body ?done ?stop
  case assign =>
    intro l p W K hK
    gi_wp2
    exact hK
  case body =>
    rintro l pre ⟨i, q⟩ W ⟨⟨⟨v, hv, us, own, rows⟩, r1, r2, r3⟩, hB⟩ hlt
    have hc := hv.cell
    have hbz := hB.size
    have hv0 := hv.lt
    have hWz : W0.heap.size ≤ W.heap.size := by omega
    have hul := rows.1
    rw [rowsN_len] at hul
    have hu36 : us.length < 3600 := by omega
    have HUL := Lib.hid hul
    have t1 := r1.lt
    have t2 := r2.lt
    have t3 := r3.lt
    clear hul
    have ownA := World.ownsRow.alloc (World.ownsRow.alloc own (.cells #[.int .i64 (i : Int), .int .i64 (q : Int)] 2)) (.cells #[.slice (some ⟨W.heap.size, 0, none⟩) 2 2] 42)
    gi_wp2_with (gi_at_builtin; refine wpListIn_append_own _ rfl _ _ 28 rfl W0.heap.size 42 i0 (.slice none 0 0) 1 24 Tryz.underlying28 hi hz0 hz1 hz2 rfl (by decide) _ _ _ rfl ownA ⟨W.heap.size + 1, 0, none⟩ 1 1 [.slice (some ⟨W.heap.size, 0, none⟩) 2 2] rfl rfl (cell_new1 _ _ _ _) (by simp [Value.oneCell']) (by unfold maxLen; omega) (by omega) (by simp; omega) ?_; intro v' w2 hown' hgrow _; obtain ⟨g', cap', rfl⟩ := ownsRow_succ hown'; obtain ⟨hv1, hv2, hr2, hk2, hb2, hfr⟩ := appended2 (n₀ := w.heap.size) (hv.alloc (.cells #[.int .i64 (i : Int), .int .i64 (q : Int)] 2)) (by decide) (World.ownsRow.alloc own (.cells #[.int .i64 (i : Int), .int .i64 (q : Int)] 2)) (by omega) (by simp; omega) (by omega) (by omega) hown' hgrow; have hc1 := hv1.cell; have hf1 := hv1.frozen; have hO := (rows_grown own rows hWz hown' hgrow).setBox (b := w.heap.size) (u := .slice (some ⟨g', 0, none⟩) (us.length + 1) cap') (by omega))
    have hfr2 : ∀ b, b < w.heap.size → (w2.setCell ⟨w.heap.size, 0, none⟩ (.slice (some ⟨g', 0, none⟩) (us.length + 1) cap')).heap[b]? = W.heap[b]? := fun b hb => (hfr b (by omega) (by omega)).trans (Below.heap_alloc W _ b (by omega))
    have hb3 := ((Below.refl w.heap.size W).alloc (by omega) (.cells #[.int .i64 (i : Int), .int .i64 (q : Int)] 2)).trans hb2
    refine ⟨((KeepsOthers.alloc W _).trans hk2).from _, ⟨hb3, hfr2 _ l1, hfr2 _ l2, hfr2 _ l3⟩, ⟨⟨_, hv2, ?_⟩, (hfr2 _ l1).trans r1, (hfr2 _ l2).trans r2, (hfr2 _ l3).trans r3⟩, hB.trans hb3⟩
    rw [rowsN_snoc]
    rw [hs0] at hO
    exact hO
  case done =>
    rintro D ys W hD rfl ⟨⟨⟨v, hv, hown⟩, r1, r2, r3⟩, hB⟩ hK
    have hc := hv.cell
    gi_wp2
    refine ⟨by simp, .inl ⟨_, _, rfl, run_takeDeferred hK, ?_⟩⟩
    exact ⟨_, results_tmp rfl _ _ _, v, rfl, (hown.kept (grownBy_putObj' W D _) (fun r e => by cases e; exact ⟨_, hK, rfl⟩)).base (by omega), hB.trans (belowK_b (w := w) (Nat.le_refl _) W D _ _ (by omega) hK rfl rfl)⟩
  case stop =>
    rintro D c pre W _ _ h _
    exact h.elim

/-- The iterator made and run through. -/
theorem three_boxes (w : World) (x : ByteArray) (k m : Int) :
    Boxed (((w.alloc (.cells #[.string x] 9)).alloc (.cells #[.int .i64 k] 2)).alloc (.cells #[.int .i64 m] 2)) w.heap.size 9 (.string x) ∧
    Boxed (((w.alloc (.cells #[.string x] 9)).alloc (.cells #[.int .i64 k] 2)).alloc (.cells #[.int .i64 m] 2)) (w.heap.size + 1) 2 (.int .i64 k) ∧
    Boxed (((w.alloc (.cells #[.string x] 9)).alloc (.cells #[.int .i64 k] 2)).alloc (.cells #[.int .i64 m] 2)) (w.heap.size + 1 + 1) 2 (.int .i64 m) := by
  refine ⟨((Boxed.new w _ _).alloc _).alloc _, ?_, ?_⟩
  · have := Boxed.new (w.alloc (.cells #[.string x] 9)) 2 (.int .i64 k)
    rw [World.size_alloc] at this
    exact this.alloc _
  · have := Boxed.new ((w.alloc (.cells #[.string x] 9)).alloc (.cells #[.int .i64 k] 2)) 2 (.int .i64 m)
    simp only [World.size_alloc] at this
    exact this

theorem pairsOf_any (x : ByteArray) (k m : Nat) (w0 w : World) (hx : x.size ≤ 60) (hk1 : 1 ≤ k) (hk2 : k ≤ 60) (hm : m ≤ 60) (mi : Int) (hmi : mi = (m : Int))
    (hw : w = ((w0.alloc (.cells #[.string x] 9)).alloc (.cells #[.int .i64 (k : Int)] 2)).alloc (.cells #[.int .i64 mi] 2)) :
    Calls Tryz.prog 33 #[.func (.func 58) #[] #[.pointer (some ⟨w0.heap.size, 0, none⟩), .pointer (some ⟨w0.heap.size + 1, 0, none⟩), .pointer (some ⟨w0.heap.size + 1 + 1, 0, none⟩)]] w fun e w' =>
      ∃ v, e = .returned v ∧ OwnR w' w0.heap.size v (rowsN (reps (bl x) (eP k m))) ∧ Below w0.heap.size w0 w' := by
  subst hmi hw
  obtain ⟨c1, c2, c3⟩ := three_boxes w0 x k m
  refine (callsIn_wide.1 (pairsOf_in _ _ _ x k m _ hx hk1 hk2 hm c1 c2 c3)).mono ?_
  rintro e w' ⟨v, rfl, o, b⟩
  have hb : Below w0.heap.size w0 (((w0.alloc (.cells #[.string x] 9)).alloc (.cells #[.int .i64 (k : Int)] 2)).alloc (.cells #[.int .i64 (m : Int)] 2)) := ((Below.new _ _).alloc (by simp) _).alloc (by simp; omega) _
  exact ⟨v, rfl, o.base hb.size, hb.then b⟩

set_option maxRecDepth 100000 in
theorem impl_PowersIn (x : ByteArray) (k : Int) (w : World) (sx : x.size ≤ maxLen) (wk : (Lit.int .i64 k).wf = true) :
    Calls Tryz.prog 8 #[.string x, .int .i64 k] w (RetR (powersR x k).1 (powersR x k).2 w) := by
  by_cases h : IsW x
  · have h1 := h.size
    by_cases hk : k < 2 ∨ 60 < k
    · rw [powersR_out h hk]
      have H := Lib.hid h
      clear h
      rcases (show k < 2 ∨ (2 ≤ k ∧ 60 < k) by omega) with h2 | ⟨h2, h3⟩
      all_goals
        clear hk
        go_enter Tryz.func8, Tryz.ntmps8
        go_wp2_with fail
        refine (isWord_yes x _ H.out).mono ?_
        rintro e w1 ⟨rfl, b1⟩
        go_wp2_with fail
        go_ret2
        exact ⟨_, rfl, OwnR.nil _ _, b1⟩
    · obtain ⟨n, rfl⟩ := Int.eq_ofNat_of_zero_le (show 0 ≤ k by omega)
      rw [powersR_ok h hk]
      have n1 : 2 ≤ n := by omega
      have n2 : n ≤ 60 := by omega
      have H := Lib.hid h
      clear h hk
      go_enter Tryz.func8, Tryz.ntmps8
      go_wp2_with fail
      refine (isWord_yes x _ H.out).mono ?_
      rintro e w1 ⟨rfl, b1⟩
      go_wp2_with fail
      refine (callsIn_wide.1 (repeatsIn_in Fence.wide 4 trivial rfl x n 0 _)).mono ?_
      rintro e w2 ⟨rfl, hw2⟩
      have HW2 := Lib.hid hw2
      clear hw2
      go_wp2_with fail
      refine (pairsOf_any x n 0 w1 w2 h1 (by omega) n2 (by omega) 0 rfl HW2.out).mono ?_
      rintro e w3 ⟨v, rfl, o3, b3⟩
      go_wp2_with fail
      go_ret2
      exact ⟨_, rfl, o3.base b1.size, b1.then b3⟩
  · rw [powersR_bad h]
    have H := Lib.hid h
    clear h
    go_enter Tryz.func8, Tryz.ntmps8
    go_wp2_with fail
    refine (isWord_not x _ sx H.out).mono ?_
    rintro e w1 ⟨rfl, b1⟩
    go_wp2_with fail
    go_ret2
    exact ⟨_, rfl, OwnR.nil _ _, b1⟩

set_option maxRecDepth 100000 in
theorem impl_OverlapsIn (x : ByteArray) (w : World) (sx : x.size ≤ maxLen) :
    Calls Tryz.prog 10 #[.string x] w (RetR (overlapsR x).1 (overlapsR x).2 w) := by
  by_cases h : IsW x
  · have h1 := h.size
    rw [overlapsR_ok h]
    have H := Lib.hid h
    clear h
    go_enter Tryz.func10, Tryz.ntmps10
    go_wp2_with fail
    refine (isWord_yes x _ H.out).mono ?_
    rintro e w1 ⟨rfl, b1⟩
    go_wp2_with fail
    refine (callsIn_wide.1 (repeatsIn_in Fence.wide 4 trivial rfl x 2 1 _)).mono ?_
    rintro e w2 ⟨rfl, hw2⟩
    have HW2 := Lib.hid hw2
    clear hw2
    go_wp2_with fail
    refine (pairsOf_any x 2 1 w1 w2 h1 (by omega) (by omega) (by omega) 1 rfl HW2.out).mono ?_
    rintro e w3 ⟨v, rfl, o3, b3⟩
    go_wp2_with fail
    go_ret2
    exact ⟨_, rfl, o3.base b1.size, b1.then b3⟩
  · rw [overlapsR_bad h]
    have H := Lib.hid h
    clear h
    go_enter Tryz.func10, Tryz.ntmps10
    go_wp2_with fail
    refine (isWord_not x _ sx H.out).mono ?_
    rintro e w1 ⟨rfl, b1⟩
    go_wp2_with fail
    go_ret2
    exact ⟨_, rfl, OwnR.nil _ _, b1⟩

set_option maxRecDepth 100000 in
theorem impl_CountPowers (x : ByteArray) (k : Int) (w : World) (sx : x.size ≤ maxLen) (wk : (Lit.int .i64 k).wf = true) :
    Calls Tryz.prog 23 #[.string x, .int .i64 k] w fun e w' => e = .returned (.tuple #[.int .i64 (countPR x k).1, .int .i64 (countPR x k).2]) ∧ Below w.heap.size w w' := by
  unfold countPR
  have CP := Lib.hid fun w => impl_PowersIn x k w sx wk
  generalize powersR x k = R at *
  obtain ⟨L, c⟩ := R
  go_enter Tryz.func23, Tryz.ntmps23
  go_wp2_with fail
  refine (CP.out _).mono ?_
  rintro e w1 ⟨v, rfl, o1, b1⟩
  obtain ⟨a, cp, rfl⟩ := o1.value
  go_wp2_with fail
  go_ret2
  exact ⟨rfl, b1⟩

end Go.Proofs.YtkemdiefoohdjabGreat
