/- The longest factor that is not bordered: the program. -/
import Derived.Test.YtinanajagkilaaaMarks
import Derived.Test.YtinanajagkilaaaLuS
import Derived.Test.YtinanajagkilaaaScopeIn
namespace Go.Proofs.Ytinanajagkilaaa
set_option linter.unusedVariables false
set_option linter.unusedSimpArgs false
open Go.RowKit Go.Shelf
attribute [local go_sem] Oper.semAt_some

theorem boxes2 {w w1 : World} (b : Below ((w.alloc (.cells #[.string ⟨#[]⟩] 9)).alloc (.cells #[.int .i64 0] 2)).heap.size ((w.alloc (.cells #[.string ⟨#[]⟩] 9)).alloc (.cells #[.int .i64 0] 2)) w1) :
    Boxed w1 w.heap.size 9 (.string ⟨#[]⟩) ∧ Boxed w1 (w.heap.size + 1) 2 (.int .i64 0) ∧ Below w.heap.size w w1 ∧ w.heap.size + 2 ≤ w1.heap.size := by
  have hs : ((w.alloc (.cells #[.string ⟨#[]⟩] 9)).alloc (.cells #[.int .i64 0] 2)).heap.size = w.heap.size + 2 := by simp
  have p1 : Boxed ((w.alloc (.cells #[.string ⟨#[]⟩] 9)).alloc (.cells #[.int .i64 0] 2)) (w.heap.size + 1) 2 (.int .i64 0) := by
    have := Boxed.new (w.alloc (.cells #[.string ⟨#[]⟩] 9)) 2 (.int .i64 0)
    rwa [World.size_alloc] at this
  exact ⟨(b.block _ (by omega)).trans ((Boxed.new w _ _).alloc _), (b.block _ (by omega)).trans p1, ((Below.new _ _).alloc (by simp) _).trans (b.mono (by omega)), by have := b.size; omega⟩
/-- All factors of a length that are looked at have shorter periods, or one is the first that has not. -/
theorem luI_none {x : ByteArray} {m : Nat} : ∀ (f i : Nat), (∀ k, i ≤ k → k < i + f → ¬ lp (bl (x.extract k (k + m))) = m) → luI x m i f = none
  | 0, _, _ => rfl
  | f + 1, i, h => by
    rw [luI_miss (h i (Nat.le_refl _) (by omega))]
    exact luI_none f (i + 1) fun k h1 h2 => h k (by omega) (by omega)
theorem luI_some {x : ByteArray} {m j : Nat} (hj : lp (bl (x.extract j (j + m))) = m) : ∀ (f i : Nat), i ≤ j → j < i + f → (∀ k, i ≤ k → k < j → ¬ lp (bl (x.extract k (k + m))) = m) → luI x m i f = some j
  | 0, i, h1, h2, _ => by omega
  | f + 1, i, h1, h2, h => by
    by_cases e : i = j
    · subst e; exact luI_hit hj
    · rw [luI_miss (h i (Nat.le_refl _) (by omega))]
      exact luI_some hj f (i + 1) (by omega) (by omega) fun k h3 h4 => h k (by omega) h4

/-- How the search stands at the head of a round. -/
def LuAt (x R : ByteArray) (w : World) (gk : Nat) (a : Act) (W : World) : Prop :=
  ∃ (u1 u5 u6 u7 u8 u9 u10 u11 u12 u13 u14 u15 u16 u17 u18 u19 u20 u21 u22 u23 u24 u25 u26 u27 u28 u29 u30 u31 u32 : Value) (n B4 : Nat) (Ds : List Nat), a = { tmps := #[.string x, u1, .pointer (some ⟨w.heap.size, 0, none⟩), .pointer (some ⟨w.heap.size + 1, 0, none⟩), .pointer (some ⟨B4, 0, none⟩), u5, u6, u7, u8, u9, u10, u11, u12, u13, u14, u15, u16, u17, u18, u19, u20, u21, u22, u23, u24, u25, u26, u27, u28, u29, u30, u31, u32], defers := Ds.map mkD } ∧ n ≤ gk ∧ n ≤ x.size ∧
    Boxed W w.heap.size 9 (.string ⟨#[]⟩) ∧ Boxed W (w.heap.size + 1) 2 (.int .i64 0) ∧ Boxed W B4 2 (.int .i64 (n : Int)) ∧ w.heap.size + 2 ≤ B4 ∧ Below w.heap.size w W ∧ MarksAt W w.heap.size Ds ∧ Hid (luF x n = R)

theorem lu_step (w : World) (R : ByteArray) : ∀ (D : Nat) (W : World), w.heap.size ≤ D → (Boxed W w.heap.size 9 (.string R) ∧ Boxed W (w.heap.size + 1) 2 (.int .i64 0) ∧ Below w.heap.size w W) → W.heap[D]? = some (.deferred (some [])) →
    (Boxed (W.putObj D (.deferred none)) w.heap.size 9 (.string R) ∧ Boxed (W.putObj D (.deferred none)) (w.heap.size + 1) 2 (.int .i64 0) ∧ Below w.heap.size w (W.putObj D (.deferred none))) := fun D W hD hs hK => by
  have hne : ∀ {b : Nat} {t : TypeId} {v : Value}, Boxed W b t v → some b ≠ some D := fun hb e => by
    have e1 := Option.some.inj e
    subst e1
    rw [show W.heap[_]? = _ from hb] at hK
    cases hK
  exact ⟨hs.1.kept (grownBy_putObj' W D _) (hne hs.1), hs.2.1.kept (grownBy_putObj' W D _) (hne hs.2.1), hs.2.2.trans (belowK_b (w := w) (Nat.le_refl _) W D _ _ hD hK rfl rfl)⟩

set_option maxRecDepth 100000 in
set_option maxHeartbeats 4000000 in
theorem impl_Lu_ok (x R : ByteArray) (w : World) (h : IsW x) (h0 : ¬ x.size = 0) (hR : luF x x.size = R) :
    CallsIn Fence.wide 4 Try.prog 44 #[.string x] w fun e w' => e = .returned (.tuple #[.string R, .int .i64 0]) ∧ Below w.heap.size w w' := by
  have hx := h.size
  have hq := teq_not_nil h0
  have H := Lib.hid h
  have HR0 := Lib.hid hR
  clear h hR
  refine callsIn_of_wp_marks Try.func44 rfl trivial ?_ rfl
  simp only [Try.ntmps44, List.size_toArray, List.length_cons, List.length_nil, Nat.reduceAdd, Nat.reduceSub, Array.replicate_succ, Array.replicate_zero, List.push_toArray, List.append_toArray, List.nil_append, List.cons_append]
  gi_wp2_with (refine ⟨trivial, ?_⟩; gi_at_call 86; refine (callsIn_wide.2 (isWord_yes x _ H.out)).mono ?_; rintro e w1 ⟨rfl, b1⟩; obtain ⟨v1, v2, hB, hz⟩ := boxes2 b1)
  refine wpIn_loop_ghost_k (fun n a W => LuAt x R w n a W) x.size ⟨_, _, _, _, _, _, _, _, _, _, _, _, _, _, _, _, _, _, _, _, _, _, _, _, _, _, _, _, _, x.size, w1.heap.size, [], rfl, Nat.le_refl _, Nat.le_refl _, v1.alloc _, v2.alloc _, Boxed.new w1 _ _, by omega, hB.alloc (by omega) _, MarksAt.nil _ _, HR0⟩ ?_
  clear v1 v2 hB HR0 hz b1
  intro gk a W hI J K hJ hK
  obtain ⟨u1, u5, u6, u7, u8, u9, u10, u11, u12, u13, u14, u15, u16, u17, u18, u19, u20, u21, u22, u23, u24, u25, u26, u27, u28, u29, u30, u31, u32, n, B4, Ds, rfl, hn, hnx, v1, v2, v4, hB4, hB, hM, HR⟩ := hI
  have c4 := v4.cell
  have hbz := hB.size
  have l1 := v1.lt
  have l2 := v2.lt
  have l4 := v4.lt
  by_cases hp : 1 < n
  · obtain ⟨g, rfl⟩ : ∃ g, gk = g + 1 := ⟨gk - 1, by omega⟩
    have hpi : (1 : Int) < (n : Int) := by omega
    gi_wp2_with (refine ⟨trivial, ?_⟩; gi_at_call 98; refine (factorsIn_in Fence.wide _ trivial rfl _ _ _).mono ?_; rintro e w2 ⟨rfl, rfl⟩)
    have q2 : Boxed ((W.alloc (.cells #[.string x] 9)).alloc (.cells #[.int .i64 (n : Int)] 2)) W.heap.size 9 (.string x) := (Boxed.new W _ _).alloc _
    have q1 : Boxed ((W.alloc (.cells #[.string x] 9)).alloc (.cells #[.int .i64 (n : Int)] 2)) (W.heap.size + 1) 2 (.int .i64 (n : Int)) := by
      have := Boxed.new (W.alloc (.cells #[.string x] 9)) 2 (.int .i64 (n : Int))
      rwa [World.size_alloc] at this
    have d1 := (v1.alloc (.cells #[.string x] 9)).alloc (.cells #[.int .i64 (n : Int)] 2)
    have d2 := (v2.alloc (.cells #[.string x] 9)).alloc (.cells #[.int .i64 (n : Int)] 2)
    have d4 := (v4.alloc (.cells #[.string x] 9)).alloc (.cells #[.int .i64 (n : Int)] 2)
    have dB := (hB.alloc hbz (.cells #[.string x] 9)).alloc (by simp; omega) (.cells #[.int .i64 (n : Int)] 2)
    have hs0 : ((W.alloc (.cells #[.string x] 9)).alloc (.cells #[.int .i64 (n : Int)] 2)).heap.size = W.heap.size + 2 := by simp
    have dM : MarksAt ((W.alloc (.cells #[.string x] 9)).alloc (.cells #[.int .i64 (n : Int)] 2)) w.heap.size Ds := hM.keep fun b o hb _ => by
      have hlt := (Array.getElem?_eq_some_iff.1 hb).1
      rw [Below.heap_alloc _ _ b (by simp; omega), Below.heap_alloc _ _ b hlt]
      exact hb
    have hMl := hM.lt
    generalize hW0 : (W.alloc (.cells #[.string x] 9)).alloc (.cells #[.int .i64 (n : Int)] 2) = W0 at q1 q2 d1 d2 d4 dB hs0 dM ⊢
    clear hW0 v1 v2 v4 hB hM c4
    refine wpIn_rangeFunc_ownG rfl (by decide) (gf := 144) (lb := #[.pointer (some ⟨W.heap.size + 1, 0, none⟩), .pointer (some ⟨W.heap.size, 0, none⟩)]) rfl trivial (enters_of Try.func144 (by kernel_rfl) rfl)
      (factorsF_stops Fence.wide 3 trivial rfl (by decide) (W.heap.size + 1) W.heap.size w.heap.size x n hx (by omega) W0 q1 q2) kpF_t (kpF_b (by omega) (by omega) (by omega)) (Below.refl _ _) (fun _ => rfl)
      (fun pre W' => Boxed W' w.heap.size 9 (.string ⟨#[]⟩) ∧ Boxed W' (w.heap.size + 1) 2 (.int .i64 0) ∧ Boxed W' B4 2 (.int .i64 (n : Int)) ∧ (Boxed W' (W.heap.size + 1) 2 (.int .i64 (n : Int)) ∧ Boxed W' W.heap.size 9 (.string x)) ∧ Below w.heap.size w W' ∧ MarksAt W' w.heap.size Ds ∧ Hid (∀ k ∈ pre, ¬ lp (bl (x.extract k.val (k.val + n))) = n))
      (fun c pre W' => c = .ret ∧ ∃ s : ByteArray, Boxed W' w.heap.size 9 (.string s) ∧ Boxed W' (w.heap.size + 1) 2 (.int .i64 0) ∧ Below w.heap.size w W' ∧ MarksAt W' w.heap.size Ds ∧ Hid (∃ pre' i, pre = pre' ++ [i] ∧ (∀ k ∈ pre', ¬ lp (bl (x.extract k.val (k.val + n))) = n) ∧ lp (bl (x.extract i.val (i.val + n))) = n ∧ s = x.extract i.val (i.val + n)))
      (fun s A B row hs hg hr => by
        obtain ⟨h1, h2, h4, ⟨h5, h6⟩, h7, h8, h9⟩ := hs
        have hne : ∀ b, b < W0.heap.size → some b ≠ row := fun b hb e => by have := (hr _ e.symm).1; omega
        exact ⟨h1.kept hg (hne _ (by omega)), h2.kept hg (hne _ (by omega)), h4.kept hg (hne _ (by omega)), ⟨h5.kept hg (hne _ (by omega)), h6.kept hg (hne _ (by omega))⟩, h7.grown hg (by have := h7.size; omega) (fun k e => by have := (hr _ e).1; omega),
          ⟨h8.1, fun D hD => ⟨(h8.2 D hD).1, (hg.block D (h8.lt D hD) (hne D (by have := hMl D hD; omega))).trans (h8.2 D hD).2⟩⟩, h9⟩)
      (fun c s A B row hs hg hr => by
        obtain ⟨hc, s, h1, h2, h7, h8, h9⟩ := hs
        have hne : ∀ b, b < W0.heap.size → some b ≠ row := fun b hb e => by have := (hr _ e.symm).1; omega
        exact ⟨hc, s, h1.kept hg (hne _ (by omega)), h2.kept hg (hne _ (by omega)), h7.grown hg (by have := h7.size; omega) (fun k e => by have := (hr _ e).1; omega),
          ⟨h8.1, fun D hD => ⟨(h8.2 D hD).1, (hg.block D (h8.lt D hD) (hne D (by have := hMl D hD; omega))).trans (h8.2 D hD).2⟩⟩, h9⟩)
      ⟨d1, d2, d4, ⟨q1, q2⟩, dB, dM, Lib.hid (fun k hk => by cases hk)⟩
      (fun i => { tmps := #[.string x, u1, .pointer (some ⟨w.heap.size, 0, none⟩), .pointer (some ⟨w.heap.size + 1, 0, none⟩), .pointer (some ⟨B4, 0, none⟩), u5, .string (x.extract i.val (i.val + n)), u7, u8, u9, u10, u11, u12, u13, .int .i64 (n : Int), .bool true, u16, u17, .string x, .int .i64 (n : Int), .func (.func 144) #[] #[.pointer (some ⟨W.heap.size + 1, 0, none⟩), .pointer (some ⟨W.heap.size, 0, none⟩)], .int .i64 (i.val : Int), .string (x.extract i.val (i.val + n)), u23, u24, u25, u26, u27, u28, u29, u30, u31, u32], defers := [] }) ?assign ?body ?done ?stop
    case assign =>
      intro l i W K hK
      gi_wp2
      exact hK
    case body =>
      rintro l pre i W' ⟨h1, h2, h4, ⟨h5, h6⟩, h7, h8, h9⟩ hlt
      have c4 := h4.cell
      have c1 := h1.cell
      have c2 := h2.cell
      have f1 := h1.frozen
      have f2 := h2.frozen
      have m1 := h1.lt
      have m2 := h2.lt
      have m4 := h4.lt
      have m5 := h5.lt
      have m6 := h6.lt
      have hmo : Try.prog.follows .mixedOrders = true := by kernel_rfl
      have hin : i.val + n ≤ x.size := by have := i.isLt; omega
      have z1 : (x.extract i.val (i.val + n)).size = n := by simp; omega
      have CP := Lib.hid fun w => leastPeriod_any (x.extract i.val (i.val + n)) w (by omega) (by omega)
      by_cases he : lp (bl (x.extract i.val (i.val + n))) = n
      · have HX : Hid (∃ pre' i', pre ++ [i] = pre' ++ [i'] ∧ (∀ k ∈ pre', ¬ lp (bl (x.extract k.val (k.val + n))) = n) ∧ lp (bl (x.extract i'.val (i'.val + n))) = n ∧ x.extract i.val (i.val + n) = x.extract i'.val (i'.val + n)) := Lib.hid ⟨pre, i, rfl, h9.out, he, rfl⟩
        rw [he] at CP
        have ze : (x.extract i.val (i.val + n)).size ≤ 60 := by omega
        have hbq : ((n : Int) == (n : Int)) = true := by rw [beq_iff_eq]
        clear he z1
        generalize x.extract i.val (i.val + n) = y at *
        gi_wp2
        gi_region_with_o (refine ⟨trivial, ?_⟩; gi_at_call 99; refine (CallsIn.inRound l (callsIn_wide.2 (CP.out _))).mono ?_; rintro e w2 ⟨rfl, b2⟩; have k4 : w2.cell? ⟨B4, 0, none⟩ = some (.int .i64 (n : Int)) := (b2.cell (p := ⟨B4, 0, none⟩) (by simpa using m4)).trans c4)
        all_goals
          have B2 : Below W'.heap.size W' w2 := ((Below.refl W'.heap.size W').drew).trans b2
          gi_wp2_with (refine ⟨trivial, ?_⟩; gi_at_call 97; refine (CallsIn.inRound l (callsIn_wide.2 (strings_Clone _ _ (by omega)))).mono ?_; rintro e w3 ⟨rfl, b3⟩; have B3 := B2.then b3; have v1 : Boxed w3 w.heap.size 9 (.string ⟨#[]⟩) := (B3.block _ m1).trans h1; have v2 : Boxed w3 (w.heap.size + 1) 2 (.int .i64 0) := (B3.block _ m2).trans h2; have e1 := v1.cell; have e2 := v2.cell; have g1 := v1.frozen; have g2 := v2.frozen)
          obtain ⟨t1, t2, t3, t4, t5⟩ := two_boxes (x := .string y) (x' := .int .i64 0) v1 v2 (h7.then B3) (Nat.le_refl _)
          have hM3 := h8.old (W' := w3) fun b hb => B3.block b hb
          exact ⟨KeepsFrom.trans ⟨B3.size, fun k o _ hk _ => (B3.block k (Array.getElem?_eq_some_iff.1 hk).1).trans hk⟩ (t4 _ (by omega)), rfl, y, t1, t2, t3, ⟨hM3.1, fun D hD => ⟨(hM3.2 D hD).1, (t5 D (hM3.lt D hD) (fun e => hM3.not_box v1 (e ▸ hD)) (fun e => hM3.not_box v2 (e ▸ hD))).trans (hM3.2 D hD).2⟩⟩, HX⟩
      · have HM2 : Hid (∀ k ∈ pre ++ [i], ¬ lp (bl (x.extract k.val (k.val + n))) = n) := Lib.hid fun k hk => by
          rcases List.mem_append.1 hk with h | h
          · exact h9.out k h
          · rw [List.mem_singleton.1 h]; exact he
        have hbq : (((lp (bl (x.extract i.val (i.val + n))) : Nat) : Int) == (n : Int)) = false := by rw [beq_eq_false_iff_ne]; omega
        clear he z1
        generalize x.extract i.val (i.val + n) = y at *
        generalize lp (bl y) = q at *
        gi_wp2
        gi_region_with_o (refine ⟨trivial, ?_⟩; gi_at_call 99; refine (CallsIn.inRound l (callsIn_wide.2 (CP.out _))).mono ?_; rintro e w2 ⟨rfl, b2⟩; have k4 : w2.cell? ⟨B4, 0, none⟩ = some (.int .i64 (n : Int)) := (b2.cell (p := ⟨B4, 0, none⟩) (by simpa using m4)).trans c4)
        all_goals gi_wp2
        all_goals
          have B2 : Below W'.heap.size W' w2 := ((Below.refl W'.heap.size W').drew).trans b2
          have kb : ∀ b, b < W'.heap.size → w2.heap[b]? = W'.heap[b]? := fun b hb => B2.block b hb
          have h7s := h7.size
          exact ⟨⟨B2.size, fun k o _ hk _ => (kb k (Array.getElem?_eq_some_iff.1 hk).1).trans hk⟩, ⟨B2.mono h7s, kb _ m5, kb _ m6⟩, (kb _ m1).trans h1, (kb _ m2).trans h2, (kb _ m4).trans h4, ⟨(kb _ m5).trans h5, (kb _ m6).trans h6⟩, h7.then B2, h8.old kb, HM2⟩
    case done =>
      rintro D ys W' hD hys ⟨h1, h2, h4, ⟨h5, h6⟩, h7, h8, h9⟩ hKD
      have c4 := h4.cell
      have m1 := h1.lt
      have m2 := h2.lt
      have m4 := h4.lt
      have h7s := h7.size
      have HN : Hid (luF x (n - 1) = R) := Lib.hid (by
        rw [← HR.out]
        refine (luF_miss (by omega) (luI_none _ _ fun k _ hk => ?_)).symm
        have hk2 : k < x.size + 1 - n := by omega
        exact h9.out ⟨k, hk2⟩ (by
          have h10 : k ∈ ys.map Fin.val := by rw [hys]; exact List.mem_range.2 hk2
          obtain ⟨q, hq1, hq2⟩ := List.mem_map.1 h10
          have : q = ⟨k, hk2⟩ := Fin.ext hq2
          rw [← this]; exact hq1))
      clear h9
      gi_wp2
      refine Handed.intro g (by omega) (hJ _ _ _ ⟨_, _, _, _, _, _, _, _, _, _, _, _, _, _, _, _, _, _, _, _, _, _, _, _, _, _, _, _, _, n - 1, W'.heap.size, D :: Ds, rfl, by omega, by omega, h1.alloc _, h2.alloc _, ?_, by omega, h7.alloc h7s _, ?_, HN⟩)
      · rw [show ((n - 1 : Nat) : Int) = (n : Int) - 1 by omega]
        exact Boxed.new W' _ _
      · have hDl := (Array.getElem?_eq_some_iff.1 hKD).1
        refine MarksAt.old (W := W') (MarksAt.cons h8 (by omega) hKD fun hm => ?_) fun b hb => Below.heap_alloc _ _ b hb
        have := hMl D hm
        omega
    case stop =>
      rintro D c pre W' hD ⟨j, hj, hpre⟩ ⟨rfl, s, h1, h2, h7, h8, h9⟩ hKD
      have hs : R = s := by
        obtain ⟨pre', i, rfl, hmiss, hhit, rfl⟩ := h9.out
        rw [← HR.out]
        rw [List.map_append] at hpre
        have hjl : j = pre'.length + 1 := by have := congrArg List.length hpre; simpa using this.symm
        subst hjl
        rw [List.range_succ] at hpre
        have hq := List.append_inj hpre (by simp)
        have hi : i.val = pre'.length := by have := hq.2; simpa using this
        refine luF_hit (by omega) (luI_some hhit _ _ (Nat.zero_le _) (by have := i.isLt; omega) fun k _ hk => ?_)
        have hk2 : k ∈ pre'.map Fin.val := by rw [hq.1]; exact List.mem_range.2 (by omega)
        obtain ⟨q, hq1, hq2⟩ := List.mem_map.1 hk2
        rw [← hq2]
        exact hmiss q hq1
      subst hs
      gi_wp2
      exact leaves_marks (fun W => Boxed W w.heap.size 9 (.string R) ∧ Boxed W (w.heap.size + 1) 2 (.int .i64 0) ∧ Below w.heap.size w W)
        (fun W hW => ⟨_, results_boxes Try.results44 rfl rfl Try.isAgg9 Try.isAgg2 hW.1.cell hW.2.1.cell, rfl, hW.2.2⟩)
        (D :: Ds) W' w.heap.size (MarksAt.cons h8 (by omega) hKD (fun hm => by have := hMl D hm; omega)) (lu_step w R) ⟨h1, h2, h7⟩
  · have HV : Hid (R = x.extract 0 1) := Lib.hid (by rw [← HR.out]; exact luF_low x (by omega))
    have hsl := fun W => slice_to x 1 1 rfl (by omega) W
    have z1 : (x.extract 0 1).size ≤ 60 := by simp; omega
    have hpi : ¬ (1 : Int) < (n : Int) := by omega
    generalize x.extract 0 1 = y at *
    gi_wp2_with (refine ⟨trivial, ?_⟩; gi_at_call 97; refine (callsIn_wide.2 (strings_Clone _ _ (by omega))).mono ?_; rintro e w3 ⟨rfl, b3⟩; have k1 : Boxed w3 w.heap.size 9 (.string ⟨#[]⟩) := (b3.block _ l1).trans v1; have k2 : Boxed w3 (w.heap.size + 1) 2 (.int .i64 0) := (b3.block _ l2).trans v2; have e1 := k1.cell; have e2 := k2.cell; have g1 := k1.frozen; have g2 := k2.frozen)
    obtain ⟨t1, t2, t3, t4, t5⟩ := two_boxes (x := .string y) (x' := .int .i64 0) k1 k2 (hB.then b3) (Nat.le_refl _)
    have hM3 := hM.old (W' := w3) fun b hb => b3.block b hb
    have hyr := HV.out
    subst hyr
    exact leaves_marks (fun W => Boxed W w.heap.size 9 (.string R) ∧ Boxed W (w.heap.size + 1) 2 (.int .i64 0) ∧ Below w.heap.size w W)
      (fun W hW => ⟨_, results_boxes Try.results44 rfl rfl Try.isAgg9 Try.isAgg2 hW.1.cell hW.2.1.cell, rfl, hW.2.2⟩)
      Ds _ w.heap.size ⟨hM3.1, fun D hD => ⟨(hM3.2 D hD).1, (t5 D (hM3.lt D hD) (fun e => hM3.not_box k1 (e ▸ hD)) (fun e => hM3.not_box k2 (e ▸ hD))).trans (hM3.2 D hD).2⟩⟩ (lu_step w R) ⟨t1, t2, t3⟩

set_option maxRecDepth 100000 in
theorem impl_LongestUnbordered (x : ByteArray) (w : World) (sx : x.size ≤ maxLen) :
    Calls Try.prog 44 #[.string x] w fun e w' => e = .returned (.tuple #[.string (luR x).1, .int .i64 (luR x).2]) ∧ Below w.heap.size w w' := by
  by_cases h : IsW x
  · by_cases h0 : x.size = 0
    · rw [luR_nil h h0]
      have hq := teq_nil h0
      have H := Lib.hid h
      clear h
      go_enter Try.func44, Try.ntmps44
      go_wp2_with (go_at_call 86; refine (isWord_yes x _ H.out).mono ?_; rintro e w1 ⟨rfl, b1⟩; obtain ⟨v1, v2, hB, hz⟩ := boxes2 b1; have c1 := v1.cell; have c2 := v2.cell; have f1 := v1.frozen; have f2 := v2.frozen)
      obtain ⟨t1, t2, t3, _, _⟩ := two_boxes (x := .string ⟨#[]⟩) (x' := .int .i64 5) v1 v2 hB (Nat.le_refl _)
      exact bodyPost_ret (results_boxes Try.results44 rfl rfl Try.isAgg9 Try.isAgg2 t1.cell t2.cell) rfl ⟨rfl, t3⟩
    · rw [luR_ok h h0]
      exact callsIn_wide.1 (impl_Lu_ok x _ w h h0 rfl)
  · rw [luR_bad h]
    have H := Lib.hid h
    clear h
    go_enter Try.func44, Try.ntmps44
    go_wp2_with (go_at_call 86; refine (isWord_not x _ sx H.out).mono ?_; rintro e w1 ⟨rfl, b1⟩; obtain ⟨v1, v2, hB, hz⟩ := boxes2 b1; have c1 := v1.cell; have c2 := v2.cell; have f1 := v1.frozen; have f2 := v2.frozen)
    obtain ⟨t1, t2, t3, _, _⟩ := two_boxes (x := .string ⟨#[]⟩) (x' := .int .i64 1) v1 v2 hB (Nat.le_refl _)
    exact bodyPost_ret (results_boxes Try.results44 rfl rfl Try.isAgg9 Try.isAgg2 t1.cell t2.cell) rfl ⟨rfl, t3⟩

end Go.Proofs.Ytinanajagkilaaa
