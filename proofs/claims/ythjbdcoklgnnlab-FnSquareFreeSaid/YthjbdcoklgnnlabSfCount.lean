/- The number of the square free words of a length, and the first one: the program. -/
import Derived.Test.YthjbdcoklgnnlabSfIter
import Derived.Test.YthjbdcoklgnnlabIsLyn
namespace Go.Proofs.Ythjbdcoklgnnlab
set_option linter.unusedVariables false
set_option linter.unusedSimpArgs false
open Go.RowKit Go.Shelf
attribute [local go_sem] Oper.semAt_some

def countSfR (m k : Int) : Int × Int := if m < 0 ∨ 12 < m ∨ k < 1 ∨ 3 < k then (0, 2) else (((dfs k.toNat m.toNat []).length : Int), 0)
theorem countSfR_out {m k : Int} (h : m < 0 ∨ 12 < m ∨ k < 1 ∨ 3 < k) : countSfR m k = (0, 2) := if_pos h
theorem countSfR_ok {m k : Nat} (h1 : m ≤ 12) (h2 : 1 ≤ k) (h3 : k ≤ 3) : countSfR (m : Int) (k : Int) = (((dfs k m []).length : Int), 0) := by unfold countSfR; rw [if_neg (by omega)]; rfl

theorem Boxed.below {W W' : World} {B b : Nat} {t : TypeId} {v : Value} (h : Boxed W b t v) (hb : Below B W W') (hlt : b < B) : Boxed W' b t v := (hb.block b hlt).trans h
theorem KeepUp.set {B b : Nat} (W : World) (v : Value) (h : b < B) : KeepUp B W (W.setCell ⟨b, 0, none⟩ v) :=
  ⟨(grownBy_setCell' W b v).size, fun k h1 h2 => (grownBy_setCell' W b v).block k h2 (fun e => by cases e; omega)⟩

set_option maxRecDepth 100000 in
set_option maxHeartbeats 2000000 in
theorem impl_CountSquareFree_ok (m k : Nat) (w : World) (hm : m ≤ 12) (hk1 : 1 ≤ k) (hk2 : k ≤ 3) :
    CallsIn Fence.wide 4 Try.prog 33 #[.int .i64 (m : Int), .int .i64 (k : Int)] w fun e w' => e = .returned (.tuple #[.int .i64 ((dfs k m []).length : Int), .int .i64 0]) ∧ Below w.heap.size w w' := by
  have hlen := Nat.le_trans (dfs_len k m []) (pow_12 hk2 hm)
  refine callsIn_of_wp_marks Try.func33 rfl trivial ?_ rfl
  simp only [Try.ntmps33, List.size_toArray, List.length_cons, List.length_nil, Nat.reduceAdd, Nat.reduceSub, Array.replicate_succ, Array.replicate_zero, List.push_toArray, List.append_toArray, List.nil_append, List.cons_append]
  have g1 : ¬ (m : Int) < 0 := by omega
  have g2 : ¬ (12 : Int) < (m : Int) := by omega
  have g3 : ¬ (k : Int) < 1 := by omega
  have g4 : ¬ (3 : Int) < (k : Int) := by omega
  gi_wp2_with (refine ⟨trivial, ?_⟩; gi_at_call 112; refine (sqfreeWords_in _ _ _ _).mono ?_; rintro e w2 ⟨rfl, rfl⟩)
  have p0 : Boxed (((w.alloc (.cells #[.int .i64 0] 2)).alloc (.cells #[.int .i64 (m : Int)] 2)).alloc (.cells #[.int .i64 (k : Int)] 2)) w.heap.size 2 (.int .i64 0) := ((Boxed.new w _ _).alloc _).alloc _
  have q1 : Boxed (((w.alloc (.cells #[.int .i64 0] 2)).alloc (.cells #[.int .i64 (m : Int)] 2)).alloc (.cells #[.int .i64 (k : Int)] 2)) (w.heap.size + 1) 2 (.int .i64 (m : Int)) := by
    have := Boxed.new (w.alloc (.cells #[.int .i64 0] 2)) 2 (.int .i64 (m : Int))
    rw [World.size_alloc] at this
    exact this.alloc _
  have q2 : Boxed (((w.alloc (.cells #[.int .i64 0] 2)).alloc (.cells #[.int .i64 (m : Int)] 2)).alloc (.cells #[.int .i64 (k : Int)] 2)) (w.heap.size + 1 + 1) 2 (.int .i64 (k : Int)) := by
    have := Boxed.new ((w.alloc (.cells #[.int .i64 0] 2)).alloc (.cells #[.int .i64 (m : Int)] 2)) 2 (.int .i64 (k : Int))
    simp only [World.size_alloc] at this
    exact this
  have hB0 : Below w.heap.size w (((w.alloc (.cells #[.int .i64 0] 2)).alloc (.cells #[.int .i64 (m : Int)] 2)).alloc (.cells #[.int .i64 (k : Int)] 2)) := ((Below.new _ _).alloc (by simp) _).alloc (by simp; omega) _
  have hs0 : (((w.alloc (.cells #[.int .i64 0] 2)).alloc (.cells #[.int .i64 (m : Int)] 2)).alloc (.cells #[.int .i64 (k : Int)] 2)).heap.size = w.heap.size + 3 := by simp
  generalize hW0 : (((w.alloc (.cells #[.int .i64 0] 2)).alloc (.cells #[.int .i64 (m : Int)] 2)).alloc (.cells #[.int .i64 (k : Int)] 2)) = W0 at p0 q1 q2 hB0 hs0 ⊢
  clear hW0
  refine wpIn_rangeFunc_up rfl (by decide) (gf := 159) (lb := #[.pointer (some ⟨w.heap.size + 1, 0, none⟩), .pointer (some ⟨w.heap.size + 1 + 1, 0, none⟩)]) rfl trivial (enters_of Try.func159 (by kernel_rfl) rfl)
    (sqfree_up 3 (by decide) (w.heap.size + 1) (w.heap.size + 1 + 1) m k (by omega) hk1 (by omega) W0 q1 q2) (Below.refl _ _) (by simp; omega) (fun _ => rfl)
    (fun pre W => Boxed W w.heap.size 2 (.int .i64 (pre.length : Int)) ∧ Boxed W (w.heap.size + 1) 2 (.int .i64 (m : Int)) ∧ Boxed W (w.heap.size + 1 + 1) 2 (.int .i64 (k : Int)) ∧ Below w.heap.size w W)
    (fun _ _ _ => False)
    (fun s A B hs hb => ⟨(hb.block _ (by omega)).trans hs.1, (hb.block _ (by omega)).trans hs.2.1, (hb.block _ (by omega)).trans hs.2.2.1, hs.2.2.2.trans (hb.mono (by omega))⟩)
    (fun _ _ _ _ hs _ => hs)
    ⟨p0, q1, q2, hB0⟩
    (fun x => { tmps := #[.int .i64 (m : Int), .int .i64 (k : Int), undef, undef, .int .i64 0, .int .i64 0, .pointer (some ⟨w.heap.size, 0, none⟩), .int .i64 (m : Int), .bool false, .bool false, .int .i64 (m : Int), .bool false, .bool false, .bool false, .int .i64 (k : Int), .bool false, .bool false, .bool false, .int .i64 (k : Int), .bool false, .bool false, .int .i64 (m : Int), .int .i64 (k : Int), .func (.func 159) #[] #[.pointer (some ⟨w.heap.size + 1, 0, none⟩), .pointer (some ⟨w.heap.size + 1 + 1, 0, none⟩)], .string ⟨x.toArray⟩, undef, undef, undef], defers := [] }) ?assign ?body ?done ?stop
  case assign =>
    intro l x W K hK
    refine wpIn_skip ?_
    simpa [Exit.then] using hK
  case body =>
    rintro l pre x W ⟨hv, r1, r2, hB⟩ hlt hsz
    have hc := hv.cell
    have hfz := hv.frozen
    have hpl : (pre.length : Int) ≤ 531441 := by omega
    gi_wp2
    refine ⟨KeepUp.set W _ (by omega), fun b hb => ?_, ?_, ?_, ?_, ?_⟩
    · exact (grownBy_setCell' W w.heap.size _).block b (by simp at hb; have := r1.lt; have := r2.lt; omega) (fun e => by have := Option.some.inj e; simp at hb; omega)
    · have := hv.set (.int .i64 ((pre.length : Int) + 1))
      rw [List.length_append]
      exact this
    · exact ((grownBy_setCell' W w.heap.size _).block _ r1.lt (fun e => by have := Option.some.inj e; omega)).trans r1
    · exact ((grownBy_setCell' W w.heap.size _).block _ r2.lt (fun e => by have := Option.some.inj e; omega)).trans r2
    · exact hB.setCell (Nat.le_refl _) _
  case done =>
    rintro D ys W hD rfl ⟨hv, r1, r2, hB⟩ hK
    have hc := hv.cell
    gi_wp2
    refine ⟨by simp, .inl ⟨_, _, rfl, run_takeDeferred hK, ?_⟩⟩
    exact ⟨_, results_tmp2 rfl _ _ _, rfl, hB.trans (belowK_b (w := w) (Nat.le_refl _) W D _ _ (by omega) hK rfl rfl)⟩
  case stop =>
    rintro D c pre W _ _ h _
    exact h.elim

set_option maxRecDepth 100000 in
theorem impl_CountSquareFree (m k : Int) (w : World) (wm : (Lit.int .i64 m).wf = true) (wk : (Lit.int .i64 k).wf = true) :
    Calls Try.prog 33 #[.int .i64 m, .int .i64 k] w fun e w' => e = .returned (.tuple #[.int .i64 (countSfR m k).1, .int .i64 (countSfR m k).2]) ∧ Below w.heap.size w w' := by
  by_cases h : m < 0 ∨ 12 < m ∨ k < 1 ∨ 3 < k
  · rw [countSfR_out h]
    rcases (show m < 0 ∨ (¬ m < 0 ∧ 12 < m) ∨ (¬ m < 0 ∧ ¬ 12 < m ∧ k < 1) ∨ (¬ m < 0 ∧ ¬ 12 < m ∧ ¬ k < 1 ∧ 3 < k) by omega) with g1 | ⟨g1, g2⟩ | ⟨g1, g2, g3⟩ | ⟨g1, g2, g3, g4⟩
    all_goals
      clear h
      go_enter Try.func33, Try.ntmps33
      go_wp2
      go_ret2
      exact ⟨rfl, Below.refl _ _⟩
  · obtain ⟨a, rfl⟩ := Int.eq_ofNat_of_zero_le (show 0 ≤ m by omega)
    obtain ⟨b, rfl⟩ := Int.eq_ofNat_of_zero_le (show 0 ≤ k by omega)
    rw [countSfR_ok (by omega) (by omega) (by omega)]
    exact callsIn_wide.1 (impl_CountSquareFree_ok a b w (by omega) (by omega) (by omega))

noncomputable def firstSfR (m k : Int) : ByteArray × Int := if m < 0 ∨ 30 < m ∨ k < 1 ∨ 5 < k then (⟨#[]⟩, 2) else match (dfs k.toNat m.toNat []).head? with
  | some s => (⟨s.toArray⟩, 0)
  | none => (⟨#[]⟩, 4)
theorem firstSfR_out {m k : Int} (h : m < 0 ∨ 30 < m ∨ k < 1 ∨ 5 < k) : firstSfR m k = (⟨#[]⟩, 2) := if_pos h
theorem firstSfR_some {m k : Nat} {s : List UInt8} (h1 : m ≤ 30) (h2 : 1 ≤ k) (h3 : k ≤ 5) (h : (dfs k m []).head? = some s) : firstSfR (m : Int) (k : Int) = (⟨s.toArray⟩, 0) := by unfold firstSfR; rw [if_neg (by omega)]; simp [h]
theorem firstSfR_none {m k : Nat} (h1 : m ≤ 30) (h2 : 1 ≤ k) (h3 : k ≤ 5) (h : (dfs k m []).head? = none) : firstSfR (m : Int) (k : Int) = (⟨#[]⟩, 4) := by unfold firstSfR; rw [if_neg (by omega)]; simp [h]

/-- Both boxes of the results are written. -/
theorem two_set {w W : World} {b : Nat} {t u : TypeId} {v v' x x' : Value} (v2 : Boxed W b t v) (v3 : Boxed W (b + 1) u v') (hB : Below w.heap.size w W) (hb : w.heap.size ≤ b) :
    Boxed ((W.setCell ⟨b, 0, none⟩ x).setCell ⟨b + 1, 0, none⟩ x') b t x ∧ Boxed ((W.setCell ⟨b, 0, none⟩ x).setCell ⟨b + 1, 0, none⟩ x') (b + 1) u x' ∧ Below w.heap.size w ((W.setCell ⟨b, 0, none⟩ x).setCell ⟨b + 1, 0, none⟩ x') ∧
    (∀ B, b + 1 < B → KeepUp B W ((W.setCell ⟨b, 0, none⟩ x).setCell ⟨b + 1, 0, none⟩ x')) ∧ ∀ D, D < W.heap.size → D ≠ b → D ≠ b + 1 → ((W.setCell ⟨b, 0, none⟩ x).setCell ⟨b + 1, 0, none⟩ x').heap[D]? = W.heap[D]? := by
  refine ⟨(v2.set _).kept (grownBy_setCell' _ _ _) (fun e => by have := Option.some.inj e; omega), (v3.kept (grownBy_setCell' _ _ _) (fun e => by have := Option.some.inj e; omega)).set _, (hB.setCell (p := ⟨b, 0, none⟩) hb _).setCell (p := ⟨b + 1, 0, none⟩) (by show w.heap.size ≤ b + 1; omega) _, fun B h => (KeepUp.set _ _ (by omega)).trans (KeepUp.set _ _ h), fun D h1 h2 h3 => ?_⟩
  rw [(grownBy_setCell' _ _ _).block D (by simpa [World.setCell] using h1) (fun e => by have := Option.some.inj e; omega), (grownBy_setCell' _ _ _).block D h1 (fun e => by have := Option.some.inj e; omega)]

set_option maxRecDepth 100000 in
set_option maxHeartbeats 2000000 in
theorem impl_FirstSquareFree_ok (m k : Nat) (R : ByteArray × Int) (w : World) (hm : m ≤ 30) (hk1 : 1 ≤ k) (hk2 : k ≤ 5) (hR : R = firstSfR (m : Int) (k : Int)) :
    CallsIn Fence.wide 4 Try.prog 30 #[.int .i64 (m : Int), .int .i64 (k : Int)] w fun e w' => e = .returned (.tuple #[.string R.1, .int .i64 R.2]) ∧ Below w.heap.size w w' := by
  refine callsIn_of_wp_marks Try.func30 rfl trivial ?_ rfl
  simp only [Try.ntmps30, List.size_toArray, List.length_cons, List.length_nil, Nat.reduceAdd, Nat.reduceSub, Array.replicate_succ, Array.replicate_zero, List.push_toArray, List.append_toArray, List.nil_append, List.cons_append]
  have g1 : ¬ (m : Int) < 0 := by omega
  have g2 : ¬ (30 : Int) < (m : Int) := by omega
  have g3 : ¬ (k : Int) < 1 := by omega
  have g4 : ¬ (5 : Int) < (k : Int) := by omega
  have HRR := Lib.hid hR
  clear hR
  gi_wp2_with (refine ⟨trivial, ?_⟩; gi_at_call 112; refine (sqfreeWords_in _ _ _ _).mono ?_; rintro e w2 ⟨rfl, rfl⟩)
  have p0 : Boxed ((((w.alloc (.cells #[.string ⟨#[]⟩] 9)).alloc (.cells #[.int .i64 0] 2)).alloc (.cells #[.int .i64 (m : Int)] 2)).alloc (.cells #[.int .i64 (k : Int)] 2)) w.heap.size 9 (.string ⟨#[]⟩) := (((Boxed.new w _ _).alloc _).alloc _).alloc _
  have p1 : Boxed ((((w.alloc (.cells #[.string ⟨#[]⟩] 9)).alloc (.cells #[.int .i64 0] 2)).alloc (.cells #[.int .i64 (m : Int)] 2)).alloc (.cells #[.int .i64 (k : Int)] 2)) (w.heap.size + 1) 2 (.int .i64 0) := by
    have := Boxed.new (w.alloc (.cells #[.string ⟨#[]⟩] 9)) 2 (.int .i64 0)
    rw [World.size_alloc] at this
    exact (this.alloc _).alloc _
  have q1 : Boxed ((((w.alloc (.cells #[.string ⟨#[]⟩] 9)).alloc (.cells #[.int .i64 0] 2)).alloc (.cells #[.int .i64 (m : Int)] 2)).alloc (.cells #[.int .i64 (k : Int)] 2)) (w.heap.size + 1 + 1) 2 (.int .i64 (m : Int)) := by
    have := Boxed.new ((w.alloc (.cells #[.string ⟨#[]⟩] 9)).alloc (.cells #[.int .i64 0] 2)) 2 (.int .i64 (m : Int))
    simp only [World.size_alloc] at this
    exact this.alloc _
  have q2 : Boxed ((((w.alloc (.cells #[.string ⟨#[]⟩] 9)).alloc (.cells #[.int .i64 0] 2)).alloc (.cells #[.int .i64 (m : Int)] 2)).alloc (.cells #[.int .i64 (k : Int)] 2)) (w.heap.size + 1 + 1 + 1) 2 (.int .i64 (k : Int)) := by
    have := Boxed.new (((w.alloc (.cells #[.string ⟨#[]⟩] 9)).alloc (.cells #[.int .i64 0] 2)).alloc (.cells #[.int .i64 (m : Int)] 2)) 2 (.int .i64 (k : Int))
    simp only [World.size_alloc] at this
    exact this
  have hB0 : Below w.heap.size w ((((w.alloc (.cells #[.string ⟨#[]⟩] 9)).alloc (.cells #[.int .i64 0] 2)).alloc (.cells #[.int .i64 (m : Int)] 2)).alloc (.cells #[.int .i64 (k : Int)] 2)) := (((Below.new _ _).alloc (by simp) _).alloc (by simp; omega) _).alloc (by simp; omega) _
  have hs0 : ((((w.alloc (.cells #[.string ⟨#[]⟩] 9)).alloc (.cells #[.int .i64 0] 2)).alloc (.cells #[.int .i64 (m : Int)] 2)).alloc (.cells #[.int .i64 (k : Int)] 2)).heap.size = w.heap.size + 4 := by simp
  generalize hW0 : ((((w.alloc (.cells #[.string ⟨#[]⟩] 9)).alloc (.cells #[.int .i64 0] 2)).alloc (.cells #[.int .i64 (m : Int)] 2)).alloc (.cells #[.int .i64 (k : Int)] 2)) = W0 at p0 p1 q1 q2 hB0 hs0 ⊢
  clear hW0
  refine wpIn_rangeFunc_up rfl (by decide) (gf := 159) (lb := #[.pointer (some ⟨w.heap.size + 1 + 1, 0, none⟩), .pointer (some ⟨w.heap.size + 1 + 1 + 1, 0, none⟩)]) rfl trivial (enters_of Try.func159 (by kernel_rfl) rfl)
    (sqfree_up 3 (by decide) (w.heap.size + 1 + 1) (w.heap.size + 1 + 1 + 1) m k (by omega) hk1 hk2 W0 q1 q2) (Below.refl _ _) (by simp; omega) (fun _ => rfl)
    (fun pre W => Hid (pre = []) ∧ Boxed W w.heap.size 9 (.string ⟨#[]⟩) ∧ Boxed W (w.heap.size + 1) 2 (.int .i64 0) ∧ Below w.heap.size w W)
    (fun c pre W => c = .ret ∧ ∃ x : List UInt8, Hid (pre = [x]) ∧ Boxed W w.heap.size 9 (.string ⟨x.toArray⟩) ∧ Boxed W (w.heap.size + 1) 2 (.int .i64 0) ∧ Below w.heap.size w W)
    (fun s A B hs hb => ⟨hs.1, (hb.block _ (by omega)).trans hs.2.1, (hb.block _ (by omega)).trans hs.2.2.1, hs.2.2.2.trans (hb.mono (by omega))⟩)
    (fun c s A B hs hb => by
      obtain ⟨h1, x, h2, h3, h4, h5⟩ := hs
      exact ⟨h1, x, h2, (hb.block _ (by omega)).trans h3, (hb.block _ (by omega)).trans h4, h5.trans (hb.mono (by omega))⟩)
    ⟨Lib.hid rfl, p0, p1, hB0⟩
    (fun x => { tmps := #[.int .i64 (m : Int), .int .i64 (k : Int), undef, undef, .pointer (some ⟨w.heap.size, 0, none⟩), .pointer (some ⟨w.heap.size + 1, 0, none⟩), .string ⟨x.toArray⟩, .int .i64 (m : Int), .bool false, .bool false, .int .i64 (m : Int), .bool false, .bool false, .bool false, .int .i64 (k : Int), .bool false, .bool false, .bool false, .int .i64 (k : Int), .bool false, .bool false, .int .i64 (m : Int), .int .i64 (k : Int), .func (.func 159) #[] #[.pointer (some ⟨w.heap.size + 1 + 1, 0, none⟩), .pointer (some ⟨w.heap.size + 1 + 1 + 1, 0, none⟩)], .string ⟨x.toArray⟩, undef], defers := [] }) ?assign ?body ?done ?stop
  case assign =>
    intro l x W K hK
    gi_wp2
    exact hK
  case body =>
    rintro l pre x W ⟨HP, v2, v3, hB⟩ hlt hsz
    have c2 := v2.cell
    have c3 := v3.cell
    have f2 := v2.frozen
    have f3 := v3.frozen
    have l3 := v3.lt
    obtain ⟨t1, t2, t3, t4, t5⟩ := two_set (x := .string ⟨x.toArray⟩) (x' := .int .i64 0) v2 v3 hB (Nat.le_refl _)
    have HT1 := Lib.hid t1
    have HT2 := Lib.hid t2
    clear t1 t2
    gi_wp2
    exact ⟨t4 _ (by omega), rfl, x, Lib.hid (by rw [HP.out]; rfl), HT1.out, HT2.out, t3⟩
  case done =>
    rintro D ys W hD rfl ⟨HP, v2, v3, hB⟩ hK
    have hr : R = (⟨#[]⟩, 4) := by
      rw [HRR.out, firstSfR_none hm hk1 hk2 (by rw [HP.out]; rfl)]
    subst hr
    have c2 := v2.cell
    have c3 := v3.cell
    have f2 := v2.frozen
    have f3 := v3.frozen
    have l3 := v3.lt
    have hDl := (Array.getElem?_eq_some_iff.1 hK).1
    obtain ⟨t1, t2, t3, t4, t5⟩ := two_set (x := .string ⟨#[]⟩) (x' := .int .i64 4) v2 v3 hB (Nat.le_refl _)
    have hK4 := (t5 D hDl (by omega) (by omega)).trans hK
    have HT1 := Lib.hid t1
    have HT2 := Lib.hid t2
    have HK4 := Lib.hid hK4
    have HK := Lib.hid hK
    clear t1 t2 hK4 hK t4 t5
    gi_wp2
    refine ⟨by simp, .inl ⟨_, _, rfl, run_takeDeferred HK4.out, ?_⟩⟩
    exact ⟨_, results_boxes Try.results30 rfl rfl Try.isAgg9 Try.isAgg2 (HT1.out.kept (grownBy_putObj' _ _ _) (fun e => by have := Option.some.inj e; omega)).cell (HT2.out.kept (grownBy_putObj' _ _ _) (fun e => by have := Option.some.inj e; omega)).cell, rfl, t3.trans (belowK_b (w := w) (Nat.le_refl _) _ D _ _ (by omega) HK4.out rfl rfl)⟩
  case stop =>
    rintro D c pre W hD ⟨hne, t, ht⟩ ⟨rfl, x, HX, v2, v3, hB⟩ hK
    have hr : R = (⟨x.toArray⟩, 0) := by
      rw [HRR.out, firstSfR_some hm hk1 hk2 (s := x) (by rw [← ht, HX.out]; rfl)]
    subst hr
    have l3 := v3.lt
    gi_wp2
    refine ⟨by simp, .inl ⟨_, _, rfl, run_takeDeferred hK, ?_⟩⟩
    exact ⟨_, results_boxes Try.results30 rfl rfl Try.isAgg9 Try.isAgg2 (v2.kept (grownBy_putObj' _ _ _) (fun e => by have := Option.some.inj e; omega)).cell (v3.kept (grownBy_putObj' _ _ _) (fun e => by have := Option.some.inj e; omega)).cell, rfl, hB.trans (belowK_b (w := w) (Nat.le_refl _) _ D _ _ (by omega) hK rfl rfl)⟩

set_option maxRecDepth 100000 in
theorem impl_FirstSquareFree (m k : Int) (w : World) (wm : (Lit.int .i64 m).wf = true) (wk : (Lit.int .i64 k).wf = true) :
    Calls Try.prog 30 #[.int .i64 m, .int .i64 k] w fun e w' => e = .returned (.tuple #[.string (firstSfR m k).1, .int .i64 (firstSfR m k).2]) ∧ Below w.heap.size w w' := by
  by_cases h : m < 0 ∨ 30 < m ∨ k < 1 ∨ 5 < k
  · rw [firstSfR_out h]
    have p0 : Boxed ((w.alloc (.cells #[.string ⟨#[]⟩] 9)).alloc (.cells #[.int .i64 2] 2)) w.heap.size 9 (.string ⟨#[]⟩) := (Boxed.new w _ _).alloc _
    have p1 : Boxed ((w.alloc (.cells #[.string ⟨#[]⟩] 9)).alloc (.cells #[.int .i64 2] 2)) (w.heap.size + 1) 2 (.int .i64 2) := by
      have := Boxed.new (w.alloc (.cells #[.string ⟨#[]⟩] 9)) 2 (.int .i64 2)
      rwa [World.size_alloc] at this
    have hB0 : Below w.heap.size w ((w.alloc (.cells #[.string ⟨#[]⟩] 9)).alloc (.cells #[.int .i64 2] 2)) := (Below.new _ _).alloc (by simp) _
    have HT1 := Lib.hid p0
    have HT2 := Lib.hid p1
    have HT3 := Lib.hid hB0
    clear p0 p1 hB0
    rcases (show m < 0 ∨ (¬ m < 0 ∧ 30 < m) ∨ (¬ m < 0 ∧ ¬ 30 < m ∧ k < 1) ∨ (¬ m < 0 ∧ ¬ 30 < m ∧ ¬ k < 1 ∧ 5 < k) by omega) with g1 | ⟨g1, g2⟩ | ⟨g1, g2, g3⟩ | ⟨g1, g2, g3, g4⟩
    all_goals
      clear h
      go_enter Try.func30, Try.ntmps30
      go_wp2
      refine bodyPost_ret (results_boxes Try.results30 rfl rfl Try.isAgg9 Try.isAgg2 ?_ ?_) rfl ⟨rfl, ?_⟩
      · exact HT1.out.cell
      · exact HT2.out.cell
      · exact HT3.out
  · obtain ⟨a, rfl⟩ := Int.eq_ofNat_of_zero_le (show 0 ≤ m by omega)
    obtain ⟨b, rfl⟩ := Int.eq_ofNat_of_zero_le (show 0 ≤ k by omega)
    exact callsIn_wide.1 (impl_FirstSquareFree_ok a b _ w (by omega) (by omega) (by omega) rfl)

end Go.Proofs.Ythjbdcoklgnnlab
