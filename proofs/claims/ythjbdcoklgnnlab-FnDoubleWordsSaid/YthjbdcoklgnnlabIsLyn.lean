/- The test of Lyndon words: the program and the model. -/
import Derived.Test.YthjbdcoklgnnlabLeast
namespace Go.Proofs.Ythjbdcoklgnnlab
set_option linter.unusedVariables false
set_option linter.unusedSimpArgs false
open Go.RowKit Go.Shelf
attribute [local go_sem] Oper.semAt_some

noncomputable def isLynR (x : ByteArray) : Bool × Int := if ¬ IsW x then (false, 1) else (lynB (bl x), 0)
theorem isLynR_bad {x : ByteArray} (h : ¬ IsW x) : isLynR x = (false, 1) := if_pos h
theorem isLynR_ok {x : ByteArray} (h : IsW x) : isLynR x = (lynB (bl x), 0) := by unfold isLynR; rw [if_neg (not_not_intro h)]

set_option maxRecDepth 100000 in
theorem spec_IsLyndon (x : ByteArray) (w : World) (sx : x.size ≤ maxLen) :
    Calls Try.prog 50 #[.string x] w fun e w' => e = .returned (.tuple #[.bool (isLynR x).1, .int .i64 (isLynR x).2]) ∧ Below w.heap.size w w' := by
  by_cases h : IsW x
  · rw [isLynR_ok h]
    have h1 := h.size
    have H := Lib.hid h
    clear h
    go_enter Try.func50, Try.ntmps50
    go_wp2_with fail
    refine (l01Is_yes x _ H.out).mono ?_
    rintro e w1 ⟨rfl, b1⟩
    go_wp2_with fail
    refine (l02Lyndon_any x _ h1).mono ?_
    rintro e w2 ⟨rfl, b2⟩
    go_wp2_with fail
    go_ret2
    exact ⟨rfl, b1.then b2⟩
  · rw [isLynR_bad h]
    have H := Lib.hid h
    clear h
    go_enter Try.func50, Try.ntmps50
    go_wp2_with fail
    refine (l01Is_no x _ sx H.out).mono ?_
    rintro e w1 ⟨rfl, b1⟩
    go_wp2_with fail
    go_ret2
    exact ⟨rfl, b1⟩

/-- The results lie in boxes. -/
theorem results_boxes {fn : Func} {t u : Tmp} {ty ty2 : TypeId} (h : fn.results = #[.cell t ty, .cell u ty2]) {tmps : Array Value} {P : Program} {W : World} {b1 b2 : Nat} {v1 v2 : Value}
    (h1 : tmps[t]?.getD undef = .pointer (some ⟨b1, 0, none⟩)) (h2 : tmps[u]?.getD undef = .pointer (some ⟨b2, 0, none⟩)) (g1 : ∀ w, (isAgg ty).run P w = .ok false w) (g2 : ∀ w, (isAgg ty2).run P w = .ok false w) (c1 : W.cell? ⟨b1, 0, none⟩ = some v1) (c2 : W.cell? ⟨b2, 0, none⟩ = some v2) :
    (results fn tmps).run P W = .ok (.tuple #[v1, v2]) W := by
  simp [results, h, h1, h2, go_sem, g1, g2, c1, c2, asAddr]

/-- Three boxes made ahead of a call stand behind it. -/
theorem boxes3 {w w1 : World} {x : ByteArray} (b : Below (((w.alloc (.cells #[.string x] 9)).alloc (.cells #[.bool false] 4)).alloc (.cells #[.int .i64 0] 2)).heap.size (((w.alloc (.cells #[.string x] 9)).alloc (.cells #[.bool false] 4)).alloc (.cells #[.int .i64 0] 2)) w1) :
    Boxed w1 w.heap.size 9 (.string x) ∧ Boxed w1 (w.heap.size + 1) 4 (.bool false) ∧ Boxed w1 (w.heap.size + 1 + 1) 2 (.int .i64 0) ∧ Below w.heap.size w w1 ∧ w.heap.size + 3 ≤ w1.heap.size := by
  have k1 : Boxed (((w.alloc (.cells #[.string x] 9)).alloc (.cells #[.bool false] 4)).alloc (.cells #[.int .i64 0] 2)) w.heap.size 9 (.string x) := ((Boxed.new w _ _).alloc _).alloc _
  have k2 : Boxed (((w.alloc (.cells #[.string x] 9)).alloc (.cells #[.bool false] 4)).alloc (.cells #[.int .i64 0] 2)) (w.heap.size + 1) 4 (.bool false) := by
    have := Boxed.new (w.alloc (.cells #[.string x] 9)) 4 (.bool false)
    rw [World.size_alloc] at this
    exact this.alloc _
  have k3 : Boxed (((w.alloc (.cells #[.string x] 9)).alloc (.cells #[.bool false] 4)).alloc (.cells #[.int .i64 0] 2)) (w.heap.size + 1 + 1) 2 (.int .i64 0) := by
    have := Boxed.new ((w.alloc (.cells #[.string x] 9)).alloc (.cells #[.bool false] 4)) 2 (.int .i64 0)
    simp only [World.size_alloc] at this
    exact this
  have hz := b.size
  refine ⟨(b.block _ k1.lt).trans k1, (b.block _ k2.lt).trans k2, (b.block _ k3.lt).trans k3, ((((Below.refl w.heap.size w).alloc (Nat.le_refl _) _).alloc (by simp) _).alloc (by rw [World.size_alloc, World.size_alloc]; omega) _).trans (b.mono (by rw [World.size_alloc, World.size_alloc, World.size_alloc]; omega)), by simpa using hz⟩

set_option maxRecDepth 100000 in
theorem impl_IsLyndon_bad (x : ByteArray) (w : World) (sx : x.size ≤ maxLen) (h : ¬ IsW x) :
    CallsIn Fence.wide 4 Try.prog 49 #[.string x] w fun e w' => e = .returned (.tuple #[.bool false, .int .i64 1]) ∧ Below w.heap.size w w' := by
  have H := Lib.hid h
  clear h
  refine callsIn_of_wp_marks Try.func49 rfl trivial ?_ rfl
  simp only [Try.ntmps49, List.size_toArray, List.length_cons, List.length_nil, Nat.reduceAdd, Nat.reduceSub, Array.replicate_succ, Array.replicate_zero, List.push_toArray, List.append_toArray, List.nil_append, List.cons_append]
  gi_wp2_with (refine ⟨trivial, ?_⟩; gi_at_call 85; refine (callsIn_wide.2 (isWord_not x _ sx H.out)).mono ?_; rintro e w1 ⟨rfl, b1⟩; obtain ⟨v1, v2, v3, hB, hz⟩ := boxes3 b1; have c2 := v2.cell; have c3 := v3.cell; have f2 := v2.frozen; have f3 := v3.frozen)
  have u2 : Boxed ((w1.setCell ⟨w.heap.size + 1, 0, none⟩ (.bool false)).setCell ⟨w.heap.size + 1 + 1, 0, none⟩ (.int .i64 1)) (w.heap.size + 1) 4 (.bool false) := (v2.set _).kept (grownBy_setCell' _ _ _) (fun e => by have := Option.some.inj e; omega)
  have u3 : Boxed ((w1.setCell ⟨w.heap.size + 1, 0, none⟩ (.bool false)).setCell ⟨w.heap.size + 1 + 1, 0, none⟩ (.int .i64 1)) (w.heap.size + 1 + 1) 2 (.int .i64 1) := (v3.kept (grownBy_setCell' _ _ _) (fun e => by have := Option.some.inj e; omega)).set _
  exact ⟨_, results_boxes Try.results49 rfl rfl Try.isAgg4 Try.isAgg2 u2.cell u3.cell, rfl, (hB.setCell (p := ⟨w.heap.size + 1, 0, none⟩) (by simp) _).setCell (p := ⟨w.heap.size + 1 + 1, 0, none⟩) (by show w.heap.size ≤ w.heap.size + 1 + 1; omega) _⟩

theorem less_cases {a b : ByteArray} (h : ¬ bl a < bl b) : (Op.bytesLess b.toList a.toList = true) ∨ (Op.bytesLess b.toList a.toList = false ∧ (b.toList == a.toList) = true) := by
  by_cases e : a = b
  · subst e
    exact .inr ⟨less_no (List.lt_irrefl _), teq_yes rfl⟩
  · exact .inl (less_yes (lt_of_ne_not h (fun k => e (bl_inj k))))
theorem lyn_stop {x : ByteArray} {k : Nat} (h0 : 0 < k) (h1 : k < x.size) (h : ¬ bl x < bl (turned x k)) : lynB (bl x) = false := lynB_no fun hl => h (by
  rw [bl_turned]
  exact (lyn_rot _).1 hl.2 k h0 (by rw [bl_len]; exact h1))
theorem lyn_done {x : ByteArray} (h : ∀ k, k < x.size → 0 < k → bl x < bl (turned x k)) : lynB (bl x) = !(x.toList.isEmpty) := by
  by_cases h0 : x.size = 0
  · rw [teq_nil h0]
    exact lynB_no fun hl => hl.1 (by rw [size_zero h0])
  · rw [teq_not_nil h0]
    refine lynB_yes ⟨bl_ne (by omega), (lyn_rot _).2 fun k k0 k1 => ?_⟩
    rw [← bl_turned]
    exact h k (by rw [bl_len] at k1; exact k1) k0

set_option maxRecDepth 100000 in
set_option maxHeartbeats 2000000 in
theorem impl_IsLyndon_ok (x : ByteArray) (w : World) (h : IsW x) (hx : x.size ≤ 60) :
    CallsIn Fence.wide 4 Try.prog 49 #[.string x] w fun e w' => e = .returned (.tuple #[.bool (lynB (bl x)), .int .i64 0]) ∧ Below w.heap.size w w' := by
  have H := Lib.hid h
  clear h
  refine callsIn_of_wp_marks Try.func49 rfl trivial ?_ rfl
  simp only [Try.ntmps49, List.size_toArray, List.length_cons, List.length_nil, Nat.reduceAdd, Nat.reduceSub, Array.replicate_succ, Array.replicate_zero, List.push_toArray, List.append_toArray, List.nil_append, List.cons_append]
  gi_wp2_with (first | (refine ⟨trivial, ?_⟩; gi_at_call 85; refine (callsIn_wide.2 (isWord_yes x _ H.out)).mono ?_; rintro e w1 ⟨rfl, b1⟩; obtain ⟨v1, v2, v3, hB, hz⟩ := boxes3 b1; have c1 := v1.cell) | (refine ⟨trivial, ?_⟩; gi_at_call 123; refine (turnedWords_in Fence.wide _ trivial rfl _ _).mono ?_; rintro e w2 ⟨rfl, rfl⟩))
  obtain ⟨W0, hW0⟩ : ∃ W0 : World, W0 = w1.alloc (.cells #[.string x] 9) := ⟨_, rfl⟩
  have hB0 : Below w.heap.size w W0 := by rw [hW0]; exact hB.alloc (by omega) _
  have p1 : Boxed W0 w.heap.size 9 (.string x) := by rw [hW0]; exact v1.alloc _
  have p2 : Boxed W0 (w.heap.size + 1) 4 (.bool false) := by rw [hW0]; exact v2.alloc _
  have p3 : Boxed W0 (w.heap.size + 1 + 1) 2 (.int .i64 0) := by rw [hW0]; exact v3.alloc _
  have q1 : Boxed W0 w1.heap.size 9 (.string x) := by rw [hW0]; exact Boxed.new w1 _ _
  have hs0 : W0.heap.size = w1.heap.size + 1 := by rw [hW0]; simp
  rw [← hW0]
  clear hW0 b1 c1 v1 v2 v3 hB
  refine wpIn_rangeFunc_ownG rfl (by decide) (gf := 164) (lb := #[.pointer (some ⟨w1.heap.size, 0, none⟩)]) rfl trivial (enters_of Try.func164 (by kernel_rfl) rfl)
    (turned_stops Fence.wide 3 trivial rfl (by decide) w1.heap.size w.heap.size x hx W0 q1) kpT_t (kpT_b (by omega) (by omega)) (Below.refl _ _) (fun _ => rfl)
    (fun pre W => ((((Boxed W w.heap.size 9 (.string x) ∧ Boxed W (w.heap.size + 1) 4 (.bool false)) ∧ Boxed W (w.heap.size + 1 + 1) 2 (.int .i64 0)) ∧ Boxed W w1.heap.size 9 (.string x)) ∧ Below w.heap.size w W) ∧ Hid (∀ k ∈ pre, 0 < k → bl x < bl (turned x k)))
    (fun c pre W => ((Boxed W (w.heap.size + 1) 4 (.bool false) ∧ Boxed W (w.heap.size + 1 + 1) 2 (.int .i64 0)) ∧ Below w.heap.size w W) ∧ (c = .ret ∧ Hid (∃ k ∈ pre, 0 < k ∧ ¬ bl x < bl (turned x k))))
    (OwnFrom.and (OwnFrom.and (OwnFrom.and (OwnFrom.and (OwnFrom.and (boxed_ownV _ _ _ (fun _ => .string x)) (boxed_ownV _ _ _ (fun _ => .bool false))) (boxed_ownV _ _ _ (fun _ => .int .i64 0))) (boxed_ownV _ _ _ (fun _ => .string x))) (ownFrom_below (Nat.le_refl _) (by omega))) (fun _ _ _ _ hs _ _ => hs))
    (fun c => OwnFrom.and (OwnFrom.and (OwnFrom.and (boxed_ownV _ _ _ (fun _ => .bool false)) (boxed_ownV _ _ _ (fun _ => .int .i64 0))) (ownFrom_below (Nat.le_refl _) (by omega))) (fun _ _ _ _ hs _ _ => hs))
    ⟨⟨⟨⟨⟨p1, p2⟩, p3⟩, q1⟩, hB0⟩, Lib.hid (fun k hk => by cases hk)⟩
    (fun i => { tmps := #[.string x, .pointer (some ⟨w.heap.size, 0, none⟩), .pointer (some ⟨w.heap.size + 1, 0, none⟩), .pointer (some ⟨w.heap.size + 1 + 1, 0, none⟩), .int .i64 (i : Int), .string (turned x i), .string x, .bool true, .bool false, .string x, .func (.func 164) #[] #[.pointer (some ⟨w1.heap.size, 0, none⟩)], .int .i64 (i : Int), .string (turned x i), undef, undef, undef, undef, undef, undef, undef, undef, undef], defers := [] }) ?assign ?body ?done ?stop
  case assign =>
    intro l i W K hK
    gi_wp2
    exact hK
  case body =>
    rintro l pre i W ⟨⟨⟨⟨⟨v1, v2⟩, v3⟩, r1⟩, hB⟩, HU⟩ hlt
    have c1 := v1.cell
    have c2 := v2.cell
    have c3 := v3.cell
    have f2 := v2.frozen
    have f3 := v3.frozen
    have hbz := hB.size
    have r1l := r1.lt
    have l1 := v1.lt
    by_cases h0 : 0 < i
    · by_cases hl : bl x < bl (turned x i)
      · have d1 := less_no (a := turned x i) (b := x) (fun k => lt_asymm' k hl)
        have d2 := teq_no (a := turned x i) (b := x) (fun e => by rw [e] at hl; exact List.lt_irrefl _ hl)
        have HU2 : Hid (∀ k ∈ pre ++ [i], 0 < k → bl x < bl (turned x k)) := Lib.hid fun k hk k0 => by
          rcases List.mem_append.1 hk with h | h
          · exact HU.out k h k0
          · rw [List.mem_singleton.1 h]; exact hl
        clear hl
        generalize turned x i = t at *
        gi_wp2
        exact ⟨KeepsFrom.refl _ _, ⟨Below.refl _ _, rfl⟩, ⟨⟨⟨⟨v1, v2⟩, v3⟩, r1⟩, hB⟩, HU2⟩
      · have HX : Hid (∃ k ∈ pre ++ [i], 0 < k ∧ ¬ bl x < bl (turned x k)) := Lib.hid ⟨i, by simp, h0, hl⟩
        have HC := less_cases hl
        clear hl
        generalize turned x i = t at *
        have u2 : Boxed ((W.setCell ⟨w.heap.size + 1, 0, none⟩ (.bool false)).setCell ⟨w.heap.size + 1 + 1, 0, none⟩ (.int .i64 0)) (w.heap.size + 1) 4 (.bool false) := (v2.set _).kept (grownBy_setCell' _ _ _) (fun e => by have := Option.some.inj e; omega)
        have u3 : Boxed ((W.setCell ⟨w.heap.size + 1, 0, none⟩ (.bool false)).setCell ⟨w.heap.size + 1 + 1, 0, none⟩ (.int .i64 0)) (w.heap.size + 1 + 1) 2 (.int .i64 0) := (v3.kept (grownBy_setCell' _ _ _) (fun e => by have := Option.some.inj e; omega)).set _
        have hB3 : Below w.heap.size w ((W.setCell ⟨w.heap.size + 1, 0, none⟩ (.bool false)).setCell ⟨w.heap.size + 1 + 1, 0, none⟩ (.int .i64 0)) := (hB.setCell (p := ⟨w.heap.size + 1, 0, none⟩) (by simp) _).setCell (p := ⟨w.heap.size + 1 + 1, 0, none⟩) (by show w.heap.size ≤ w.heap.size + 1 + 1; omega) _
        have hKF : KeepsFrom W0.heap.size W ((W.setCell ⟨w.heap.size + 1, 0, none⟩ (.bool false)).setCell ⟨w.heap.size + 1 + 1, 0, none⟩ (.int .i64 0)) := (KeepsFrom.of_grownBy (grownBy_setCell' _ _ _) (fun j e => by cases e; omega)).trans (KeepsFrom.of_grownBy (grownBy_setCell' _ _ _) (fun j e => by cases e; omega))
        rcases HC with d1 | ⟨d1, d2⟩
        · gi_wp2
          exact ⟨hKF, ⟨⟨u2, u3⟩, hB3⟩, rfl, HX⟩
        · gi_wp2
          exact ⟨hKF, ⟨⟨u2, u3⟩, hB3⟩, rfl, HX⟩
    · have HU2 : Hid (∀ k ∈ pre ++ [i], 0 < k → bl x < bl (turned x k)) := Lib.hid fun k hk k0 => by
        rcases List.mem_append.1 hk with h | h
        · exact HU.out k h k0
        · rw [List.mem_singleton.1 h] at k0; exact absurd k0 h0
      generalize turned x i = t at *
      gi_wp2
      exact ⟨KeepsFrom.refl _ _, ⟨Below.refl _ _, rfl⟩, ⟨⟨⟨⟨v1, v2⟩, v3⟩, r1⟩, hB⟩, HU2⟩
  case done =>
    rintro D ys W hD rfl ⟨⟨⟨⟨⟨v1, v2⟩, v3⟩, r1⟩, hB⟩, HU⟩ hK
    have hly := lyn_done (x := x) fun k hk k0 => HU.out k (List.mem_range.2 (by omega)) k0
    have HL := Lib.hid hly
    clear hly
    have c1 := v1.cell
    have c2 := v2.cell
    have c3 := v3.cell
    have f2 := v2.frozen
    have f3 := v3.frozen
    have hbz := hB.size
    have l3 := v3.lt
    gi_wp2
    have u2 : Boxed ((W.setCell ⟨w.heap.size + 1, 0, none⟩ (.bool (!x.toList.isEmpty))).setCell ⟨w.heap.size + 1 + 1, 0, none⟩ (.int .i64 0)) (w.heap.size + 1) 4 (.bool (!x.toList.isEmpty)) := (v2.set _).kept (grownBy_setCell' _ _ _) (fun e => by have := Option.some.inj e; omega)
    have u3 : Boxed ((W.setCell ⟨w.heap.size + 1, 0, none⟩ (.bool (!x.toList.isEmpty))).setCell ⟨w.heap.size + 1 + 1, 0, none⟩ (.int .i64 0)) (w.heap.size + 1 + 1) 2 (.int .i64 0) := (v3.kept (grownBy_setCell' _ _ _) (fun e => by have := Option.some.inj e; omega)).set _
    have hB3 : Below w.heap.size w ((W.setCell ⟨w.heap.size + 1, 0, none⟩ (.bool (!x.toList.isEmpty))).setCell ⟨w.heap.size + 1 + 1, 0, none⟩ (.int .i64 0)) := (hB.setCell (p := ⟨w.heap.size + 1, 0, none⟩) (by simp) _).setCell (p := ⟨w.heap.size + 1 + 1, 0, none⟩) (by show w.heap.size ≤ w.heap.size + 1 + 1; omega) _
    have hDl := (Array.getElem?_eq_some_iff.1 hK).1
    have hK4 : ((W.setCell ⟨w.heap.size + 1, 0, none⟩ (.bool (!x.toList.isEmpty))).setCell ⟨w.heap.size + 1 + 1, 0, none⟩ (.int .i64 0)).heap[D]? = some (.deferred (some [])) := by
      rw [(grownBy_setCell' _ _ _).block D (by simpa [World.setCell] using hDl) (fun e => by have := Option.some.inj e; omega), (grownBy_setCell' _ _ _).block D hDl (fun e => by have := Option.some.inj e; omega)]
      exact hK
    refine ⟨by simp, .inl ⟨_, _, rfl, run_takeDeferred hK4, ?_⟩⟩
    exact ⟨_, results_boxes Try.results49 rfl rfl Try.isAgg4 Try.isAgg2 (u2.kept (grownBy_putObj' _ _ _) (fun e => by have := Option.some.inj e; omega)).cell (u3.kept (grownBy_putObj' _ _ _) (fun e => by have := Option.some.inj e; omega)).cell, by rw [HL.out], hB3.trans (belowK_b (w := w) (Nat.le_refl _) _ D _ _ (by omega) hK4 rfl rfl)⟩
  case stop =>
    rintro D c pre W hD ⟨j, hj, rfl⟩ ⟨⟨⟨v2, v3⟩, hB⟩, rfl, HX⟩ hK
    have hly : lynB (bl x) = false := by
      obtain ⟨k, hk, k0, hl⟩ := HX.out
      by_cases hkx : k < x.size
      · exact lyn_stop k0 hkx hl
      · have := List.mem_range.1 hk
        omega
    have HL := Lib.hid hly
    clear hly
    have l3 := v3.lt
    gi_wp2
    refine ⟨by simp, .inl ⟨_, _, rfl, run_takeDeferred hK, ?_⟩⟩
    exact ⟨_, results_boxes Try.results49 rfl rfl Try.isAgg4 Try.isAgg2 (v2.kept (grownBy_putObj' _ _ _) (fun e => by have := Option.some.inj e; omega)).cell (v3.kept (grownBy_putObj' _ _ _) (fun e => by have := Option.some.inj e; omega)).cell, by rw [HL.out], hB.trans (belowK_b (w := w) (Nat.le_refl _) W D _ _ (by omega) hK rfl rfl)⟩

theorem impl_IsLyndon (x : ByteArray) (w : World) (sx : x.size ≤ maxLen) :
    Calls Try.prog 49 #[.string x] w fun e w' => e = .returned (.tuple #[.bool (isLynR x).1, .int .i64 (isLynR x).2]) ∧ Below w.heap.size w w' := by
  by_cases h : IsW x
  · rw [isLynR_ok h]
    exact callsIn_wide.1 (impl_IsLyndon_ok x w h h.size)
  · rw [isLynR_bad h]
    exact callsIn_wide.1 (impl_IsLyndon_bad x w sx h)

end Go.Proofs.Ythjbdcoklgnnlab
