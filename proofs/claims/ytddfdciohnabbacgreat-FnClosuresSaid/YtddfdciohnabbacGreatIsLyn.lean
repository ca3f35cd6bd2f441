/- The test of Lyndon words: the program and the model. -/
import Derived.Test.YtddfdciohnabbacGreatLeast
namespace Go.Proofs.YtddfdciohnabbacGreat
set_option linter.unusedVariables false
set_option linter.unusedSimpArgs false
open Go.RowKit Go.Shelf
attribute [local go_sem] Oper.semAt_some

noncomputable def isLynR (x : ByteArray) : Bool × Int := if ¬ IsW x then (false, 1) else (lynB (bl x), 0)
theorem isLynR_bad {x : ByteArray} (h : ¬ IsW x) : isLynR x = (false, 1) := if_pos h
theorem isLynR_ok {x : ByteArray} (h : IsW x) : isLynR x = (lynB (bl x), 0) := by unfold isLynR; rw [if_neg (not_not_intro h)]

/-- The results lie in boxes. -/
theorem results_boxes {fn : Func} {t u : Tmp} {ty ty2 : TypeId} (h : fn.results = #[.cell t ty, .cell u ty2]) {tmps : Array Value} {P : Program} {W : World} {b1 b2 : Nat} {v1 v2 : Value}
    (h1 : tmps[t]?.getD undef = .pointer (some ⟨b1, 0, none⟩)) (h2 : tmps[u]?.getD undef = .pointer (some ⟨b2, 0, none⟩)) (g1 : ∀ w, (isAgg ty).run P w = .ok false w) (g2 : ∀ w, (isAgg ty2).run P w = .ok false w) (c1 : W.cell? ⟨b1, 0, none⟩ = some v1) (c2 : W.cell? ⟨b2, 0, none⟩ = some v2) :
    (results fn tmps).run P W = .ok (.tuple #[v1, v2]) W := by
  simp [results, h, h1, h2, go_sem, g1, g2, c1, c2, asAddr]

/-- Three boxes made ahead of a call stand behind it. -/
theorem boxes3 {w w1 : World} {x : ByteArray} (b : Below (((w.alloc (.cells #[.string x] 9)).alloc (.cells #[.bool false] 4)).alloc (.cells #[.int .i64 0] 2)).heap.size (((w.alloc (.cells #[.string x] 9)).alloc (.cells #[.bool false] 4)).alloc (.cells #[.int .i64 0] 2)) w1) :
    Boxed w1 w.heap.size 9 (.string x) ∧ Boxed w1 (w.heap.size + 1) 4 (.bool false) ∧ Boxed w1 (w.heap.size + 1 + 1) 2 (.int .i64 0) ∧ Below w.heap.size w w1 ∧ w.heap.size + 3 ≤ w1.heap.size := by
  have k1 : Boxed (((w.alloc (.cells #[.string x] 9)).alloc (.cells #[.bool false] 4)).alloc (.cells #[.int .i64 0] 2)) w.heap.size 9 (.string x) := ((Boxed.new w _ _).alloc _).alloc _
  have k2 : Boxed (((w.alloc (.cells #[.string x] 9)).alloc (.cells #[.bool false] 4)).alloc (.cells #[.int .i64 0] 2)) (w.heap.size + 1) 4 (.bool false) := by
    have := Boxed.new (w.alloc (.cells #[.string x] 9)) 4 (.bool false)
    rw [World.size_alloc] at this
    exact this.alloc _
  have k3 : Boxed (((w.alloc (.cells #[.string x] 9)).alloc (.cells #[.bool false] 4)).alloc (.cells #[.int .i64 0] 2)) (w.heap.size + 1 + 1) 2 (.int .i64 0) := by
    have := Boxed.new ((w.alloc (.cells #[.string x] 9)).alloc (.cells #[.bool false] 4)) 2 (.int .i64 0)
    simp only [World.size_alloc] at this
    exact this
  have hz := b.size
  refine ⟨(b.block _ k1.lt).trans k1, (b.block _ k2.lt).trans k2, (b.block _ k3.lt).trans k3, ((((Below.refl w.heap.size w).alloc (Nat.le_refl _) _).alloc (by simp) _).alloc (by rw [World.size_alloc, World.size_alloc]; omega) _).trans (b.mono (by rw [World.size_alloc, World.size_alloc, World.size_alloc]; omega)), by simpa using hz⟩

theorem less_cases {a b : ByteArray} (h : ¬ bl a < bl b) : (Op.bytesLess b.toList a.toList = true) ∨ (Op.bytesLess b.toList a.toList = false ∧ (b.toList == a.toList) = true) := by
  by_cases e : a = b
  · subst e
    exact .inr ⟨less_no (List.lt_irrefl _), teq_yes rfl⟩
  · exact .inl (less_yes (lt_of_ne_not h (fun k => e (bl_inj k))))
theorem lyn_stop {x : ByteArray} {k : Nat} (h0 : 0 < k) (h1 : k < x.size) (h : ¬ bl x < bl (turned x k)) : lynB (bl x) = false := lynB_no fun hl => h (by
  rw [bl_turned]
  exact (lyn_rot _).1 hl.2 k h0 (by rw [bl_len]; exact h1))
theorem lyn_done {x : ByteArray} (h : ∀ k, k < x.size → 0 < k → bl x < bl (turned x k)) : lynB (bl x) = !(x.toList.isEmpty) := by
  by_cases h0 : x.size = 0
  · rw [teq_nil h0]
    exact lynB_no fun hl => hl.1 (by rw [size_zero h0])
  · rw [teq_not_nil h0]
    refine lynB_yes ⟨bl_ne (by omega), (lyn_rot _).2 fun k k0 k1 => ?_⟩
    rw [← bl_turned]
    exact h k (by rw [bl_len] at k1; exact k1) k0

end Go.Proofs.YtddfdciohnabbacGreat
