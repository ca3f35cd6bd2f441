/- All powers of a word, and all overlaps: the program. -/
import Derived.Test.YtolboinemechpaaRepIter
import Derived.Test.YtolboinemechpaaPowersS
namespace Go.Proofs.Ytolboinemechpaa
set_option linter.unusedVariables false
set_option linter.unusedSimpArgs false
open Go.RowKit Go.Shelf
attribute [local go_sem] Oper.semAt_some

/-- A row stays while no cells are written. -/
theorem own_kept {w w' : World} {B : Nat} {e : TypeId} {v : Value} {n : Nat} {xs : List Value} {row : Option Nat} (h : w.ownsRow B e 1 v n xs) (hg : w.grownBy w' row) (hr : ∀ r, row = some r → ∃ o : Obj, w.heap[r]? = some o ∧ o.isCells = false) : w'.ownsRow B e 1 v n xs := by
  refine own_other h hg fun k hk c => ?_
  obtain ⟨o, ho, hc⟩ := hr k c
  obtain ⟨_, ⟨rfl, _⟩ | ⟨g, cap, cur, rfl, _, hh, _⟩⟩ := h
  · cases hk
  · have e1 : g = k := Option.some.inj hk
    subst e1
    rw [hh] at ho
    cases ho
    cases hc
theorem OwnR.kept {w w' : World} {B : Nat} {v : Value} {L : List (List Int)} {row : Option Nat} (h : OwnR w B v L) (hg : w.grownBy w' row) (hr : ∀ r, row = some r → ∃ o : Obj, w.heap[r]? = some o ∧ o.isCells = false) : OwnR w' B v L := by
  obtain ⟨us, h1, h2, h3, h4⟩ := h
  exact ⟨us, own_kept h1 hg hr, h2, fun j hj => own_kept (h3 j hj) hg hr, h4⟩
/-- Rows stay while a box below them is written. -/
theorem OwnR.setBox {w : World} {B b : Nat} {v u : Value} {L : List (List Int)} (h : OwnR w B v L) (hb : b < B) : OwnR (w.setCell ⟨b, 0, none⟩ u) B v L := by
  obtain ⟨us, h1, h2, h3, h4⟩ := h
  have hg := grownBy_setCell' w b u
  refine ⟨us, own_other h1 hg fun k hk c => ?_, h2, fun j hj => own_other (h3 j hj) hg fun k hk c => ?_, h4⟩
  · have := (h1.lt k hk).1
    cases c
    omega
  · have := ((h3 j hj).lt k hk).1
    cases c
    omega

/-- The iterator made and run through. -/
theorem three_boxes (w : World) (x : ByteArray) (k m : Int) :
    Boxed (((w.alloc (.cells #[.string x] 9)).alloc (.cells #[.int .i64 k] 2)).alloc (.cells #[.int .i64 m] 2)) w.heap.size 9 (.string x) ∧
    Boxed (((w.alloc (.cells #[.string x] 9)).alloc (.cells #[.int .i64 k] 2)).alloc (.cells #[.int .i64 m] 2)) (w.heap.size + 1) 2 (.int .i64 k) ∧
    Boxed (((w.alloc (.cells #[.string x] 9)).alloc (.cells #[.int .i64 k] 2)).alloc (.cells #[.int .i64 m] 2)) (w.heap.size + 1 + 1) 2 (.int .i64 m) := by
  refine ⟨((Boxed.new w _ _).alloc _).alloc _, ?_, ?_⟩
  · have := Boxed.new (w.alloc (.cells #[.string x] 9)) 2 (.int .i64 k)
    rw [World.size_alloc] at this
    exact this.alloc _
  · have := Boxed.new ((w.alloc (.cells #[.string x] 9)).alloc (.cells #[.int .i64 k] 2)) 2 (.int .i64 m)
    simp only [World.size_alloc] at this
    exact this

end Go.Proofs.Ytolboinemechpaa
