/- The iterator over the turned words: its contract. -/
import Derived.Test.YtkemdiefoohdjabGreatFacIter
import Derived.Test.YtkemdiefoohdjabGreatRoot
import Derived.Test.YtkemdiefoohdjabGreatTailIn
namespace Go.Proofs.YtkemdiefoohdjabGreat
set_option linter.unusedVariables false
set_option linter.unusedSimpArgs false
open Go.RowKit Go.Shelf
attribute [local go_sem] Oper.semAt_some

abbrev encT (x : ByteArray) (k : Nat) : Array Value := #[.int .i64 (k : Int), .string (turned x k)]
/-- What a round keeps: whatever lay below n₀; the box. -/
def KpT (n₀ b1 : Nat) (W W' : World) : Prop := Below n₀ W W' ∧ W'.heap[b1]? = W.heap[b1]?
theorem kpT_t {n₀ b1 : Nat} {A B C : World} (h : KpT n₀ b1 A B) (k : KpT n₀ b1 B C) : KpT n₀ b1 A C := ⟨h.1.trans k.1, k.2.trans h.2⟩
theorem kpT_b {n₀ b1 : Nat} {w : World} (hn : n₀ ≤ w.heap.size) (h1 : b1 < w.heap.size) (W : World) (l : Nat) (o o' : Obj) (hl : w.heap.size ≤ l) (h : W.heap[l]? = some o) (hc : o.isCells = false) (hw : o.isWalk = false) : KpT n₀ b1 W (W.putObj l o') := by
  have hlt := (Array.getElem?_eq_some_iff.1 h).1
  exact ⟨belowK_b hn W l o o' hl h hc hw, (grownBy_putObj' W l o').block b1 (by omega) (fun e => by cases e; omega)⟩
theorem boxed_ownV {β : Type} (n B : Nat) (t : TypeId) (f : β → Value) : OwnFrom n (fun s W => Boxed W B t (f s)) := fun s W W' row hs hg hr => hs.kept hg (fun e => by
  obtain ⟨_, o, ho, hc⟩ := hr _ e.symm
  have hs' : W.heap[B]? = _ := hs
  rw [hs'] at ho
  cases ho
  cases hc)
theorem two_ways {e : Ending} {A B : Prop} (h : (e = .returned (.bool true) ∧ A) ∨ (e = .returned (.bool false) ∧ B)) : ∃ b, e = .returned (.bool b) ∧ ((b = true ∧ A) ∨ (b = false ∧ B)) := by
  rcases h with ⟨rfl, h⟩ | ⟨rfl, h⟩
  · exact ⟨true, rfl, .inl ⟨rfl, h⟩⟩
  · exact ⟨false, rfl, .inr ⟨rfl, h⟩⟩

end Go.Proofs.YtkemdiefoohdjabGreat
