/- The iterator over the powers of a word: its contract. -/
import Derived.Test.YtolboinemechpaaFacIter
import Derived.Test.YtolboinemechpaaScopeIn
import Derived.Test.YtolboinemechpaaRepPlain
import Derived.Test.YtolboinemechpaaSq
import Derived.Test.YtolboinemechpaaTailIn
namespace Go.Proofs.Ytolboinemechpaa
set_option linter.unusedVariables false
set_option linter.unusedSimpArgs false
open Go.RowKit Go.Shelf
attribute [local go_sem] Oper.semAt_some

abbrev encP (p : Nat × Nat) : Array Value := #[.int .i64 (p.1 : Int), .int .i64 (p.2 : Int)]
/-- What a round keeps: whatever lay below n₀; the three boxes. -/
def KpR (n₀ b1 b2 b3 : Nat) (W W' : World) : Prop := Below n₀ W W' ∧ W'.heap[b1]? = W.heap[b1]? ∧ W'.heap[b2]? = W.heap[b2]? ∧ W'.heap[b3]? = W.heap[b3]?
theorem kpR_t {n₀ b1 b2 b3 : Nat} {A B C : World} (h : KpR n₀ b1 b2 b3 A B) (k : KpR n₀ b1 b2 b3 B C) : KpR n₀ b1 b2 b3 A C := ⟨h.1.trans k.1, k.2.1.trans h.2.1, k.2.2.1.trans h.2.2.1, k.2.2.2.trans h.2.2.2⟩
theorem kpR_b {n₀ b1 b2 b3 : Nat} {w : World} (hn : n₀ ≤ w.heap.size) (h1 : b1 < w.heap.size) (h2 : b2 < w.heap.size) (h3 : b3 < w.heap.size) (W : World) (l : Nat) (o o' : Obj) (hl : w.heap.size ≤ l) (h : W.heap[l]? = some o) (hc : o.isCells = false) (hw : o.isWalk = false) : KpR n₀ b1 b2 b3 W (W.putObj l o') := by
  have hlt := (Array.getElem?_eq_some_iff.1 h).1
  exact ⟨belowK_b hn W l o o' hl h hc hw, (grownBy_putObj' W l o').block b1 (by omega) (fun e => by cases e; omega), (grownBy_putObj' W l o').block b2 (by omega) (fun e => by cases e; omega), (grownBy_putObj' W l o').block b3 (by omega) (fun e => by cases e; omega)⟩

end Go.Proofs.Ytolboinemechpaa
