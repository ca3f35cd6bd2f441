/- The iterator over the factors of a length: its contract. -/
import Derived.RangeFuncNested
import Derived.RangeFuncBound
import Derived.RangeFuncCalls
import Derived.RangeFuncLeaves
import Derived.RangeFuncBox
import Derived.Shelf.Abstract
import Derived.Shelf.RegionOpen
import Derived.WalkKit
import Derived.OwnWalkIn
import Derived.TacticsInMore
import Derived.LoopNIn
import Derived.LoopIn
import Derived.Maps.AppendAt
import Derived.Test.YtkemdiefoohdjabGreatFactor
import Derived.Test.YtkemdiefoohdjabGreatInts
namespace Go.Proofs.YtkemdiefoohdjabGreat
set_option linter.unusedVariables false
set_option linter.unusedSimpArgs false
open Go.RowKit Go.Shelf
attribute [local go_sem] Oper.semAt_some

abbrev encF (x : ByteArray) (m : Nat) (i : Nat) : Array Value := #[.int .i64 (i : Int), .string (x.extract i (i + m))]
/-- What a round keeps: whatever lay below n₀; the two boxes. -/
def KpF (n₀ b1 b2 : Nat) (W W' : World) : Prop := Below n₀ W W' ∧ W'.heap[b1]? = W.heap[b1]? ∧ W'.heap[b2]? = W.heap[b2]?
theorem kpF_t {n₀ b1 b2 : Nat} {A B C : World} (h : KpF n₀ b1 b2 A B) (k : KpF n₀ b1 b2 B C) : KpF n₀ b1 b2 A C := ⟨h.1.trans k.1, k.2.1.trans h.2.1, k.2.2.trans h.2.2⟩
theorem kpF_b {n₀ b1 b2 : Nat} {w : World} (hn : n₀ ≤ w.heap.size) (h1 : b1 < w.heap.size) (h2 : b2 < w.heap.size) (W : World) (l : Nat) (o o' : Obj) (hl : w.heap.size ≤ l) (h : W.heap[l]? = some o) (hc : o.isCells = false) (hw : o.isWalk = false) : KpF n₀ b1 b2 W (W.putObj l o') := by
  have hlt := (Array.getElem?_eq_some_iff.1 h).1
  exact ⟨belowK_b hn W l o o' hl h hc hw, (grownBy_putObj' W l o').block b1 (by omega) (fun e => by cases e; omega), (grownBy_putObj' W l o').block b2 (by omega) (fun e => by cases e; omega)⟩

/-- One more value in a boxed slice: what the walk owes. -/
theorem appended2 {W w1 : World} {n₀ nB B : Nat} {t e : TypeId} {v v' : Value} {k m : Nat} {xs ys : List Value} {tmp : Obj}
    (hv : Boxed W B t v) (hte : t ≠ e) (hrow : W.ownsRow nB e 1 v k xs) (hn : n₀ ≤ nB) (hnB : nB ≤ W.heap.size) (hB : n₀ ≤ B) (hBn : B < nB)
    (hown' : w1.ownsRow nB e 1 v' m ys) (hgrow : (W.alloc tmp).grownBy w1 v.ownBlock) :
    Boxed w1 B t v ∧ Boxed (w1.setCell ⟨B, 0, none⟩ v') B t v' ∧ (w1.setCell ⟨B, 0, none⟩ v').ownsRow nB e 1 v' m ys ∧ KeepsOthers W (w1.setCell ⟨B, 0, none⟩ v') ∧ Below n₀ W (w1.setCell ⟨B, 0, none⟩ v') ∧
      ∀ b, b < nB → b ≠ B → (w1.setCell ⟨B, 0, none⟩ v').heap[b]? = W.heap[b]? := by
  obtain ⟨h1, h2, _, h4, h5⟩ := hv.appended hte (own_base hrow hn) (Nat.le_trans hn hnB) hB (own_base hown' hn) hgrow
  refine ⟨h1, h2, hown'.kept (grownBy_setCell' w1 B v') (.inr (h1.not_row hte hown').symm), h4, h5, fun b hb hne => ?_⟩
  have hs : W.heap.size ≤ w1.heap.size := by have := hgrow.size; simp at this; omega
  rw [(grownBy_setCell' w1 B v').block b (by omega) (fun e => hne (by cases e; rfl)), hgrow.block b (by simp; omega) (fun e' => by have := (hrow.lt b e'.symm).1; omega), Below.heap_alloc W tmp b (by omega)]

end Go.Proofs.YtkemdiefoohdjabGreat
