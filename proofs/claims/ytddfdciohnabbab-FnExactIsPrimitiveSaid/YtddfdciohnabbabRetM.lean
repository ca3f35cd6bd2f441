/- Functions that hand back a morphism and a code. -/
import Derived.Test.YtddfdciohnabbabToS
namespace Go.Proofs.Ytddfdciohnabbab
set_option linter.unusedVariables false
open Go.RowKit

/-- What a function that hands back a morphism and a code comes to. -/
def RetM (L : List (List UInt8)) (c : Int) (w : World) (e : Ending) (w' : World) : Prop := ∃ p cap, e = .returned (.tuple #[.agg #[.slice p L.length cap], .int .i64 c]) ∧ OwnS w' w.heap.size (.slice p L.length cap) (L.map bt) ∧ Below w.heap.size w w'

/-- A value that a call made stays while an older row is written. -/
theorem own_past {w w' : World} {B : Nat} {e : TypeId} {v : Value} {n : Nat} {xs : List Value} {row : Option Nat} (h : w.ownsRow B e 1 v n xs) (hg : w.grownBy w' row) (hr : ∀ k, row = some k → k < B) : w'.ownsRow B e 1 v n xs := by
  refine World.ownsRow.kept h hg ?_
  cases hv : v.ownBlock with
  | none => exact .inl rfl
  | some k => exact .inr fun e => by have h1 := hr k e.symm; have h2 := (World.ownsRow.lt h k hv).1; omega
theorem OwnS.past {w w' : World} {B : Nat} {v : Value} {L : List ByteArray} {row : Option Nat} (h : OwnS w B v L) (hg : w.grownBy w' row) (hr : ∀ k, row = some k → k < B) : OwnS w' B v L := own_past h hg hr
theorem OwnI.past {w w' : World} {B : Nat} {v : Value} {L : List Int} {row : Option Nat} (h : OwnI w B v L) (hg : w.grownBy w' row) (hr : ∀ k, row = some k → k < B) : OwnI w' B v L := own_past h hg hr
end Go.Proofs.Ytddfdciohnabbab
