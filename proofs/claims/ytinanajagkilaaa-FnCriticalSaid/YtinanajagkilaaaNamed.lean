/- Words with names: the images. -/
import Derived.Test.YtinanajagkilaaaStrs
import Derived.Test.YtinanajagkilaaaWordOfS
import Derived.Test.YtinanajagkilaaaNumbers
import Derived.Test.YtinanajagkilaaaNamedPlain
import Derived.WalkSpells
namespace Go.Proofs.Ytinanajagkilaaa
set_option linter.unusedVariables false
set_option linter.unusedSimpArgs false
open Go.RowKit

def szOf : Value → Nat
  | .string t => t.size
  | _ => 0
theorem OwnS.rowS {w : World} {B : Nat} {v : Value} {I : List (List UInt8)} (h : OwnS w B v (I.map bt)) (hn : 0 < I.length) :
    ∃ g cap, v = .slice (some ⟨g, 0, none⟩) I.length cap ∧ g < w.heap.size ∧ I.length ≤ cap ∧ (∀ j (hj : j < I.length), w.cell? ⟨g, j, none⟩ = some (.string (bt (I[j]'hj)))) := by
  obtain ⟨g, cap, hv, _, hg, hc, _, cell, _⟩ := OwnS.row h (by simpa using hn)
  rw [List.length_map] at hv hc
  refine ⟨g, cap, hv, hg, hc, fun j hj => ?_⟩
  rw [cell j (by simpa using hj), List.getElem_map]


end Go.Proofs.Ytinanajagkilaaa
