/-
  No cell of these rows narrows 'for every input' (looked for: loops, veiled, ifaces, maps, wideKeys, modest, calm, conditions, laid).
  DERIVED. THE GIVEN ROWS OF THIS SEAT. 11 by the template 'for every input the law returns true; each argument reads behind the call as it read before'; 0 by the template 'total and deterministic' (their statements: YtinanajagkilaaaTotals.lean).
  GIVEN WITH THE SEED: the statements are not yours to turn. If you find one false, say at which input.
  Laid BY PROGRAM, IN A SANDBOX (cutbox-rows.mjs): the forced cells as the released guide's own fill.sh prints them over the translation b76ef8c25be82e27… (all of the seat's roots in one cut). By AI agents, Wed Nov 11 2026. No macro, syntax, notation, axiom, sorry.
-/
import Derived.Test.YtinanajagkilaaaChecked
import GoSem.Claim
import GoSem.ClaimJoined
import GoSem.ClaimMapViews
import Derived.JoinedTies
import Derived.KernelRfl
namespace Go.Proofs.Ytinanajagkilaaa
/- THE CELL 'sum', in the pinned program and in every row, IS THE sha256 OF THE DUMP (.gsa) THAT YtinanajagkilaaaProg.lean LOADS. Nothing in Lean hashes anything: it is a label: what it is worth is what the hold of that sum in a sandbox is worth. -/
noncomputable def Try.pinned : Pinned := { name := "ytinanajagkilaaa", sum := "b76ef8c25be82e2773dbfdb57e489ae21c0323e85cfa1c4ebb17eaa5567b0887", checked := Try.checked }
namespace Rows
def none {H : Type} : Left H := { results := [], args := [] }

/-- 'laws.FnSquareFree': WHATEVER THE INPUT: true; the input reads as it did. -/
def fnSquareFreeSpec : ChangeSpec := { name := "fnSquareFree", fn := fun _ => fun
  | [d] => { results := [.lit (.bool true)], args := [d] }
  | _ => none }
def fnSquareFreeRow : OpenClaim := { program := "ytinanajagkilaaa", sum := "b76ef8c25be82e2773dbfdb57e489ae21c0323e85cfa1c4ebb17eaa5567b0887", func := "loop.example/g01371/laws.FnSquareFree", spec := "fnSquareFree", inPlace := ["internal/abi.NoEscape"], unfollowed := true, recurses := true, apart := false }
def FnSquareFreeSaid : Prop := fnSquareFreeRow.holds Try.pinned (OpenSpec.ofChange fnSquareFreeSpec)

/-- ITS FALSE NEIGHBOUR: 'it returns false'. Refute it at one input. -/
def fnSquareFreeWrong : ChangeSpec := { name := "fnSquareFree", fn := fun _ => fun
  | [d] => { results := [.lit (.bool false)], args := [d] }
  | _ => none }
def FnSquareFreeWrongFalsely : Prop := fnSquareFreeRow.holds Try.pinned (OpenSpec.ofChange fnSquareFreeWrong)

/-- 'laws.FnCritical': WHATEVER THE INPUT: true; the input reads as it did. -/
def fnCriticalSpec : ChangeSpec := { name := "fnCritical", fn := fun _ => fun
  | [d] => { results := [.lit (.bool true)], args := [d] }
  | _ => none }
def fnCriticalRow : OpenClaim := { program := "ytinanajagkilaaa", sum := "b76ef8c25be82e2773dbfdb57e489ae21c0323e85cfa1c4ebb17eaa5567b0887", func := "loop.example/g01371/laws.FnCritical", spec := "fnCritical", unfollowed := true, recurses := true, apart := false }
def FnCriticalSaid : Prop := fnCriticalRow.holds Try.pinned (OpenSpec.ofChange fnCriticalSpec)

/-- ITS FALSE NEIGHBOUR: 'it returns false'. Refute it at one input. -/
def fnCriticalWrong : ChangeSpec := { name := "fnCritical", fn := fun _ => fun
  | [d] => { results := [.lit (.bool false)], args := [d] }
  | _ => none }
def FnCriticalWrongFalsely : Prop := fnCriticalRow.holds Try.pinned (OpenSpec.ofChange fnCriticalWrong)

/-- 'laws.FnDoubleWords': WHATEVER THE INPUT: true; the input reads as it did. -/
def fnDoubleWordsSpec : ChangeSpec := { name := "fnDoubleWords", fn := fun _ => fun
  | [d] => { results := [.lit (.bool true)], args := [d] }
  | _ => none }
def fnDoubleWordsRow : OpenClaim := { program := "ytinanajagkilaaa", sum := "b76ef8c25be82e2773dbfdb57e489ae21c0323e85cfa1c4ebb17eaa5567b0887", func := "loop.example/g01371/laws.FnDoubleWords", spec := "fnDoubleWords", inPlace := ["internal/abi.NoEscape"], unfollowed := true, recurses := true, apart := false }
def FnDoubleWordsSaid : Prop := fnDoubleWordsRow.holds Try.pinned (OpenSpec.ofChange fnDoubleWordsSpec)

/-- ITS FALSE NEIGHBOUR: 'it returns false'. Refute it at one input. -/
def fnDoubleWordsWrong : ChangeSpec := { name := "fnDoubleWords", fn := fun _ => fun
  | [d] => { results := [.lit (.bool false)], args := [d] }
  | _ => none }
def FnDoubleWordsWrongFalsely : Prop := fnDoubleWordsRow.holds Try.pinned (OpenSpec.ofChange fnDoubleWordsWrong)

/-- 'laws.FnExactDoubleWord': WHATEVER THE INPUT: true; the input reads as it did. -/
def fnExactDoubleWordSpec : ChangeSpec := { name := "fnExactDoubleWord", fn := fun _ => fun
  | [d1, d2] => { results := [.lit (.bool true)], args := [d1, d2] }
  | _ => none }
def fnExactDoubleWordRow : OpenClaim := { program := "ytinanajagkilaaa", sum := "b76ef8c25be82e2773dbfdb57e489ae21c0323e85cfa1c4ebb17eaa5567b0887", func := "loop.example/g01371/laws.FnExactDoubleWord", spec := "fnExactDoubleWord", inPlace := ["internal/abi.NoEscape"], apart := false }
def FnExactDoubleWordSaid : Prop := fnExactDoubleWordRow.holds Try.pinned (OpenSpec.ofChange fnExactDoubleWordSpec)

/-- ITS FALSE NEIGHBOUR: 'it returns false'. Refute it at one input. -/
def fnExactDoubleWordWrong : ChangeSpec := { name := "fnExactDoubleWord", fn := fun _ => fun
  | [d1, d2] => { results := [.lit (.bool false)], args := [d1, d2] }
  | _ => none }
def FnExactDoubleWordWrongFalsely : Prop := fnExactDoubleWordRow.holds Try.pinned (OpenSpec.ofChange fnExactDoubleWordWrong)

/-- 'laws.FnExactLongestUnbordered': WHATEVER THE INPUT: true; the input reads as it did. -/
def fnExactLongestUnborderedSpec : ChangeSpec := { name := "fnExactLongestUnbordered", fn := fun _ => fun
  | [d] => { results := [.lit (.bool true)], args := [d] }
  | _ => none }
def fnExactLongestUnborderedRow : OpenClaim := { program := "ytinanajagkilaaa", sum := "b76ef8c25be82e2773dbfdb57e489ae21c0323e85cfa1c4ebb17eaa5567b0887", func := "loop.example/g01371/laws.FnExactLongestUnbordered", spec := "fnExactLongestUnbordered", unfollowed := true, recurses := true, apart := false }
def FnExactLongestUnborderedSaid : Prop := fnExactLongestUnborderedRow.holds Try.pinned (OpenSpec.ofChange fnExactLongestUnborderedSpec)

/-- ITS FALSE NEIGHBOUR: 'it returns false'. Refute it at one input. -/
def fnExactLongestUnborderedWrong : ChangeSpec := { name := "fnExactLongestUnbordered", fn := fun _ => fun
  | [d] => { results := [.lit (.bool false)], args := [d] }
  | _ => none }
def FnExactLongestUnborderedWrongFalsely : Prop := fnExactLongestUnborderedRow.holds Try.pinned (OpenSpec.ofChange fnExactLongestUnborderedWrong)

/-- 'laws.FnExactPowersIn': WHATEVER THE INPUT: true; the input reads as it did. -/
def fnExactPowersInSpec : ChangeSpec := { name := "fnExactPowersIn", fn := fun _ => fun
  | [d1, d2] => { results := [.lit (.bool true)], args := [d1, d2] }
  | _ => none }
def fnExactPowersInRow : OpenClaim := { program := "ytinanajagkilaaa", sum := "b76ef8c25be82e2773dbfdb57e489ae21c0323e85cfa1c4ebb17eaa5567b0887", func := "loop.example/g01371/laws.FnExactPowersIn", spec := "fnExactPowersIn", unfollowed := true, recurses := true, apart := false }
def FnExactPowersInSaid : Prop := fnExactPowersInRow.holds Try.pinned (OpenSpec.ofChange fnExactPowersInSpec)

/-- ITS FALSE NEIGHBOUR: 'it returns false'. Refute it at one input. -/
def fnExactPowersInWrong : ChangeSpec := { name := "fnExactPowersIn", fn := fun _ => fun
  | [d1, d2] => { results := [.lit (.bool false)], args := [d1, d2] }
  | _ => none }
def FnExactPowersInWrongFalsely : Prop := fnExactPowersInRow.holds Try.pinned (OpenSpec.ofChange fnExactPowersInWrong)

/-- 'laws.FnExactCountPowers': WHATEVER THE INPUT: true; the input reads as it did. -/
def fnExactCountPowersSpec : ChangeSpec := { name := "fnExactCountPowers", fn := fun _ => fun
  | [d1, d2] => { results := [.lit (.bool true)], args := [d1, d2] }
  | _ => none }
def fnExactCountPowersRow : OpenClaim := { program := "ytinanajagkilaaa", sum := "b76ef8c25be82e2773dbfdb57e489ae21c0323e85cfa1c4ebb17eaa5567b0887", func := "loop.example/g01371/laws.FnExactCountPowers", spec := "fnExactCountPowers", unfollowed := true, recurses := true, apart := false }
def FnExactCountPowersSaid : Prop := fnExactCountPowersRow.holds Try.pinned (OpenSpec.ofChange fnExactCountPowersSpec)

/-- ITS FALSE NEIGHBOUR: 'it returns false'. Refute it at one input. -/
def fnExactCountPowersWrong : ChangeSpec := { name := "fnExactCountPowers", fn := fun _ => fun
  | [d1, d2] => { results := [.lit (.bool false)], args := [d1, d2] }
  | _ => none }
def FnExactCountPowersWrongFalsely : Prop := fnExactCountPowersRow.holds Try.pinned (OpenSpec.ofChange fnExactCountPowersWrong)

/-- 'laws.FnExactSquaresOf': WHATEVER THE INPUT: true; the input reads as it did. -/
def fnExactSquaresOfSpec : ChangeSpec := { name := "fnExactSquaresOf", fn := fun _ => fun
  | [d] => { results := [.lit (.bool true)], args := [d] }
  | _ => none }
def fnExactSquaresOfRow : OpenClaim := { program := "ytinanajagkilaaa", sum := "b76ef8c25be82e2773dbfdb57e489ae21c0323e85cfa1c4ebb17eaa5567b0887", func := "loop.example/g01371/laws.FnExactSquaresOf", spec := "fnExactSquaresOf", unfollowed := true, recurses := true, apart := false }
def FnExactSquaresOfSaid : Prop := fnExactSquaresOfRow.holds Try.pinned (OpenSpec.ofChange fnExactSquaresOfSpec)

/-- ITS FALSE NEIGHBOUR: 'it returns false'. Refute it at one input. -/
def fnExactSquaresOfWrong : ChangeSpec := { name := "fnExactSquaresOf", fn := fun _ => fun
  | [d] => { results := [.lit (.bool false)], args := [d] }
  | _ => none }
def FnExactSquaresOfWrongFalsely : Prop := fnExactSquaresOfRow.holds Try.pinned (OpenSpec.ofChange fnExactSquaresOfWrong)

/-- 'laws.FnExactFirstSquare': WHATEVER THE INPUT: true; the input reads as it did. -/
def fnExactFirstSquareSpec : ChangeSpec := { name := "fnExactFirstSquare", fn := fun _ => fun
  | [d] => { results := [.lit (.bool true)], args := [d] }
  | _ => none }
def fnExactFirstSquareRow : OpenClaim := { program := "ytinanajagkilaaa", sum := "b76ef8c25be82e2773dbfdb57e489ae21c0323e85cfa1c4ebb17eaa5567b0887", func := "loop.example/g01371/laws.FnExactFirstSquare", spec := "fnExactFirstSquare", apart := false }
def FnExactFirstSquareSaid : Prop := fnExactFirstSquareRow.holds Try.pinned (OpenSpec.ofChange fnExactFirstSquareSpec)

/-- ITS FALSE NEIGHBOUR: 'it returns false'. Refute it at one input. -/
def fnExactFirstSquareWrong : ChangeSpec := { name := "fnExactFirstSquare", fn := fun _ => fun
  | [d] => { results := [.lit (.bool false)], args := [d] }
  | _ => none }
def FnExactFirstSquareWrongFalsely : Prop := fnExactFirstSquareRow.holds Try.pinned (OpenSpec.ofChange fnExactFirstSquareWrong)

/-- 'laws.FnExactOverlapsIn': WHATEVER THE INPUT: true; the input reads as it did. -/
def fnExactOverlapsInSpec : ChangeSpec := { name := "fnExactOverlapsIn", fn := fun _ => fun
  | [d] => { results := [.lit (.bool true)], args := [d] }
  | _ => none }
def fnExactOverlapsInRow : OpenClaim := { program := "ytinanajagkilaaa", sum := "b76ef8c25be82e2773dbfdb57e489ae21c0323e85cfa1c4ebb17eaa5567b0887", func := "loop.example/g01371/laws.FnExactOverlapsIn", spec := "fnExactOverlapsIn", unfollowed := true, recurses := true, apart := false }
def FnExactOverlapsInSaid : Prop := fnExactOverlapsInRow.holds Try.pinned (OpenSpec.ofChange fnExactOverlapsInSpec)

/-- ITS FALSE NEIGHBOUR: 'it returns false'. Refute it at one input. -/
def fnExactOverlapsInWrong : ChangeSpec := { name := "fnExactOverlapsIn", fn := fun _ => fun
  | [d] => { results := [.lit (.bool false)], args := [d] }
  | _ => none }
def FnExactOverlapsInWrongFalsely : Prop := fnExactOverlapsInRow.holds Try.pinned (OpenSpec.ofChange fnExactOverlapsInWrong)

/-- 'laws.FnExactRunsOf': WHATEVER THE INPUT: true; the input reads as it did. -/
def fnExactRunsOfSpec : ChangeSpec := { name := "fnExactRunsOf", fn := fun _ => fun
  | [d] => { results := [.lit (.bool true)], args := [d] }
  | _ => none }
def fnExactRunsOfRow : OpenClaim := { program := "ytinanajagkilaaa", sum := "b76ef8c25be82e2773dbfdb57e489ae21c0323e85cfa1c4ebb17eaa5567b0887", func := "loop.example/g01371/laws.FnExactRunsOf", spec := "fnExactRunsOf", unfollowed := true, recurses := true, apart := false }
def FnExactRunsOfSaid : Prop := fnExactRunsOfRow.holds Try.pinned (OpenSpec.ofChange fnExactRunsOfSpec)

/-- ITS FALSE NEIGHBOUR: 'it returns false'. Refute it at one input. -/
def fnExactRunsOfWrong : ChangeSpec := { name := "fnExactRunsOf", fn := fun _ => fun
  | [d] => { results := [.lit (.bool false)], args := [d] }
  | _ => none }
def FnExactRunsOfWrongFalsely : Prop := fnExactRunsOfRow.holds Try.pinned (OpenSpec.ofChange fnExactRunsOfWrong)

/- THE SECOND FORM. 'bulk': how many values and letters a reading holds, each counted each time it is reached (what is shared counts as often as it is met; a slice's spare places count too). A statement '..UptoSaid' is the law's where the arguments, and the package variables that the reading takes, are together of bulk at most 1048576: NARROWER than '..Said'. Prove '..Said' where nothing that the law and all that it calls make is longer than what came in: it says more and counts as full. Else prove '..UptoSaid'. A law counts once. -/
mutual
def uptoBulk {H : Type} : DataW H → Nat
  | .lit (.string bytes) => bytes.length + 1
  | .lit _ => 1
  | .nil => 1
  | .ptr d => uptoBulk d + 1
  | .slice elems spare => uptoBulkAll elems + uptoBulkAll spare + 1
  | .agg parts => uptoBulkAll parts + 1
  | .iface _ d => uptoBulk d + 1
  | .map entries => uptoBulkEntries entries + 1
  | .held _ => 1
def uptoBulkAll {H : Type} : List (DataW H) → Nat
  | [] => 0
  | d :: r => uptoBulk d + uptoBulkAll r
def uptoBulkEntries {H : Type} : List (Lit × DataW H) → Nat
  | [] => 0
  | x :: r => uptoBulkEntry x + uptoBulkEntries r
def uptoBulkEntry {H : Type} : Lit × DataW H → Nat
  | (.string bytes, d) => bytes.length + uptoBulk d + 1
  | (_, d) => uptoBulk d + 1
 end
def uptoSmall : (H : Type) → List (DataW H) → Bool := fun _ ds => decide (uptoBulkAll ds ≤ 1048576)
def OpenSpec.upto (s : _root_.Go.ChangeSpec) : _root_.Go.OpenSpec := { _root_.Go.OpenSpec.ofChange s with cond := some uptoSmall }

/-- 'laws.FnSquareFree', WHERE WHAT IT READS IS OF BULK AT MOST 1048576: true; the input reads as it did. -/
def fnSquareFreeUptoRow : OpenClaim := { program := "ytinanajagkilaaa", sum := "b76ef8c25be82e2773dbfdb57e489ae21c0323e85cfa1c4ebb17eaa5567b0887", func := "loop.example/g01371/laws.FnSquareFree", spec := "fnSquareFree", inPlace := ["internal/abi.NoEscape"], unfollowed := true, recurses := true, apart := false, narrowed := true }
def FnSquareFreeUptoSaid : Prop := fnSquareFreeUptoRow.holds Try.pinned (OpenSpec.upto fnSquareFreeSpec)

/-- 'laws.FnCritical', WHERE WHAT IT READS IS OF BULK AT MOST 1048576: true; the input reads as it did. -/
def fnCriticalUptoRow : OpenClaim := { program := "ytinanajagkilaaa", sum := "b76ef8c25be82e2773dbfdb57e489ae21c0323e85cfa1c4ebb17eaa5567b0887", func := "loop.example/g01371/laws.FnCritical", spec := "fnCritical", unfollowed := true, recurses := true, apart := false, narrowed := true }
def FnCriticalUptoSaid : Prop := fnCriticalUptoRow.holds Try.pinned (OpenSpec.upto fnCriticalSpec)

/-- 'laws.FnDoubleWords', WHERE WHAT IT READS IS OF BULK AT MOST 1048576: true; the input reads as it did. -/
def fnDoubleWordsUptoRow : OpenClaim := { program := "ytinanajagkilaaa", sum := "b76ef8c25be82e2773dbfdb57e489ae21c0323e85cfa1c4ebb17eaa5567b0887", func := "loop.example/g01371/laws.FnDoubleWords", spec := "fnDoubleWords", inPlace := ["internal/abi.NoEscape"], unfollowed := true, recurses := true, apart := false, narrowed := true }
def FnDoubleWordsUptoSaid : Prop := fnDoubleWordsUptoRow.holds Try.pinned (OpenSpec.upto fnDoubleWordsSpec)

/-- 'laws.FnExactDoubleWord', WHERE WHAT IT READS IS OF BULK AT MOST 1048576: true; the input reads as it did. -/
def fnExactDoubleWordUptoRow : OpenClaim := { program := "ytinanajagkilaaa", sum := "b76ef8c25be82e2773dbfdb57e489ae21c0323e85cfa1c4ebb17eaa5567b0887", func := "loop.example/g01371/laws.FnExactDoubleWord", spec := "fnExactDoubleWord", inPlace := ["internal/abi.NoEscape"], apart := false, narrowed := true }
def FnExactDoubleWordUptoSaid : Prop := fnExactDoubleWordUptoRow.holds Try.pinned (OpenSpec.upto fnExactDoubleWordSpec)

/-- 'laws.FnExactLongestUnbordered', WHERE WHAT IT READS IS OF BULK AT MOST 1048576: true; the input reads as it did. -/
def fnExactLongestUnborderedUptoRow : OpenClaim := { program := "ytinanajagkilaaa", sum := "b76ef8c25be82e2773dbfdb57e489ae21c0323e85cfa1c4ebb17eaa5567b0887", func := "loop.example/g01371/laws.FnExactLongestUnbordered", spec := "fnExactLongestUnbordered", unfollowed := true, recurses := true, apart := false, narrowed := true }
def FnExactLongestUnborderedUptoSaid : Prop := fnExactLongestUnborderedUptoRow.holds Try.pinned (OpenSpec.upto fnExactLongestUnborderedSpec)

/-- 'laws.FnExactPowersIn', WHERE WHAT IT READS IS OF BULK AT MOST 1048576: true; the input reads as it did. -/
def fnExactPowersInUptoRow : OpenClaim := { program := "ytinanajagkilaaa", sum := "b76ef8c25be82e2773dbfdb57e489ae21c0323e85cfa1c4ebb17eaa5567b0887", func := "loop.example/g01371/laws.FnExactPowersIn", spec := "fnExactPowersIn", unfollowed := true, recurses := true, apart := false, narrowed := true }
def FnExactPowersInUptoSaid : Prop := fnExactPowersInUptoRow.holds Try.pinned (OpenSpec.upto fnExactPowersInSpec)

/-- 'laws.FnExactCountPowers', WHERE WHAT IT READS IS OF BULK AT MOST 1048576: true; the input reads as it did. -/
def fnExactCountPowersUptoRow : OpenClaim := { program := "ytinanajagkilaaa", sum := "b76ef8c25be82e2773dbfdb57e489ae21c0323e85cfa1c4ebb17eaa5567b0887", func := "loop.example/g01371/laws.FnExactCountPowers", spec := "fnExactCountPowers", unfollowed := true, recurses := true, apart := false, narrowed := true }
def FnExactCountPowersUptoSaid : Prop := fnExactCountPowersUptoRow.holds Try.pinned (OpenSpec.upto fnExactCountPowersSpec)

/-- 'laws.FnExactSquaresOf', WHERE WHAT IT READS IS OF BULK AT MOST 1048576: true; the input reads as it did. -/
def fnExactSquaresOfUptoRow : OpenClaim := { program := "ytinanajagkilaaa", sum := "b76ef8c25be82e2773dbfdb57e489ae21c0323e85cfa1c4ebb17eaa5567b0887", func := "loop.example/g01371/laws.FnExactSquaresOf", spec := "fnExactSquaresOf", unfollowed := true, recurses := true, apart := false, narrowed := true }
def FnExactSquaresOfUptoSaid : Prop := fnExactSquaresOfUptoRow.holds Try.pinned (OpenSpec.upto fnExactSquaresOfSpec)

/-- 'laws.FnExactFirstSquare', WHERE WHAT IT READS IS OF BULK AT MOST 1048576: true; the input reads as it did. -/
def fnExactFirstSquareUptoRow : OpenClaim := { program := "ytinanajagkilaaa", sum := "b76ef8c25be82e2773dbfdb57e489ae21c0323e85cfa1c4ebb17eaa5567b0887", func := "loop.example/g01371/laws.FnExactFirstSquare", spec := "fnExactFirstSquare", apart := false, narrowed := true }
def FnExactFirstSquareUptoSaid : Prop := fnExactFirstSquareUptoRow.holds Try.pinned (OpenSpec.upto fnExactFirstSquareSpec)

/-- 'laws.FnExactOverlapsIn', WHERE WHAT IT READS IS OF BULK AT MOST 1048576: true; the input reads as it did. -/
def fnExactOverlapsInUptoRow : OpenClaim := { program := "ytinanajagkilaaa", sum := "b76ef8c25be82e2773dbfdb57e489ae21c0323e85cfa1c4ebb17eaa5567b0887", func := "loop.example/g01371/laws.FnExactOverlapsIn", spec := "fnExactOverlapsIn", unfollowed := true, recurses := true, apart := false, narrowed := true }
def FnExactOverlapsInUptoSaid : Prop := fnExactOverlapsInUptoRow.holds Try.pinned (OpenSpec.upto fnExactOverlapsInSpec)

/-- 'laws.FnExactRunsOf', WHERE WHAT IT READS IS OF BULK AT MOST 1048576: true; the input reads as it did. -/
def fnExactRunsOfUptoRow : OpenClaim := { program := "ytinanajagkilaaa", sum := "b76ef8c25be82e2773dbfdb57e489ae21c0323e85cfa1c4ebb17eaa5567b0887", func := "loop.example/g01371/laws.FnExactRunsOf", spec := "fnExactRunsOf", unfollowed := true, recurses := true, apart := false, narrowed := true }
def FnExactRunsOfUptoSaid : Prop := fnExactRunsOfUptoRow.holds Try.pinned (OpenSpec.upto fnExactRunsOfSpec)

end Rows
end Go.Proofs.Ytinanajagkilaaa
