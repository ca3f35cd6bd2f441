/-
  No cell of these rows narrows 'for every input' (looked for: loops, veiled, ifaces, maps, wideKeys, modest, calm, conditions, laid).
  DERIVED. THE GIVEN ROWS OF THIS SEAT. 7 by the template 'for every input the law returns true; each argument reads behind the call as it read before'; 0 by the template 'total and deterministic' (their statements: YthjbdcoklgnnlabTotals.lean).
  GIVEN WITH THE SEED: the statements are not yours to turn. If you find one false, say at which input.
  Laid BY PROGRAM, IN A SANDBOX (cutbox-rows.mjs): the forced cells as the released guide's own fill.sh prints them over the translation ccf95021160a9502… (all of the seat's roots in one cut). By AI agents, Wed Nov 11 2026. No macro, syntax, notation, axiom, sorry.
-/
import Derived.Test.YthjbdcoklgnnlabChecked
import GoSem.Claim
import GoSem.ClaimJoined
import GoSem.ClaimMapViews
import Derived.JoinedTies
import Derived.KernelRfl
namespace Go.Proofs.Ythjbdcoklgnnlab
/- THE CELL 'sum', in the pinned program and in every row, IS THE sha256 OF THE DUMP (.gsa) THAT YthjbdcoklgnnlabProg.lean LOADS. Nothing in Lean hashes anything: it is a label: what it is worth is what the hold of that sum in a sandbox is worth. -/
noncomputable def Try.pinned : Pinned := { name := "ythjbdcoklgnnlab", sum := "ccf95021160a9502372d02a04ea660ad9c45ab6c003c680ba20c4e72d1a525c5", checked := Try.checked }
namespace Rows
def none {H : Type} : Left H := { results := [], args := [] }

/-- 'laws.FnExactRunsOf': WHATEVER THE INPUT: true; the input reads as it did. -/
def fnExactRunsOfSpec : ChangeSpec := { name := "fnExactRunsOf", fn := fun _ => fun
  | [d] => { results := [.lit (.bool true)], args := [d] }
  | _ => none }
def fnExactRunsOfRow : OpenClaim := { program := "ythjbdcoklgnnlab", sum := "ccf95021160a9502372d02a04ea660ad9c45ab6c003c680ba20c4e72d1a525c5", func := "loop.example/g01371/laws.FnExactRunsOf", spec := "fnExactRunsOf", unfollowed := true, recurses := true, apart := false }
def FnExactRunsOfSaid : Prop := fnExactRunsOfRow.holds Try.pinned (OpenSpec.ofChange fnExactRunsOfSpec)

/-- ITS FALSE NEIGHBOUR: 'it returns false'. Refute it at one input. -/
def fnExactRunsOfWrong : ChangeSpec := { name := "fnExactRunsOf", fn := fun _ => fun
  | [d] => { results := [.lit (.bool false)], args := [d] }
  | _ => none }
def FnExactRunsOfWrongFalsely : Prop := fnExactRunsOfRow.holds Try.pinned (OpenSpec.ofChange fnExactRunsOfWrong)

/-- 'laws.FnExactDoubleWord': WHATEVER THE INPUT: true; the input reads as it did. -/
def fnExactDoubleWordSpec : ChangeSpec := { name := "fnExactDoubleWord", fn := fun _ => fun
  | [d1, d2] => { results := [.lit (.bool true)], args := [d1, d2] }
  | _ => none }
def fnExactDoubleWordRow : OpenClaim := { program := "ythjbdcoklgnnlab", sum := "ccf95021160a9502372d02a04ea660ad9c45ab6c003c680ba20c4e72d1a525c5", func := "loop.example/g01371/laws.FnExactDoubleWord", spec := "fnExactDoubleWord", inPlace := ["internal/abi.NoEscape"], apart := false }
def FnExactDoubleWordSaid : Prop := fnExactDoubleWordRow.holds Try.pinned (OpenSpec.ofChange fnExactDoubleWordSpec)

/-- ITS FALSE NEIGHBOUR: 'it returns false'. Refute it at one input. -/
def fnExactDoubleWordWrong : ChangeSpec := { name := "fnExactDoubleWord", fn := fun _ => fun
  | [d1, d2] => { results := [.lit (.bool false)], args := [d1, d2] }
  | _ => none }
def FnExactDoubleWordWrongFalsely : Prop := fnExactDoubleWordRow.holds Try.pinned (OpenSpec.ofChange fnExactDoubleWordWrong)

/-- 'laws.FnSquareFree': WHATEVER THE INPUT: true; the input reads as it did. -/
def fnSquareFreeSpec : ChangeSpec := { name := "fnSquareFree", fn := fun _ => fun
  | [d] => { results := [.lit (.bool true)], args := [d] }
  | _ => none }
def fnSquareFreeRow : OpenClaim := { program := "ythjbdcoklgnnlab", sum := "ccf95021160a9502372d02a04ea660ad9c45ab6c003c680ba20c4e72d1a525c5", func := "loop.example/g01371/laws.FnSquareFree", spec := "fnSquareFree", inPlace := ["internal/abi.NoEscape"], unfollowed := true, recurses := true, apart := false }
def FnSquareFreeSaid : Prop := fnSquareFreeRow.holds Try.pinned (OpenSpec.ofChange fnSquareFreeSpec)

/-- ITS FALSE NEIGHBOUR: 'it returns false'. Refute it at one input. -/
def fnSquareFreeWrong : ChangeSpec := { name := "fnSquareFree", fn := fun _ => fun
  | [d] => { results := [.lit (.bool false)], args := [d] }
  | _ => none }
def FnSquareFreeWrongFalsely : Prop := fnSquareFreeRow.holds Try.pinned (OpenSpec.ofChange fnSquareFreeWrong)

/-- 'laws.FnDoubleWords': WHATEVER THE INPUT: true; the input reads as it did. -/
def fnDoubleWordsSpec : ChangeSpec := { name := "fnDoubleWords", fn := fun _ => fun
  | [d] => { results := [.lit (.bool true)], args := [d] }
  | _ => none }
def fnDoubleWordsRow : OpenClaim := { program := "ythjbdcoklgnnlab", sum := "ccf95021160a9502372d02a04ea660ad9c45ab6c003c680ba20c4e72d1a525c5", func := "loop.example/g01371/laws.FnDoubleWords", spec := "fnDoubleWords", inPlace := ["internal/abi.NoEscape"], unfollowed := true, recurses := true, apart := false }
def FnDoubleWordsSaid : Prop := fnDoubleWordsRow.holds Try.pinned (OpenSpec.ofChange fnDoubleWordsSpec)

/-- ITS FALSE NEIGHBOUR: 'it returns false'. Refute it at one input. -/
def fnDoubleWordsWrong : ChangeSpec := { name := "fnDoubleWords", fn := fun _ => fun
  | [d] => { results := [.lit (.bool false)], args := [d] }
  | _ => none }
def FnDoubleWordsWrongFalsely : Prop := fnDoubleWordsRow.holds Try.pinned (OpenSpec.ofChange fnDoubleWordsWrong)

/-- 'laws.FnPalindromes': WHATEVER THE INPUT: true; the input reads as it did. -/
def fnPalindromesSpec : ChangeSpec := { name := "fnPalindromes", fn := fun _ => fun
  | [d] => { results := [.lit (.bool true)], args := [d] }
  | _ => none }
def fnPalindromesRow : OpenClaim := { program := "ythjbdcoklgnnlab", sum := "ccf95021160a9502372d02a04ea660ad9c45ab6c003c680ba20c4e72d1a525c5", func := "loop.example/g01371/laws.FnPalindromes", spec := "fnPalindromes", unfollowed := true, recurses := true, apart := false }
def FnPalindromesSaid : Prop := fnPalindromesRow.holds Try.pinned (OpenSpec.ofChange fnPalindromesSpec)

/-- ITS FALSE NEIGHBOUR: 'it returns false'. Refute it at one input. -/
def fnPalindromesWrong : ChangeSpec := { name := "fnPalindromes", fn := fun _ => fun
  | [d] => { results := [.lit (.bool false)], args := [d] }
  | _ => none }
def FnPalindromesWrongFalsely : Prop := fnPalindromesRow.holds Try.pinned (OpenSpec.ofChange fnPalindromesWrong)

/-- 'laws.FnTop': WHATEVER THE INPUT: true; the input reads as it did. -/
def fnTopSpec : ChangeSpec := { name := "fnTop", fn := fun _ => fun
  | [d] => { results := [.lit (.bool true)], args := [d] }
  | _ => none }
def fnTopRow : OpenClaim := { program := "ythjbdcoklgnnlab", sum := "ccf95021160a9502372d02a04ea660ad9c45ab6c003c680ba20c4e72d1a525c5", func := "loop.example/g01371/laws.FnTop", spec := "fnTop", inPlace := ["internal/abi.NoEscape", "internal/bytealg.MakeNoZero"], unfollowed := true, recurses := true, apart := false }
def FnTopSaid : Prop := fnTopRow.holds Try.pinned (OpenSpec.ofChange fnTopSpec)

/-- ITS FALSE NEIGHBOUR: 'it returns false'. Refute it at one input. -/
def fnTopWrong : ChangeSpec := { name := "fnTop", fn := fun _ => fun
  | [d] => { results := [.lit (.bool false)], args := [d] }
  | _ => none }
def FnTopWrongFalsely : Prop := fnTopRow.holds Try.pinned (OpenSpec.ofChange fnTopWrong)

/-- 'laws.FnPromiseOfAll': WHATEVER THE INPUT: true; the input reads as it did. -/
def fnPromiseOfAllSpec : ChangeSpec := { name := "fnPromiseOfAll", fn := fun _ => fun
  | [d1, d2] => { results := [.lit (.bool true)], args := [d1, d2] }
  | _ => none }
def fnPromiseOfAllRow : OpenClaim := { program := "ythjbdcoklgnnlab", sum := "ccf95021160a9502372d02a04ea660ad9c45ab6c003c680ba20c4e72d1a525c5", func := "loop.example/g01371/laws.FnPromiseOfAll", spec := "fnPromiseOfAll", inPlace := ["internal/abi.NoEscape", "internal/bytealg.MakeNoZero"], unfollowed := true, recurses := true, apart := false }
def FnPromiseOfAllSaid : Prop := fnPromiseOfAllRow.holds Try.pinned (OpenSpec.ofChange fnPromiseOfAllSpec)

/-- ITS FALSE NEIGHBOUR: 'it returns false'. Refute it at one input. -/
def fnPromiseOfAllWrong : ChangeSpec := { name := "fnPromiseOfAll", fn := fun _ => fun
  | [d1, d2] => { results := [.lit (.bool false)], args := [d1, d2] }
  | _ => none }
def FnPromiseOfAllWrongFalsely : Prop := fnPromiseOfAllRow.holds Try.pinned (OpenSpec.ofChange fnPromiseOfAllWrong)

/- THE SECOND FORM. 'bulk': how many values and letters a reading holds, each counted each time it is reached (what is shared counts as often as it is met; a slice's spare places count too). A statement '..UptoSaid' is the law's where the arguments, and the package variables that the reading takes, are together of bulk at most 1048576: NARROWER than '..Said'. Prove '..Said' where nothing that the law and all that it calls make is longer than what came in: it says more and counts as full. Else prove '..UptoSaid'. A law counts once. -/
mutual
def uptoBulk {H : Type} : DataW H → Nat
  | .lit (.string bytes) => bytes.length + 1
  | .lit _ => 1
  | .nil => 1
  | .ptr d => uptoBulk d + 1
  | .slice elems spare => uptoBulkAll elems + uptoBulkAll spare + 1
  | .agg parts => uptoBulkAll parts + 1
  | .iface _ d => uptoBulk d + 1
  | .map entries => uptoBulkEntries entries + 1
  | .held _ => 1
def uptoBulkAll {H : Type} : List (DataW H) → Nat
  | [] => 0
  | d :: r => uptoBulk d + uptoBulkAll r
def uptoBulkEntries {H : Type} : List (Lit × DataW H) → Nat
  | [] => 0
  | x :: r => uptoBulkEntry x + uptoBulkEntries r
def uptoBulkEntry {H : Type} : Lit × DataW H → Nat
  | (.string bytes, d) => bytes.length + uptoBulk d + 1
  | (_, d) => uptoBulk d + 1
 end
def uptoSmall : (H : Type) → List (DataW H) → Bool := fun _ ds => decide (uptoBulkAll ds ≤ 1048576)
def OpenSpec.upto (s : _root_.Go.ChangeSpec) : _root_.Go.OpenSpec := { _root_.Go.OpenSpec.ofChange s with cond := some uptoSmall }

/-- 'laws.FnExactRunsOf', WHERE WHAT IT READS IS OF BULK AT MOST 1048576: true; the input reads as it did. -/
def fnExactRunsOfUptoRow : OpenClaim := { program := "ythjbdcoklgnnlab", sum := "ccf95021160a9502372d02a04ea660ad9c45ab6c003c680ba20c4e72d1a525c5", func := "loop.example/g01371/laws.FnExactRunsOf", spec := "fnExactRunsOf", unfollowed := true, recurses := true, apart := false, narrowed := true }
def FnExactRunsOfUptoSaid : Prop := fnExactRunsOfUptoRow.holds Try.pinned (OpenSpec.upto fnExactRunsOfSpec)

/-- 'laws.FnExactDoubleWord', WHERE WHAT IT READS IS OF BULK AT MOST 1048576: true; the input reads as it did. -/
def fnExactDoubleWordUptoRow : OpenClaim := { program := "ythjbdcoklgnnlab", sum := "ccf95021160a9502372d02a04ea660ad9c45ab6c003c680ba20c4e72d1a525c5", func := "loop.example/g01371/laws.FnExactDoubleWord", spec := "fnExactDoubleWord", inPlace := ["internal/abi.NoEscape"], apart := false, narrowed := true }
def FnExactDoubleWordUptoSaid : Prop := fnExactDoubleWordUptoRow.holds Try.pinned (OpenSpec.upto fnExactDoubleWordSpec)

/-- 'laws.FnSquareFree', WHERE WHAT IT READS IS OF BULK AT MOST 1048576: true; the input reads as it did. -/
def fnSquareFreeUptoRow : OpenClaim := { program := "ythjbdcoklgnnlab", sum := "ccf95021160a9502372d02a04ea660ad9c45ab6c003c680ba20c4e72d1a525c5", func := "loop.example/g01371/laws.FnSquareFree", spec := "fnSquareFree", inPlace := ["internal/abi.NoEscape"], unfollowed := true, recurses := true, apart := false, narrowed := true }
def FnSquareFreeUptoSaid : Prop := fnSquareFreeUptoRow.holds Try.pinned (OpenSpec.upto fnSquareFreeSpec)

/-- 'laws.FnDoubleWords', WHERE WHAT IT READS IS OF BULK AT MOST 1048576: true; the input reads as it did. -/
def fnDoubleWordsUptoRow : OpenClaim := { program := "ythjbdcoklgnnlab", sum := "ccf95021160a9502372d02a04ea660ad9c45ab6c003c680ba20c4e72d1a525c5", func := "loop.example/g01371/laws.FnDoubleWords", spec := "fnDoubleWords", inPlace := ["internal/abi.NoEscape"], unfollowed := true, recurses := true, apart := false, narrowed := true }
def FnDoubleWordsUptoSaid : Prop := fnDoubleWordsUptoRow.holds Try.pinned (OpenSpec.upto fnDoubleWordsSpec)

/-- 'laws.FnPalindromes', WHERE WHAT IT READS IS OF BULK AT MOST 1048576: true; the input reads as it did. -/
def fnPalindromesUptoRow : OpenClaim := { program := "ythjbdcoklgnnlab", sum := "ccf95021160a9502372d02a04ea660ad9c45ab6c003c680ba20c4e72d1a525c5", func := "loop.example/g01371/laws.FnPalindromes", spec := "fnPalindromes", unfollowed := true, recurses := true, apart := false, narrowed := true }
def FnPalindromesUptoSaid : Prop := fnPalindromesUptoRow.holds Try.pinned (OpenSpec.upto fnPalindromesSpec)

/-- 'laws.FnTop', WHERE WHAT IT READS IS OF BULK AT MOST 1048576: true; the input reads as it did. -/
def fnTopUptoRow : OpenClaim := { program := "ythjbdcoklgnnlab", sum := "ccf95021160a9502372d02a04ea660ad9c45ab6c003c680ba20c4e72d1a525c5", func := "loop.example/g01371/laws.FnTop", spec := "fnTop", inPlace := ["internal/abi.NoEscape", "internal/bytealg.MakeNoZero"], unfollowed := true, recurses := true, apart := false, narrowed := true }
def FnTopUptoSaid : Prop := fnTopUptoRow.holds Try.pinned (OpenSpec.upto fnTopSpec)

/-- 'laws.FnPromiseOfAll', WHERE WHAT IT READS IS OF BULK AT MOST 1048576: true; the input reads as it did. -/
def fnPromiseOfAllUptoRow : OpenClaim := { program := "ythjbdcoklgnnlab", sum := "ccf95021160a9502372d02a04ea660ad9c45ab6c003c680ba20c4e72d1a525c5", func := "loop.example/g01371/laws.FnPromiseOfAll", spec := "fnPromiseOfAll", inPlace := ["internal/abi.NoEscape", "internal/bytealg.MakeNoZero"], unfollowed := true, recurses := true, apart := false, narrowed := true }
def FnPromiseOfAllUptoSaid : Prop := fnPromiseOfAllUptoRow.holds Try.pinned (OpenSpec.upto fnPromiseOfAllSpec)

end Rows
end Go.Proofs.Ythjbdcoklgnnlab
