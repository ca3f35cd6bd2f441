/-
  No cell of these rows narrows 'for every input' (looked for: loops, veiled, ifaces, maps, wideKeys, modest, calm, conditions, laid).
  DERIVED. THE GIVEN ROWS OF THIS SEAT. 10 by the template 'for every input the law returns true; each argument reads behind the call as it read before'; 0 by the template 'total and deterministic' (their statements: YtddfdciohnabbaaTotals.lean).
  GIVEN WITH THE SEED: the statements are not yours to turn. If you find one false, say at which input.
  Laid BY PROGRAM, IN A SANDBOX (cutbox-rows.mjs): the forced cells as the released guide's own fill.sh prints them over the translation c6f53e0042e6f611… (all of the seat's roots in one cut). By AI agents, Wed Nov 11 2026. No macro, syntax, notation, axiom, sorry.
-/
import Derived.Test.YtddfdciohnabbaaChecked
import GoSem.Claim
import GoSem.ClaimJoined
import GoSem.ClaimMapViews
import Derived.JoinedTies
import Derived.KernelRfl
namespace Go.Proofs.Ytddfdciohnabbaa
/- THE CELL 'sum', in the pinned program and in every row, IS THE sha256 OF THE DUMP (.gsa) THAT YtddfdciohnabbaaProg.lean LOADS. Nothing in Lean hashes anything: it is a label: what it is worth is what the hold of that sum in a sandbox is worth. -/
noncomputable def Try.pinned : Pinned := { name := "ytddfdciohnabbaa", sum := "c6f53e0042e6f61129ca4d318f78ed8d591beeea4c440e4740da3e71f886d185", checked := Try.checked }
namespace Rows
def none {H : Type} : Left H := { results := [], args := [] }

/-- 'laws.FnExactWordOfSlope': WHATEVER THE INPUT: true; the input reads as it did. -/
def fnExactWordOfSlopeSpec : ChangeSpec := { name := "fnExactWordOfSlope", fn := fun _ => fun
  | [d1, d2] => { results := [.lit (.bool true)], args := [d1, d2] }
  | _ => none }
def fnExactWordOfSlopeRow : OpenClaim := { program := "ytddfdciohnabbaa", sum := "c6f53e0042e6f61129ca4d318f78ed8d591beeea4c440e4740da3e71f886d185", func := "loop.example/g01371/laws.FnExactWordOfSlope", spec := "fnExactWordOfSlope", inPlace := ["internal/abi.NoEscape"], apart := false }
def FnExactWordOfSlopeSaid : Prop := fnExactWordOfSlopeRow.holds Try.pinned (OpenSpec.ofChange fnExactWordOfSlopeSpec)

/-- ITS FALSE NEIGHBOUR: 'it returns false'. Refute it at one input. -/
def fnExactWordOfSlopeWrong : ChangeSpec := { name := "fnExactWordOfSlope", fn := fun _ => fun
  | [d1, d2] => { results := [.lit (.bool false)], args := [d1, d2] }
  | _ => none }
def FnExactWordOfSlopeWrongFalsely : Prop := fnExactWordOfSlopeRow.holds Try.pinned (OpenSpec.ofChange fnExactWordOfSlopeWrong)

/-- 'laws.FnExactSlopeOfWord': WHATEVER THE INPUT: true; the input reads as it did. -/
def fnExactSlopeOfWordSpec : ChangeSpec := { name := "fnExactSlopeOfWord", fn := fun _ => fun
  | [d] => { results := [.lit (.bool true)], args := [d] }
  | _ => none }
def fnExactSlopeOfWordRow : OpenClaim := { program := "ytddfdciohnabbaa", sum := "c6f53e0042e6f61129ca4d318f78ed8d591beeea4c440e4740da3e71f886d185", func := "loop.example/g01371/laws.FnExactSlopeOfWord", spec := "fnExactSlopeOfWord", inPlace := ["internal/bytealg.CountString", "internal/bytealg.IndexByteString", "internal/bytealg.IndexString", "internal/abi.NoEscape"], named := ["internal/bytealg.MaxLen"], apart := false }
def FnExactSlopeOfWordSaid : Prop := fnExactSlopeOfWordRow.holds Try.pinned (OpenSpec.ofChange fnExactSlopeOfWordSpec)

/-- ITS FALSE NEIGHBOUR: 'it returns false'. Refute it at one input. -/
def fnExactSlopeOfWordWrong : ChangeSpec := { name := "fnExactSlopeOfWord", fn := fun _ => fun
  | [d] => { results := [.lit (.bool false)], args := [d] }
  | _ => none }
def FnExactSlopeOfWordWrongFalsely : Prop := fnExactSlopeOfWordRow.holds Try.pinned (OpenSpec.ofChange fnExactSlopeOfWordWrong)

/-- 'laws.FnExactStandardWord': WHATEVER THE INPUT: true; the input reads as it did. -/
def fnExactStandardWordSpec : ChangeSpec := { name := "fnExactStandardWord", fn := fun _ => fun
  | [d] => { results := [.lit (.bool true)], args := [d] }
  | _ => none }
def fnExactStandardWordRow : OpenClaim := { program := "ytddfdciohnabbaa", sum := "c6f53e0042e6f61129ca4d318f78ed8d591beeea4c440e4740da3e71f886d185", func := "loop.example/g01371/laws.FnExactStandardWord", spec := "fnExactStandardWord", inPlace := ["internal/abi.NoEscape", "internal/bytealg.MakeNoZero"], apart := false }
def FnExactStandardWordSaid : Prop := fnExactStandardWordRow.holds Try.pinned (OpenSpec.ofChange fnExactStandardWordSpec)

/-- ITS FALSE NEIGHBOUR: 'it returns false'. Refute it at one input. -/
def fnExactStandardWordWrong : ChangeSpec := { name := "fnExactStandardWord", fn := fun _ => fun
  | [d] => { results := [.lit (.bool false)], args := [d] }
  | _ => none }
def FnExactStandardWordWrongFalsely : Prop := fnExactStandardWordRow.holds Try.pinned (OpenSpec.ofChange fnExactStandardWordWrong)

/-- 'laws.FnExactListOfStandard': WHATEVER THE INPUT: true; the input reads as it did. -/
def fnExactListOfStandardSpec : ChangeSpec := { name := "fnExactListOfStandard", fn := fun _ => fun
  | [d] => { results := [.lit (.bool true)], args := [d] }
  | _ => none }
def fnExactListOfStandardRow : OpenClaim := { program := "ytddfdciohnabbaa", sum := "c6f53e0042e6f61129ca4d318f78ed8d591beeea4c440e4740da3e71f886d185", func := "loop.example/g01371/laws.FnExactListOfStandard", spec := "fnExactListOfStandard", inPlace := ["internal/abi.NoEscape", "internal/bytealg.MakeNoZero"], unfollowed := true, recurses := true, leaving := true, apart := false }
def FnExactListOfStandardSaid : Prop := fnExactListOfStandardRow.holds Try.pinned (OpenSpec.ofChange fnExactListOfStandardSpec)

/-- ITS FALSE NEIGHBOUR: 'it returns false'. Refute it at one input. -/
def fnExactListOfStandardWrong : ChangeSpec := { name := "fnExactListOfStandard", fn := fun _ => fun
  | [d] => { results := [.lit (.bool false)], args := [d] }
  | _ => none }
def FnExactListOfStandardWrongFalsely : Prop := fnExactListOfStandardRow.holds Try.pinned (OpenSpec.ofChange fnExactListOfStandardWrong)

/-- 'laws.FnExactCountBalanced': WHATEVER THE INPUT: true; the input reads as it did. -/
def fnExactCountBalancedSpec : ChangeSpec := { name := "fnExactCountBalanced", fn := fun _ => fun
  | [d] => { results := [.lit (.bool true)], args := [d] }
  | _ => none }
def fnExactCountBalancedRow : OpenClaim := { program := "ytddfdciohnabbaa", sum := "c6f53e0042e6f61129ca4d318f78ed8d591beeea4c440e4740da3e71f886d185", func := "loop.example/g01371/laws.FnExactCountBalanced", spec := "fnExactCountBalanced", inPlace := ["(*sync.WaitGroup).Add", "internal/race.ReleaseMerge", "internal/race.Disable", "internal/race.Enable", "internal/synctest.IsInBubble", "internal/synctest.Associate[sync.WaitGroup]", "sync.fatal", "sync/atomic.OrUint64", "sync/atomic.AddUint64", "internal/race.Read", "sync/atomic.LoadUint64", "sync/atomic.StoreUint64", "internal/synctest.Disassociate[sync.WaitGroup]", "sync.runtime_Semrelease", "(*sync.WaitGroup).Done", "(*sync.WaitGroup).Wait", "internal/race.Acquire", "internal/synctest.IsAssociated[sync.WaitGroup]", "sync/atomic.CompareAndSwapUint64", "internal/race.Write", "sync.runtime_SemacquireWaitGroup"], unfollowed := true, recurses := true, leaving := true, apart := false }
def FnExactCountBalancedSaid : Prop := fnExactCountBalancedRow.holds Try.pinned (OpenSpec.ofChange fnExactCountBalancedSpec)

/-- ITS FALSE NEIGHBOUR: 'it returns false'. Refute it at one input. -/
def fnExactCountBalancedWrong : ChangeSpec := { name := "fnExactCountBalanced", fn := fun _ => fun
  | [d] => { results := [.lit (.bool false)], args := [d] }
  | _ => none }
def FnExactCountBalancedWrongFalsely : Prop := fnExactCountBalancedRow.holds Try.pinned (OpenSpec.ofChange fnExactCountBalancedWrong)

/-- 'laws.FnExactBalancedWords': WHATEVER THE INPUT: true; the input reads as it did. -/
def fnExactBalancedWordsSpec : ChangeSpec := { name := "fnExactBalancedWords", fn := fun _ => fun
  | [d] => { results := [.lit (.bool true)], args := [d] }
  | _ => none }
def fnExactBalancedWordsRow : OpenClaim := { program := "ytddfdciohnabbaa", sum := "c6f53e0042e6f61129ca4d318f78ed8d591beeea4c440e4740da3e71f886d185", func := "loop.example/g01371/laws.FnExactBalancedWords", spec := "fnExactBalancedWords", inPlace := ["(*sync.WaitGroup).Add", "internal/race.ReleaseMerge", "internal/race.Disable", "internal/race.Enable", "internal/synctest.IsInBubble", "internal/synctest.Associate[sync.WaitGroup]", "sync.fatal", "sync/atomic.OrUint64", "sync/atomic.AddUint64", "internal/race.Read", "sync/atomic.LoadUint64", "sync/atomic.StoreUint64", "internal/synctest.Disassociate[sync.WaitGroup]", "sync.runtime_Semrelease", "(*sync.WaitGroup).Done", "(*sync.WaitGroup).Wait", "internal/race.Acquire", "internal/synctest.IsAssociated[sync.WaitGroup]", "sync/atomic.CompareAndSwapUint64", "internal/race.Write", "sync.runtime_SemacquireWaitGroup"], unfollowed := true, recurses := true, leaving := true, apart := false }
def FnExactBalancedWordsSaid : Prop := fnExactBalancedWordsRow.holds Try.pinned (OpenSpec.ofChange fnExactBalancedWordsSpec)

/-- ITS FALSE NEIGHBOUR: 'it returns false'. Refute it at one input. -/
def fnExactBalancedWordsWrong : ChangeSpec := { name := "fnExactBalancedWords", fn := fun _ => fun
  | [d] => { results := [.lit (.bool false)], args := [d] }
  | _ => none }
def FnExactBalancedWordsWrongFalsely : Prop := fnExactBalancedWordsRow.holds Try.pinned (OpenSpec.ofChange fnExactBalancedWordsWrong)

/-- 'laws.FnExactCentralWord': WHATEVER THE INPUT: true; the input reads as it did. -/
def fnExactCentralWordSpec : ChangeSpec := { name := "fnExactCentralWord", fn := fun _ => fun
  | [d1, d2] => { results := [.lit (.bool true)], args := [d1, d2] }
  | _ => none }
def fnExactCentralWordRow : OpenClaim := { program := "ytddfdciohnabbaa", sum := "c6f53e0042e6f61129ca4d318f78ed8d591beeea4c440e4740da3e71f886d185", func := "loop.example/g01371/laws.FnExactCentralWord", spec := "fnExactCentralWord", inPlace := ["internal/abi.NoEscape"], apart := false }
def FnExactCentralWordSaid : Prop := fnExactCentralWordRow.holds Try.pinned (OpenSpec.ofChange fnExactCentralWordSpec)

/-- ITS FALSE NEIGHBOUR: 'it returns false'. Refute it at one input. -/
def fnExactCentralWordWrong : ChangeSpec := { name := "fnExactCentralWord", fn := fun _ => fun
  | [d1, d2] => { results := [.lit (.bool false)], args := [d1, d2] }
  | _ => none }
def FnExactCentralWordWrongFalsely : Prop := fnExactCentralWordRow.holds Try.pinned (OpenSpec.ofChange fnExactCentralWordWrong)

/-- 'laws.FnExactSteppedWord': WHATEVER THE INPUT: true; the input reads as it did. -/
def fnExactSteppedWordSpec : ChangeSpec := { name := "fnExactSteppedWord", fn := fun _ => fun
  | [d1, d2, d3, d4] => { results := [.lit (.bool true)], args := [d1, d2, d3, d4] }
  | _ => none }
def fnExactSteppedWordRow : OpenClaim := { program := "ytddfdciohnabbaa", sum := "c6f53e0042e6f61129ca4d318f78ed8d591beeea4c440e4740da3e71f886d185", func := "loop.example/g01371/laws.FnExactSteppedWord", spec := "fnExactSteppedWord", inPlace := ["internal/abi.NoEscape"], apart := false }
def FnExactSteppedWordSaid : Prop := fnExactSteppedWordRow.holds Try.pinned (OpenSpec.ofChange fnExactSteppedWordSpec)

/-- ITS FALSE NEIGHBOUR: 'it returns false'. Refute it at one input. -/
def fnExactSteppedWordWrong : ChangeSpec := { name := "fnExactSteppedWord", fn := fun _ => fun
  | [d1, d2, d3, d4] => { results := [.lit (.bool false)], args := [d1, d2, d3, d4] }
  | _ => none }
def FnExactSteppedWordWrongFalsely : Prop := fnExactSteppedWordRow.holds Try.pinned (OpenSpec.ofChange fnExactSteppedWordWrong)

/-- 'laws.FnExactPathOf': WHATEVER THE INPUT: true; the input reads as it did. -/
def fnExactPathOfSpec : ChangeSpec := { name := "fnExactPathOf", fn := fun _ => fun
  | [d1, d2] => { results := [.lit (.bool true)], args := [d1, d2] }
  | _ => none }
def fnExactPathOfRow : OpenClaim := { program := "ytddfdciohnabbaa", sum := "c6f53e0042e6f61129ca4d318f78ed8d591beeea4c440e4740da3e71f886d185", func := "loop.example/g01371/laws.FnExactPathOf", spec := "fnExactPathOf", inPlace := ["internal/abi.NoEscape"], apart := false }
def FnExactPathOfSaid : Prop := fnExactPathOfRow.holds Try.pinned (OpenSpec.ofChange fnExactPathOfSpec)

/-- ITS FALSE NEIGHBOUR: 'it returns false'. Refute it at one input. -/
def fnExactPathOfWrong : ChangeSpec := { name := "fnExactPathOf", fn := fun _ => fun
  | [d1, d2] => { results := [.lit (.bool false)], args := [d1, d2] }
  | _ => none }
def FnExactPathOfWrongFalsely : Prop := fnExactPathOfRow.holds Try.pinned (OpenSpec.ofChange fnExactPathOfWrong)

/-- 'laws.FnExactCutOf': WHATEVER THE INPUT: true; the input reads as it did. -/
def fnExactCutOfSpec : ChangeSpec := { name := "fnExactCutOf", fn := fun _ => fun
  | [d] => { results := [.lit (.bool true)], args := [d] }
  | _ => none }
def fnExactCutOfRow : OpenClaim := { program := "ytddfdciohnabbaa", sum := "c6f53e0042e6f61129ca4d318f78ed8d591beeea4c440e4740da3e71f886d185", func := "loop.example/g01371/laws.FnExactCutOf", spec := "fnExactCutOf", inPlace := ["internal/bytealg.CountString", "internal/bytealg.IndexByteString", "internal/bytealg.IndexString", "internal/abi.NoEscape"], named := ["internal/bytealg.MaxLen"], apart := false }
def FnExactCutOfSaid : Prop := fnExactCutOfRow.holds Try.pinned (OpenSpec.ofChange fnExactCutOfSpec)

/-- ITS FALSE NEIGHBOUR: 'it returns false'. Refute it at one input. -/
def fnExactCutOfWrong : ChangeSpec := { name := "fnExactCutOf", fn := fun _ => fun
  | [d] => { results := [.lit (.bool false)], args := [d] }
  | _ => none }
def FnExactCutOfWrongFalsely : Prop := fnExactCutOfRow.holds Try.pinned (OpenSpec.ofChange fnExactCutOfWrong)

/- THE SECOND FORM. 'bulk': how many values and letters a reading holds, each counted each time it is reached (what is shared counts as often as it is met; a slice's spare places count too). A statement '..UptoSaid' is the law's where the arguments, and the package variables that the reading takes, are together of bulk at most 1048576: NARROWER than '..Said'. Prove '..Said' where nothing that the law and all that it calls make is longer than what came in: it says more and counts as full. Else prove '..UptoSaid'. A law counts once. -/
mutual
def uptoBulk {H : Type} : DataW H → Nat
  | .lit (.string bytes) => bytes.length + 1
  | .lit _ => 1
  | .nil => 1
  | .ptr d => uptoBulk d + 1
  | .slice elems spare => uptoBulkAll elems + uptoBulkAll spare + 1
  | .agg parts => uptoBulkAll parts + 1
  | .iface _ d => uptoBulk d + 1
  | .map entries => uptoBulkEntries entries + 1
  | .held _ => 1
def uptoBulkAll {H : Type} : List (DataW H) → Nat
  | [] => 0
  | d :: r => uptoBulk d + uptoBulkAll r
def uptoBulkEntries {H : Type} : List (Lit × DataW H) → Nat
  | [] => 0
  | x :: r => uptoBulkEntry x + uptoBulkEntries r
def uptoBulkEntry {H : Type} : Lit × DataW H → Nat
  | (.string bytes, d) => bytes.length + uptoBulk d + 1
  | (_, d) => uptoBulk d + 1
 end
def uptoSmall : (H : Type) → List (DataW H) → Bool := fun _ ds => decide (uptoBulkAll ds ≤ 1048576)
def OpenSpec.upto (s : _root_.Go.ChangeSpec) : _root_.Go.OpenSpec := { _root_.Go.OpenSpec.ofChange s with cond := some uptoSmall }

/-- 'laws.FnExactWordOfSlope', WHERE WHAT IT READS IS OF BULK AT MOST 1048576: true; the input reads as it did. -/
def fnExactWordOfSlopeUptoRow : OpenClaim := { program := "ytddfdciohnabbaa", sum := "c6f53e0042e6f61129ca4d318f78ed8d591beeea4c440e4740da3e71f886d185", func := "loop.example/g01371/laws.FnExactWordOfSlope", spec := "fnExactWordOfSlope", inPlace := ["internal/abi.NoEscape"], apart := false, narrowed := true }
def FnExactWordOfSlopeUptoSaid : Prop := fnExactWordOfSlopeUptoRow.holds Try.pinned (OpenSpec.upto fnExactWordOfSlopeSpec)

/-- 'laws.FnExactSlopeOfWord', WHERE WHAT IT READS IS OF BULK AT MOST 1048576: true; the input reads as it did. -/
def fnExactSlopeOfWordUptoRow : OpenClaim := { program := "ytddfdciohnabbaa", sum := "c6f53e0042e6f61129ca4d318f78ed8d591beeea4c440e4740da3e71f886d185", func := "loop.example/g01371/laws.FnExactSlopeOfWord", spec := "fnExactSlopeOfWord", inPlace := ["internal/bytealg.CountString", "internal/bytealg.IndexByteString", "internal/bytealg.IndexString", "internal/abi.NoEscape"], named := ["internal/bytealg.MaxLen"], apart := false, narrowed := true }
def FnExactSlopeOfWordUptoSaid : Prop := fnExactSlopeOfWordUptoRow.holds Try.pinned (OpenSpec.upto fnExactSlopeOfWordSpec)

/-- 'laws.FnExactStandardWord', WHERE WHAT IT READS IS OF BULK AT MOST 1048576: true; the input reads as it did. -/
def fnExactStandardWordUptoRow : OpenClaim := { program := "ytddfdciohnabbaa", sum := "c6f53e0042e6f61129ca4d318f78ed8d591beeea4c440e4740da3e71f886d185", func := "loop.example/g01371/laws.FnExactStandardWord", spec := "fnExactStandardWord", inPlace := ["internal/abi.NoEscape", "internal/bytealg.MakeNoZero"], apart := false, narrowed := true }
def FnExactStandardWordUptoSaid : Prop := fnExactStandardWordUptoRow.holds Try.pinned (OpenSpec.upto fnExactStandardWordSpec)

/-- 'laws.FnExactListOfStandard', WHERE WHAT IT READS IS OF BULK AT MOST 1048576: true; the input reads as it did. -/
def fnExactListOfStandardUptoRow : OpenClaim := { program := "ytddfdciohnabbaa", sum := "c6f53e0042e6f61129ca4d318f78ed8d591beeea4c440e4740da3e71f886d185", func := "loop.example/g01371/laws.FnExactListOfStandard", spec := "fnExactListOfStandard", inPlace := ["internal/abi.NoEscape", "internal/bytealg.MakeNoZero"], unfollowed := true, recurses := true, leaving := true, apart := false, narrowed := true }
def FnExactListOfStandardUptoSaid : Prop := fnExactListOfStandardUptoRow.holds Try.pinned (OpenSpec.upto fnExactListOfStandardSpec)

/-- 'laws.FnExactCountBalanced', WHERE WHAT IT READS IS OF BULK AT MOST 1048576: true; the input reads as it did. -/
def fnExactCountBalancedUptoRow : OpenClaim := { program := "ytddfdciohnabbaa", sum := "c6f53e0042e6f61129ca4d318f78ed8d591beeea4c440e4740da3e71f886d185", func := "loop.example/g01371/laws.FnExactCountBalanced", spec := "fnExactCountBalanced", inPlace := ["(*sync.WaitGroup).Add", "internal/race.ReleaseMerge", "internal/race.Disable", "internal/race.Enable", "internal/synctest.IsInBubble", "internal/synctest.Associate[sync.WaitGroup]", "sync.fatal", "sync/atomic.OrUint64", "sync/atomic.AddUint64", "internal/race.Read", "sync/atomic.LoadUint64", "sync/atomic.StoreUint64", "internal/synctest.Disassociate[sync.WaitGroup]", "sync.runtime_Semrelease", "(*sync.WaitGroup).Done", "(*sync.WaitGroup).Wait", "internal/race.Acquire", "internal/synctest.IsAssociated[sync.WaitGroup]", "sync/atomic.CompareAndSwapUint64", "internal/race.Write", "sync.runtime_SemacquireWaitGroup"], unfollowed := true, recurses := true, leaving := true, apart := false, narrowed := true }
def FnExactCountBalancedUptoSaid : Prop := fnExactCountBalancedUptoRow.holds Try.pinned (OpenSpec.upto fnExactCountBalancedSpec)

/-- 'laws.FnExactBalancedWords', WHERE WHAT IT READS IS OF BULK AT MOST 1048576: true; the input reads as it did. -/
def fnExactBalancedWordsUptoRow : OpenClaim := { program := "ytddfdciohnabbaa", sum := "c6f53e0042e6f61129ca4d318f78ed8d591beeea4c440e4740da3e71f886d185", func := "loop.example/g01371/laws.FnExactBalancedWords", spec := "fnExactBalancedWords", inPlace := ["(*sync.WaitGroup).Add", "internal/race.ReleaseMerge", "internal/race.Disable", "internal/race.Enable", "internal/synctest.IsInBubble", "internal/synctest.Associate[sync.WaitGroup]", "sync.fatal", "sync/atomic.OrUint64", "sync/atomic.AddUint64", "internal/race.Read", "sync/atomic.LoadUint64", "sync/atomic.StoreUint64", "internal/synctest.Disassociate[sync.WaitGroup]", "sync.runtime_Semrelease", "(*sync.WaitGroup).Done", "(*sync.WaitGroup).Wait", "internal/race.Acquire", "internal/synctest.IsAssociated[sync.WaitGroup]", "sync/atomic.CompareAndSwapUint64", "internal/race.Write", "sync.runtime_SemacquireWaitGroup"], unfollowed := true, recurses := true, leaving := true, apart := false, narrowed := true }
def FnExactBalancedWordsUptoSaid : Prop := fnExactBalancedWordsUptoRow.holds Try.pinned (OpenSpec.upto fnExactBalancedWordsSpec)

/-- 'laws.FnExactCentralWord', WHERE WHAT IT READS IS OF BULK AT MOST 1048576: true; the input reads as it did. -/
def fnExactCentralWordUptoRow : OpenClaim := { program := "ytddfdciohnabbaa", sum := "c6f53e0042e6f61129ca4d318f78ed8d591beeea4c440e4740da3e71f886d185", func := "loop.example/g01371/laws.FnExactCentralWord", spec := "fnExactCentralWord", inPlace := ["internal/abi.NoEscape"], apart := false, narrowed := true }
def FnExactCentralWordUptoSaid : Prop := fnExactCentralWordUptoRow.holds Try.pinned (OpenSpec.upto fnExactCentralWordSpec)

/-- 'laws.FnExactSteppedWord', WHERE WHAT IT READS IS OF BULK AT MOST 1048576: true; the input reads as it did. -/
def fnExactSteppedWordUptoRow : OpenClaim := { program := "ytddfdciohnabbaa", sum := "c6f53e0042e6f61129ca4d318f78ed8d591beeea4c440e4740da3e71f886d185", func := "loop.example/g01371/laws.FnExactSteppedWord", spec := "fnExactSteppedWord", inPlace := ["internal/abi.NoEscape"], apart := false, narrowed := true }
def FnExactSteppedWordUptoSaid : Prop := fnExactSteppedWordUptoRow.holds Try.pinned (OpenSpec.upto fnExactSteppedWordSpec)

/-- 'laws.FnExactPathOf', WHERE WHAT IT READS IS OF BULK AT MOST 1048576: true; the input reads as it did. -/
def fnExactPathOfUptoRow : OpenClaim := { program := "ytddfdciohnabbaa", sum := "c6f53e0042e6f61129ca4d318f78ed8d591beeea4c440e4740da3e71f886d185", func := "loop.example/g01371/laws.FnExactPathOf", spec := "fnExactPathOf", inPlace := ["internal/abi.NoEscape"], apart := false, narrowed := true }
def FnExactPathOfUptoSaid : Prop := fnExactPathOfUptoRow.holds Try.pinned (OpenSpec.upto fnExactPathOfSpec)

/-- 'laws.FnExactCutOf', WHERE WHAT IT READS IS OF BULK AT MOST 1048576: true; the input reads as it did. -/
def fnExactCutOfUptoRow : OpenClaim := { program := "ytddfdciohnabbaa", sum := "c6f53e0042e6f61129ca4d318f78ed8d591beeea4c440e4740da3e71f886d185", func := "loop.example/g01371/laws.FnExactCutOf", spec := "fnExactCutOf", inPlace := ["internal/bytealg.CountString", "internal/bytealg.IndexByteString", "internal/bytealg.IndexString", "internal/abi.NoEscape"], named := ["internal/bytealg.MaxLen"], apart := false, narrowed := true }
def FnExactCutOfUptoSaid : Prop := fnExactCutOfUptoRow.holds Try.pinned (OpenSpec.upto fnExactCutOfSpec)

end Rows
end Go.Proofs.Ytddfdciohnabbaa
