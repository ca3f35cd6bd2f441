/-
  No cell of these rows narrows 'for every input' (looked for: loops, veiled, ifaces, maps, wideKeys, modest, calm, conditions, laid).
  DERIVED. THE GIVEN ROWS OF THIS SEAT. 12 by the template 'for every input the law returns true; each argument reads behind the call as it read before'; 0 by the template 'total and deterministic' (their statements: YtolboinemechpaaTotals.lean).
  GIVEN WITH THE SEED: the statements are not yours to turn. If you find one false, say at which input.
  Laid BY PROGRAM, IN A SANDBOX (cutbox-rows.mjs): the forced cells as the released guide's own fill.sh prints them over the translation 4b3a8c411f80e2b9… (all of the seat's roots in one cut). By AI agents, Wed Nov 11 2026. No macro, syntax, notation, axiom, sorry.
-/
import Derived.Test.YtolboinemechpaaChecked
import GoSem.Claim
import GoSem.ClaimJoined
import GoSem.ClaimMapViews
import Derived.JoinedTies
import Derived.KernelRfl
namespace Go.Proofs.Ytolboinemechpaa
/- THE CELL 'sum', in the pinned program and in every row, IS THE sha256 OF THE DUMP (.gsa) THAT YtolboinemechpaaProg.lean LOADS. Nothing in Lean hashes anything: it is a label: what it is worth is what the hold of that sum in a sandbox is worth. -/
noncomputable def Try.pinned : Pinned := { name := "ytolboinemechpaa", sum := "4b3a8c411f80e2b9cd54a4816d0bf462d992389877d2d3462e8d3a3355be3f7a", checked := Try.checked }
namespace Rows
def none {H : Type} : Left H := { results := [], args := [] }

/-- 'laws.FnExactAreAlike': WHATEVER THE INPUT: true; the input reads as it did. -/
def fnExactAreAlikeSpec : ChangeSpec := { name := "fnExactAreAlike", fn := fun _ => fun
  | [d1, d2] => { results := [.lit (.bool true)], args := [d1, d2] }
  | _ => none }
def fnExactAreAlikeRow : OpenClaim := { program := "ytolboinemechpaa", sum := "4b3a8c411f80e2b9cd54a4816d0bf462d992389877d2d3462e8d3a3355be3f7a", func := "loop.example/g01371/laws.FnExactAreAlike", spec := "fnExactAreAlike", plainKeys := false, apart := false }
def FnExactAreAlikeSaid : Prop := fnExactAreAlikeRow.holds Try.pinned (OpenSpec.ofChange fnExactAreAlikeSpec)

/-- ITS FALSE NEIGHBOUR: 'it returns false'. Refute it at one input. -/
def fnExactAreAlikeWrong : ChangeSpec := { name := "fnExactAreAlike", fn := fun _ => fun
  | [d1, d2] => { results := [.lit (.bool false)], args := [d1, d2] }
  | _ => none }
def FnExactAreAlikeWrongFalsely : Prop := fnExactAreAlikeRow.holds Try.pinned (OpenSpec.ofChange fnExactAreAlikeWrong)

/-- 'laws.FnExactSortedWord': WHATEVER THE INPUT: true; the input reads as it did. -/
def fnExactSortedWordSpec : ChangeSpec := { name := "fnExactSortedWord", fn := fun _ => fun
  | [d] => { results := [.lit (.bool true)], args := [d] }
  | _ => none }
def fnExactSortedWordRow : OpenClaim := { program := "ytolboinemechpaa", sum := "4b3a8c411f80e2b9cd54a4816d0bf462d992389877d2d3462e8d3a3355be3f7a", func := "loop.example/g01371/laws.FnExactSortedWord", spec := "fnExactSortedWord", inPlace := ["internal/abi.NoEscape"], recurses := true, plainKeys := false, apart := false }
def FnExactSortedWordSaid : Prop := fnExactSortedWordRow.holds Try.pinned (OpenSpec.ofChange fnExactSortedWordSpec)

/-- ITS FALSE NEIGHBOUR: 'it returns false'. Refute it at one input. -/
def fnExactSortedWordWrong : ChangeSpec := { name := "fnExactSortedWord", fn := fun _ => fun
  | [d] => { results := [.lit (.bool false)], args := [d] }
  | _ => none }
def FnExactSortedWordWrongFalsely : Prop := fnExactSortedWordRow.holds Try.pinned (OpenSpec.ofChange fnExactSortedWordWrong)

/-- 'laws.FnExactCountAlike': WHATEVER THE INPUT: true; the input reads as it did. -/
def fnExactCountAlikeSpec : ChangeSpec := { name := "fnExactCountAlike", fn := fun _ => fun
  | [d] => { results := [.lit (.bool true)], args := [d] }
  | _ => none }
def fnExactCountAlikeRow : OpenClaim := { program := "ytolboinemechpaa", sum := "4b3a8c411f80e2b9cd54a4816d0bf462d992389877d2d3462e8d3a3355be3f7a", func := "loop.example/g01371/laws.FnExactCountAlike", spec := "fnExactCountAlike", plainKeys := false, apart := false }
def FnExactCountAlikeSaid : Prop := fnExactCountAlikeRow.holds Try.pinned (OpenSpec.ofChange fnExactCountAlikeSpec)

/-- ITS FALSE NEIGHBOUR: 'it returns false'. Refute it at one input. -/
def fnExactCountAlikeWrong : ChangeSpec := { name := "fnExactCountAlike", fn := fun _ => fun
  | [d] => { results := [.lit (.bool false)], args := [d] }
  | _ => none }
def FnExactCountAlikeWrongFalsely : Prop := fnExactCountAlikeRow.holds Try.pinned (OpenSpec.ofChange fnExactCountAlikeWrong)

/-- 'laws.FnExactWordsWith': WHATEVER THE INPUT: true; the input reads as it did. -/
def fnExactWordsWithSpec : ChangeSpec := { name := "fnExactWordsWith", fn := fun _ => fun
  | [d] => { results := [.lit (.bool true)], args := [d] }
  | _ => none }
def fnExactWordsWithRow : OpenClaim := { program := "ytolboinemechpaa", sum := "4b3a8c411f80e2b9cd54a4816d0bf462d992389877d2d3462e8d3a3355be3f7a", func := "loop.example/g01371/laws.FnExactWordsWith", spec := "fnExactWordsWith", recurses := true, plainKeys := false, apart := false }
def FnExactWordsWithSaid : Prop := fnExactWordsWithRow.holds Try.pinned (OpenSpec.ofChange fnExactWordsWithSpec)

/-- ITS FALSE NEIGHBOUR: 'it returns false'. Refute it at one input. -/
def fnExactWordsWithWrong : ChangeSpec := { name := "fnExactWordsWith", fn := fun _ => fun
  | [d] => { results := [.lit (.bool false)], args := [d] }
  | _ => none }
def FnExactWordsWithWrongFalsely : Prop := fnExactWordsWithRow.holds Try.pinned (OpenSpec.ofChange fnExactWordsWithWrong)

/-- 'laws.FnExactAbelianSquares': WHATEVER THE INPUT: true; the input reads as it did. -/
def fnExactAbelianSquaresSpec : ChangeSpec := { name := "fnExactAbelianSquares", fn := fun _ => fun
  | [d] => { results := [.lit (.bool true)], args := [d] }
  | _ => none }
def fnExactAbelianSquaresRow : OpenClaim := { program := "ytolboinemechpaa", sum := "4b3a8c411f80e2b9cd54a4816d0bf462d992389877d2d3462e8d3a3355be3f7a", func := "loop.example/g01371/laws.FnExactAbelianSquares", spec := "fnExactAbelianSquares", unfollowed := true, recurses := true, plainKeys := false, leaving := true, apart := false }
def FnExactAbelianSquaresSaid : Prop := fnExactAbelianSquaresRow.holds Try.pinned (OpenSpec.ofChange fnExactAbelianSquaresSpec)

/-- ITS FALSE NEIGHBOUR: 'it returns false'. Refute it at one input. -/
def fnExactAbelianSquaresWrong : ChangeSpec := { name := "fnExactAbelianSquares", fn := fun _ => fun
  | [d] => { results := [.lit (.bool false)], args := [d] }
  | _ => none }
def FnExactAbelianSquaresWrongFalsely : Prop := fnExactAbelianSquaresRow.holds Try.pinned (OpenSpec.ofChange fnExactAbelianSquaresWrong)

/-- 'laws.FnExactAbelianPowers': WHATEVER THE INPUT: true; the input reads as it did. -/
def fnExactAbelianPowersSpec : ChangeSpec := { name := "fnExactAbelianPowers", fn := fun _ => fun
  | [d1, d2] => { results := [.lit (.bool true)], args := [d1, d2] }
  | _ => none }
def fnExactAbelianPowersRow : OpenClaim := { program := "ytolboinemechpaa", sum := "4b3a8c411f80e2b9cd54a4816d0bf462d992389877d2d3462e8d3a3355be3f7a", func := "loop.example/g01371/laws.FnExactAbelianPowers", spec := "fnExactAbelianPowers", unfollowed := true, recurses := true, plainKeys := false, leaving := true, apart := false }
def FnExactAbelianPowersSaid : Prop := fnExactAbelianPowersRow.holds Try.pinned (OpenSpec.ofChange fnExactAbelianPowersSpec)

/-- ITS FALSE NEIGHBOUR: 'it returns false'. Refute it at one input. -/
def fnExactAbelianPowersWrong : ChangeSpec := { name := "fnExactAbelianPowers", fn := fun _ => fun
  | [d1, d2] => { results := [.lit (.bool false)], args := [d1, d2] }
  | _ => none }
def FnExactAbelianPowersWrongFalsely : Prop := fnExactAbelianPowersRow.holds Try.pinned (OpenSpec.ofChange fnExactAbelianPowersWrong)

/-- 'laws.FnExactIsAbelianFree': WHATEVER THE INPUT: true; the input reads as it did. -/
def fnExactIsAbelianFreeSpec : ChangeSpec := { name := "fnExactIsAbelianFree", fn := fun _ => fun
  | [d1, d2] => { results := [.lit (.bool true)], args := [d1, d2] }
  | _ => none }
def fnExactIsAbelianFreeRow : OpenClaim := { program := "ytolboinemechpaa", sum := "4b3a8c411f80e2b9cd54a4816d0bf462d992389877d2d3462e8d3a3355be3f7a", func := "loop.example/g01371/laws.FnExactIsAbelianFree", spec := "fnExactIsAbelianFree", unfollowed := true, recurses := true, plainKeys := false, leaving := true, apart := false }
def FnExactIsAbelianFreeSaid : Prop := fnExactIsAbelianFreeRow.holds Try.pinned (OpenSpec.ofChange fnExactIsAbelianFreeSpec)

/-- ITS FALSE NEIGHBOUR: 'it returns false'. Refute it at one input. -/
def fnExactIsAbelianFreeWrong : ChangeSpec := { name := "fnExactIsAbelianFree", fn := fun _ => fun
  | [d1, d2] => { results := [.lit (.bool false)], args := [d1, d2] }
  | _ => none }
def FnExactIsAbelianFreeWrongFalsely : Prop := fnExactIsAbelianFreeRow.holds Try.pinned (OpenSpec.ofChange fnExactIsAbelianFreeWrong)

/-- 'laws.FnExactAbelianPeriods': WHATEVER THE INPUT: true; the input reads as it did. -/
def fnExactAbelianPeriodsSpec : ChangeSpec := { name := "fnExactAbelianPeriods", fn := fun _ => fun
  | [d] => { results := [.lit (.bool true)], args := [d] }
  | _ => none }
def fnExactAbelianPeriodsRow : OpenClaim := { program := "ytolboinemechpaa", sum := "4b3a8c411f80e2b9cd54a4816d0bf462d992389877d2d3462e8d3a3355be3f7a", func := "loop.example/g01371/laws.FnExactAbelianPeriods", spec := "fnExactAbelianPeriods", plainKeys := false, apart := false }
def FnExactAbelianPeriodsSaid : Prop := fnExactAbelianPeriodsRow.holds Try.pinned (OpenSpec.ofChange fnExactAbelianPeriodsSpec)

/-- ITS FALSE NEIGHBOUR: 'it returns false'. Refute it at one input. -/
def fnExactAbelianPeriodsWrong : ChangeSpec := { name := "fnExactAbelianPeriods", fn := fun _ => fun
  | [d] => { results := [.lit (.bool false)], args := [d] }
  | _ => none }
def FnExactAbelianPeriodsWrongFalsely : Prop := fnExactAbelianPeriodsRow.holds Try.pinned (OpenSpec.ofChange fnExactAbelianPeriodsWrong)

/-- 'laws.FnExactAbelianComplexity': WHATEVER THE INPUT: true; the input reads as it did. -/
def fnExactAbelianComplexitySpec : ChangeSpec := { name := "fnExactAbelianComplexity", fn := fun _ => fun
  | [d] => { results := [.lit (.bool true)], args := [d] }
  | _ => none }
def fnExactAbelianComplexityRow : OpenClaim := { program := "ytolboinemechpaa", sum := "4b3a8c411f80e2b9cd54a4816d0bf462d992389877d2d3462e8d3a3355be3f7a", func := "loop.example/g01371/laws.FnExactAbelianComplexity", spec := "fnExactAbelianComplexity", inPlace := ["(*sync.WaitGroup).Add", "internal/race.ReleaseMerge", "internal/race.Disable", "internal/race.Enable", "internal/synctest.IsInBubble", "internal/synctest.Associate[sync.WaitGroup]", "sync.fatal", "sync/atomic.OrUint64", "sync/atomic.AddUint64", "internal/race.Read", "sync/atomic.LoadUint64", "sync/atomic.StoreUint64", "internal/synctest.Disassociate[sync.WaitGroup]", "sync.runtime_Semrelease", "(*sync.WaitGroup).Done", "(*sync.WaitGroup).Wait", "internal/race.Acquire", "internal/synctest.IsAssociated[sync.WaitGroup]", "sync/atomic.CompareAndSwapUint64", "internal/race.Write", "sync.runtime_SemacquireWaitGroup"], unfollowed := true, recurses := true, plainKeys := false, leaving := true, apart := false }
def FnExactAbelianComplexitySaid : Prop := fnExactAbelianComplexityRow.holds Try.pinned (OpenSpec.ofChange fnExactAbelianComplexitySpec)

/-- ITS FALSE NEIGHBOUR: 'it returns false'. Refute it at one input. -/
def fnExactAbelianComplexityWrong : ChangeSpec := { name := "fnExactAbelianComplexity", fn := fun _ => fun
  | [d] => { results := [.lit (.bool false)], args := [d] }
  | _ => none }
def FnExactAbelianComplexityWrongFalsely : Prop := fnExactAbelianComplexityRow.holds Try.pinned (OpenSpec.ofChange fnExactAbelianComplexityWrong)

/-- 'laws.FnExactBalanceOf': WHATEVER THE INPUT: true; the input reads as it did. -/
def fnExactBalanceOfSpec : ChangeSpec := { name := "fnExactBalanceOf", fn := fun _ => fun
  | [d] => { results := [.lit (.bool true)], args := [d] }
  | _ => none }
def fnExactBalanceOfRow : OpenClaim := { program := "ytolboinemechpaa", sum := "4b3a8c411f80e2b9cd54a4816d0bf462d992389877d2d3462e8d3a3355be3f7a", func := "loop.example/g01371/laws.FnExactBalanceOf", spec := "fnExactBalanceOf", inPlace := ["(*sync.WaitGroup).Add", "internal/race.ReleaseMerge", "internal/race.Disable", "internal/race.Enable", "internal/synctest.IsInBubble", "internal/synctest.Associate[sync.WaitGroup]", "sync.fatal", "sync/atomic.OrUint64", "sync/atomic.AddUint64", "internal/race.Read", "sync/atomic.LoadUint64", "sync/atomic.StoreUint64", "internal/synctest.Disassociate[sync.WaitGroup]", "sync.runtime_Semrelease", "(*sync.WaitGroup).Done", "(*sync.WaitGroup).Wait", "internal/race.Acquire", "internal/synctest.IsAssociated[sync.WaitGroup]", "sync/atomic.CompareAndSwapUint64", "internal/race.Write", "sync.runtime_SemacquireWaitGroup"], unfollowed := true, recurses := true, plainKeys := false, leaving := true, apart := false }
def FnExactBalanceOfSaid : Prop := fnExactBalanceOfRow.holds Try.pinned (OpenSpec.ofChange fnExactBalanceOfSpec)

/-- ITS FALSE NEIGHBOUR: 'it returns false'. Refute it at one input. -/
def fnExactBalanceOfWrong : ChangeSpec := { name := "fnExactBalanceOf", fn := fun _ => fun
  | [d] => { results := [.lit (.bool false)], args := [d] }
  | _ => none }
def FnExactBalanceOfWrongFalsely : Prop := fnExactBalanceOfRow.holds Try.pinned (OpenSpec.ofChange fnExactBalanceOfWrong)

/-- 'laws.FnExactIsBalancedWord': WHATEVER THE INPUT: true; the input reads as it did. -/
def fnExactIsBalancedWordSpec : ChangeSpec := { name := "fnExactIsBalancedWord", fn := fun _ => fun
  | [d] => { results := [.lit (.bool true)], args := [d] }
  | _ => none }
def fnExactIsBalancedWordRow : OpenClaim := { program := "ytolboinemechpaa", sum := "4b3a8c411f80e2b9cd54a4816d0bf462d992389877d2d3462e8d3a3355be3f7a", func := "loop.example/g01371/laws.FnExactIsBalancedWord", spec := "fnExactIsBalancedWord", inPlace := ["(*sync.WaitGroup).Add", "internal/race.ReleaseMerge", "internal/race.Disable", "internal/race.Enable", "internal/synctest.IsInBubble", "internal/synctest.Associate[sync.WaitGroup]", "sync.fatal", "sync/atomic.OrUint64", "sync/atomic.AddUint64", "internal/race.Read", "sync/atomic.LoadUint64", "sync/atomic.StoreUint64", "internal/synctest.Disassociate[sync.WaitGroup]", "sync.runtime_Semrelease", "(*sync.WaitGroup).Done", "(*sync.WaitGroup).Wait", "internal/race.Acquire", "internal/synctest.IsAssociated[sync.WaitGroup]", "sync/atomic.CompareAndSwapUint64", "internal/race.Write", "sync.runtime_SemacquireWaitGroup"], unfollowed := true, recurses := true, plainKeys := false, leaving := true, apart := false }
def FnExactIsBalancedWordSaid : Prop := fnExactIsBalancedWordRow.holds Try.pinned (OpenSpec.ofChange fnExactIsBalancedWordSpec)

/-- ITS FALSE NEIGHBOUR: 'it returns false'. Refute it at one input. -/
def fnExactIsBalancedWordWrong : ChangeSpec := { name := "fnExactIsBalancedWord", fn := fun _ => fun
  | [d] => { results := [.lit (.bool false)], args := [d] }
  | _ => none }
def FnExactIsBalancedWordWrongFalsely : Prop := fnExactIsBalancedWordRow.holds Try.pinned (OpenSpec.ofChange fnExactIsBalancedWordWrong)

/-- 'laws.FnExactSumsOf': WHATEVER THE INPUT: true; the input reads as it did. -/
def fnExactSumsOfSpec : ChangeSpec := { name := "fnExactSumsOf", fn := fun _ => fun
  | [d1, d2] => { results := [.lit (.bool true)], args := [d1, d2] }
  | _ => none }
def fnExactSumsOfRow : OpenClaim := { program := "ytolboinemechpaa", sum := "4b3a8c411f80e2b9cd54a4816d0bf462d992389877d2d3462e8d3a3355be3f7a", func := "loop.example/g01371/laws.FnExactSumsOf", spec := "fnExactSumsOf", unfollowed := true, recurses := true, plainKeys := false, leaving := true, apart := false }
def FnExactSumsOfSaid : Prop := fnExactSumsOfRow.holds Try.pinned (OpenSpec.ofChange fnExactSumsOfSpec)

/-- ITS FALSE NEIGHBOUR: 'it returns false'. Refute it at one input. -/
def fnExactSumsOfWrong : ChangeSpec := { name := "fnExactSumsOf", fn := fun _ => fun
  | [d1, d2] => { results := [.lit (.bool false)], args := [d1, d2] }
  | _ => none }
def FnExactSumsOfWrongFalsely : Prop := fnExactSumsOfRow.holds Try.pinned (OpenSpec.ofChange fnExactSumsOfWrong)

/- THE SECOND FORM. 'bulk': how many values and letters a reading holds, each counted each time it is reached (what is shared counts as often as it is met; a slice's spare places count too). A statement '..UptoSaid' is the law's where the arguments, and the package variables that the reading takes, are together of bulk at most 1048576: NARROWER than '..Said'. Prove '..Said' where nothing that the law and all that it calls make is longer than what came in: it says more and counts as full. Else prove '..UptoSaid'. A law counts once. -/
mutual
def uptoBulk {H : Type} : DataW H → Nat
  | .lit (.string bytes) => bytes.length + 1
  | .lit _ => 1
  | .nil => 1
  | .ptr d => uptoBulk d + 1
  | .slice elems spare => uptoBulkAll elems + uptoBulkAll spare + 1
  | .agg parts => uptoBulkAll parts + 1
  | .iface _ d => uptoBulk d + 1
  | .map entries => uptoBulkEntries entries + 1
  | .held _ => 1
def uptoBulkAll {H : Type} : List (DataW H) → Nat
  | [] => 0
  | d :: r => uptoBulk d + uptoBulkAll r
def uptoBulkEntries {H : Type} : List (Lit × DataW H) → Nat
  | [] => 0
  | x :: r => uptoBulkEntry x + uptoBulkEntries r
def uptoBulkEntry {H : Type} : Lit × DataW H → Nat
  | (.string bytes, d) => bytes.length + uptoBulk d + 1
  | (_, d) => uptoBulk d + 1
 end
def uptoSmall : (H : Type) → List (DataW H) → Bool := fun _ ds => decide (uptoBulkAll ds ≤ 1048576)
def OpenSpec.upto (s : _root_.Go.ChangeSpec) : _root_.Go.OpenSpec := { _root_.Go.OpenSpec.ofChange s with cond := some uptoSmall }

/-- 'laws.FnExactAreAlike', WHERE WHAT IT READS IS OF BULK AT MOST 1048576: true; the input reads as it did. -/
def fnExactAreAlikeUptoRow : OpenClaim := { program := "ytolboinemechpaa", sum := "4b3a8c411f80e2b9cd54a4816d0bf462d992389877d2d3462e8d3a3355be3f7a", func := "loop.example/g01371/laws.FnExactAreAlike", spec := "fnExactAreAlike", plainKeys := false, apart := false, narrowed := true }
def FnExactAreAlikeUptoSaid : Prop := fnExactAreAlikeUptoRow.holds Try.pinned (OpenSpec.upto fnExactAreAlikeSpec)

/-- 'laws.FnExactSortedWord', WHERE WHAT IT READS IS OF BULK AT MOST 1048576: true; the input reads as it did. -/
def fnExactSortedWordUptoRow : OpenClaim := { program := "ytolboinemechpaa", sum := "4b3a8c411f80e2b9cd54a4816d0bf462d992389877d2d3462e8d3a3355be3f7a", func := "loop.example/g01371/laws.FnExactSortedWord", spec := "fnExactSortedWord", inPlace := ["internal/abi.NoEscape"], recurses := true, plainKeys := false, apart := false, narrowed := true }
def FnExactSortedWordUptoSaid : Prop := fnExactSortedWordUptoRow.holds Try.pinned (OpenSpec.upto fnExactSortedWordSpec)

/-- 'laws.FnExactCountAlike', WHERE WHAT IT READS IS OF BULK AT MOST 1048576: true; the input reads as it did. -/
def fnExactCountAlikeUptoRow : OpenClaim := { program := "ytolboinemechpaa", sum := "4b3a8c411f80e2b9cd54a4816d0bf462d992389877d2d3462e8d3a3355be3f7a", func := "loop.example/g01371/laws.FnExactCountAlike", spec := "fnExactCountAlike", plainKeys := false, apart := false, narrowed := true }
def FnExactCountAlikeUptoSaid : Prop := fnExactCountAlikeUptoRow.holds Try.pinned (OpenSpec.upto fnExactCountAlikeSpec)

/-- 'laws.FnExactWordsWith', WHERE WHAT IT READS IS OF BULK AT MOST 1048576: true; the input reads as it did. -/
def fnExactWordsWithUptoRow : OpenClaim := { program := "ytolboinemechpaa", sum := "4b3a8c411f80e2b9cd54a4816d0bf462d992389877d2d3462e8d3a3355be3f7a", func := "loop.example/g01371/laws.FnExactWordsWith", spec := "fnExactWordsWith", recurses := true, plainKeys := false, apart := false, narrowed := true }
def FnExactWordsWithUptoSaid : Prop := fnExactWordsWithUptoRow.holds Try.pinned (OpenSpec.upto fnExactWordsWithSpec)

/-- 'laws.FnExactAbelianSquares', WHERE WHAT IT READS IS OF BULK AT MOST 1048576: true; the input reads as it did. -/
def fnExactAbelianSquaresUptoRow : OpenClaim := { program := "ytolboinemechpaa", sum := "4b3a8c411f80e2b9cd54a4816d0bf462d992389877d2d3462e8d3a3355be3f7a", func := "loop.example/g01371/laws.FnExactAbelianSquares", spec := "fnExactAbelianSquares", unfollowed := true, recurses := true, plainKeys := false, leaving := true, apart := false, narrowed := true }
def FnExactAbelianSquaresUptoSaid : Prop := fnExactAbelianSquaresUptoRow.holds Try.pinned (OpenSpec.upto fnExactAbelianSquaresSpec)

/-- 'laws.FnExactAbelianPowers', WHERE WHAT IT READS IS OF BULK AT MOST 1048576: true; the input reads as it did. -/
def fnExactAbelianPowersUptoRow : OpenClaim := { program := "ytolboinemechpaa", sum := "4b3a8c411f80e2b9cd54a4816d0bf462d992389877d2d3462e8d3a3355be3f7a", func := "loop.example/g01371/laws.FnExactAbelianPowers", spec := "fnExactAbelianPowers", unfollowed := true, recurses := true, plainKeys := false, leaving := true, apart := false, narrowed := true }
def FnExactAbelianPowersUptoSaid : Prop := fnExactAbelianPowersUptoRow.holds Try.pinned (OpenSpec.upto fnExactAbelianPowersSpec)

/-- 'laws.FnExactIsAbelianFree', WHERE WHAT IT READS IS OF BULK AT MOST 1048576: true; the input reads as it did. -/
def fnExactIsAbelianFreeUptoRow : OpenClaim := { program := "ytolboinemechpaa", sum := "4b3a8c411f80e2b9cd54a4816d0bf462d992389877d2d3462e8d3a3355be3f7a", func := "loop.example/g01371/laws.FnExactIsAbelianFree", spec := "fnExactIsAbelianFree", unfollowed := true, recurses := true, plainKeys := false, leaving := true, apart := false, narrowed := true }
def FnExactIsAbelianFreeUptoSaid : Prop := fnExactIsAbelianFreeUptoRow.holds Try.pinned (OpenSpec.upto fnExactIsAbelianFreeSpec)

/-- 'laws.FnExactAbelianPeriods', WHERE WHAT IT READS IS OF BULK AT MOST 1048576: true; the input reads as it did. -/
def fnExactAbelianPeriodsUptoRow : OpenClaim := { program := "ytolboinemechpaa", sum := "4b3a8c411f80e2b9cd54a4816d0bf462d992389877d2d3462e8d3a3355be3f7a", func := "loop.example/g01371/laws.FnExactAbelianPeriods", spec := "fnExactAbelianPeriods", plainKeys := false, apart := false, narrowed := true }
def FnExactAbelianPeriodsUptoSaid : Prop := fnExactAbelianPeriodsUptoRow.holds Try.pinned (OpenSpec.upto fnExactAbelianPeriodsSpec)

/-- 'laws.FnExactAbelianComplexity', WHERE WHAT IT READS IS OF BULK AT MOST 1048576: true; the input reads as it did. -/
def fnExactAbelianComplexityUptoRow : OpenClaim := { program := "ytolboinemechpaa", sum := "4b3a8c411f80e2b9cd54a4816d0bf462d992389877d2d3462e8d3a3355be3f7a", func := "loop.example/g01371/laws.FnExactAbelianComplexity", spec := "fnExactAbelianComplexity", inPlace := ["(*sync.WaitGroup).Add", "internal/race.ReleaseMerge", "internal/race.Disable", "internal/race.Enable", "internal/synctest.IsInBubble", "internal/synctest.Associate[sync.WaitGroup]", "sync.fatal", "sync/atomic.OrUint64", "sync/atomic.AddUint64", "internal/race.Read", "sync/atomic.LoadUint64", "sync/atomic.StoreUint64", "internal/synctest.Disassociate[sync.WaitGroup]", "sync.runtime_Semrelease", "(*sync.WaitGroup).Done", "(*sync.WaitGroup).Wait", "internal/race.Acquire", "internal/synctest.IsAssociated[sync.WaitGroup]", "sync/atomic.CompareAndSwapUint64", "internal/race.Write", "sync.runtime_SemacquireWaitGroup"], unfollowed := true, recurses := true, plainKeys := false, leaving := true, apart := false, narrowed := true }
def FnExactAbelianComplexityUptoSaid : Prop := fnExactAbelianComplexityUptoRow.holds Try.pinned (OpenSpec.upto fnExactAbelianComplexitySpec)

/-- 'laws.FnExactBalanceOf', WHERE WHAT IT READS IS OF BULK AT MOST 1048576: true; the input reads as it did. -/
def fnExactBalanceOfUptoRow : OpenClaim := { program := "ytolboinemechpaa", sum := "4b3a8c411f80e2b9cd54a4816d0bf462d992389877d2d3462e8d3a3355be3f7a", func := "loop.example/g01371/laws.FnExactBalanceOf", spec := "fnExactBalanceOf", inPlace := ["(*sync.WaitGroup).Add", "internal/race.ReleaseMerge", "internal/race.Disable", "internal/race.Enable", "internal/synctest.IsInBubble", "internal/synctest.Associate[sync.WaitGroup]", "sync.fatal", "sync/atomic.OrUint64", "sync/atomic.AddUint64", "internal/race.Read", "sync/atomic.LoadUint64", "sync/atomic.StoreUint64", "internal/synctest.Disassociate[sync.WaitGroup]", "sync.runtime_Semrelease", "(*sync.WaitGroup).Done", "(*sync.WaitGroup).Wait", "internal/race.Acquire", "internal/synctest.IsAssociated[sync.WaitGroup]", "sync/atomic.CompareAndSwapUint64", "internal/race.Write", "sync.runtime_SemacquireWaitGroup"], unfollowed := true, recurses := true, plainKeys := false, leaving := true, apart := false, narrowed := true }
def FnExactBalanceOfUptoSaid : Prop := fnExactBalanceOfUptoRow.holds Try.pinned (OpenSpec.upto fnExactBalanceOfSpec)

/-- 'laws.FnExactIsBalancedWord', WHERE WHAT IT READS IS OF BULK AT MOST 1048576: true; the input reads as it did. -/
def fnExactIsBalancedWordUptoRow : OpenClaim := { program := "ytolboinemechpaa", sum := "4b3a8c411f80e2b9cd54a4816d0bf462d992389877d2d3462e8d3a3355be3f7a", func := "loop.example/g01371/laws.FnExactIsBalancedWord", spec := "fnExactIsBalancedWord", inPlace := ["(*sync.WaitGroup).Add", "internal/race.ReleaseMerge", "internal/race.Disable", "internal/race.Enable", "internal/synctest.IsInBubble", "internal/synctest.Associate[sync.WaitGroup]", "sync.fatal", "sync/atomic.OrUint64", "sync/atomic.AddUint64", "internal/race.Read", "sync/atomic.LoadUint64", "sync/atomic.StoreUint64", "internal/synctest.Disassociate[sync.WaitGroup]", "sync.runtime_Semrelease", "(*sync.WaitGroup).Done", "(*sync.WaitGroup).Wait", "internal/race.Acquire", "internal/synctest.IsAssociated[sync.WaitGroup]", "sync/atomic.CompareAndSwapUint64", "internal/race.Write", "sync.runtime_SemacquireWaitGroup"], unfollowed := true, recurses := true, plainKeys := false, leaving := true, apart := false, narrowed := true }
def FnExactIsBalancedWordUptoSaid : Prop := fnExactIsBalancedWordUptoRow.holds Try.pinned (OpenSpec.upto fnExactIsBalancedWordSpec)

/-- 'laws.FnExactSumsOf', WHERE WHAT IT READS IS OF BULK AT MOST 1048576: true; the input reads as it did. -/
def fnExactSumsOfUptoRow : OpenClaim := { program := "ytolboinemechpaa", sum := "4b3a8c411f80e2b9cd54a4816d0bf462d992389877d2d3462e8d3a3355be3f7a", func := "loop.example/g01371/laws.FnExactSumsOf", spec := "fnExactSumsOf", unfollowed := true, recurses := true, plainKeys := false, leaving := true, apart := false, narrowed := true }
def FnExactSumsOfUptoSaid : Prop := fnExactSumsOfUptoRow.holds Try.pinned (OpenSpec.upto fnExactSumsOfSpec)

end Rows
end Go.Proofs.Ytolboinemechpaa
