/-
  No cell of these rows narrows 'for every input' (looked for: loops, veiled, ifaces, maps, wideKeys, modest, calm, conditions, laid).
  DERIVED. THE GIVEN ROWS OF THIS SEAT. 12 by the template 'for every input the law returns true; each argument reads behind the call as it read before'; 0 by the template 'total and deterministic' (their statements: YtlaefpmfbnldfaaTotals.lean).
  GIVEN WITH THE SEED: the statements are not yours to turn. If you find one false, say at which input.
  Laid BY PROGRAM, IN A SANDBOX (cutbox-rows.mjs): the forced cells as the released guide's own fill.sh prints them over the translation 14ea8601ea69c853… (all of the seat's roots in one cut). By AI agents, Wed Nov 11 2026. No macro, syntax, notation, axiom, sorry.
-/
import Derived.Test.YtlaefpmfbnldfaaChecked
import GoSem.Claim
import GoSem.ClaimJoined
import GoSem.ClaimMapViews
import Derived.JoinedTies
import Derived.KernelRfl
namespace Go.Proofs.Ytlaefpmfbnldfaa
/- THE CELL 'sum', in the pinned program and in every row, IS THE sha256 OF THE DUMP (.gsa) THAT YtlaefpmfbnldfaaProg.lean LOADS. Nothing in Lean hashes anything: it is a label: what it is worth is what the hold of that sum in a sandbox is worth. -/
noncomputable def Try.pinned : Pinned := { name := "ytlaefpmfbnldfaa", sum := "14ea8601ea69c853da847125f0a4431072020a8c50b81de94969560622d52f69", checked := Try.checked }
namespace Rows
def none {H : Type} : Left H := { results := [], args := [] }

/-- 'laws.FnExactBordersOf': WHATEVER THE INPUT: true; the input reads as it did. -/
def fnExactBordersOfSpec : ChangeSpec := { name := "fnExactBordersOf", fn := fun _ => fun
  | [d] => { results := [.lit (.bool true)], args := [d] }
  | _ => none }
def fnExactBordersOfRow : OpenClaim := { program := "ytlaefpmfbnldfaa", sum := "14ea8601ea69c853da847125f0a4431072020a8c50b81de94969560622d52f69", func := "loop.example/g01371/laws.FnExactBordersOf", spec := "fnExactBordersOf", apart := false }
def FnExactBordersOfSaid : Prop := fnExactBordersOfRow.holds Try.pinned (OpenSpec.ofChange fnExactBordersOfSpec)

/-- ITS FALSE NEIGHBOUR: 'it returns false'. Refute it at one input. -/
def fnExactBordersOfWrong : ChangeSpec := { name := "fnExactBordersOf", fn := fun _ => fun
  | [d] => { results := [.lit (.bool false)], args := [d] }
  | _ => none }
def FnExactBordersOfWrongFalsely : Prop := fnExactBordersOfRow.holds Try.pinned (OpenSpec.ofChange fnExactBordersOfWrong)

/-- 'laws.FnExactPeriodsOf': WHATEVER THE INPUT: true; the input reads as it did. -/
def fnExactPeriodsOfSpec : ChangeSpec := { name := "fnExactPeriodsOf", fn := fun _ => fun
  | [d] => { results := [.lit (.bool true)], args := [d] }
  | _ => none }
def fnExactPeriodsOfRow : OpenClaim := { program := "ytlaefpmfbnldfaa", sum := "14ea8601ea69c853da847125f0a4431072020a8c50b81de94969560622d52f69", func := "loop.example/g01371/laws.FnExactPeriodsOf", spec := "fnExactPeriodsOf", apart := false }
def FnExactPeriodsOfSaid : Prop := fnExactPeriodsOfRow.holds Try.pinned (OpenSpec.ofChange fnExactPeriodsOfSpec)

/-- ITS FALSE NEIGHBOUR: 'it returns false'. Refute it at one input. -/
def fnExactPeriodsOfWrong : ChangeSpec := { name := "fnExactPeriodsOf", fn := fun _ => fun
  | [d] => { results := [.lit (.bool false)], args := [d] }
  | _ => none }
def FnExactPeriodsOfWrongFalsely : Prop := fnExactPeriodsOfRow.holds Try.pinned (OpenSpec.ofChange fnExactPeriodsOfWrong)

/-- 'laws.FnExactRootOf': WHATEVER THE INPUT: true; the input reads as it did. -/
def fnExactRootOfSpec : ChangeSpec := { name := "fnExactRootOf", fn := fun _ => fun
  | [d] => { results := [.lit (.bool true)], args := [d] }
  | _ => none }
def fnExactRootOfRow : OpenClaim := { program := "ytlaefpmfbnldfaa", sum := "14ea8601ea69c853da847125f0a4431072020a8c50b81de94969560622d52f69", func := "loop.example/g01371/laws.FnExactRootOf", spec := "fnExactRootOf", apart := false }
def FnExactRootOfSaid : Prop := fnExactRootOfRow.holds Try.pinned (OpenSpec.ofChange fnExactRootOfSpec)

/-- ITS FALSE NEIGHBOUR: 'it returns false'. Refute it at one input. -/
def fnExactRootOfWrong : ChangeSpec := { name := "fnExactRootOf", fn := fun _ => fun
  | [d] => { results := [.lit (.bool false)], args := [d] }
  | _ => none }
def FnExactRootOfWrongFalsely : Prop := fnExactRootOfRow.holds Try.pinned (OpenSpec.ofChange fnExactRootOfWrong)

/-- 'laws.FnExactExponentOf': WHATEVER THE INPUT: true; the input reads as it did. -/
def fnExactExponentOfSpec : ChangeSpec := { name := "fnExactExponentOf", fn := fun _ => fun
  | [d] => { results := [.lit (.bool true)], args := [d] }
  | _ => none }
def fnExactExponentOfRow : OpenClaim := { program := "ytlaefpmfbnldfaa", sum := "14ea8601ea69c853da847125f0a4431072020a8c50b81de94969560622d52f69", func := "loop.example/g01371/laws.FnExactExponentOf", spec := "fnExactExponentOf", apart := false }
def FnExactExponentOfSaid : Prop := fnExactExponentOfRow.holds Try.pinned (OpenSpec.ofChange fnExactExponentOfSpec)

/-- ITS FALSE NEIGHBOUR: 'it returns false'. Refute it at one input. -/
def fnExactExponentOfWrong : ChangeSpec := { name := "fnExactExponentOf", fn := fun _ => fun
  | [d] => { results := [.lit (.bool false)], args := [d] }
  | _ => none }
def FnExactExponentOfWrongFalsely : Prop := fnExactExponentOfRow.holds Try.pinned (OpenSpec.ofChange fnExactExponentOfWrong)

/-- 'laws.FnExactLeastTurned': WHATEVER THE INPUT: true; the input reads as it did. -/
def fnExactLeastTurnedSpec : ChangeSpec := { name := "fnExactLeastTurned", fn := fun _ => fun
  | [d] => { results := [.lit (.bool true)], args := [d] }
  | _ => none }
def fnExactLeastTurnedRow : OpenClaim := { program := "ytlaefpmfbnldfaa", sum := "14ea8601ea69c853da847125f0a4431072020a8c50b81de94969560622d52f69", func := "loop.example/g01371/laws.FnExactLeastTurned", spec := "fnExactLeastTurned", unfollowed := true, recurses := true, apart := false }
def FnExactLeastTurnedSaid : Prop := fnExactLeastTurnedRow.holds Try.pinned (OpenSpec.ofChange fnExactLeastTurnedSpec)

/-- ITS FALSE NEIGHBOUR: 'it returns false'. Refute it at one input. -/
def fnExactLeastTurnedWrong : ChangeSpec := { name := "fnExactLeastTurned", fn := fun _ => fun
  | [d] => { results := [.lit (.bool false)], args := [d] }
  | _ => none }
def FnExactLeastTurnedWrongFalsely : Prop := fnExactLeastTurnedRow.holds Try.pinned (OpenSpec.ofChange fnExactLeastTurnedWrong)

/-- 'laws.FnExactCountTurned': WHATEVER THE INPUT: true; the input reads as it did. -/
def fnExactCountTurnedSpec : ChangeSpec := { name := "fnExactCountTurned", fn := fun _ => fun
  | [d] => { results := [.lit (.bool true)], args := [d] }
  | _ => none }
def fnExactCountTurnedRow : OpenClaim := { program := "ytlaefpmfbnldfaa", sum := "14ea8601ea69c853da847125f0a4431072020a8c50b81de94969560622d52f69", func := "loop.example/g01371/laws.FnExactCountTurned", spec := "fnExactCountTurned", unfollowed := true, recurses := true, apart := false }
def FnExactCountTurnedSaid : Prop := fnExactCountTurnedRow.holds Try.pinned (OpenSpec.ofChange fnExactCountTurnedSpec)

/-- ITS FALSE NEIGHBOUR: 'it returns false'. Refute it at one input. -/
def fnExactCountTurnedWrong : ChangeSpec := { name := "fnExactCountTurned", fn := fun _ => fun
  | [d] => { results := [.lit (.bool false)], args := [d] }
  | _ => none }
def FnExactCountTurnedWrongFalsely : Prop := fnExactCountTurnedRow.holds Try.pinned (OpenSpec.ofChange fnExactCountTurnedWrong)

/-- 'laws.FnExactLocalPeriod': WHATEVER THE INPUT: true; the input reads as it did. -/
def fnExactLocalPeriodSpec : ChangeSpec := { name := "fnExactLocalPeriod", fn := fun _ => fun
  | [d1, d2] => { results := [.lit (.bool true)], args := [d1, d2] }
  | _ => none }
def fnExactLocalPeriodRow : OpenClaim := { program := "ytlaefpmfbnldfaa", sum := "14ea8601ea69c853da847125f0a4431072020a8c50b81de94969560622d52f69", func := "loop.example/g01371/laws.FnExactLocalPeriod", spec := "fnExactLocalPeriod", apart := false }
def FnExactLocalPeriodSaid : Prop := fnExactLocalPeriodRow.holds Try.pinned (OpenSpec.ofChange fnExactLocalPeriodSpec)

/-- ITS FALSE NEIGHBOUR: 'it returns false'. Refute it at one input. -/
def fnExactLocalPeriodWrong : ChangeSpec := { name := "fnExactLocalPeriod", fn := fun _ => fun
  | [d1, d2] => { results := [.lit (.bool false)], args := [d1, d2] }
  | _ => none }
def FnExactLocalPeriodWrongFalsely : Prop := fnExactLocalPeriodRow.holds Try.pinned (OpenSpec.ofChange fnExactLocalPeriodWrong)

/-- 'laws.FnExactCriticalPlaces': WHATEVER THE INPUT: true; the input reads as it did. -/
def fnExactCriticalPlacesSpec : ChangeSpec := { name := "fnExactCriticalPlaces", fn := fun _ => fun
  | [d] => { results := [.lit (.bool true)], args := [d] }
  | _ => none }
def fnExactCriticalPlacesRow : OpenClaim := { program := "ytlaefpmfbnldfaa", sum := "14ea8601ea69c853da847125f0a4431072020a8c50b81de94969560622d52f69", func := "loop.example/g01371/laws.FnExactCriticalPlaces", spec := "fnExactCriticalPlaces", apart := false }
def FnExactCriticalPlacesSaid : Prop := fnExactCriticalPlacesRow.holds Try.pinned (OpenSpec.ofChange fnExactCriticalPlacesSpec)

/-- ITS FALSE NEIGHBOUR: 'it returns false'. Refute it at one input. -/
def fnExactCriticalPlacesWrong : ChangeSpec := { name := "fnExactCriticalPlaces", fn := fun _ => fun
  | [d] => { results := [.lit (.bool false)], args := [d] }
  | _ => none }
def FnExactCriticalPlacesWrongFalsely : Prop := fnExactCriticalPlacesRow.holds Try.pinned (OpenSpec.ofChange fnExactCriticalPlacesWrong)

/-- 'laws.FnExactDoubleLength': WHATEVER THE INPUT: true; the input reads as it did. -/
def fnExactDoubleLengthSpec : ChangeSpec := { name := "fnExactDoubleLength", fn := fun _ => fun
  | [d1, d2] => { results := [.lit (.bool true)], args := [d1, d2] }
  | _ => none }
def fnExactDoubleLengthRow : OpenClaim := { program := "ytlaefpmfbnldfaa", sum := "14ea8601ea69c853da847125f0a4431072020a8c50b81de94969560622d52f69", func := "loop.example/g01371/laws.FnExactDoubleLength", spec := "fnExactDoubleLength", apart := false }
def FnExactDoubleLengthSaid : Prop := fnExactDoubleLengthRow.holds Try.pinned (OpenSpec.ofChange fnExactDoubleLengthSpec)

/-- ITS FALSE NEIGHBOUR: 'it returns false'. Refute it at one input. -/
def fnExactDoubleLengthWrong : ChangeSpec := { name := "fnExactDoubleLength", fn := fun _ => fun
  | [d1, d2] => { results := [.lit (.bool false)], args := [d1, d2] }
  | _ => none }
def FnExactDoubleLengthWrongFalsely : Prop := fnExactDoubleLengthRow.holds Try.pinned (OpenSpec.ofChange fnExactDoubleLengthWrong)

/-- 'laws.FnExactIsLyndon': WHATEVER THE INPUT: true; the input reads as it did. -/
def fnExactIsLyndonSpec : ChangeSpec := { name := "fnExactIsLyndon", fn := fun _ => fun
  | [d] => { results := [.lit (.bool true)], args := [d] }
  | _ => none }
def fnExactIsLyndonRow : OpenClaim := { program := "ytlaefpmfbnldfaa", sum := "14ea8601ea69c853da847125f0a4431072020a8c50b81de94969560622d52f69", func := "loop.example/g01371/laws.FnExactIsLyndon", spec := "fnExactIsLyndon", unfollowed := true, recurses := true, apart := false }
def FnExactIsLyndonSaid : Prop := fnExactIsLyndonRow.holds Try.pinned (OpenSpec.ofChange fnExactIsLyndonSpec)

/-- ITS FALSE NEIGHBOUR: 'it returns false'. Refute it at one input. -/
def fnExactIsLyndonWrong : ChangeSpec := { name := "fnExactIsLyndon", fn := fun _ => fun
  | [d] => { results := [.lit (.bool false)], args := [d] }
  | _ => none }
def FnExactIsLyndonWrongFalsely : Prop := fnExactIsLyndonRow.holds Try.pinned (OpenSpec.ofChange fnExactIsLyndonWrong)

/-- 'laws.FnExactLyndonParts': WHATEVER THE INPUT: true; the input reads as it did. -/
def fnExactLyndonPartsSpec : ChangeSpec := { name := "fnExactLyndonParts", fn := fun _ => fun
  | [d] => { results := [.lit (.bool true)], args := [d] }
  | _ => none }
def fnExactLyndonPartsRow : OpenClaim := { program := "ytlaefpmfbnldfaa", sum := "14ea8601ea69c853da847125f0a4431072020a8c50b81de94969560622d52f69", func := "loop.example/g01371/laws.FnExactLyndonParts", spec := "fnExactLyndonParts", apart := false }
def FnExactLyndonPartsSaid : Prop := fnExactLyndonPartsRow.holds Try.pinned (OpenSpec.ofChange fnExactLyndonPartsSpec)

/-- ITS FALSE NEIGHBOUR: 'it returns false'. Refute it at one input. -/
def fnExactLyndonPartsWrong : ChangeSpec := { name := "fnExactLyndonParts", fn := fun _ => fun
  | [d] => { results := [.lit (.bool false)], args := [d] }
  | _ => none }
def FnExactLyndonPartsWrongFalsely : Prop := fnExactLyndonPartsRow.holds Try.pinned (OpenSpec.ofChange fnExactLyndonPartsWrong)

/-- 'laws.FnExactLongestUnbordered': WHATEVER THE INPUT: true; the input reads as it did. -/
def fnExactLongestUnborderedSpec : ChangeSpec := { name := "fnExactLongestUnbordered", fn := fun _ => fun
  | [d] => { results := [.lit (.bool true)], args := [d] }
  | _ => none }
def fnExactLongestUnborderedRow : OpenClaim := { program := "ytlaefpmfbnldfaa", sum := "14ea8601ea69c853da847125f0a4431072020a8c50b81de94969560622d52f69", func := "loop.example/g01371/laws.FnExactLongestUnbordered", spec := "fnExactLongestUnbordered", unfollowed := true, recurses := true, apart := false }
def FnExactLongestUnborderedSaid : Prop := fnExactLongestUnborderedRow.holds Try.pinned (OpenSpec.ofChange fnExactLongestUnborderedSpec)

/-- ITS FALSE NEIGHBOUR: 'it returns false'. Refute it at one input. -/
def fnExactLongestUnborderedWrong : ChangeSpec := { name := "fnExactLongestUnbordered", fn := fun _ => fun
  | [d] => { results := [.lit (.bool false)], args := [d] }
  | _ => none }
def FnExactLongestUnborderedWrongFalsely : Prop := fnExactLongestUnborderedRow.holds Try.pinned (OpenSpec.ofChange fnExactLongestUnborderedWrong)

/- THE SECOND FORM. 'bulk': how many values and letters a reading holds, each counted each time it is reached (what is shared counts as often as it is met; a slice's spare places count too). A statement '..UptoSaid' is the law's where the arguments, and the package variables that the reading takes, are together of bulk at most 1048576: NARROWER than '..Said'. Prove '..Said' where nothing that the law and all that it calls make is longer than what came in: it says more and counts as full. Else prove '..UptoSaid'. A law counts once. -/
mutual
def uptoBulk {H : Type} : DataW H → Nat
  | .lit (.string bytes) => bytes.length + 1
  | .lit _ => 1
  | .nil => 1
  | .ptr d => uptoBulk d + 1
  | .slice elems spare => uptoBulkAll elems + uptoBulkAll spare + 1
  | .agg parts => uptoBulkAll parts + 1
  | .iface _ d => uptoBulk d + 1
  | .map entries => uptoBulkEntries entries + 1
  | .held _ => 1
def uptoBulkAll {H : Type} : List (DataW H) → Nat
  | [] => 0
  | d :: r => uptoBulk d + uptoBulkAll r
def uptoBulkEntries {H : Type} : List (Lit × DataW H) → Nat
  | [] => 0
  | x :: r => uptoBulkEntry x + uptoBulkEntries r
def uptoBulkEntry {H : Type} : Lit × DataW H → Nat
  | (.string bytes, d) => bytes.length + uptoBulk d + 1
  | (_, d) => uptoBulk d + 1
 end
def uptoSmall : (H : Type) → List (DataW H) → Bool := fun _ ds => decide (uptoBulkAll ds ≤ 1048576)
def OpenSpec.upto (s : _root_.Go.ChangeSpec) : _root_.Go.OpenSpec := { _root_.Go.OpenSpec.ofChange s with cond := some uptoSmall }

/-- 'laws.FnExactBordersOf', WHERE WHAT IT READS IS OF BULK AT MOST 1048576: true; the input reads as it did. -/
def fnExactBordersOfUptoRow : OpenClaim := { program := "ytlaefpmfbnldfaa", sum := "14ea8601ea69c853da847125f0a4431072020a8c50b81de94969560622d52f69", func := "loop.example/g01371/laws.FnExactBordersOf", spec := "fnExactBordersOf", apart := false, narrowed := true }
def FnExactBordersOfUptoSaid : Prop := fnExactBordersOfUptoRow.holds Try.pinned (OpenSpec.upto fnExactBordersOfSpec)

/-- 'laws.FnExactPeriodsOf', WHERE WHAT IT READS IS OF BULK AT MOST 1048576: true; the input reads as it did. -/
def fnExactPeriodsOfUptoRow : OpenClaim := { program := "ytlaefpmfbnldfaa", sum := "14ea8601ea69c853da847125f0a4431072020a8c50b81de94969560622d52f69", func := "loop.example/g01371/laws.FnExactPeriodsOf", spec := "fnExactPeriodsOf", apart := false, narrowed := true }
def FnExactPeriodsOfUptoSaid : Prop := fnExactPeriodsOfUptoRow.holds Try.pinned (OpenSpec.upto fnExactPeriodsOfSpec)

/-- 'laws.FnExactRootOf', WHERE WHAT IT READS IS OF BULK AT MOST 1048576: true; the input reads as it did. -/
def fnExactRootOfUptoRow : OpenClaim := { program := "ytlaefpmfbnldfaa", sum := "14ea8601ea69c853da847125f0a4431072020a8c50b81de94969560622d52f69", func := "loop.example/g01371/laws.FnExactRootOf", spec := "fnExactRootOf", apart := false, narrowed := true }
def FnExactRootOfUptoSaid : Prop := fnExactRootOfUptoRow.holds Try.pinned (OpenSpec.upto fnExactRootOfSpec)

/-- 'laws.FnExactExponentOf', WHERE WHAT IT READS IS OF BULK AT MOST 1048576: true; the input reads as it did. -/
def fnExactExponentOfUptoRow : OpenClaim := { program := "ytlaefpmfbnldfaa", sum := "14ea8601ea69c853da847125f0a4431072020a8c50b81de94969560622d52f69", func := "loop.example/g01371/laws.FnExactExponentOf", spec := "fnExactExponentOf", apart := false, narrowed := true }
def FnExactExponentOfUptoSaid : Prop := fnExactExponentOfUptoRow.holds Try.pinned (OpenSpec.upto fnExactExponentOfSpec)

/-- 'laws.FnExactLeastTurned', WHERE WHAT IT READS IS OF BULK AT MOST 1048576: true; the input reads as it did. -/
def fnExactLeastTurnedUptoRow : OpenClaim := { program := "ytlaefpmfbnldfaa", sum := "14ea8601ea69c853da847125f0a4431072020a8c50b81de94969560622d52f69", func := "loop.example/g01371/laws.FnExactLeastTurned", spec := "fnExactLeastTurned", unfollowed := true, recurses := true, apart := false, narrowed := true }
def FnExactLeastTurnedUptoSaid : Prop := fnExactLeastTurnedUptoRow.holds Try.pinned (OpenSpec.upto fnExactLeastTurnedSpec)

/-- 'laws.FnExactCountTurned', WHERE WHAT IT READS IS OF BULK AT MOST 1048576: true; the input reads as it did. -/
def fnExactCountTurnedUptoRow : OpenClaim := { program := "ytlaefpmfbnldfaa", sum := "14ea8601ea69c853da847125f0a4431072020a8c50b81de94969560622d52f69", func := "loop.example/g01371/laws.FnExactCountTurned", spec := "fnExactCountTurned", unfollowed := true, recurses := true, apart := false, narrowed := true }
def FnExactCountTurnedUptoSaid : Prop := fnExactCountTurnedUptoRow.holds Try.pinned (OpenSpec.upto fnExactCountTurnedSpec)

/-- 'laws.FnExactLocalPeriod', WHERE WHAT IT READS IS OF BULK AT MOST 1048576: true; the input reads as it did. -/
def fnExactLocalPeriodUptoRow : OpenClaim := { program := "ytlaefpmfbnldfaa", sum := "14ea8601ea69c853da847125f0a4431072020a8c50b81de94969560622d52f69", func := "loop.example/g01371/laws.FnExactLocalPeriod", spec := "fnExactLocalPeriod", apart := false, narrowed := true }
def FnExactLocalPeriodUptoSaid : Prop := fnExactLocalPeriodUptoRow.holds Try.pinned (OpenSpec.upto fnExactLocalPeriodSpec)

/-- 'laws.FnExactCriticalPlaces', WHERE WHAT IT READS IS OF BULK AT MOST 1048576: true; the input reads as it did. -/
def fnExactCriticalPlacesUptoRow : OpenClaim := { program := "ytlaefpmfbnldfaa", sum := "14ea8601ea69c853da847125f0a4431072020a8c50b81de94969560622d52f69", func := "loop.example/g01371/laws.FnExactCriticalPlaces", spec := "fnExactCriticalPlaces", apart := false, narrowed := true }
def FnExactCriticalPlacesUptoSaid : Prop := fnExactCriticalPlacesUptoRow.holds Try.pinned (OpenSpec.upto fnExactCriticalPlacesSpec)

/-- 'laws.FnExactDoubleLength', WHERE WHAT IT READS IS OF BULK AT MOST 1048576: true; the input reads as it did. -/
def fnExactDoubleLengthUptoRow : OpenClaim := { program := "ytlaefpmfbnldfaa", sum := "14ea8601ea69c853da847125f0a4431072020a8c50b81de94969560622d52f69", func := "loop.example/g01371/laws.FnExactDoubleLength", spec := "fnExactDoubleLength", apart := false, narrowed := true }
def FnExactDoubleLengthUptoSaid : Prop := fnExactDoubleLengthUptoRow.holds Try.pinned (OpenSpec.upto fnExactDoubleLengthSpec)

/-- 'laws.FnExactIsLyndon', WHERE WHAT IT READS IS OF BULK AT MOST 1048576: true; the input reads as it did. -/
def fnExactIsLyndonUptoRow : OpenClaim := { program := "ytlaefpmfbnldfaa", sum := "14ea8601ea69c853da847125f0a4431072020a8c50b81de94969560622d52f69", func := "loop.example/g01371/laws.FnExactIsLyndon", spec := "fnExactIsLyndon", unfollowed := true, recurses := true, apart := false, narrowed := true }
def FnExactIsLyndonUptoSaid : Prop := fnExactIsLyndonUptoRow.holds Try.pinned (OpenSpec.upto fnExactIsLyndonSpec)

/-- 'laws.FnExactLyndonParts', WHERE WHAT IT READS IS OF BULK AT MOST 1048576: true; the input reads as it did. -/
def fnExactLyndonPartsUptoRow : OpenClaim := { program := "ytlaefpmfbnldfaa", sum := "14ea8601ea69c853da847125f0a4431072020a8c50b81de94969560622d52f69", func := "loop.example/g01371/laws.FnExactLyndonParts", spec := "fnExactLyndonParts", apart := false, narrowed := true }
def FnExactLyndonPartsUptoSaid : Prop := fnExactLyndonPartsUptoRow.holds Try.pinned (OpenSpec.upto fnExactLyndonPartsSpec)

/-- 'laws.FnExactLongestUnbordered', WHERE WHAT IT READS IS OF BULK AT MOST 1048576: true; the input reads as it did. -/
def fnExactLongestUnborderedUptoRow : OpenClaim := { program := "ytlaefpmfbnldfaa", sum := "14ea8601ea69c853da847125f0a4431072020a8c50b81de94969560622d52f69", func := "loop.example/g01371/laws.FnExactLongestUnbordered", spec := "fnExactLongestUnbordered", unfollowed := true, recurses := true, apart := false, narrowed := true }
def FnExactLongestUnborderedUptoSaid : Prop := fnExactLongestUnborderedUptoRow.holds Try.pinned (OpenSpec.upto fnExactLongestUnborderedSpec)

end Rows
end Go.Proofs.Ytlaefpmfbnldfaa
