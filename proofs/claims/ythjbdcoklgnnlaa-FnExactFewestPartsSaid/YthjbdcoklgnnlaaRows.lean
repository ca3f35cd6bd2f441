/-
  No cell of these rows narrows 'for every input' (looked for: loops, veiled, ifaces, maps, wideKeys, modest, calm, conditions, laid).
  DERIVED. THE GIVEN ROWS OF THIS SEAT. 12 by the template 'for every input the law returns true; each argument reads behind the call as it read before'; 0 by the template 'total and deterministic' (their statements: YthjbdcoklgnnlaaTotals.lean).
  GIVEN WITH THE SEED: the statements are not yours to turn. If you find one false, say at which input.
  Laid BY PROGRAM, IN A SANDBOX (cutbox-rows.mjs): the forced cells as the released guide's own fill.sh prints them over the translation 53544279e0c91df1… (all of the seat's roots in one cut). By AI agents, Wed Nov 11 2026. No macro, syntax, notation, axiom, sorry.
-/
import Derived.Test.YthjbdcoklgnnlaaChecked
import GoSem.Claim
import GoSem.ClaimJoined
import GoSem.ClaimMapViews
import Derived.JoinedTies
import Derived.KernelRfl
namespace Go.Proofs.Ythjbdcoklgnnlaa
/- THE CELL 'sum', in the pinned program and in every row, IS THE sha256 OF THE DUMP (.gsa) THAT YthjbdcoklgnnlaaProg.lean LOADS. Nothing in Lean hashes anything: it is a label: what it is worth is what the hold of that sum in a sandbox is worth. -/
noncomputable def Try.pinned : Pinned := { name := "ythjbdcoklgnnlaa", sum := "53544279e0c91df14486a5e07f3bfcedff886f3d418da59d042d24dde80839e0", checked := Try.checked }
namespace Rows
def none {H : Type} : Left H := { results := [], args := [] }

/-- 'laws.FnExactIsPalindrome': WHATEVER THE INPUT: true; the input reads as it did. -/
def fnExactIsPalindromeSpec : ChangeSpec := { name := "fnExactIsPalindrome", fn := fun _ => fun
  | [d] => { results := [.lit (.bool true)], args := [d] }
  | _ => none }
def fnExactIsPalindromeRow : OpenClaim := { program := "ythjbdcoklgnnlaa", sum := "53544279e0c91df14486a5e07f3bfcedff886f3d418da59d042d24dde80839e0", func := "loop.example/g01371/laws.FnExactIsPalindrome", spec := "fnExactIsPalindrome", unfollowed := true, recurses := true, apart := false }
def FnExactIsPalindromeSaid : Prop := fnExactIsPalindromeRow.holds Try.pinned (OpenSpec.ofChange fnExactIsPalindromeSpec)

/-- ITS FALSE NEIGHBOUR: 'it returns false'. Refute it at one input. -/
def fnExactIsPalindromeWrong : ChangeSpec := { name := "fnExactIsPalindrome", fn := fun _ => fun
  | [d] => { results := [.lit (.bool false)], args := [d] }
  | _ => none }
def FnExactIsPalindromeWrongFalsely : Prop := fnExactIsPalindromeRow.holds Try.pinned (OpenSpec.ofChange fnExactIsPalindromeWrong)

/-- 'laws.FnExactPalindromesOf': WHATEVER THE INPUT: true; the input reads as it did. -/
def fnExactPalindromesOfSpec : ChangeSpec := { name := "fnExactPalindromesOf", fn := fun _ => fun
  | [d] => { results := [.lit (.bool true)], args := [d] }
  | _ => none }
def fnExactPalindromesOfRow : OpenClaim := { program := "ythjbdcoklgnnlaa", sum := "53544279e0c91df14486a5e07f3bfcedff886f3d418da59d042d24dde80839e0", func := "loop.example/g01371/laws.FnExactPalindromesOf", spec := "fnExactPalindromesOf", unfollowed := true, recurses := true, apart := false }
def FnExactPalindromesOfSaid : Prop := fnExactPalindromesOfRow.holds Try.pinned (OpenSpec.ofChange fnExactPalindromesOfSpec)

/-- ITS FALSE NEIGHBOUR: 'it returns false'. Refute it at one input. -/
def fnExactPalindromesOfWrong : ChangeSpec := { name := "fnExactPalindromesOf", fn := fun _ => fun
  | [d] => { results := [.lit (.bool false)], args := [d] }
  | _ => none }
def FnExactPalindromesOfWrongFalsely : Prop := fnExactPalindromesOfRow.holds Try.pinned (OpenSpec.ofChange fnExactPalindromesOfWrong)

/-- 'laws.FnExactCountPalindromes': WHATEVER THE INPUT: true; the input reads as it did. -/
def fnExactCountPalindromesSpec : ChangeSpec := { name := "fnExactCountPalindromes", fn := fun _ => fun
  | [d] => { results := [.lit (.bool true)], args := [d] }
  | _ => none }
def fnExactCountPalindromesRow : OpenClaim := { program := "ythjbdcoklgnnlaa", sum := "53544279e0c91df14486a5e07f3bfcedff886f3d418da59d042d24dde80839e0", func := "loop.example/g01371/laws.FnExactCountPalindromes", spec := "fnExactCountPalindromes", unfollowed := true, recurses := true, apart := false }
def FnExactCountPalindromesSaid : Prop := fnExactCountPalindromesRow.holds Try.pinned (OpenSpec.ofChange fnExactCountPalindromesSpec)

/-- ITS FALSE NEIGHBOUR: 'it returns false'. Refute it at one input. -/
def fnExactCountPalindromesWrong : ChangeSpec := { name := "fnExactCountPalindromes", fn := fun _ => fun
  | [d] => { results := [.lit (.bool false)], args := [d] }
  | _ => none }
def FnExactCountPalindromesWrongFalsely : Prop := fnExactCountPalindromesRow.holds Try.pinned (OpenSpec.ofChange fnExactCountPalindromesWrong)

/-- 'laws.FnExactDefectOf': WHATEVER THE INPUT: true; the input reads as it did. -/
def fnExactDefectOfSpec : ChangeSpec := { name := "fnExactDefectOf", fn := fun _ => fun
  | [d] => { results := [.lit (.bool true)], args := [d] }
  | _ => none }
def fnExactDefectOfRow : OpenClaim := { program := "ythjbdcoklgnnlaa", sum := "53544279e0c91df14486a5e07f3bfcedff886f3d418da59d042d24dde80839e0", func := "loop.example/g01371/laws.FnExactDefectOf", spec := "fnExactDefectOf", unfollowed := true, recurses := true, apart := false }
def FnExactDefectOfSaid : Prop := fnExactDefectOfRow.holds Try.pinned (OpenSpec.ofChange fnExactDefectOfSpec)

/-- ITS FALSE NEIGHBOUR: 'it returns false'. Refute it at one input. -/
def fnExactDefectOfWrong : ChangeSpec := { name := "fnExactDefectOf", fn := fun _ => fun
  | [d] => { results := [.lit (.bool false)], args := [d] }
  | _ => none }
def FnExactDefectOfWrongFalsely : Prop := fnExactDefectOfRow.holds Try.pinned (OpenSpec.ofChange fnExactDefectOfWrong)

/-- 'laws.FnExactLongestPalindrome': WHATEVER THE INPUT: true; the input reads as it did. -/
def fnExactLongestPalindromeSpec : ChangeSpec := { name := "fnExactLongestPalindrome", fn := fun _ => fun
  | [d] => { results := [.lit (.bool true)], args := [d] }
  | _ => none }
def fnExactLongestPalindromeRow : OpenClaim := { program := "ythjbdcoklgnnlaa", sum := "53544279e0c91df14486a5e07f3bfcedff886f3d418da59d042d24dde80839e0", func := "loop.example/g01371/laws.FnExactLongestPalindrome", spec := "fnExactLongestPalindrome", unfollowed := true, recurses := true, apart := false }
def FnExactLongestPalindromeSaid : Prop := fnExactLongestPalindromeRow.holds Try.pinned (OpenSpec.ofChange fnExactLongestPalindromeSpec)

/-- ITS FALSE NEIGHBOUR: 'it returns false'. Refute it at one input. -/
def fnExactLongestPalindromeWrong : ChangeSpec := { name := "fnExactLongestPalindrome", fn := fun _ => fun
  | [d] => { results := [.lit (.bool false)], args := [d] }
  | _ => none }
def FnExactLongestPalindromeWrongFalsely : Prop := fnExactLongestPalindromeRow.holds Try.pinned (OpenSpec.ofChange fnExactLongestPalindromeWrong)

/-- 'laws.FnExactEndLengths': WHATEVER THE INPUT: true; the input reads as it did. -/
def fnExactEndLengthsSpec : ChangeSpec := { name := "fnExactEndLengths", fn := fun _ => fun
  | [d] => { results := [.lit (.bool true)], args := [d] }
  | _ => none }
def fnExactEndLengthsRow : OpenClaim := { program := "ythjbdcoklgnnlaa", sum := "53544279e0c91df14486a5e07f3bfcedff886f3d418da59d042d24dde80839e0", func := "loop.example/g01371/laws.FnExactEndLengths", spec := "fnExactEndLengths", apart := false }
def FnExactEndLengthsSaid : Prop := fnExactEndLengthsRow.holds Try.pinned (OpenSpec.ofChange fnExactEndLengthsSpec)

/-- ITS FALSE NEIGHBOUR: 'it returns false'. Refute it at one input. -/
def fnExactEndLengthsWrong : ChangeSpec := { name := "fnExactEndLengths", fn := fun _ => fun
  | [d] => { results := [.lit (.bool false)], args := [d] }
  | _ => none }
def FnExactEndLengthsWrongFalsely : Prop := fnExactEndLengthsRow.holds Try.pinned (OpenSpec.ofChange fnExactEndLengthsWrong)

/-- 'laws.FnExactFewestParts': WHATEVER THE INPUT: true; the input reads as it did. -/
def fnExactFewestPartsSpec : ChangeSpec := { name := "fnExactFewestParts", fn := fun _ => fun
  | [d] => { results := [.lit (.bool true)], args := [d] }
  | _ => none }
def fnExactFewestPartsRow : OpenClaim := { program := "ythjbdcoklgnnlaa", sum := "53544279e0c91df14486a5e07f3bfcedff886f3d418da59d042d24dde80839e0", func := "loop.example/g01371/laws.FnExactFewestParts", spec := "fnExactFewestParts", unfollowed := true, recurses := true, apart := false }
def FnExactFewestPartsSaid : Prop := fnExactFewestPartsRow.holds Try.pinned (OpenSpec.ofChange fnExactFewestPartsSpec)

/-- ITS FALSE NEIGHBOUR: 'it returns false'. Refute it at one input. -/
def fnExactFewestPartsWrong : ChangeSpec := { name := "fnExactFewestParts", fn := fun _ => fun
  | [d] => { results := [.lit (.bool false)], args := [d] }
  | _ => none }
def FnExactFewestPartsWrongFalsely : Prop := fnExactFewestPartsRow.holds Try.pinned (OpenSpec.ofChange fnExactFewestPartsWrong)

/-- 'laws.FnExactClosureOf': WHATEVER THE INPUT: true; the input reads as it did. -/
def fnExactClosureOfSpec : ChangeSpec := { name := "fnExactClosureOf", fn := fun _ => fun
  | [d] => { results := [.lit (.bool true)], args := [d] }
  | _ => none }
def fnExactClosureOfRow : OpenClaim := { program := "ythjbdcoklgnnlaa", sum := "53544279e0c91df14486a5e07f3bfcedff886f3d418da59d042d24dde80839e0", func := "loop.example/g01371/laws.FnExactClosureOf", spec := "fnExactClosureOf", apart := false }
def FnExactClosureOfSaid : Prop := fnExactClosureOfRow.holds Try.pinned (OpenSpec.ofChange fnExactClosureOfSpec)

/-- ITS FALSE NEIGHBOUR: 'it returns false'. Refute it at one input. -/
def fnExactClosureOfWrong : ChangeSpec := { name := "fnExactClosureOf", fn := fun _ => fun
  | [d] => { results := [.lit (.bool false)], args := [d] }
  | _ => none }
def FnExactClosureOfWrongFalsely : Prop := fnExactClosureOfRow.holds Try.pinned (OpenSpec.ofChange fnExactClosureOfWrong)

/-- 'laws.FnExactDirectedWord': WHATEVER THE INPUT: true; the input reads as it did. -/
def fnExactDirectedWordSpec : ChangeSpec := { name := "fnExactDirectedWord", fn := fun _ => fun
  | [d] => { results := [.lit (.bool true)], args := [d] }
  | _ => none }
def fnExactDirectedWordRow : OpenClaim := { program := "ythjbdcoklgnnlaa", sum := "53544279e0c91df14486a5e07f3bfcedff886f3d418da59d042d24dde80839e0", func := "loop.example/g01371/laws.FnExactDirectedWord", spec := "fnExactDirectedWord", apart := false }
def FnExactDirectedWordSaid : Prop := fnExactDirectedWordRow.holds Try.pinned (OpenSpec.ofChange fnExactDirectedWordSpec)

/-- ITS FALSE NEIGHBOUR: 'it returns false'. Refute it at one input. -/
def fnExactDirectedWordWrong : ChangeSpec := { name := "fnExactDirectedWord", fn := fun _ => fun
  | [d] => { results := [.lit (.bool false)], args := [d] }
  | _ => none }
def FnExactDirectedWordWrongFalsely : Prop := fnExactDirectedWordRow.holds Try.pinned (OpenSpec.ofChange fnExactDirectedWordWrong)

/-- 'laws.FnExactIsClosedWord': WHATEVER THE INPUT: true; the input reads as it did. -/
def fnExactIsClosedWordSpec : ChangeSpec := { name := "fnExactIsClosedWord", fn := fun _ => fun
  | [d] => { results := [.lit (.bool true)], args := [d] }
  | _ => none }
def fnExactIsClosedWordRow : OpenClaim := { program := "ythjbdcoklgnnlaa", sum := "53544279e0c91df14486a5e07f3bfcedff886f3d418da59d042d24dde80839e0", func := "loop.example/g01371/laws.FnExactIsClosedWord", spec := "fnExactIsClosedWord", inPlace := ["internal/bytealg.IndexByteString", "internal/bytealg.IndexString"], unfollowed := true, recurses := true, named := ["internal/bytealg.MaxLen"], apart := false }
def FnExactIsClosedWordSaid : Prop := fnExactIsClosedWordRow.holds Try.pinned (OpenSpec.ofChange fnExactIsClosedWordSpec)

/-- ITS FALSE NEIGHBOUR: 'it returns false'. Refute it at one input. -/
def fnExactIsClosedWordWrong : ChangeSpec := { name := "fnExactIsClosedWord", fn := fun _ => fun
  | [d] => { results := [.lit (.bool false)], args := [d] }
  | _ => none }
def FnExactIsClosedWordWrongFalsely : Prop := fnExactIsClosedWordRow.holds Try.pinned (OpenSpec.ofChange fnExactIsClosedWordWrong)

/-- 'laws.FnExactIsPrivileged': WHATEVER THE INPUT: true; the input reads as it did. -/
def fnExactIsPrivilegedSpec : ChangeSpec := { name := "fnExactIsPrivileged", fn := fun _ => fun
  | [d] => { results := [.lit (.bool true)], args := [d] }
  | _ => none }
def fnExactIsPrivilegedRow : OpenClaim := { program := "ythjbdcoklgnnlaa", sum := "53544279e0c91df14486a5e07f3bfcedff886f3d418da59d042d24dde80839e0", func := "loop.example/g01371/laws.FnExactIsPrivileged", spec := "fnExactIsPrivileged", inPlace := ["internal/bytealg.IndexByteString", "internal/bytealg.IndexString"], unfollowed := true, recurses := true, named := ["internal/bytealg.MaxLen"], apart := false }
def FnExactIsPrivilegedSaid : Prop := fnExactIsPrivilegedRow.holds Try.pinned (OpenSpec.ofChange fnExactIsPrivilegedSpec)

/-- ITS FALSE NEIGHBOUR: 'it returns false'. Refute it at one input. -/
def fnExactIsPrivilegedWrong : ChangeSpec := { name := "fnExactIsPrivileged", fn := fun _ => fun
  | [d] => { results := [.lit (.bool false)], args := [d] }
  | _ => none }
def FnExactIsPrivilegedWrongFalsely : Prop := fnExactIsPrivilegedRow.holds Try.pinned (OpenSpec.ofChange fnExactIsPrivilegedWrong)

/-- 'laws.FnExactCountClosed': WHATEVER THE INPUT: true; the input reads as it did. -/
def fnExactCountClosedSpec : ChangeSpec := { name := "fnExactCountClosed", fn := fun _ => fun
  | [d] => { results := [.lit (.bool true)], args := [d] }
  | _ => none }
def fnExactCountClosedRow : OpenClaim := { program := "ythjbdcoklgnnlaa", sum := "53544279e0c91df14486a5e07f3bfcedff886f3d418da59d042d24dde80839e0", func := "loop.example/g01371/laws.FnExactCountClosed", spec := "fnExactCountClosed", inPlace := ["internal/bytealg.IndexByteString", "internal/bytealg.IndexString"], unfollowed := true, recurses := true, named := ["internal/bytealg.MaxLen"], apart := false }
def FnExactCountClosedSaid : Prop := fnExactCountClosedRow.holds Try.pinned (OpenSpec.ofChange fnExactCountClosedSpec)

/-- ITS FALSE NEIGHBOUR: 'it returns false'. Refute it at one input. -/
def fnExactCountClosedWrong : ChangeSpec := { name := "fnExactCountClosed", fn := fun _ => fun
  | [d] => { results := [.lit (.bool false)], args := [d] }
  | _ => none }
def FnExactCountClosedWrongFalsely : Prop := fnExactCountClosedRow.holds Try.pinned (OpenSpec.ofChange fnExactCountClosedWrong)

/- THE SECOND FORM. 'bulk': how many values and letters a reading holds, each counted each time it is reached (what is shared counts as often as it is met; a slice's spare places count too). A statement '..UptoSaid' is the law's where the arguments, and the package variables that the reading takes, are together of bulk at most 1048576: NARROWER than '..Said'. Prove '..Said' where nothing that the law and all that it calls make is longer than what came in: it says more and counts as full. Else prove '..UptoSaid'. A law counts once. -/
mutual
def uptoBulk {H : Type} : DataW H → Nat
  | .lit (.string bytes) => bytes.length + 1
  | .lit _ => 1
  | .nil => 1
  | .ptr d => uptoBulk d + 1
  | .slice elems spare => uptoBulkAll elems + uptoBulkAll spare + 1
  | .agg parts => uptoBulkAll parts + 1
  | .iface _ d => uptoBulk d + 1
  | .map entries => uptoBulkEntries entries + 1
  | .held _ => 1
def uptoBulkAll {H : Type} : List (DataW H) → Nat
  | [] => 0
  | d :: r => uptoBulk d + uptoBulkAll r
def uptoBulkEntries {H : Type} : List (Lit × DataW H) → Nat
  | [] => 0
  | x :: r => uptoBulkEntry x + uptoBulkEntries r
def uptoBulkEntry {H : Type} : Lit × DataW H → Nat
  | (.string bytes, d) => bytes.length + uptoBulk d + 1
  | (_, d) => uptoBulk d + 1
 end
def uptoSmall : (H : Type) → List (DataW H) → Bool := fun _ ds => decide (uptoBulkAll ds ≤ 1048576)
def OpenSpec.upto (s : _root_.Go.ChangeSpec) : _root_.Go.OpenSpec := { _root_.Go.OpenSpec.ofChange s with cond := some uptoSmall }

/-- 'laws.FnExactIsPalindrome', WHERE WHAT IT READS IS OF BULK AT MOST 1048576: true; the input reads as it did. -/
def fnExactIsPalindromeUptoRow : OpenClaim := { program := "ythjbdcoklgnnlaa", sum := "53544279e0c91df14486a5e07f3bfcedff886f3d418da59d042d24dde80839e0", func := "loop.example/g01371/laws.FnExactIsPalindrome", spec := "fnExactIsPalindrome", unfollowed := true, recurses := true, apart := false, narrowed := true }
def FnExactIsPalindromeUptoSaid : Prop := fnExactIsPalindromeUptoRow.holds Try.pinned (OpenSpec.upto fnExactIsPalindromeSpec)

/-- 'laws.FnExactPalindromesOf', WHERE WHAT IT READS IS OF BULK AT MOST 1048576: true; the input reads as it did. -/
def fnExactPalindromesOfUptoRow : OpenClaim := { program := "ythjbdcoklgnnlaa", sum := "53544279e0c91df14486a5e07f3bfcedff886f3d418da59d042d24dde80839e0", func := "loop.example/g01371/laws.FnExactPalindromesOf", spec := "fnExactPalindromesOf", unfollowed := true, recurses := true, apart := false, narrowed := true }
def FnExactPalindromesOfUptoSaid : Prop := fnExactPalindromesOfUptoRow.holds Try.pinned (OpenSpec.upto fnExactPalindromesOfSpec)

/-- 'laws.FnExactCountPalindromes', WHERE WHAT IT READS IS OF BULK AT MOST 1048576: true; the input reads as it did. -/
def fnExactCountPalindromesUptoRow : OpenClaim := { program := "ythjbdcoklgnnlaa", sum := "53544279e0c91df14486a5e07f3bfcedff886f3d418da59d042d24dde80839e0", func := "loop.example/g01371/laws.FnExactCountPalindromes", spec := "fnExactCountPalindromes", unfollowed := true, recurses := true, apart := false, narrowed := true }
def FnExactCountPalindromesUptoSaid : Prop := fnExactCountPalindromesUptoRow.holds Try.pinned (OpenSpec.upto fnExactCountPalindromesSpec)

/-- 'laws.FnExactDefectOf', WHERE WHAT IT READS IS OF BULK AT MOST 1048576: true; the input reads as it did. -/
def fnExactDefectOfUptoRow : OpenClaim := { program := "ythjbdcoklgnnlaa", sum := "53544279e0c91df14486a5e07f3bfcedff886f3d418da59d042d24dde80839e0", func := "loop.example/g01371/laws.FnExactDefectOf", spec := "fnExactDefectOf", unfollowed := true, recurses := true, apart := false, narrowed := true }
def FnExactDefectOfUptoSaid : Prop := fnExactDefectOfUptoRow.holds Try.pinned (OpenSpec.upto fnExactDefectOfSpec)

/-- 'laws.FnExactLongestPalindrome', WHERE WHAT IT READS IS OF BULK AT MOST 1048576: true; the input reads as it did. -/
def fnExactLongestPalindromeUptoRow : OpenClaim := { program := "ythjbdcoklgnnlaa", sum := "53544279e0c91df14486a5e07f3bfcedff886f3d418da59d042d24dde80839e0", func := "loop.example/g01371/laws.FnExactLongestPalindrome", spec := "fnExactLongestPalindrome", unfollowed := true, recurses := true, apart := false, narrowed := true }
def FnExactLongestPalindromeUptoSaid : Prop := fnExactLongestPalindromeUptoRow.holds Try.pinned (OpenSpec.upto fnExactLongestPalindromeSpec)

/-- 'laws.FnExactEndLengths', WHERE WHAT IT READS IS OF BULK AT MOST 1048576: true; the input reads as it did. -/
def fnExactEndLengthsUptoRow : OpenClaim := { program := "ythjbdcoklgnnlaa", sum := "53544279e0c91df14486a5e07f3bfcedff886f3d418da59d042d24dde80839e0", func := "loop.example/g01371/laws.FnExactEndLengths", spec := "fnExactEndLengths", apart := false, narrowed := true }
def FnExactEndLengthsUptoSaid : Prop := fnExactEndLengthsUptoRow.holds Try.pinned (OpenSpec.upto fnExactEndLengthsSpec)

/-- 'laws.FnExactFewestParts', WHERE WHAT IT READS IS OF BULK AT MOST 1048576: true; the input reads as it did. -/
def fnExactFewestPartsUptoRow : OpenClaim := { program := "ythjbdcoklgnnlaa", sum := "53544279e0c91df14486a5e07f3bfcedff886f3d418da59d042d24dde80839e0", func := "loop.example/g01371/laws.FnExactFewestParts", spec := "fnExactFewestParts", unfollowed := true, recurses := true, apart := false, narrowed := true }
def FnExactFewestPartsUptoSaid : Prop := fnExactFewestPartsUptoRow.holds Try.pinned (OpenSpec.upto fnExactFewestPartsSpec)

/-- 'laws.FnExactClosureOf', WHERE WHAT IT READS IS OF BULK AT MOST 1048576: true; the input reads as it did. -/
def fnExactClosureOfUptoRow : OpenClaim := { program := "ythjbdcoklgnnlaa", sum := "53544279e0c91df14486a5e07f3bfcedff886f3d418da59d042d24dde80839e0", func := "loop.example/g01371/laws.FnExactClosureOf", spec := "fnExactClosureOf", apart := false, narrowed := true }
def FnExactClosureOfUptoSaid : Prop := fnExactClosureOfUptoRow.holds Try.pinned (OpenSpec.upto fnExactClosureOfSpec)

/-- 'laws.FnExactDirectedWord', WHERE WHAT IT READS IS OF BULK AT MOST 1048576: true; the input reads as it did. -/
def fnExactDirectedWordUptoRow : OpenClaim := { program := "ythjbdcoklgnnlaa", sum := "53544279e0c91df14486a5e07f3bfcedff886f3d418da59d042d24dde80839e0", func := "loop.example/g01371/laws.FnExactDirectedWord", spec := "fnExactDirectedWord", apart := false, narrowed := true }
def FnExactDirectedWordUptoSaid : Prop := fnExactDirectedWordUptoRow.holds Try.pinned (OpenSpec.upto fnExactDirectedWordSpec)

/-- 'laws.FnExactIsClosedWord', WHERE WHAT IT READS IS OF BULK AT MOST 1048576: true; the input reads as it did. -/
def fnExactIsClosedWordUptoRow : OpenClaim := { program := "ythjbdcoklgnnlaa", sum := "53544279e0c91df14486a5e07f3bfcedff886f3d418da59d042d24dde80839e0", func := "loop.example/g01371/laws.FnExactIsClosedWord", spec := "fnExactIsClosedWord", inPlace := ["internal/bytealg.IndexByteString", "internal/bytealg.IndexString"], unfollowed := true, recurses := true, named := ["internal/bytealg.MaxLen"], apart := false, narrowed := true }
def FnExactIsClosedWordUptoSaid : Prop := fnExactIsClosedWordUptoRow.holds Try.pinned (OpenSpec.upto fnExactIsClosedWordSpec)

/-- 'laws.FnExactIsPrivileged', WHERE WHAT IT READS IS OF BULK AT MOST 1048576: true; the input reads as it did. -/
def fnExactIsPrivilegedUptoRow : OpenClaim := { program := "ythjbdcoklgnnlaa", sum := "53544279e0c91df14486a5e07f3bfcedff886f3d418da59d042d24dde80839e0", func := "loop.example/g01371/laws.FnExactIsPrivileged", spec := "fnExactIsPrivileged", inPlace := ["internal/bytealg.IndexByteString", "internal/bytealg.IndexString"], unfollowed := true, recurses := true, named := ["internal/bytealg.MaxLen"], apart := false, narrowed := true }
def FnExactIsPrivilegedUptoSaid : Prop := fnExactIsPrivilegedUptoRow.holds Try.pinned (OpenSpec.upto fnExactIsPrivilegedSpec)

/-- 'laws.FnExactCountClosed', WHERE WHAT IT READS IS OF BULK AT MOST 1048576: true; the input reads as it did. -/
def fnExactCountClosedUptoRow : OpenClaim := { program := "ythjbdcoklgnnlaa", sum := "53544279e0c91df14486a5e07f3bfcedff886f3d418da59d042d24dde80839e0", func := "loop.example/g01371/laws.FnExactCountClosed", spec := "fnExactCountClosed", inPlace := ["internal/bytealg.IndexByteString", "internal/bytealg.IndexString"], unfollowed := true, recurses := true, named := ["internal/bytealg.MaxLen"], apart := false, narrowed := true }
def FnExactCountClosedUptoSaid : Prop := fnExactCountClosedUptoRow.holds Try.pinned (OpenSpec.upto fnExactCountClosedSpec)

end Rows
end Go.Proofs.Ythjbdcoklgnnlaa
