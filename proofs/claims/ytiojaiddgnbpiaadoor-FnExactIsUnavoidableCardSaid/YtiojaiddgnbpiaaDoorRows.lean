/-
  NARROWER THAN 'FOR EVERY INPUT', by the rows' own cells (each row's printed sentence says how): FnExactHasPattern: laid · FnExactFitsPattern: laid · FnExactFirstPlace: laid · FnExactCountAvoiding: laid · FnExactFirstAvoiding: laid · FnExactLongestAvoiding: laid · FnExactIsUnavoidable: laid · FnExactIsPattern: laid · FnPatterns: laid · FnSquareMakers: laid.
  DERIVED. THE GIVEN ROWS OF THIS SEAT. 10 by the template 'for every input the law returns true; each argument reads behind the call as it read before'; 0 by the template 'total and deterministic' (their statements: YtiojaiddgnbpiaaDoorTotals.lean).
  GIVEN WITH THE SEED: the statements are not yours to turn. If you find one false, say at which input.
  Laid BY PROGRAM, IN A SANDBOX (cutbox-rows.mjs): the forced cells as the released guide's own fill.sh prints them over the translation 688bc6761e01041f… (all of the seat's roots in one cut). By AI agents, Wed Nov 11 2026. No macro, syntax, notation, axiom, sorry.
-/
import Derived.Test.YtiojaiddgnbpiaaDoorChecked
import GoSem.PinnedTables
import GoSem.Claim
import GoSem.ClaimJoined
import GoSem.ClaimMapViews
import Derived.JoinedTies
import Derived.KernelRfl
namespace Go.Proofs.YtiojaiddgnbpiaaDoor
/- THE CELL 'sum', in the pinned program and in every row, IS THE sha256 OF THE DUMP (.gsa) THAT YtiojaiddgnbpiaaDoorProg.lean LOADS. Nothing in Lean hashes anything: it is a label: what it is worth is what the hold of that sum in a sandbox is worth. -/
noncomputable def Tryd.pinned : Pinned := { name := "ytiojaiddgnbpiaadoor", sum := "688bc6761e01041fa4976cdfa036f3cb7321f8b808c29a0faceca7e27899c3aa", checked := Tryd.checked }
namespace Rows
def none {H : Type} : Left H := { results := [], args := [] }

/- WHAT THE LISTED PACKAGE-LEVEL VARIABLES READ AS WHEN THE CALL BEGINS. Each datum BY PROGRAM (the guide's laid-datum.mjs) off the statement by which the dump's own 'gosem.cut.vars' lays the variable. In a bare row this is a premise. The card (YtiojaiddgnbpiaaDoorCards.lean) ties it to the program's text. -/
def laid_unicode_utf8_acceptRanges {H : Type} : DataW H := .agg [.agg [.lit (.int .u8 128), .lit (.int .u8 191)], .agg [.lit (.int .u8 160), .lit (.int .u8 191)], .agg [.lit (.int .u8 128), .lit (.int .u8 159)], .agg [.lit (.int .u8 144), .lit (.int .u8 191)], .agg [.lit (.int .u8 128), .lit (.int .u8 143)], .agg [.lit (.int .u8 0), .lit (.int .u8 0)], .agg [.lit (.int .u8 0), .lit (.int .u8 0)], .agg [.lit (.int .u8 0), .lit (.int .u8 0)], .agg [.lit (.int .u8 0), .lit (.int .u8 0)], .agg [.lit (.int .u8 0), .lit (.int .u8 0)], .agg [.lit (.int .u8 0), .lit (.int .u8 0)], .agg [.lit (.int .u8 0), .lit (.int .u8 0)], .agg [.lit (.int .u8 0), .lit (.int .u8 0)], .agg [.lit (.int .u8 0), .lit (.int .u8 0)], .agg [.lit (.int .u8 0), .lit (.int .u8 0)], .agg [.lit (.int .u8 0), .lit (.int .u8 0)]]
/-- One of Go's own tables, pinned by name: the form's constant. -/
def laid_unicode_utf8_first : DataW Unit := Go.Pinned.utf8First

/-- 'laws.FnExactHasPattern': WHATEVER THE INPUT: true; the input reads as it did. -/
def fnExactHasPatternSpec : ChangeSpec := { name := "fnExactHasPattern", fn := fun _ => fun
  | [d1, d2] => { results := [.lit (.bool true)], args := [d1, d2] }
  | _ => none }
def fnExactHasPatternRow : OpenClaim := { program := "ytiojaiddgnbpiaadoor", sum := "688bc6761e01041fa4976cdfa036f3cb7321f8b808c29a0faceca7e27899c3aa", func := "loop.example/g01371/laws.FnExactHasPattern", spec := "fnExactHasPattern", inPlace := ["internal/bytealg.IndexByteString", "internal/bytealg.IndexString", "internal/abi.NoEscape", "internal/bytealg.CountString"], unfollowed := true, recurses := true, named := ["unicode/utf8.first", "unicode/utf8.acceptRanges", "internal/bytealg.MaxLen"], apart := false, laid := [("unicode/utf8.acceptRanges", laid_unicode_utf8_acceptRanges), ("unicode/utf8.first", laid_unicode_utf8_first)] }
def FnExactHasPatternSaid : Prop := fnExactHasPatternRow.holds Tryd.pinned (OpenSpec.ofChange fnExactHasPatternSpec)

/-- ITS FALSE NEIGHBOUR: 'it returns false'. Refute it at one input. -/
def fnExactHasPatternWrong : ChangeSpec := { name := "fnExactHasPattern", fn := fun _ => fun
  | [d1, d2] => { results := [.lit (.bool false)], args := [d1, d2] }
  | _ => none }
def FnExactHasPatternWrongFalsely : Prop := fnExactHasPatternRow.holds Tryd.pinned (OpenSpec.ofChange fnExactHasPatternWrong)

/-- 'laws.FnExactFitsPattern': WHATEVER THE INPUT: true; the input reads as it did. -/
def fnExactFitsPatternSpec : ChangeSpec := { name := "fnExactFitsPattern", fn := fun _ => fun
  | [d1, d2] => { results := [.lit (.bool true)], args := [d1, d2] }
  | _ => none }
def fnExactFitsPatternRow : OpenClaim := { program := "ytiojaiddgnbpiaadoor", sum := "688bc6761e01041fa4976cdfa036f3cb7321f8b808c29a0faceca7e27899c3aa", func := "loop.example/g01371/laws.FnExactFitsPattern", spec := "fnExactFitsPattern", inPlace := ["internal/bytealg.IndexByteString", "internal/bytealg.IndexString", "internal/abi.NoEscape", "internal/bytealg.CountString"], unfollowed := true, recurses := true, named := ["unicode/utf8.first", "unicode/utf8.acceptRanges", "internal/bytealg.MaxLen"], apart := false, laid := [("unicode/utf8.acceptRanges", laid_unicode_utf8_acceptRanges), ("unicode/utf8.first", laid_unicode_utf8_first)] }
def FnExactFitsPatternSaid : Prop := fnExactFitsPatternRow.holds Tryd.pinned (OpenSpec.ofChange fnExactFitsPatternSpec)

/-- ITS FALSE NEIGHBOUR: 'it returns false'. Refute it at one input. -/
def fnExactFitsPatternWrong : ChangeSpec := { name := "fnExactFitsPattern", fn := fun _ => fun
  | [d1, d2] => { results := [.lit (.bool false)], args := [d1, d2] }
  | _ => none }
def FnExactFitsPatternWrongFalsely : Prop := fnExactFitsPatternRow.holds Tryd.pinned (OpenSpec.ofChange fnExactFitsPatternWrong)

/-- 'laws.FnExactFirstPlace': WHATEVER THE INPUT: true; the input reads as it did. -/
def fnExactFirstPlaceSpec : ChangeSpec := { name := "fnExactFirstPlace", fn := fun _ => fun
  | [d1, d2] => { results := [.lit (.bool true)], args := [d1, d2] }
  | _ => none }
def fnExactFirstPlaceRow : OpenClaim := { program := "ytiojaiddgnbpiaadoor", sum := "688bc6761e01041fa4976cdfa036f3cb7321f8b808c29a0faceca7e27899c3aa", func := "loop.example/g01371/laws.FnExactFirstPlace", spec := "fnExactFirstPlace", inPlace := ["internal/bytealg.IndexByteString", "internal/bytealg.IndexString", "internal/abi.NoEscape", "internal/bytealg.CountString"], unfollowed := true, recurses := true, named := ["unicode/utf8.first", "unicode/utf8.acceptRanges", "internal/bytealg.MaxLen"], apart := false, laid := [("unicode/utf8.acceptRanges", laid_unicode_utf8_acceptRanges), ("unicode/utf8.first", laid_unicode_utf8_first)] }
def FnExactFirstPlaceSaid : Prop := fnExactFirstPlaceRow.holds Tryd.pinned (OpenSpec.ofChange fnExactFirstPlaceSpec)

/-- ITS FALSE NEIGHBOUR: 'it returns false'. Refute it at one input. -/
def fnExactFirstPlaceWrong : ChangeSpec := { name := "fnExactFirstPlace", fn := fun _ => fun
  | [d1, d2] => { results := [.lit (.bool false)], args := [d1, d2] }
  | _ => none }
def FnExactFirstPlaceWrongFalsely : Prop := fnExactFirstPlaceRow.holds Tryd.pinned (OpenSpec.ofChange fnExactFirstPlaceWrong)

/-- 'laws.FnExactCountAvoiding': WHATEVER THE INPUT: true; the input reads as it did. -/
def fnExactCountAvoidingSpec : ChangeSpec := { name := "fnExactCountAvoiding", fn := fun _ => fun
  | [d1, d2, d3] => { results := [.lit (.bool true)], args := [d1, d2, d3] }
  | _ => none }
def fnExactCountAvoidingRow : OpenClaim := { program := "ytiojaiddgnbpiaadoor", sum := "688bc6761e01041fa4976cdfa036f3cb7321f8b808c29a0faceca7e27899c3aa", func := "loop.example/g01371/laws.FnExactCountAvoiding", spec := "fnExactCountAvoiding", inPlace := ["internal/bytealg.IndexByteString", "internal/bytealg.IndexString", "internal/abi.NoEscape", "internal/bytealg.CountString"], unfollowed := true, recurses := true, named := ["unicode/utf8.first", "unicode/utf8.acceptRanges", "internal/bytealg.MaxLen"], apart := false, laid := [("unicode/utf8.acceptRanges", laid_unicode_utf8_acceptRanges), ("unicode/utf8.first", laid_unicode_utf8_first)] }
def FnExactCountAvoidingSaid : Prop := fnExactCountAvoidingRow.holds Tryd.pinned (OpenSpec.ofChange fnExactCountAvoidingSpec)

/-- ITS FALSE NEIGHBOUR: 'it returns false'. Refute it at one input. -/
def fnExactCountAvoidingWrong : ChangeSpec := { name := "fnExactCountAvoiding", fn := fun _ => fun
  | [d1, d2, d3] => { results := [.lit (.bool false)], args := [d1, d2, d3] }
  | _ => none }
def FnExactCountAvoidingWrongFalsely : Prop := fnExactCountAvoidingRow.holds Tryd.pinned (OpenSpec.ofChange fnExactCountAvoidingWrong)

/-- 'laws.FnExactFirstAvoiding': WHATEVER THE INPUT: true; the input reads as it did. -/
def fnExactFirstAvoidingSpec : ChangeSpec := { name := "fnExactFirstAvoiding", fn := fun _ => fun
  | [d1, d2, d3] => { results := [.lit (.bool true)], args := [d1, d2, d3] }
  | _ => none }
def fnExactFirstAvoidingRow : OpenClaim := { program := "ytiojaiddgnbpiaadoor", sum := "688bc6761e01041fa4976cdfa036f3cb7321f8b808c29a0faceca7e27899c3aa", func := "loop.example/g01371/laws.FnExactFirstAvoiding", spec := "fnExactFirstAvoiding", inPlace := ["internal/bytealg.IndexByteString", "internal/bytealg.IndexString", "internal/abi.NoEscape", "internal/bytealg.CountString"], unfollowed := true, recurses := true, named := ["unicode/utf8.first", "unicode/utf8.acceptRanges", "internal/bytealg.MaxLen"], apart := false, laid := [("unicode/utf8.acceptRanges", laid_unicode_utf8_acceptRanges), ("unicode/utf8.first", laid_unicode_utf8_first)] }
def FnExactFirstAvoidingSaid : Prop := fnExactFirstAvoidingRow.holds Tryd.pinned (OpenSpec.ofChange fnExactFirstAvoidingSpec)

/-- ITS FALSE NEIGHBOUR: 'it returns false'. Refute it at one input. -/
def fnExactFirstAvoidingWrong : ChangeSpec := { name := "fnExactFirstAvoiding", fn := fun _ => fun
  | [d1, d2, d3] => { results := [.lit (.bool false)], args := [d1, d2, d3] }
  | _ => none }
def FnExactFirstAvoidingWrongFalsely : Prop := fnExactFirstAvoidingRow.holds Tryd.pinned (OpenSpec.ofChange fnExactFirstAvoidingWrong)

/-- 'laws.FnExactLongestAvoiding': WHATEVER THE INPUT: true; the input reads as it did. -/
def fnExactLongestAvoidingSpec : ChangeSpec := { name := "fnExactLongestAvoiding", fn := fun _ => fun
  | [d1, d2] => { results := [.lit (.bool true)], args := [d1, d2] }
  | _ => none }
def fnExactLongestAvoidingRow : OpenClaim := { program := "ytiojaiddgnbpiaadoor", sum := "688bc6761e01041fa4976cdfa036f3cb7321f8b808c29a0faceca7e27899c3aa", func := "loop.example/g01371/laws.FnExactLongestAvoiding", spec := "fnExactLongestAvoiding", inPlace := ["internal/bytealg.IndexByteString", "internal/bytealg.IndexString", "internal/abi.NoEscape", "internal/bytealg.CountString"], unfollowed := true, recurses := true, named := ["unicode/utf8.first", "unicode/utf8.acceptRanges", "internal/bytealg.MaxLen"], apart := false, laid := [("unicode/utf8.acceptRanges", laid_unicode_utf8_acceptRanges), ("unicode/utf8.first", laid_unicode_utf8_first)] }
def FnExactLongestAvoidingSaid : Prop := fnExactLongestAvoidingRow.holds Tryd.pinned (OpenSpec.ofChange fnExactLongestAvoidingSpec)

/-- ITS FALSE NEIGHBOUR: 'it returns false'. Refute it at one input. -/
def fnExactLongestAvoidingWrong : ChangeSpec := { name := "fnExactLongestAvoiding", fn := fun _ => fun
  | [d1, d2] => { results := [.lit (.bool false)], args := [d1, d2] }
  | _ => none }
def FnExactLongestAvoidingWrongFalsely : Prop := fnExactLongestAvoidingRow.holds Tryd.pinned (OpenSpec.ofChange fnExactLongestAvoidingWrong)

/-- 'laws.FnExactIsUnavoidable': WHATEVER THE INPUT: true; the input reads as it did. -/
def fnExactIsUnavoidableSpec : ChangeSpec := { name := "fnExactIsUnavoidable", fn := fun _ => fun
  | [d] => { results := [.lit (.bool true)], args := [d] }
  | _ => none }
def fnExactIsUnavoidableRow : OpenClaim := { program := "ytiojaiddgnbpiaadoor", sum := "688bc6761e01041fa4976cdfa036f3cb7321f8b808c29a0faceca7e27899c3aa", func := "loop.example/g01371/laws.FnExactIsUnavoidable", spec := "fnExactIsUnavoidable", inPlace := ["internal/bytealg.IndexByteString", "internal/bytealg.IndexString", "internal/abi.NoEscape", "internal/bytealg.CountString"], unfollowed := true, recurses := true, named := ["unicode/utf8.first", "unicode/utf8.acceptRanges", "internal/bytealg.MaxLen"], apart := false, laid := [("unicode/utf8.acceptRanges", laid_unicode_utf8_acceptRanges), ("unicode/utf8.first", laid_unicode_utf8_first)] }
def FnExactIsUnavoidableSaid : Prop := fnExactIsUnavoidableRow.holds Tryd.pinned (OpenSpec.ofChange fnExactIsUnavoidableSpec)

/-- ITS FALSE NEIGHBOUR: 'it returns false'. Refute it at one input. -/
def fnExactIsUnavoidableWrong : ChangeSpec := { name := "fnExactIsUnavoidable", fn := fun _ => fun
  | [d] => { results := [.lit (.bool false)], args := [d] }
  | _ => none }
def FnExactIsUnavoidableWrongFalsely : Prop := fnExactIsUnavoidableRow.holds Tryd.pinned (OpenSpec.ofChange fnExactIsUnavoidableWrong)

/-- 'laws.FnExactIsPattern': WHATEVER THE INPUT: true; the input reads as it did. -/
def fnExactIsPatternSpec : ChangeSpec := { name := "fnExactIsPattern", fn := fun _ => fun
  | [d] => { results := [.lit (.bool true)], args := [d] }
  | _ => none }
def fnExactIsPatternRow : OpenClaim := { program := "ytiojaiddgnbpiaadoor", sum := "688bc6761e01041fa4976cdfa036f3cb7321f8b808c29a0faceca7e27899c3aa", func := "loop.example/g01371/laws.FnExactIsPattern", spec := "fnExactIsPattern", inPlace := ["internal/bytealg.IndexByteString", "internal/bytealg.IndexString"], named := ["unicode/utf8.first", "unicode/utf8.acceptRanges", "internal/bytealg.MaxLen"], apart := false, laid := [("unicode/utf8.acceptRanges", laid_unicode_utf8_acceptRanges), ("unicode/utf8.first", laid_unicode_utf8_first)] }
def FnExactIsPatternSaid : Prop := fnExactIsPatternRow.holds Tryd.pinned (OpenSpec.ofChange fnExactIsPatternSpec)

/-- ITS FALSE NEIGHBOUR: 'it returns false'. Refute it at one input. -/
def fnExactIsPatternWrong : ChangeSpec := { name := "fnExactIsPattern", fn := fun _ => fun
  | [d] => { results := [.lit (.bool false)], args := [d] }
  | _ => none }
def FnExactIsPatternWrongFalsely : Prop := fnExactIsPatternRow.holds Tryd.pinned (OpenSpec.ofChange fnExactIsPatternWrong)

/-- 'laws.FnPatterns': WHATEVER THE INPUT: true; the input reads as it did. -/
def fnPatternsSpec : ChangeSpec := { name := "fnPatterns", fn := fun _ => fun
  | [d] => { results := [.lit (.bool true)], args := [d] }
  | _ => none }
def fnPatternsRow : OpenClaim := { program := "ytiojaiddgnbpiaadoor", sum := "688bc6761e01041fa4976cdfa036f3cb7321f8b808c29a0faceca7e27899c3aa", func := "loop.example/g01371/laws.FnPatterns", spec := "fnPatterns", inPlace := ["internal/bytealg.IndexByteString", "internal/bytealg.IndexString", "internal/abi.NoEscape", "internal/bytealg.CountString"], unfollowed := true, recurses := true, named := ["unicode/utf8.first", "unicode/utf8.acceptRanges", "internal/bytealg.MaxLen"], apart := false, laid := [("unicode/utf8.acceptRanges", laid_unicode_utf8_acceptRanges), ("unicode/utf8.first", laid_unicode_utf8_first)] }
def FnPatternsSaid : Prop := fnPatternsRow.holds Tryd.pinned (OpenSpec.ofChange fnPatternsSpec)

/-- ITS FALSE NEIGHBOUR: 'it returns false'. Refute it at one input. -/
def fnPatternsWrong : ChangeSpec := { name := "fnPatterns", fn := fun _ => fun
  | [d] => { results := [.lit (.bool false)], args := [d] }
  | _ => none }
def FnPatternsWrongFalsely : Prop := fnPatternsRow.holds Tryd.pinned (OpenSpec.ofChange fnPatternsWrong)

/-- 'laws.FnSquareMakers': WHATEVER THE INPUT: true; the input reads as it did. -/
def fnSquareMakersSpec : ChangeSpec := { name := "fnSquareMakers", fn := fun _ => fun
  | [d] => { results := [.lit (.bool true)], args := [d] }
  | _ => none }
def fnSquareMakersRow : OpenClaim := { program := "ytiojaiddgnbpiaadoor", sum := "688bc6761e01041fa4976cdfa036f3cb7321f8b808c29a0faceca7e27899c3aa", func := "loop.example/g01371/laws.FnSquareMakers", spec := "fnSquareMakers", inPlace := ["internal/bytealg.IndexByteString", "internal/bytealg.IndexString", "internal/abi.NoEscape", "internal/bytealg.CountString"], unfollowed := true, recurses := true, named := ["unicode/utf8.first", "unicode/utf8.acceptRanges", "internal/bytealg.MaxLen"], apart := false, laid := [("unicode/utf8.acceptRanges", laid_unicode_utf8_acceptRanges), ("unicode/utf8.first", laid_unicode_utf8_first)] }
def FnSquareMakersSaid : Prop := fnSquareMakersRow.holds Tryd.pinned (OpenSpec.ofChange fnSquareMakersSpec)

/-- ITS FALSE NEIGHBOUR: 'it returns false'. Refute it at one input. -/
def fnSquareMakersWrong : ChangeSpec := { name := "fnSquareMakers", fn := fun _ => fun
  | [d] => { results := [.lit (.bool false)], args := [d] }
  | _ => none }
def FnSquareMakersWrongFalsely : Prop := fnSquareMakersRow.holds Tryd.pinned (OpenSpec.ofChange fnSquareMakersWrong)

/- THE SECOND FORM. 'bulk': how many values and letters a reading holds, each counted each time it is reached (what is shared counts as often as it is met; a slice's spare places count too). A statement '..UptoSaid' is the law's where the arguments, and the package variables that the reading takes, are together of bulk at most 1048576: NARROWER than '..Said'. Prove '..Said' where nothing that the law and all that it calls make is longer than what came in: it says more and counts as full. Else prove '..UptoSaid'. A law counts once. -/
mutual
def uptoBulk {H : Type} : DataW H → Nat
  | .lit (.string bytes) => bytes.length + 1
  | .lit _ => 1
  | .nil => 1
  | .ptr d => uptoBulk d + 1
  | .slice elems spare => uptoBulkAll elems + uptoBulkAll spare + 1
  | .agg parts => uptoBulkAll parts + 1
  | .iface _ d => uptoBulk d + 1
  | .map entries => uptoBulkEntries entries + 1
  | .held _ => 1
def uptoBulkAll {H : Type} : List (DataW H) → Nat
  | [] => 0
  | d :: r => uptoBulk d + uptoBulkAll r
def uptoBulkEntries {H : Type} : List (Lit × DataW H) → Nat
  | [] => 0
  | x :: r => uptoBulkEntry x + uptoBulkEntries r
def uptoBulkEntry {H : Type} : Lit × DataW H → Nat
  | (.string bytes, d) => bytes.length + uptoBulk d + 1
  | (_, d) => uptoBulk d + 1
 end
def uptoSmall : (H : Type) → List (DataW H) → Bool := fun _ ds => decide (uptoBulkAll ds ≤ 1048576)
def OpenSpec.upto (s : _root_.Go.ChangeSpec) : _root_.Go.OpenSpec := { _root_.Go.OpenSpec.ofChange s with cond := some uptoSmall }

/-- 'laws.FnExactHasPattern', WHERE WHAT IT READS IS OF BULK AT MOST 1048576: true; the input reads as it did. -/
def fnExactHasPatternUptoRow : OpenClaim := { program := "ytiojaiddgnbpiaadoor", sum := "688bc6761e01041fa4976cdfa036f3cb7321f8b808c29a0faceca7e27899c3aa", func := "loop.example/g01371/laws.FnExactHasPattern", spec := "fnExactHasPattern", inPlace := ["internal/bytealg.IndexByteString", "internal/bytealg.IndexString", "internal/abi.NoEscape", "internal/bytealg.CountString"], unfollowed := true, recurses := true, named := ["unicode/utf8.first", "unicode/utf8.acceptRanges", "internal/bytealg.MaxLen"], apart := false, laid := [("unicode/utf8.acceptRanges", laid_unicode_utf8_acceptRanges), ("unicode/utf8.first", laid_unicode_utf8_first)], narrowed := true }
def FnExactHasPatternUptoSaid : Prop := fnExactHasPatternUptoRow.holds Tryd.pinned (OpenSpec.upto fnExactHasPatternSpec)

/-- 'laws.FnExactFitsPattern', WHERE WHAT IT READS IS OF BULK AT MOST 1048576: true; the input reads as it did. -/
def fnExactFitsPatternUptoRow : OpenClaim := { program := "ytiojaiddgnbpiaadoor", sum := "688bc6761e01041fa4976cdfa036f3cb7321f8b808c29a0faceca7e27899c3aa", func := "loop.example/g01371/laws.FnExactFitsPattern", spec := "fnExactFitsPattern", inPlace := ["internal/bytealg.IndexByteString", "internal/bytealg.IndexString", "internal/abi.NoEscape", "internal/bytealg.CountString"], unfollowed := true, recurses := true, named := ["unicode/utf8.first", "unicode/utf8.acceptRanges", "internal/bytealg.MaxLen"], apart := false, laid := [("unicode/utf8.acceptRanges", laid_unicode_utf8_acceptRanges), ("unicode/utf8.first", laid_unicode_utf8_first)], narrowed := true }
def FnExactFitsPatternUptoSaid : Prop := fnExactFitsPatternUptoRow.holds Tryd.pinned (OpenSpec.upto fnExactFitsPatternSpec)

/-- 'laws.FnExactFirstPlace', WHERE WHAT IT READS IS OF BULK AT MOST 1048576: true; the input reads as it did. -/
def fnExactFirstPlaceUptoRow : OpenClaim := { program := "ytiojaiddgnbpiaadoor", sum := "688bc6761e01041fa4976cdfa036f3cb7321f8b808c29a0faceca7e27899c3aa", func := "loop.example/g01371/laws.FnExactFirstPlace", spec := "fnExactFirstPlace", inPlace := ["internal/bytealg.IndexByteString", "internal/bytealg.IndexString", "internal/abi.NoEscape", "internal/bytealg.CountString"], unfollowed := true, recurses := true, named := ["unicode/utf8.first", "unicode/utf8.acceptRanges", "internal/bytealg.MaxLen"], apart := false, laid := [("unicode/utf8.acceptRanges", laid_unicode_utf8_acceptRanges), ("unicode/utf8.first", laid_unicode_utf8_first)], narrowed := true }
def FnExactFirstPlaceUptoSaid : Prop := fnExactFirstPlaceUptoRow.holds Tryd.pinned (OpenSpec.upto fnExactFirstPlaceSpec)

/-- 'laws.FnExactCountAvoiding', WHERE WHAT IT READS IS OF BULK AT MOST 1048576: true; the input reads as it did. -/
def fnExactCountAvoidingUptoRow : OpenClaim := { program := "ytiojaiddgnbpiaadoor", sum := "688bc6761e01041fa4976cdfa036f3cb7321f8b808c29a0faceca7e27899c3aa", func := "loop.example/g01371/laws.FnExactCountAvoiding", spec := "fnExactCountAvoiding", inPlace := ["internal/bytealg.IndexByteString", "internal/bytealg.IndexString", "internal/abi.NoEscape", "internal/bytealg.CountString"], unfollowed := true, recurses := true, named := ["unicode/utf8.first", "unicode/utf8.acceptRanges", "internal/bytealg.MaxLen"], apart := false, laid := [("unicode/utf8.acceptRanges", laid_unicode_utf8_acceptRanges), ("unicode/utf8.first", laid_unicode_utf8_first)], narrowed := true }
def FnExactCountAvoidingUptoSaid : Prop := fnExactCountAvoidingUptoRow.holds Tryd.pinned (OpenSpec.upto fnExactCountAvoidingSpec)

/-- 'laws.FnExactFirstAvoiding', WHERE WHAT IT READS IS OF BULK AT MOST 1048576: true; the input reads as it did. -/
def fnExactFirstAvoidingUptoRow : OpenClaim := { program := "ytiojaiddgnbpiaadoor", sum := "688bc6761e01041fa4976cdfa036f3cb7321f8b808c29a0faceca7e27899c3aa", func := "loop.example/g01371/laws.FnExactFirstAvoiding", spec := "fnExactFirstAvoiding", inPlace := ["internal/bytealg.IndexByteString", "internal/bytealg.IndexString", "internal/abi.NoEscape", "internal/bytealg.CountString"], unfollowed := true, recurses := true, named := ["unicode/utf8.first", "unicode/utf8.acceptRanges", "internal/bytealg.MaxLen"], apart := false, laid := [("unicode/utf8.acceptRanges", laid_unicode_utf8_acceptRanges), ("unicode/utf8.first", laid_unicode_utf8_first)], narrowed := true }
def FnExactFirstAvoidingUptoSaid : Prop := fnExactFirstAvoidingUptoRow.holds Tryd.pinned (OpenSpec.upto fnExactFirstAvoidingSpec)

/-- 'laws.FnExactLongestAvoiding', WHERE WHAT IT READS IS OF BULK AT MOST 1048576: true; the input reads as it did. -/
def fnExactLongestAvoidingUptoRow : OpenClaim := { program := "ytiojaiddgnbpiaadoor", sum := "688bc6761e01041fa4976cdfa036f3cb7321f8b808c29a0faceca7e27899c3aa", func := "loop.example/g01371/laws.FnExactLongestAvoiding", spec := "fnExactLongestAvoiding", inPlace := ["internal/bytealg.IndexByteString", "internal/bytealg.IndexString", "internal/abi.NoEscape", "internal/bytealg.CountString"], unfollowed := true, recurses := true, named := ["unicode/utf8.first", "unicode/utf8.acceptRanges", "internal/bytealg.MaxLen"], apart := false, laid := [("unicode/utf8.acceptRanges", laid_unicode_utf8_acceptRanges), ("unicode/utf8.first", laid_unicode_utf8_first)], narrowed := true }
def FnExactLongestAvoidingUptoSaid : Prop := fnExactLongestAvoidingUptoRow.holds Tryd.pinned (OpenSpec.upto fnExactLongestAvoidingSpec)

/-- 'laws.FnExactIsUnavoidable', WHERE WHAT IT READS IS OF BULK AT MOST 1048576: true; the input reads as it did. -/
def fnExactIsUnavoidableUptoRow : OpenClaim := { program := "ytiojaiddgnbpiaadoor", sum := "688bc6761e01041fa4976cdfa036f3cb7321f8b808c29a0faceca7e27899c3aa", func := "loop.example/g01371/laws.FnExactIsUnavoidable", spec := "fnExactIsUnavoidable", inPlace := ["internal/bytealg.IndexByteString", "internal/bytealg.IndexString", "internal/abi.NoEscape", "internal/bytealg.CountString"], unfollowed := true, recurses := true, named := ["unicode/utf8.first", "unicode/utf8.acceptRanges", "internal/bytealg.MaxLen"], apart := false, laid := [("unicode/utf8.acceptRanges", laid_unicode_utf8_acceptRanges), ("unicode/utf8.first", laid_unicode_utf8_first)], narrowed := true }
def FnExactIsUnavoidableUptoSaid : Prop := fnExactIsUnavoidableUptoRow.holds Tryd.pinned (OpenSpec.upto fnExactIsUnavoidableSpec)

/-- 'laws.FnExactIsPattern', WHERE WHAT IT READS IS OF BULK AT MOST 1048576: true; the input reads as it did. -/
def fnExactIsPatternUptoRow : OpenClaim := { program := "ytiojaiddgnbpiaadoor", sum := "688bc6761e01041fa4976cdfa036f3cb7321f8b808c29a0faceca7e27899c3aa", func := "loop.example/g01371/laws.FnExactIsPattern", spec := "fnExactIsPattern", inPlace := ["internal/bytealg.IndexByteString", "internal/bytealg.IndexString"], named := ["unicode/utf8.first", "unicode/utf8.acceptRanges", "internal/bytealg.MaxLen"], apart := false, laid := [("unicode/utf8.acceptRanges", laid_unicode_utf8_acceptRanges), ("unicode/utf8.first", laid_unicode_utf8_first)], narrowed := true }
def FnExactIsPatternUptoSaid : Prop := fnExactIsPatternUptoRow.holds Tryd.pinned (OpenSpec.upto fnExactIsPatternSpec)

/-- 'laws.FnPatterns', WHERE WHAT IT READS IS OF BULK AT MOST 1048576: true; the input reads as it did. -/
def fnPatternsUptoRow : OpenClaim := { program := "ytiojaiddgnbpiaadoor", sum := "688bc6761e01041fa4976cdfa036f3cb7321f8b808c29a0faceca7e27899c3aa", func := "loop.example/g01371/laws.FnPatterns", spec := "fnPatterns", inPlace := ["internal/bytealg.IndexByteString", "internal/bytealg.IndexString", "internal/abi.NoEscape", "internal/bytealg.CountString"], unfollowed := true, recurses := true, named := ["unicode/utf8.first", "unicode/utf8.acceptRanges", "internal/bytealg.MaxLen"], apart := false, laid := [("unicode/utf8.acceptRanges", laid_unicode_utf8_acceptRanges), ("unicode/utf8.first", laid_unicode_utf8_first)], narrowed := true }
def FnPatternsUptoSaid : Prop := fnPatternsUptoRow.holds Tryd.pinned (OpenSpec.upto fnPatternsSpec)

/-- 'laws.FnSquareMakers', WHERE WHAT IT READS IS OF BULK AT MOST 1048576: true; the input reads as it did. -/
def fnSquareMakersUptoRow : OpenClaim := { program := "ytiojaiddgnbpiaadoor", sum := "688bc6761e01041fa4976cdfa036f3cb7321f8b808c29a0faceca7e27899c3aa", func := "loop.example/g01371/laws.FnSquareMakers", spec := "fnSquareMakers", inPlace := ["internal/bytealg.IndexByteString", "internal/bytealg.IndexString", "internal/abi.NoEscape", "internal/bytealg.CountString"], unfollowed := true, recurses := true, named := ["unicode/utf8.first", "unicode/utf8.acceptRanges", "internal/bytealg.MaxLen"], apart := false, laid := [("unicode/utf8.acceptRanges", laid_unicode_utf8_acceptRanges), ("unicode/utf8.first", laid_unicode_utf8_first)], narrowed := true }
def FnSquareMakersUptoSaid : Prop := fnSquareMakersUptoRow.holds Tryd.pinned (OpenSpec.upto fnSquareMakersSpec)

end Rows
end Go.Proofs.YtiojaiddgnbpiaaDoor
