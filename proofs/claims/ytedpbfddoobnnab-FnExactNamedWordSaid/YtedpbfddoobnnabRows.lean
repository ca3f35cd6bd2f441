/-
  No cell of these rows narrows 'for every input' (looked for: loops, veiled, ifaces, maps, wideKeys, modest, calm, conditions, laid).
  DERIVED. THE GIVEN ROWS OF THIS SEAT. 9 by the template 'for every input the law returns true; each argument reads behind the call as it read before'; 0 by the template 'total and deterministic' (their statements: YtedpbfddoobnnabTotals.lean).
  GIVEN WITH THE SEED: the statements are not yours to turn. If you find one false, say at which input.
  Laid BY PROGRAM, IN A SANDBOX (cutbox-rows.mjs): the forced cells as the released guide's own fill.sh prints them over the translation 2b0db281558b2544… (all of the seat's roots in one cut). By AI agents, Wed Nov 11 2026. No macro, syntax, notation, axiom, sorry.
-/
import Derived.Test.YtedpbfddoobnnabChecked
import GoSem.Claim
import GoSem.ClaimJoined
import GoSem.ClaimMapViews
import Derived.JoinedTies
import Derived.KernelRfl
namespace Go.Proofs.Ytedpbfddoobnnab
/- THE CELL 'sum', in the pinned program and in every row, IS THE sha256 OF THE DUMP (.gsa) THAT YtedpbfddoobnnabProg.lean LOADS. Nothing in Lean hashes anything: it is a label: what it is worth is what the hold of that sum in a sandbox is worth. -/
noncomputable def Try.pinned : Pinned := { name := "ytedpbfddoobnnab", sum := "2b0db281558b2544092f86c1edf3f29c0c8332ba74683594105e048559575048", checked := Try.checked }
namespace Rows
def none {H : Type} : Left H := { results := [], args := [] }

/-- 'laws.FnExactCommonBeginning': WHATEVER THE INPUT: true; the input reads as it did. -/
def fnExactCommonBeginningSpec : ChangeSpec := { name := "fnExactCommonBeginning", fn := fun _ => fun
  | [d1, d2] => { results := [.lit (.bool true)], args := [d1, d2] }
  | _ => none }
def fnExactCommonBeginningRow : OpenClaim := { program := "ytedpbfddoobnnab", sum := "2b0db281558b2544092f86c1edf3f29c0c8332ba74683594105e048559575048", func := "loop.example/g01371/laws.FnExactCommonBeginning", spec := "fnExactCommonBeginning", apart := false }
def FnExactCommonBeginningSaid : Prop := fnExactCommonBeginningRow.holds Try.pinned (OpenSpec.ofChange fnExactCommonBeginningSpec)

/-- ITS FALSE NEIGHBOUR: 'it returns false'. Refute it at one input. -/
def fnExactCommonBeginningWrong : ChangeSpec := { name := "fnExactCommonBeginning", fn := fun _ => fun
  | [d1, d2] => { results := [.lit (.bool false)], args := [d1, d2] }
  | _ => none }
def FnExactCommonBeginningWrongFalsely : Prop := fnExactCommonBeginningRow.holds Try.pinned (OpenSpec.ofChange fnExactCommonBeginningWrong)

/-- 'laws.FnExactCommonEnd': WHATEVER THE INPUT: true; the input reads as it did. -/
def fnExactCommonEndSpec : ChangeSpec := { name := "fnExactCommonEnd", fn := fun _ => fun
  | [d1, d2] => { results := [.lit (.bool true)], args := [d1, d2] }
  | _ => none }
def fnExactCommonEndRow : OpenClaim := { program := "ytedpbfddoobnnab", sum := "2b0db281558b2544092f86c1edf3f29c0c8332ba74683594105e048559575048", func := "loop.example/g01371/laws.FnExactCommonEnd", spec := "fnExactCommonEnd", apart := false }
def FnExactCommonEndSaid : Prop := fnExactCommonEndRow.holds Try.pinned (OpenSpec.ofChange fnExactCommonEndSpec)

/-- ITS FALSE NEIGHBOUR: 'it returns false'. Refute it at one input. -/
def fnExactCommonEndWrong : ChangeSpec := { name := "fnExactCommonEnd", fn := fun _ => fun
  | [d1, d2] => { results := [.lit (.bool false)], args := [d1, d2] }
  | _ => none }
def FnExactCommonEndWrongFalsely : Prop := fnExactCommonEndRow.holds Try.pinned (OpenSpec.ofChange fnExactCommonEndWrong)

/-- 'laws.FnExactIsScattered': WHATEVER THE INPUT: true; the input reads as it did. -/
def fnExactIsScatteredSpec : ChangeSpec := { name := "fnExactIsScattered", fn := fun _ => fun
  | [d1, d2] => { results := [.lit (.bool true)], args := [d1, d2] }
  | _ => none }
def fnExactIsScatteredRow : OpenClaim := { program := "ytedpbfddoobnnab", sum := "2b0db281558b2544092f86c1edf3f29c0c8332ba74683594105e048559575048", func := "loop.example/g01371/laws.FnExactIsScattered", spec := "fnExactIsScattered", apart := false }
def FnExactIsScatteredSaid : Prop := fnExactIsScatteredRow.holds Try.pinned (OpenSpec.ofChange fnExactIsScatteredSpec)

/-- ITS FALSE NEIGHBOUR: 'it returns false'. Refute it at one input. -/
def fnExactIsScatteredWrong : ChangeSpec := { name := "fnExactIsScattered", fn := fun _ => fun
  | [d1, d2] => { results := [.lit (.bool false)], args := [d1, d2] }
  | _ => none }
def FnExactIsScatteredWrongFalsely : Prop := fnExactIsScatteredRow.holds Try.pinned (OpenSpec.ofChange fnExactIsScatteredWrong)

/-- 'laws.FnExactCountScattered': WHATEVER THE INPUT: true; the input reads as it did. -/
def fnExactCountScatteredSpec : ChangeSpec := { name := "fnExactCountScattered", fn := fun _ => fun
  | [d1, d2] => { results := [.lit (.bool true)], args := [d1, d2] }
  | _ => none }
def fnExactCountScatteredRow : OpenClaim := { program := "ytedpbfddoobnnab", sum := "2b0db281558b2544092f86c1edf3f29c0c8332ba74683594105e048559575048", func := "loop.example/g01371/laws.FnExactCountScattered", spec := "fnExactCountScattered", apart := false }
def FnExactCountScatteredSaid : Prop := fnExactCountScatteredRow.holds Try.pinned (OpenSpec.ofChange fnExactCountScatteredSpec)

/-- ITS FALSE NEIGHBOUR: 'it returns false'. Refute it at one input. -/
def fnExactCountScatteredWrong : ChangeSpec := { name := "fnExactCountScattered", fn := fun _ => fun
  | [d1, d2] => { results := [.lit (.bool false)], args := [d1, d2] }
  | _ => none }
def FnExactCountScatteredWrongFalsely : Prop := fnExactCountScatteredRow.holds Try.pinned (OpenSpec.ofChange fnExactCountScatteredWrong)

/-- 'laws.FnExactCompareWords': WHATEVER THE INPUT: true; the input reads as it did. -/
def fnExactCompareWordsSpec : ChangeSpec := { name := "fnExactCompareWords", fn := fun _ => fun
  | [d1, d2] => { results := [.lit (.bool true)], args := [d1, d2] }
  | _ => none }
def fnExactCompareWordsRow : OpenClaim := { program := "ytedpbfddoobnnab", sum := "2b0db281558b2544092f86c1edf3f29c0c8332ba74683594105e048559575048", func := "loop.example/g01371/laws.FnExactCompareWords", spec := "fnExactCompareWords", inPlace := ["internal/bytealg.abigen_runtime_cmpstring"], apart := false }
def FnExactCompareWordsSaid : Prop := fnExactCompareWordsRow.holds Try.pinned (OpenSpec.ofChange fnExactCompareWordsSpec)

/-- ITS FALSE NEIGHBOUR: 'it returns false'. Refute it at one input. -/
def fnExactCompareWordsWrong : ChangeSpec := { name := "fnExactCompareWords", fn := fun _ => fun
  | [d1, d2] => { results := [.lit (.bool false)], args := [d1, d2] }
  | _ => none }
def FnExactCompareWordsWrongFalsely : Prop := fnExactCompareWordsRow.holds Try.pinned (OpenSpec.ofChange fnExactCompareWordsWrong)

/-- 'laws.FnExactWordsOf': WHATEVER THE INPUT: true; the input reads as it did. -/
def fnExactWordsOfSpec : ChangeSpec := { name := "fnExactWordsOf", fn := fun _ => fun
  | [d1, d2] => { results := [.lit (.bool true)], args := [d1, d2] }
  | _ => none }
def fnExactWordsOfRow : OpenClaim := { program := "ytedpbfddoobnnab", sum := "2b0db281558b2544092f86c1edf3f29c0c8332ba74683594105e048559575048", func := "loop.example/g01371/laws.FnExactWordsOf", spec := "fnExactWordsOf", apart := false }
def FnExactWordsOfSaid : Prop := fnExactWordsOfRow.holds Try.pinned (OpenSpec.ofChange fnExactWordsOfSpec)

/-- ITS FALSE NEIGHBOUR: 'it returns false'. Refute it at one input. -/
def fnExactWordsOfWrong : ChangeSpec := { name := "fnExactWordsOf", fn := fun _ => fun
  | [d1, d2] => { results := [.lit (.bool false)], args := [d1, d2] }
  | _ => none }
def FnExactWordsOfWrongFalsely : Prop := fnExactWordsOfRow.holds Try.pinned (OpenSpec.ofChange fnExactWordsOfWrong)

/-- 'laws.FnExactLettersOf': WHATEVER THE INPUT: true; the input reads as it did. -/
def fnExactLettersOfSpec : ChangeSpec := { name := "fnExactLettersOf", fn := fun _ => fun
  | [d] => { results := [.lit (.bool true)], args := [d] }
  | _ => none }
def fnExactLettersOfRow : OpenClaim := { program := "ytedpbfddoobnnab", sum := "2b0db281558b2544092f86c1edf3f29c0c8332ba74683594105e048559575048", func := "loop.example/g01371/laws.FnExactLettersOf", spec := "fnExactLettersOf", apart := false }
def FnExactLettersOfSaid : Prop := fnExactLettersOfRow.holds Try.pinned (OpenSpec.ofChange fnExactLettersOfSpec)

/-- ITS FALSE NEIGHBOUR: 'it returns false'. Refute it at one input. -/
def fnExactLettersOfWrong : ChangeSpec := { name := "fnExactLettersOf", fn := fun _ => fun
  | [d] => { results := [.lit (.bool false)], args := [d] }
  | _ => none }
def FnExactLettersOfWrongFalsely : Prop := fnExactLettersOfRow.holds Try.pinned (OpenSpec.ofChange fnExactLettersOfWrong)

/-- 'laws.FnExactWordOfLetters': WHATEVER THE INPUT: true; the input reads as it did. -/
def fnExactWordOfLettersSpec : ChangeSpec := { name := "fnExactWordOfLetters", fn := fun _ => fun
  | [d] => { results := [.lit (.bool true)], args := [d] }
  | _ => none }
def fnExactWordOfLettersRow : OpenClaim := { program := "ytedpbfddoobnnab", sum := "2b0db281558b2544092f86c1edf3f29c0c8332ba74683594105e048559575048", func := "loop.example/g01371/laws.FnExactWordOfLetters", spec := "fnExactWordOfLetters", inPlace := ["internal/abi.NoEscape"], apart := false }
def FnExactWordOfLettersSaid : Prop := fnExactWordOfLettersRow.holds Try.pinned (OpenSpec.ofChange fnExactWordOfLettersSpec)

/-- ITS FALSE NEIGHBOUR: 'it returns false'. Refute it at one input. -/
def fnExactWordOfLettersWrong : ChangeSpec := { name := "fnExactWordOfLetters", fn := fun _ => fun
  | [d] => { results := [.lit (.bool false)], args := [d] }
  | _ => none }
def FnExactWordOfLettersWrongFalsely : Prop := fnExactWordOfLettersRow.holds Try.pinned (OpenSpec.ofChange fnExactWordOfLettersWrong)

/-- 'laws.FnExactNamedWord': WHATEVER THE INPUT: true; the input reads as it did. -/
def fnExactNamedWordSpec : ChangeSpec := { name := "fnExactNamedWord", fn := fun _ => fun
  | [d1, d2] => { results := [.lit (.bool true)], args := [d1, d2] }
  | _ => none }
def fnExactNamedWordRow : OpenClaim := { program := "ytedpbfddoobnnab", sum := "2b0db281558b2544092f86c1edf3f29c0c8332ba74683594105e048559575048", func := "loop.example/g01371/laws.FnExactNamedWord", spec := "fnExactNamedWord", apart := false }
def FnExactNamedWordSaid : Prop := fnExactNamedWordRow.holds Try.pinned (OpenSpec.ofChange fnExactNamedWordSpec)

/-- ITS FALSE NEIGHBOUR: 'it returns false'. Refute it at one input. -/
def fnExactNamedWordWrong : ChangeSpec := { name := "fnExactNamedWord", fn := fun _ => fun
  | [d1, d2] => { results := [.lit (.bool false)], args := [d1, d2] }
  | _ => none }
def FnExactNamedWordWrongFalsely : Prop := fnExactNamedWordRow.holds Try.pinned (OpenSpec.ofChange fnExactNamedWordWrong)

/- THE SECOND FORM. 'bulk': how many values and letters a reading holds, each counted each time it is reached (what is shared counts as often as it is met; a slice's spare places count too). A statement '..UptoSaid' is the law's where the arguments, and the package variables that the reading takes, are together of bulk at most 1048576: NARROWER than '..Said'. Prove '..Said' where nothing that the law and all that it calls make is longer than what came in: it says more and counts as full. Else prove '..UptoSaid'. A law counts once. -/
mutual
def uptoBulk {H : Type} : DataW H → Nat
  | .lit (.string bytes) => bytes.length + 1
  | .lit _ => 1
  | .nil => 1
  | .ptr d => uptoBulk d + 1
  | .slice elems spare => uptoBulkAll elems + uptoBulkAll spare + 1
  | .agg parts => uptoBulkAll parts + 1
  | .iface _ d => uptoBulk d + 1
  | .map entries => uptoBulkEntries entries + 1
  | .held _ => 1
def uptoBulkAll {H : Type} : List (DataW H) → Nat
  | [] => 0
  | d :: r => uptoBulk d + uptoBulkAll r
def uptoBulkEntries {H : Type} : List (Lit × DataW H) → Nat
  | [] => 0
  | x :: r => uptoBulkEntry x + uptoBulkEntries r
def uptoBulkEntry {H : Type} : Lit × DataW H → Nat
  | (.string bytes, d) => bytes.length + uptoBulk d + 1
  | (_, d) => uptoBulk d + 1
 end
def uptoSmall : (H : Type) → List (DataW H) → Bool := fun _ ds => decide (uptoBulkAll ds ≤ 1048576)
def OpenSpec.upto (s : _root_.Go.ChangeSpec) : _root_.Go.OpenSpec := { _root_.Go.OpenSpec.ofChange s with cond := some uptoSmall }

/-- 'laws.FnExactCommonBeginning', WHERE WHAT IT READS IS OF BULK AT MOST 1048576: true; the input reads as it did. -/
def fnExactCommonBeginningUptoRow : OpenClaim := { program := "ytedpbfddoobnnab", sum := "2b0db281558b2544092f86c1edf3f29c0c8332ba74683594105e048559575048", func := "loop.example/g01371/laws.FnExactCommonBeginning", spec := "fnExactCommonBeginning", apart := false, narrowed := true }
def FnExactCommonBeginningUptoSaid : Prop := fnExactCommonBeginningUptoRow.holds Try.pinned (OpenSpec.upto fnExactCommonBeginningSpec)

/-- 'laws.FnExactCommonEnd', WHERE WHAT IT READS IS OF BULK AT MOST 1048576: true; the input reads as it did. -/
def fnExactCommonEndUptoRow : OpenClaim := { program := "ytedpbfddoobnnab", sum := "2b0db281558b2544092f86c1edf3f29c0c8332ba74683594105e048559575048", func := "loop.example/g01371/laws.FnExactCommonEnd", spec := "fnExactCommonEnd", apart := false, narrowed := true }
def FnExactCommonEndUptoSaid : Prop := fnExactCommonEndUptoRow.holds Try.pinned (OpenSpec.upto fnExactCommonEndSpec)

/-- 'laws.FnExactIsScattered', WHERE WHAT IT READS IS OF BULK AT MOST 1048576: true; the input reads as it did. -/
def fnExactIsScatteredUptoRow : OpenClaim := { program := "ytedpbfddoobnnab", sum := "2b0db281558b2544092f86c1edf3f29c0c8332ba74683594105e048559575048", func := "loop.example/g01371/laws.FnExactIsScattered", spec := "fnExactIsScattered", apart := false, narrowed := true }
def FnExactIsScatteredUptoSaid : Prop := fnExactIsScatteredUptoRow.holds Try.pinned (OpenSpec.upto fnExactIsScatteredSpec)

/-- 'laws.FnExactCountScattered', WHERE WHAT IT READS IS OF BULK AT MOST 1048576: true; the input reads as it did. -/
def fnExactCountScatteredUptoRow : OpenClaim := { program := "ytedpbfddoobnnab", sum := "2b0db281558b2544092f86c1edf3f29c0c8332ba74683594105e048559575048", func := "loop.example/g01371/laws.FnExactCountScattered", spec := "fnExactCountScattered", apart := false, narrowed := true }
def FnExactCountScatteredUptoSaid : Prop := fnExactCountScatteredUptoRow.holds Try.pinned (OpenSpec.upto fnExactCountScatteredSpec)

/-- 'laws.FnExactCompareWords', WHERE WHAT IT READS IS OF BULK AT MOST 1048576: true; the input reads as it did. -/
def fnExactCompareWordsUptoRow : OpenClaim := { program := "ytedpbfddoobnnab", sum := "2b0db281558b2544092f86c1edf3f29c0c8332ba74683594105e048559575048", func := "loop.example/g01371/laws.FnExactCompareWords", spec := "fnExactCompareWords", inPlace := ["internal/bytealg.abigen_runtime_cmpstring"], apart := false, narrowed := true }
def FnExactCompareWordsUptoSaid : Prop := fnExactCompareWordsUptoRow.holds Try.pinned (OpenSpec.upto fnExactCompareWordsSpec)

/-- 'laws.FnExactWordsOf', WHERE WHAT IT READS IS OF BULK AT MOST 1048576: true; the input reads as it did. -/
def fnExactWordsOfUptoRow : OpenClaim := { program := "ytedpbfddoobnnab", sum := "2b0db281558b2544092f86c1edf3f29c0c8332ba74683594105e048559575048", func := "loop.example/g01371/laws.FnExactWordsOf", spec := "fnExactWordsOf", apart := false, narrowed := true }
def FnExactWordsOfUptoSaid : Prop := fnExactWordsOfUptoRow.holds Try.pinned (OpenSpec.upto fnExactWordsOfSpec)

/-- 'laws.FnExactLettersOf', WHERE WHAT IT READS IS OF BULK AT MOST 1048576: true; the input reads as it did. -/
def fnExactLettersOfUptoRow : OpenClaim := { program := "ytedpbfddoobnnab", sum := "2b0db281558b2544092f86c1edf3f29c0c8332ba74683594105e048559575048", func := "loop.example/g01371/laws.FnExactLettersOf", spec := "fnExactLettersOf", apart := false, narrowed := true }
def FnExactLettersOfUptoSaid : Prop := fnExactLettersOfUptoRow.holds Try.pinned (OpenSpec.upto fnExactLettersOfSpec)

/-- 'laws.FnExactWordOfLetters', WHERE WHAT IT READS IS OF BULK AT MOST 1048576: true; the input reads as it did. -/
def fnExactWordOfLettersUptoRow : OpenClaim := { program := "ytedpbfddoobnnab", sum := "2b0db281558b2544092f86c1edf3f29c0c8332ba74683594105e048559575048", func := "loop.example/g01371/laws.FnExactWordOfLetters", spec := "fnExactWordOfLetters", inPlace := ["internal/abi.NoEscape"], apart := false, narrowed := true }
def FnExactWordOfLettersUptoSaid : Prop := fnExactWordOfLettersUptoRow.holds Try.pinned (OpenSpec.upto fnExactWordOfLettersSpec)

/-- 'laws.FnExactNamedWord', WHERE WHAT IT READS IS OF BULK AT MOST 1048576: true; the input reads as it did. -/
def fnExactNamedWordUptoRow : OpenClaim := { program := "ytedpbfddoobnnab", sum := "2b0db281558b2544092f86c1edf3f29c0c8332ba74683594105e048559575048", func := "loop.example/g01371/laws.FnExactNamedWord", spec := "fnExactNamedWord", apart := false, narrowed := true }
def FnExactNamedWordUptoSaid : Prop := fnExactNamedWordUptoRow.holds Try.pinned (OpenSpec.upto fnExactNamedWordSpec)

end Rows
end Go.Proofs.Ytedpbfddoobnnab
