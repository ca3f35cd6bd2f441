/-
  No cell of these rows narrows 'for every input' (looked for: loops, veiled, ifaces, maps, wideKeys, modest, calm, conditions, laid).
  DERIVED. THE GIVEN ROWS OF THIS SEAT. 12 by the template 'for every input the law returns true; each argument reads behind the call as it read before'; 0 by the template 'total and deterministic' (their statements: YtjneebhbgogppaaTotals.lean).
  GIVEN WITH THE SEED: the statements are not yours to turn. If you find one false, say at which input.
  Laid BY PROGRAM, IN A SANDBOX (cutbox-rows.mjs): the forced cells as the released guide's own fill.sh prints them over the translation 8ddf7620fd18a832… (all of the seat's roots in one cut). By AI agents, Wed Nov 11 2026. No macro, syntax, notation, axiom, sorry.
-/
import Derived.Test.YtjneebhbgogppaaChecked
import GoSem.Claim
import GoSem.ClaimJoined
import GoSem.ClaimMapViews
import Derived.JoinedTies
import Derived.KernelRfl
namespace Go.Proofs.Ytjneebhbgogppaa
/- THE CELL 'sum', in the pinned program and in every row, IS THE sha256 OF THE DUMP (.gsa) THAT YtjneebhbgogppaaProg.lean LOADS. Nothing in Lean hashes anything: it is a label: what it is worth is what the hold of that sum in a sandbox is worth. -/
noncomputable def Try.pinned : Pinned := { name := "ytjneebhbgogppaa", sum := "8ddf7620fd18a832dfdc741a1c5a220db2c1cb6a20d752a80cd4c99f587b1ab1", checked := Try.checked }
namespace Rows
def none {H : Type} : Left H := { results := [], args := [] }

/-- 'laws.FnExactIsMorphism': WHATEVER THE INPUT: true; the input reads as it did. -/
def fnExactIsMorphismSpec : ChangeSpec := { name := "fnExactIsMorphism", fn := fun _ => fun
  | [d] => { results := [.lit (.bool true)], args := [d] }
  | _ => none }
def fnExactIsMorphismRow : OpenClaim := { program := "ytjneebhbgogppaa", sum := "8ddf7620fd18a832dfdc741a1c5a220db2c1cb6a20d752a80cd4c99f587b1ab1", func := "loop.example/g01371/laws.FnExactIsMorphism", spec := "fnExactIsMorphism", apart := false }
def FnExactIsMorphismSaid : Prop := fnExactIsMorphismRow.holds Try.pinned (OpenSpec.ofChange fnExactIsMorphismSpec)

/-- ITS FALSE NEIGHBOUR: 'it returns false'. Refute it at one input. -/
def fnExactIsMorphismWrong : ChangeSpec := { name := "fnExactIsMorphism", fn := fun _ => fun
  | [d] => { results := [.lit (.bool false)], args := [d] }
  | _ => none }
def FnExactIsMorphismWrongFalsely : Prop := fnExactIsMorphismRow.holds Try.pinned (OpenSpec.ofChange fnExactIsMorphismWrong)

/-- 'laws.FnExactImageOf': WHATEVER THE INPUT: true; the input reads as it did. -/
def fnExactImageOfSpec : ChangeSpec := { name := "fnExactImageOf", fn := fun _ => fun
  | [d1, d2] => { results := [.lit (.bool true)], args := [d1, d2] }
  | _ => none }
def fnExactImageOfRow : OpenClaim := { program := "ytjneebhbgogppaa", sum := "8ddf7620fd18a832dfdc741a1c5a220db2c1cb6a20d752a80cd4c99f587b1ab1", func := "loop.example/g01371/laws.FnExactImageOf", spec := "fnExactImageOf", apart := false }
def FnExactImageOfSaid : Prop := fnExactImageOfRow.holds Try.pinned (OpenSpec.ofChange fnExactImageOfSpec)

/-- ITS FALSE NEIGHBOUR: 'it returns false'. Refute it at one input. -/
def fnExactImageOfWrong : ChangeSpec := { name := "fnExactImageOf", fn := fun _ => fun
  | [d1, d2] => { results := [.lit (.bool false)], args := [d1, d2] }
  | _ => none }
def FnExactImageOfWrongFalsely : Prop := fnExactImageOfRow.holds Try.pinned (OpenSpec.ofChange fnExactImageOfWrong)

/-- 'laws.FnExactIterateOf': WHATEVER THE INPUT: true; the input reads as it did. -/
def fnExactIterateOfSpec : ChangeSpec := { name := "fnExactIterateOf", fn := fun _ => fun
  | [d1, d2, d3] => { results := [.lit (.bool true)], args := [d1, d2, d3] }
  | _ => none }
def fnExactIterateOfRow : OpenClaim := { program := "ytjneebhbgogppaa", sum := "8ddf7620fd18a832dfdc741a1c5a220db2c1cb6a20d752a80cd4c99f587b1ab1", func := "loop.example/g01371/laws.FnExactIterateOf", spec := "fnExactIterateOf", apart := false }
def FnExactIterateOfSaid : Prop := fnExactIterateOfRow.holds Try.pinned (OpenSpec.ofChange fnExactIterateOfSpec)

/-- ITS FALSE NEIGHBOUR: 'it returns false'. Refute it at one input. -/
def fnExactIterateOfWrong : ChangeSpec := { name := "fnExactIterateOf", fn := fun _ => fun
  | [d1, d2, d3] => { results := [.lit (.bool false)], args := [d1, d2, d3] }
  | _ => none }
def FnExactIterateOfWrongFalsely : Prop := fnExactIterateOfRow.holds Try.pinned (OpenSpec.ofChange fnExactIterateOfWrong)

/-- 'laws.FnExactComposeMorphisms': WHATEVER THE INPUT: true; the input reads as it did. -/
def fnExactComposeMorphismsSpec : ChangeSpec := { name := "fnExactComposeMorphisms", fn := fun _ => fun
  | [d1, d2] => { results := [.lit (.bool true)], args := [d1, d2] }
  | _ => none }
def fnExactComposeMorphismsRow : OpenClaim := { program := "ytjneebhbgogppaa", sum := "8ddf7620fd18a832dfdc741a1c5a220db2c1cb6a20d752a80cd4c99f587b1ab1", func := "loop.example/g01371/laws.FnExactComposeMorphisms", spec := "fnExactComposeMorphisms", apart := false }
def FnExactComposeMorphismsSaid : Prop := fnExactComposeMorphismsRow.holds Try.pinned (OpenSpec.ofChange fnExactComposeMorphismsSpec)

/-- ITS FALSE NEIGHBOUR: 'it returns false'. Refute it at one input. -/
def fnExactComposeMorphismsWrong : ChangeSpec := { name := "fnExactComposeMorphisms", fn := fun _ => fun
  | [d1, d2] => { results := [.lit (.bool false)], args := [d1, d2] }
  | _ => none }
def FnExactComposeMorphismsWrongFalsely : Prop := fnExactComposeMorphismsRow.holds Try.pinned (OpenSpec.ofChange fnExactComposeMorphismsWrong)

/-- 'laws.FnExactGrownWord': WHATEVER THE INPUT: true; the input reads as it did. -/
def fnExactGrownWordSpec : ChangeSpec := { name := "fnExactGrownWord", fn := fun _ => fun
  | [d1, d2, d3] => { results := [.lit (.bool true)], args := [d1, d2, d3] }
  | _ => none }
def fnExactGrownWordRow : OpenClaim := { program := "ytjneebhbgogppaa", sum := "8ddf7620fd18a832dfdc741a1c5a220db2c1cb6a20d752a80cd4c99f587b1ab1", func := "loop.example/g01371/laws.FnExactGrownWord", spec := "fnExactGrownWord", apart := false }
def FnExactGrownWordSaid : Prop := fnExactGrownWordRow.holds Try.pinned (OpenSpec.ofChange fnExactGrownWordSpec)

/-- ITS FALSE NEIGHBOUR: 'it returns false'. Refute it at one input. -/
def fnExactGrownWordWrong : ChangeSpec := { name := "fnExactGrownWord", fn := fun _ => fun
  | [d1, d2, d3] => { results := [.lit (.bool false)], args := [d1, d2, d3] }
  | _ => none }
def FnExactGrownWordWrongFalsely : Prop := fnExactGrownWordRow.holds Try.pinned (OpenSpec.ofChange fnExactGrownWordWrong)

/-- 'laws.FnExactLengthsAfter': WHATEVER THE INPUT: true; the input reads as it did. -/
def fnExactLengthsAfterSpec : ChangeSpec := { name := "fnExactLengthsAfter", fn := fun _ => fun
  | [d1, d2, d3] => { results := [.lit (.bool true)], args := [d1, d2, d3] }
  | _ => none }
def fnExactLengthsAfterRow : OpenClaim := { program := "ytjneebhbgogppaa", sum := "8ddf7620fd18a832dfdc741a1c5a220db2c1cb6a20d752a80cd4c99f587b1ab1", func := "loop.example/g01371/laws.FnExactLengthsAfter", spec := "fnExactLengthsAfter", apart := false }
def FnExactLengthsAfterSaid : Prop := fnExactLengthsAfterRow.holds Try.pinned (OpenSpec.ofChange fnExactLengthsAfterSpec)

/-- ITS FALSE NEIGHBOUR: 'it returns false'. Refute it at one input. -/
def fnExactLengthsAfterWrong : ChangeSpec := { name := "fnExactLengthsAfter", fn := fun _ => fun
  | [d1, d2, d3] => { results := [.lit (.bool false)], args := [d1, d2, d3] }
  | _ => none }
def FnExactLengthsAfterWrongFalsely : Prop := fnExactLengthsAfterRow.holds Try.pinned (OpenSpec.ofChange fnExactLengthsAfterWrong)

/-- 'laws.FnExactMatrixOf': WHATEVER THE INPUT: true; the input reads as it did. -/
def fnExactMatrixOfSpec : ChangeSpec := { name := "fnExactMatrixOf", fn := fun _ => fun
  | [d] => { results := [.lit (.bool true)], args := [d] }
  | _ => none }
def fnExactMatrixOfRow : OpenClaim := { program := "ytjneebhbgogppaa", sum := "8ddf7620fd18a832dfdc741a1c5a220db2c1cb6a20d752a80cd4c99f587b1ab1", func := "loop.example/g01371/laws.FnExactMatrixOf", spec := "fnExactMatrixOf", apart := false }
def FnExactMatrixOfSaid : Prop := fnExactMatrixOfRow.holds Try.pinned (OpenSpec.ofChange fnExactMatrixOfSpec)

/-- ITS FALSE NEIGHBOUR: 'it returns false'. Refute it at one input. -/
def fnExactMatrixOfWrong : ChangeSpec := { name := "fnExactMatrixOf", fn := fun _ => fun
  | [d] => { results := [.lit (.bool false)], args := [d] }
  | _ => none }
def FnExactMatrixOfWrongFalsely : Prop := fnExactMatrixOfRow.holds Try.pinned (OpenSpec.ofChange fnExactMatrixOfWrong)

/-- 'laws.FnExactIsPrimitive': WHATEVER THE INPUT: true; the input reads as it did. -/
def fnExactIsPrimitiveSpec : ChangeSpec := { name := "fnExactIsPrimitive", fn := fun _ => fun
  | [d] => { results := [.lit (.bool true)], args := [d] }
  | _ => none }
def fnExactIsPrimitiveRow : OpenClaim := { program := "ytjneebhbgogppaa", sum := "8ddf7620fd18a832dfdc741a1c5a220db2c1cb6a20d752a80cd4c99f587b1ab1", func := "loop.example/g01371/laws.FnExactIsPrimitive", spec := "fnExactIsPrimitive", apart := false }
def FnExactIsPrimitiveSaid : Prop := fnExactIsPrimitiveRow.holds Try.pinned (OpenSpec.ofChange fnExactIsPrimitiveSpec)

/-- ITS FALSE NEIGHBOUR: 'it returns false'. Refute it at one input. -/
def fnExactIsPrimitiveWrong : ChangeSpec := { name := "fnExactIsPrimitive", fn := fun _ => fun
  | [d] => { results := [.lit (.bool false)], args := [d] }
  | _ => none }
def FnExactIsPrimitiveWrongFalsely : Prop := fnExactIsPrimitiveRow.holds Try.pinned (OpenSpec.ofChange fnExactIsPrimitiveWrong)

/-- 'laws.FnExactIsUniform': WHATEVER THE INPUT: true; the input reads as it did. -/
def fnExactIsUniformSpec : ChangeSpec := { name := "fnExactIsUniform", fn := fun _ => fun
  | [d] => { results := [.lit (.bool true)], args := [d] }
  | _ => none }
def fnExactIsUniformRow : OpenClaim := { program := "ytjneebhbgogppaa", sum := "8ddf7620fd18a832dfdc741a1c5a220db2c1cb6a20d752a80cd4c99f587b1ab1", func := "loop.example/g01371/laws.FnExactIsUniform", spec := "fnExactIsUniform", apart := false }
def FnExactIsUniformSaid : Prop := fnExactIsUniformRow.holds Try.pinned (OpenSpec.ofChange fnExactIsUniformSpec)

/-- ITS FALSE NEIGHBOUR: 'it returns false'. Refute it at one input. -/
def fnExactIsUniformWrong : ChangeSpec := { name := "fnExactIsUniform", fn := fun _ => fun
  | [d] => { results := [.lit (.bool false)], args := [d] }
  | _ => none }
def FnExactIsUniformWrongFalsely : Prop := fnExactIsUniformRow.holds Try.pinned (OpenSpec.ofChange fnExactIsUniformWrong)

/-- 'laws.FnExactTestLength': WHATEVER THE INPUT: true; the input reads as it did. -/
def fnExactTestLengthSpec : ChangeSpec := { name := "fnExactTestLength", fn := fun _ => fun
  | [d] => { results := [.lit (.bool true)], args := [d] }
  | _ => none }
def fnExactTestLengthRow : OpenClaim := { program := "ytjneebhbgogppaa", sum := "8ddf7620fd18a832dfdc741a1c5a220db2c1cb6a20d752a80cd4c99f587b1ab1", func := "loop.example/g01371/laws.FnExactTestLength", spec := "fnExactTestLength", apart := false }
def FnExactTestLengthSaid : Prop := fnExactTestLengthRow.holds Try.pinned (OpenSpec.ofChange fnExactTestLengthSpec)

/-- ITS FALSE NEIGHBOUR: 'it returns false'. Refute it at one input. -/
def fnExactTestLengthWrong : ChangeSpec := { name := "fnExactTestLength", fn := fun _ => fun
  | [d] => { results := [.lit (.bool false)], args := [d] }
  | _ => none }
def FnExactTestLengthWrongFalsely : Prop := fnExactTestLengthRow.holds Try.pinned (OpenSpec.ofChange fnExactTestLengthWrong)

/-- 'laws.FnExactFirstSquareMaker': WHATEVER THE INPUT: true; the input reads as it did. -/
def fnExactFirstSquareMakerSpec : ChangeSpec := { name := "fnExactFirstSquareMaker", fn := fun _ => fun
  | [d] => { results := [.lit (.bool true)], args := [d] }
  | _ => none }
def fnExactFirstSquareMakerRow : OpenClaim := { program := "ytjneebhbgogppaa", sum := "8ddf7620fd18a832dfdc741a1c5a220db2c1cb6a20d752a80cd4c99f587b1ab1", func := "loop.example/g01371/laws.FnExactFirstSquareMaker", spec := "fnExactFirstSquareMaker", unfollowed := true, recurses := true, apart := false }
def FnExactFirstSquareMakerSaid : Prop := fnExactFirstSquareMakerRow.holds Try.pinned (OpenSpec.ofChange fnExactFirstSquareMakerSpec)

/-- ITS FALSE NEIGHBOUR: 'it returns false'. Refute it at one input. -/
def fnExactFirstSquareMakerWrong : ChangeSpec := { name := "fnExactFirstSquareMaker", fn := fun _ => fun
  | [d] => { results := [.lit (.bool false)], args := [d] }
  | _ => none }
def FnExactFirstSquareMakerWrongFalsely : Prop := fnExactFirstSquareMakerRow.holds Try.pinned (OpenSpec.ofChange fnExactFirstSquareMakerWrong)

/-- 'laws.FnExactWordFromImage': WHATEVER THE INPUT: true; the input reads as it did. -/
def fnExactWordFromImageSpec : ChangeSpec := { name := "fnExactWordFromImage", fn := fun _ => fun
  | [d1, d2] => { results := [.lit (.bool true)], args := [d1, d2] }
  | _ => none }
def fnExactWordFromImageRow : OpenClaim := { program := "ytjneebhbgogppaa", sum := "8ddf7620fd18a832dfdc741a1c5a220db2c1cb6a20d752a80cd4c99f587b1ab1", func := "loop.example/g01371/laws.FnExactWordFromImage", spec := "fnExactWordFromImage", apart := false }
def FnExactWordFromImageSaid : Prop := fnExactWordFromImageRow.holds Try.pinned (OpenSpec.ofChange fnExactWordFromImageSpec)

/-- ITS FALSE NEIGHBOUR: 'it returns false'. Refute it at one input. -/
def fnExactWordFromImageWrong : ChangeSpec := { name := "fnExactWordFromImage", fn := fun _ => fun
  | [d1, d2] => { results := [.lit (.bool false)], args := [d1, d2] }
  | _ => none }
def FnExactWordFromImageWrongFalsely : Prop := fnExactWordFromImageRow.holds Try.pinned (OpenSpec.ofChange fnExactWordFromImageWrong)

/- THE SECOND FORM. 'bulk': how many values and letters a reading holds, each counted each time it is reached (what is shared counts as often as it is met; a slice's spare places count too). A statement '..UptoSaid' is the law's where the arguments, and the package variables that the reading takes, are together of bulk at most 1048576: NARROWER than '..Said'. Prove '..Said' where nothing that the law and all that it calls make is longer than what came in: it says more and counts as full. Else prove '..UptoSaid'. A law counts once. -/
mutual
def uptoBulk {H : Type} : DataW H → Nat
  | .lit (.string bytes) => bytes.length + 1
  | .lit _ => 1
  | .nil => 1
  | .ptr d => uptoBulk d + 1
  | .slice elems spare => uptoBulkAll elems + uptoBulkAll spare + 1
  | .agg parts => uptoBulkAll parts + 1
  | .iface _ d => uptoBulk d + 1
  | .map entries => uptoBulkEntries entries + 1
  | .held _ => 1
def uptoBulkAll {H : Type} : List (DataW H) → Nat
  | [] => 0
  | d :: r => uptoBulk d + uptoBulkAll r
def uptoBulkEntries {H : Type} : List (Lit × DataW H) → Nat
  | [] => 0
  | x :: r => uptoBulkEntry x + uptoBulkEntries r
def uptoBulkEntry {H : Type} : Lit × DataW H → Nat
  | (.string bytes, d) => bytes.length + uptoBulk d + 1
  | (_, d) => uptoBulk d + 1
 end
def uptoSmall : (H : Type) → List (DataW H) → Bool := fun _ ds => decide (uptoBulkAll ds ≤ 1048576)
def OpenSpec.upto (s : _root_.Go.ChangeSpec) : _root_.Go.OpenSpec := { _root_.Go.OpenSpec.ofChange s with cond := some uptoSmall }

/-- 'laws.FnExactIsMorphism', WHERE WHAT IT READS IS OF BULK AT MOST 1048576: true; the input reads as it did. -/
def fnExactIsMorphismUptoRow : OpenClaim := { program := "ytjneebhbgogppaa", sum := "8ddf7620fd18a832dfdc741a1c5a220db2c1cb6a20d752a80cd4c99f587b1ab1", func := "loop.example/g01371/laws.FnExactIsMorphism", spec := "fnExactIsMorphism", apart := false, narrowed := true }
def FnExactIsMorphismUptoSaid : Prop := fnExactIsMorphismUptoRow.holds Try.pinned (OpenSpec.upto fnExactIsMorphismSpec)

/-- 'laws.FnExactImageOf', WHERE WHAT IT READS IS OF BULK AT MOST 1048576: true; the input reads as it did. -/
def fnExactImageOfUptoRow : OpenClaim := { program := "ytjneebhbgogppaa", sum := "8ddf7620fd18a832dfdc741a1c5a220db2c1cb6a20d752a80cd4c99f587b1ab1", func := "loop.example/g01371/laws.FnExactImageOf", spec := "fnExactImageOf", apart := false, narrowed := true }
def FnExactImageOfUptoSaid : Prop := fnExactImageOfUptoRow.holds Try.pinned (OpenSpec.upto fnExactImageOfSpec)

/-- 'laws.FnExactIterateOf', WHERE WHAT IT READS IS OF BULK AT MOST 1048576: true; the input reads as it did. -/
def fnExactIterateOfUptoRow : OpenClaim := { program := "ytjneebhbgogppaa", sum := "8ddf7620fd18a832dfdc741a1c5a220db2c1cb6a20d752a80cd4c99f587b1ab1", func := "loop.example/g01371/laws.FnExactIterateOf", spec := "fnExactIterateOf", apart := false, narrowed := true }
def FnExactIterateOfUptoSaid : Prop := fnExactIterateOfUptoRow.holds Try.pinned (OpenSpec.upto fnExactIterateOfSpec)

/-- 'laws.FnExactComposeMorphisms', WHERE WHAT IT READS IS OF BULK AT MOST 1048576: true; the input reads as it did. -/
def fnExactComposeMorphismsUptoRow : OpenClaim := { program := "ytjneebhbgogppaa", sum := "8ddf7620fd18a832dfdc741a1c5a220db2c1cb6a20d752a80cd4c99f587b1ab1", func := "loop.example/g01371/laws.FnExactComposeMorphisms", spec := "fnExactComposeMorphisms", apart := false, narrowed := true }
def FnExactComposeMorphismsUptoSaid : Prop := fnExactComposeMorphismsUptoRow.holds Try.pinned (OpenSpec.upto fnExactComposeMorphismsSpec)

/-- 'laws.FnExactGrownWord', WHERE WHAT IT READS IS OF BULK AT MOST 1048576: true; the input reads as it did. -/
def fnExactGrownWordUptoRow : OpenClaim := { program := "ytjneebhbgogppaa", sum := "8ddf7620fd18a832dfdc741a1c5a220db2c1cb6a20d752a80cd4c99f587b1ab1", func := "loop.example/g01371/laws.FnExactGrownWord", spec := "fnExactGrownWord", apart := false, narrowed := true }
def FnExactGrownWordUptoSaid : Prop := fnExactGrownWordUptoRow.holds Try.pinned (OpenSpec.upto fnExactGrownWordSpec)

/-- 'laws.FnExactLengthsAfter', WHERE WHAT IT READS IS OF BULK AT MOST 1048576: true; the input reads as it did. -/
def fnExactLengthsAfterUptoRow : OpenClaim := { program := "ytjneebhbgogppaa", sum := "8ddf7620fd18a832dfdc741a1c5a220db2c1cb6a20d752a80cd4c99f587b1ab1", func := "loop.example/g01371/laws.FnExactLengthsAfter", spec := "fnExactLengthsAfter", apart := false, narrowed := true }
def FnExactLengthsAfterUptoSaid : Prop := fnExactLengthsAfterUptoRow.holds Try.pinned (OpenSpec.upto fnExactLengthsAfterSpec)

/-- 'laws.FnExactMatrixOf', WHERE WHAT IT READS IS OF BULK AT MOST 1048576: true; the input reads as it did. -/
def fnExactMatrixOfUptoRow : OpenClaim := { program := "ytjneebhbgogppaa", sum := "8ddf7620fd18a832dfdc741a1c5a220db2c1cb6a20d752a80cd4c99f587b1ab1", func := "loop.example/g01371/laws.FnExactMatrixOf", spec := "fnExactMatrixOf", apart := false, narrowed := true }
def FnExactMatrixOfUptoSaid : Prop := fnExactMatrixOfUptoRow.holds Try.pinned (OpenSpec.upto fnExactMatrixOfSpec)

/-- 'laws.FnExactIsPrimitive', WHERE WHAT IT READS IS OF BULK AT MOST 1048576: true; the input reads as it did. -/
def fnExactIsPrimitiveUptoRow : OpenClaim := { program := "ytjneebhbgogppaa", sum := "8ddf7620fd18a832dfdc741a1c5a220db2c1cb6a20d752a80cd4c99f587b1ab1", func := "loop.example/g01371/laws.FnExactIsPrimitive", spec := "fnExactIsPrimitive", apart := false, narrowed := true }
def FnExactIsPrimitiveUptoSaid : Prop := fnExactIsPrimitiveUptoRow.holds Try.pinned (OpenSpec.upto fnExactIsPrimitiveSpec)

/-- 'laws.FnExactIsUniform', WHERE WHAT IT READS IS OF BULK AT MOST 1048576: true; the input reads as it did. -/
def fnExactIsUniformUptoRow : OpenClaim := { program := "ytjneebhbgogppaa", sum := "8ddf7620fd18a832dfdc741a1c5a220db2c1cb6a20d752a80cd4c99f587b1ab1", func := "loop.example/g01371/laws.FnExactIsUniform", spec := "fnExactIsUniform", apart := false, narrowed := true }
def FnExactIsUniformUptoSaid : Prop := fnExactIsUniformUptoRow.holds Try.pinned (OpenSpec.upto fnExactIsUniformSpec)

/-- 'laws.FnExactTestLength', WHERE WHAT IT READS IS OF BULK AT MOST 1048576: true; the input reads as it did. -/
def fnExactTestLengthUptoRow : OpenClaim := { program := "ytjneebhbgogppaa", sum := "8ddf7620fd18a832dfdc741a1c5a220db2c1cb6a20d752a80cd4c99f587b1ab1", func := "loop.example/g01371/laws.FnExactTestLength", spec := "fnExactTestLength", apart := false, narrowed := true }
def FnExactTestLengthUptoSaid : Prop := fnExactTestLengthUptoRow.holds Try.pinned (OpenSpec.upto fnExactTestLengthSpec)

/-- 'laws.FnExactFirstSquareMaker', WHERE WHAT IT READS IS OF BULK AT MOST 1048576: true; the input reads as it did. -/
def fnExactFirstSquareMakerUptoRow : OpenClaim := { program := "ytjneebhbgogppaa", sum := "8ddf7620fd18a832dfdc741a1c5a220db2c1cb6a20d752a80cd4c99f587b1ab1", func := "loop.example/g01371/laws.FnExactFirstSquareMaker", spec := "fnExactFirstSquareMaker", unfollowed := true, recurses := true, apart := false, narrowed := true }
def FnExactFirstSquareMakerUptoSaid : Prop := fnExactFirstSquareMakerUptoRow.holds Try.pinned (OpenSpec.upto fnExactFirstSquareMakerSpec)

/-- 'laws.FnExactWordFromImage', WHERE WHAT IT READS IS OF BULK AT MOST 1048576: true; the input reads as it did. -/
def fnExactWordFromImageUptoRow : OpenClaim := { program := "ytjneebhbgogppaa", sum := "8ddf7620fd18a832dfdc741a1c5a220db2c1cb6a20d752a80cd4c99f587b1ab1", func := "loop.example/g01371/laws.FnExactWordFromImage", spec := "fnExactWordFromImage", apart := false, narrowed := true }
def FnExactWordFromImageUptoSaid : Prop := fnExactWordFromImageUptoRow.holds Try.pinned (OpenSpec.upto fnExactWordFromImageSpec)

end Rows
end Go.Proofs.Ytjneebhbgogppaa
