/-
  No cell of these rows narrows 'for every input' (looked for: loops, veiled, ifaces, maps, wideKeys, modest, calm, conditions, laid).
  DERIVED. THE GIVEN ROWS OF THIS SEAT. 7 by the template 'for every input the law returns true; each argument reads behind the call as it read before'; 0 by the template 'total and deterministic' (their statements: YtolboinemechpabTotals.lean).
  GIVEN WITH THE SEED: the statements are not yours to turn. If you find one false, say at which input.
  Laid BY PROGRAM, IN A SANDBOX (cutbox-rows.mjs): the forced cells as the released guide's own fill.sh prints them over the translation 0e72bc95f77cdb16… (all of the seat's roots in one cut). By AI agents, Wed Nov 11 2026. No macro, syntax, notation, axiom, sorry.
-/
import Derived.Test.YtolboinemechpabChecked
import GoSem.Claim
import GoSem.ClaimJoined
import GoSem.ClaimMapViews
import Derived.JoinedTies
import Derived.KernelRfl
namespace Go.Proofs.Ytolboinemechpab
/- THE CELL 'sum', in the pinned program and in every row, IS THE sha256 OF THE DUMP (.gsa) THAT YtolboinemechpabProg.lean LOADS. Nothing in Lean hashes anything: it is a label: what it is worth is what the hold of that sum in a sandbox is worth. -/
noncomputable def Try.pinned : Pinned := { name := "ytolboinemechpab", sum := "0e72bc95f77cdb16d5e6e7e4d7b0927cc32dbf65e3338e50acf3e730b709811f", checked := Try.checked }
namespace Rows
def none {H : Type} : Left H := { results := [], args := [] }

/-- 'laws.FnExactFirstAbelianFree': WHATEVER THE INPUT: true; the input reads as it did. -/
def fnExactFirstAbelianFreeSpec : ChangeSpec := { name := "fnExactFirstAbelianFree", fn := fun _ => fun
  | [d1, d2, d3] => { results := [.lit (.bool true)], args := [d1, d2, d3] }
  | _ => none }
def fnExactFirstAbelianFreeRow : OpenClaim := { program := "ytolboinemechpab", sum := "0e72bc95f77cdb16d5e6e7e4d7b0927cc32dbf65e3338e50acf3e730b709811f", func := "loop.example/g01371/laws.FnExactFirstAbelianFree", spec := "fnExactFirstAbelianFree", recurses := true, apart := false }
def FnExactFirstAbelianFreeSaid : Prop := fnExactFirstAbelianFreeRow.holds Try.pinned (OpenSpec.ofChange fnExactFirstAbelianFreeSpec)

/-- ITS FALSE NEIGHBOUR: 'it returns false'. Refute it at one input. -/
def fnExactFirstAbelianFreeWrong : ChangeSpec := { name := "fnExactFirstAbelianFree", fn := fun _ => fun
  | [d1, d2, d3] => { results := [.lit (.bool false)], args := [d1, d2, d3] }
  | _ => none }
def FnExactFirstAbelianFreeWrongFalsely : Prop := fnExactFirstAbelianFreeRow.holds Try.pinned (OpenSpec.ofChange fnExactFirstAbelianFreeWrong)

/-- 'laws.FnVectors': WHATEVER THE INPUT: true; the input reads as it did. -/
def fnVectorsSpec : ChangeSpec := { name := "fnVectors", fn := fun _ => fun
  | [d] => { results := [.lit (.bool true)], args := [d] }
  | _ => none }
def fnVectorsRow : OpenClaim := { program := "ytolboinemechpab", sum := "0e72bc95f77cdb16d5e6e7e4d7b0927cc32dbf65e3338e50acf3e730b709811f", func := "loop.example/g01371/laws.FnVectors", spec := "fnVectors", inPlace := ["internal/abi.NoEscape"], unfollowed := true, recurses := true, apart := false }
def FnVectorsSaid : Prop := fnVectorsRow.holds Try.pinned (OpenSpec.ofChange fnVectorsSpec)

/-- ITS FALSE NEIGHBOUR: 'it returns false'. Refute it at one input. -/
def fnVectorsWrong : ChangeSpec := { name := "fnVectors", fn := fun _ => fun
  | [d] => { results := [.lit (.bool false)], args := [d] }
  | _ => none }
def FnVectorsWrongFalsely : Prop := fnVectorsRow.holds Try.pinned (OpenSpec.ofChange fnVectorsWrong)

/-- 'laws.FnExactGrownWord': WHATEVER THE INPUT: true; the input reads as it did. -/
def fnExactGrownWordSpec : ChangeSpec := { name := "fnExactGrownWord", fn := fun _ => fun
  | [d1, d2, d3] => { results := [.lit (.bool true)], args := [d1, d2, d3] }
  | _ => none }
def fnExactGrownWordRow : OpenClaim := { program := "ytolboinemechpab", sum := "0e72bc95f77cdb16d5e6e7e4d7b0927cc32dbf65e3338e50acf3e730b709811f", func := "loop.example/g01371/laws.FnExactGrownWord", spec := "fnExactGrownWord", apart := false }
def FnExactGrownWordSaid : Prop := fnExactGrownWordRow.holds Try.pinned (OpenSpec.ofChange fnExactGrownWordSpec)

/-- ITS FALSE NEIGHBOUR: 'it returns false'. Refute it at one input. -/
def fnExactGrownWordWrong : ChangeSpec := { name := "fnExactGrownWord", fn := fun _ => fun
  | [d1, d2, d3] => { results := [.lit (.bool false)], args := [d1, d2, d3] }
  | _ => none }
def FnExactGrownWordWrongFalsely : Prop := fnExactGrownWordRow.holds Try.pinned (OpenSpec.ofChange fnExactGrownWordWrong)

/-- 'laws.FnExactWordFromImage': WHATEVER THE INPUT: true; the input reads as it did. -/
def fnExactWordFromImageSpec : ChangeSpec := { name := "fnExactWordFromImage", fn := fun _ => fun
  | [d1, d2] => { results := [.lit (.bool true)], args := [d1, d2] }
  | _ => none }
def fnExactWordFromImageRow : OpenClaim := { program := "ytolboinemechpab", sum := "0e72bc95f77cdb16d5e6e7e4d7b0927cc32dbf65e3338e50acf3e730b709811f", func := "loop.example/g01371/laws.FnExactWordFromImage", spec := "fnExactWordFromImage", apart := false }
def FnExactWordFromImageSaid : Prop := fnExactWordFromImageRow.holds Try.pinned (OpenSpec.ofChange fnExactWordFromImageSpec)

/-- ITS FALSE NEIGHBOUR: 'it returns false'. Refute it at one input. -/
def fnExactWordFromImageWrong : ChangeSpec := { name := "fnExactWordFromImage", fn := fun _ => fun
  | [d1, d2] => { results := [.lit (.bool false)], args := [d1, d2] }
  | _ => none }
def FnExactWordFromImageWrongFalsely : Prop := fnExactWordFromImageRow.holds Try.pinned (OpenSpec.ofChange fnExactWordFromImageWrong)

/-- 'laws.FnExactFirstSquareMaker': WHATEVER THE INPUT: true; the input reads as it did. -/
def fnExactFirstSquareMakerSpec : ChangeSpec := { name := "fnExactFirstSquareMaker", fn := fun _ => fun
  | [d] => { results := [.lit (.bool true)], args := [d] }
  | _ => none }
def fnExactFirstSquareMakerRow : OpenClaim := { program := "ytolboinemechpab", sum := "0e72bc95f77cdb16d5e6e7e4d7b0927cc32dbf65e3338e50acf3e730b709811f", func := "loop.example/g01371/laws.FnExactFirstSquareMaker", spec := "fnExactFirstSquareMaker", unfollowed := true, recurses := true, apart := false }
def FnExactFirstSquareMakerSaid : Prop := fnExactFirstSquareMakerRow.holds Try.pinned (OpenSpec.ofChange fnExactFirstSquareMakerSpec)

/-- ITS FALSE NEIGHBOUR: 'it returns false'. Refute it at one input. -/
def fnExactFirstSquareMakerWrong : ChangeSpec := { name := "fnExactFirstSquareMaker", fn := fun _ => fun
  | [d] => { results := [.lit (.bool false)], args := [d] }
  | _ => none }
def FnExactFirstSquareMakerWrongFalsely : Prop := fnExactFirstSquareMakerRow.holds Try.pinned (OpenSpec.ofChange fnExactFirstSquareMakerWrong)

/-- 'laws.FnExactRunsOf': WHATEVER THE INPUT: true; the input reads as it did. -/
def fnExactRunsOfSpec : ChangeSpec := { name := "fnExactRunsOf", fn := fun _ => fun
  | [d] => { results := [.lit (.bool true)], args := [d] }
  | _ => none }
def fnExactRunsOfRow : OpenClaim := { program := "ytolboinemechpab", sum := "0e72bc95f77cdb16d5e6e7e4d7b0927cc32dbf65e3338e50acf3e730b709811f", func := "loop.example/g01371/laws.FnExactRunsOf", spec := "fnExactRunsOf", unfollowed := true, recurses := true, apart := false }
def FnExactRunsOfSaid : Prop := fnExactRunsOfRow.holds Try.pinned (OpenSpec.ofChange fnExactRunsOfSpec)

/-- ITS FALSE NEIGHBOUR: 'it returns false'. Refute it at one input. -/
def fnExactRunsOfWrong : ChangeSpec := { name := "fnExactRunsOf", fn := fun _ => fun
  | [d] => { results := [.lit (.bool false)], args := [d] }
  | _ => none }
def FnExactRunsOfWrongFalsely : Prop := fnExactRunsOfRow.holds Try.pinned (OpenSpec.ofChange fnExactRunsOfWrong)

/-- 'laws.FnExactIsPrimitive': WHATEVER THE INPUT: true; the input reads as it did. -/
def fnExactIsPrimitiveSpec : ChangeSpec := { name := "fnExactIsPrimitive", fn := fun _ => fun
  | [d] => { results := [.lit (.bool true)], args := [d] }
  | _ => none }
def fnExactIsPrimitiveRow : OpenClaim := { program := "ytolboinemechpab", sum := "0e72bc95f77cdb16d5e6e7e4d7b0927cc32dbf65e3338e50acf3e730b709811f", func := "loop.example/g01371/laws.FnExactIsPrimitive", spec := "fnExactIsPrimitive", apart := false }
def FnExactIsPrimitiveSaid : Prop := fnExactIsPrimitiveRow.holds Try.pinned (OpenSpec.ofChange fnExactIsPrimitiveSpec)

/-- ITS FALSE NEIGHBOUR: 'it returns false'. Refute it at one input. -/
def fnExactIsPrimitiveWrong : ChangeSpec := { name := "fnExactIsPrimitive", fn := fun _ => fun
  | [d] => { results := [.lit (.bool false)], args := [d] }
  | _ => none }
def FnExactIsPrimitiveWrongFalsely : Prop := fnExactIsPrimitiveRow.holds Try.pinned (OpenSpec.ofChange fnExactIsPrimitiveWrong)

/- THE SECOND FORM. 'bulk': how many values and letters a reading holds, each counted each time it is reached (what is shared counts as often as it is met; a slice's spare places count too). A statement '..UptoSaid' is the law's where the arguments, and the package variables that the reading takes, are together of bulk at most 1048576: NARROWER than '..Said'. Prove '..Said' where nothing that the law and all that it calls make is longer than what came in: it says more and counts as full. Else prove '..UptoSaid'. A law counts once. -/
mutual
def uptoBulk {H : Type} : DataW H → Nat
  | .lit (.string bytes) => bytes.length + 1
  | .lit _ => 1
  | .nil => 1
  | .ptr d => uptoBulk d + 1
  | .slice elems spare => uptoBulkAll elems + uptoBulkAll spare + 1
  | .agg parts => uptoBulkAll parts + 1
  | .iface _ d => uptoBulk d + 1
  | .map entries => uptoBulkEntries entries + 1
  | .held _ => 1
def uptoBulkAll {H : Type} : List (DataW H) → Nat
  | [] => 0
  | d :: r => uptoBulk d + uptoBulkAll r
def uptoBulkEntries {H : Type} : List (Lit × DataW H) → Nat
  | [] => 0
  | x :: r => uptoBulkEntry x + uptoBulkEntries r
def uptoBulkEntry {H : Type} : Lit × DataW H → Nat
  | (.string bytes, d) => bytes.length + uptoBulk d + 1
  | (_, d) => uptoBulk d + 1
 end
def uptoSmall : (H : Type) → List (DataW H) → Bool := fun _ ds => decide (uptoBulkAll ds ≤ 1048576)
def OpenSpec.upto (s : _root_.Go.ChangeSpec) : _root_.Go.OpenSpec := { _root_.Go.OpenSpec.ofChange s with cond := some uptoSmall }

/-- 'laws.FnExactFirstAbelianFree', WHERE WHAT IT READS IS OF BULK AT MOST 1048576: true; the input reads as it did. -/
def fnExactFirstAbelianFreeUptoRow : OpenClaim := { program := "ytolboinemechpab", sum := "0e72bc95f77cdb16d5e6e7e4d7b0927cc32dbf65e3338e50acf3e730b709811f", func := "loop.example/g01371/laws.FnExactFirstAbelianFree", spec := "fnExactFirstAbelianFree", recurses := true, apart := false, narrowed := true }
def FnExactFirstAbelianFreeUptoSaid : Prop := fnExactFirstAbelianFreeUptoRow.holds Try.pinned (OpenSpec.upto fnExactFirstAbelianFreeSpec)

/-- 'laws.FnVectors', WHERE WHAT IT READS IS OF BULK AT MOST 1048576: true; the input reads as it did. -/
def fnVectorsUptoRow : OpenClaim := { program := "ytolboinemechpab", sum := "0e72bc95f77cdb16d5e6e7e4d7b0927cc32dbf65e3338e50acf3e730b709811f", func := "loop.example/g01371/laws.FnVectors", spec := "fnVectors", inPlace := ["internal/abi.NoEscape"], unfollowed := true, recurses := true, apart := false, narrowed := true }
def FnVectorsUptoSaid : Prop := fnVectorsUptoRow.holds Try.pinned (OpenSpec.upto fnVectorsSpec)

/-- 'laws.FnExactGrownWord', WHERE WHAT IT READS IS OF BULK AT MOST 1048576: true; the input reads as it did. -/
def fnExactGrownWordUptoRow : OpenClaim := { program := "ytolboinemechpab", sum := "0e72bc95f77cdb16d5e6e7e4d7b0927cc32dbf65e3338e50acf3e730b709811f", func := "loop.example/g01371/laws.FnExactGrownWord", spec := "fnExactGrownWord", apart := false, narrowed := true }
def FnExactGrownWordUptoSaid : Prop := fnExactGrownWordUptoRow.holds Try.pinned (OpenSpec.upto fnExactGrownWordSpec)

/-- 'laws.FnExactWordFromImage', WHERE WHAT IT READS IS OF BULK AT MOST 1048576: true; the input reads as it did. -/
def fnExactWordFromImageUptoRow : OpenClaim := { program := "ytolboinemechpab", sum := "0e72bc95f77cdb16d5e6e7e4d7b0927cc32dbf65e3338e50acf3e730b709811f", func := "loop.example/g01371/laws.FnExactWordFromImage", spec := "fnExactWordFromImage", apart := false, narrowed := true }
def FnExactWordFromImageUptoSaid : Prop := fnExactWordFromImageUptoRow.holds Try.pinned (OpenSpec.upto fnExactWordFromImageSpec)

/-- 'laws.FnExactFirstSquareMaker', WHERE WHAT IT READS IS OF BULK AT MOST 1048576: true; the input reads as it did. -/
def fnExactFirstSquareMakerUptoRow : OpenClaim := { program := "ytolboinemechpab", sum := "0e72bc95f77cdb16d5e6e7e4d7b0927cc32dbf65e3338e50acf3e730b709811f", func := "loop.example/g01371/laws.FnExactFirstSquareMaker", spec := "fnExactFirstSquareMaker", unfollowed := true, recurses := true, apart := false, narrowed := true }
def FnExactFirstSquareMakerUptoSaid : Prop := fnExactFirstSquareMakerUptoRow.holds Try.pinned (OpenSpec.upto fnExactFirstSquareMakerSpec)

/-- 'laws.FnExactRunsOf', WHERE WHAT IT READS IS OF BULK AT MOST 1048576: true; the input reads as it did. -/
def fnExactRunsOfUptoRow : OpenClaim := { program := "ytolboinemechpab", sum := "0e72bc95f77cdb16d5e6e7e4d7b0927cc32dbf65e3338e50acf3e730b709811f", func := "loop.example/g01371/laws.FnExactRunsOf", spec := "fnExactRunsOf", unfollowed := true, recurses := true, apart := false, narrowed := true }
def FnExactRunsOfUptoSaid : Prop := fnExactRunsOfUptoRow.holds Try.pinned (OpenSpec.upto fnExactRunsOfSpec)

/-- 'laws.FnExactIsPrimitive', WHERE WHAT IT READS IS OF BULK AT MOST 1048576: true; the input reads as it did. -/
def fnExactIsPrimitiveUptoRow : OpenClaim := { program := "ytolboinemechpab", sum := "0e72bc95f77cdb16d5e6e7e4d7b0927cc32dbf65e3338e50acf3e730b709811f", func := "loop.example/g01371/laws.FnExactIsPrimitive", spec := "fnExactIsPrimitive", apart := false, narrowed := true }
def FnExactIsPrimitiveUptoSaid : Prop := fnExactIsPrimitiveUptoRow.holds Try.pinned (OpenSpec.upto fnExactIsPrimitiveSpec)

end Rows
end Go.Proofs.Ytolboinemechpab
