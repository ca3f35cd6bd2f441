/-
  No cell of these rows narrows 'for every input' (looked for: loops, veiled, ifaces, maps, wideKeys, modest, calm, conditions, laid).
  DERIVED. THE GIVEN ROWS OF THIS SEAT. 6 by the template 'for every input the law returns true; each argument reads behind the call as it read before'; 0 by the template 'total and deterministic' (their statements: YtinanajagkilaabTotals.lean).
  GIVEN WITH THE SEED: the statements are not yours to turn. If you find one false, say at which input.
  Laid BY PROGRAM, IN A SANDBOX (cutbox-rows.mjs): the forced cells as the released guide's own fill.sh prints them over the translation bd506770aed77936… (all of the seat's roots in one cut). By AI agents, Wed Nov 11 2026. No macro, syntax, notation, axiom, sorry.
-/
import Derived.Test.YtinanajagkilaabChecked
import GoSem.Claim
import GoSem.ClaimJoined
import GoSem.ClaimMapViews
import Derived.JoinedTies
import Derived.KernelRfl
namespace Go.Proofs.Ytinanajagkilaab
/- THE CELL 'sum', in the pinned program and in every row, IS THE sha256 OF THE DUMP (.gsa) THAT YtinanajagkilaabProg.lean LOADS. Nothing in Lean hashes anything: it is a label: what it is worth is what the hold of that sum in a sandbox is worth. -/
noncomputable def Try.pinned : Pinned := { name := "ytinanajagkilaab", sum := "bd506770aed7793659214f419f781908a9f0565ced029dcdbe5cce3d75e3819a", checked := Try.checked }
namespace Rows
def none {H : Type} : Left H := { results := [], args := [] }

/-- 'laws.FnExactGreatestExponent': WHATEVER THE INPUT: true; the input reads as it did. -/
def fnExactGreatestExponentSpec : ChangeSpec := { name := "fnExactGreatestExponent", fn := fun _ => fun
  | [d] => { results := [.lit (.bool true)], args := [d] }
  | _ => none }
def fnExactGreatestExponentRow : OpenClaim := { program := "ytinanajagkilaab", sum := "bd506770aed7793659214f419f781908a9f0565ced029dcdbe5cce3d75e3819a", func := "loop.example/g01371/laws.FnExactGreatestExponent", spec := "fnExactGreatestExponent", unfollowed := true, recurses := true, apart := false }
def FnExactGreatestExponentSaid : Prop := fnExactGreatestExponentRow.holds Try.pinned (OpenSpec.ofChange fnExactGreatestExponentSpec)

/-- ITS FALSE NEIGHBOUR: 'it returns false'. Refute it at one input. -/
def fnExactGreatestExponentWrong : ChangeSpec := { name := "fnExactGreatestExponent", fn := fun _ => fun
  | [d] => { results := [.lit (.bool false)], args := [d] }
  | _ => none }
def FnExactGreatestExponentWrongFalsely : Prop := fnExactGreatestExponentRow.holds Try.pinned (OpenSpec.ofChange fnExactGreatestExponentWrong)

/-- 'laws.FnExactIsSquareFree': WHATEVER THE INPUT: true; the input reads as it did. -/
def fnExactIsSquareFreeSpec : ChangeSpec := { name := "fnExactIsSquareFree", fn := fun _ => fun
  | [d] => { results := [.lit (.bool true)], args := [d] }
  | _ => none }
def fnExactIsSquareFreeRow : OpenClaim := { program := "ytinanajagkilaab", sum := "bd506770aed7793659214f419f781908a9f0565ced029dcdbe5cce3d75e3819a", func := "loop.example/g01371/laws.FnExactIsSquareFree", spec := "fnExactIsSquareFree", apart := false }
def FnExactIsSquareFreeSaid : Prop := fnExactIsSquareFreeRow.holds Try.pinned (OpenSpec.ofChange fnExactIsSquareFreeSpec)

/-- ITS FALSE NEIGHBOUR: 'it returns false'. Refute it at one input. -/
def fnExactIsSquareFreeWrong : ChangeSpec := { name := "fnExactIsSquareFree", fn := fun _ => fun
  | [d] => { results := [.lit (.bool false)], args := [d] }
  | _ => none }
def FnExactIsSquareFreeWrongFalsely : Prop := fnExactIsSquareFreeRow.holds Try.pinned (OpenSpec.ofChange fnExactIsSquareFreeWrong)

/-- 'laws.FnExactIsOverlapFree': WHATEVER THE INPUT: true; the input reads as it did. -/
def fnExactIsOverlapFreeSpec : ChangeSpec := { name := "fnExactIsOverlapFree", fn := fun _ => fun
  | [d] => { results := [.lit (.bool true)], args := [d] }
  | _ => none }
def fnExactIsOverlapFreeRow : OpenClaim := { program := "ytinanajagkilaab", sum := "bd506770aed7793659214f419f781908a9f0565ced029dcdbe5cce3d75e3819a", func := "loop.example/g01371/laws.FnExactIsOverlapFree", spec := "fnExactIsOverlapFree", unfollowed := true, recurses := true, apart := false }
def FnExactIsOverlapFreeSaid : Prop := fnExactIsOverlapFreeRow.holds Try.pinned (OpenSpec.ofChange fnExactIsOverlapFreeSpec)

/-- ITS FALSE NEIGHBOUR: 'it returns false'. Refute it at one input. -/
def fnExactIsOverlapFreeWrong : ChangeSpec := { name := "fnExactIsOverlapFree", fn := fun _ => fun
  | [d] => { results := [.lit (.bool false)], args := [d] }
  | _ => none }
def FnExactIsOverlapFreeWrongFalsely : Prop := fnExactIsOverlapFreeRow.holds Try.pinned (OpenSpec.ofChange fnExactIsOverlapFreeWrong)

/-- 'laws.FnExactCountSquareFree': WHATEVER THE INPUT: true; the input reads as it did. -/
def fnExactCountSquareFreeSpec : ChangeSpec := { name := "fnExactCountSquareFree", fn := fun _ => fun
  | [d1, d2] => { results := [.lit (.bool true)], args := [d1, d2] }
  | _ => none }
def fnExactCountSquareFreeRow : OpenClaim := { program := "ytinanajagkilaab", sum := "bd506770aed7793659214f419f781908a9f0565ced029dcdbe5cce3d75e3819a", func := "loop.example/g01371/laws.FnExactCountSquareFree", spec := "fnExactCountSquareFree", unfollowed := true, recurses := true, apart := false }
def FnExactCountSquareFreeSaid : Prop := fnExactCountSquareFreeRow.holds Try.pinned (OpenSpec.ofChange fnExactCountSquareFreeSpec)

/-- ITS FALSE NEIGHBOUR: 'it returns false'. Refute it at one input. -/
def fnExactCountSquareFreeWrong : ChangeSpec := { name := "fnExactCountSquareFree", fn := fun _ => fun
  | [d1, d2] => { results := [.lit (.bool false)], args := [d1, d2] }
  | _ => none }
def FnExactCountSquareFreeWrongFalsely : Prop := fnExactCountSquareFreeRow.holds Try.pinned (OpenSpec.ofChange fnExactCountSquareFreeWrong)

/-- 'laws.FnExactFirstSquareFree': WHATEVER THE INPUT: true; the input reads as it did. -/
def fnExactFirstSquareFreeSpec : ChangeSpec := { name := "fnExactFirstSquareFree", fn := fun _ => fun
  | [d1, d2] => { results := [.lit (.bool true)], args := [d1, d2] }
  | _ => none }
def fnExactFirstSquareFreeRow : OpenClaim := { program := "ytinanajagkilaab", sum := "bd506770aed7793659214f419f781908a9f0565ced029dcdbe5cce3d75e3819a", func := "loop.example/g01371/laws.FnExactFirstSquareFree", spec := "fnExactFirstSquareFree", unfollowed := true, recurses := true, apart := false }
def FnExactFirstSquareFreeSaid : Prop := fnExactFirstSquareFreeRow.holds Try.pinned (OpenSpec.ofChange fnExactFirstSquareFreeSpec)

/-- ITS FALSE NEIGHBOUR: 'it returns false'. Refute it at one input. -/
def fnExactFirstSquareFreeWrong : ChangeSpec := { name := "fnExactFirstSquareFree", fn := fun _ => fun
  | [d1, d2] => { results := [.lit (.bool false)], args := [d1, d2] }
  | _ => none }
def FnExactFirstSquareFreeWrongFalsely : Prop := fnExactFirstSquareFreeRow.holds Try.pinned (OpenSpec.ofChange fnExactFirstSquareFreeWrong)

/-- 'laws.FnExactLettersNext': WHATEVER THE INPUT: true; the input reads as it did. -/
def fnExactLettersNextSpec : ChangeSpec := { name := "fnExactLettersNext", fn := fun _ => fun
  | [d1, d2] => { results := [.lit (.bool true)], args := [d1, d2] }
  | _ => none }
def fnExactLettersNextRow : OpenClaim := { program := "ytinanajagkilaab", sum := "bd506770aed7793659214f419f781908a9f0565ced029dcdbe5cce3d75e3819a", func := "loop.example/g01371/laws.FnExactLettersNext", spec := "fnExactLettersNext", apart := false }
def FnExactLettersNextSaid : Prop := fnExactLettersNextRow.holds Try.pinned (OpenSpec.ofChange fnExactLettersNextSpec)

/-- ITS FALSE NEIGHBOUR: 'it returns false'. Refute it at one input. -/
def fnExactLettersNextWrong : ChangeSpec := { name := "fnExactLettersNext", fn := fun _ => fun
  | [d1, d2] => { results := [.lit (.bool false)], args := [d1, d2] }
  | _ => none }
def FnExactLettersNextWrongFalsely : Prop := fnExactLettersNextRow.holds Try.pinned (OpenSpec.ofChange fnExactLettersNextWrong)

/- THE SECOND FORM. 'bulk': how many values and letters a reading holds, each counted each time it is reached (what is shared counts as often as it is met; a slice's spare places count too). A statement '..UptoSaid' is the law's where the arguments, and the package variables that the reading takes, are together of bulk at most 1048576: NARROWER than '..Said'. Prove '..Said' where nothing that the law and all that it calls make is longer than what came in: it says more and counts as full. Else prove '..UptoSaid'. A law counts once. -/
mutual
def uptoBulk {H : Type} : DataW H → Nat
  | .lit (.string bytes) => bytes.length + 1
  | .lit _ => 1
  | .nil => 1
  | .ptr d => uptoBulk d + 1
  | .slice elems spare => uptoBulkAll elems + uptoBulkAll spare + 1
  | .agg parts => uptoBulkAll parts + 1
  | .iface _ d => uptoBulk d + 1
  | .map entries => uptoBulkEntries entries + 1
  | .held _ => 1
def uptoBulkAll {H : Type} : List (DataW H) → Nat
  | [] => 0
  | d :: r => uptoBulk d + uptoBulkAll r
def uptoBulkEntries {H : Type} : List (Lit × DataW H) → Nat
  | [] => 0
  | x :: r => uptoBulkEntry x + uptoBulkEntries r
def uptoBulkEntry {H : Type} : Lit × DataW H → Nat
  | (.string bytes, d) => bytes.length + uptoBulk d + 1
  | (_, d) => uptoBulk d + 1
 end
def uptoSmall : (H : Type) → List (DataW H) → Bool := fun _ ds => decide (uptoBulkAll ds ≤ 1048576)
def OpenSpec.upto (s : _root_.Go.ChangeSpec) : _root_.Go.OpenSpec := { _root_.Go.OpenSpec.ofChange s with cond := some uptoSmall }

/-- 'laws.FnExactGreatestExponent', WHERE WHAT IT READS IS OF BULK AT MOST 1048576: true; the input reads as it did. -/
def fnExactGreatestExponentUptoRow : OpenClaim := { program := "ytinanajagkilaab", sum := "bd506770aed7793659214f419f781908a9f0565ced029dcdbe5cce3d75e3819a", func := "loop.example/g01371/laws.FnExactGreatestExponent", spec := "fnExactGreatestExponent", unfollowed := true, recurses := true, apart := false, narrowed := true }
def FnExactGreatestExponentUptoSaid : Prop := fnExactGreatestExponentUptoRow.holds Try.pinned (OpenSpec.upto fnExactGreatestExponentSpec)

/-- 'laws.FnExactIsSquareFree', WHERE WHAT IT READS IS OF BULK AT MOST 1048576: true; the input reads as it did. -/
def fnExactIsSquareFreeUptoRow : OpenClaim := { program := "ytinanajagkilaab", sum := "bd506770aed7793659214f419f781908a9f0565ced029dcdbe5cce3d75e3819a", func := "loop.example/g01371/laws.FnExactIsSquareFree", spec := "fnExactIsSquareFree", apart := false, narrowed := true }
def FnExactIsSquareFreeUptoSaid : Prop := fnExactIsSquareFreeUptoRow.holds Try.pinned (OpenSpec.upto fnExactIsSquareFreeSpec)

/-- 'laws.FnExactIsOverlapFree', WHERE WHAT IT READS IS OF BULK AT MOST 1048576: true; the input reads as it did. -/
def fnExactIsOverlapFreeUptoRow : OpenClaim := { program := "ytinanajagkilaab", sum := "bd506770aed7793659214f419f781908a9f0565ced029dcdbe5cce3d75e3819a", func := "loop.example/g01371/laws.FnExactIsOverlapFree", spec := "fnExactIsOverlapFree", unfollowed := true, recurses := true, apart := false, narrowed := true }
def FnExactIsOverlapFreeUptoSaid : Prop := fnExactIsOverlapFreeUptoRow.holds Try.pinned (OpenSpec.upto fnExactIsOverlapFreeSpec)

/-- 'laws.FnExactCountSquareFree', WHERE WHAT IT READS IS OF BULK AT MOST 1048576: true; the input reads as it did. -/
def fnExactCountSquareFreeUptoRow : OpenClaim := { program := "ytinanajagkilaab", sum := "bd506770aed7793659214f419f781908a9f0565ced029dcdbe5cce3d75e3819a", func := "loop.example/g01371/laws.FnExactCountSquareFree", spec := "fnExactCountSquareFree", unfollowed := true, recurses := true, apart := false, narrowed := true }
def FnExactCountSquareFreeUptoSaid : Prop := fnExactCountSquareFreeUptoRow.holds Try.pinned (OpenSpec.upto fnExactCountSquareFreeSpec)

/-- 'laws.FnExactFirstSquareFree', WHERE WHAT IT READS IS OF BULK AT MOST 1048576: true; the input reads as it did. -/
def fnExactFirstSquareFreeUptoRow : OpenClaim := { program := "ytinanajagkilaab", sum := "bd506770aed7793659214f419f781908a9f0565ced029dcdbe5cce3d75e3819a", func := "loop.example/g01371/laws.FnExactFirstSquareFree", spec := "fnExactFirstSquareFree", unfollowed := true, recurses := true, apart := false, narrowed := true }
def FnExactFirstSquareFreeUptoSaid : Prop := fnExactFirstSquareFreeUptoRow.holds Try.pinned (OpenSpec.upto fnExactFirstSquareFreeSpec)

/-- 'laws.FnExactLettersNext', WHERE WHAT IT READS IS OF BULK AT MOST 1048576: true; the input reads as it did. -/
def fnExactLettersNextUptoRow : OpenClaim := { program := "ytinanajagkilaab", sum := "bd506770aed7793659214f419f781908a9f0565ced029dcdbe5cce3d75e3819a", func := "loop.example/g01371/laws.FnExactLettersNext", spec := "fnExactLettersNext", apart := false, narrowed := true }
def FnExactLettersNextUptoSaid : Prop := fnExactLettersNextUptoRow.holds Try.pinned (OpenSpec.upto fnExactLettersNextSpec)

end Rows
end Go.Proofs.Ytinanajagkilaab
