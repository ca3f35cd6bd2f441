/- The first place of a pattern: the answer. -/
import Derived.Test.YtfipbnognjepkaaDoorPatT
import Derived.Test.YtfipbnognjepkaaDoorPlcPlain
import Derived.Test.YtfipbnognjepkaaDoorStrs
namespace Go.Proofs.YtfipbnognjepkaaDoor
set_option linter.unusedVariables false
set_option linter.unusedSimpArgs false
open Go.RowKit

/-- The first place of a pattern in a word, if there is one, and the code of none. -/
noncomputable def placeO (x p : ByteArray) : Option (Nat × (Nat → List UInt8)) := if IsW x ∧ IsP p then pff (bl x) (bl p) else none
noncomputable def placeC (x p : ByteArray) : Int := if IsW x ∧ IsP p then 4 else 1
def valsB (vs : List Nat) (W : Nat → List UInt8) : List ByteArray := vs.map fun v => bt (W v)
def ansP (vs : List Nat) (c : Int) : Option (Nat × (Nat → List UInt8)) → Int × List ByteArray × Int
  | some (i, W) => ((i : Int), valsB vs W, 0)
  | none => (0, [], c)
noncomputable def placeR (x p : ByteArray) : Int × List ByteArray × Int := ansP (vsOf (bl p)) (placeC x p) (placeO x p)
theorem placeR_bad {x p : ByteArray} (h : ¬ (IsW x ∧ IsP p)) : placeR x p = (0, [], 1) := by unfold placeR placeO placeC; rw [if_neg h, if_neg h]; rfl
theorem placeR_none {x p : ByteArray} (h : IsW x ∧ IsP p) (e : pff (bl x) (bl p) = none) : placeR x p = (0, [], 4) := by unfold placeR placeO placeC; rw [if_pos h, if_pos h, e]; rfl
theorem placeR_some {x p : ByteArray} (h : IsW x ∧ IsP p) {i : Nat} {W : Nat → List UInt8} (e : pff (bl x) (bl p) = some (i, W)) : placeR x p = ((i : Int), valsB (vsOf (bl p)) W, 0) := by unfold placeR placeO placeC; rw [if_pos h, if_pos h, e]; rfl
theorem placeR_len (x p : ByteArray) : (placeR x p).2.1.length ≤ 3 := by
  unfold placeR
  cases placeO x p with
  | none => exact Nat.zero_le _
  | some y =>
    show (valsB _ _).length ≤ 3
    unfold valsB
    rw [List.length_map]
    exact List.length_filter_le (fun v => decide (0 < cntV (bl p) v)) [0, 1, 2]
/-- What a function that hands back a place, values and a code comes to. -/
def RetP (r : Int × List ByteArray × Int) (w : World) (e : Ending) (w' : World) : Prop := ∃ v, e = .returned (.tuple #[.int .i64 r.1, v, .int .i64 r.2.2]) ∧ OwnS w' w.heap.size v r.2.1 ∧ Below w.heap.size w w'

end Go.Proofs.YtfipbnognjepkaaDoor
