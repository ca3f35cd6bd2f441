/- Unavoidable patterns: the model. -/
import Derived.Test.YtfipbnognjepkaaDoorPatT
import Derived.Test.YtfipbnognjepkaaDoorZim
import Derived.Test.YtfipbnognjepkaaDoorInts
import Derived.Test.YtfipbnognjepkaaDoorOwn
namespace Go.Proofs.YtfipbnognjepkaaDoor
set_option linter.unusedVariables false
set_option linter.unusedSimpArgs false
open Go.RowKit

theorem cntV_snoc (P : List UInt8) (c : UInt8) (v : Nat) : cntV (P ++ [c]) v = cntV P v + (if vn c = v then 1 else 0) := by
  unfold cntV
  rw [List.filter_append, List.length_append]
  by_cases h : vn c = v <;> simp [h]
/-- Was the variable met? -/
def metV (P : List UInt8) (v : Nat) : Bool := decide (0 < cntV P v)
theorem metV_nil (v : Nat) : metV [] v = false := rfl
theorem metV_snoc (P : List UInt8) (c : UInt8) (v : Nat) : metV (P ++ [c]) v = (metV P v || decide (vn c = v)) := by
  unfold metV
  rw [cntV_snoc]
  by_cases h : vn c = v
  · simp [h]
  · simp [h]
theorem vsOf_snoc_old {P : List UInt8} {c : UInt8} (h : metV P (vn c) = true) : (vsOf (P ++ [c])).length = (vsOf P).length := by
  unfold vsOf
  congr 1
  apply List.filter_congr
  intro v _
  have := metV_snoc P c v
  unfold metV at this h
  rw [this]
  by_cases e : vn c = v
  · rw [← e, h]; rfl
  · simp [e]
theorem vsOf_snoc_new {P : List UInt8} {c : UInt8} (h : metV P (vn c) = false) (hc : vn c < 3) : (vsOf (P ++ [c])).length = (vsOf P).length + 1 := by
  have h0 := metV_snoc P c 0
  have h1 := metV_snoc P c 1
  have h2 := metV_snoc P c 2
  unfold metV at h0 h1 h2 h
  unfold vsOf
  simp only [List.filter_cons, List.filter_nil, h0, h1, h2]
  have hk : vn c = 0 ∨ vn c = 1 ∨ vn c = 2 := by omega
  rcases hk with e | e | e <;> rw [e] at h ⊢ <;> rw [h] <;> simp <;> (repeat' split) <;> simp
def ThreeB (w : World) (B g cap : Nat) (f : Nat → Bool) : Prop := w.ownsRow B 4 1 (.slice (some ⟨g, 0, none⟩) 3 cap) 3 [.bool (f 0), .bool (f 1), .bool (f 2)]

theorem ThreeB.at {w : World} {B g cap : Nat} {f : Nat → Bool} (h : ThreeB w B g cap f) {j : Nat} (hj : j < 3) : w.cell? ⟨g, j, none⟩ = some (.bool (f j)) := by
  rw [h.cellAt j (by omega)]
  have hj' : j = 0 ∨ j = 1 ∨ j = 2 := by omega
  rcases hj' with rfl | rfl | rfl <;> rfl
theorem ThreeB.set {w : World} {B g cap : Nat} {f f2 : Nat → Bool} (h : ThreeB w B g cap f) {k : Nat} (hk : k < 3) (h2 : ∀ j, f2 j = (f j || decide (k = j))) : ThreeB (w.setCell ⟨g, k, none⟩ (.bool true)) B g cap f2 := by
  have h3 := (h.stored k (.bool true)).1
  have e : [Value.bool (f 0), .bool (f 1), .bool (f 2)].set k (.bool true) = [Value.bool (f2 0), .bool (f2 1), .bool (f2 2)] := by
    rw [h2, h2, h2]
    have hk' : k = 0 ∨ k = 1 ∨ k = 2 := by omega
    rcases hk' with rfl | rfl | rfl <;> simp
  rw [e] at h3
  exact h3
theorem ThreeB.same {w : World} {B g cap : Nat} {f f2 : Nat → Bool} (h : ThreeB w B g cap f) (h2 : ∀ j, f2 j = f j) : ThreeB w B g cap f2 := by
  have e : f2 = f := funext h2
  rw [e]; exact h
theorem vsOf_len3 (P : List UInt8) : (vsOf P).length ≤ 3 := by
  unfold vsOf
  exact Nat.le_trans (List.length_filter_le _ _) (by decide)
theorem vsOf_posU {P : List UInt8} (hP : IsPL P) (h0 : P ≠ []) : 1 ≤ (vsOf P).length := by
  cases P with
  | nil => exact absurd rfl h0
  | cons c P =>
    have hc := hP c (List.mem_cons_self ..)
    have hm : vn c ∈ vsOf (c :: P) := vsOf_mem.2 ⟨by unfold vn; omega, cntV_pos.2 ⟨c, List.mem_cons_self .., rfl⟩⟩
    exact List.length_pos_of_mem hm
theorem zimL_60 {n : Nat} (h : n ≤ 5) : (zimL n).length ≤ 60 := by have := zim_size h; rw [bt_size] at this; omega

noncomputable def unavR (p : ByteArray) : Bool × Int := if IsP p then (hasB (zimL (vsOf (bl p)).length) (bl p), 0) else (false, 1)
theorem unavR_bad {p : ByteArray} (h : ¬ IsP p) : unavR p = (false, 1) := if_neg h
theorem unavR_ok {p : ByteArray} (h : IsP p) : unavR p = (hasB (zimL (vsOf (bl p)).length) (bl p), 0) := if_pos h

end Go.Proofs.YtfipbnognjepkaaDoor
