/- Five numbers, one for each letter, as an array in a block. -/
import Derived.Test.YtddfdciohnabbabCtPlain
import Derived.Test.YtddfdciohnabbabNumbers
import Derived.Deep.QuietTactic
import Derived.BigQuiet
import Derived.Deep.RegionWith
import Derived.RangeFuncBox
import Derived.ChangeKeysEq
import Derived.IntWalk
namespace Go.Proofs.Ytddfdciohnabbab
set_option linter.unusedVariables false
set_option linter.unusedSimpArgs false
open Go.RowKit

/-- An array of five numbers. -/
abbrev vecV (f : Nat → Nat) : Value := .agg #[.int .i64 (f 0 : Int), .int .i64 (f 1 : Int), .int .i64 (f 2 : Int), .int .i64 (f 3 : Int), .int .i64 (f 4 : Int)]

theorem part5 (w : World) (x0 x1 x2 x3 x4 : Int) (j : Nat) (hj : j < 5) : (part 2 #[.int .i64 x0, .int .i64 x1, .int .i64 x2, .int .i64 x3, .int .i64 x4] j).run Try.prog w = .ok ([Value.int .i64 x0, .int .i64 x1, .int .i64 x2, .int .i64 x3, .int .i64 x4].getD j undef) w := by
  rcases (show j = 0 ∨ j = 1 ∨ j = 2 ∨ j = 3 ∨ j = 4 by omega) with rfl | rfl | rfl | rfl | rfl <;> simp [part, isAgg, run_underlying Try.underlying2]
/-- Two arrays compared. -/
theorem eq5_run (w : World) (x0 x1 x2 x3 x4 y0 y1 y2 y3 y4 : Int) :
    (Op.equalIn 10000 91 (.agg #[.int .i64 x0, .int .i64 x1, .int .i64 x2, .int .i64 x3, .int .i64 x4]) (.agg #[.int .i64 y0, .int .i64 y1, .int .i64 y2, .int .i64 y3, .int .i64 y4])).run Try.prog w = .ok (decide (x0 = y0 ∧ x1 = y1 ∧ x2 = y2 ∧ x3 = y3 ∧ x4 = y4)) w := by
  obtain ⟨i0, hi, _, _, _⟩ := info_parts infoI64
  rw [show (10000 : Nat) = 9999 + 1 from rfl, run_equalIn_array w 9999 _ _ Try.underlying91 hi, show Try.prog.cellsOf 2 = 1 by kernel_rfl]
  have hr : List.range 5 = [0, 1, 2, 3, 4] := rfl
  have he : ∀ (W : World) (a b : Int), (Op.equalIn 9999 2 (.int .i64 a) (.int .i64 b)).run Try.prog W = .ok (a == b) W := fun W a b => run_equalIn_int W 9998 2 .i64 .i64 a b Try.underlying2
  have q0 := fun W x0 x1 x2 x3 x4 => part5 W x0 x1 x2 x3 x4 0 (by omega)
  have q1 := fun W x0 x1 x2 x3 x4 => part5 W x0 x1 x2 x3 x4 1 (by omega)
  have q2 := fun W x0 x1 x2 x3 x4 => part5 W x0 x1 x2 x3 x4 2 (by omega)
  have q3 := fun W x0 x1 x2 x3 x4 => part5 W x0 x1 x2 x3 x4 3 (by omega)
  have q4 := fun W x0 x1 x2 x3 x4 => part5 W x0 x1 x2 x3 x4 4 (by omega)
  simp only [hr, Op.eqItems, Nat.mul_one, Sem.run_bind, q0, q1, q2, q3, q4, Result.andThen_ok, List.getD_cons_zero, List.getD_cons_succ, he]
  by_cases h0 : x0 = y0
  · by_cases h1 : x1 = y1
    · by_cases h2 : x2 = y2
      · by_cases h3 : x3 = y3
        · by_cases h4 : x4 = y4
          · simp [h0, h1, h2, h3, h4, q0, q1, q2, q3, q4, he]
          · simp [h0, h1, h2, h3, h4, q0, q1, q2, q3, q4, he]
        · simp [h0, h1, h2, h3, q0, q1, q2, q3, q4, he]
      · simp [h0, h1, h2, q0, q1, q2, q3, q4, he]
    · simp [h0, h1, q0, q1, q2, q3, q4, he]
  · simp [h0, q0, q1, q2, q3, q4, he]

/-- An array of five numbers in a block of its own. -/
def Arr5 (W : World) (b : Nat) (f : Nat → Nat) : Prop := W.heap[b]? = some (.cells #[.int .i64 (f 0 : Int), .int .i64 (f 1 : Int), .int .i64 (f 2 : Int), .int .i64 (f 3 : Int), .int .i64 (f 4 : Int)] 91 (0, 0))
theorem Arr5.lt {W : World} {b : Nat} {f : Nat → Nat} (h : Arr5 W b f) : b < W.heap.size := (Array.getElem?_eq_some_iff.1 h).1
theorem Arr5.cell {W : World} {b : Nat} {f : Nat → Nat} (h : Arr5 W b f) (j : Nat) (hj : j < 5) : W.cell? ⟨b, j, none⟩ = some (.int .i64 (f j : Int)) := by
  rcases (show j = 0 ∨ j = 1 ∨ j = 2 ∨ j = 3 ∨ j = 4 by omega) with rfl | rfl | rfl | rfl | rfl <;> simp [World.cell?, show W.heap[b]? = _ from h]
theorem Arr5.frozen {W : World} {b : Nat} {f : Nat → Nat} (h : Arr5 W b f) (j : Nat) : W.frozen? ⟨b, j, none⟩ = false := by simp [World.frozen?, show W.heap[b]? = _ from h]
theorem Arr5.later {W W' : World} {b : Nat} {f : Nat → Nat} (h : Arr5 W b f) (k : Below W.heap.size W W') : Arr5 W' b f := (k.block _ h.lt).trans h
theorem Arr5.new (W : World) (f : Nat → Nat) : Arr5 (W.alloc (.cells #[.int .i64 (f 0 : Int), .int .i64 (f 1 : Int), .int .i64 (f 2 : Int), .int .i64 (f 3 : Int), .int .i64 (f 4 : Int)] 91)) W.heap.size f := World.alloc_heap_new W _
theorem Arr5.congr {W : World} {b : Nat} {f g : Nat → Nat} (h : Arr5 W b f) (e : ∀ j, j < 5 → f j = g j) : Arr5 W b g := by
  unfold Arr5 at h ⊢
  rw [h, e 0 (by omega), e 1 (by omega), e 2 (by omega), e 3 (by omega), e 4 (by omega)]
theorem Arr5.other {W : World} {b : Nat} {f : Nat → Nat} (h : Arr5 W b f) {b' j : Nat} (hne : b ≠ b') (u : Value) : Arr5 (W.setCell ⟨b', j, none⟩ u) b f := (Below.heap_setCell _ _ _ b (fun e => hne (by rw [e]))).trans h
theorem Arr5.set {W : World} {b : Nat} {f : Nat → Nat} (h : Arr5 W b f) (j : Nat) (hj : j < 5) (x : Nat) : Arr5 (W.setCell ⟨b, j, none⟩ (.int .i64 (x : Int))) b (fun i => if i = j then x else f i) := by
  obtain ⟨hlt, hk⟩ := Array.getElem?_eq_some_iff.1 h
  show (W.heap.modify b _)[b]? = _
  rw [Array.getElem?_eq_getElem (by rw [Array.size_modify]; exact hlt), Array.getElem_modify_self, hk]
  rcases (show j = 0 ∨ j = 1 ∨ j = 2 ∨ j = 3 ∨ j = 4 by omega) with rfl | rfl | rfl | rfl | rfl <;> rfl

theorem own_value5 {w : World} {B : Nat} {v : Value} {L : List Int} (h : OwnI w B v L) : ∃ a c, v = .slice a L.length c := by
  rcases own_forms h with ⟨rfl, h0, _⟩ | ⟨g, cap, hv, _⟩
  · exact ⟨none, 0, by rw [h0]⟩
  · exact ⟨_, cap, hv⟩
theorem grownBy_setCellJ (W : World) (b j : Nat) (v : Value) : W.grownBy (W.setCell ⟨b, j, none⟩ v) (some b) :=
  ⟨rfl, rfl, rfl, (KeepsWalks.setCell W _ v).size, fun k _ hk => Below.heap_setCell _ _ _ k (fun e => hk (by rw [e]))⟩
theorem own_setFar {w : World} {B b j g n c : Nat} {e : TypeId} {xs : List Value} {m : Nat} {u : Value} (h : w.ownsRow B e 1 (.slice (some ⟨g, 0, none⟩) n c) m xs) (hne : b ≠ g) : (w.setCell ⟨b, j, none⟩ u).ownsRow B e 1 (.slice (some ⟨g, 0, none⟩) n c) m xs :=
  World.ownsRow.kept h (grownBy_setCellJ w b j u) (.inr fun e => hne (by injection e with e; exact e.symm))

/-- An array's cell, by value. -/
theorem idx5 (f : Nat → Nat) (j : Nat) (hj : j < 5) (W : World) : (Instr.index 91 (vecV f) (.int .i64 (j : Int))).run Try.prog W = .ok (.int .i64 (f j : Int)) W := by
  have hs : Try.prog.cellsOf 2 = 1 := by kernel_rfl
  obtain ⟨i0, hi, _, hs1, _⟩ := info_parts infoI64
  rcases (show j = 0 ∨ j = 1 ∨ j = 2 ∨ j = 3 ∨ j = 4 by omega) with rfl | rfl | rfl | rfl | rfl <;> simp [Instr.index, run_underlying Try.underlying91, run_underlying Try.underlying2, run_sizeOf _ hi, hs1, asIntOf, part, isAgg, hs, go_sem]

end Go.Proofs.Ytddfdciohnabbab
