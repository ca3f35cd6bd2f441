/- The search for a factor that fits a pattern: the letters as a block, values as parts of it; the values tried. -/
import Derived.Test.YtfipbnognjepkaaDoorPat2Plain
import Derived.Test.YtfipbnognjepkaaDoorWords
import Derived.Test.YtfipbnognjepkaaDoorOwn
import Derived.Test.YtfipbnognjepkaaDoorShelf
import Derived.Lib.OthersKept
import Derived.Lib.RuneBytes
import Derived.Lib.Hide
import Derived.WalkSmall
import Derived.IntWalk
import Derived.Below
import Derived.OneCell
import Derived.Laws.Pointers
import Derived.BigQuiet
import Derived.Deep.QuietTactic
import Derived.Lib.SliceRun
namespace Go.Proofs.YtfipbnognjepkaaDoor
set_option linter.unusedVariables false
set_option linter.unusedSimpArgs false
open Go.RowKit

theorem infoBs : (Tryd.prog.info? 40).map (fun i => (i.zero, i.size, i.bytes)) = some (some (.slice none 0 0), 1, 24) := by kernel_rfl
/-- The letters X lie in the block g. -/
def LettersAt (w : World) (g : Nat) (X : List UInt8) : Prop := g < w.heap.size ∧ ∀ j (h : j < X.length), w.cell? ⟨g, j, none⟩ = some (.int .u8 ((X[j]'h).toNat : Int))
theorem LettersAt.past {w w' : World} {g : Nat} {X : List UInt8} (h : LettersAt w g X) (hB : Below w.heap.size w w') : LettersAt w' g X :=
  ⟨Nat.lt_of_lt_of_le h.1 hB.size, fun j hj => by rw [(bcell hB).1 g j h.1]; exact h.2 j hj⟩
/-- A table of values told by a function. -/
def tbF (n : Nat) (f : Nat → Value) : List Value := (List.range n).map f
theorem tbF_get (n : Nat) (f : Nat → Value) (p : Nat) (h : p < n) : (tbF n f)[p]? = some (f p) := by simp [tbF, h]
theorem tbF_set (n : Nat) (f : Nat → Value) (p : Nat) (z : Value) : (tbF n f).set p z = tbF n (fun q => if q = p then z else f q) := by
  apply List.ext_getElem
  · simp [tbF]
  · intro i h1 h2
    rw [List.getElem_set]
    by_cases e : p = i
    · subst e; simp [tbF]
    · rw [if_neg e]
      simp [tbF, Ne.symm e]
theorem tbF_congr {n : Nat} {f g : Nat → Value} (h : ∀ p, p < n → f p = g p) : tbF n f = tbF n g := by
  unfold tbF
  exact List.map_congr_left fun p hp => h p (List.mem_range.1 hp)
theorem tbF_const (n : Nat) (z : Value) : tbF n (fun _ => z) = List.replicate n z := by
  unfold tbF
  rw [List.eq_replicate_iff]
  refine ⟨by rw [List.length_map, List.length_range], fun b hb => ?_⟩
  obtain ⟨s, _, rfl⟩ := List.mem_map.1 hb
  rfl
abbrev TbF (W : World) (B G : Nat) (t : TypeId) (n : Nat) (f : Nat → Value) : Prop := W.ownsRow B t 1 (.slice (some ⟨G, 0, none⟩) n n) n (tbF n f)
theorem TbF.at {W : World} {B G : Nat} {t : TypeId} {n : Nat} {f : Nat → Value} (h : TbF W B G t n f) {p : Nat} (hp : p < n) : W.cell? ⟨G, p, none⟩ = some (f p) := by
  rw [h.cellAt p (by omega)]
  exact tbF_get n f p hp
theorem TbF.set {W : World} {B G : Nat} {t : TypeId} {n : Nat} {f : Nat → Value} (h : TbF W B G t n f) (p : Nat) (z : Value) : TbF (W.setCell ⟨G, p, none⟩ z) B G t n (fun q => if q = p then z else f q) := by
  have := (h.stored p z).1
  rwa [tbF_set] at this
theorem TbF.congr {W : World} {B G : Nat} {t : TypeId} {n : Nat} {f g : Nat → Value} (h : TbF W B G t n f) (e : ∀ p, p < n → f p = g p) : TbF W B G t n g := by
  unfold TbF at h ⊢
  rwa [tbF_congr e] at h

/-- A value as a part of the letters, or none yet. -/
def valV (g : Nat) : Option (Nat × Nat) → Value
  | none => .slice none 0 0
  | some (o, n) => .slice (some ⟨g, o, none⟩) n n
def valX (X : List UInt8) : Option (Nat × Nat) → List UInt8
  | none => []
  | some (o, n) => (X.drop o).take n
/-- What is told lies among the letters. -/
def InX (X : List UInt8) (O : Nat → Option (Nat × Nat)) : Prop := ∀ v o n, O v = some (o, n) → 1 ≤ n ∧ o + n ≤ X.length
theorem InX.none (X : List UInt8) : InX X (fun _ => Option.none) := fun v o n h => by cases h
theorem InX.upd {X : List UInt8} {O : Nat → Option (Nat × Nat)} (h : InX X O) {v o n : Nat} (h1 : 1 ≤ n) (h2 : o + n ≤ X.length) : InX X (updV O v (some (o, n))) := by
  intro u o' n' e
  by_cases q : u = v
  · rw [q, updV_at] at e; cases e; exact ⟨h1, h2⟩
  · rw [updV_ne _ _ q] at e; exact h u o' n' e
theorem valX_upd (X : List UInt8) (O : Nat → Option (Nat × Nat)) (v o n : Nat) : (fun u => valX X (updV O v (some (o, n)) u)) = updV (fun u => valX X (O u)) v ((X.drop o).take n) := by
  funext u
  by_cases q : u = v
  · rw [q, updV_at, updV_at]; rfl
  · rw [updV_ne _ _ q, updV_ne _ _ q]
theorem valX_len {X : List UInt8} {O : Nat → Option (Nat × Nat)} (h : InX X O) {v o n : Nat} (e : O v = some (o, n)) : (valX X (O v)).length = n := by
  rw [e]
  show ((X.drop o).take n).length = n
  have := h v o n e
  rw [List.length_take, List.length_drop]; omega
theorem valX_ne {X : List UInt8} {O : Nat → Option (Nat × Nat)} (h : InX X O) {v o n : Nat} (e : O v = some (o, n)) : valX X (O v) ≠ [] := fun q => by
  have h1 := valX_len h e
  rw [q] at h1
  have := (h v o n e).1
  simp at h1; omega
/-- The values lie in a list that the call made, as parts of the letters. -/
def OwnF (w : World) (B g : Nat) (X : List UInt8) (v : Value) (L : List (List UInt8)) : Prop :=
  ∃ h O, v = .slice (some ⟨h, 0, none⟩) L.length L.length ∧ TbF w B h 40 L.length (fun j => valV g (O j)) ∧ InX X O ∧ ∀ j (hj : j < L.length), valX X (O j) = L[j]'hj ∧ L[j]'hj ≠ []
/-- How a search ends. -/
def FitEnd (i : Nat) (g : Nat) (X : List UInt8) (vs : List Nat) (B : Nat) (r : Option (Nat → List UInt8)) (e : Ending) (w' : World) : Prop :=
  match r with
  | none => e = .returned (.tuple #[])
  | some W => ∃ v, e = .panicked [{ v := .iface 78 (.agg #[.int .i64 (i : Int), v]), recovered := false }] ∧ OwnF w' B g X v (vs.map W)
abbrev srchV (p vs : ByteArray) (g n c : Nat) : Value := .agg #[.string p, .string vs, .slice (some ⟨g, 0, none⟩) n c]
/-- The lengths of the variables, by a list in their order. -/
def lnF (vs : List Nat) (lens : List Nat) (v : Nat) : Nat := lens.getD (vs.idxOf v) 0

theorem eq_nil (W : World) (a : Option Addr) (n c : Nat) : (binOp .eql 40 (.slice a n c) (.slice none 0 0)).run Tryd.prog W = .ok (.bool a.isNone) W := Lib.run_eql_slice_nil W _ _ a n c 0 0 Tryd.underlying40
theorem slice_lhm (W : World) (g c n lo wd : Nat) (h : 0 < wd) (hc : lo + wd ≤ c) :
    (Instr.slice 40 (.slice (some ⟨g, 0, none⟩) n c) (some (.int .i64 (lo : Int))) (some (.int .i64 ((lo : Int) + (wd : Int)))) (some (.int .i64 ((lo : Int) + (wd : Int))))).run Tryd.prog W = .ok (.slice (some ⟨g, lo, none⟩) wd wd) W := by
  have e1 : ((lo : Int) + (wd : Int)).toNat = lo + wd := by omega
  have hz := Tryd.sizeOf5 W
  simp [Instr.slice, run_underlying Tryd.underlying40, Instr.sliceBounds, run_sliceBound, sliced, e1, Addr.add, show (0 : Int) ≤ (lo : Int) + (wd : Int) by omega, show (lo : Int) + (wd : Int) ≤ (c : Int) by omega]
  rw [run_sliceBound W .i64 (lo : Int) (lo + wd) _ (by omega) (by omega)]
  simp only [Result.andThen, Int.toNat_natCast]
  rw [if_neg (by omega), Nat.add_sub_cancel_left]
  by_cases e : lo = 0
  · subst e; rfl
  · rw [if_neg e]
theorem slice_lh (W : World) (g c n lo wd : Nat) (h : 0 < wd) (hc : lo + wd ≤ c) :
    (Instr.slice 40 (.slice (some ⟨g, 0, none⟩) n c) (some (.int .i64 (lo : Int))) (some (.int .i64 ((lo : Int) + (wd : Int)))) none).run Tryd.prog W = .ok (.slice (some ⟨g, lo, none⟩) wd (c - lo)) W := by
  have e1 : ((lo : Int) + (wd : Int)).toNat = lo + wd := by omega
  have hz := Tryd.sizeOf5 W
  simp [Instr.slice, run_underlying Tryd.underlying40, Instr.sliceBounds, run_sliceBound, sliced, e1, Addr.add, show (0 : Int) ≤ (lo : Int) + (wd : Int) by omega, show (lo : Int) + (wd : Int) ≤ (c : Int) by omega]
  rw [run_sliceBound W .i64 (lo : Int) (lo + wd) _ (by omega) (by omega)]
  simp only [Result.andThen, Int.toNat_natCast]
  rw [if_neg (by omega), Nat.add_sub_cancel_left]
  by_cases e : lo = 0
  · subst e; rfl
  · rw [if_neg e]

end Go.Proofs.YtfipbnognjepkaaDoor
