/- Slices of texts: alike, marked, still marked. -/
import Derived.Test.YtfipbnognjepkaaGreatDoorInts
import Derived.Test.YtfipbnognjepkaaGreatDoorMarkPlain
import Derived.Deep.RegionHeld3
namespace Go.Proofs.YtfipbnognjepkaaGreatDoor
set_option linter.unusedVariables false
set_option linter.unusedSimpArgs false
open Go.RowKit

theorem infoStr : (Tryz.prog.info? 9).map (fun i => (i.zero, i.size, i.bytes)) = some (some (.string ⟨#[]⟩), 1, 16) := by kernel_rfl

/-- A slice of numbers that a call made: what it reads as. -/
def OwnS (w : World) (B : Nat) (v : Value) (L : List ByteArray) : Prop := w.ownsRow B 9 1 v L.length (L.map (Value.string))
theorem OwnS.below {w w' : World} {B : Nat} {v : Value} {L : List ByteArray} (h : OwnS w B v L) (b : Below w.heap.size w w') : OwnS w' B v L := own_below h b
theorem OwnS.nil (w : World) (B : Nat) : OwnS w B (.slice none 0 0) [] := World.ownsRow_nil _ _ _ _
theorem OwnS.base {w : World} {B B' : Nat} {v : Value} {L : List ByteArray} (h : OwnS w B v L) (hb : B' ≤ B) : OwnS w B' v L := own_base h hb
theorem OwnS.empty {w : World} {B : Nat} {v : Value} (h : OwnS w B v []) : ∃ a c, v = .slice a 0 c := by
  rcases own_forms h with ⟨rfl, _, _⟩ | ⟨g, cap, rfl, _⟩
  · exact ⟨_, _, rfl⟩
  · exact ⟨_, _, rfl⟩
theorem OwnS.row {w : World} {B : Nat} {v : Value} {L : List ByteArray} (h : OwnS w B v L) (hn : 0 < L.length) :
    ∃ g cap, v = .slice (some ⟨g, 0, none⟩) L.length cap ∧ B ≤ g ∧ g < w.heap.size ∧ L.length ≤ cap ∧ L.length ≤ maxLen ∧ (∀ j (hj : j < L.length), w.cell? ⟨g, j, none⟩ = some (.string (L[j]'hj))) ∧ (∀ j, w.frozen? ⟨g, j, none⟩ = false) := by
  rcases own_forms h with ⟨_, h0, _⟩ | ⟨g, cap, rfl, h1, h2, h3, h4, h5, h6⟩
  · omega
  · refine ⟨g, cap, rfl, h1, h2, h3, h4, fun j hj => ?_, h6⟩
    rw [h5 j hj]
    simp [hj]
/-- What a function that hands back a slice of numbers and a code comes to. -/
def RetS (L : List ByteArray) (c : Int) (w : World) (e : Ending) (w' : World) : Prop := ∃ v, e = .returned (.tuple #[v, .int .i64 c]) ∧ OwnS w' w.heap.size v L ∧ Below w.heap.size w w'

theorem grown_below {w w' w'' : World} {r : Option Nat} (h : w.grownBy w' r) (b : Below w'.heap.size w' w'') : w.grownBy w'' r :=
  ⟨b.os.trans h.os, b.tape.trans h.tape, b.output.trans h.output, Nat.le_trans h.size b.size, fun k hk hne => (b.block k (Nat.lt_of_lt_of_le hk h.size)).trans (h.block k hk hne)⟩
/-- The numbers from m on. -/
def marksS (m : Nat) (n : Nat) : List ByteArray := (List.range n).map fun (j : Nat) => markT (m + j)
theorem marksS_len (m : Nat) (n : Nat) : (marksS m n).length = n := by simp [marksS]
theorem marksS_get (m : Nat) (n j : Nat) (h : j < (marksS m n).length) : (marksS m n)[j]'h = markT (m + j) := by simp [marksS]
theorem marksS_step (m : Nat) (L : List ByteArray) (k : Nat) (h : k < L.length) : ((marksS m k ++ L.drop k).map (Value.string)).set k (.string (markT (m + k))) = (marksS m (k + 1) ++ L.drop (k + 1)).map (Value.string) := by
  apply List.ext_getElem
  · simp [marksS]; omega
  · intro i h1 h2
    simp only [List.getElem_set, List.getElem_map]
    by_cases e : k = i
    · subst e
      simp [marksS, List.getElem_append]
    · rw [if_neg e]
      congr 1
      simp only [List.getElem_append, marksS_len]
      by_cases h3 : i < k
      · rw [dif_pos h3, dif_pos (by omega)]
        simp [marksS]
      · rw [dif_neg h3, dif_neg (by omega)]
        simp only [List.getElem_drop]
        congr 1
        omega

/-- Another slice, in an older block, is kept while one is marked. -/
theorem OwnS.kept {w w' : World} {B B' : Nat} {v u : Value} {L M : List ByteArray} (h : OwnS w B v L) (hu : OwnS w B' u M) (hlt : ∀ k, v.ownBlock = some k → k < B') (hg : w.grownBy w' u.ownBlock) : OwnS w' B v L := by
  refine World.ownsRow.kept h hg ?_
  cases hv : v.ownBlock with
  | none => exact .inl rfl
  | some k =>
    refine .inr fun e => ?_
    have h1 := hlt k hv
    have h2 := (World.ownsRow.lt hu k e.symm).1
    omega
theorem OwnS.lt {w : World} {B : Nat} {v : Value} {L : List ByteArray} (h : OwnS w B v L) : ∀ k, v.ownBlock = some k → B ≤ k ∧ k < w.heap.size := World.ownsRow.lt h
/-- Behind a marking, older blocks stand. -/
theorem below_markedS {W w w' : World} {B : Nat} {v : Value} {L : List ByteArray} (b : Below W.heap.size W w) (h : OwnS w B v L) (hB : W.heap.size ≤ B) (hg : w.grownBy w' v.ownBlock) : Below W.heap.size W w' :=
  b.grown hg b.size fun k e => Nat.le_trans hB (h.lt k e).1

end Go.Proofs.YtfipbnognjepkaaGreatDoor
