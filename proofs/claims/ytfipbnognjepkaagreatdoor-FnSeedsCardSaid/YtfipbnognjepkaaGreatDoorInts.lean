/- Slices of numbers: alike, marked, still marked. -/
import Derived.Test.YtfipbnognjepkaaGreatDoorOwn
namespace Go.Proofs.YtfipbnognjepkaaGreatDoor
set_option linter.unusedVariables false
set_option linter.unusedSimpArgs false
open Go.RowKit

theorem infoI64 : (Tryz.prog.info? 2).map (fun i => (i.zero, i.size, i.bytes)) = some (some (.int .i64 0), 1, 8) := by kernel_rfl

/-- A slice of numbers that a call made: what it reads as. -/
def OwnI (w : World) (B : Nat) (v : Value) (L : List Int) : Prop := w.ownsRow B 2 1 v L.length (L.map (Value.int .i64))
theorem OwnI.below {w w' : World} {B : Nat} {v : Value} {L : List Int} (h : OwnI w B v L) (b : Below w.heap.size w w') : OwnI w' B v L := own_below h b
theorem OwnI.nil (w : World) (B : Nat) : OwnI w B (.slice none 0 0) [] := World.ownsRow_nil _ _ _ _
theorem OwnI.base {w : World} {B B' : Nat} {v : Value} {L : List Int} (h : OwnI w B v L) (hb : B' ≤ B) : OwnI w B' v L := own_base h hb
theorem OwnI.empty {w : World} {B : Nat} {v : Value} (h : OwnI w B v []) : ∃ a c, v = .slice a 0 c := by
  rcases own_forms h with ⟨rfl, _, _⟩ | ⟨g, cap, rfl, _⟩
  · exact ⟨_, _, rfl⟩
  · exact ⟨_, _, rfl⟩
theorem OwnI.row {w : World} {B : Nat} {v : Value} {L : List Int} (h : OwnI w B v L) (hn : 0 < L.length) :
    ∃ g cap, v = .slice (some ⟨g, 0, none⟩) L.length cap ∧ B ≤ g ∧ g < w.heap.size ∧ L.length ≤ cap ∧ L.length ≤ maxLen ∧ (∀ j (hj : j < L.length), w.cell? ⟨g, j, none⟩ = some (.int .i64 (L[j]'hj))) ∧ (∀ j, w.frozen? ⟨g, j, none⟩ = false) := by
  rcases own_forms h with ⟨_, h0, _⟩ | ⟨g, cap, rfl, h1, h2, h3, h4, h5, h6⟩
  · omega
  · refine ⟨g, cap, rfl, h1, h2, h3, h4, fun j hj => ?_, h6⟩
    rw [h5 j hj]
    simp [hj]
theorem OwnI.lit0 (w : World) {B : Nat} (h : B ≤ w.heap.size) : OwnI (w.alloc (.cells #[] 2)) B (.slice (some ⟨w.heap.size, 0, none⟩) 0 0) [] := own_base (World.ownsRow_lit w #[] 0 (Nat.le_refl _) (by decide) (by simp)) h
/-- What a function that hands back a slice of numbers and a code comes to. -/
def RetI (L : List Int) (c : Int) (w : World) (e : Ending) (w' : World) : Prop := ∃ v, e = .returned (.tuple #[v, .int .i64 c]) ∧ OwnI w' w.heap.size v L ∧ Below w.heap.size w w'

/-- The numbers from m on. -/
def marks (m : Int) (n : Nat) : List Int := (List.range n).map fun (j : Nat) => m + (j : Int)
theorem marks_len (m : Int) (n : Nat) : (marks m n).length = n := by simp [marks]
theorem marks_get (m : Int) (n j : Nat) (h : j < (marks m n).length) : (marks m n)[j]'h = m + j := by simp [marks]
theorem marks_step (m : Int) (L : List Int) (k : Nat) (h : k < L.length) : ((marks m k ++ L.drop k).map (Value.int .i64)).set k (.int .i64 (m + k)) = (marks m (k + 1) ++ L.drop (k + 1)).map (Value.int .i64) := by
  apply List.ext_getElem
  · simp [marks]; omega
  · intro i h1 h2
    simp only [List.getElem_set, List.getElem_map]
    by_cases e : k = i
    · subst e
      simp [marks, List.getElem_append]
    · rw [if_neg e]
      congr 1
      simp only [List.getElem_append, marks_len]
      by_cases h3 : i < k
      · rw [dif_pos h3, dif_pos (by omega)]
        simp [marks]
      · rw [dif_neg h3, dif_neg (by omega)]
        simp only [List.getElem_drop]
        congr 1
        omega

theorem grown_set {w w' : World} {g : Nat} (h : w.grownBy w' (some g)) (j : Nat) (u : Value) : w.grownBy (w'.setCell ⟨g, j, none⟩ u) (some g) :=
  ⟨h.os, h.tape, h.output, by simpa [World.setCell] using h.size, fun k hk hne => by
    rw [Below.heap_setCell _ _ _ _ (by intro e; exact hne (by rw [e]))]
    exact h.block k hk hne⟩
theorem grown_refl (w : World) (r : Option Nat) : w.grownBy w r := ⟨rfl, rfl, rfl, Nat.le_refl _, fun _ _ _ => rfl⟩

/-- Another slice, in an older block, is kept while one is marked. -/
theorem OwnI.kept {w w' : World} {B B' : Nat} {v u : Value} {L M : List Int} (h : OwnI w B v L) (hu : OwnI w B' u M) (hlt : ∀ k, v.ownBlock = some k → k < B') (hg : w.grownBy w' u.ownBlock) : OwnI w' B v L := by
  refine World.ownsRow.kept h hg ?_
  cases hv : v.ownBlock with
  | none => exact .inl rfl
  | some k =>
    refine .inr fun e => ?_
    have h1 := hlt k hv
    have h2 := (World.ownsRow.lt hu k e.symm).1
    omega
theorem OwnI.lt {w : World} {B : Nat} {v : Value} {L : List Int} (h : OwnI w B v L) : ∀ k, v.ownBlock = some k → B ≤ k ∧ k < w.heap.size := World.ownsRow.lt h
/-- Behind a marking, older blocks stand. -/
theorem below_markedI {W w w' : World} {B : Nat} {v : Value} {L : List Int} (b : Below W.heap.size W w) (h : OwnI w B v L) (hB : W.heap.size ≤ B) (hg : w.grownBy w' v.ownBlock) : Below W.heap.size W w' :=
  b.grown hg b.size fun k e => Nat.le_trans hB (h.lt k e).1

end Go.Proofs.YtfipbnognjepkaaGreatDoor
