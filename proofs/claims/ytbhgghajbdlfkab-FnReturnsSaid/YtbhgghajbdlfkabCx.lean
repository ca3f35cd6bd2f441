/- The numbers of factors by length: the program. -/
import Derived.Test.YtbhgghajbdlfkabOver
import Derived.Deep.LoopGhost
namespace Go.Proofs.Ytbhgghajbdlfkab
set_option linter.unusedVariables false
set_option linter.unusedSimpArgs false
open Go.RowKit Go.Conc

theorem own_setChan {w : World} {B : Nat} {e : TypeId} {v : Value} {n : Nat} {xs : List Value} (h : w.ownsRow B e 1 v n xs) {c : Nat} (hne : ∀ g, v.ownBlock = some g → g ≠ c) (cap : Nat) (buf : Array Value) (cl : Bool) (s r : Nat) (tm : Bool) :
    (w.setChan c cap buf cl s r tm).ownsRow B e 1 v n xs := by
  obtain ⟨hl, h1 | ⟨g, cap', cur, rfl, hg, hh, rr⟩⟩ := h
  · exact ⟨hl, .inl h1⟩
  · refine ⟨hl, .inr ⟨g, cap', cur, rfl, hg, ?_, rr⟩⟩
    have := hne g rfl
    simp only [World.setChan]
    rw [Array.getElem?_setIfInBounds_ne (fun e => this e.symm)]
    exact hh
theorem bufS_get (z : ByteArray) (R : List ByteArray) : (bufS (z :: R)).getD 0 undef = .string z := by simp [bufS]
theorem bufS_tail (z : ByteArray) (R : List ByteArray) : (bufS (z :: R)).extract 1 (bufS (z :: R)).size = bufS R := by
  apply Array.toList_inj.1
  simp [bufS, List.take_of_length_le]
theorem bufS_nil : bufS [] = #[] := rfl
theorem chanAt_set {w : World} {c cap : Nat} {L : List ByteArray} {cl : Bool} {s r : Nat} (h : ChanAt w c cap L cl s r) {g : Nat} (hne : c ≠ g) (j : Nat) (u : Value) : ChanAt (w.setCell ⟨g, j, none⟩ u) c cap L cl s r := by
  unfold ChanAt
  rw [heap_setCell_other w ⟨g, j, none⟩ c u (fun e => hne (by simpa using e))]
  exact h
theorem chanAt_recv {w : World} {c cap : Nat} {z : ByteArray} {R : List ByteArray} {cl : Bool} {s r : Nat} (h : ChanAt w c cap (z :: R) cl s r) :
    ChanAt (w.setChan c cap ((bufS (z :: R)).extract 1 (bufS (z :: R)).size) cl s (r + 1) false) c cap R cl s (r + 1) := by
  have hlt := (Array.getElem?_eq_some_iff.1 h).1
  unfold ChanAt
  rw [heap_setChan _ _ _ _ _ _ _ _ hlt, bufS_tail]

/-- The row while the factors of the length j are counted. -/
def rowC (x : ByteArray) (j i : Nat) : List Int := cxs x j ++ (i : Int) :: List.replicate (x.size - j) 0
theorem rowC_get (x : ByteArray) (j i : Nat) (h : j < (rowC x j i).length) : (rowC x j i)[j]'h = (i : Int) := by
  have h2 : (rowC x j i)[j]? = some (i : Int) := by
    unfold rowC
    rw [List.getElem?_append_right (by rw [cxs_len]; exact Nat.le_refl _), cxs_len, Nat.sub_self]
    rfl
  rw [List.getElem?_eq_getElem h] at h2
  exact Option.some.inj h2
theorem rowC_set (x : ByteArray) (j i : Nat) : (rowC x j i).set j ((i : Int) + 1) = rowC x j (i + 1) := by
  unfold rowC
  rw [List.set_append_right _ _ (by rw [cxs_len]; exact Nat.le_refl _)]
  simp [cxs_len]
theorem rowC_len (x : ByteArray) (j i : Nat) (h : j ≤ x.size) : (rowC x j i).length = x.size + 1 := by
  unfold rowC
  rw [List.length_append, cxs_len]
  simp
  omega
/-- The row ahead of the length j. -/
def rowR (x : ByteArray) (j : Nat) : List Int := cxs x j ++ List.replicate (x.size + 1 - j) 0
theorem rowR_start (x : ByteArray) (j : Nat) (h : j ≤ x.size) : rowR x j = rowC x j 0 := by
  unfold rowR rowC
  rw [show x.size + 1 - j = (x.size - j) + 1 by omega, List.replicate_succ]
  rfl
theorem rowR_next (x : ByteArray) (j : Nat) (h : j ≤ x.size) : rowR x (j + 1) = rowC x j (facs x j).length := by
  unfold rowR rowC
  rw [cxs_succ, List.append_assoc, show x.size + 1 - (j + 1) = x.size - j by omega]
  rfl
theorem rowR_end (x : ByteArray) : rowR x (x.size + 1) = cxs x (x.size + 1) := by unfold rowR; simp
theorem rowR_zero (x : ByteArray) : (rowR x 0).map (Value.int .i64) = List.replicate (x.size + 1) (.int .i64 0) := by unfold rowR cxs; simp

end Go.Proofs.Ytbhgghajbdlfkab
