/- Slices that a call made: kept by later calls; read, written, turned into a text. -/
import Derived.Test.YtiojaiddgnbpiaaDoorWords
import Derived.Test.YtiojaiddgnbpiaaDoorComPlain
import Derived.Lib.BufferRead
import Derived.Laws.IdiomStrings
import Derived.Lib.OthersKept
import Derived.WalkSmall
namespace Go.Proofs.YtiojaiddgnbpiaaDoor
set_option linter.unusedVariables false
open Go.RowKit

/-- What a slice of the call's own is: nil and empty, or at the head of a row. -/
theorem own_forms {w : World} {B : Nat} {e : TypeId} {v : Value} {xs : List Value} {n : Nat} (h : w.ownsRow B e 1 v n xs) :
    (v = .slice none 0 0 ∧ n = 0 ∧ xs = []) ∨ ∃ g cap, v = .slice (some ⟨g, 0, none⟩) n cap ∧ B ≤ g ∧ g < w.heap.size ∧ n ≤ cap ∧ n ≤ maxLen ∧ (∀ j, j < n → w.cell? ⟨g, j, none⟩ = xs[j]?) ∧ (∀ j, w.frozen? ⟨g, j, none⟩ = false) := by
  have h0 := h
  obtain ⟨hl, h1 | ⟨g, cap, cur, rfl, hg, hh, hn, hc, hcs, hx⟩⟩ := h
  · obtain ⟨rfl, rfl⟩ := h1
    exact .inl ⟨rfl, rfl, List.eq_nil_of_length_eq_zero (by simpa using hl)⟩
  · exact .inr ⟨g, cap, rfl, hg, (Array.getElem?_eq_some_iff.1 hh).1, hn, Nat.le_trans hn hc, fun j hj => h0.cellAt j (by omega), fun j => h0.frozenAt j⟩

/-- A later call keeps it. -/
theorem own_below {w w' : World} {B : Nat} {e : TypeId} {v : Value} {xs : List Value} {n : Nat} (h : w.ownsRow B e 1 v n xs) (hB : Below w.heap.size w w') : w'.ownsRow B e 1 v n xs := by
  obtain ⟨hl, h1 | ⟨g, cap, cur, rfl, hg, hh, r⟩⟩ := h
  · exact ⟨hl, .inl h1⟩
  · exact ⟨hl, .inr ⟨g, cap, cur, rfl, hg, by rw [hB.block g (Array.getElem?_eq_some_iff.1 hh).1]; exact hh, r⟩⟩

theorem own_base {w : World} {B B' : Nat} {e : TypeId} {v : Value} {xs : List Value} {n : Nat} (h : w.ownsRow B e 1 v n xs) (hB : B' ≤ B) : w.ownsRow B' e 1 v n xs := by
  obtain ⟨hl, h1 | ⟨g, cap, cur, rfl, hg, r⟩⟩ := h
  · exact ⟨hl, .inl h1⟩
  · exact ⟨hl, .inr ⟨g, cap, cur, rfl, by omega, r⟩⟩

/-- An owned row stays while an iterator, in whatever block, is moved on. -/
theorem ownsRow_iterAt' {w : World} {base : Nat} {e : TypeId} {v : Value} {n : Nat} {xs : List Value} (h : w.ownsRow base e 1 v n xs) {k : Nat} {s : ByteArray} {p : Nat} (hk : w.heap[k]? = some (.stringIter s p)) (p' : Nat) : (w.iterAt k s p').ownsRow base e 1 v n xs := by
  obtain ⟨hl, h1 | ⟨g, cap, cur, rfl, hg, hh, r⟩⟩ := h
  · exact ⟨hl, .inl h1⟩
  · refine ⟨hl, .inr ⟨g, cap, cur, rfl, hg, ?_, r⟩⟩
    rw [Lib.iterAt_other]
    · exact hh
    · intro e1
      rw [e1, hk] at hh
      cases hh

/-- The text of a slice of bytes that the call made. -/
theorem text_of_own {w : World} {B : Nat} {v : Value} {l : List UInt8} (h : w.ownsRow B 5 1 v l.length (Lib.byteCells l)) :
    (convert 39 9 v).run Tryd.prog w = .ok (.string ⟨l.toArray⟩) w := by
  obtain ⟨hl, ⟨rfl, h1⟩ | ⟨g, cap, cur, rfl, hg, hh, hn, hc, hcs, hx⟩⟩ := h
  · have : l = [] := List.eq_nil_of_length_eq_zero h1
    subst this
    exact Lib.run_convert_nil_bytes w _ _ 5 0 Tryd.underlying39 Tryd.underlying5 Tryd.underlying9
  · exact run_convert_bytes_back w _ _ 5 _ _ l Tryd.underlying39 Tryd.underlying5 Tryd.underlying9 (Lib.bytes_of_row hh (by simpa using hx))

theorem infoU8 : (Tryd.prog.info? 5).map (fun i => (i.zero, i.size, i.bytes)) = some (some (.int .u8 0), 1, 1) := by kernel_rfl

/-- The cell of a new block of one value. -/
theorem cell_new (w : World) (v : Value) (t : TypeId) : ∀ j u, [v][j]? = some u → (w.alloc (.cells #[v] t)).cell? ((⟨w.heap.size, 0, none⟩ : Addr).add j) = some u := by
  intro j u hj
  match j, hj with
  | 0, hj => simp at hj; subst hj; simp [Addr.add, World.cell?_alloc_new]

theorem bytes_snoc (l : List UInt8) (k : Nat) (h : k < l.length) : Lib.byteCells (l.take k) ++ [Value.int .u8 ((l[k]'h).toNat : Int)] = Lib.byteCells (l.take (k + 1)) := by
  rw [List.take_succ_eq_append_getElem h, Lib.byteCells_append]; rfl

end Go.Proofs.YtiojaiddgnbpiaaDoor
