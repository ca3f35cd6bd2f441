/- What a walk is told of a struct of one slice of texts that came in. -/
import Derived.WalkKit
import Derived.SliceStrings
import Derived.ChangeSame
import Derived.OpenShut
import Derived.ShutString
import Derived.ChangeOld
import Derived.Below
namespace Go.Proofs.Ytfipbnognjepkaa
set_option linter.unusedVariables false
open Go.RowKit Go.ChangeShapes Go.WideShapes
/-- It is nil; or it leads to a row of 'cap' cells, the texts 'zs' (the first 'len' are its elements). -/
def IsRowS (w : World) (a : Option Addr) (len cap : Nat) (zs : List ByteArray) : Prop :=
  (a = none ∧ len = 0 ∧ cap = 0 ∧ zs = []) ∨
  ∃ x, a = some x ∧ len ≤ cap ∧ cap ≤ maxLen ∧ zs.length = cap ∧ (∀ i, i < zs.length → w.cell? (x.add i) = some (.string (zs.getD i ByteArray.empty))) ∧ ∀ s ∈ zs, s.size ≤ maxLen
theorem IsRowS.below {w w' : World} {a : Option Addr} {len cap : Nat} {zs : List ByteArray} (h : IsRowS w a len cap zs) (b : Below w.heap.size w w') : IsRowS w' a len cap zs := by
  rcases h with h | ⟨x, h1, h2, h3, h4, h5, h6⟩
  · exact .inl h
  · exact .inr ⟨x, h1, h2, h3, h4, fun i hi => by rw [b.cell (World.block_lt_of_cell? _ _ (h5 i hi))]; exact h5 i hi, h6⟩
theorem IsRowS.len_le {w : World} {a : Option Addr} {len cap : Nat} {zs : List ByteArray} (h : IsRowS w a len cap zs) : len ≤ 9223372036854775807 := by
  rcases h with ⟨_, h, _⟩ | ⟨x, h1, h2, h3, _⟩
  · omega
  · unfold maxLen at h3; omega
theorem open_mor {H : Type} {enc : TypeId × Value → H} {P : Program} {w : World} {base : Nat} {held : Bool} {t e s : TypeId} {f0 : Field} {cs : Array Value} {d : DataW H} {p : List MemPlace}
    (ht : P.underlying t = some (.struct #[f0])) (he : P.underlying e = some (.slice s)) (hs : P.underlying s = some .string) (h0 : (f0.type, f0.offset) = (e, 0)) (h1 : P.cellsOf e = 1) (h2 : P.cellsOf s = 1) (hc : cs.size = 1)
    (h : DataW.Trod enc P w base (fun _ => true) held t (.agg cs) d p) : ∃ a len cap zs, cs = #[.slice a len cap] ∧ IsRowS w a len cap zs := by
  obtain ⟨fuel, hf⟩ := h
  obtain ⟨y0, n, _, _, hy⟩ := trod_struct1 ht hf
  obtain ⟨l⟩ := cs
  simp only [Prod.mk.injEq] at h0
  obtain ⟨h01, h02⟩ := h0
  match l, hc with
  | [c], _ =>
    rw [h01, h02, h1] at hy
    have hy' : DataW.trod enc P w base (fun _ => true) held n e [c] = some y0 := by simpa [Value.cells] using hy
    rcases open_strings he hs h2 hy' with ⟨hcs, _⟩ | ⟨x, len, cap, ss, hcs, _, hl, hm, hz, _, hcell, hsz⟩
    · injection hcs with h3
      subst h3
      exact ⟨none, 0, 0, [], rfl, .inl ⟨rfl, rfl, rfl, rfl⟩⟩
    · injection hcs with h3
      subst h3
      exact ⟨some x, len, cap, ss, rfl, .inr ⟨x, rfl, hl, hm, by simpa using hz, hcell, hsz⟩⟩
end Go.Proofs.Ytfipbnognjepkaa
