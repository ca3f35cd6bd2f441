/- The number of the square free words of a length, and the first one: the program. -/
import Derived.Test.YtolboinemechpabSfIter
import Derived.Test.YtolboinemechpabIsLyn
namespace Go.Proofs.Ytolboinemechpab
set_option linter.unusedVariables false
set_option linter.unusedSimpArgs false
open Go.RowKit Go.Shelf
attribute [local go_sem] Oper.semAt_some

def countSfR (m k : Int) : Int × Int := if m < 0 ∨ 12 < m ∨ k < 1 ∨ 3 < k then (0, 2) else (((dfs k.toNat m.toNat []).length : Int), 0)
theorem countSfR_out {m k : Int} (h : m < 0 ∨ 12 < m ∨ k < 1 ∨ 3 < k) : countSfR m k = (0, 2) := if_pos h
theorem countSfR_ok {m k : Nat} (h1 : m ≤ 12) (h2 : 1 ≤ k) (h3 : k ≤ 3) : countSfR (m : Int) (k : Int) = (((dfs k m []).length : Int), 0) := by unfold countSfR; rw [if_neg (by omega)]; rfl

theorem Boxed.below {W W' : World} {B b : Nat} {t : TypeId} {v : Value} (h : Boxed W b t v) (hb : Below B W W') (hlt : b < B) : Boxed W' b t v := (hb.block b hlt).trans h
theorem KeepUp.set {B b : Nat} (W : World) (v : Value) (h : b < B) : KeepUp B W (W.setCell ⟨b, 0, none⟩ v) :=
  ⟨(grownBy_setCell' W b v).size, fun k h1 h2 => (grownBy_setCell' W b v).block k h2 (fun e => by cases e; omega)⟩

noncomputable def firstSfR (m k : Int) : ByteArray × Int := if m < 0 ∨ 30 < m ∨ k < 1 ∨ 5 < k then (⟨#[]⟩, 2) else match (dfs k.toNat m.toNat []).head? with
  | some s => (⟨s.toArray⟩, 0)
  | none => (⟨#[]⟩, 4)
theorem firstSfR_out {m k : Int} (h : m < 0 ∨ 30 < m ∨ k < 1 ∨ 5 < k) : firstSfR m k = (⟨#[]⟩, 2) := if_pos h
theorem firstSfR_some {m k : Nat} {s : List UInt8} (h1 : m ≤ 30) (h2 : 1 ≤ k) (h3 : k ≤ 5) (h : (dfs k m []).head? = some s) : firstSfR (m : Int) (k : Int) = (⟨s.toArray⟩, 0) := by unfold firstSfR; rw [if_neg (by omega)]; simp [h]
theorem firstSfR_none {m k : Nat} (h1 : m ≤ 30) (h2 : 1 ≤ k) (h3 : k ≤ 5) (h : (dfs k m []).head? = none) : firstSfR (m : Int) (k : Int) = (⟨#[]⟩, 4) := by unfold firstSfR; rw [if_neg (by omega)]; simp [h]

/-- Both boxes of the results are written. -/
theorem two_set {w W : World} {b : Nat} {t u : TypeId} {v v' x x' : Value} (v2 : Boxed W b t v) (v3 : Boxed W (b + 1) u v') (hB : Below w.heap.size w W) (hb : w.heap.size ≤ b) :
    Boxed ((W.setCell ⟨b, 0, none⟩ x).setCell ⟨b + 1, 0, none⟩ x') b t x ∧ Boxed ((W.setCell ⟨b, 0, none⟩ x).setCell ⟨b + 1, 0, none⟩ x') (b + 1) u x' ∧ Below w.heap.size w ((W.setCell ⟨b, 0, none⟩ x).setCell ⟨b + 1, 0, none⟩ x') ∧
    (∀ B, b + 1 < B → KeepUp B W ((W.setCell ⟨b, 0, none⟩ x).setCell ⟨b + 1, 0, none⟩ x')) ∧ ∀ D, D < W.heap.size → D ≠ b → D ≠ b + 1 → ((W.setCell ⟨b, 0, none⟩ x).setCell ⟨b + 1, 0, none⟩ x').heap[D]? = W.heap[D]? := by
  refine ⟨(v2.set _).kept (grownBy_setCell' _ _ _) (fun e => by have := Option.some.inj e; omega), (v3.kept (grownBy_setCell' _ _ _) (fun e => by have := Option.some.inj e; omega)).set _, (hB.setCell (p := ⟨b, 0, none⟩) hb _).setCell (p := ⟨b + 1, 0, none⟩) (by show w.heap.size ≤ b + 1; omega) _, fun B h => (KeepUp.set _ _ (by omega)).trans (KeepUp.set _ _ h), fun D h1 h2 h3 => ?_⟩
  rw [(grownBy_setCell' _ _ _).block D (by simpa [World.setCell] using h1) (fun e => by have := Option.some.inj e; omega), (grownBy_setCell' _ _ _).block D h1 (fun e => by have := Option.some.inj e; omega)]

end Go.Proofs.Ytolboinemechpab
