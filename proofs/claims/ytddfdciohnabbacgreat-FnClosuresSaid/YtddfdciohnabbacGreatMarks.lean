/- Marks of ranges over functions that add up in a loop: leaving a function through all of them. -/
import Derived.Test.YtddfdciohnabbacGreatFacIter
import Derived.Test.YtddfdciohnabbacGreatIsLyn
namespace Go.Proofs.YtddfdciohnabbacGreat
set_option linter.unusedVariables false
set_option linter.unusedSimpArgs false
open Go.RowKit Go.Shelf

def mkD (D : Nat) : Deferred := { target := .collected D, args := #[] }
/-- The marks: each one's record stands, and no two are one. -/
def MarksAt (W : World) (lo : Nat) (Ds : List Nat) : Prop := Ds.Nodup ∧ ∀ D ∈ Ds, lo ≤ D ∧ W.heap[D]? = some (.deferred (some []))
theorem MarksAt.nil (W : World) (lo : Nat) : MarksAt W lo [] := ⟨List.nodup_nil, fun D h => by cases h⟩
theorem MarksAt.lt {W : World} {lo : Nat} {Ds : List Nat} (h : MarksAt W lo Ds) : ∀ D ∈ Ds, D < W.heap.size := fun D hD => (Array.getElem?_eq_some_iff.1 (h.2 D hD).2).1
theorem MarksAt.keep {W W' : World} {lo : Nat} {Ds : List Nat} (h : MarksAt W lo Ds) (hk : ∀ (b : Nat) (o : Obj), W.heap[b]? = some o → o.isCells = false → W'.heap[b]? = some o) : MarksAt W' lo Ds := ⟨h.1, fun D hD => ⟨(h.2 D hD).1, hk D _ (h.2 D hD).2 rfl⟩⟩
theorem MarksAt.cons {W : World} {lo : Nat} {Ds : List Nat} {D : Nat} (h : MarksAt W lo Ds) (hD : lo ≤ D) (hK : W.heap[D]? = some (.deferred (some []))) (hn : D ∉ Ds) : MarksAt W lo (D :: Ds) :=
  ⟨List.nodup_cons.2 ⟨hn, h.1⟩, fun E hE => by rcases List.mem_cons.1 hE with rfl | hE; exact ⟨hD, hK⟩; exact h.2 E hE⟩

/-- Both boxes of the results are written. -/
theorem two_boxes {w W : World} {b : Nat} {t u : TypeId} {v v' x x' : Value} (v2 : Boxed W b t v) (v3 : Boxed W (b + 1) u v') (hB : Below w.heap.size w W) (hb : w.heap.size ≤ b) :
    Boxed ((W.setCell ⟨b, 0, none⟩ x).setCell ⟨b + 1, 0, none⟩ x') b t x ∧ Boxed ((W.setCell ⟨b, 0, none⟩ x).setCell ⟨b + 1, 0, none⟩ x') (b + 1) u x' ∧ Below w.heap.size w ((W.setCell ⟨b, 0, none⟩ x).setCell ⟨b + 1, 0, none⟩ x') ∧
    (∀ B, b + 1 < B → KeepsFrom B W ((W.setCell ⟨b, 0, none⟩ x).setCell ⟨b + 1, 0, none⟩ x')) ∧ ∀ D, D < W.heap.size → D ≠ b → D ≠ b + 1 → ((W.setCell ⟨b, 0, none⟩ x).setCell ⟨b + 1, 0, none⟩ x').heap[D]? = W.heap[D]? := by
  refine ⟨(v2.set _).kept (grownBy_setCell' _ _ _) (fun e => by have := Option.some.inj e; omega), (v3.kept (grownBy_setCell' _ _ _) (fun e => by have := Option.some.inj e; omega)).set _, (hB.setCell (p := ⟨b, 0, none⟩) hb _).setCell (p := ⟨b + 1, 0, none⟩) (by show w.heap.size ≤ b + 1; omega) _, fun B h => (KeepsFrom.of_grownBy (grownBy_setCell' _ _ _) (fun j e => by cases e; omega)).trans (KeepsFrom.of_grownBy (grownBy_setCell' _ _ _) (fun j e => by cases e; omega)), fun D h1 h2 h3 => ?_⟩
  rw [(grownBy_setCell' _ _ _).block D (by simpa [World.setCell] using h1) (fun e => by have := Option.some.inj e; omega), (grownBy_setCell' _ _ _).block D h1 (fun e => by have := Option.some.inj e; omega)]
theorem MarksAt.old {W W' : World} {lo : Nat} {Ds : List Nat} (h : MarksAt W lo Ds) (hk : ∀ b, b < W.heap.size → W'.heap[b]? = W.heap[b]?) : MarksAt W' lo Ds := ⟨h.1, fun D hD => ⟨(h.2 D hD).1, (hk D (h.lt D hD)).trans (h.2 D hD).2⟩⟩
/-- A record of a mark is no box. -/
theorem MarksAt.not_box {W : World} {lo : Nat} {Ds : List Nat} (h : MarksAt W lo Ds) {b : Nat} {t : TypeId} {v : Value} (hb : Boxed W b t v) : b ∉ Ds := fun hm => by
  have h1 := (h.2 b hm).2
  have h2 : W.heap[b]? = _ := hb
  rw [h2] at h1
  cases h1

theorem leaves_marks {F : Fence} {n : Nat} {P : Program} {fn : Func} {tmps : Array Value} {R : Ending → World → Prop} (St : World → Prop) (hfin : ∀ W, St W → LeavesIn F n P fn tmps R [] .returning W) :
    ∀ (Ds : List Nat) (W : World) (lo : Nat), MarksAt W lo Ds → (∀ D W, lo ≤ D → St W → W.heap[D]? = some (.deferred (some [])) → St (W.putObj D (.deferred none))) → St W → LeavesInM F n P fn tmps R (Ds.map mkD) .returning W
  | [], W, lo, _, _, hs => hfin W hs
  | D :: Ds, W, lo, hM, hP, hs => by
    have hD := hM.2 D (List.mem_cons_self ..)
    have hn := List.nodup_cons.1 hM.1
    refine ⟨by simp, .inl ⟨D, _, rfl, run_takeDeferred hD.2, leaves_marks St hfin Ds _ lo ⟨hn.2, fun E hE => ⟨(hM.2 E (List.mem_cons_of_mem _ hE)).1, ?_⟩⟩ hP (hP D W hD.1 hs hD.2)⟩⟩
    rw [World.putObj_heap_other (fun e => hn.1 (by rw [← e]; exact hE))]
    exact (hM.2 E (List.mem_cons_of_mem _ hE)).2

end Go.Proofs.YtddfdciohnabbacGreat
