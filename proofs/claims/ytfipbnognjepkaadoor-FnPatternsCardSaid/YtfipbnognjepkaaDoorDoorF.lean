/- The door of the functions that return a fit. -/
import Derived.Test.YtfipbnognjepkaaDoorFitC
import Derived.Test.YtfipbnognjepkaaDoorDoorT
import Derived.Laws.Pointers
namespace Go.Proofs.YtfipbnognjepkaaDoor
set_option linter.unusedVariables false
set_option linter.unusedSimpArgs false
open Go.RowKit

set_option maxRecDepth 100000 in
set_option maxHeartbeats 2000000 in
theorem catch_G_hit (p : Addr) (x c : Int) (older : List PanicEntry) (w : World) (hc : w.cell? p = some (.int .i64 x)) (hz : w.frozen? p = false) :
    CallsD Tryd.prog 132 #[.pointer (some p)] (.panicking (refused c :: older)) w fun e u' w' =>
      e = .returned (.tuple #[]) ∧ u' = .panicking ({ refused c with recovered := true } :: older) ∧ w' = w.setCell p (.int .i64 c) := by
  have has := assert_refusal
  refine callsD_of_wpS Tryd.func132 rfl fun c₀ cs hu => ?_
  simp only [Tryd.ntmps132, List.size_toArray, List.length_cons, List.length_nil, Nat.reduceAdd, Nat.reduceSub, Array.replicate_succ, Array.replicate_zero, List.push_toArray, List.append_toArray, List.nil_append, List.cons_append]
  apply wpS_seq
  apply wpS_region
  simp [wpOpsS, go_sem, recoverD, hu, Tryd.ntmps132, Exit.thenS]
  refine wpS_of_wp ?_
  go_wp2
  cases c₀
  simp_all [bodyPostS, results, Tryd.results132]

theorem catch_G_idle (p : Addr) (w : World) :
    CallsD Tryd.prog 132 #[.pointer (some p)] .returning w fun e u' w' => e = .returned (.tuple #[]) ∧ u' = .returning ∧ w' = w := by
  refine callsD_of_wpS Tryd.func132 rfl fun c₀ cs hu => ?_
  simp only [Tryd.ntmps132, List.size_toArray, List.length_cons, List.length_nil, Nat.reduceAdd, Nat.reduceSub, Array.replicate_succ, Array.replicate_zero, List.push_toArray, List.append_toArray, List.nil_append, List.cons_append]
  apply wpS_seq
  apply wpS_region
  simp [wpOpsS, go_sem, recoverD, hu, Tryd.ntmps132, Exit.thenS]
  refine wpS_of_wp ?_
  go_wp2
  cases c₀
  simp_all [bodyPostS, results, Tryd.results132]

abbrev doorG (w : World) : World := (w.alloc (.cells #[.int .i64 0, .slice none 0 0] 78)).alloc (.cells #[.int .i64 0] 2)
theorem door_cellG {w w' : World} (h : Below (doorG w).heap.size (doorG w) w') :
    (w'.cell? ⟨w.heap.size, 0, none⟩ = some (.int .i64 0) ∧ w'.cell? ⟨w.heap.size, 1, none⟩ = some (.slice none 0 0) ∧ w'.cell? ⟨w.heap.size + 1, 0, none⟩ = some (.int .i64 0)) ∧
    w'.frozen? ⟨w.heap.size, 0, none⟩ = false ∧ w'.frozen? ⟨w.heap.size, 1, none⟩ = false ∧ w'.frozen? ⟨w.heap.size + 1, 0, none⟩ = false := by
  have hs : (doorG w).heap.size = w.heap.size + 2 := by simp [doorG]
  refine ⟨⟨?_, ?_, ?_⟩, ?_, ?_, ?_⟩
  · rw [(bcell h).1 _ _ (by omega)]; simp [doorG, go_sem]
  · rw [(bcell h).1 _ _ (by omega)]; simp [doorG, go_sem]
  · rw [(bcell h).1 _ _ (by omega)]; simp [doorG, go_sem]
  · rw [(bcell h).2 _ _ (by omega)]; simp [doorG, go_sem]
  · rw [(bcell h).2 _ _ (by omega)]; simp [doorG, go_sem]
  · rw [(bcell h).2 _ _ (by omega)]; simp [doorG, go_sem]

/-- How a search ends behind its door: a fit whose values lie above B, or a refusal. -/
def EndG (g : Nat) (X : List UInt8) (vs : List Nat) (B : Nat) (r : Option (Nat × (Nat → List UInt8))) (c : Int) (e : Ending) (w' : World) : Prop := match r with
  | some (i, W) => ∃ v, e = .returned (.agg #[.int .i64 (i : Int), v]) ∧ OwnF w' B g X v (vs.map W)
  | none => e = .panicked [refused c]
/-- The door's answer. -/
def RetG (g : Nat) (X : List UInt8) (vs : List Nat) (B : Nat) (r : Option (Nat × (Nat → List UInt8))) (c : Int) (e : Ending) (w' : World) : Prop := match r with
  | some (i, W) => ∃ v, e = .returned (.tuple #[.agg #[.int .i64 (i : Int), v], .int .i64 0]) ∧ OwnF w' B g X v (vs.map W)
  | none => e = .returned (.tuple #[.agg #[.int .i64 0, .slice none 0 0], .int .i64 c])

set_option maxRecDepth 100000 in
set_option maxHeartbeats 2000000 in
theorem door_fit (K : Nat) (caps : Array Value) (w : World) (X : List UInt8) (vs : List Nat) (r : Option (Nat × (Nat → List UInt8))) (c : Int) (hent : ∀ args W, (callFunc K args).run Tryd.prog W = .ok (.enter K args) W)
    (hw : Calls Tryd.prog K caps (doorG w) fun e w' => ∃ g, (doorG w).heap.size ≤ g ∧ EndG g X vs (doorG w).heap.size r c e w' ∧ LettersAt w' g X ∧ Below (doorG w).heap.size (doorG w) w') :
    Calls Tryd.prog 68 #[.func (.func K) #[] caps] w fun e w' => ∃ g, w.heap.size ≤ g ∧ RetG g X vs w.heap.size r c e w' ∧ LettersAt w' g X ∧ Below w.heap.size w w' := by
  have hmf : ∀ (fn : Fn) (first cap : Array Value) (w : World), (Instr.makeFunc fn first cap).run Tryd.prog w = .ok (.func fn first cap) w := fun _ _ _ _ => rfl
  have hB0 : Below w.heap.size w (doorG w) := (Below.new _ _).alloc (by simp) _
  have hs : w.heap.size ≤ (doorG w).heap.size := hB0.size
  have hs2 : (doorG w).heap.size = w.heap.size + 2 := by simp [doorG]
  cases r with
  | none =>
    go_enter_defers Tryd.func68, Tryd.ntmps68
    go_wp2_with (go_at_fn K; refine hw.mono ?_; rintro e w' ⟨g, hg, he, hL, hB⟩; obtain rfl : e = .panicked [refused c] := he; obtain ⟨⟨hc0, hc1, hc2⟩, hz0, hz1, hz2⟩ := door_cellG hB)
    refine leaves_cons (f := 132) (args := #[.pointer (some ⟨w.heap.size + 1, 0, none⟩)]) (by simp) (by simp [go_sem]) ?_
    refine (catch_G_hit ⟨w.heap.size + 1, 0, none⟩ 0 c [] _ hc2 hz2).mono ?_
    rintro e u' w'' ⟨rfl, rfl, rfl⟩
    simp [Leaves, settle, results, Tryd.results68, go_sem, hc0, hc1, hc2, hz0, hz1, hz2]
    exact ⟨g, by omega, rfl, hL.set ⟨w.heap.size + 1, 0, none⟩ _ (by show w.heap.size + 1 ≠ g; omega), (hB0.trans (hB.mono hs)).setCell (p := ⟨w.heap.size + 1, 0, none⟩) (Nat.le_succ _) _⟩
  | some iW =>
    obtain ⟨i, W⟩ := iW
    go_enter_defers Tryd.func68, Tryd.ntmps68
    go_wp2_with (go_at_fn K; refine hw.mono ?_; rintro e w' ⟨g, hg, he, hL, hB⟩; obtain ⟨v, rfl, hown⟩ := he; obtain ⟨va, vn, vc, rfl⟩ := hown.shape; obtain ⟨⟨hc0, hc1, hc2⟩, hz0, hz1, hz2⟩ := door_cellG hB)
    refine leaves_cons (f := 132) (args := #[.pointer (some ⟨w.heap.size + 1, 0, none⟩)]) (by simp) (by simp [go_sem]) ?_
    refine (catch_G_idle ⟨w.heap.size + 1, 0, none⟩ _).mono ?_
    rintro e u' w'' ⟨rfl, rfl, rfl⟩
    simp [Leaves, settle, results, Tryd.results68, go_sem, hc0, hc1, hc2, hz0, hz1, hz2]
    refine ⟨g, by omega, ⟨_, rfl, ((((hown.set ⟨w.heap.size, 0, none⟩ _ (by rw [hs2]; show w.heap.size < _; omega)).set ⟨w.heap.size, 1, none⟩ _ (by rw [hs2]; show w.heap.size < _; omega)).set ⟨w.heap.size + 1, 0, none⟩ _ (by rw [hs2]; show w.heap.size + 1 < _; omega))).base hs⟩, ?_, (((hB0.trans (hB.mono hs)).setCell (p := ⟨w.heap.size, 0, none⟩) (Nat.le_refl _) _).setCell (p := ⟨w.heap.size, 1, none⟩) (Nat.le_refl _) _).setCell (p := ⟨w.heap.size + 1, 0, none⟩) (Nat.le_succ _) _⟩
    exact ((hL.set ⟨w.heap.size, 0, none⟩ _ (by show w.heap.size ≠ g; omega)).set ⟨w.heap.size, 1, none⟩ _ (by show w.heap.size ≠ g; omega)).set ⟨w.heap.size + 1, 0, none⟩ _ (by show w.heap.size + 1 ≠ g; omega)

end Go.Proofs.YtfipbnognjepkaaDoor
