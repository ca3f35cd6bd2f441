/- The door of a search: a fit that is thrown is found. -/
import Derived.Test.YtfipbnognjepkaaDoorTryG
import Derived.Recover
import Derived.Defers
import Derived.WalkLawsBesides
import Derived.Laws.Pointers
import Derived.Shelf.Abstract
import Derived.KernelRfl
namespace Go.Proofs.YtfipbnognjepkaaDoor
set_option linter.unusedVariables false
set_option linter.unusedSimpArgs false
open Go.RowKit

/-- A fit at a place with its values, as a panic. -/
abbrev thrown (i : Int) (v : Value) : PanicEntry := { v := .iface 78 (.agg #[.int .i64 i, v]), recovered := false }
theorem assert_fit (W : World) (v : Value) : (Instr.typeAssert (.iface 78 v) 20 78 true).run Tryd.prog W = .ok (.tuple #[v, .bool true]) W := by kernel_rfl
/-- How a search ends, the place being told too. -/
def FitE (g : Nat) (X : List UInt8) (vs : List Nat) (B : Nat) (r : Option (Nat × (Nat → List UInt8))) (e : Ending) (w' : World) : Prop :=
  match r with
  | none => e = .returned (.tuple #[])
  | some (i, W) => ∃ v, e = .panicked [thrown (i : Int) v] ∧ OwnF w' B g X v (vs.map W)
theorem FitEnd.e {i g : Nat} {X : List UInt8} {vs : List Nat} {B : Nat} {r : Option (Nat → List UInt8)} {e : Ending} {w' : World} (h : FitEnd i g X vs B r e w') : FitE g X vs B (r.map fun W => (i, W)) e w' := by
  cases r with
  | none => exact h
  | some W => exact h
theorem FitE.base {g : Nat} {X : List UInt8} {vs : List Nat} {B B' : Nat} {r : Option (Nat × (Nat → List UInt8))} {e : Ending} {w' : World} (h : FitE g X vs B r e w') (hB : B' ≤ B) : FitE g X vs B' r e w' := by
  cases r with
  | none => exact h
  | some W =>
    obtain ⟨v, rfl, q, O, rfl, hT, r⟩ := h
    exact ⟨_, rfl, q, O, rfl, own_base hT hB, r⟩

set_option maxRecDepth 100000 in
set_option maxHeartbeats 2000000 in
theorem catch_F_hit (b : Nat) (x y z : Value) (i : Int) (v : Value) (older : List PanicEntry) (w : World) (hv : ∃ a n c, v = .slice a n c) (h0 : w.cell? ⟨b, 0, none⟩ = some x) (h1 : w.cell? ⟨b, 1, none⟩ = some y) (h2 : w.cell? ⟨b + 1, 0, none⟩ = some z)
    (f0 : w.frozen? ⟨b, 0, none⟩ = false) (f1 : w.frozen? ⟨b, 1, none⟩ = false) (f2 : w.frozen? ⟨b + 1, 0, none⟩ = false) :
    CallsD Tryd.prog 179 #[.pointer (some ⟨b, 0, none⟩), .pointer (some ⟨b + 1, 0, none⟩)] (.panicking (thrown i v :: older)) w fun e u' w' =>
      e = .returned (.tuple #[]) ∧ u' = .panicking ({ thrown i v with recovered := true } :: older) ∧ w' = ((w.setCell ⟨b, 0, none⟩ (.int .i64 i)).setCell ⟨b, 1, none⟩ v).setCell ⟨b + 1, 0, none⟩ (.bool true) := by
  have has := assert_fit
  obtain ⟨a, n, c, rfl⟩ := hv
  refine callsD_of_wpS Tryd.func179 rfl fun c₀ cs hu => ?_
  simp only [Tryd.ntmps179, List.size_toArray, List.length_cons, List.length_nil, Nat.reduceAdd, Nat.reduceSub, Array.replicate_succ, Array.replicate_zero, List.push_toArray, List.append_toArray, List.nil_append, List.cons_append]
  apply wpS_seq
  apply wpS_region
  simp [wpOpsS, go_sem, recoverD, hu, Tryd.ntmps179, Exit.thenS]
  refine wpS_of_wp ?_
  go_wp2
  cases c₀
  simp_all [bodyPostS, results, Tryd.results179]

theorem catch_F_idle (p q : Addr) (w : World) :
    CallsD Tryd.prog 179 #[.pointer (some p), .pointer (some q)] .returning w fun e u' w' => e = .returned (.tuple #[]) ∧ u' = .returning ∧ w' = w := by
  refine callsD_of_wpS Tryd.func179 rfl fun c₀ cs hu => ?_
  simp only [Tryd.ntmps179, List.size_toArray, List.length_cons, List.length_nil, Nat.reduceAdd, Nat.reduceSub, Array.replicate_succ, Array.replicate_zero, List.push_toArray, List.append_toArray, List.nil_append, List.cons_append]
  apply wpS_seq
  apply wpS_region
  simp [wpOpsS, go_sem, recoverD, hu, Tryd.ntmps179, Exit.thenS]
  refine wpS_of_wp ?_
  go_wp2
  cases c₀
  simp_all [bodyPostS, results, Tryd.results179]

/-- What a search hands back: a fit, or none. -/
def FitRet (g : Nat) (X : List UInt8) (vs : List Nat) (B : Nat) (r : Option (Nat × (Nat → List UInt8))) (e : Ending) (w' : World) : Prop :=
  match r with
  | none => e = .returned (.tuple #[.agg #[.int .i64 0, .slice none 0 0], .bool false])
  | some (i, W) => ∃ v, e = .returned (.tuple #[.agg #[.int .i64 (i : Int), v], .bool true]) ∧ OwnF w' B g X v (vs.map W)
abbrev fdW (w : World) : World := (w.alloc (.cells #[.int .i64 0, .slice none 0 0] 78)).alloc (.cells #[.bool false] 4)
theorem fd_cells {w w' : World} (h : Below (fdW w).heap.size (fdW w) w') :
    (w'.cell? ⟨w.heap.size, 0, none⟩ = some (.int .i64 0) ∧ w'.cell? ⟨w.heap.size, 1, none⟩ = some (.slice none 0 0) ∧ w'.cell? ⟨w.heap.size + 1, 0, none⟩ = some (.bool false)) ∧
    w'.frozen? ⟨w.heap.size, 0, none⟩ = false ∧ w'.frozen? ⟨w.heap.size, 1, none⟩ = false ∧ w'.frozen? ⟨w.heap.size + 1, 0, none⟩ = false := by
  have hs : (fdW w).heap.size = w.heap.size + 2 := by simp [fdW]
  refine ⟨⟨?_, ?_, ?_⟩, ?_, ?_, ?_⟩
  · rw [(bcell h).1 _ _ (by omega)]; simp [fdW, go_sem]
  · rw [(bcell h).1 _ _ (by omega)]; simp [fdW, go_sem]
  · rw [(bcell h).1 _ _ (by omega)]; simp [fdW, go_sem]
  · rw [(bcell h).2 _ _ (by omega)]; simp [fdW, go_sem]
  · rw [(bcell h).2 _ _ (by omega)]; simp [fdW, go_sem]
  · rw [(bcell h).2 _ _ (by omega)]; simp [fdW, go_sem]
theorem grown_setF (w : World) (a : Addr) (u : Value) : w.grownBy (w.setCell a u) (some a.block) := by
  have h := (Below.refl a.block w).setCell (p := a) (Nat.le_refl _) u
  exact ⟨h.os, h.tape, h.output, h.size, fun k _ hn => Below.heap_setCell w a u k (fun e => hn (by rw [e]))⟩
theorem OwnF.set {w : World} {B g : Nat} {X : List UInt8} {v : Value} {L : List (List UInt8)} (h : OwnF w B g X v L) (a : Addr) (u : Value) (ha : a.block < B) : OwnF (w.setCell a u) B g X v L := by
  obtain ⟨q, O, rfl, hT, r⟩ := h
  have hq := (hT.lt q rfl).1
  exact ⟨q, O, rfl, hT.kept (grown_setF w a u) (.inr (by simp [Value.ownBlock]; omega)), r⟩
theorem OwnF.base {w : World} {B B' g : Nat} {X : List UInt8} {v : Value} {L : List (List UInt8)} (h : OwnF w B g X v L) (hB : B' ≤ B) : OwnF w B' g X v L := by
  obtain ⟨q, O, rfl, hT, r⟩ := h
  exact ⟨q, O, rfl, own_base hT hB, r⟩
theorem OwnF.past {w w' : World} {B g : Nat} {X : List UInt8} {v : Value} {L : List (List UInt8)} (h : OwnF w B g X v L) (hB : Below w.heap.size w w') : OwnF w' B g X v L := by
  obtain ⟨q, O, rfl, hT, r⟩ := h
  exact ⟨q, O, rfl, own_below hT hB, r⟩
theorem OwnF.shape {w : World} {B g : Nat} {X : List UInt8} {v : Value} {L : List (List UInt8)} (h : OwnF w B g X v L) : ∃ a n c, v = .slice a n c := by
  obtain ⟨q, O, rfl, hT, r⟩ := h
  exact ⟨_, _, _, rfl⟩

set_option maxRecDepth 100000 in
set_option maxHeartbeats 2000000 in
theorem fitFound_any (K : Nat) (caps : Array Value) (w : World) (g : Nat) (X : List UInt8) (vs : List Nat) (r : Option (Nat × (Nat → List UInt8))) (hent : ∀ args W, (callFunc K args).run Tryd.prog W = .ok (.enter K args) W)
    (hw : Calls Tryd.prog K caps (fdW w) fun e w' => FitE g X vs (fdW w).heap.size r e w' ∧ Below (fdW w).heap.size (fdW w) w') :
    Calls Tryd.prog 133 #[.func (.func K) #[] caps] w fun e w' => FitRet g X vs w.heap.size r e w' ∧ Below w.heap.size w w' := by
  have hmf : ∀ (fn : Fn) (first cap : Array Value) (w : World), (Instr.makeFunc fn first cap).run Tryd.prog w = .ok (.func fn first cap) w := fun _ _ _ _ => rfl
  have hB0 : Below w.heap.size w (fdW w) := (Below.new _ _).alloc (by simp) _
  have hs : w.heap.size ≤ (fdW w).heap.size := hB0.size
  cases r with
  | none =>
    go_enter_defers Tryd.func133, Tryd.ntmps133
    go_wp2_with (go_at_fn K; refine hw.mono ?_; rintro e w' ⟨he, hB⟩; obtain rfl : e = .returned (.tuple #[]) := he; obtain ⟨⟨hc0, hc1, hc2⟩, hz0, hz1, hz2⟩ := fd_cells hB)
    refine leaves_cons (f := 179) (args := #[.pointer (some ⟨w.heap.size, 0, none⟩), .pointer (some ⟨w.heap.size + 1, 0, none⟩)]) (by simp) (by simp [go_sem]) ?_
    refine (catch_F_idle ⟨w.heap.size, 0, none⟩ ⟨w.heap.size + 1, 0, none⟩ _).mono ?_
    rintro e u' w'' ⟨rfl, rfl, rfl⟩
    simp [Leaves, settle, results, Tryd.results133, go_sem, hc0, hc1, hc2, hz0, hz1, hz2]
    exact ⟨rfl, (((hB0.trans (hB.mono hs)).setCell (p := ⟨w.heap.size, 0, none⟩) (Nat.le_refl _) _).setCell (p := ⟨w.heap.size, 1, none⟩) (Nat.le_refl _) _).setCell (p := ⟨w.heap.size + 1, 0, none⟩) (Nat.le_succ _) _⟩
  | some iW =>
    obtain ⟨i, W⟩ := iW
    go_enter_defers Tryd.func133, Tryd.ntmps133
    go_wp2_with (go_at_fn K; refine hw.mono ?_; rintro e w' ⟨he, hB⟩; obtain ⟨v, rfl, hown⟩ := he; obtain ⟨⟨hc0, hc1, hc2⟩, hz0, hz1, hz2⟩ := fd_cells hB)
    refine leaves_cons (f := 179) (args := #[.pointer (some ⟨w.heap.size, 0, none⟩), .pointer (some ⟨w.heap.size + 1, 0, none⟩)]) (by simp) (by simp [go_sem]) ?_
    refine (catch_F_hit w.heap.size _ _ _ (i : Int) v [] _ hown.shape hc0 hc1 hc2 hz0 hz1 hz2).mono ?_
    rintro e u' w'' ⟨rfl, rfl, rfl⟩
    simp [Leaves, settle, results, Tryd.results133, go_sem, hc0, hc1, hc2, hz0, hz1, hz2]
    have hs2 : (fdW w).heap.size = w.heap.size + 2 := by simp [fdW]
    refine ⟨⟨v, rfl, ((((hown.set ⟨w.heap.size, 0, none⟩ _ (by rw [hs2]; show w.heap.size < _; omega)).set ⟨w.heap.size, 1, none⟩ _ (by rw [hs2]; show w.heap.size < _; omega)).set ⟨w.heap.size + 1, 0, none⟩ _ (by rw [hs2]; show w.heap.size + 1 < _; omega))).base hs⟩,
      (((hB0.trans (hB.mono hs)).setCell (p := ⟨w.heap.size, 0, none⟩) (Nat.le_refl _) _).setCell (p := ⟨w.heap.size, 1, none⟩) (Nat.le_refl _) _).setCell (p := ⟨w.heap.size + 1, 0, none⟩) (Nat.le_succ _) _⟩


end Go.Proofs.YtfipbnognjepkaaDoor
