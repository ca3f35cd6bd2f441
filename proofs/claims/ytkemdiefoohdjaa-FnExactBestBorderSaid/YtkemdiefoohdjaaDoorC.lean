/- The door at a word with a number of places. -/
import Derived.Test.YtkemdiefoohdjaaDoorT
import Derived.Laws.Pointers
namespace Go.Proofs.Ytkemdiefoohdjaa
set_option linter.unusedVariables false
set_option linter.unusedSimpArgs false
open Go.RowKit


set_option maxRecDepth 100000 in
set_option maxHeartbeats 2000000 in
theorem catch_C_hit (p : Addr) (x c : Int) (older : List PanicEntry) (w : World) (hc : w.cell? p = some (.int .i64 x)) (hz : w.frozen? p = false) :
    CallsD Try.prog 92 #[.pointer (some p)] (.panicking (refused c :: older)) w fun e u' w' =>
      e = .returned (.tuple #[]) ∧ u' = .panicking ({ refused c with recovered := true } :: older) ∧ w' = w.setCell p (.int .i64 c) := by
  have has := assert_refusal
  refine callsD_of_wpS Try.func92 rfl fun c₀ cs hu => ?_
  simp only [Try.ntmps92, List.size_toArray, List.length_cons, List.length_nil, Nat.reduceAdd, Nat.reduceSub, Array.replicate_succ, Array.replicate_zero, List.push_toArray, List.append_toArray, List.nil_append, List.cons_append]
  apply wpS_seq
  apply wpS_region
  simp [wpOpsS, go_sem, recoverD, hu, Try.ntmps92, Exit.thenS]
  refine wpS_of_wp ?_
  go_wp2
  cases c₀
  simp_all [bodyPostS, results, Try.results92]

theorem catch_C_idle (p : Addr) (w : World) :
    CallsD Try.prog 92 #[.pointer (some p)] .returning w fun e u' w' => e = .returned (.tuple #[]) ∧ u' = .returning ∧ w' = w := by
  refine callsD_of_wpS Try.func92 rfl fun c₀ cs hu => ?_
  simp only [Try.ntmps92, List.size_toArray, List.length_cons, List.length_nil, Nat.reduceAdd, Nat.reduceSub, Array.replicate_succ, Array.replicate_zero, List.push_toArray, List.append_toArray, List.nil_append, List.cons_append]
  apply wpS_seq
  apply wpS_region
  simp [wpOpsS, go_sem, recoverD, hu, Try.ntmps92, Exit.thenS]
  refine wpS_of_wp ?_
  go_wp2
  cases c₀
  simp_all [bodyPostS, results, Try.results92]

/-- How the work ends: a word and a number, or a refusal. -/
def EndC (r : ByteArray × Int × Int) (e : Ending) : Prop := (e = .returned (.agg #[.string r.1, .int .i64 r.2.1]) ∧ r.2.2 = 0) ∨ (e = .panicked [refused r.2.2] ∧ r.1 = ⟨#[]⟩ ∧ r.2.1 = 0)
abbrev doorW (w : World) : World := (w.alloc (.cells #[.string ⟨#[]⟩, .int .i64 0] 74)).alloc (.cells #[.int .i64 0] 2)
theorem door_cellC {w w' : World} (h : Below (doorW w).heap.size (doorW w) w') :
    (w'.cell? ⟨w.heap.size, 0, none⟩ = some (.string ⟨#[]⟩) ∧ w'.cell? ⟨w.heap.size, 1, none⟩ = some (.int .i64 0) ∧ w'.cell? ⟨w.heap.size + 1, 0, none⟩ = some (.int .i64 0)) ∧
    w'.frozen? ⟨w.heap.size, 0, none⟩ = false ∧ w'.frozen? ⟨w.heap.size, 1, none⟩ = false ∧ w'.frozen? ⟨w.heap.size + 1, 0, none⟩ = false := by
  have hs : (doorW w).heap.size = w.heap.size + 2 := by simp [doorW]
  refine ⟨⟨?_, ?_, ?_⟩, ?_, ?_, ?_⟩
  · rw [(bcell h).1 _ _ (by omega)]; simp [doorW, go_sem]
  · rw [(bcell h).1 _ _ (by omega)]; simp [doorW, go_sem]
  · rw [(bcell h).1 _ _ (by omega)]; simp [doorW, go_sem]
  · rw [(bcell h).2 _ _ (by omega)]; simp [doorW, go_sem]
  · rw [(bcell h).2 _ _ (by omega)]; simp [doorW, go_sem]
  · rw [(bcell h).2 _ _ (by omega)]; simp [doorW, go_sem]

set_option maxRecDepth 100000 in
set_option maxHeartbeats 2000000 in
theorem door_count (K : Nat) (caps : Array Value) (w : World) (r : ByteArray × Int × Int) (hent : ∀ args W, (callFunc K args).run Try.prog W = .ok (.enter K args) W)
    (hw : Calls Try.prog K caps (doorW w) fun e w' => EndC r e ∧ Below (doorW w).heap.size (doorW w) w') :
    Calls Try.prog 72 #[.func (.func K) #[] caps] w fun e w' => e = .returned (.tuple #[.agg #[.string r.1, .int .i64 r.2.1], .int .i64 r.2.2]) ∧ Below w.heap.size w w' := by
  obtain ⟨s, n, c⟩ := r
  have hmf : ∀ (fn : Fn) (first cap : Array Value) (w : World), (Instr.makeFunc fn first cap).run Try.prog w = .ok (.func fn first cap) w := fun _ _ _ _ => rfl
  have hB0 : Below w.heap.size w (doorW w) := (Below.new _ _).alloc (by simp) _
  have hs : w.heap.size ≤ (doorW w).heap.size := hB0.size
  go_enter_defers Try.func72, Try.ntmps72
  go_wp2_with (go_at_fn K; refine hw.mono ?_; rintro e w' ⟨(⟨rfl, hz⟩ | ⟨rfl, hz⟩), hB⟩ <;> (obtain ⟨⟨hc0, hc1, hc2⟩, hz0, hz1, hz2⟩ := door_cellC hB))
  · refine leaves_cons (f := 92) (args := #[.pointer (some ⟨w.heap.size + 1, 0, none⟩)]) (by simp) (by simp [go_sem]) ?_
    refine (catch_C_idle ⟨w.heap.size + 1, 0, none⟩ _).mono ?_
    rintro e u' w'' ⟨rfl, rfl, rfl⟩
    simp [Leaves, settle, results, Try.results72, go_sem, hc0, hc1, hc2, hz0, hz1, hz2]
    exact ⟨hz.symm, (((hB0.trans (hB.mono hs)).setCell (p := ⟨w.heap.size, 0, none⟩) (Nat.le_refl _) _).setCell (p := ⟨w.heap.size, 1, none⟩) (Nat.le_refl _) _).setCell (p := ⟨w.heap.size + 1, 0, none⟩) (Nat.le_succ _) _⟩
  · refine leaves_cons (f := 92) (args := #[.pointer (some ⟨w.heap.size + 1, 0, none⟩)]) (by simp) (by simp [go_sem]) ?_
    refine (catch_C_hit ⟨w.heap.size + 1, 0, none⟩ 0 c [] _ hc2 hz2).mono ?_
    rintro e u' w'' ⟨rfl, rfl, rfl⟩
    simp [Leaves, settle, results, Try.results72, go_sem, hc0, hc1, hc2, hz0, hz1, hz2]
    exact ⟨⟨hz.1.symm, hz.2.symm⟩, (hB0.trans (hB.mono hs)).setCell (p := ⟨w.heap.size + 1, 0, none⟩) (Nat.le_succ _) _⟩

end Go.Proofs.Ytkemdiefoohdjaa
