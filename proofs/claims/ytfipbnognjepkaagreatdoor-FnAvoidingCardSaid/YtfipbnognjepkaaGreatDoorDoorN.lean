/- The door of the functions that return a number. -/
import Derived.Test.YtfipbnognjepkaaGreatDoorDoorT
namespace Go.Proofs.YtfipbnognjepkaaGreatDoor
set_option linter.unusedVariables false
set_option linter.unusedSimpArgs false
open Go.RowKit

set_option maxRecDepth 100000 in
set_option maxHeartbeats 2000000 in
theorem catch_N_hit (p : Addr) (x c : Int) (older : List PanicEntry) (w : World) (hc : w.cell? p = some (.int .i64 x)) (hz : w.frozen? p = false) :
    CallsD Tryz.prog 121 #[.pointer (some p)] (.panicking (refused c :: older)) w fun e u' w' =>
      e = .returned (.tuple #[]) ∧ u' = .panicking ({ refused c with recovered := true } :: older) ∧ w' = w.setCell p (.int .i64 c) := by
  have has := assert_refusal
  refine callsD_of_wpS Tryz.func121 rfl fun c₀ cs hu => ?_
  simp only [Tryz.ntmps121, List.size_toArray, List.length_cons, List.length_nil, Nat.reduceAdd, Nat.reduceSub, Array.replicate_succ, Array.replicate_zero, List.push_toArray, List.append_toArray, List.nil_append, List.cons_append]
  apply wpS_seq
  apply wpS_region
  simp [wpOpsS, go_sem, recoverD, hu, Tryz.ntmps121, Exit.thenS]
  refine wpS_of_wp ?_
  go_wp2
  cases c₀
  simp_all [bodyPostS, results, Tryz.results121]

theorem catch_N_idle (p : Addr) (w : World) :
    CallsD Tryz.prog 121 #[.pointer (some p)] .returning w fun e u' w' => e = .returned (.tuple #[]) ∧ u' = .returning ∧ w' = w := by
  refine callsD_of_wpS Tryz.func121 rfl fun c₀ cs hu => ?_
  simp only [Tryz.ntmps121, List.size_toArray, List.length_cons, List.length_nil, Nat.reduceAdd, Nat.reduceSub, Array.replicate_succ, Array.replicate_zero, List.push_toArray, List.append_toArray, List.nil_append, List.cons_append]
  apply wpS_seq
  apply wpS_region
  simp [wpOpsS, go_sem, recoverD, hu, Tryz.ntmps121, Exit.thenS]
  refine wpS_of_wp ?_
  go_wp2
  cases c₀
  simp_all [bodyPostS, results, Tryz.results121]

/-- The door: the work is called behind a new cell for the code; its answer goes out with the code 0; a refusal goes out as its code. -/
theorem door_N (K : Nat) (caps : Array Value) (w : World) (R : Value → Int → World → Prop)
    (hent : ∀ args W, (callFunc K args).run Tryz.prog W = .ok (.enter K args) W)
    (hw : Calls Tryz.prog K caps (w.alloc (.cells #[.int .i64 0] 2)) fun e w' => Below (w.heap.size + 1) (w.alloc (.cells #[.int .i64 0] 2)) w' ∧
      ((∃ v, e = .returned v ∧ R v 0 w') ∨ (∃ c, e = .panicked [refused c] ∧ R (.int .i64 0) c w'))) :
    Calls Tryz.prog 59 #[.func (.func K) #[] caps] w fun e w'' => ∃ w' v c, e = .returned (.tuple #[v, .int .i64 c]) ∧ w'' = w'.setCell ⟨w.heap.size, 0, none⟩ (.int .i64 c) ∧
      Below (w.heap.size + 1) (w.alloc (.cells #[.int .i64 0] 2)) w' ∧ R v c w' := by
  have hmf : ∀ (fn : Fn) (first cap : Array Value) (w : World), (Instr.makeFunc fn first cap).run Tryz.prog w = .ok (.func fn first cap) w := fun _ _ _ _ => rfl
  go_enter_defers Tryz.func59, Tryz.ntmps59
  go_wp2_with (go_at_fn K; refine hw.mono ?_; rintro e w' ⟨hB, (⟨v, rfl, hR⟩ | ⟨c, rfl, hR⟩)⟩ <;> (obtain ⟨hc0, hz0⟩ := door_cell hB))
  · refine leaves_cons (f := 121) (args := #[.pointer (some ⟨w.heap.size, 0, none⟩)]) (by simp) (by simp [go_sem]) ?_
    refine (catch_N_idle ⟨w.heap.size, 0, none⟩ _).mono ?_
    rintro e u' w'' ⟨rfl, rfl, rfl⟩
    simp [Leaves, settle, results, Tryz.results59, go_sem, hc0, hz0]
    exact ⟨w', v, 0, ⟨rfl, rfl⟩, rfl, hB, hR⟩
  · refine leaves_cons (f := 121) (args := #[.pointer (some ⟨w.heap.size, 0, none⟩)]) (by simp) (by simp [go_sem]) ?_
    refine (catch_N_hit ⟨w.heap.size, 0, none⟩ 0 c [] _ hc0 hz0).mono ?_
    rintro e u' w'' ⟨rfl, rfl, rfl⟩
    simp [Leaves, settle, results, Tryz.results59, go_sem, hc0, hz0]
    exact ⟨w', _, c, ⟨rfl, rfl⟩, rfl, hB, hR⟩

def EndN (r : Int × Int) (e : Ending) : Prop := (e = .returned (.int .i64 r.1) ∧ r.2 = 0) ∨ (e = .panicked [refused r.2] ∧ r.1 = 0)
theorem door_num (K : Nat) (caps : Array Value) (w : World) (r : Int × Int) (hent : ∀ args W, (callFunc K args).run Tryz.prog W = .ok (.enter K args) W)
    (hw : Calls Tryz.prog K caps (w.alloc (.cells #[.int .i64 0] 2)) fun e w' => EndN r e ∧ Below (w.alloc (.cells #[.int .i64 0] 2)).heap.size (w.alloc (.cells #[.int .i64 0] 2)) w') :
    Calls Tryz.prog 59 #[.func (.func K) #[] caps] w fun e w' => e = .returned (.tuple #[.int .i64 r.1, .int .i64 r.2]) ∧ Below w.heap.size w w' := by
  refine (door_N K caps w (fun v c _ => v = .int .i64 r.1 ∧ c = r.2) hent (hw.mono ?_)).mono ?_
  · rintro e w' ⟨h | h, hB⟩ <;> rw [door_size] at hB
    · exact ⟨hB, .inl ⟨_, h.1, rfl, h.2.symm⟩⟩
    · exact ⟨hB, .inr ⟨_, h.1, by rw [h.2], rfl⟩⟩
  · rintro e w'' ⟨w', v, c, rfl, rfl, hB, rfl, rfl⟩
    exact ⟨rfl, door_out hB _⟩

end Go.Proofs.YtfipbnognjepkaaGreatDoor
