/- The door of chapter 9: a refusal is a panic that the door turns into its code. -/
import Derived.Test.YtfipbnognjepkaaGreatDoorWords
import Derived.Recover
import Derived.Defers
import Derived.WalkLawsBesides
import Derived.Laws.Pointers
import Derived.Lib.Hide
import Derived.Shelf.Abstract
import Derived.KernelRfl
namespace Go.Proofs.YtfipbnognjepkaaGreatDoor
set_option linter.unusedVariables false
set_option linter.unusedSimpArgs false
open Go.RowKit

/-- A refusal with a code, as a panic. -/
abbrev refused (c : Int) : PanicEntry := { v := .iface 75 (.int .i64 c), recovered := false }

theorem assert_refusal (W : World) (v : Value) : (Instr.typeAssert (.iface 75 v) 20 75 true).run Tryz.prog W = .ok (.tuple #[v, .bool true]) W := by kernel_rfl
theorem refuse_yes (c : Int) (w : World) : Calls Tryz.prog 55 #[.bool true, .int .i64 c] w fun e w' => e = .returned (.tuple #[]) ∧ w' = w := by
  go_enter Tryz.func55, Tryz.ntmps55
  go_wp2
  go_end0
  exact ⟨rfl, rfl⟩
theorem refuse_no (c : Int) (w : World) : Calls Tryz.prog 55 #[.bool false, .int .i64 c] w fun e w' => e = .panicked [refused c] ∧ w' = w := by
  go_enter Tryz.func55, Tryz.ntmps55
  go_wp2
  exact ⟨rfl, rfl, rfl⟩
theorem door_cell {w w' : World} (h : Below (w.heap.size + 1) (w.alloc (.cells #[.int .i64 0] 2)) w') : w'.cell? ⟨w.heap.size, 0, none⟩ = some (.int .i64 0) ∧ w'.frozen? ⟨w.heap.size, 0, none⟩ = false := by
  have h2 : Below (w.alloc (.cells #[.int .i64 0] 2)).heap.size (w.alloc (.cells #[.int .i64 0] 2)) w' := by rw [World.size_alloc]; exact h
  rw [(bcell h2).1 _ _ (by simp), (bcell h2).2 _ _ (by simp)]
  simp [go_sem]

set_option maxRecDepth 100000 in
set_option maxHeartbeats 2000000 in
theorem catch_B_hit (p : Addr) (x c : Int) (older : List PanicEntry) (w : World) (hc : w.cell? p = some (.int .i64 x)) (hz : w.frozen? p = false) :
    CallsD Tryz.prog 125 #[.pointer (some p)] (.panicking (refused c :: older)) w fun e u' w' =>
      e = .returned (.tuple #[]) ∧ u' = .panicking ({ refused c with recovered := true } :: older) ∧ w' = w.setCell p (.int .i64 c) := by
  have has := assert_refusal
  refine callsD_of_wpS Tryz.func125 rfl fun c₀ cs hu => ?_
  simp only [Tryz.ntmps125, List.size_toArray, List.length_cons, List.length_nil, Nat.reduceAdd, Nat.reduceSub, Array.replicate_succ, Array.replicate_zero, List.push_toArray, List.append_toArray, List.nil_append, List.cons_append]
  apply wpS_seq
  apply wpS_region
  simp [wpOpsS, go_sem, recoverD, hu, Tryz.ntmps125, Exit.thenS]
  refine wpS_of_wp ?_
  go_wp2
  cases c₀
  simp_all [bodyPostS, results, Tryz.results125]

theorem catch_B_idle (p : Addr) (w : World) :
    CallsD Tryz.prog 125 #[.pointer (some p)] .returning w fun e u' w' => e = .returned (.tuple #[]) ∧ u' = .returning ∧ w' = w := by
  refine callsD_of_wpS Tryz.func125 rfl fun c₀ cs hu => ?_
  simp only [Tryz.ntmps125, List.size_toArray, List.length_cons, List.length_nil, Nat.reduceAdd, Nat.reduceSub, Array.replicate_succ, Array.replicate_zero, List.push_toArray, List.append_toArray, List.nil_append, List.cons_append]
  apply wpS_seq
  apply wpS_region
  simp [wpOpsS, go_sem, recoverD, hu, Tryz.ntmps125, Exit.thenS]
  refine wpS_of_wp ?_
  go_wp2
  cases c₀
  simp_all [bodyPostS, results, Tryz.results125]

/-- The door: the work is called behind a new cell for the code; its answer goes out with the code 0; a refusal goes out as its code. -/
theorem door_B (K : Nat) (caps : Array Value) (w : World) (R : Value → Int → World → Prop)
    (hent : ∀ args W, (callFunc K args).run Tryz.prog W = .ok (.enter K args) W)
    (hw : Calls Tryz.prog K caps (w.alloc (.cells #[.int .i64 0] 2)) fun e w' => Below (w.heap.size + 1) (w.alloc (.cells #[.int .i64 0] 2)) w' ∧
      ((∃ v, e = .returned v ∧ R v 0 w') ∨ (∃ c, e = .panicked [refused c] ∧ R (.bool false) c w'))) :
    Calls Tryz.prog 69 #[.func (.func K) #[] caps] w fun e w'' => ∃ w' v c, e = .returned (.tuple #[v, .int .i64 c]) ∧ w'' = w'.setCell ⟨w.heap.size, 0, none⟩ (.int .i64 c) ∧
      Below (w.heap.size + 1) (w.alloc (.cells #[.int .i64 0] 2)) w' ∧ R v c w' := by
  have hmf : ∀ (fn : Fn) (first cap : Array Value) (w : World), (Instr.makeFunc fn first cap).run Tryz.prog w = .ok (.func fn first cap) w := fun _ _ _ _ => rfl
  go_enter_defers Tryz.func69, Tryz.ntmps69
  go_wp2_with (go_at_fn K; refine hw.mono ?_; rintro e w' ⟨hB, (⟨v, rfl, hR⟩ | ⟨c, rfl, hR⟩)⟩ <;> (obtain ⟨hc0, hz0⟩ := door_cell hB))
  · refine leaves_cons (f := 125) (args := #[.pointer (some ⟨w.heap.size, 0, none⟩)]) (by simp) (by simp [go_sem]) ?_
    refine (catch_B_idle ⟨w.heap.size, 0, none⟩ _).mono ?_
    rintro e u' w'' ⟨rfl, rfl, rfl⟩
    simp [Leaves, settle, results, Tryz.results69, go_sem, hc0, hz0]
    first
      | exact ⟨w', v, 0, ⟨rfl, rfl⟩, rfl, hB, hR⟩
      | (trace_state; sorry)
  · refine leaves_cons (f := 125) (args := #[.pointer (some ⟨w.heap.size, 0, none⟩)]) (by simp) (by simp [go_sem]) ?_
    refine (catch_B_hit ⟨w.heap.size, 0, none⟩ 0 c [] _ hc0 hz0).mono ?_
    rintro e u' w'' ⟨rfl, rfl, rfl⟩
    simp [Leaves, settle, results, Tryz.results69, go_sem, hc0, hz0]
    first
      | exact ⟨w', _, c, ⟨rfl, rfl⟩, rfl, hB, hR⟩
      | (trace_state; sorry)

set_option maxRecDepth 100000 in
set_option maxHeartbeats 2000000 in
theorem catch_S_hit (p : Addr) (x c : Int) (older : List PanicEntry) (w : World) (hc : w.cell? p = some (.int .i64 x)) (hz : w.frozen? p = false) :
    CallsD Tryz.prog 118 #[.pointer (some p)] (.panicking (refused c :: older)) w fun e u' w' =>
      e = .returned (.tuple #[]) ∧ u' = .panicking ({ refused c with recovered := true } :: older) ∧ w' = w.setCell p (.int .i64 c) := by
  have has := assert_refusal
  refine callsD_of_wpS Tryz.func118 rfl fun c₀ cs hu => ?_
  simp only [Tryz.ntmps118, List.size_toArray, List.length_cons, List.length_nil, Nat.reduceAdd, Nat.reduceSub, Array.replicate_succ, Array.replicate_zero, List.push_toArray, List.append_toArray, List.nil_append, List.cons_append]
  apply wpS_seq
  apply wpS_region
  simp [wpOpsS, go_sem, recoverD, hu, Tryz.ntmps118, Exit.thenS]
  refine wpS_of_wp ?_
  go_wp2
  cases c₀
  simp_all [bodyPostS, results, Tryz.results118]

theorem catch_S_idle (p : Addr) (w : World) :
    CallsD Tryz.prog 118 #[.pointer (some p)] .returning w fun e u' w' => e = .returned (.tuple #[]) ∧ u' = .returning ∧ w' = w := by
  refine callsD_of_wpS Tryz.func118 rfl fun c₀ cs hu => ?_
  simp only [Tryz.ntmps118, List.size_toArray, List.length_cons, List.length_nil, Nat.reduceAdd, Nat.reduceSub, Array.replicate_succ, Array.replicate_zero, List.push_toArray, List.append_toArray, List.nil_append, List.cons_append]
  apply wpS_seq
  apply wpS_region
  simp [wpOpsS, go_sem, recoverD, hu, Tryz.ntmps118, Exit.thenS]
  refine wpS_of_wp ?_
  go_wp2
  cases c₀
  simp_all [bodyPostS, results, Tryz.results118]

/-- The door: the work is called behind a new cell for the code; its answer goes out with the code 0; a refusal goes out as its code. -/
theorem door_S (K : Nat) (caps : Array Value) (w : World) (R : Value → Int → World → Prop)
    (hent : ∀ args W, (callFunc K args).run Tryz.prog W = .ok (.enter K args) W)
    (hw : Calls Tryz.prog K caps (w.alloc (.cells #[.int .i64 0] 2)) fun e w' => Below (w.heap.size + 1) (w.alloc (.cells #[.int .i64 0] 2)) w' ∧
      ((∃ v, e = .returned v ∧ R v 0 w') ∨ (∃ c, e = .panicked [refused c] ∧ R (.string ⟨#[]⟩) c w'))) :
    Calls Tryz.prog 53 #[.func (.func K) #[] caps] w fun e w'' => ∃ w' v c, e = .returned (.tuple #[v, .int .i64 c]) ∧ w'' = w'.setCell ⟨w.heap.size, 0, none⟩ (.int .i64 c) ∧
      Below (w.heap.size + 1) (w.alloc (.cells #[.int .i64 0] 2)) w' ∧ R v c w' := by
  have hmf : ∀ (fn : Fn) (first cap : Array Value) (w : World), (Instr.makeFunc fn first cap).run Tryz.prog w = .ok (.func fn first cap) w := fun _ _ _ _ => rfl
  go_enter_defers Tryz.func53, Tryz.ntmps53
  go_wp2_with (go_at_fn K; refine hw.mono ?_; rintro e w' ⟨hB, (⟨v, rfl, hR⟩ | ⟨c, rfl, hR⟩)⟩ <;> (obtain ⟨hc0, hz0⟩ := door_cell hB))
  · refine leaves_cons (f := 118) (args := #[.pointer (some ⟨w.heap.size, 0, none⟩)]) (by simp) (by simp [go_sem]) ?_
    refine (catch_S_idle ⟨w.heap.size, 0, none⟩ _).mono ?_
    rintro e u' w'' ⟨rfl, rfl, rfl⟩
    simp [Leaves, settle, results, Tryz.results53, go_sem, hc0, hz0]
    first
      | exact ⟨w', v, 0, ⟨rfl, rfl⟩, rfl, hB, hR⟩
      | (trace_state; sorry)
  · refine leaves_cons (f := 118) (args := #[.pointer (some ⟨w.heap.size, 0, none⟩)]) (by simp) (by simp [go_sem]) ?_
    refine (catch_S_hit ⟨w.heap.size, 0, none⟩ 0 c [] _ hc0 hz0).mono ?_
    rintro e u' w'' ⟨rfl, rfl, rfl⟩
    simp [Leaves, settle, results, Tryz.results53, go_sem, hc0, hz0]
    first
      | exact ⟨w', _, c, ⟨rfl, rfl⟩, rfl, hB, hR⟩
      | (trace_state; sorry)

set_option maxRecDepth 100000 in
set_option maxHeartbeats 2000000 in
theorem catch_L_hit (p : Addr) (x c : Int) (older : List PanicEntry) (w : World) (hc : w.cell? p = some (.int .i64 x)) (hz : w.frozen? p = false) :
    CallsD Tryz.prog 142 #[.pointer (some p)] (.panicking (refused c :: older)) w fun e u' w' =>
      e = .returned (.tuple #[]) ∧ u' = .panicking ({ refused c with recovered := true } :: older) ∧ w' = w.setCell p (.int .i64 c) := by
  have has := assert_refusal
  refine callsD_of_wpS Tryz.func142 rfl fun c₀ cs hu => ?_
  simp only [Tryz.ntmps142, List.size_toArray, List.length_cons, List.length_nil, Nat.reduceAdd, Nat.reduceSub, Array.replicate_succ, Array.replicate_zero, List.push_toArray, List.append_toArray, List.nil_append, List.cons_append]
  apply wpS_seq
  apply wpS_region
  simp [wpOpsS, go_sem, recoverD, hu, Tryz.ntmps142, Exit.thenS]
  refine wpS_of_wp ?_
  go_wp2
  cases c₀
  simp_all [bodyPostS, results, Tryz.results142]

theorem catch_L_idle (p : Addr) (w : World) :
    CallsD Tryz.prog 142 #[.pointer (some p)] .returning w fun e u' w' => e = .returned (.tuple #[]) ∧ u' = .returning ∧ w' = w := by
  refine callsD_of_wpS Tryz.func142 rfl fun c₀ cs hu => ?_
  simp only [Tryz.ntmps142, List.size_toArray, List.length_cons, List.length_nil, Nat.reduceAdd, Nat.reduceSub, Array.replicate_succ, Array.replicate_zero, List.push_toArray, List.append_toArray, List.nil_append, List.cons_append]
  apply wpS_seq
  apply wpS_region
  simp [wpOpsS, go_sem, recoverD, hu, Tryz.ntmps142, Exit.thenS]
  refine wpS_of_wp ?_
  go_wp2
  cases c₀
  simp_all [bodyPostS, results, Tryz.results142]

/-- The door: the work is called behind a new cell for the code; its answer goes out with the code 0; a refusal goes out as its code. -/
theorem door_L (K : Nat) (caps : Array Value) (w : World) (R : Value → Int → World → Prop)
    (hent : ∀ args W, (callFunc K args).run Tryz.prog W = .ok (.enter K args) W)
    (hw : Calls Tryz.prog K caps (w.alloc (.cells #[.int .i64 0] 2)) fun e w' => Below (w.heap.size + 1) (w.alloc (.cells #[.int .i64 0] 2)) w' ∧
      ((∃ v, e = .returned v ∧ R v 0 w') ∨ (∃ c, e = .panicked [refused c] ∧ R (.slice none 0 0) c w'))) :
    Calls Tryz.prog 90 #[.func (.func K) #[] caps] w fun e w'' => ∃ w' v c, e = .returned (.tuple #[v, .int .i64 c]) ∧ w'' = w'.setCell ⟨w.heap.size, 0, none⟩ (.int .i64 c) ∧
      Below (w.heap.size + 1) (w.alloc (.cells #[.int .i64 0] 2)) w' ∧ R v c w' := by
  have hmf : ∀ (fn : Fn) (first cap : Array Value) (w : World), (Instr.makeFunc fn first cap).run Tryz.prog w = .ok (.func fn first cap) w := fun _ _ _ _ => rfl
  go_enter_defers Tryz.func90, Tryz.ntmps90
  go_wp2_with (go_at_fn K; refine hw.mono ?_; rintro e w' ⟨hB, (⟨v, rfl, hR⟩ | ⟨c, rfl, hR⟩)⟩ <;> (obtain ⟨hc0, hz0⟩ := door_cell hB))
  · refine leaves_cons (f := 142) (args := #[.pointer (some ⟨w.heap.size, 0, none⟩)]) (by simp) (by simp [go_sem]) ?_
    refine (catch_L_idle ⟨w.heap.size, 0, none⟩ _).mono ?_
    rintro e u' w'' ⟨rfl, rfl, rfl⟩
    simp [Leaves, settle, results, Tryz.results90, go_sem, hc0, hz0]
    first
      | exact ⟨w', v, 0, ⟨rfl, rfl⟩, rfl, hB, hR⟩
      | (trace_state; sorry)
  · refine leaves_cons (f := 142) (args := #[.pointer (some ⟨w.heap.size, 0, none⟩)]) (by simp) (by simp [go_sem]) ?_
    refine (catch_L_hit ⟨w.heap.size, 0, none⟩ 0 c [] _ hc0 hz0).mono ?_
    rintro e u' w'' ⟨rfl, rfl, rfl⟩
    simp [Leaves, settle, results, Tryz.results90, go_sem, hc0, hz0]
    first
      | exact ⟨w', _, c, ⟨rfl, rfl⟩, rfl, hB, hR⟩
      | (trace_state; sorry)

set_option maxRecDepth 100000 in
set_option maxHeartbeats 2000000 in
theorem catch_I_hit (p : Addr) (x c : Int) (older : List PanicEntry) (w : World) (hc : w.cell? p = some (.int .i64 x)) (hz : w.frozen? p = false) :
    CallsD Tryz.prog 148 #[.pointer (some p)] (.panicking (refused c :: older)) w fun e u' w' =>
      e = .returned (.tuple #[]) ∧ u' = .panicking ({ refused c with recovered := true } :: older) ∧ w' = w.setCell p (.int .i64 c) := by
  have has := assert_refusal
  refine callsD_of_wpS Tryz.func148 rfl fun c₀ cs hu => ?_
  simp only [Tryz.ntmps148, List.size_toArray, List.length_cons, List.length_nil, Nat.reduceAdd, Nat.reduceSub, Array.replicate_succ, Array.replicate_zero, List.push_toArray, List.append_toArray, List.nil_append, List.cons_append]
  apply wpS_seq
  apply wpS_region
  simp [wpOpsS, go_sem, recoverD, hu, Tryz.ntmps148, Exit.thenS]
  refine wpS_of_wp ?_
  go_wp2
  cases c₀
  simp_all [bodyPostS, results, Tryz.results148]

theorem catch_I_idle (p : Addr) (w : World) :
    CallsD Tryz.prog 148 #[.pointer (some p)] .returning w fun e u' w' => e = .returned (.tuple #[]) ∧ u' = .returning ∧ w' = w := by
  refine callsD_of_wpS Tryz.func148 rfl fun c₀ cs hu => ?_
  simp only [Tryz.ntmps148, List.size_toArray, List.length_cons, List.length_nil, Nat.reduceAdd, Nat.reduceSub, Array.replicate_succ, Array.replicate_zero, List.push_toArray, List.append_toArray, List.nil_append, List.cons_append]
  apply wpS_seq
  apply wpS_region
  simp [wpOpsS, go_sem, recoverD, hu, Tryz.ntmps148, Exit.thenS]
  refine wpS_of_wp ?_
  go_wp2
  cases c₀
  simp_all [bodyPostS, results, Tryz.results148]

/-- The door: the work is called behind a new cell for the code; its answer goes out with the code 0; a refusal goes out as its code. -/
theorem door_I (K : Nat) (caps : Array Value) (w : World) (R : Value → Int → World → Prop)
    (hent : ∀ args W, (callFunc K args).run Tryz.prog W = .ok (.enter K args) W)
    (hw : Calls Tryz.prog K caps (w.alloc (.cells #[.int .i64 0] 2)) fun e w' => Below (w.heap.size + 1) (w.alloc (.cells #[.int .i64 0] 2)) w' ∧
      ((∃ v, e = .returned v ∧ R v 0 w') ∨ (∃ c, e = .panicked [refused c] ∧ R (.slice none 0 0) c w'))) :
    Calls Tryz.prog 99 #[.func (.func K) #[] caps] w fun e w'' => ∃ w' v c, e = .returned (.tuple #[v, .int .i64 c]) ∧ w'' = w'.setCell ⟨w.heap.size, 0, none⟩ (.int .i64 c) ∧
      Below (w.heap.size + 1) (w.alloc (.cells #[.int .i64 0] 2)) w' ∧ R v c w' := by
  have hmf : ∀ (fn : Fn) (first cap : Array Value) (w : World), (Instr.makeFunc fn first cap).run Tryz.prog w = .ok (.func fn first cap) w := fun _ _ _ _ => rfl
  go_enter_defers Tryz.func99, Tryz.ntmps99
  go_wp2_with (go_at_fn K; refine hw.mono ?_; rintro e w' ⟨hB, (⟨v, rfl, hR⟩ | ⟨c, rfl, hR⟩)⟩ <;> (obtain ⟨hc0, hz0⟩ := door_cell hB))
  · refine leaves_cons (f := 148) (args := #[.pointer (some ⟨w.heap.size, 0, none⟩)]) (by simp) (by simp [go_sem]) ?_
    refine (catch_I_idle ⟨w.heap.size, 0, none⟩ _).mono ?_
    rintro e u' w'' ⟨rfl, rfl, rfl⟩
    simp [Leaves, settle, results, Tryz.results99, go_sem, hc0, hz0]
    first
      | exact ⟨w', v, 0, ⟨rfl, rfl⟩, rfl, hB, hR⟩
      | (trace_state; sorry)
  · refine leaves_cons (f := 148) (args := #[.pointer (some ⟨w.heap.size, 0, none⟩)]) (by simp) (by simp [go_sem]) ?_
    refine (catch_I_hit ⟨w.heap.size, 0, none⟩ 0 c [] _ hc0 hz0).mono ?_
    rintro e u' w'' ⟨rfl, rfl, rfl⟩
    simp [Leaves, settle, results, Tryz.results99, go_sem, hc0, hz0]
    first
      | exact ⟨w', _, c, ⟨rfl, rfl⟩, rfl, hB, hR⟩
      | (trace_state; sorry)

end Go.Proofs.YtfipbnognjepkaaGreatDoor
