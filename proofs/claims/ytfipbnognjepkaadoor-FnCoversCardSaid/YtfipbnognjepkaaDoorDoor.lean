/- The door of chapter 9: a refusal is a panic that the door turns into its code. -/
import Derived.Test.YtfipbnognjepkaaDoorWords
import Derived.Recover
import Derived.Defers
import Derived.WalkLawsBesides
import Derived.Laws.Pointers
import Derived.Lib.Hide
import Derived.Shelf.Abstract
import Derived.KernelRfl
namespace Go.Proofs.YtfipbnognjepkaaDoor
set_option linter.unusedVariables false
set_option linter.unusedSimpArgs false
open Go.RowKit

/-- A refusal with a code, as a panic. -/
abbrev refused (c : Int) : PanicEntry := { v := .iface 138 (.int .i64 c), recovered := false }

theorem assert_refusal (W : World) (v : Value) : (Instr.typeAssert (.iface 138 v) 20 138 true).run Tryd.prog W = .ok (.tuple #[v, .bool true]) W := by kernel_rfl
theorem refuse_yes (c : Int) (w : World) : Calls Tryd.prog 70 #[.bool true, .int .i64 c] w fun e w' => e = .returned (.tuple #[]) ∧ w' = w := by
  go_enter Tryd.func70, Tryd.ntmps70
  go_wp2
  go_end0
  exact ⟨rfl, rfl⟩
theorem refuse_no (c : Int) (w : World) : Calls Tryd.prog 70 #[.bool false, .int .i64 c] w fun e w' => e = .panicked [refused c] ∧ w' = w := by
  go_enter Tryd.func70, Tryd.ntmps70
  go_wp2
  exact ⟨rfl, rfl, rfl⟩
theorem door_cell {w w' : World} (h : Below (w.heap.size + 1) (w.alloc (.cells #[.int .i64 0] 2)) w') : w'.cell? ⟨w.heap.size, 0, none⟩ = some (.int .i64 0) ∧ w'.frozen? ⟨w.heap.size, 0, none⟩ = false := by
  have h2 : Below (w.alloc (.cells #[.int .i64 0] 2)).heap.size (w.alloc (.cells #[.int .i64 0] 2)) w' := by rw [World.size_alloc]; exact h
  rw [(bcell h2).1 _ _ (by simp), (bcell h2).2 _ _ (by simp)]
  simp [go_sem]

set_option maxRecDepth 100000 in
set_option maxHeartbeats 2000000 in
theorem catch_B_hit (p : Addr) (x c : Int) (older : List PanicEntry) (w : World) (hc : w.cell? p = some (.int .i64 x)) (hz : w.frozen? p = false) :
    CallsD Tryd.prog 140 #[.pointer (some p)] (.panicking (refused c :: older)) w fun e u' w' =>
      e = .returned (.tuple #[]) ∧ u' = .panicking ({ refused c with recovered := true } :: older) ∧ w' = w.setCell p (.int .i64 c) := by
  have has := assert_refusal
  refine callsD_of_wpS Tryd.func140 rfl fun c₀ cs hu => ?_
  simp only [Tryd.ntmps140, List.size_toArray, List.length_cons, List.length_nil, Nat.reduceAdd, Nat.reduceSub, Array.replicate_succ, Array.replicate_zero, List.push_toArray, List.append_toArray, List.nil_append, List.cons_append]
  apply wpS_seq
  apply wpS_region
  simp [wpOpsS, go_sem, recoverD, hu, Tryd.ntmps140, Exit.thenS]
  refine wpS_of_wp ?_
  go_wp2
  cases c₀
  simp_all [bodyPostS, results, Tryd.results140]

theorem catch_B_idle (p : Addr) (w : World) :
    CallsD Tryd.prog 140 #[.pointer (some p)] .returning w fun e u' w' => e = .returned (.tuple #[]) ∧ u' = .returning ∧ w' = w := by
  refine callsD_of_wpS Tryd.func140 rfl fun c₀ cs hu => ?_
  simp only [Tryd.ntmps140, List.size_toArray, List.length_cons, List.length_nil, Nat.reduceAdd, Nat.reduceSub, Array.replicate_succ, Array.replicate_zero, List.push_toArray, List.append_toArray, List.nil_append, List.cons_append]
  apply wpS_seq
  apply wpS_region
  simp [wpOpsS, go_sem, recoverD, hu, Tryd.ntmps140, Exit.thenS]
  refine wpS_of_wp ?_
  go_wp2
  cases c₀
  simp_all [bodyPostS, results, Tryd.results140]

/-- The door: the work is called behind a new cell for the code; its answer goes out with the code 0; a refusal goes out as its code. -/
theorem door_B (K : Nat) (caps : Array Value) (w : World) (R : Value → Int → World → Prop)
    (hent : ∀ args W, (callFunc K args).run Tryd.prog W = .ok (.enter K args) W)
    (hw : Calls Tryd.prog K caps (w.alloc (.cells #[.int .i64 0] 2)) fun e w' => Below (w.heap.size + 1) (w.alloc (.cells #[.int .i64 0] 2)) w' ∧
      ((∃ v, e = .returned v ∧ R v 0 w') ∨ (∃ c, e = .panicked [refused c] ∧ R (.bool false) c w'))) :
    Calls Tryd.prog 75 #[.func (.func K) #[] caps] w fun e w'' => ∃ w' v c, e = .returned (.tuple #[v, .int .i64 c]) ∧ w'' = w'.setCell ⟨w.heap.size, 0, none⟩ (.int .i64 c) ∧
      Below (w.heap.size + 1) (w.alloc (.cells #[.int .i64 0] 2)) w' ∧ R v c w' := by
  have hmf : ∀ (fn : Fn) (first cap : Array Value) (w : World), (Instr.makeFunc fn first cap).run Tryd.prog w = .ok (.func fn first cap) w := fun _ _ _ _ => rfl
  go_enter_defers Tryd.func75, Tryd.ntmps75
  go_wp2_with (go_at_fn K; refine hw.mono ?_; rintro e w' ⟨hB, (⟨v, rfl, hR⟩ | ⟨c, rfl, hR⟩)⟩ <;> (obtain ⟨hc0, hz0⟩ := door_cell hB))
  · refine leaves_cons (f := 140) (args := #[.pointer (some ⟨w.heap.size, 0, none⟩)]) (by simp) (by simp [go_sem]) ?_
    refine (catch_B_idle ⟨w.heap.size, 0, none⟩ _).mono ?_
    rintro e u' w'' ⟨rfl, rfl, rfl⟩
    simp [Leaves, settle, results, Tryd.results75, go_sem, hc0, hz0]
    first
      | exact ⟨w', v, 0, ⟨rfl, rfl⟩, rfl, hB, hR⟩
      | (trace_state; sorry)
  · refine leaves_cons (f := 140) (args := #[.pointer (some ⟨w.heap.size, 0, none⟩)]) (by simp) (by simp [go_sem]) ?_
    refine (catch_B_hit ⟨w.heap.size, 0, none⟩ 0 c [] _ hc0 hz0).mono ?_
    rintro e u' w'' ⟨rfl, rfl, rfl⟩
    simp [Leaves, settle, results, Tryd.results75, go_sem, hc0, hz0]
    first
      | exact ⟨w', _, c, ⟨rfl, rfl⟩, rfl, hB, hR⟩
      | (trace_state; sorry)

set_option maxRecDepth 100000 in
set_option maxHeartbeats 2000000 in
theorem catch_S_hit (p : Addr) (x c : Int) (older : List PanicEntry) (w : World) (hc : w.cell? p = some (.int .i64 x)) (hz : w.frozen? p = false) :
    CallsD Tryd.prog 157 #[.pointer (some p)] (.panicking (refused c :: older)) w fun e u' w' =>
      e = .returned (.tuple #[]) ∧ u' = .panicking ({ refused c with recovered := true } :: older) ∧ w' = w.setCell p (.int .i64 c) := by
  have has := assert_refusal
  refine callsD_of_wpS Tryd.func157 rfl fun c₀ cs hu => ?_
  simp only [Tryd.ntmps157, List.size_toArray, List.length_cons, List.length_nil, Nat.reduceAdd, Nat.reduceSub, Array.replicate_succ, Array.replicate_zero, List.push_toArray, List.append_toArray, List.nil_append, List.cons_append]
  apply wpS_seq
  apply wpS_region
  simp [wpOpsS, go_sem, recoverD, hu, Tryd.ntmps157, Exit.thenS]
  refine wpS_of_wp ?_
  go_wp2
  cases c₀
  simp_all [bodyPostS, results, Tryd.results157]

theorem catch_S_idle (p : Addr) (w : World) :
    CallsD Tryd.prog 157 #[.pointer (some p)] .returning w fun e u' w' => e = .returned (.tuple #[]) ∧ u' = .returning ∧ w' = w := by
  refine callsD_of_wpS Tryd.func157 rfl fun c₀ cs hu => ?_
  simp only [Tryd.ntmps157, List.size_toArray, List.length_cons, List.length_nil, Nat.reduceAdd, Nat.reduceSub, Array.replicate_succ, Array.replicate_zero, List.push_toArray, List.append_toArray, List.nil_append, List.cons_append]
  apply wpS_seq
  apply wpS_region
  simp [wpOpsS, go_sem, recoverD, hu, Tryd.ntmps157, Exit.thenS]
  refine wpS_of_wp ?_
  go_wp2
  cases c₀
  simp_all [bodyPostS, results, Tryd.results157]

/-- The door: the work is called behind a new cell for the code; its answer goes out with the code 0; a refusal goes out as its code. -/
theorem door_S (K : Nat) (caps : Array Value) (w : World) (R : Value → Int → World → Prop)
    (hent : ∀ args W, (callFunc K args).run Tryd.prog W = .ok (.enter K args) W)
    (hw : Calls Tryd.prog K caps (w.alloc (.cells #[.int .i64 0] 2)) fun e w' => Below (w.heap.size + 1) (w.alloc (.cells #[.int .i64 0] 2)) w' ∧
      ((∃ v, e = .returned v ∧ R v 0 w') ∨ (∃ c, e = .panicked [refused c] ∧ R (.string ⟨#[]⟩) c w'))) :
    Calls Tryd.prog 99 #[.func (.func K) #[] caps] w fun e w'' => ∃ w' v c, e = .returned (.tuple #[v, .int .i64 c]) ∧ w'' = w'.setCell ⟨w.heap.size, 0, none⟩ (.int .i64 c) ∧
      Below (w.heap.size + 1) (w.alloc (.cells #[.int .i64 0] 2)) w' ∧ R v c w' := by
  have hmf : ∀ (fn : Fn) (first cap : Array Value) (w : World), (Instr.makeFunc fn first cap).run Tryd.prog w = .ok (.func fn first cap) w := fun _ _ _ _ => rfl
  go_enter_defers Tryd.func99, Tryd.ntmps99
  go_wp2_with (go_at_fn K; refine hw.mono ?_; rintro e w' ⟨hB, (⟨v, rfl, hR⟩ | ⟨c, rfl, hR⟩)⟩ <;> (obtain ⟨hc0, hz0⟩ := door_cell hB))
  · refine leaves_cons (f := 157) (args := #[.pointer (some ⟨w.heap.size, 0, none⟩)]) (by simp) (by simp [go_sem]) ?_
    refine (catch_S_idle ⟨w.heap.size, 0, none⟩ _).mono ?_
    rintro e u' w'' ⟨rfl, rfl, rfl⟩
    simp [Leaves, settle, results, Tryd.results99, go_sem, hc0, hz0]
    first
      | exact ⟨w', v, 0, ⟨rfl, rfl⟩, rfl, hB, hR⟩
      | (trace_state; sorry)
  · refine leaves_cons (f := 157) (args := #[.pointer (some ⟨w.heap.size, 0, none⟩)]) (by simp) (by simp [go_sem]) ?_
    refine (catch_S_hit ⟨w.heap.size, 0, none⟩ 0 c [] _ hc0 hz0).mono ?_
    rintro e u' w'' ⟨rfl, rfl, rfl⟩
    simp [Leaves, settle, results, Tryd.results99, go_sem, hc0, hz0]
    first
      | exact ⟨w', _, c, ⟨rfl, rfl⟩, rfl, hB, hR⟩
      | (trace_state; sorry)

set_option maxRecDepth 100000 in
set_option maxHeartbeats 2000000 in
theorem catch_L_hit (p : Addr) (x c : Int) (older : List PanicEntry) (w : World) (hc : w.cell? p = some (.int .i64 x)) (hz : w.frozen? p = false) :
    CallsD Tryd.prog 155 #[.pointer (some p)] (.panicking (refused c :: older)) w fun e u' w' =>
      e = .returned (.tuple #[]) ∧ u' = .panicking ({ refused c with recovered := true } :: older) ∧ w' = w.setCell p (.int .i64 c) := by
  have has := assert_refusal
  refine callsD_of_wpS Tryd.func155 rfl fun c₀ cs hu => ?_
  simp only [Tryd.ntmps155, List.size_toArray, List.length_cons, List.length_nil, Nat.reduceAdd, Nat.reduceSub, Array.replicate_succ, Array.replicate_zero, List.push_toArray, List.append_toArray, List.nil_append, List.cons_append]
  apply wpS_seq
  apply wpS_region
  simp [wpOpsS, go_sem, recoverD, hu, Tryd.ntmps155, Exit.thenS]
  refine wpS_of_wp ?_
  go_wp2
  cases c₀
  simp_all [bodyPostS, results, Tryd.results155]

theorem catch_L_idle (p : Addr) (w : World) :
    CallsD Tryd.prog 155 #[.pointer (some p)] .returning w fun e u' w' => e = .returned (.tuple #[]) ∧ u' = .returning ∧ w' = w := by
  refine callsD_of_wpS Tryd.func155 rfl fun c₀ cs hu => ?_
  simp only [Tryd.ntmps155, List.size_toArray, List.length_cons, List.length_nil, Nat.reduceAdd, Nat.reduceSub, Array.replicate_succ, Array.replicate_zero, List.push_toArray, List.append_toArray, List.nil_append, List.cons_append]
  apply wpS_seq
  apply wpS_region
  simp [wpOpsS, go_sem, recoverD, hu, Tryd.ntmps155, Exit.thenS]
  refine wpS_of_wp ?_
  go_wp2
  cases c₀
  simp_all [bodyPostS, results, Tryd.results155]

/-- The door: the work is called behind a new cell for the code; its answer goes out with the code 0; a refusal goes out as its code. -/
theorem door_L (K : Nat) (caps : Array Value) (w : World) (R : Value → Int → World → Prop)
    (hent : ∀ args W, (callFunc K args).run Tryd.prog W = .ok (.enter K args) W)
    (hw : Calls Tryd.prog K caps (w.alloc (.cells #[.int .i64 0] 2)) fun e w' => Below (w.heap.size + 1) (w.alloc (.cells #[.int .i64 0] 2)) w' ∧
      ((∃ v, e = .returned v ∧ R v 0 w') ∨ (∃ c, e = .panicked [refused c] ∧ R (.slice none 0 0) c w'))) :
    Calls Tryd.prog 94 #[.func (.func K) #[] caps] w fun e w'' => ∃ w' v c, e = .returned (.tuple #[v, .int .i64 c]) ∧ w'' = w'.setCell ⟨w.heap.size, 0, none⟩ (.int .i64 c) ∧
      Below (w.heap.size + 1) (w.alloc (.cells #[.int .i64 0] 2)) w' ∧ R v c w' := by
  have hmf : ∀ (fn : Fn) (first cap : Array Value) (w : World), (Instr.makeFunc fn first cap).run Tryd.prog w = .ok (.func fn first cap) w := fun _ _ _ _ => rfl
  go_enter_defers Tryd.func94, Tryd.ntmps94
  go_wp2_with (go_at_fn K; refine hw.mono ?_; rintro e w' ⟨hB, (⟨v, rfl, hR⟩ | ⟨c, rfl, hR⟩)⟩ <;> (obtain ⟨hc0, hz0⟩ := door_cell hB))
  · refine leaves_cons (f := 155) (args := #[.pointer (some ⟨w.heap.size, 0, none⟩)]) (by simp) (by simp [go_sem]) ?_
    refine (catch_L_idle ⟨w.heap.size, 0, none⟩ _).mono ?_
    rintro e u' w'' ⟨rfl, rfl, rfl⟩
    simp [Leaves, settle, results, Tryd.results94, go_sem, hc0, hz0]
    first
      | exact ⟨w', v, 0, ⟨rfl, rfl⟩, rfl, hB, hR⟩
      | (trace_state; sorry)
  · refine leaves_cons (f := 155) (args := #[.pointer (some ⟨w.heap.size, 0, none⟩)]) (by simp) (by simp [go_sem]) ?_
    refine (catch_L_hit ⟨w.heap.size, 0, none⟩ 0 c [] _ hc0 hz0).mono ?_
    rintro e u' w'' ⟨rfl, rfl, rfl⟩
    simp [Leaves, settle, results, Tryd.results94, go_sem, hc0, hz0]
    first
      | exact ⟨w', _, c, ⟨rfl, rfl⟩, rfl, hB, hR⟩
      | (trace_state; sorry)

set_option maxRecDepth 100000 in
set_option maxHeartbeats 2000000 in
theorem catch_I_hit (p : Addr) (x c : Int) (older : List PanicEntry) (w : World) (hc : w.cell? p = some (.int .i64 x)) (hz : w.frozen? p = false) :
    CallsD Tryd.prog 158 #[.pointer (some p)] (.panicking (refused c :: older)) w fun e u' w' =>
      e = .returned (.tuple #[]) ∧ u' = .panicking ({ refused c with recovered := true } :: older) ∧ w' = w.setCell p (.int .i64 c) := by
  have has := assert_refusal
  refine callsD_of_wpS Tryd.func158 rfl fun c₀ cs hu => ?_
  simp only [Tryd.ntmps158, List.size_toArray, List.length_cons, List.length_nil, Nat.reduceAdd, Nat.reduceSub, Array.replicate_succ, Array.replicate_zero, List.push_toArray, List.append_toArray, List.nil_append, List.cons_append]
  apply wpS_seq
  apply wpS_region
  simp [wpOpsS, go_sem, recoverD, hu, Tryd.ntmps158, Exit.thenS]
  refine wpS_of_wp ?_
  go_wp2
  cases c₀
  simp_all [bodyPostS, results, Tryd.results158]

theorem catch_I_idle (p : Addr) (w : World) :
    CallsD Tryd.prog 158 #[.pointer (some p)] .returning w fun e u' w' => e = .returned (.tuple #[]) ∧ u' = .returning ∧ w' = w := by
  refine callsD_of_wpS Tryd.func158 rfl fun c₀ cs hu => ?_
  simp only [Tryd.ntmps158, List.size_toArray, List.length_cons, List.length_nil, Nat.reduceAdd, Nat.reduceSub, Array.replicate_succ, Array.replicate_zero, List.push_toArray, List.append_toArray, List.nil_append, List.cons_append]
  apply wpS_seq
  apply wpS_region
  simp [wpOpsS, go_sem, recoverD, hu, Tryd.ntmps158, Exit.thenS]
  refine wpS_of_wp ?_
  go_wp2
  cases c₀
  simp_all [bodyPostS, results, Tryd.results158]

/-- The door: the work is called behind a new cell for the code; its answer goes out with the code 0; a refusal goes out as its code. -/
theorem door_I (K : Nat) (caps : Array Value) (w : World) (R : Value → Int → World → Prop)
    (hent : ∀ args W, (callFunc K args).run Tryd.prog W = .ok (.enter K args) W)
    (hw : Calls Tryd.prog K caps (w.alloc (.cells #[.int .i64 0] 2)) fun e w' => Below (w.heap.size + 1) (w.alloc (.cells #[.int .i64 0] 2)) w' ∧
      ((∃ v, e = .returned v ∧ R v 0 w') ∨ (∃ c, e = .panicked [refused c] ∧ R (.slice none 0 0) c w'))) :
    Calls Tryd.prog 101 #[.func (.func K) #[] caps] w fun e w'' => ∃ w' v c, e = .returned (.tuple #[v, .int .i64 c]) ∧ w'' = w'.setCell ⟨w.heap.size, 0, none⟩ (.int .i64 c) ∧
      Below (w.heap.size + 1) (w.alloc (.cells #[.int .i64 0] 2)) w' ∧ R v c w' := by
  have hmf : ∀ (fn : Fn) (first cap : Array Value) (w : World), (Instr.makeFunc fn first cap).run Tryd.prog w = .ok (.func fn first cap) w := fun _ _ _ _ => rfl
  go_enter_defers Tryd.func101, Tryd.ntmps101
  go_wp2_with (go_at_fn K; refine hw.mono ?_; rintro e w' ⟨hB, (⟨v, rfl, hR⟩ | ⟨c, rfl, hR⟩)⟩ <;> (obtain ⟨hc0, hz0⟩ := door_cell hB))
  · refine leaves_cons (f := 158) (args := #[.pointer (some ⟨w.heap.size, 0, none⟩)]) (by simp) (by simp [go_sem]) ?_
    refine (catch_I_idle ⟨w.heap.size, 0, none⟩ _).mono ?_
    rintro e u' w'' ⟨rfl, rfl, rfl⟩
    simp [Leaves, settle, results, Tryd.results101, go_sem, hc0, hz0]
    first
      | exact ⟨w', v, 0, ⟨rfl, rfl⟩, rfl, hB, hR⟩
      | (trace_state; sorry)
  · refine leaves_cons (f := 158) (args := #[.pointer (some ⟨w.heap.size, 0, none⟩)]) (by simp) (by simp [go_sem]) ?_
    refine (catch_I_hit ⟨w.heap.size, 0, none⟩ 0 c [] _ hc0 hz0).mono ?_
    rintro e u' w'' ⟨rfl, rfl, rfl⟩
    simp [Leaves, settle, results, Tryd.results101, go_sem, hc0, hz0]
    first
      | exact ⟨w', _, c, ⟨rfl, rfl⟩, rfl, hB, hR⟩
      | (trace_state; sorry)

end Go.Proofs.YtfipbnognjepkaaDoor
