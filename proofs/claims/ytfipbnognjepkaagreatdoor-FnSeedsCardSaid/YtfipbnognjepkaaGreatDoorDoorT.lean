/- The door at tests, texts and lists. -/
import Derived.Test.YtfipbnognjepkaaGreatDoorDoor
import Derived.Test.YtfipbnognjepkaaGreatDoorInts
import Derived.Test.YtfipbnognjepkaaGreatDoorStrs
import Derived.RangeFuncBox
namespace Go.Proofs.YtfipbnognjepkaaGreatDoor
set_option linter.unusedVariables false
set_option linter.unusedSimpArgs false
open Go.RowKit

theorem boxed_past {W W' : World} {B b : Nat} {t : TypeId} {v : Value} (h : Boxed W b t v) (hb : Below B W W') (hlt : b < B) : Boxed W' b t v := (hb.block b hlt).trans h
/-- How the work of a test ends: an answer, or a refusal. -/
def EndB (r : Bool × Int) (e : Ending) : Prop := (e = .returned (.bool r.1) ∧ r.2 = 0) ∨ (e = .panicked [refused r.2] ∧ r.1 = false)
def EndT (r : ByteArray × Int) (e : Ending) : Prop := (e = .returned (.string r.1) ∧ r.2 = 0) ∨ (e = .panicked [refused r.2] ∧ r.1 = ⟨#[]⟩)
def EndS (r : List ByteArray × Int) (B : Nat) (e : Ending) (w' : World) : Prop := (∃ v, e = .returned v ∧ OwnS w' B v r.1 ∧ r.2 = 0) ∨ (e = .panicked [refused r.2] ∧ r.1 = [])
def EndI (r : List Int × Int) (B : Nat) (e : Ending) (w' : World) : Prop := (∃ v, e = .returned v ∧ OwnI w' B v r.1 ∧ r.2 = 0) ∨ (e = .panicked [refused r.2] ∧ r.1 = [])
theorem door_size (w : World) : (w.alloc (.cells #[.int .i64 0] 2)).heap.size = w.heap.size + 1 := World.size_alloc _ _
theorem door_out {w w' : World} (h : Below (w.heap.size + 1) (w.alloc (.cells #[.int .i64 0] 2)) w') (c : Int) : Below w.heap.size w (w'.setCell ⟨w.heap.size, 0, none⟩ (.int .i64 c)) :=
  ((Below.new w _).trans (h.mono (Nat.le_succ _))).setCell (Nat.le_refl _) _
theorem row_past {w' : World} {B e : Nat} {v u : Value} {n : Nat} {xs : List Value} (h : w'.ownsRow (B + 1) e 1 v n xs) : (w'.setCell ⟨B, 0, none⟩ u).ownsRow B e 1 v n xs :=
  own_base (h.kept (grownBy_setCell' w' B u) (.inr (fun e' => by have := (h.lt B e').1; omega))) (Nat.le_succ _)
theorem door_test (K : Nat) (caps : Array Value) (w : World) (r : Bool × Int) (hent : ∀ args W, (callFunc K args).run Tryz.prog W = .ok (.enter K args) W)
    (hw : Calls Tryz.prog K caps (w.alloc (.cells #[.int .i64 0] 2)) fun e w' => EndB r e ∧ Below (w.alloc (.cells #[.int .i64 0] 2)).heap.size (w.alloc (.cells #[.int .i64 0] 2)) w') :
    Calls Tryz.prog 69 #[.func (.func K) #[] caps] w fun e w' => e = .returned (.tuple #[.bool r.1, .int .i64 r.2]) ∧ Below w.heap.size w w' := by
  refine (door_B K caps w (fun v c _ => v = .bool r.1 ∧ c = r.2) hent (hw.mono ?_)).mono ?_
  · rintro e w' ⟨h | h, hB⟩ <;> rw [door_size] at hB
    · exact ⟨hB, .inl ⟨_, h.1, rfl, h.2.symm⟩⟩
    · exact ⟨hB, .inr ⟨_, h.1, by rw [h.2], rfl⟩⟩
  · rintro e w'' ⟨w', v, c, rfl, rfl, hB, rfl, rfl⟩
    exact ⟨rfl, door_out hB _⟩
theorem door_text (K : Nat) (caps : Array Value) (w : World) (r : ByteArray × Int) (hent : ∀ args W, (callFunc K args).run Tryz.prog W = .ok (.enter K args) W)
    (hw : Calls Tryz.prog K caps (w.alloc (.cells #[.int .i64 0] 2)) fun e w' => EndT r e ∧ Below (w.alloc (.cells #[.int .i64 0] 2)).heap.size (w.alloc (.cells #[.int .i64 0] 2)) w') :
    Calls Tryz.prog 53 #[.func (.func K) #[] caps] w fun e w' => e = .returned (.tuple #[.string r.1, .int .i64 r.2]) ∧ Below w.heap.size w w' := by
  refine (door_S K caps w (fun v c _ => v = .string r.1 ∧ c = r.2) hent (hw.mono ?_)).mono ?_
  · rintro e w' ⟨h | h, hB⟩ <;> rw [door_size] at hB
    · exact ⟨hB, .inl ⟨_, h.1, rfl, h.2.symm⟩⟩
    · exact ⟨hB, .inr ⟨_, h.1, by rw [h.2], rfl⟩⟩
  · rintro e w'' ⟨w', v, c, rfl, rfl, hB, rfl, rfl⟩
    exact ⟨rfl, door_out hB _⟩
theorem door_list (K : Nat) (caps : Array Value) (w : World) (r : List ByteArray × Int) (hent : ∀ args W, (callFunc K args).run Tryz.prog W = .ok (.enter K args) W)
    (hw : Calls Tryz.prog K caps (w.alloc (.cells #[.int .i64 0] 2)) fun e w' => EndS r (w.alloc (.cells #[.int .i64 0] 2)).heap.size e w' ∧ Below (w.alloc (.cells #[.int .i64 0] 2)).heap.size (w.alloc (.cells #[.int .i64 0] 2)) w') :
    Calls Tryz.prog 90 #[.func (.func K) #[] caps] w (RetS r.1 r.2 w) := by
  refine (door_L K caps w (fun v c w' => OwnS w' (w.heap.size + 1) v r.1 ∧ c = r.2) hent (hw.mono ?_)).mono ?_
  · rintro e w' ⟨⟨v, h1, h2, h3⟩ | h, hB⟩ <;> rw [door_size] at hB
    · rw [door_size] at h2
      exact ⟨hB, .inl ⟨_, h1, h2, h3.symm⟩⟩
    · exact ⟨hB, .inr ⟨_, h.1, by rw [h.2]; exact OwnS.nil _ _, rfl⟩⟩
  · rintro e w'' ⟨w', v, c, rfl, rfl, hB, h, rfl⟩
    exact ⟨v, rfl, row_past h, door_out hB _⟩
theorem door_ints (K : Nat) (caps : Array Value) (w : World) (r : List Int × Int) (hent : ∀ args W, (callFunc K args).run Tryz.prog W = .ok (.enter K args) W)
    (hw : Calls Tryz.prog K caps (w.alloc (.cells #[.int .i64 0] 2)) fun e w' => EndI r (w.alloc (.cells #[.int .i64 0] 2)).heap.size e w' ∧ Below (w.alloc (.cells #[.int .i64 0] 2)).heap.size (w.alloc (.cells #[.int .i64 0] 2)) w') :
    Calls Tryz.prog 99 #[.func (.func K) #[] caps] w (RetI r.1 r.2 w) := by
  refine (door_I K caps w (fun v c w' => OwnI w' (w.heap.size + 1) v r.1 ∧ c = r.2) hent (hw.mono ?_)).mono ?_
  · rintro e w' ⟨⟨v, h1, h2, h3⟩ | h, hB⟩ <;> rw [door_size] at hB
    · rw [door_size] at h2
      exact ⟨hB, .inl ⟨_, h1, h2, h3.symm⟩⟩
    · exact ⟨hB, .inr ⟨_, h.1, by rw [h.2]; exact OwnI.nil _ _, rfl⟩⟩
  · rintro e w'' ⟨w', v, c, rfl, rfl, hB, h, rfl⟩
    exact ⟨v, rfl, row_past h, door_out hB _⟩

end Go.Proofs.YtfipbnognjepkaaGreatDoor
