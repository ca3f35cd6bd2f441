/- Zimin words: the exact function, both sides. -/
import Derived.Test.YtfipbnognjepkaaGreatDoorZim
import Derived.Test.YtfipbnognjepkaaGreatDoorDoorT
namespace Go.Proofs.YtfipbnognjepkaaGreatDoor
set_option linter.unusedVariables false
set_option linter.unusedSimpArgs false
open Go.RowKit

set_option maxRecDepth 100000 in
theorem l01In_z (x lo hi : Int) (w : World) : Calls Tryz.prog 66 #[.int .i64 x, .int .i64 lo, .int .i64 hi] w fun e w' => e = .returned (.bool (decide (lo ≤ x ∧ x ≤ hi))) ∧ w = w' := by
  by_cases h1 : lo ≤ x
  · by_cases h2 : x ≤ hi
    · go_enter Tryz.func66, Tryz.ntmps66
      go_wp2
      go_ret
      exact ⟨ret_bool (by simp [h1, h2]), rfl⟩
    · go_enter Tryz.func66, Tryz.ntmps66
      go_wp2
      go_ret
      exact ⟨ret_bool (by simp [h1, h2]), rfl⟩
  · go_enter Tryz.func66, Tryz.ntmps66
    go_wp2
    go_ret
    exact ⟨ret_bool (by simp [h1]; omega), rfl⟩

set_option maxRecDepth 100000 in
theorem spec_ZiminWord (n : Int) (w : World) (hn : (Lit.int .i64 n).wf = true) :
    Calls Tryz.prog 17 #[.int .i64 n] w fun e w' => e = .returned (.tuple #[.string (zimR n).1, .int .i64 (zimR n).2]) ∧ Below w.heap.size w w' := by
  have CI := Lib.hid (fun W => l01In_z n 1 5 W)
  by_cases h : 1 ≤ n ∧ n ≤ 5
  · obtain ⟨m, rfl⟩ : ∃ m : Nat, n = (m : Int) + 1 := ⟨(n - 1).toNat, by omega⟩
    have hz : zimR ((m : Int) + 1) = (bt (zimL (m + 1)), 0) := zimR_ok (n := m + 1) (by omega) (by omega)
    rw [hz]
    have hd : decide (1 ≤ (m : Int) + 1 ∧ (m : Int) + 1 ≤ 5) = true := decide_eq_true h
    rw [hd] at CI
    have CZ := Lib.hid (fun W => l10Zimin_any m W (by omega))
    clear hz hd hn
    generalize bt (zimL (m + 1)) = z at *
    go_enter Tryz.func17, Tryz.ntmps17
    go_wp2_with (first | (go_at_call 66; refine (CI.out _).mono ?_; rintro e w1 ⟨rfl, rfl⟩) | (go_at_call 67; refine (CZ.out _).mono ?_; rintro e w2 ⟨rfl, b2⟩))
    go_ret2
    exact ⟨rfl, b2⟩
  · rw [zimR_out h]
    have hd : decide (1 ≤ n ∧ n ≤ 5) = false := decide_eq_false h
    rw [hd] at CI
    clear hd h hn
    go_enter Tryz.func17, Tryz.ntmps17
    go_wp2_with (go_at_call 66; refine (CI.out _).mono ?_; rintro e w1 ⟨rfl, rfl⟩)
    go_ret2
    exact ⟨rfl, Below.refl _ _⟩

set_option maxRecDepth 100000 in
set_option maxHeartbeats 1000000 in
theorem zimin1_any (b1 : Nat) (n : Int) (w : World) (c1 : Boxed w b1 2 (.int .i64 n)) :
    Calls Tryz.prog 64 #[.pointer (some ⟨b1, 0, none⟩)] w fun e w' => EndT (zimR n) e ∧ Below w.heap.size w w' := by
  have k1 := c1.cell
  have l1 := c1.lt
  by_cases h : 1 ≤ n ∧ n ≤ 5
  · obtain ⟨m, rfl⟩ : ∃ m : Nat, n = (m : Int) := ⟨n.toNat, by omega⟩
    obtain ⟨h1, h2⟩ := h
    have hz := zimR_ok (n := m) (by omega) (by omega)
    rw [hz]
    have CZ := Lib.hid (fun W => ziminWord_any m (by omega) W)
    clear hz
    generalize bt (zimL m) = z at *
    go_enter Tryz.func64, Tryz.ntmps64
    go_wp2_with (first | (go_at_call 55; (with_reducible refine (refuse_yes _ _).mono ?_); rintro e w1 ⟨rfl, rfl⟩) | (go_at_call 65; refine (CZ.out _).mono ?_; rintro e w2 ⟨rfl, b2⟩))
    go_ret
    exact ⟨.inl ⟨rfl, rfl⟩, b2⟩
  · rw [zimR_out h]
    by_cases h1 : 1 ≤ n
    · have h2 : ¬ n ≤ 5 := fun e => h ⟨h1, e⟩
      clear h
      go_enter Tryz.func64, Tryz.ntmps64
      go_wp2_with (go_at_call 55; (with_reducible refine (refuse_no _ _).mono ?_); rintro e w1 ⟨rfl, rfl⟩)
      exact ⟨rfl, .inr ⟨rfl, rfl⟩, Below.refl _ _⟩
    · clear h
      go_enter Tryz.func64, Tryz.ntmps64
      go_wp2_with (go_at_call 55; (with_reducible refine (refuse_no _ _).mono ?_); rintro e w1 ⟨rfl, rfl⟩)
      exact ⟨rfl, .inr ⟨rfl, rfl⟩, Below.refl _ _⟩

set_option maxRecDepth 100000 in
theorem impl_ZiminWord (n : Int) (w : World) (hn : (Lit.int .i64 n).wf = true) :
    Calls Tryz.prog 16 #[.int .i64 n] w fun e w' => e = .returned (.tuple #[.string (zimR n).1, .int .i64 (zimR n).2]) ∧ Below w.heap.size w w' := by
  have c1 : Boxed (w.alloc (.cells #[.int .i64 n] 2)) w.heap.size 2 (.int .i64 n) := Boxed.new w _ _
  have C1 := Lib.hid (c1.alloc (.cells #[.int .i64 0] 2))
  clear c1
  go_enter Tryz.func16, Tryz.ntmps16
  go_wp2_with (go_at_call 53; refine (door_text 64 _ _ (zimR n) (enters_of Tryz.func64 (by kernel_rfl) rfl) (zimin1_any w.heap.size n _ C1.out)).mono ?_; rintro e w1 ⟨rfl, b1⟩)
  go_ret2
  exact ⟨rfl, (Below.new w _).then b1⟩

end Go.Proofs.YtfipbnognjepkaaGreatDoor
