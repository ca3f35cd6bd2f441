/- IsCover: the program. -/
import Derived.Test.YtfipbnognjepkaaGreatDoorCov
import Derived.Test.YtfipbnognjepkaaGreatDoorDoorT
import Derived.Handy
namespace Go.Proofs.YtfipbnognjepkaaGreatDoor
set_option linter.unusedVariables false
set_option linter.unusedSimpArgs false
open Go.RowKit

theorem full_beq {X n : Nat} {f : Nat → Bool} (h : X < 2 ^ n) (hf : ∀ j, X.testBit j = f j) : (((X : Nat) : Int) == ((mskF 0 n : Nat) : Int)) = allB n f := by
  rw [← full_eq h hf, Bool.eq_iff_iff, beq_iff_eq, decide_eq_true_eq]
  omega
set_option maxHeartbeats 1000000 in
theorem coversAll_inner (x u : ByteArray) (w : World) (hx : x.size ≤ 60) (hu : u.size ≤ 60) :
    Calls Tryz.prog 86 #[.iface 100 (.string u), .string x] w fun e w' => e = .returned (.bool (cvAll x u)) ∧ Below w.heap.size w w' := by
  have hb := full_beq (msk_lt x u) (msk_bit x u)
  go_enter Tryz.func86, Tryz.ntmps86
  go_wp2_with (first | (go_at_call 94; refine (callsIn_wide.1 (inner_covered_in x u _ hx hu)).mono ?_; rintro e w1 ⟨rfl, b1⟩) | (go_at_call 101; refine (placesFrom_any 0 x.size _ (by omega)).mono ?_; rintro e w2 ⟨rfl, rfl⟩))
  go_ret
  exact ⟨rfl, b1⟩

theorem nil_yesC {x : ByteArray} (h : x.size = 0) : x.toList.isEmpty = true := by
  have : x = ByteArray.empty := by
    cases x with | mk d => simp only [ByteArray.size] at h; rw [Array.eq_empty_of_size_eq_zero h]; rfl
  rw [this, ByteArray.toList_eq]; rfl
theorem nil_noC {x : ByteArray} (h : ¬ x.size = 0) : x.toList.isEmpty = false := by
  rw [ByteArray.toList_eq, List.isEmpty_eq_false_iff]
  intro e
  apply h
  show x.data.size = 0
  rw [← Array.length_toList, e]
  rfl
set_option maxRecDepth 100000 in
set_option maxHeartbeats 1000000 in
theorem isCover1_any (b1 b2 : Nat) (x u : ByteArray) (w : World) (c1 : Boxed w b1 9 (.string x)) (c2 : Boxed w b2 9 (.string u)) (sx : x.size ≤ maxLen) (su : u.size ≤ maxLen) :
    Calls Tryz.prog 117 #[.pointer (some ⟨b1, 0, none⟩), .pointer (some ⟨b2, 0, none⟩)] w fun e w' => EndB (isCoverR x u) e ∧ Below w.heap.size w w' := by
  have k1 := c1.cell
  have k2 := c2.cell
  have l1 := c1.lt
  have l2 := c2.lt
  have c1' : Boxed (w.alloc (.cells #[.string x, .string u] 9)) b1 9 (.string x) := c1.alloc _
  have c2' : Boxed (w.alloc (.cells #[.string x, .string u] 9)) b2 9 (.string u) := c2.alloc _
  have l1' := c1'.lt
  have l2' := c2'.lt
  by_cases h : IsW x ∧ IsW u
  · have H := Lib.hid h
    by_cases hu0 : u.size = 0
    · rw [isCoverR_empty h hu0]
      have hq := nil_yesC hu0
      clear h
      go_enter Tryz.func117, Tryz.ntmps117
      go_wp2_with (first | (go_at_call 85; refine (areWords2_yes _ x u _ (by simp) (by simp [go_sem]) (by simp [go_sem]) H.out.1 H.out.2).mono ?_; rintro e w1 ⟨rfl, a1⟩; have k3 := (boxed_past c2' a1 l2').cell) | (go_at_call 55; first | (with_reducible refine (refuse_yes _ _).mono ?_; rintro e w2 ⟨rfl, rfl⟩) | (with_reducible refine (refuse_no _ _).mono ?_; rintro e w2 ⟨rfl, rfl⟩)))
      exact ⟨rfl, .inr ⟨rfl, rfl⟩, (Below.new _ _).then a1⟩
    · rw [isCoverR_ok h hu0]
      have hq := nil_noC hu0
      have zx := h.1.size
      have zu := h.2.size
      clear h
      go_enter Tryz.func117, Tryz.ntmps117
      go_wp2_with (first | (go_at_call 85; refine (areWords2_yes _ x u _ (by simp) (by simp [go_sem]) (by simp [go_sem]) H.out.1 H.out.2).mono ?_; rintro e w1 ⟨rfl, a1⟩; have k3 := (boxed_past c2' a1 l2').cell; have k4 := (boxed_past c1' a1 l1').cell) | (go_at_call 55; first | (with_reducible refine (refuse_yes _ _).mono ?_; rintro e w2 ⟨rfl, rfl⟩) | (with_reducible refine (refuse_no _ _).mono ?_; rintro e w2 ⟨rfl, rfl⟩)) | (go_at_call 86; refine (coversAll_inner x u _ zx zu).mono ?_; rintro e w3 ⟨rfl, a3⟩))
      go_ret
      exact ⟨.inl ⟨rfl, rfl⟩, ((Below.new _ _).then a1).then a3⟩
  · rw [isCoverR_bad h]
    have H := Lib.hid h
    clear h
    go_enter Tryz.func117, Tryz.ntmps117
    go_wp2_with (first | (go_at_call 85; refine (areWords2_no _ x u _ (by simp) (by simp [go_sem]) (by simp [go_sem]) sx su H.out).mono ?_; rintro e w1 ⟨rfl, a1⟩) | (go_at_call 55; refine (refuse_no _ _).mono ?_; rintro e w2 ⟨rfl, rfl⟩))
    exact ⟨rfl, .inr ⟨rfl, rfl⟩, (Below.new _ _).then a1⟩

set_option maxRecDepth 100000 in
set_option maxHeartbeats 1000000 in
theorem impl_IsCover (x u : ByteArray) (w : World) (sx : x.size ≤ maxLen) (su : u.size ≤ maxLen) :
    Calls Tryz.prog 47 #[.string x, .string u] w fun e w' => e = .returned (.tuple #[.bool (isCoverR x u).1, .int .i64 (isCoverR x u).2]) ∧ Below w.heap.size w w' := by
  have hmf : ∀ (fn : Fn) (first cap : Array Value) (w : World), (Instr.makeFunc fn first cap).run Tryz.prog w = .ok (.func fn first cap) w := fun _ _ _ _ => rfl
  have c1 : Boxed (((w.alloc (.cells #[.string x] 9)).alloc (.cells #[.string u] 9)).alloc (.cells #[.int .i64 0] 2)) w.heap.size 9 (.string x) := ((Boxed.new w _ _).alloc _).alloc _
  have c2 : Boxed (((w.alloc (.cells #[.string x] 9)).alloc (.cells #[.string u] 9)).alloc (.cells #[.int .i64 0] 2)) (w.heap.size + 1) 9 (.string u) := by
    have := Boxed.new (w.alloc (.cells #[.string x] 9)) 9 (.string u)
    rw [World.size_alloc] at this
    exact this.alloc _
  have hB : Below w.heap.size w ((w.alloc (.cells #[.string x] 9)).alloc (.cells #[.string u] 9)) := (Below.new _ _).alloc (by simp) _
  go_enter Tryz.func47, Tryz.ntmps47
  go_wp2_with (go_at_call 69; refine (door_test 117 _ _ (isCoverR x u) (enters_of Tryz.func117 (by kernel_rfl) rfl) (isCover1_any _ _ x u _ c1 c2 sx su)).mono ?_; rintro e w1 ⟨rfl, b1⟩)
  go_ret2
  exact ⟨rfl, hB.trans (b1.mono (by simp; omega))⟩

end Go.Proofs.YtfipbnognjepkaaGreatDoor
