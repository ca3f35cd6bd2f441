/- Palindromes: the program's test and the model's; the longest one at the end of a word. -/
import Derived.Test.YtddfdciohnabbacGreatPalPlain
import Derived.Test.YtddfdciohnabbacGreatWord
import Derived.Test.YtddfdciohnabbacGreatWords
import Derived.Test.YtddfdciohnabbacGreatPers
namespace Go.Proofs.YtddfdciohnabbacGreat
set_option linter.unusedVariables false
set_option linter.unusedSimpArgs false
open Go.RowKit

theorem index_atC (x : ByteArray) (i : Int) (n : Nat) (hn : n < x.size) (h : i = n) (W : World) :
    (Instr.index 56 (.string x) (.int .i64 i)).run Tryz.prog W = .ok (.int .u8 ((x[n]'hn).toNat : Int)) W := by
  subst h
  rw [run_index_string (h := Tryz.underlying56), dif_pos ⟨by omega, by omega⟩]
  rfl

set_option maxRecDepth 100000 in
set_option maxHeartbeats 1000000 in
theorem isPal_any (x : ByteArray) (w : World) (hx : x.size ≤ 1000) :
    Calls Tryz.prog 45 #[.string x] w fun e w' => e = .returned (.bool (palB (bl x))) ∧ Below w.heap.size w w' := by
  go_enter Tryz.func45, Tryz.ntmps45
  have hdv : (x.size : Int) / 2 = ((x.size / 2 : Nat) : Int) := by omega
  obtain ⟨n, hn⟩ : ∃ n, x.size / 2 = n := ⟨_, rfl⟩
  rw [hn] at hdv
  go_wp2
  go_loopw [7] (fun i wr => ∃ k : Nat, k ≤ n ∧ i = .int .i64 (k : Int) ∧ Below w.heap.size w wr ∧ PalTo x k)
    (fun i _ => n + 1 - (intOf i).toNat)
  case atStart => exact ⟨0, Nat.zero_le _, rfl, Below.refl _ _, PalTo.zero x⟩
  case round =>
    obtain ⟨k, hk, rfl, hB, hP⟩ := hrel
    have HP := Lib.hid hP
    clear hP
    by_cases hp : k < n
    · have hk1 : k < x.size := by omega
      have hk2 : x.size - 1 - k < x.size := by omega
      have hle : (x[k]'hk1).toNat = (x[x.size - 1 - k]'hk2).toNat ↔ x[k]'hk1 = x[x.size - 1 - k]'hk2 := nat_byte
      have hS := fun e => HP.out.succ hk1 hk2 (hle.1 e)
      have hM := fun (e : ¬ _) => pal_miss (x := x) (k := k) (by omega) hk1 hk2 (fun c => e (hle.2 c))
      have hix1 : ∀ W, (Instr.index 56 (.string x) (.int .i64 (k : Int))).run Tryz.prog W = .ok (.int .u8 ((x[k]'hk1).toNat : Int)) W := fun W => index_atC x _ k hk1 rfl W
      have hix2 : ∀ W, (Instr.index 56 (.string x) (.int .i64 ((x.size : Int) - 1 - (k : Int)))).run Tryz.prog W = .ok (.int .u8 ((x[x.size - 1 - k]'hk2).toNat : Int)) W := fun W => index_atC x _ (x.size - 1 - k) hk2 (by omega) W
      clear hle
      generalize (x[k]'hk1).toNat = a at *
      generalize (x[x.size - 1 - k]'hk2).toNat = b at *
      have HS := Lib.hid hS
      have HM := Lib.hid hM
      clear hS hM
      by_cases he : a = b
      · have hee : (a : Int) = (b : Int) := by omega
        have HT := Lib.hid (HS.out he)
        clear he
        go_wp2
        go_quiet (fail)
        go_wp2
        go_roundw
        case rel => exact ⟨k + 1, by omega, by go_num, hB.drewN _, HT.out⟩
        case measure => simp [intOf]; omega
      · have hee : ¬ (a : Int) = (b : Int) := by omega
        have HT := Lib.hid (HM.out he)
        clear he
        go_wp2
        go_quiet (fail)
        go_wp2
        go_ret
        exact ⟨by rw [HT.out]; rfl, hB.drewN _⟩
    · have HD := Lib.hid (HP.out.done (by omega))
      go_wp2
      go_ret
      exact ⟨by rw [HD.out]; rfl, hB⟩

set_option maxRecDepth 100000 in
set_option maxHeartbeats 1000000 in
theorem l04Is_any (x : ByteArray) (w : World) (hx : x.size ≤ 1000) :
    Calls Tryz.prog 32 #[.string x] w fun e w' => e = .returned (.bool (palB (bl x))) ∧ Below w.heap.size w w' := by
  go_enter Tryz.func32, Tryz.ntmps32
  go_wp2
  go_loopw [3, 4] (fun i j wr => ∃ k : Nat, 2 * k ≤ x.size + 1 ∧ i = .int .i64 (k : Int) ∧ j = .int .i64 ((x.size : Int) - 1 - k) ∧ Below w.heap.size w wr ∧ PalTo x k)
    (fun i _ _ => x.size + 1 - (intOf i).toNat)
  case atStart => exact ⟨0, by omega, rfl, by simp, Below.refl _ _, PalTo.zero x⟩
  case round =>
    obtain ⟨k, hk, rfl, rfl, hB, hP⟩ := hrel
    have HP := Lib.hid hP
    clear hP
    by_cases hp : 2 * k + 1 < x.size
    · have hk1 : k < x.size := by omega
      have hk2 : x.size - 1 - k < x.size := by omega
      have hlt : (k : Int) < (x.size : Int) - 1 - k := by omega
      have hle : (x[k]'hk1).toNat = (x[x.size - 1 - k]'hk2).toNat ↔ x[k]'hk1 = x[x.size - 1 - k]'hk2 := nat_byte
      have hS := fun e => HP.out.succ hk1 hk2 (hle.1 e)
      have hM := fun (e : ¬ _) => pal_miss (x := x) (k := k) (by omega) hk1 hk2 (fun c => e (hle.2 c))
      have hix1 : ∀ W, (Instr.index 9 (.string x) (.int .i64 (k : Int))).run Tryz.prog W = .ok (.int .u8 ((x[k]'hk1).toNat : Int)) W := fun W => index_at x _ k hk1 rfl W
      have hix2 : ∀ W, (Instr.index 9 (.string x) (.int .i64 ((x.size : Int) - 1 - (k : Int)))).run Tryz.prog W = .ok (.int .u8 ((x[x.size - 1 - k]'hk2).toNat : Int)) W := fun W => index_at x _ (x.size - 1 - k) hk2 (by omega) W
      clear hle
      generalize (x[k]'hk1).toNat = a at *
      generalize (x[x.size - 1 - k]'hk2).toNat = b at *
      have HS := Lib.hid hS
      have HM := Lib.hid hM
      clear hS hM
      by_cases he : a = b
      · have hee : (a : Int) = (b : Int) := by omega
        have HT := Lib.hid (HS.out he)
        clear he
        go_wp2
        go_quiet (fail)
        go_wp2
        go_roundw
        case rel => exact ⟨k + 1, by omega, by go_num, by congr 1; omega, hB.drewN _, HT.out⟩
        case measure => simp [intOf]; omega
      · have hee : ¬ (a : Int) = (b : Int) := by omega
        have HT := Lib.hid (HM.out he)
        clear he
        go_wp2
        go_quiet (fail)
        go_wp2
        go_ret
        exact ⟨by rw [HT.out]; rfl, hB.drewN _⟩
    · have HD := Lib.hid (HP.out.done (by omega))
      have hlt : ¬ (k : Int) < (x.size : Int) - 1 - k := by omega
      go_wp2
      go_ret
      exact ⟨by rw [HD.out]; rfl, hB⟩

end Go.Proofs.YtddfdciohnabbacGreat
