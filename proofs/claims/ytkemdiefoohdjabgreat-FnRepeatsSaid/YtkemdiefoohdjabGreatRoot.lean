/- The least period and the root of a word: the program and the model. -/
import Derived.Test.YtkemdiefoohdjabGreatBorders
import Derived.Deep.QuietTactic
import Derived.BigQuiet
import Derived.Deep.RegionWith
import Derived.Outline
namespace Go.Proofs.YtkemdiefoohdjabGreat
set_option linter.unusedVariables false
set_option linter.unusedSimpArgs false
open Go.RowKit

theorem teq_nil {x : ByteArray} (h : x.size = 0) : x.toList.isEmpty = true := by rw [size_zero h, ByteArray.toList_eq]; rfl
theorem teq_not_nil {x : ByteArray} (h : ¬ x.size = 0) : x.toList.isEmpty = false := by
  rw [ByteArray.toList_eq, Bool.eq_false_iff]
  intro e
  have := List.isEmpty_iff.1 e
  exact bl_ne (x := x) (by omega) this
theorem wrap_small {n : Int} (h0 : 0 ≤ n) (h1 : n ≤ 1152921504606846976) : wrap64 n = n := by unfold wrap64; omega
theorem wrap_quo (a b : Nat) (h : a ≤ 1000000) : wrap64 ((a : Int) / (b : Int)) = ((a / b : Nat) : Int) := by
  have h1 : (a : Int) / (b : Int) = ((a / b : Nat) : Int) := by simp
  have h2 := Nat.div_le_self a b
  rw [h1]
  generalize a / b = q at h2 ⊢
  exact wrap_small (by omega) (by omega)
theorem extract_all (x : ByteArray) : x.extract 0 x.size = x := bl_inj (by rw [bl_take, List.take_of_length_le (Nat.le_of_eq (bl_len x))])

set_option maxRecDepth 100000 in
set_option maxHeartbeats 1000000 in
theorem leastPeriod_any (x : ByteArray) (w : World) (hx : x.size ≤ 60) (h0 : 0 < x.size) :
    Calls Tryz.prog 52 #[.string x] w fun e w' => e = .returned (.int .i64 (lp (bl x) : Int)) ∧ Below w.heap.size w w' := by
  go_enter Tryz.func52, Tryz.ntmps52
  go_wp2
  go_loopw [4] (fun i wr => ∃ k : Nat, k < x.size ∧ i = .int .i64 ((x.size : Int) - 1 - k) ∧ Below w.heap.size w wr ∧ ∀ q, 0 < q → q ≤ k → ¬ Per (bl x) q)
    (fun i _ => (intOf i + 1).toNat)
  case atStart => exact ⟨0, h0, by simp, Below.refl _ _, fun q h1 h2 => by omega⟩
  case round =>
    obtain ⟨k, hk, rfl, hB, hq⟩ := hrel
    have hbz := hB.size
    obtain ⟨m, hm⟩ : ∃ m : Nat, (x.size : Int) - 1 - k = m := ⟨x.size - 1 - k, by omega⟩
    have hmk : x.size - m = k + 1 := by omega
    rw [hm]
    by_cases he : perT (bl x) (k + 1) = true
    · have hlp : lp (bl x) = k + 1 := lp_of ⟨by omega, by rw [bl_len]; omega, (perT_iff _ _).1 he, fun q q0 q1 => hq q q0 (by omega)⟩
      have HL := Lib.hid hlp
      have HE := Lib.hid he
      clear hlp he hq
      go_wp2_with fail
      refine (hasBorder_any x m _ hx (by omega)).mono ?_
      rw [hmk, HE.out]
      rintro e w2 ⟨rfl, b2⟩
      go_wp2_with fail
      go_ret
      exact ⟨by rw [HL.out, show ((k + 1 : Nat) : Int) = (x.size : Int) - m by omega]; rfl, hB.then b2⟩
    · have he2 : perT (bl x) (k + 1) = false := by simpa using he
      have hk1 : ¬ k + 1 = x.size := fun e => he ((perT_iff _ _).2 (by rw [e, ← bl_len]; exact per_all _))
      have HE := Lib.hid he2
      have HQ : Hid (∀ q, 0 < q → q ≤ k + 1 → ¬ Per (bl x) q) := Lib.hid fun q q0 q1 => by
        by_cases e : q = k + 1
        · subst e; exact fun h => he ((perT_iff _ _).2 h)
        · exact hq q q0 (by omega)
      clear he he2 hq
      go_wp2_with fail
      refine (hasBorder_any x m _ hx (by omega)).mono ?_
      rw [hmk, HE.out]
      rintro e w2 ⟨rfl, b2⟩
      go_wp2_with fail
      go_roundw
      case rel => exact ⟨k + 1, by omega, by congr 1; omega, hB.then b2, HQ.out⟩
      case measure => simp [intOf] <;> omega

end Go.Proofs.YtkemdiefoohdjabGreat
