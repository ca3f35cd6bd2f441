/- Local periods: the program and the model. -/
import Derived.Test.YtinanajagkilaaaExp
import Derived.Test.YtinanajagkilaaaCftPlain
import Derived.WalkMore
import Derived.Deep.LoopGhost
namespace Go.Proofs.Ytinanajagkilaaa
set_option linter.unusedVariables false
set_option linter.unusedSimpArgs false
open Go.RowKit

theorem letter_get (x : ByteArray) (j : Nat) (h : j < x.size) : (bl x)[j]? = some (x[j]'h) := List.getElem?_eq_getElem (by rw [bl_len]; exact h)
theorem letter_eq (x : ByteArray) (j k : Nat) (hj : j < x.size) (hk : k < x.size) : (x[j]'hj).toNat = (x[k]'hk).toNat ↔ (bl x)[j]? = (bl x)[k]? := by
  rw [letter_get x j hj, letter_get x k hk, Option.some.injEq]
  exact ⟨fun h => UInt8.toNat_inj.1 h, fun h => by rw [h]⟩

set_option maxRecDepth 100000 in
set_option maxHeartbeats 1000000 in
theorem localPeriod_any (x : ByteArray) (i : Nat) (w : World) (hx : x.size ≤ 60) (h0 : 1 ≤ i) (h1 : i < x.size) :
    Calls Try.prog 109 #[.string x, .int .i64 (i : Int)] w fun e w' => e = .returned (.int .i64 (loc (bl x) i : Int)) ∧ Below w.heap.size w w' := by
  go_enter Try.func109, Try.ntmps109
  go_wp2
  go_step3
  go_wp2
  go_step3
  go_wp2
  go_loopg [6] x.size (fun g p wr => ∃ k : Nat, k + g = x.size ∧ p = .int .i64 ((k : Int) + 1) ∧ Below w.heap.size w wr ∧ Hid (∀ q, 0 < q → q < k + 1 → ¬ LocOK (bl x) i q))
  case atStart => exact ⟨0, by omega, rfl, Below.refl _ _, Lib.hid fun q h2 h3 => by omega⟩
  case round =>
    obtain ⟨k, hk, rfl, hB, HQ⟩ := hrel
    by_cases hp : k + 1 < x.size
    · obtain ⟨g, rfl⟩ : ∃ g, gk = g + 1 := ⟨gk - 1, by omega⟩
      go_wp2
      have hmx : max 0 ((i : Int) - ((k : Int) + 1)) = ((i - (k + 1) : Nat) : Int) := by omega
      rw [hmx]
      clear hmx
      go_loopg [7] (x.size - (i - (k + 1))) (fun g2 s7 wr => ∃ j : Nat, j + g2 = x.size ∧ s7 = .int .i64 (j : Int) ∧ i - (k + 1) ≤ j ∧ Below w.heap.size w wr ∧ Hid (LocUp (bl x) i (k + 1) j))
      case atStart => exact ⟨i - (k + 1), by omega, rfl, Nat.le_refl _, hB, Lib.hid (LocUp.start _ _ _)⟩
      case round =>
        clear hB
        obtain ⟨j, hj, rfl, hji, hB, HU⟩ := hrel
        by_cases hc : j < i ∧ j + (k + 1) < x.size
        · obtain ⟨g2, rfl⟩ : ∃ g2, gk = g2 + 1 := ⟨gk - 1, by omega⟩
          obtain ⟨c1, c2⟩ := hc
          have hle := letter_eq x j (j + (k + 1)) (by omega) c2
          have hix1 : ∀ W, (Instr.index 9 (.string x) (.int .i64 (j : Int))).run Try.prog W = .ok (.int .u8 ((x[j]'(by omega)).toNat : Int)) W := fun W => index_at x _ j (by omega) rfl W
          have hix2 : ∀ W, (Instr.index 9 (.string x) (.int .i64 ((j : Int) + ((k : Int) + 1)))).run Try.prog W = .ok (.int .u8 ((x[j + (k + 1)]'c2).toNat : Int)) W := fun W => index_at x _ (j + (k + 1)) c2 (by omega) W
          generalize (x[j]'(by omega)).toNat = a at hle hix1
          generalize (x[j + (k + 1)]'c2).toNat = b at hle hix2
          have hcc : (j : Int) < min (i : Int) ((x.size : Int) - ((k : Int) + 1)) := by omega
          by_cases he : a = b
          · have HL := Lib.hid (HU.out.succ (hle.1 he))
            have hee : (a : Int) = (b : Int) := by omega
            clear hle he
            go_wp2
            go_quiet (fail)
            go_wp2
            go_roundg g2
            case measure => omega
            case rel => exact ⟨j + 1, by omega, by go_num, by omega, hB.drewN _, HL⟩
          · have hee : ¬ (a : Int) = (b : Int) := by omega
            have HN : Hid (∀ q, 0 < q → q < k + 1 + 1 → ¬ LocOK (bl x) i q) := Lib.hid fun q q0 q1 => by
              by_cases e : q = k + 1
              · subst e; exact loc_miss c1 hji (by rw [bl_len]; exact c2) (fun h => he (hle.2 h))
              · exact HQ.out q q0 (by omega)
            clear hle he
            go_wp2
            go_quiet (fail)
            go_wp2
            go_roundg g
            case measure => omega
            case rel => exact ⟨k + 1, by omega, by go_num, hB.drewN _, HN⟩
        · have hcc : ¬ (j : Int) < min (i : Int) ((x.size : Int) - ((k : Int) + 1)) := by omega
          have hlo : loc (bl x) i = k + 1 := loc_of ⟨by omega, HU.out.done (by rw [bl_len]; omega), HQ.out⟩
          have HL := Lib.hid hlo
          clear hlo
          go_wp2
          try rw [Exit.noGoto_ret]
          go_ret
          exact ⟨by rw [HL.out]; rfl, hB⟩
    · have hlo : loc (bl x) i = x.size := by
        refine loc_of ⟨by omega, loc_all _ _ (by rw [bl_len]; exact Nat.le_refl _), fun q q0 q1 => HQ.out q q0 (by omega)⟩
      have HL := Lib.hid hlo
      clear hlo
      go_wp2
      try rw [Exit.noGoto_ret]
      go_ret
      exact ⟨by rw [HL.out]; rfl, hB⟩

set_option maxRecDepth 100000 in
set_option maxHeartbeats 1000000 in
theorem l02Local_any (x : ByteArray) (i : Nat) (w : World) (hx : x.size ≤ 60) (h0 : 1 ≤ i) (h1 : i < x.size) :
    Calls Try.prog 110 #[.string x, .int .i64 (i : Int)] w fun e w' => e = .returned (.int .i64 (loc (bl x) i : Int)) ∧ Below w.heap.size w w' := by
  go_enter Try.func110, Try.ntmps110
  go_wp2
  go_loopg [5] x.size (fun g p wr => ∃ k : Nat, k < x.size ∧ k + g = x.size ∧ p = .int .i64 ((k : Int) + 1) ∧ Below w.heap.size w wr ∧ Hid (∀ q, 0 < q → q < k + 1 → ¬ LocOK (bl x) i q))
  case atStart => exact ⟨0, by omega, by omega, rfl, Below.refl _ _, Lib.hid fun q h2 h3 => by omega⟩
  case round =>
    obtain ⟨k, hk1, hk, rfl, hB, HQ⟩ := hrel
    obtain ⟨g, rfl⟩ : ∃ g, gk = g + 1 := ⟨gk - 1, by omega⟩
    go_wp2
    have hmx : max ((i : Int) - ((k : Int) + 1)) 0 = ((i - (k + 1) : Nat) : Int) := by omega
    rw [hmx]
    clear hmx
    go_loopg [6, 7] (x.size + 1 - (i - (k + 1))) (fun g2 s6 s7 wr => ∃ (j : Nat) (good : Bool), j + g2 = x.size + 1 ∧ s6 = .bool good ∧ s7 = .int .i64 (j : Int) ∧ i - (k + 1) ≤ j ∧ j ≤ x.size ∧ Below w.heap.size w wr ∧ Hid (if good = true then LocUp (bl x) i (k + 1) j else ¬ LocOK (bl x) i (k + 1)))
    case atStart => exact ⟨i - (k + 1), true, by omega, rfl, rfl, Nat.le_refl _, by omega, hB, Lib.hid (LocUp.start _ _ _)⟩
    case round =>
      clear hB
      obtain ⟨j, good, hj, rfl, rfl, hji, hjx, hB, HU⟩ := hrel
      cases good with
      | false =>
        have HN : Hid (∀ q, 0 < q → q < k + 1 + 1 → ¬ LocOK (bl x) i q) := Lib.hid fun q q0 q1 => by
          by_cases e : q = k + 1
          · subst e; exact HU.out
          · exact HQ.out q q0 (by omega)
        have hk2 : k + 1 < x.size := Nat.lt_of_not_le fun c => HU.out (loc_all _ _ (by rw [bl_len]; exact c))
        by_cases hc1 : j < i
        · by_cases hc2 : (j : Int) + ((k : Int) + 1) < (x.size : Int)
          · go_wp2
            go_roundg g
            case measure => omega
            case rel => exact ⟨k + 1, by omega, by omega, by go_num, hB, HN⟩
          · go_wp2
            go_roundg g
            case measure => omega
            case rel => exact ⟨k + 1, by omega, by omega, by go_num, hB, HN⟩
        · go_wp2
          go_roundg g
          case measure => omega
          case rel => exact ⟨k + 1, by omega, by omega, by go_num, hB, HN⟩
      | true =>
        have HU2 : Hid (LocUp (bl x) i (k + 1) j) := Lib.hid (by have := HU.out; simpa using this)
        clear HU
        by_cases hc : j < i ∧ j + (k + 1) < x.size
        · obtain ⟨g2, rfl⟩ : ∃ g2, gk = g2 + 1 := ⟨gk - 1, by omega⟩
          obtain ⟨c1, c2⟩ := hc
          have hle := letter_eq x j (j + (k + 1)) (by omega) c2
          have hix1 : ∀ W, (Instr.index 9 (.string x) (.int .i64 (j : Int))).run Try.prog W = .ok (.int .u8 ((x[j]'(by omega)).toNat : Int)) W := fun W => index_at x _ j (by omega) rfl W
          have hix2 : ∀ W, (Instr.index 9 (.string x) (.int .i64 ((j : Int) + ((k : Int) + 1)))).run Try.prog W = .ok (.int .u8 ((x[j + (k + 1)]'c2).toNat : Int)) W := fun W => index_at x _ (j + (k + 1)) c2 (by omega) W
          generalize (x[j]'(by omega)).toNat = a at hle hix1
          generalize (x[j + (k + 1)]'c2).toNat = b at hle hix2
          have hc2 : (j : Int) + ((k : Int) + 1) < (x.size : Int) := by omega
          by_cases he : a = b
          · have HL := Lib.hid (HU2.out.succ (hle.1 he))
            have hee : (a : Int) = (b : Int) := by omega
            clear hle he
            go_wp2
            go_quiet (fail)
            go_wp2
            go_roundg g2
            case measure => omega
            case rel => exact ⟨j + 1, true, by omega, by first | rfl | simp [hee], by go_num, by omega, by omega, hB.drewN _, HL⟩
          · have hee : ¬ (a : Int) = (b : Int) := by omega
            have HN := Lib.hid (loc_miss c1 hji (by rw [bl_len]; exact c2) (fun h => he (hle.2 h)))
            clear hle he
            go_wp2
            go_quiet (fail)
            go_wp2
            go_roundg g2
            case measure => omega
            case rel => exact ⟨j + 1, false, by omega, by first | rfl | simp [hee], by go_num, by omega, by omega, hB.drewN _, Lib.hid (by rw [if_neg (by decide)]; exact HN.out)⟩
        · have hlo : loc (bl x) i = k + 1 := loc_of ⟨by omega, HU2.out.done (by rw [bl_len]; omega), HQ.out⟩
          have HL := Lib.hid hlo
          clear hlo
          by_cases hc1 : j < i
          · have hc2 : ¬ (j : Int) + ((k : Int) + 1) < (x.size : Int) := by omega
            go_wp2
            go_ret
            exact ⟨by rw [HL.out]; rfl, hB⟩
          · go_wp2
            go_ret
            exact ⟨by rw [HL.out]; rfl, hB⟩

end Go.Proofs.Ytinanajagkilaaa
