/- Places covered by one of two words: the model. -/
import Derived.Test.YtkemdiefoohdjaaCovS
namespace Go.Proofs.Ytkemdiefoohdjaa
set_option linter.unusedVariables false
set_option linter.unusedSimpArgs false
open Go.RowKit

theorem allB_no {n k : Nat} {f : Nat → Bool} (hk : k < n) (h : f k = false) : allB n f = false := by
  rw [Bool.eq_false_iff]
  intro e
  rw [(allB_iff n f).1 e k hk] at h
  cases h
set_option maxRecDepth 100000 in
set_option maxHeartbeats 2000000 in
theorem l09Two_any (x u v : ByteArray) (w : World) (hx : x.size ≤ 60) (hu : u.size ≤ 60) (hv : v.size ≤ 60) :
    Calls Try.prog 78 #[.string x, .string u, .string v] w fun e w' => e = .returned (.bool (cvTwo x u v)) ∧ Below w.heap.size w w' := by
  go_enter Try.func78, Try.ntmps78
  go_wp2_with fail
  refine (l09Places_any x u _ hx hu).mono ?_
  rintro e w1 ⟨G1, rfl, t1, b1⟩
  go_wp2_with fail
  refine (l09Places_any x v _ hx hv).mono ?_
  rintro e w2 ⟨G2, rfl, t2, b2⟩
  have t1 := own_below t1 b2
  have B := b1.then b2
  clear b1 b2
  have T1 : Hid (TabO w2 w.heap.size G1 x.size (cvB x u)) := Lib.hid t1
  have T2 := Lib.hid t2
  clear t1 t2
  go_wp2_with fail
  go_loopw [9] (fun s9 wr => wr = w2 ∧ ∃ k : Nat, k ≤ x.size ∧ s9 = .int .i64 (k : Int) ∧ Hid (∀ j, j < k → (cvB x u j || cvB x v j) = true))
    (fun s9 _ => x.size - (intOf s9).toNat)
  case atStart => exact ⟨rfl, 0, Nat.zero_le _, rfl, Lib.hid fun j hj => by omega⟩
  case round =>
    obtain ⟨rfl, k, hk, rfl, hi⟩ := hrel
    by_cases hp : k < x.size
    · have hkn : (k : Int) < (x.size : Int) := by omega
      have hk0 : (0 : Int) ≤ (k : Int) := by omega
      have q1 := T1.out.at hp
      have q2 := T2.out.at hp
      cases h1 : cvB x u k with
      | true =>
        rw [h1] at q1
        have hi2 : Hid (∀ j, j < k + 1 → (cvB x u j || cvB x v j) = true) := Lib.hid fun j hj => by
          by_cases e : j = k
          · subst e; rw [h1]; rfl
          · exact hi.out j (by omega)
        clear h1
        go_wp2_with fail
        go_roundw
        case rel => exact ⟨trivial, k + 1, by omega, by go_num, hi2⟩
        case measure => simp [intOf]; omega
      | false =>
        rw [h1] at q1
        cases h2 : cvB x v k with
        | true =>
          rw [h2] at q2
          have hi2 : Hid (∀ j, j < k + 1 → (cvB x u j || cvB x v j) = true) := Lib.hid fun j hj => by
            by_cases e : j = k
            · subst e; rw [h2, Bool.or_true]
            · exact hi.out j (by omega)
          clear h1 h2
          go_wp2_with fail
          go_roundw
          case rel => exact ⟨trivial, k + 1, by omega, by go_num, hi2⟩
          case measure => simp [intOf]; omega
        | false =>
          rw [h2] at q2
          have hr : cvTwo x u v = false := allB_no hp (by rw [h1, h2]; rfl)
          clear h1 h2
          go_wp2_with fail
          go_ret
          exact ⟨by first | rfl | (rw [hr]; rfl), B⟩
    · obtain rfl : k = x.size := by omega
      have hkn : ¬ (x.size : Int) < (x.size : Int) := by omega
      have hr : cvTwo x u v = true := (allB_iff _ _).2 hi.out
      go_wp2_with fail
      go_ret
      exact ⟨by first | rfl | (rw [hr]; rfl), B⟩

set_option maxRecDepth 100000 in
theorem spec_CoveredByTwo (x u v : ByteArray) (w : World) (sx : x.size ≤ maxLen) (su : u.size ≤ maxLen) (sv : v.size ≤ maxLen) :
    Calls Try.prog 38 #[.string x, .string u, .string v] w fun e w' => e = .returned (.tuple #[.bool (coveredByTwoR x u v).1, .int .i64 (coveredByTwoR x u v).2]) ∧ Below w.heap.size w w' := by
  by_cases h : IsW x ∧ IsW u ∧ IsW v
  · by_cases k : u.size = 0 ∨ v.size = 0
    · have e1 := codeR2_empty h k
      rw [coveredByTwoR_empty h k]
      have H := Lib.hid h
      clear h
      go_enter Try.func38, Try.ntmps38
      go_wp2_with (go_at_call 42; refine (l09Code2_any x u v _ sx su sv _ (by simp) (by simp [go_sem]) (by simp [go_sem])).mono ?_; rintro e w1 ⟨rfl, b1⟩)
      go_ret2
      exact ⟨rfl, (Below.new _ _).then b1⟩
    · have e1 := codeR2_ok h k
      rw [coveredByTwoR_ok h k]
      have zx := h.1.size
      have zu := h.2.1.size
      have zv := h.2.2.size
      clear h k
      go_enter Try.func38, Try.ntmps38
      go_wp2_with (first | (go_at_call 42; refine (l09Code2_any x u v _ sx su sv _ (by simp) (by simp [go_sem]) (by simp [go_sem])).mono ?_; rintro e w1 ⟨rfl, b1⟩) | (go_at_call 78; refine (l09Two_any x u v _ zx zu zv).mono ?_; rintro e w2 ⟨rfl, b2⟩))
      go_ret2
      exact ⟨rfl, ((Below.new _ _).then b1).then b2⟩
  · have e1 := codeR2_bad h
    rw [coveredByTwoR_bad h]
    clear h
    go_enter Try.func38, Try.ntmps38
    go_wp2_with (go_at_call 42; refine (l09Code2_any x u v _ sx su sv _ (by simp) (by simp [go_sem]) (by simp [go_sem])).mono ?_; rintro e w1 ⟨rfl, b1⟩)
    go_ret2
    exact ⟨rfl, (Below.new _ _).then b1⟩

end Go.Proofs.Ytkemdiefoohdjaa
