/- Zimin words, both sides. -/
import Derived.Test.YtfipbnognjepkaaGreatDoorPat3Plain
import Derived.Test.YtfipbnognjepkaaGreatDoorWords
import Derived.Test.YtfipbnognjepkaaGreatDoorLetter
namespace Go.Proofs.YtfipbnognjepkaaGreatDoor
set_option linter.unusedVariables false
set_option linter.unusedSimpArgs false
open Go.RowKit

set_option maxRecDepth 100000 in
theorem letterOf_z (n : Int) (w : World) (h0 : 0 ≤ n) (h4 : n ≤ 4) :
    Calls Tryz.prog 124 #[.int .i64 n] w fun e w' => e = .returned (.int .i32 (97 + n)) ∧ w = w' := by
  go_enter Tryz.func124, Tryz.ntmps124
  go_wp2
  go_ret
  exact ⟨rfl, rfl⟩
theorem rune_text (k : Nat) (hk : k ≤ 4) (W : World) : (convert 21 9 (.int .i32 (97 + (k : Int)))).run Tryz.prog W = .ok (.string (lt1 k)) W := by
  rw [run_convert_int_string W _ _ _ _ (by rw [Tryz.underlying21]; rfl) Tryz.underlying9]
  have hk' : k = 0 ∨ k = 1 ∨ k = 2 ∨ k = 3 ∨ k = 4 := by omega
  rcases hk' with rfl | rfl | rfl | rfl | rfl <;> rfl
theorem zim_size {n : Nat} (h : n ≤ 5) : (bt (zimL n)).size ≤ 31 := by
  rw [bt_size]
  have h1 := zimL_len n
  have h2 : 2 ^ n ≤ 2 ^ 5 := Nat.pow_le_pow_right (by omega) h
  have h3 : (2 : Nat) ^ 5 = 32 := by decide
  omega
theorem zim_succ (n : Nat) : bt (zimL (n + 1)) = bt (zimL n) ++ (lt1 n ++ bt (zimL n)) := by
  apply bl_inj
  rw [bl_append, bl_append]
  rfl
theorem zim_succ2 (n : Nat) : bt (zimL (n + 1)) = (bt (zimL n) ++ lt1 n) ++ bt (zimL n) := by
  apply bl_inj
  rw [bl_append, bl_append, List.append_assoc]
  rfl

set_option maxRecDepth 100000 in
set_option maxHeartbeats 1000000 in
theorem ziminWord_any (n : Nat) (hn : n ≤ 5) (w : World) :
    Calls Tryz.prog 65 #[.int .i64 (n : Int)] w fun e w' => e = .returned (.string (bt (zimL n))) ∧ Below w.heap.size w w' := by
  go_enter Tryz.func65, Tryz.ntmps65
  go_wp2_with fail
  go_loopw [3, 6] (fun s3 s6 wr => wr = w ∧ ∃ k : Nat, k ≤ n ∧ s6 = .int .i64 (k : Int) ∧ s3 = .string (bt (zimL k))) (fun _ s6 _ => n - (intOf s6).toNat)
  case atStart => exact ⟨rfl, 0, Nat.zero_le _, rfl, rfl⟩
  case round =>
    obtain ⟨rfl, k, hk, rfl, rfl⟩ := hrel
    by_cases hp : k < n
    · have hz := zim_size (n := k) (by omega)
      have hs := zim_succ k
      have HS := Lib.hid hs
      have LT := Lib.hid (show (⟨#[letB (k : Int)]⟩ : ByteArray) = lt1 k from rfl)
      have hl1 := lt1_size k
      clear hs
      generalize bt (zimL k) = z at *
      have hsum1 : ∀ W, (Op.stringOp .add (lt1 k) z).run Tryz.prog W = .ok (.string (lt1 k ++ z)) W := fun W => run_string_add_sum W _ _ (by omega)
      have hsum2 : ∀ W, (Op.stringOp .add z (lt1 k ++ z)).run Tryz.prog W = .ok (.string (z ++ (lt1 k ++ z))) W := fun W => run_string_add_sum W _ _ (by rw [ByteArray.size_append]; omega)
      have hcv := fun W => rune_text k (by omega) W
      generalize lt1 k = t at *
      have hts : (t ++ z).size ≤ 32 := by rw [ByteArray.size_append]; omega
      go_wp2_with fail
      refine (letterOf_z (k : Int) _ (by omega) (by omega)).mono ?_
      rintro e w1 ⟨rfl, rfl⟩
      go_simp
      go_wp2_with fail
      go_roundw
      case rel => exact ⟨(by first | rfl | trivial), k + 1, by omega, by go_num, by rw [HS.out]⟩
      case measure => simp [intOf]; omega
    · obtain rfl : k = n := by omega
      go_wp2_with fail
      go_ret
      exact ⟨rfl, Below.refl _ _⟩


set_option maxRecDepth 100000 in
set_option maxHeartbeats 1000000 in
theorem l10Zimin_any : ∀ (n : Nat) (w : World), n ≤ 4 →
    Calls Tryz.prog 67 #[.int .i64 ((n : Int) + 1)] w fun e w' => e = .returned (.string (bt (zimL (n + 1)))) ∧ Below w.heap.size w w'
  | 0, w, _ => by
    have h1 : bt (zimL 1) = ⟨#[97]⟩ := rfl
    rw [show 0 + 1 = 1 from rfl, h1]
    go_enter Tryz.func67, Tryz.ntmps67
    go_wp2
    go_ret
    exact ⟨rfl, Below.refl _ _⟩
  | n + 1, w, hn => by
    have hn1 : ((n + 1 : Nat) : Int) + 1 - 1 = (n : Int) + 1 := by omega
    have hne : (((n + 1 : Nat) : Int) + 1 == 1) = false := by rw [beq_eq_false_iff_ne]; omega
    have IH := Lib.hid (fun W => l10Zimin_any n W (by omega))
    have hz := zim_size (n := n + 1) (by omega)
    have hs := zim_succ2 (n + 1)
    have HS := Lib.hid hs
    have LT := Lib.hid (show (⟨#[letB ((n + 1 : Nat) : Int)]⟩ : ByteArray) = lt1 (n + 1) from rfl)
    have hl1 := lt1_size (n + 1)
    have CL := Lib.hid (fun W => by have h := l01Letter_any ((n + 1 : Nat) : Int) W (by omega) (by omega); rw [LT.out] at h; exact h)
    have hc : ((n + 1 : Nat) : Int) = (n : Int) + 1 := by omega
    have HC := Lib.hid hc
    clear hs
    rw [HS.out]
    generalize bt (zimL (n + 1)) = z at *
    generalize lt1 (n + 1) = t at *
    have hsum1 : ∀ W, (Op.stringOp .add z t).run Tryz.prog W = .ok (.string (z ++ t)) W := fun W => run_string_add_sum W _ _ (by omega)
    have hts : (z ++ t).size ≤ 32 := by rw [ByteArray.size_append]; omega
    have hsum2 : ∀ W, (Op.stringOp .add (z ++ t) z).run Tryz.prog W = .ok (.string ((z ++ t) ++ z)) W := fun W => run_string_add_sum W _ _ (by omega)
    rw [HC.out] at CL hne ⊢
    have hn3 : (n : Int) + 1 + 1 - 1 = (n : Int) + 1 := by omega
    clear hc hn1
    go_enter Tryz.func67, Tryz.ntmps67
    go_wp2_with fail
    refine (IH.out _).mono ?_
    rintro e w1 ⟨rfl, b1⟩
    go_wp2_with fail
    refine (CL.out _).mono ?_
    rintro e w2 ⟨rfl, b2⟩
    go_wp2_with fail
    refine (IH.out _).mono ?_
    rintro e w3 ⟨rfl, b3⟩
    go_wp2_with fail
    go_ret
    exact ⟨rfl, (b1.then b2).then b3⟩

/-! ### The exact function: n in 1..5. -/
def zimR (n : Int) : ByteArray × Int := if 1 ≤ n ∧ n ≤ 5 then (bt (zimL n.toNat), 0) else (⟨#[]⟩, 2)
theorem zimR_ok {n : Nat} (h1 : 1 ≤ n) (h2 : n ≤ 5) : zimR (n : Int) = (bt (zimL n), 0) := by unfold zimR; rw [if_pos (by omega)]; rfl
theorem zimR_out {n : Int} (h : ¬ (1 ≤ n ∧ n ≤ 5)) : zimR n = (⟨#[]⟩, 2) := if_neg h

end Go.Proofs.YtfipbnognjepkaaGreatDoor
