/- bits.OnesCount64 at this program. -/
import Derived.Test.YtkemdiefoohdjaaPopPlain
import Derived.Test.YtkemdiefoohdjaaCovT
namespace Go.Proofs.Ytkemdiefoohdjaa
set_option linter.unusedVariables false
set_option linter.unusedSimpArgs false
open Go.RowKit

theorem mB_A : mB 0x55 8 = 6148914691236517205 := by decide
theorem mB_B : mB 0x33 8 = 3689348814741910323 := by decide
theorem mB_C : mB 0x0F 8 = 1085102592571150095 := by decide
theorem pA_le (x : Nat) : pA 8 x ≤ 12297829382473034410 := by
  have h1 : x / 2 &&& mB 0x55 8 ≤ mB 0x55 8 := Nat.and_le_right
  have h2 : x &&& mB 0x55 8 ≤ mB 0x55 8 := Nat.and_le_right
  unfold pA
  rw [mB_A] at *
  omega
theorem pB_le (x : Nat) : pB 8 x ≤ 7378697629483820646 := by
  have h1 : x / 4 &&& mB 0x33 8 ≤ mB 0x33 8 := Nat.and_le_right
  have h2 : x &&& mB 0x33 8 ≤ mB 0x33 8 := Nat.and_le_right
  unfold pB
  rw [mB_B] at *
  omega
theorem pop_A (x : Nat) (hx : x < 18446744073709551616) : IntKind.u64.wrap (bits BinOp.and IntKind.u64 ((x : Int) / 2) 6148914691236517205 + bits BinOp.and IntKind.u64 (x : Int) 6148914691236517205) = ((pA 8 x : Nat) : Int) := by
  have h0 := pA_le x
  have e : (x : Int) / 2 = ((x / 2 : Nat) : Int) := by omega
  have h1 : bits BinOp.and IntKind.u64 ((x / 2 : Nat) : Int) 6148914691236517205 = ((x / 2 &&& 6148914691236517205 : Nat) : Int) := bits_and_u64_nat (x / 2) 6148914691236517205 (by omega) (by omega)
  have h2 : bits BinOp.and IntKind.u64 (x : Int) 6148914691236517205 = ((x &&& 6148914691236517205 : Nat) : Int) := bits_and_u64_nat x 6148914691236517205 hx (by omega)
  rw [e]
  rw [h1, h2, IntKind.wrap_u64]
  unfold pA at *
  rw [mB_A] at *
  omega
theorem pop_B (x : Nat) (hx : x < 18446744073709551616) : IntKind.u64.wrap (bits BinOp.and IntKind.u64 ((x : Int) / 4) 3689348814741910323 + bits BinOp.and IntKind.u64 (x : Int) 3689348814741910323) = ((pB 8 x : Nat) : Int) := by
  have h0 := pB_le x
  have e : (x : Int) / 4 = ((x / 4 : Nat) : Int) := by omega
  have h1 : bits BinOp.and IntKind.u64 ((x / 4 : Nat) : Int) 3689348814741910323 = ((x / 4 &&& 3689348814741910323 : Nat) : Int) := bits_and_u64_nat (x / 4) 3689348814741910323 (by omega) (by omega)
  have h2 : bits BinOp.and IntKind.u64 (x : Int) 3689348814741910323 = ((x &&& 3689348814741910323 : Nat) : Int) := bits_and_u64_nat x 3689348814741910323 hx (by omega)
  rw [e]
  rw [h1, h2, IntKind.wrap_u64]
  unfold pB at *
  rw [mB_B] at *
  omega
theorem pop_C (x : Nat) (hx : x ≤ 7378697629483820646) : bits BinOp.and IntKind.u64 ((x : Int) / 16 + (x : Int)) 1085102592571150095 = ((pC 8 x : Nat) : Int) := by
  have e : (x : Int) / 16 + (x : Int) = ((x / 16 + x : Nat) : Int) := by omega
  have h1 : bits BinOp.and IntKind.u64 ((x / 16 + x : Nat) : Int) 1085102592571150095 = ((x / 16 + x &&& 1085102592571150095 : Nat) : Int) := bits_and_u64_nat (x / 16 + x) 1085102592571150095 (by omega) (by omega)
  rw [e, h1]
  unfold pC
  rw [mB_C]
theorem wrap64_small (a : Nat) (h : a < 9223372036854775808) : wrap64 (a : Int) = (a : Int) := by
  unfold wrap64; omega
theorem pop_D (c : Nat) (h : pD c < 18446744073709551616) : IntKind.u64.wrap ((c : Int) + (c : Int) / 256) = ((pD c : Nat) : Int) := by
  unfold pD at *; rw [IntKind.wrap_u64]; omega
theorem pop_E (c : Nat) (h : pE c < 18446744073709551616) : IntKind.u64.wrap ((c : Int) + (c : Int) / 65536) = ((pE c : Nat) : Int) := by
  unfold pE at *; rw [IntKind.wrap_u64]; omega
theorem pop_F (c : Nat) (h : pF c < 18446744073709551616) : IntKind.u64.wrap ((c : Int) + (c : Int) / 4294967296) = ((pF c : Nat) : Int) := by
  unfold pF at *; rw [IntKind.wrap_u64]; omega
theorem bits_and_127 (a : Nat) (h : a < 9223372036854775808) : bits BinOp.and IntKind.i64 (a : Int) 127 = ((a % 128 : Nat) : Int) := by
  have h1 : (BitVec.ofInt 64 (a : Int)).toNat = a := by
    rw [BitVec.ofInt_natCast, BitVec.toNat_ofNat]; exact Nat.mod_eq_of_lt (by omega)
  have h2 : (BitVec.ofInt 64 (127 : Int)).toNat = 127 := by decide
  have h3 : a &&& 127 = a % 128 := Nat.and_two_pow_sub_one_eq_mod a 7
  show IntKind.i64.wrap ((BitVec.ofInt 64 (a : Int) &&& BitVec.ofInt 64 (127 : Int)).toNat : Int) = _
  rw [BitVec.toNat_and, h1, h2, h3, IntKind.wrap_i64]
  omega

set_option maxRecDepth 100000 in
set_option maxHeartbeats 2000000 in
theorem onesCount_any (x : Nat) (w : World) (hx : x < 18446744073709551616) :
    Calls Try.prog 95 #[.int .u64 (x : Int)] w fun e w' => e = .returned (.int .i64 ((cnB (fun j => x.testBit j) 64 : Nat) : Int)) ∧ w' = w := by
  obtain ⟨hpop, hlt⟩ := pop_all x hx
  have l1 : pD (pC 8 (pB 8 (pA 8 x))) ≤ pE (pD (pC 8 (pB 8 (pA 8 x)))) := Nat.le_add_right _ _
  have l2 : pE (pD (pC 8 (pB 8 (pA 8 x)))) ≤ pF (pE (pD (pC 8 (pB 8 (pA 8 x))))) := Nat.le_add_right _ _
  have z1 := pA_le x
  have z2 := pB_le (pA 8 x)
  have q1 := pop_A x hx
  have q2 := pop_B (pA 8 x) (by omega)
  have q3 := pop_C (pB 8 (pA 8 x)) z2
  have q3w : IntKind.u64.wrap (((pB 8 (pA 8 x) : Nat) : Int) / 16 + ((pB 8 (pA 8 x) : Nat) : Int)) = ((pB 8 (pA 8 x) : Nat) : Int) / 16 + ((pB 8 (pA 8 x) : Nat) : Int) := by rw [IntKind.wrap_u64]; omega
  have q4 := pop_D (pC 8 (pB 8 (pA 8 x))) (by omega)
  have q5 := pop_E (pD (pC 8 (pB 8 (pA 8 x)))) (by omega)
  have q6 := pop_F (pE (pD (pC 8 (pB 8 (pA 8 x))))) (by omega)
  have q7 := bits_and_127 _ hlt
  have q8 := wrap64_small _ hlt
  rw [hpop] at q7
  go_enter Try.func95, Try.ntmps95
  generalize cnB (fun j => x.testBit j) 64 = N at *
  clear hpop l1 l2 z1 z2
  generalize pF (pE (pD (pC 8 (pB 8 (pA 8 x))))) = f at *
  generalize pE (pD (pC 8 (pB 8 (pA 8 x)))) = e0 at *
  generalize pD (pC 8 (pB 8 (pA 8 x))) = d0 at *
  generalize pC 8 (pB 8 (pA 8 x)) = c0 at *
  generalize pB 8 (pA 8 x) = b0 at *
  generalize pA 8 x = a0 at *
  go_wp2
  go_ret
  exact ⟨rfl, rfl⟩

/-- How many places a set has. -/
theorem count_any (X n : Nat) (f : Nat → Bool) (w : World) (h : X < 2 ^ n) (hn : n ≤ 60) (hf : ∀ j, X.testBit j = f j) :
    Calls Try.prog 76 #[.int .u64 (X : Int)] w fun e w' => e = .returned (.int .i64 ((cnB f n : Nat) : Int)) ∧ w' = w := by
  have hX : X < 18446744073709551616 := by
    have h2 : 2 ^ n ≤ 2 ^ 60 := Nat.pow_le_pow_right (by omega) hn
    omega
  have e : cnB (fun j => X.testBit j) 64 = cnB f n := by
    obtain ⟨d, hd⟩ : ∃ d, 64 = n + d := ⟨64 - n, by omega⟩
    rw [hd, cnB_add, cnB_ext n (fun j _ => hf j)]
    have : ∀ d, cnB (fun j => X.testBit (n + j)) d = 0 := fun d => by
      induction d with
      | zero => rfl
      | succ d ih =>
        rw [cnB, ih]
        have : X.testBit (n + d) = false := Nat.testBit_lt_two_pow (Nat.lt_of_lt_of_le h (Nat.pow_le_pow_right (by omega) (by omega)))
        simp [this]
    rw [this]; omega
  have hc := onesCount_any X w hX
  rw [e] at hc
  have hl := cnB_le f n
  go_enter Try.func76, Try.ntmps76
  go_wp2_with (go_at_call 95; refine hc.mono ?_; rintro e w1 ⟨rfl, rfl⟩)
  go_ret
  exact ⟨rfl, rfl⟩

end Go.Proofs.Ytkemdiefoohdjaa
