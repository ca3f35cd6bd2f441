/- The places that a seed covers: the program. -/
import Derived.Test.YtkemdiefoohdjaaCovI
import Derived.Test.YtkemdiefoohdjaaSeedPlain
import Derived.Test.YtkemdiefoohdjaaLib
namespace Go.Proofs.Ytkemdiefoohdjaa
set_option linter.unusedVariables false
set_option linter.unusedSimpArgs false
open Go.RowKit

theorem slice_seed_to (u : ByteArray) (m : Nat) (h : m ≤ u.size) (W : World) :
    (Instr.slice 63 (.string u) none (some (.int .i64 (m : Int))) none).run Try.prog W = .ok (.string (u.extract 0 m)) W := by
  have := run_slice_string_h (P := Try.prog) W 63 u Try.underlying63 .i64 (m : Int) (by omega) (by omega)
  simpa using this
theorem slice_seed_from (u : ByteArray) (m : Nat) (h : m ≤ u.size) (W : World) :
    (Instr.slice 63 (.string u) (some (.int .i64 (m : Int))) none none).run Try.prog W = .ok (.string (u.extract m u.size)) W := by
  have := run_slice_string_l (P := Try.prog) W 63 u Try.underlying63 .i64 (m : Int) (by omega) (by omega)
  simpa using this
theorem smk_lt64 {x u : ByteArray} {k : Nat} (h : x.size ≤ 60) (hk : k ≤ x.size) : smk x u k < 18446744073709551616 := by
  have h1 := smk_lt (x := x) (u := u) hk
  have h2 : 2 ^ x.size ≤ 2 ^ 60 := Nat.pow_le_pow_right (by omega) h
  omega
theorem mskF_lt64 {i m : Nat} (h : i + m ≤ 60) : mskF i m < 18446744073709551616 := by
  have h1 := mskF_lt h
  omega
theorem or_lt64 {a b : Nat} (h : a < 18446744073709551616) (k : b < 18446744073709551616) : a ||| b < 18446744073709551616 := by
  have := Nat.or_lt_two_pow (x := a) (y := b) (n := 64) (by omega) (by omega)
  omega

set_option maxRecDepth 100000 in
set_option maxHeartbeats 4000000 in
theorem seed_covered (x u : ByteArray) (w : World) (hx : x.size ≤ 60) (hu : u.size ≤ x.size) :
    Calls Try.prog 142 #[.string u, .string x] w fun e w' => e = .returned (.int .u64 ((smk x u (u.size - 1) : Nat) : Int)) ∧ Below w.heap.size w w' := by
  have hu60 : u.size ≤ 60 := by omega
  have hc := fun W => callsIn_wide.1 (inner_covered_in x u W hx hu60)
  have HC := Lib.hid hc
  clear hc
  go_enter Try.func142, Try.ntmps142
  go_wp2_with (go_at_call 75; refine (HC.out _).mono ?_; rintro e w1 ⟨rfl, b1⟩)
  go_loopw [5, 6] (fun s5 s6 wr => wr = w1 ∧ ∃ m : Nat, 1 ≤ m ∧ (m ≤ u.size ∨ m = 1) ∧ s6 = .int .i64 (m : Int) ∧ s5 = .int .u64 ((smk x u (m - 1) : Nat) : Int))
    (fun _ s6 _ => u.size + 1 - (intOf s6).toNat)
  case atStart => exact ⟨rfl, 1, Nat.le_refl _, .inr rfl, rfl, rfl⟩
  case round =>
    obtain ⟨rfl, m, hm1, hm2, rfl, rfl⟩ := hrel
    by_cases hp : m < u.size
    · have hmu : (m : Int) < (u.size : Int) := by omega
      obtain ⟨p, hpp⟩ : ∃ p : Nat, u.size - m = p := ⟨_, rfl⟩
      obtain ⟨q, hqq⟩ : ∃ q : Nat, x.size - m = q := ⟨_, rfl⟩
      have e1 : (u.size : Int) - (m : Int) = (p : Int) := by omega
      have e2 : (x.size : Int) - (m : Int) = (q : Int) := by omega
      have hs1 := slice_seed_from u p (by omega)
      have hs2 := slice_seed_to u m (by omega)
      have hL := hgL_prefix (x := x) (u := u) (m := m) (by omega)
      have hR := hgR_suffix (x := x) (u := u) (m := m) (by omega) (by omega)
      rw [hpp] at hL
      have hCL := fun W => Try.strings_HasPrefix x (u.extract p u.size) W
      have hCR := fun W => Try.strings_HasSuffix x (u.extract 0 m) W (by omega)
      have hCL2 : ∀ W, Calls Try.prog 143 #[.string x, .string (u.extract p u.size)] W fun e w' => e = .returned (.bool (hgL x u m)) ∧ w' = W := fun W => (hCL W).mono (by rintro e w' ⟨rfl, rfl⟩; exact ⟨by rw [← hL]; rfl, rfl⟩)
      have hCR2 : ∀ W, Calls Try.prog 100 #[.string x, .string (u.extract 0 m)] W fun e w' => e = .returned (.bool (hgR x u m)) ∧ w' = W := fun W => (hCR W).mono (by rintro e w' ⟨rfl, rfl⟩; exact ⟨by rw [← hR]; rfl, rfl⟩)
      have hstep : smk x u m = (if hgR x u m = true then (if hgL x u m = true then smk x u (m - 1) ||| mskF 0 m else smk x u (m - 1)) ||| mskF q m
          else (if hgL x u m = true then smk x u (m - 1) ||| mskF 0 m else smk x u (m - 1))) := by
        obtain ⟨k, rfl⟩ : ∃ k, m = k + 1 := ⟨m - 1, by omega⟩
        rw [← hqq]
        rfl
      have za : smk x u (m - 1) < 18446744073709551616 := smk_lt64 hx (by omega)
      have zb : mskF 0 m < 18446744073709551616 := mskF_lt64 (by omega)
      have zc : mskF q m < 18446744073709551616 := mskF_lt64 (by omega)
      have o1 := bits_or_u64_nat _ _ za zb
      have o2 := bits_or_u64_nat _ _ za zc
      have o3 := bits_or_u64_nat _ _ (or_lt64 za zb) zc
      have pf1 : ∀ W, Calls Try.prog 84 #[.int .i64 0, .int .i64 (m : Int)] W fun e w' => e = .returned (.int .u64 ((mskF 0 m : Nat) : Int)) ∧ w' = W := fun W => placesFrom_any 0 m W (by omega)
      have pf2 := fun W => placesFrom_any q m W (by omega)
      clear hL hR hCL hCR hpp hqq za zb zc
      generalize u.extract p u.size = t1 at *
      generalize u.extract 0 m = t2 at *
      have C1 := Lib.hid hCL2
      have C2 := Lib.hid hCR2
      have P1 := Lib.hid pf1
      have P2 := Lib.hid pf2
      clear hCL2 hCR2 pf1 pf2
      generalize mskF 0 m = f1 at *
      generalize mskF q m = f2 at *
      have HS := Lib.hid hstep
      have e9 : m + 1 - 1 = m := by omega
      cases h1 : hgL x u m <;> cases h2 : hgR x u m <;>
      · rw [h1, h2] at hstep
        simp only [Bool.false_eq_true, if_false, if_true] at hstep
        have HS := Lib.hid hstep
        rw [h1] at C1
        rw [h2] at C2
        clear hstep h1 h2
        generalize smk x u (m - 1) = a at *
        go_wp2_with (first | (go_at_call 143; refine (C1.out _).mono ?_; rintro e w2 ⟨rfl, rfl⟩) | (go_at_call 100; refine (C2.out _).mono ?_; rintro e w2 ⟨rfl, rfl⟩) | (go_at_call 84; first | (with_reducible refine (P1.out _).mono ?_; rintro e w2 ⟨rfl, rfl⟩) | (with_reducible refine (P2.out _).mono ?_; rintro e w2 ⟨rfl, rfl⟩)))
        go_roundw
        case rel => exact ⟨trivial, m + 1, by omega, .inl (by omega), by go_num, by rw [e9, HS.out]⟩
        case measure => simp [intOf]; omega
    · have hmu : ¬ (m : Int) < (u.size : Int) := by omega
      have e9 : m - 1 = u.size - 1 := by omega
      rw [e9]
      go_wp2_with fail
      go_ret
      exact ⟨rfl, b1⟩

theorem seed_beq {x u : ByteArray} (h : u.size ≤ x.size) : (((smk x u (u.size - 1) : Nat) : Int) == ((mskF 0 x.size : Nat) : Int)) = sdAll x u :=
  full_beq (smk_lt (by omega)) (fun j => smk_bit x u j _ (by omega))
set_option maxHeartbeats 1000000 in
theorem coversAll_seed (x u : ByteArray) (w : World) (hx : x.size ≤ 60) (hu : u.size ≤ x.size) :
    Calls Try.prog 48 #[.iface 63 (.string u), .string x] w fun e w' => e = .returned (.bool (sdAll x u)) ∧ Below w.heap.size w w' := by
  have hb := seed_beq hu
  go_enter Try.func48, Try.ntmps48
  go_wp2_with (first | (go_at_call 142; refine (seed_covered x u _ hx hu).mono ?_; rintro e w1 ⟨rfl, b1⟩) | (go_at_call 84; refine (placesFrom_any 0 x.size _ (by omega)).mono ?_; rintro e w2 ⟨rfl, rfl⟩))
  go_ret
  exact ⟨rfl, b1⟩

end Go.Proofs.Ytkemdiefoohdjaa
