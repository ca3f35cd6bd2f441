/- Plain facts: how many bits of a number are set, by adding neighbours. -/
import Derived.Test.YtkemdiefoohdjaaCovPlain
namespace Go.Proofs.Ytkemdiefoohdjaa
set_option linter.unusedVariables false
set_option linter.unusedSimpArgs false

theorem and_parts {l p h q : Nat} (hl : l < 256) (hp : p < 256) : (l + 256 * h) &&& (p + 256 * q) = (l &&& p) + 256 * (h &&& q) := by
  have a1 : l + 256 * h = 2 ^ 8 * h + l := by omega
  have a2 : p + 256 * q = 2 ^ 8 * q + p := by omega
  have hlt : l &&& p < 2 ^ 8 := Nat.and_lt_two_pow _ (by omega)
  have a3 : (l &&& p) + 256 * (h &&& q) = 2 ^ 8 * (h &&& q) + (l &&& p) := by omega
  apply Nat.eq_of_testBit_eq
  intro j
  rw [a3, Nat.testBit_and, a1, a2]
  by_cases hj : j < 8
  · rw [Nat.testBit_two_pow_mul_add _ (by omega), Nat.testBit_two_pow_mul_add _ (by omega), Nat.testBit_two_pow_mul_add _ hlt]
    simp [hj, Nat.testBit_and]
  · rw [Nat.testBit_two_pow_mul_add _ (by omega), Nat.testBit_two_pow_mul_add _ (by omega), Nat.testBit_two_pow_mul_add _ hlt]
    simp [hj, Nat.testBit_and]

/-- A mask of n bytes b. -/
def mB (b : Nat) : Nat → Nat
  | 0 => 0
  | n + 1 => b + 256 * mB b n
def pA (n x : Nat) : Nat := (x / 2 &&& mB 0x55 n) + (x &&& mB 0x55 n)
def pB (n x : Nat) : Nat := (x / 4 &&& mB 0x33 n) + (x &&& mB 0x33 n)
def pC (n x : Nat) : Nat := (x / 16 + x) &&& mB 0x0F n
theorem byteA : ∀ (t : Fin 2) (l : Fin 256), (l.val / 2 + 128 * t.val) &&& 0x55 = l.val / 2 &&& 0x55 := by decide +kernel
theorem byteB : ∀ (t : Fin 4) (l : Fin 256), (l.val / 4 + 64 * t.val) &&& 0x33 = l.val / 4 &&& 0x33 := by decide +kernel
theorem byteC : ∀ (t : Fin 5) (l : Fin 256), (l.val / 16 + 16 * t.val + l.val) % 256 &&& 0x0F = (l.val / 16 + l.val) % 256 &&& 0x0F := by decide +kernel
theorem pA_step (n l h : Nat) (hl : l < 256) : pA (n + 1) (l + 256 * h) = pA 1 l + 256 * pA n h := by
  unfold pA
  have e : (l + 256 * h) / 2 = (l / 2 + 128 * (h % 2)) + 256 * (h / 2) := by omega
  have e1 : l / 2 = l / 2 + 256 * 0 := by omega
  have e2 : l = l + 256 * 0 := by omega
  rw [e]
  show ((l / 2 + 128 * (h % 2) + 256 * (h / 2)) &&& (0x55 + 256 * mB 0x55 n)) + ((l + 256 * h) &&& (0x55 + 256 * mB 0x55 n)) = ((l / 2 &&& 0x55) + (l &&& 0x55)) + 256 * _
  rw [and_parts (by omega) (by omega), and_parts hl (by omega), byteA ⟨h % 2, by omega⟩ ⟨l, hl⟩]
  simp only
  omega
theorem pB_step (n l h : Nat) (hl : l < 256) : pB (n + 1) (l + 256 * h) = pB 1 l + 256 * pB n h := by
  unfold pB
  have e : (l + 256 * h) / 4 = (l / 4 + 64 * (h % 4)) + 256 * (h / 4) := by omega
  rw [e]
  show ((l / 4 + 64 * (h % 4) + 256 * (h / 4)) &&& (0x33 + 256 * mB 0x33 n)) + ((l + 256 * h) &&& (0x33 + 256 * mB 0x33 n)) = ((l / 4 &&& 0x33) + (l &&& 0x33)) + 256 * _
  rw [and_parts (by omega) (by omega), and_parts hl (by omega), byteB ⟨h % 4, by omega⟩ ⟨l, hl⟩]
  simp only
  omega
theorem pC_step (n l h : Nat) (hl : l ≤ 0x44) (ht : h % 16 ≤ 4) : pC (n + 1) (l + 256 * h) = pC 1 l + 256 * pC n h := by
  unfold pC
  have e : (l + 256 * h) / 16 + (l + 256 * h) = (l / 16 + 16 * (h % 16) + l) + 256 * (h / 16 + h) := by omega
  rw [e]
  show ((l / 16 + 16 * (h % 16) + l) + 256 * (h / 16 + h)) &&& (0x0F + 256 * mB 0x0F n) = ((l / 16 + l) &&& 0x0F) + 256 * _
  rw [and_parts (by omega) (by omega)]
  have h1 := byteC ⟨h % 16, by omega⟩ ⟨l, by omega⟩
  simp only at h1
  rw [Nat.mod_eq_of_lt (show l / 16 + 16 * (h % 16) + l < 256 by omega), Nat.mod_eq_of_lt (show l / 16 + l < 256 by omega)] at h1
  rw [h1]
theorem byte_ok : ∀ l : Fin 256, pA 1 l.val < 256 ∧ pB 1 (pA 1 l.val) ≤ 0x44 ∧ pB 1 (pA 1 l.val) % 16 ≤ 4 ∧ pC 1 (pB 1 (pA 1 l.val)) ≤ 8 := by decide +kernel
theorem byte_cn : ∀ l : Fin 256, pC 1 (pB 1 (pA 1 l.val)) = cnB (fun j => l.val.testBit j) 8 := by decide +kernel
theorem pAll_step (n l h : Nat) (hl : l < 256) (ht : pB n (pA n h) % 16 ≤ 4) : pC (n + 1) (pB (n + 1) (pA (n + 1) (l + 256 * h))) = pC 1 (pB 1 (pA 1 l)) + 256 * pC n (pB n (pA n h)) ∧ pB (n + 1) (pA (n + 1) (l + 256 * h)) % 16 ≤ 4 := by
  obtain ⟨k1, k2, k3, k4⟩ := byte_ok ⟨l, hl⟩
  simp only at k1 k2 k3 k4
  rw [pA_step n l h hl, pB_step n _ _ k1, pC_step n _ _ k2 ht]
  exact ⟨rfl, by omega⟩
/-- The bytes of a number, the first n, each by its bits. -/
def byC (x : Nat) : Nat → Nat
  | 0 => 0
  | n + 1 => cnB (fun j => (x % 256).testBit j) 8 + 256 * byC (x / 256) n
theorem pAll (n : Nat) : ∀ x, x < 256 ^ n → pC n (pB n (pA n x)) = byC x n ∧ pB n (pA n x) % 16 ≤ 4 := by
  induction n with
  | zero => intro x hx; simp at hx; subst hx; decide
  | succ n ih =>
    intro x hx
    have h1 : x / 256 < 256 ^ n := by rw [Nat.pow_succ] at hx; exact Nat.div_lt_of_lt_mul (by omega)
    obtain ⟨a, b⟩ := ih _ h1
    have e : x = x % 256 + 256 * (x / 256) := by omega
    have h2 := pAll_step n (x % 256) (x / 256) (Nat.mod_lt _ (by omega)) b
    rw [← e] at h2
    refine ⟨?_, h2.2⟩
    rw [h2.1, a, byC, byte_cn ⟨x % 256, Nat.mod_lt _ (by omega)⟩]
theorem cnB_add (f : Nat → Bool) (m : Nat) : ∀ n, cnB f (m + n) = cnB f m + cnB (fun j => f (m + j)) n
  | 0 => rfl
  | n + 1 => by rw [← Nat.add_assoc, cnB, cnB_add f m n, cnB]; omega
theorem cnB_ext {f g : Nat → Bool} : ∀ n, (∀ j, j < n → f j = g j) → cnB f n = cnB g n
  | 0, _ => rfl
  | n + 1, h => by rw [cnB, cnB, cnB_ext n (fun j hj => h j (by omega)), h n (by omega)]
theorem cn_byte (x n : Nat) : cnB (fun j => x.testBit j) (8 + n) = cnB (fun j => (x % 256).testBit j) 8 + cnB (fun j => (x / 256).testBit j) n := by
  rw [cnB_add]
  congr 1
  · apply cnB_ext
    intro j hj
    rw [show (256 : Nat) = 2 ^ 8 from rfl, Nat.testBit_mod_two_pow]; simp [hj]
  · apply cnB_ext
    intro j hj
    rw [show (256 : Nat) = 2 ^ 8 from rfl, Nat.testBit_div_two_pow]
    congr 1; omega
/-- The sum of all eight bytes. -/
theorem pop_sum (x : Nat) : cnB (fun j => x.testBit j) 64 = cnB (fun j => (x % 256).testBit j) 8 + (cnB (fun j => (x / 256 % 256).testBit j) 8 + (cnB (fun j => (x / 256 / 256 % 256).testBit j) 8 + (cnB (fun j => (x / 256 / 256 / 256 % 256).testBit j) 8
    + (cnB (fun j => (x / 256 / 256 / 256 / 256 % 256).testBit j) 8 + (cnB (fun j => (x / 256 / 256 / 256 / 256 / 256 % 256).testBit j) 8 + (cnB (fun j => (x / 256 / 256 / 256 / 256 / 256 / 256 % 256).testBit j) 8 + cnB (fun j => (x / 256 / 256 / 256 / 256 / 256 / 256 / 256 % 256).testBit j) 8)))))) := by
  have h := cn_byte
  rw [show (64 : Nat) = 8 + 56 from rfl, h, show (56 : Nat) = 8 + 48 from rfl, h, show (48 : Nat) = 8 + 40 from rfl, h, show (40 : Nat) = 8 + 32 from rfl, h, show (32 : Nat) = 8 + 24 from rfl, h, show (24 : Nat) = 8 + 16 from rfl, h, show (16 : Nat) = 8 + 8 from rfl, h]
  have h8 := h (x / 256 / 256 / 256 / 256 / 256 / 256 / 256) 0
  rw [Nat.add_zero] at h8
  rw [h8]
  simp [cnB]
def pD (c : Nat) : Nat := c + c / 256
def pE (c : Nat) : Nat := c + c / 65536
def pF (c : Nat) : Nat := c + c / 4294967296
theorem pD_at {a0 a1 a2 a3 a4 a5 a6 a7 : Nat} (h0 : a0 ≤ 8) (h1 : a1 ≤ 8) (h2 : a2 ≤ 8) (h3 : a3 ≤ 8) (h4 : a4 ≤ 8) (h5 : a5 ≤ 8) (h6 : a6 ≤ 8) (h7 : a7 ≤ 8) : pD (a0 + 256 * (a1 + 256 * (a2 + 256 * (a3 + 256 * (a4 + 256 * (a5 + 256 * (a6 + 256 * (a7)))))))) = (a0 + a1) + 256 * ((a1 + a2) + 256 * ((a2 + a3) + 256 * ((a3 + a4) + 256 * ((a4 + a5) + 256 * ((a5 + a6) + 256 * ((a6 + a7) + 256 * (a7))))))) := by
  unfold pD
  have e : (a0 + 256 * (a1 + 256 * (a2 + 256 * (a3 + 256 * (a4 + 256 * (a5 + 256 * (a6 + 256 * (a7)))))))) / 256 = a1 + 256 * (a2 + 256 * (a3 + 256 * (a4 + 256 * (a5 + 256 * (a6 + 256 * (a7)))))) := by
    apply Nat.div_eq_of_lt_le <;> omega
  rw [e]
  omega
theorem pE_at {a0 a1 a2 a3 a4 a5 a6 a7 : Nat} (h0 : a0 ≤ 16) (h1 : a1 ≤ 16) (h2 : a2 ≤ 16) (h3 : a3 ≤ 16) (h4 : a4 ≤ 16) (h5 : a5 ≤ 16) (h6 : a6 ≤ 16) (h7 : a7 ≤ 16) : pE (a0 + 256 * (a1 + 256 * (a2 + 256 * (a3 + 256 * (a4 + 256 * (a5 + 256 * (a6 + 256 * (a7)))))))) = (a0 + a2) + 256 * ((a1 + a3) + 256 * ((a2 + a4) + 256 * ((a3 + a5) + 256 * ((a4 + a6) + 256 * ((a5 + a7) + 256 * (a6 + 256 * (a7))))))) := by
  unfold pE
  have e : (a0 + 256 * (a1 + 256 * (a2 + 256 * (a3 + 256 * (a4 + 256 * (a5 + 256 * (a6 + 256 * (a7)))))))) / 65536 = a2 + 256 * (a3 + 256 * (a4 + 256 * (a5 + 256 * (a6 + 256 * (a7))))) := by
    apply Nat.div_eq_of_lt_le <;> omega
  rw [e]
  omega
theorem pF_at {a0 a1 a2 a3 a4 a5 a6 a7 : Nat} (h0 : a0 ≤ 32) (h1 : a1 ≤ 32) (h2 : a2 ≤ 32) (h3 : a3 ≤ 32) (h4 : a4 ≤ 32) (h5 : a5 ≤ 32) (h6 : a6 ≤ 32) (h7 : a7 ≤ 32) : pF (a0 + 256 * (a1 + 256 * (a2 + 256 * (a3 + 256 * (a4 + 256 * (a5 + 256 * (a6 + 256 * (a7)))))))) = (a0 + a4) + 256 * ((a1 + a5) + 256 * ((a2 + a6) + 256 * ((a3 + a7) + 256 * (a4 + 256 * (a5 + 256 * (a6 + 256 * (a7))))))) := by
  unfold pF
  have e : (a0 + 256 * (a1 + 256 * (a2 + 256 * (a3 + 256 * (a4 + 256 * (a5 + 256 * (a6 + 256 * (a7)))))))) / 4294967296 = a4 + 256 * (a5 + 256 * (a6 + 256 * (a7))) := by
    apply Nat.div_eq_of_lt_le <;> omega
  rw [e]
  omega
theorem pop_all (x : Nat) (hx : x < 18446744073709551616) : pF (pE (pD (pC 8 (pB 8 (pA 8 x))))) % 128 = cnB (fun j => x.testBit j) 64 ∧ pF (pE (pD (pC 8 (pB 8 (pA 8 x))))) < 9223372036854775808 := by
  rw [(pAll 8 x (by omega)).1, pop_sum]
  have l := fun y => cnB_le (fun j => (y % 256).testBit j) 8
  have l0 := l x
  have l1 := l (x / 256)
  have l2 := l (x / 256 / 256)
  have l3 := l (x / 256 / 256 / 256)
  have l4 := l (x / 256 / 256 / 256 / 256)
  have l5 := l (x / 256 / 256 / 256 / 256 / 256)
  have l6 := l (x / 256 / 256 / 256 / 256 / 256 / 256)
  have l7 := l (x / 256 / 256 / 256 / 256 / 256 / 256 / 256)
  simp only [byC]
  generalize cnB (fun j => (x % 256).testBit j) 8 = c0 at *
  generalize cnB (fun j => (x / 256 % 256).testBit j) 8 = c1 at *
  generalize cnB (fun j => (x / 256 / 256 % 256).testBit j) 8 = c2 at *
  generalize cnB (fun j => (x / 256 / 256 / 256 % 256).testBit j) 8 = c3 at *
  generalize cnB (fun j => (x / 256 / 256 / 256 / 256 % 256).testBit j) 8 = c4 at *
  generalize cnB (fun j => (x / 256 / 256 / 256 / 256 / 256 % 256).testBit j) 8 = c5 at *
  generalize cnB (fun j => (x / 256 / 256 / 256 / 256 / 256 / 256 % 256).testBit j) 8 = c6 at *
  generalize cnB (fun j => (x / 256 / 256 / 256 / 256 / 256 / 256 / 256 % 256).testBit j) 8 = c7 at *
  clear l
  rw [show c0 + 256 * (c1 + 256 * (c2 + 256 * (c3 + 256 * (c4 + 256 * (c5 + 256 * (c6 + 256 * (c7 + 256 * 0))))))) = c0 + 256 * (c1 + 256 * (c2 + 256 * (c3 + 256 * (c4 + 256 * (c5 + 256 * (c6 + 256 * c7)))))) by omega]
  rw [pD_at l0 l1 l2 l3 l4 l5 l6 l7, pE_at (by omega) (by omega) (by omega) (by omega) (by omega) (by omega) (by omega) (by omega), pF_at (by omega) (by omega) (by omega) (by omega) (by omega) (by omega) (by omega) (by omega)]
  generalize hS : c0 + c1 + (c2 + c3) + (c4 + c5 + (c6 + c7)) = S
  constructor <;> omega

end Go.Proofs.Ytkemdiefoohdjaa
