/- Plain facts: stepped words, words of slopes, paths of slopes. -/
import Derived.Test.YtddfdciohnabbaaCtPlain
import Derived.Test.YtddfdciohnabbaaNamedPlain
import Derived.Test.YtddfdciohnabbaaWordOfPlain
namespace Go.Proofs.Ytddfdciohnabbaa
set_option linter.unusedVariables false
set_option linter.unusedSimpArgs false
open Go.RowKit

/-- The number of letters b ahead of a place. -/
def stq (a b c i : Nat) : Nat := (i * a + c) / b
theorem stq_le (a b c i : Nat) : stq a b c i ≤ stq a b c (i + 1) := by
  unfold stq
  apply Nat.div_le_div_right
  rw [Nat.succ_mul]
  omega
theorem stq_step {a b c i : Nat} (h : a ≤ b) (hb : 0 < b) : stq a b c (i + 1) ≤ stq a b c i + 1 := by
  unfold stq
  rw [← Nat.add_div_right _ hb]
  apply Nat.div_le_div_right
  rw [Nat.succ_mul]
  omega
def std (a b c i : Nat) : Nat := stq a b c (i + 1) - stq a b c i
theorem std_le {a b c i : Nat} (h : a ≤ b) (hb : 0 < b) : std a b c i ≤ 1 := by
  unfold std
  have := stq_step (i := i) (c := c) h hb
  omega
def stl (a b c i : Nat) : UInt8 := if std a b c i = 0 then 97 else 98
theorem stl_a {a b c i : Nat} (h : std a b c i = 0) : stl a b c i = 97 := if_pos h
theorem stl_b {a b c i : Nat} (h : std a b c i ≠ 0) : stl a b c i = 98 := if_neg h
theorem std_same {a b c i : Nat} : std a b c i = 0 ↔ ((i + 1) * a + c) / b = (i * a + c) / b := by
  have := stq_le a b c i
  unfold std stq at *
  omega
def stW (a b c n : Nat) : List UInt8 := (List.range n).map (stl a b c)
theorem stW_len (a b c n : Nat) : (stW a b c n).length = n := by simp [stW]
theorem stW_zero (a b c : Nat) : stW a b c 0 = [] := rfl
theorem stW_succ (a b c n : Nat) : stW a b c (n + 1) = stW a b c n ++ [stl a b c n] := by simp [stW, List.range_succ]
theorem stW_mem {a b c n : Nat} : ∀ x ∈ stW a b c n, x = 97 ∨ x = 98 := by
  intro x hx
  obtain ⟨i, _, rfl⟩ := List.mem_map.1 hx
  unfold stl
  split
  · exact .inl rfl
  · exact .inr rfl
theorem runeCells_stl {a b c i : Nat} (h : a ≤ b) (hb : 0 < b) : Lib.runeCells (97 + (std a b c i : Int)) = Lib.byteCells [stl a b c i] := by
  have h1 := std_le (i := i) (c := c) h hb
  rw [runeCells_letter (by omega) (by omega)]
  congr 2
  by_cases h0 : std a b c i = 0
  · rw [stl_a h0, h0]; rfl
  · rw [stl_b h0, show std a b c i = 1 by omega]; rfl
/-- What the program reckons at a place. -/
theorem std_int {a b c i : Nat} : (((i : Int) + 1) * a + c) / b - ((i : Int) * a + c) / b = (std a b c i : Int) := by
  have h := stq_le a b c i
  have e1 : (((i : Int) + 1) * a + c) / b = (stq a b c (i + 1) : Int) := by unfold stq; norm_cast
  have e2 : ((i : Int) * a + c) / b = (stq a b c i : Int) := by unfold stq; norm_cast
  rw [e1, e2]
  unfold std
  omega
theorem mul_int (i a : Nat) : (i : Int) * (a : Int) = ((i * a : Nat) : Int) := (Int.natCast_mul _ _).symm
theorem stq_int {a b c i : Nat} : ((i : Int) * a + c) / b = (stq a b c i : Int) := by unfold stq; norm_cast
theorem stq_top {a b c i : Nat} : stq a b c i ≤ i * a + c := Nat.div_le_self _ _

/-- Two numbers of at least a number, without a common divisor. -/
def slo (p q low : Int) : Bool := decide (low ≤ p ∧ low ≤ q ∧ p ≤ 1000 ∧ q ≤ 1000 ∧ Nat.gcd p.toNat q.toNat = 1)
theorem slo_yes {p q : Nat} {low : Int} (h1 : low ≤ p) (h2 : low ≤ q) (h3 : p ≤ 1000) (h4 : q ≤ 1000) (h : Nat.gcd p q = 1) : slo p q low = true := by
  unfold slo
  rw [decide_eq_true_eq]
  exact ⟨h1, h2, by omega, by omega, h⟩
theorem slo_of {p q low : Int} (h0 : 0 ≤ low) (h : slo p q low = true) : ∃ a b : Nat, p = a ∧ q = b ∧ low ≤ a ∧ low ≤ b ∧ a ≤ 1000 ∧ b ≤ 1000 ∧ Nat.gcd a b = 1 := by
  unfold slo at h
  rw [decide_eq_true_eq] at h
  obtain ⟨h1, h2, h3, h4, h5⟩ := h
  refine ⟨p.toNat, q.toNat, by omega, by omega, by omega, by omega, by omega, by omega, h5⟩
/-- The word of two numbers. -/
def sloW (p q : Nat) : List UInt8 := stW q (p + q) 0 (p + q)
theorem sloW_len (p q : Nat) : (sloW p q).length = p + q := stW_len ..
def wosR (p q : Int) : ByteArray × Int := if slo p q 0 = false then (tE, 2) else if 60 < p + q then (tE, 3) else (bt (sloW p.toNat q.toNat), 0)
def cenW (p q : Nat) : List UInt8 := ((sloW p q).take (p + q - 1)).drop 1
def cenR (p q : Int) : ByteArray × Int := if slo p q 1 = false then (tE, 2) else if 62 < p + q then (tE, 3) else (bt (cenW p.toNat q.toNat), 0)
theorem wosR_no {p q : Int} (h : slo p q 0 = false) : wosR p q = (tE, 2) := if_pos h
theorem wosR_long {p q : Int} (h : slo p q 0 = true) (hl : 60 < p + q) : wosR p q = (tE, 3) := by unfold wosR; rw [if_neg (by simp [h]), if_pos hl]
theorem wosR_ok {p q : Nat} (h : slo p q 0 = true) (hl : p + q ≤ 60) : wosR p q = (bt (sloW p q), 0) := by unfold wosR; rw [if_neg (by simp [h]), if_neg (by omega)]; rfl
theorem cenR_no {p q : Int} (h : slo p q 1 = false) : cenR p q = (tE, 2) := if_pos h
theorem cenR_long {p q : Int} (h : slo p q 1 = true) (hl : 62 < p + q) : cenR p q = (tE, 3) := by unfold cenR; rw [if_neg (by simp [h]), if_pos hl]
theorem cenR_ok {p q : Nat} (h : slo p q 1 = true) (hl : p + q ≤ 62) : cenR p q = (bt (cenW p q), 0) := by unfold cenR; rw [if_neg (by simp [h]), if_neg (by omega)]; rfl
theorem cen_cut {p q : Nat} : (bt (sloW p q)).extract 1 (p + q - 1) = bt (cenW p q) := by
  apply ByteArray.ext
  rw [ByteArray.data_extract]
  unfold cenW bt
  simp [List.extract_toArray, List.extract_eq_take_drop, List.drop_take]

/-- The stepped word, if the numbers are as told. -/
def stepR (a b c n : Int) : ByteArray × Int := if b < 1 ∨ 1000 < b ∨ a < 0 ∨ b < a ∨ c < 0 ∨ b - 1 < c ∨ n < 0 ∨ 60 < n then (tE, 2) else (bt (stW a.toNat b.toNat c.toNat n.toNat), 0)
theorem stepR_no {a b c n : Int} (h : b < 1 ∨ 1000 < b ∨ a < 0 ∨ b < a ∨ c < 0 ∨ b - 1 < c ∨ n < 0 ∨ 60 < n) : stepR a b c n = (tE, 2) := if_pos h
theorem stepR_ok {a b c n : Nat} (h1 : 1 ≤ b) (h2 : b ≤ 1000) (h3 : a ≤ b) (h4 : c < b) (h5 : n ≤ 60) : stepR a b c n = (bt (stW a b c n), 0) := if_neg (by omega)

/-- The path of two numbers, its steps back. -/
def pthF : Nat → Nat → Nat → List UInt8
  | 0, _, _ => []
  | f + 1, p, q => if p = q then [] else if p < q then 97 :: pthF f p (q - p) else 98 :: pthF f (p - q) q
theorem pthF_more : ∀ {f g p q : Nat}, 0 < p → 0 < q → p + q ≤ f → p + q ≤ g → pthF f p q = pthF g p q
  | 0, _, _, _, _, _, h, _ => by omega
  | _, 0, _, _, _, _, _, h => by omega
  | f + 1, g + 1, p, q, h1, h2, h3, h4 => by
    unfold pthF
    by_cases e : p = q
    · rw [if_pos e, if_pos e]
    · rw [if_neg e, if_neg e]
      by_cases l : p < q
      · rw [if_pos l, if_pos l, pthF_more (f := f) (g := g) (p := p) (q := q - p) h1 (by omega) (by omega) (by omega)]
      · rw [if_neg l, if_neg l, pthF_more (f := f) (g := g) (p := p - q) (q := q) (by omega) h2 (by omega) (by omega)]
def pthL (p q : Nat) : List UInt8 := pthF (p + q) p q
theorem pthL_eq (p : Nat) (h : 0 < p) : pthL p p = [] := by
  obtain ⟨n, rfl⟩ : ∃ n, p = n + 1 := ⟨p - 1, by omega⟩
  unfold pthL
  rw [show n + 1 + (n + 1) = (n + n + 1) + 1 by omega]
  unfold pthF
  rw [if_pos rfl]
theorem pthL_lt {p q : Nat} (h : 0 < p) (hl : p < q) : pthL p q = 97 :: pthL p (q - p) := by
  obtain ⟨f, hf⟩ : ∃ f, p + q = f + 1 := ⟨p + q - 1, by omega⟩
  unfold pthL
  rw [hf]
  conv => lhs; unfold pthF
  rw [if_neg (by omega), if_pos hl, pthF_more h (by omega) (by omega) (Nat.le_refl _)]
theorem pthL_gt {p q : Nat} (h : 0 < q) (hl : q < p) : pthL p q = 98 :: pthL (p - q) q := by
  obtain ⟨f, hf⟩ : ∃ f, p + q = f + 1 := ⟨p + q - 1, by omega⟩
  unfold pthL
  rw [hf]
  conv => lhs; unfold pthF
  rw [if_neg (by omega), if_neg (by omega), pthF_more (by omega) h (by omega) (Nat.le_refl _)]
def pathR (p q : Int) : ByteArray × Int := if slo p q 1 = false then (tE, 2) else if 60 < (pthL p.toNat q.toNat).length then (tE, 3) else (bt (pthL p.toNat q.toNat), 0)
theorem pathR_no {p q : Int} (h : slo p q 1 = false) : pathR p q = (tE, 2) := if_pos h
theorem pathR_long {p q : Nat} (h : slo p q 1 = true) (hl : 60 < (pthL p q).length) : pathR p q = (tE, 3) := by unfold pathR; rw [if_neg (by simp [h])]; exact if_pos hl
theorem pathR_ok {p q : Nat} (h : slo p q 1 = true) (hl : (pthL p q).length ≤ 60) : pathR p q = (bt (pthL p q), 0) := by unfold pathR; rw [if_neg (by simp [h])]; exact if_neg (by simp only [Int.toNat_natCast]; omega)

end Go.Proofs.Ytddfdciohnabbaa
