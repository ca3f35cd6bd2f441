/- Plain facts: how often letters stand in words and in their images. -/
import Derived.Test.YtddfdciohnabbabGrowPlain
namespace Go.Proofs.Ytddfdciohnabbab
set_option linter.unusedVariables false
set_option linter.unusedSimpArgs false
open Go.RowKit

/-- The sum over the first n letters: how often the letter, times how often j stands in its image. -/
def acc (I : List (List UInt8)) (v : Nat → Nat) (j : Nat) : Nat → Nat
  | 0 => 0
  | n + 1 => acc I v j n + v n * ct (I.getD n []) j
theorem acc_zero (I : List (List UInt8)) (v : Nat → Nat) (j : Nat) : acc I v j 0 = 0 := rfl
theorem acc_succ (I : List (List UInt8)) (v : Nat → Nat) (j n : Nat) : acc I v j (n + 1) = acc I v j n + v n * ct (I.getD n []) j := rfl
theorem acc_add (I : List (List UInt8)) (v u : Nat → Nat) (j : Nat) : ∀ n, acc I (fun i => v i + u i) j n = acc I v j n + acc I u j n
  | 0 => rfl
  | n + 1 => by rw [acc_succ, acc_succ, acc_succ, acc_add I v u j n, Nat.add_mul]; omega
theorem acc_none (I : List (List UInt8)) (v : Nat → Nat) (j : Nat) : ∀ n, (∀ i, i < n → v i = 0) → acc I v j n = 0
  | 0, _ => rfl
  | n + 1, h => by rw [acc_succ, acc_none I v j n (fun i hi => h i (by omega)), h n (by omega), Nat.zero_mul]
theorem acc_one (I : List (List UInt8)) (v : Nat → Nat) (j i0 : Nat) : ∀ n, i0 < n → (∀ i, i < n → v i = if i0 = i then 1 else 0) → acc I v j n = ct (I.getD i0 []) j
  | 0, h, _ => by omega
  | n + 1, h, hv => by
    rw [acc_succ, hv n (by omega)]
    by_cases e : i0 = n
    · subst e
      rw [if_pos rfl, Nat.one_mul, acc_none I v j i0 (fun i hi => by rw [hv i (by omega), if_neg (by omega)]), Nat.zero_add]
    · rw [if_neg e, Nat.zero_mul, Nat.add_zero]
      exact acc_one I v j i0 n (by omega) (fun i hi => hv i (by omega))
theorem acc_congr (I : List (List UInt8)) (v u : Nat → Nat) (j : Nat) : ∀ n, (∀ i, i < n → v i = u i) → acc I v j n = acc I u j n
  | 0, _ => rfl
  | n + 1, h => by rw [acc_succ, acc_succ, acc_congr I v u j n (fun i hi => h i (by omega)), h n (by omega)]
/-- Counts of an image. -/
theorem acc_img {I : List (List UInt8)} (g : Mor I) (j : Nat) : ∀ (l : List UInt8), lets I l → acc I (ct l) j I.length = ct (imgOf I l) j
  | [], _ => by rw [acc_none I _ j _ (fun i _ => ct_nil i), imgOf_nil, ct_nil]
  | c :: l, h => by
    have hc := h c (List.mem_cons_self ..)
    have h5 := g.len5
    have e1 : imgOf I (c :: l) = img I c ++ imgOf I l := rfl
    rw [e1, ct_app, ← acc_img g j l (fun x hx => h x (List.mem_cons_of_mem _ hx))]
    rw [acc_congr I (ct (c :: l)) (fun i => ct [c] i + ct l i) j _ (fun i _ => ct_cons c l i), acc_add]
    congr 1
    have := acc_one I (ct [c]) j (c.toNat - 97) I.length hc.2 (fun i hi => by
      have e2 : c = letr (c.toNat - 97) := (letr_of hc.1).symm
      conv => lhs; rw [e2]
      exact ct_one (by omega) (by omega))
    rw [this]
    rfl
theorem acc_mono (I : List (List UInt8)) (v : Nat → Nat) (j : Nat) {n m : Nat} (h : n ≤ m) : acc I v j n ≤ acc I v j m := by
  obtain ⟨d, rfl⟩ : ∃ d, m = n + d := ⟨m - n, by omega⟩
  clear h
  induction d with
  | zero => exact Nat.le_refl _
  | succ d ih => rw [show n + (d + 1) = n + d + 1 by omega, acc_succ]; omega

/-- The lengths of iterates. -/
def lensL (I : List (List UInt8)) (a : UInt8) (k : Nat) : List Int := (List.range (k + 1)).map fun i => ((hk I i [a]).length : Int)
theorem lensL_len (I : List (List UInt8)) (a : UInt8) (k : Nat) : (lensL I a k).length = k + 1 := by simp [lensL]
theorem lensL_snoc (I : List (List UInt8)) (a : UInt8) (k : Nat) : lensL I a (k + 1) = lensL I a k ++ [((hk I (k + 1) [a]).length : Int)] := by
  unfold lensL
  rw [List.range_succ (n := k + 1), List.map_append]
  rfl
def big15 : Nat := 1000000000000000
def lenOver (I : List (List UInt8)) (a : UInt8) (k : Nat) : Prop := ∃ i, i < k + 1 ∧ big15 < (hk I i [a]).length
def lenTo (I : List (List UInt8)) (a : UInt8) (k : Nat) : Prop := ∀ i, i < k + 1 → (hk I i [a]).length ≤ big15
theorem lenTo.succ {I : List (List UInt8)} {a : UInt8} {k : Nat} (h : lenTo I a k) (h2 : (hk I (k + 1) [a]).length ≤ big15) : lenTo I a (k + 1) := by
  intro i hi
  by_cases e : i = k + 1
  · subst e; exact h2
  · exact h i (by omega)
theorem lenTo.not {I : List (List UInt8)} {a : UInt8} {k : Nat} (h : lenTo I a k) : ¬ lenOver I a k := by
  rintro ⟨i, hi, hb⟩
  have := h i hi
  omega
noncomputable instance (I : List (List UInt8)) (a : UInt8) (k : Nat) : Decidable (lenOver I a k) := Classical.propDecidable _
noncomputable def lensR (I : List (List UInt8)) (q k : Int) : List Int × Int :=
  if ¬ Mor I then ([], 1) else if q < 0 ∨ (I.length : Int) ≤ q ∨ k < 0 ∨ 20 < k then ([], 2) else if lenOver I (letr q.toNat) k.toNat then ([], 3) else (lensL I (letr q.toNat) k.toNat, 0)
theorem lensR_bad {I : List (List UInt8)} {q k : Int} (h : ¬ Mor I) : lensR I q k = ([], 1) := if_pos h
theorem lensR_out {I : List (List UInt8)} {q k : Int} (h : Mor I) (hq : q < 0 ∨ (I.length : Int) ≤ q ∨ k < 0 ∨ 20 < k) : lensR I q k = ([], 2) := by
  unfold lensR; rw [if_neg (not_not_intro h), if_pos hq]
theorem lensR_over {I : List (List UInt8)} {q k : Nat} (h : Mor I) (hq : q < I.length) (hk' : k ≤ 20) (ho : lenOver I (letr q) k) : lensR I (q : Int) (k : Int) = ([], 3) := by
  unfold lensR; rw [if_neg (not_not_intro h), if_neg (by omega)]; simp only [Int.toNat_natCast]; rw [if_pos ho]
theorem lensR_ok {I : List (List UInt8)} {q k : Nat} (h : Mor I) (hq : q < I.length) (hk' : k ≤ 20) (ho : lenTo I (letr q) k) : lensR I (q : Int) (k : Int) = (lensL I (letr q) k, 0) := by
  unfold lensR; rw [if_neg (not_not_intro h), if_neg (by omega)]; simp only [Int.toNat_natCast]; rw [if_neg ho.not]
theorem lensR_len (I : List (List UInt8)) (q k : Int) : (lensR I q k).1.length ≤ 4096 := by
  unfold lensR
  split
  · simp
  · split
    · simp
    · split
      · simp
      · simp [lensL]; omega
end Go.Proofs.Ytddfdciohnabbab
