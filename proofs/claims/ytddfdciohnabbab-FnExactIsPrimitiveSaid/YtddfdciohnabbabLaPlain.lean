/- Lengths of iterates: plain facts for the walks. -/
import Derived.Test.YtddfdciohnabbabVecPlain
namespace Go.Proofs.Ytddfdciohnabbab
set_option linter.unusedVariables false
set_option linter.unusedSimpArgs false
open Go.RowKit

theorem lets_oneL {I : List (List UInt8)} (g : Mor I) {q : Nat} (hq : q < I.length) : lets I [letr q] := fun c hc => by
  rw [List.mem_singleton] at hc
  subst hc
  have := g.len5
  rw [letr_nat (by omega)]
  omega
theorem len_img {I : List (List UInt8)} (g : Mor I) {l : List UInt8} (hl : lets I l) : (imgOf I l).length ≤ 12 * l.length := by
  have h := hk_len g 1 hl
  rw [hk_succ, hk_zero, Nat.pow_one] at h
  exact h
theorem acc_hkL {I : List (List UInt8)} (g : Mor I) {a : UInt8} (ha : lets I [a]) (k j : Nat) : acc I (ct (hk I k [a])) j I.length = ct (hk I (k + 1) [a]) j := by
  rw [acc_img g j _ (hk_lets g k ha), hk_succ]
theorem acc_len {I : List (List UInt8)} (g : Mor I) {a : UInt8} (ha : lets I [a]) {k : Nat} (h : (hk I k [a]).length ≤ big15) (j : Nat) : acc I (ct (hk I k [a])) j I.length ≤ 4000000000000000000 := by
  rw [acc_img g j _ (hk_lets g k ha)]
  have h1 := ct_le (imgOf I (hk I k [a])) j
  have h2 := len_img g (hk_lets g k ha)
  unfold big15 at h
  omega
theorem len_next {I : List (List UInt8)} (g : Mor I) {a : UInt8} (ha : lets I [a]) {k : Nat} (h : (hk I k [a]).length ≤ big15) : (hk I (k + 1) [a]).length ≤ 12000000000000000 := by
  rw [hk_succ]
  have h2 := len_img g (hk_lets g k ha)
  unfold big15 at h
  omega
theorem sct_hk {I : List (List UInt8)} (g : Mor I) {a : UInt8} (ha : lets I [a]) (k : Nat) : sct (hk I k [a]) 5 = (hk I k [a]).length :=
  sct_all (by omega) _ fun c hc => by
    have h := hk_lets g k ha c hc
    have := g.len5
    omega
theorem sct_le {l : List UInt8} (hl : sct l 5 = l.length) {n : Nat} (hn : n ≤ 5) : sct l n ≤ l.length := by
  rw [← hl]
  have h : ∀ m, sct l n ≤ sct l (n + m) := fun m => by
    induction m with
    | zero => exact Nat.le_refl _
    | succ m ih => rw [← Nat.add_assoc, sct_succ]; omega
  have := h (5 - n)
  rwa [show n + (5 - n) = 5 by omega] at this
theorem lenTo.zero (I : List (List UInt8)) (a : UInt8) : lenTo I a 0 := fun i hi => by
  rw [show i = 0 by omega, hk_zero]
  show 1 ≤ big15
  unfold big15
  omega
theorem lens_zero (I : List (List UInt8)) (a : UInt8) : lensL I a 0 = [1] := rfl
theorem lenTo.over {I : List (List UInt8)} {a : UInt8} {k n : Nat} (h : big15 < (hk I (k + 1) [a]).length) (hk : k + 1 ≤ n) : lenOver I a n := ⟨k + 1, by omega, h⟩
end Go.Proofs.Ytddfdciohnabbab
