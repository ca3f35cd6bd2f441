/- What the functions of periods answer. -/
import Derived.Test.YtfipbnognjepkaaGreatDoorRotPlain
namespace Go.Proofs.YtfipbnognjepkaaGreatDoor
set_option linter.unusedVariables false
set_option linter.unusedSimpArgs false

def bordersR (x : ByteArray) : List Int × Int := if ¬ IsW x then ([], 1) else (bordsR (bl x) x.size, 0)
theorem bordersR_bad {x : ByteArray} (h : ¬ IsW x) : bordersR x = ([], 1) := if_pos h
theorem bordersR_ok {x : ByteArray} (h : IsW x) : bordersR x = (bordsR (bl x) x.size, 0) := by unfold bordersR; rw [if_neg (not_not_intro h)]
theorem bordersR_len (x : ByteArray) : (bordersR x).1.length ≤ 4096 := by
  by_cases h : IsW x
  · rw [bordersR_ok h]; have h1 := h.size; have h2 := bordsR_len (bl x) x.size; show (bordsR (bl x) x.size).length ≤ 4096; omega
  · rw [bordersR_bad h]; decide
def periodsR (x : ByteArray) : List Int × Int := if ¬ IsW x then ([], 1) else (persR (bl x) x.size, 0)
theorem periodsR_bad {x : ByteArray} (h : ¬ IsW x) : periodsR x = ([], 1) := if_pos h
theorem periodsR_ok {x : ByteArray} (h : IsW x) : periodsR x = (persR (bl x) x.size, 0) := by unfold periodsR; rw [if_neg (not_not_intro h)]
theorem periodsR_len (x : ByteArray) : (periodsR x).1.length ≤ 4096 := by
  by_cases h : IsW x
  · rw [periodsR_ok h]; have h1 := h.size; have h2 := persR_len (bl x) x.size; show (persR (bl x) x.size).length ≤ 4096; omega
  · rw [periodsR_bad h]; decide
noncomputable def rootR (x : ByteArray) : ByteArray × Int × Int := if ¬ IsW x then (⟨#[]⟩, 0, 1) else if x.size = 0 then (⟨#[]⟩, 0, 5) else (x.extract 0 (rl (bl x)), ((x.size / rl (bl x) : Nat) : Int), 0)
theorem rootR_bad {x : ByteArray} (h : ¬ IsW x) : rootR x = (⟨#[]⟩, 0, 1) := if_pos h
theorem rootR_nil {x : ByteArray} (h : IsW x) (h0 : x.size = 0) : rootR x = (⟨#[]⟩, 0, 5) := by unfold rootR; rw [if_neg (not_not_intro h), if_pos h0]
theorem rootR_ok {x : ByteArray} (h : IsW x) (h0 : ¬ x.size = 0) : rootR x = (x.extract 0 (rl (bl x)), ((x.size / rl (bl x) : Nat) : Int), 0) := by unfold rootR; rw [if_neg (not_not_intro h), if_neg h0]
noncomputable def expR (x : ByteArray) : Int × Int × Int := if ¬ IsW x then (0, 0, 1) else if x.size = 0 then (0, 0, 5) else (((x.size / Nat.gcd x.size (lp (bl x)) : Nat) : Int), ((lp (bl x) / Nat.gcd x.size (lp (bl x)) : Nat) : Int), 0)
theorem expR_bad {x : ByteArray} (h : ¬ IsW x) : expR x = (0, 0, 1) := if_pos h
theorem expR_nil {x : ByteArray} (h : IsW x) (h0 : x.size = 0) : expR x = (0, 0, 5) := by unfold expR; rw [if_neg (not_not_intro h), if_pos h0]
theorem expR_ok {x : ByteArray} (h : IsW x) (h0 : ¬ x.size = 0) : expR x = (((x.size / Nat.gcd x.size (lp (bl x)) : Nat) : Int), ((lp (bl x) / Nat.gcd x.size (lp (bl x)) : Nat) : Int), 0) := by unfold expR; rw [if_neg (not_not_intro h), if_neg h0]
def dlenR (p q : Int) : Int × Int := if p < 1 ∨ q < 1 ∨ 1000000 < p ∨ 1000000 < q then (0, 2) else (p + q - (Nat.gcd p.toNat q.toNat : Nat) - 1, 0)
theorem dlenR_bad {p q : Int} (h : p < 1 ∨ q < 1 ∨ 1000000 < p ∨ 1000000 < q) : dlenR p q = (0, 2) := if_pos h
theorem dlenR_ok {p q : Nat} (hp : 1 ≤ p) (hq : 1 ≤ q) (h1 : p ≤ 1000000) (h2 : q ≤ 1000000) : dlenR p q = ((p : Int) + q - (Nat.gcd p q : Nat) - 1, 0) := by
  unfold dlenR; rw [if_neg (by omega)]; simp
theorem suffix_per (x : ByteArray) (b : Nat) (h : b ≤ x.size) : ((bl (x.extract 0 b)).isSuffixOf (bl x)) = perT (bl x) (x.size - b) := by
  rw [Bool.eq_iff_iff, List.isSuffixOf_iff_suffix, List.suffix_iff_eq_drop, bl_take, perT, beq_iff_eq, List.length_take, bl_len, Nat.min_eq_left h, show x.size - (x.size - b) = b by omega]
  exact eq_comm
theorem rev_take_snoc {α β : Type} (P : List α) (f : α → β) (j : Nat) (h : j < P.length) : (P.reverse.take (j + 1)).map f = (P.reverse.take j).map f ++ [f (P[P.length - 1 - j]'(by omega))] := by
  rw [List.take_succ_eq_append_getElem (by rw [List.length_reverse]; exact h), List.map_append]
  simp [List.getElem_reverse]
theorem size_zero {x : ByteArray} (h : x.size = 0) : x = ⟨#[]⟩ := by
  apply ByteArray.ext
  exact Array.eq_empty_of_size_eq_zero h

end Go.Proofs.YtfipbnognjepkaaGreatDoor
