/- The walk of the law on borders, periods and roots. -/
import Derived.Test.YtlaefpmfbnldfabFnPerPlain
import Derived.Test.YtlaefpmfbnldfabLike
import Derived.Test.YtlaefpmfbnldfabDrawRoot
import Derived.Test.YtlaefpmfbnldfabPeriods
import Derived.Test.YtlaefpmfbnldfabExp
import Derived.Test.YtlaefpmfbnldfabCountT
import Derived.Test.YtlaefpmfbnldfabPower
namespace Go.Proofs.Ytlaefpmfbnldfab
set_option linter.unusedVariables false
set_option linter.unusedSimpArgs false
open Go.RowKit

theorem wf_in {k : Int} (h0 : 0 ≤ k) (h1 : k ≤ 1000000) : (Lit.int .i64 k).wf = true := by
  simp [Lit.wf, IntKind.min, IntKind.max, IntKind.signed, IntKind.bits]
  omega

/-- What the law asks of the answers, put together. -/
structure PerAns (x r : ByteArray) (k c1 : Int) (L : List Int) (cp : Int) (M : List Int) (cb n p c2 : Int) (t : ByteArray) (j c3 u c4 : Int) : Prop where
  codes : cp = 0 ∧ cb = 0 ∧ c2 = 0 ∧ c3 = 0 ∧ c4 = 0
  len : 0 < L.length ∧ L.length = M.length ∧ L.length ≤ 60
  head : ∀ z, L[0]? = some z → n * z = p * (x.size : Int) ∧ 0 ≤ z ∧ z ≤ 60
  np : 0 ≤ n ∧ n ≤ 60 ∧ 0 ≤ p ∧ p ≤ 60
  sum : ∀ i (h : i < L.length) (h2 : M.length - 1 - i < M.length), L[i]'h + M[M.length - 1 - i]'h2 = x.size
  small : ∀ z ∈ L, 0 ≤ z ∧ z ≤ 60
  smallM : ∀ z ∈ M, 0 ≤ z ∧ z ≤ 60
  power : powR r k = (x, 0)
  kk : 0 ≤ k ∧ k ≤ 60
  jj : 0 ≤ j ∧ j ≤ 60
  turn : turnR x j = (t, 0)
  count : u = r.size
  rs : r.size ≤ 60

theorem lt_idx {x : ByteArray} (h : IsW x) : (ltF x (List.range (max 1 x.size))).2 ≤ x.size := by
  obtain ⟨i1, i2⟩ := ltF_inv x (List.range (max 1 x.size)) (x, 0) (turned_zero x).symm
  rcases i2 with i2 | i2
  · show (List.foldl (ltS x) (x, 0) (List.range (max 1 x.size))).2 ≤ _
    rw [i2]; exact Nat.zero_le _
  · have := List.mem_range.1 i2
    show (List.foldl (ltS x) (x, 0) (List.range (max 1 x.size))).2 ≤ _
    omega

theorem per_good {x : ByteArray} (h : IsW x) (h0 : ¬ x.size = 0) :
    PerAns x (x.extract 0 (rl (bl x))) ((x.size / rl (bl x) : Nat) : Int) 0 (persR (bl x) x.size) 0 (bordsR (bl x) x.size) 0 ((x.size / Nat.gcd x.size (lp (bl x)) : Nat) : Int) ((lp (bl x) / Nat.gcd x.size (lp (bl x)) : Nat) : Int) 0
      (ltF x (List.range (max 1 x.size))).1 ((ltF x (List.range (max 1 x.size))).2 : Int) 0 (countU x : Int) 0 := by
  have h60 := h.size
  have hpos : 0 < x.size := by omega
  have hne := bl_ne hpos
  have hl := lp_ok hne
  have hl2 := hl.2.1
  rw [bl_len] at hl2
  have r1 := rl_le hne
  rw [bl_len] at r1
  obtain ⟨t, ht⟩ := pers_head hne
  have hd1 := Nat.div_le_self x.size (Nat.gcd x.size (lp (bl x)))
  have hd2 := Nat.div_le_self (lp (bl x)) (Nat.gcd x.size (lp (bl x)))
  have hd3 := Nat.div_le_self x.size (rl (bl x))
  have hj := lt_idx h
  have pl := persR_len (bl x) x.size
  have bp := bords_pers_len (bl x)
  rw [bl_len] at bp ht
  refine ⟨⟨rfl, rfl, rfl, rfl, rfl⟩, ⟨by rw [ht]; simp, bp.symm, by omega⟩, ?_, ⟨Int.natCast_nonneg _, by omega, Int.natCast_nonneg _, by omega⟩, ?_, ?_, ?_, root_power h hpos, ⟨Int.natCast_nonneg _, by omega⟩, ⟨by omega, by omega⟩, least_turn h, ?_, by simp; omega⟩
  · intro z hz
    rw [ht] at hz
    obtain rfl : (lp (bl x) : Int) = z := by simpa using hz
    exact ⟨exp_cross _ _ hpos, by omega, by omega⟩
  · intro i hi h2
    exact bords_pers_get (bl x) i hi
  · intro z hz
    have := persR_mem hz
    omega
  · intro z hz
    have := bordsR_mem hz
    omega
  · show (countU x : Int) = _
    unfold countU
    rw [if_neg h0]
    simp
    omega

theorem per_case (x : ByteArray) : ((rootR x).2.2 ≠ 0 ∧ (rootR x).1 = ⟨#[]⟩ ∧ (expR x).2.2 = (rootR x).2.2) ∨
    ((rootR x).2.2 = 0 ∧ PerAns x (rootR x).1 (rootR x).2.1 (rootR x).2.2 (periodsR x).1 (periodsR x).2 (bordersR x).1 (bordersR x).2 (expR x).1 (expR x).2.1 (expR x).2.2 (ltR x).1 (ltR x).2.1 (ltR x).2.2 (countTR x).1 (countTR x).2) := by
  by_cases h : IsW x
  · by_cases h0 : x.size = 0
    · left
      rw [rootR_nil h h0, expR_nil h h0]
      exact ⟨by decide, rfl, rfl⟩
    · right
      rw [rootR_ok h h0, expR_ok h h0, periodsR_ok h, bordersR_ok h, ltR_ok h, countTR_ok h]
      exact ⟨rfl, per_good h h0⟩
  · left
    rw [rootR_bad h, expR_bad h]
    exact ⟨by decide, rfl, rfl⟩

end Go.Proofs.Ytlaefpmfbnldfab
