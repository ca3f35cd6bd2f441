/- Plain facts: places that a word covers, as tests and as a number of bits. -/
import Derived.Test.YtfipbnognjepkaaGreatDoorPlacesPlain
import Derived.Test.YtfipbnognjepkaaGreatDoorGapPlain
namespace Go.Proofs.YtfipbnognjepkaaGreatDoor
set_option linter.unusedVariables false
set_option linter.unusedSimpArgs false
open Go.RowKit

/-- Does u cover the place j from the place i? -/
def cvAt (x u : ByteArray) (i j : Nat) : Bool := decide (x.extract i (i + u.size) = u) && (decide (i ≤ j) && decide (j < i + u.size))
/-- Does u cover the place j of x? -/
def cvB (x u : ByteArray) (j : Nat) : Bool := (List.range (x.size + 1 - u.size)).any fun i => cvAt x u i j
/-- m bits from the bit i on. -/
def mskF (i m : Nat) : Nat := 2 ^ i * (2 ^ m - 1)
theorem mskF_bit (i m j : Nat) : (mskF i m).testBit j = (decide (i ≤ j) && decide (j < i + m)) := by
  unfold mskF
  rw [Nat.testBit_two_pow_mul, Nat.testBit_two_pow_sub_one]
  by_cases h : i ≤ j
  · simp only [h, decide_true, Bool.true_and, ge_iff_le]
    by_cases k : j < i + m
    · simp only [k, decide_true, decide_eq_true_eq]; omega
    · simp only [k, decide_false, decide_eq_false_iff_not]; omega
  · simp [h]
theorem mskF_lt {i m : Nat} {n : Nat} (h : i + m ≤ n) : mskF i m < 2 ^ n := by
  apply Nat.lt_pow_two_of_testBit
  intro j hj
  rw [mskF_bit]
  have : ¬ j < i + m := by omega
  simp [this]
/-- The bits of the places that u covers from the places told. -/
def mskOf (x u : ByteArray) (pre : List Nat) : Nat := pre.foldl (fun a i => if x.extract i (i + u.size) = u then a ||| mskF i u.size else a) 0
theorem mskOf_nil (x u : ByteArray) : mskOf x u [] = 0 := rfl
theorem mskOf_hit (x u : ByteArray) (pre : List Nat) {i : Nat} (h : x.extract i (i + u.size) = u) : mskOf x u (pre ++ [i]) = mskOf x u pre ||| mskF i u.size := by
  simp [mskOf, List.foldl_append, h]
theorem mskOf_miss (x u : ByteArray) (pre : List Nat) {i : Nat} (h : ¬ x.extract i (i + u.size) = u) : mskOf x u (pre ++ [i]) = mskOf x u pre := by
  simp [mskOf, List.foldl_append, h]
theorem msk_fold (x u : ByteArray) (j : Nat) : ∀ (pre : List Nat) (a : Nat),
    (pre.foldl (fun a i => if x.extract i (i + u.size) = u then a ||| mskF i u.size else a) a).testBit j = (a.testBit j || pre.any fun i => cvAt x u i j)
  | [], a => by simp
  | i :: pre, a => by
    rw [List.foldl_cons, msk_fold x u j pre, List.any_cons]
    by_cases h : x.extract i (i + u.size) = u
    · rw [if_pos h, Nat.testBit_or, mskF_bit, Bool.or_assoc]
      simp only [cvAt, h, decide_true, Bool.true_and]
    · rw [if_neg h]
      simp [cvAt, h]
theorem mskOf_bit (x u : ByteArray) (pre : List Nat) (j : Nat) : (mskOf x u pre).testBit j = pre.any fun i => cvAt x u i j := by
  unfold mskOf
  rw [msk_fold]
  simp
/-- The bits of the places of x that u covers. -/
def msk (x u : ByteArray) : Nat := mskOf x u (List.range (x.size + 1 - u.size))
theorem msk_bit (x u : ByteArray) (j : Nat) : (msk x u).testBit j = cvB x u j := mskOf_bit _ _ _ _
theorem cvAt_lt {x u : ByteArray} {i j : Nat} (h : cvAt x u i j = true) (hi : i < x.size + 1 - u.size) : j < x.size := by
  unfold cvAt at h
  simp only [Bool.and_eq_true, decide_eq_true_eq] at h
  omega
theorem cvB_lt {x u : ByteArray} {j : Nat} (h : cvB x u j = true) : j < x.size := by
  unfold cvB at h
  rw [List.any_eq_true] at h
  obtain ⟨i, hi, h⟩ := h
  exact cvAt_lt h (List.mem_range.1 hi)
theorem msk_lt (x u : ByteArray) : msk x u < 2 ^ x.size := by
  apply Nat.lt_pow_two_of_testBit
  intro j hj
  rw [msk_bit, Bool.eq_false_iff]
  intro h
  have := cvB_lt h
  omega
theorem mskOf_le {x u : ByteArray} {pre : List Nat} (h : ∀ i ∈ pre, i < x.size + 1 - u.size) : mskOf x u pre < 2 ^ x.size := by
  apply Nat.lt_pow_two_of_testBit
  intro j hj
  rw [mskOf_bit, Bool.eq_false_iff]
  intro h1
  rw [List.any_eq_true] at h1
  obtain ⟨i, hi, h1⟩ := h1
  have := cvAt_lt h1 (h i hi)
  omega
theorem full_iff {X n : Nat} (h : X < 2 ^ n) : X = mskF 0 n ↔ ∀ j, j < n → X.testBit j = true := by
  constructor
  · intro e j hj
    rw [e, mskF_bit]; simp [hj]
  · intro k
    apply Nat.eq_of_testBit_eq
    intro j
    rw [mskF_bit]
    by_cases hj : j < n
    · rw [k j hj]; simp [hj]
    · have : X.testBit j = false := Nat.testBit_lt_two_pow (Nat.lt_of_lt_of_le h (Nat.pow_le_pow_right (by omega) (by omega)))
      rw [this]; simp [hj]
/-- Is each place told true? -/
def allB (n : Nat) (f : Nat → Bool) : Bool := (List.range n).all f
theorem allB_iff (n : Nat) (f : Nat → Bool) : allB n f = true ↔ ∀ j, j < n → f j = true := by
  unfold allB; rw [List.all_eq_true]
  exact ⟨fun h j hj => h j (List.mem_range.2 hj), fun h j hj => h j (List.mem_range.1 hj)⟩
theorem full_eq {X n : Nat} {f : Nat → Bool} (h : X < 2 ^ n) (hf : ∀ j, X.testBit j = f j) : decide (X = mskF 0 n) = allB n f := by
  rw [Bool.eq_iff_iff, decide_eq_true_eq, full_iff h, allB_iff]
  exact ⟨fun k j hj => (hf j).symm.trans (k j hj), fun k j hj => (hf j).trans (k j hj)⟩
/-- How many of the first n places are told true? -/
def cnB (f : Nat → Bool) : Nat → Nat
  | 0 => 0
  | n + 1 => cnB f n + if f n then 1 else 0
theorem cnB_le (f : Nat → Bool) : ∀ n, cnB f n ≤ n
  | 0 => Nat.le_refl _
  | n + 1 => by have := cnB_le f n; unfold cnB; split <;> omega
theorem cnB_all (f : Nat → Bool) : ∀ n, cnB f n = n ↔ allB n f = true
  | 0 => by simp [cnB, allB]
  | n + 1 => by
    have h := cnB_all f n
    have l := cnB_le f n
    unfold cnB
    rw [allB_iff] at h ⊢
    constructor
    · intro e
      by_cases hf : f n = true
      · rw [if_pos hf] at e
        intro j hj
        by_cases hjn : j = n
        · rw [hjn]; exact hf
        · exact h.1 (by omega) j (by omega)
      · rw [if_neg hf] at e; omega
    · intro k
      rw [if_pos (k n (by omega)), h.2 (fun j hj => k j (by omega))]
theorem cnB_dec (f : Nat → Bool) (n : Nat) : decide (cnB f n = n) = allB n f := by
  rw [Bool.eq_iff_iff, decide_eq_true_eq, cnB_all]
/-- Does u, which is not empty, cover all places of x? -/
def cvAll (x u : ByteArray) : Bool := allB x.size (cvB x u)

/-! ### What the functions answer. -/
def isCoverR (x u : ByteArray) : Bool × Int := if ¬ (IsW x ∧ IsW u) then (false, 1) else if u.size = 0 then (false, 2) else (cvAll x u, 0)
theorem isCoverR_bad {x u : ByteArray} (h : ¬ (IsW x ∧ IsW u)) : isCoverR x u = (false, 1) := if_pos h
theorem isCoverR_empty {x u : ByteArray} (h : IsW x ∧ IsW u) (k : u.size = 0) : isCoverR x u = (false, 2) := by unfold isCoverR; rw [if_neg (not_not_intro h), if_pos k]
theorem isCoverR_ok {x u : ByteArray} (h : IsW x ∧ IsW u) (k : ¬ u.size = 0) : isCoverR x u = (cvAll x u, 0) := by unfold isCoverR; rw [if_neg (not_not_intro h), if_neg k]

/-- The covers of x among its first N beginnings. -/
def beg (x : ByteArray) (i : Nat) : ByteArray := x.extract 0 (i + 1)
theorem beg_size {x : ByteArray} {i : Nat} (h : i < x.size) : (beg x i).size = i + 1 := by
  unfold beg; rw [ByteArray.size_extract]; omega
theorem beg_all (x : ByteArray) (h : 0 < x.size) : beg x (x.size - 1) = x := by
  unfold beg
  rw [show x.size - 1 + 1 = x.size by omega, ByteArray.extract_zero_size]
def begs (x : ByteArray) (N : Nat) : List ByteArray := (List.range N).map (beg x)
theorem begs_succ (x : ByteArray) (N : Nat) : begs x (N + 1) = begs x N ++ [beg x N] := by simp [begs, List.range_succ]
theorem begs_len (x : ByteArray) (N : Nat) : (begs x N).length = N := by simp [begs]
def cvsL (x : ByteArray) (N : Nat) : List ByteArray := (begs x N).filter (cvAll x)
def cvs (x : ByteArray) : List ByteArray := cvsL x x.size
theorem cvsL_hit {x : ByteArray} {N : Nat} (h : cvAll x (beg x N) = true) : cvsL x (N + 1) = cvsL x N ++ [beg x N] := by
  simp [cvsL, begs_succ, List.filter_append, h]
theorem cvsL_miss {x : ByteArray} {N : Nat} (h : cvAll x (beg x N) = false) : cvsL x (N + 1) = cvsL x N := by
  simp [cvsL, begs_succ, List.filter_append, h]
theorem cvsL_len (x : ByteArray) (N : Nat) : (cvsL x N).length ≤ N := by
  have := List.length_filter_le (cvAll x) (begs x N)
  rw [begs_len] at this; exact this
theorem cv_self {x : ByteArray} (h : 0 < x.size) : cvAll x x = true := by
  unfold cvAll; rw [allB_iff]
  intro j hj
  unfold cvB; rw [List.any_eq_true]
  refine ⟨0, List.mem_range.2 (by omega), ?_⟩
  unfold cvAt
  have e : x.extract 0 (0 + x.size) = x := by rw [Nat.zero_add, ByteArray.extract_zero_size]
  simp [e, hj]
theorem cvs_self {x : ByteArray} (h : 0 < x.size) : x ∈ cvs x := by
  unfold cvs cvsL
  rw [List.mem_filter]
  refine ⟨?_, cv_self h⟩
  unfold begs
  rw [List.mem_map]
  exact ⟨x.size - 1, List.mem_range.2 (by omega), beg_all x h⟩
theorem cvs_pos {x : ByteArray} (h : 0 < x.size) : 0 < (cvs x).length := List.length_pos_of_mem (cvs_self h)
theorem cvs_nil {x : ByteArray} (h : x.size = 0) : cvs x = [] := by unfold cvs cvsL begs; rw [h]; rfl
theorem cvs_len (x : ByteArray) : (cvs x).length ≤ x.size := cvsL_len x x.size
theorem cvs_mem {x z : ByteArray} (h : z ∈ cvs x) : z.size ≤ x.size := by
  unfold cvs cvsL at h
  have h1 := (List.mem_filter.1 h).1
  unfold begs at h1
  obtain ⟨i, hi, rfl⟩ := List.mem_map.1 h1
  rw [beg_size (List.mem_range.1 hi)]
  exact List.mem_range.1 hi
def coversR (x : ByteArray) : List ByteArray × Int := if ¬ IsW x then ([], 1) else (cvs x, 0)
theorem coversR_bad {x : ByteArray} (h : ¬ IsW x) : coversR x = ([], 1) := if_pos h
theorem coversR_ok {x : ByteArray} (h : IsW x) : coversR x = (cvs x, 0) := by unfold coversR; rw [if_neg (not_not_intro h)]
theorem coversR_len (x : ByteArray) : (coversR x).1.length ≤ 4096 := by
  by_cases h : IsW x
  · rw [coversR_ok h]; have h1 := h.size; have h2 := cvs_len x; show (cvs x).length ≤ 4096; omega
  · rw [coversR_bad h]; decide
/-- The least cover. -/
def lc (x : ByteArray) : ByteArray := (cvs x).headD tE
theorem head_get {L : List ByteArray} (h : 0 < L.length) : L[0]'h = L.headD tE := by
  cases L with
  | nil => simp at h
  | cons a t => rfl
theorem lc_get {x : ByteArray} (h : 0 < x.size) : (cvs x)[0]'(cvs_pos h) = lc x := head_get _
theorem lc_le {x : ByteArray} : (lc x).size ≤ x.size := by
  by_cases h : 0 < x.size
  · rw [← lc_get h]; exact cvs_mem (List.getElem_mem _)
  · unfold lc; rw [cvs_nil (by omega)]; exact Nat.zero_le _
def leastCoverR (x : ByteArray) : ByteArray × Int := if ¬ IsW x then (tE, 1) else if x.size = 0 then (tE, 4) else (lc x, 0)
theorem leastCoverR_bad {x : ByteArray} (h : ¬ IsW x) : leastCoverR x = (⟨#[]⟩, 1) := if_pos h
theorem leastCoverR_empty {x : ByteArray} (h : IsW x) (k : x.size = 0) : leastCoverR x = (⟨#[]⟩, 4) := by unfold leastCoverR; rw [if_neg (not_not_intro h), if_pos k]; rfl
theorem leastCoverR_ok {x : ByteArray} (h : IsW x) (k : ¬ x.size = 0) : leastCoverR x = (lc x, 0) := by unfold leastCoverR; rw [if_neg (not_not_intro h), if_neg k]
def superR (x : ByteArray) : Bool × Int := if ¬ IsW x then (false, 1) else (decide ((cvs x).length = 1), 0)
theorem superR_bad {x : ByteArray} (h : ¬ IsW x) : superR x = (false, 1) := if_pos h
theorem superR_ok {x : ByteArray} (h : IsW x) : superR x = (decide ((cvs x).length = 1), 0) := by unfold superR; rw [if_neg (not_not_intro h)]
/-- The lengths of the least covers of the first N beginnings. -/
def clsL (x : ByteArray) (N : Nat) : List Int := (List.range N).map fun i => ((lc (beg x i)).size : Int)
theorem clsL_succ (x : ByteArray) (N : Nat) : clsL x (N + 1) = clsL x N ++ [((lc (beg x N)).size : Int)] := by simp [clsL, List.range_succ]
theorem clsL_len (x : ByteArray) (N : Nat) : (clsL x N).length = N := by simp [clsL]
def coverLengthsR (x : ByteArray) : List Int × Int := if ¬ IsW x then ([], 1) else (clsL x x.size, 0)
theorem coverLengthsR_bad {x : ByteArray} (h : ¬ IsW x) : coverLengthsR x = ([], 1) := if_pos h
theorem coverLengthsR_ok {x : ByteArray} (h : IsW x) : coverLengthsR x = (clsL x x.size, 0) := by unfold coverLengthsR; rw [if_neg (not_not_intro h)]
theorem coverLengthsR_len (x : ByteArray) : (coverLengthsR x).1.length ≤ 4096 := by
  by_cases h : IsW x
  · rw [coverLengthsR_ok h]; have h1 := h.size; show (clsL x x.size).length ≤ 4096; rw [clsL_len]; omega
  · rw [coverLengthsR_bad h]; decide
/-- The places that u does not cover. -/
def uncL (x u : ByteArray) (N : Nat) : List Int := ((List.range N).filter fun j => !cvB x u j).map Int.ofNat
theorem uncL_hit {x u : ByteArray} {N : Nat} (h : cvB x u N = true) : uncL x u (N + 1) = uncL x u N := by simp [uncL, List.range_succ, h]
theorem uncL_miss {x u : ByteArray} {N : Nat} (h : cvB x u N = false) : uncL x u (N + 1) = uncL x u N ++ [(N : Int)] := by simp [uncL, List.range_succ, h]
theorem uncL_len (x u : ByteArray) (N : Nat) : (uncL x u N).length ≤ N := by
  unfold uncL; rw [List.length_map]
  have := List.length_filter_le (fun j => !cvB x u j) (List.range N)
  rw [List.length_range] at this; exact this
def uncoveredR (x u : ByteArray) : List Int × Int := if ¬ (IsW x ∧ IsW u) then ([], 1) else if u.size = 0 then ([], 2) else (uncL x u x.size, 0)
theorem uncoveredR_bad {x u : ByteArray} (h : ¬ (IsW x ∧ IsW u)) : uncoveredR x u = ([], 1) := if_pos h
theorem uncoveredR_empty {x u : ByteArray} (h : IsW x ∧ IsW u) (k : u.size = 0) : uncoveredR x u = ([], 2) := by unfold uncoveredR; rw [if_neg (not_not_intro h), if_pos k]
theorem uncoveredR_ok {x u : ByteArray} (h : IsW x ∧ IsW u) (k : ¬ u.size = 0) : uncoveredR x u = (uncL x u x.size, 0) := by unfold uncoveredR; rw [if_neg (not_not_intro h), if_neg k]
theorem uncoveredR_len (x u : ByteArray) : (uncoveredR x u).1.length ≤ 4096 := by
  by_cases h : IsW x ∧ IsW u
  · by_cases k : u.size = 0
    · rw [uncoveredR_empty h k]; decide
    · rw [uncoveredR_ok h k]; have h1 := h.1.size; have h2 := uncL_len x u x.size; show (uncL x u x.size).length ≤ 4096; omega
  · rw [uncoveredR_bad h]; decide
/-- Is each place covered by one of two? -/
def cvTwo (x u v : ByteArray) : Bool := allB x.size fun j => cvB x u j || cvB x v j
theorem msk_two (x u v : ByteArray) (j : Nat) : (msk x u ||| msk x v).testBit j = (cvB x u j || cvB x v j) := by rw [Nat.testBit_or, msk_bit, msk_bit]
def coveredByTwoR (x u v : ByteArray) : Bool × Int := if ¬ (IsW x ∧ IsW u ∧ IsW v) then (false, 1) else if u.size = 0 ∨ v.size = 0 then (false, 2) else (cvTwo x u v, 0)
theorem coveredByTwoR_bad {x u v : ByteArray} (h : ¬ (IsW x ∧ IsW u ∧ IsW v)) : coveredByTwoR x u v = (false, 1) := if_pos h
theorem coveredByTwoR_empty {x u v : ByteArray} (h : IsW x ∧ IsW u ∧ IsW v) (k : u.size = 0 ∨ v.size = 0) : coveredByTwoR x u v = (false, 2) := by unfold coveredByTwoR; rw [if_neg (not_not_intro h), if_pos k]
theorem coveredByTwoR_ok {x u v : ByteArray} (h : IsW x ∧ IsW u ∧ IsW v) (k : ¬ (u.size = 0 ∨ v.size = 0)) : coveredByTwoR x u v = (cvTwo x u v, 0) := by unfold coveredByTwoR; rw [if_neg (not_not_intro h), if_neg k]

/-- Is the place covered from one of the first k places of a list? -/
def cvPos (L : List Int) (m k : Nat) (j : Nat) : Bool := (L.take k).any fun z => decide (z ≤ (j : Int)) && decide ((j : Int) < z + m)
theorem cvPos_zero (L : List Int) (m j : Nat) : cvPos L m 0 j = false := rfl
theorem cvPos_succ {L : List Int} {m k : Nat} (h : k < L.length) (j : Nat) : cvPos L m (k + 1) j = (cvPos L m k j || (decide (L[k] ≤ (j : Int)) && decide ((j : Int) < L[k] + m))) := by
  unfold cvPos
  rw [List.take_succ_eq_append_getElem h, List.any_append]
  simp
theorem cvPos_all (x u : ByteArray) (j : Nat) : cvPos (posOf x u (List.range (x.size + 1 - u.size))) u.size (posOf x u (List.range (x.size + 1 - u.size))).length j = cvB x u j := by
  unfold cvPos cvB
  rw [List.take_length]
  unfold posOf
  rw [List.any_map, List.any_filter]
  congr 1
  funext i
  unfold cvAt
  have e : decide ((i : Int) ≤ (j : Int)) = decide (i ≤ j) := by rw [Bool.eq_iff_iff]; simp
  have e2 : decide ((j : Int) < (i : Int) + (u.size : Int)) = decide (j < i + u.size) := by rw [Bool.eq_iff_iff, decide_eq_true_eq, decide_eq_true_eq]; omega
  show (decide _ && (decide ((i : Int) ≤ (j : Int)) && decide ((j : Int) < (i : Int) + (u.size : Int)))) = _
  rw [e, e2]
/-- The same, and the first n places behind the next one. -/
def cvPart (L : List Int) (m k : Nat) (z : Nat) (n j : Nat) : Bool := cvPos L m k j || (decide (z ≤ j) && decide (j < z + n))
theorem cvPart_zero (L : List Int) (m k z j : Nat) : cvPart L m k z 0 j = cvPos L m k j := by
  unfold cvPart
  have : (decide (z ≤ j) && decide (j < z + 0)) = false := by rw [Bool.eq_false_iff]; intro h; simp only [Bool.and_eq_true, decide_eq_true_eq] at h; omega
  rw [this, Bool.or_false]
theorem cvPart_succ (L : List Int) (m k z n : Nat) : (fun q => if q = z + n then true else cvPart L m k z n q) = cvPart L m k z (n + 1) := by
  funext j
  unfold cvPart
  by_cases h : j = z + n
  · rw [if_pos h]
    have e : (decide (z ≤ j) && decide (j < z + (n + 1))) = true := by simp only [Bool.and_eq_true, decide_eq_true_eq]; omega
    rw [e, Bool.or_true]
  · rw [if_neg h]
    congr 1
    rw [Bool.eq_iff_iff]
    simp only [Bool.and_eq_true, decide_eq_true_eq]
    omega
theorem cvPart_all {L : List Int} {m k z : Nat} (h : k < L.length) (e : L[k] = (z : Int)) : cvPart L m k z m = cvPos L m (k + 1) := by
  funext j
  rw [cvPos_succ h, cvPart, e]
  congr 1
  rw [Bool.eq_iff_iff]
  simp only [Bool.and_eq_true, decide_eq_true_eq]
  omega

end Go.Proofs.YtfipbnognjepkaaGreatDoor
