/- Plain facts: seeds of words, pairs of words that cover, words grown by a cover. -/
import Derived.Test.YtfipbnognjepkaaGreatDoorCovPlain
namespace Go.Proofs.YtfipbnognjepkaaGreatDoor
set_option linter.unusedVariables false
set_option linter.unusedSimpArgs false
open Go.RowKit

/-- The greatest number from 1 to n of which p holds, or 0. -/
def lastP (p : Nat → Bool) : Nat → Nat
  | 0 => 0
  | n + 1 => if p (n + 1) = true then n + 1 else lastP p n
theorem lastP_le (p : Nat → Bool) : ∀ n, lastP p n ≤ n
  | 0 => Nat.le_refl _
  | n + 1 => by have := lastP_le p n; unfold lastP; split <;> omega
theorem lastP_hit {p : Nat → Bool} {n : Nat} (h : p (n + 1) = true) : lastP p (n + 1) = n + 1 := by unfold lastP; rw [if_pos h]
theorem lastP_miss {p : Nat → Bool} {n : Nat} (h : p (n + 1) = false) : lastP p (n + 1) = lastP p n := by rw [lastP, if_neg (by rw [h]; decide)]
/-- Are the last m letters of u the first ones of x? -/
def hgL (x u : ByteArray) (m : Nat) : Bool := decide (x.extract 0 m = u.extract (u.size - m) u.size)
/-- Are the first m letters of u the last ones of x? -/
def hgR (x u : ByteArray) (m : Nat) : Bool := decide (x.extract (x.size - m) x.size = u.extract 0 m)
/-- Does u cover the place j, from a place or hanging over by at most k letters inside? -/
def svK (x u : ByteArray) (k j : Nat) : Bool := (cvB x u j || decide (j < lastP (hgL x u) k)) || (decide (x.size - lastP (hgR x u) k ≤ j) && decide (j < x.size))
theorem hgL_prefix {x u : ByteArray} {m : Nat} (hm : m ≤ u.size) : ((bl (u.extract (u.size - m) u.size)).isPrefixOf (bl x)) = hgL x u m := by
  unfold hgL
  rw [Bool.eq_iff_iff, decide_eq_true_eq, List.isPrefixOf_iff_prefix, List.prefix_iff_eq_take]
  have hl : (bl (u.extract (u.size - m) u.size)).length = m := by rw [bl_len, ByteArray.size_extract]; omega
  rw [hl, ← bl_take]
  exact ⟨fun h => (bl_inj h).symm, fun h => by rw [h]⟩
theorem hgR_suffix {x u : ByteArray} {m : Nat} (hm : m ≤ u.size) (hx : m ≤ x.size) : ((bl (u.extract 0 m)).isSuffixOf (bl x)) = hgR x u m := by
  unfold hgR
  rw [Bool.eq_iff_iff, decide_eq_true_eq, List.isSuffixOf_iff_suffix, List.suffix_iff_eq_drop]
  have hl : (bl (u.extract 0 m)).length = m := by rw [bl_len, ByteArray.size_extract]; omega
  rw [hl, bl_len, ← bl_drop]
  exact ⟨fun h => (bl_inj h).symm, fun h => by rw [h]⟩
def svB (x u : ByteArray) (j : Nat) : Bool := svK x u (u.size - 1) j
def smk (x u : ByteArray) : Nat → Nat
  | 0 => msk x u
  | k + 1 => if hgR x u (k + 1) = true then (if hgL x u (k + 1) = true then smk x u k ||| mskF 0 (k + 1) else smk x u k) ||| mskF (x.size - (k + 1)) (k + 1)
    else (if hgL x u (k + 1) = true then smk x u k ||| mskF 0 (k + 1) else smk x u k)
theorem smk_bit (x u : ByteArray) (j : Nat) : ∀ k, k ≤ x.size → (smk x u k).testBit j = svK x u k j
  | 0, _ => by
    rw [smk, msk_bit, svK, lastP, lastP]
    by_cases h : j < x.size
    · have h1 : ¬ x.size ≤ j := by omega
      simp [h1]
    · have : cvB x u j = false := by rw [Bool.eq_false_iff]; exact fun e => h (cvB_lt e)
      simp [this, h]
  | k + 1, hk => by
    have ih := smk_bit x u j k (by omega)
    rw [smk]
    unfold svK at ih ⊢
    have hl := lastP_le (hgL x u) k
    have hr := lastP_le (hgR x u) k
    cases h1 : hgL x u (k + 1) <;> cases h2 : hgR x u (k + 1)
    · rw [lastP_miss h1, lastP_miss h2]; simpa using ih
    · rw [lastP_miss h1, lastP_hit h2]
      simp only [if_true, Bool.false_eq_true, if_false, Nat.testBit_or, ih, mskF_bit]
      cases cvB x u j <;> simp only [Bool.true_or, Bool.false_or]
      rw [Bool.eq_iff_iff]
      simp only [Bool.or_eq_true, Bool.and_eq_true, decide_eq_true_eq]
      omega
    · rw [lastP_hit h1, lastP_miss h2]
      simp only [if_true, Bool.false_eq_true, if_false, Nat.testBit_or, ih, mskF_bit]
      cases cvB x u j <;> simp only [Bool.true_or, Bool.false_or]
      rw [Bool.eq_iff_iff]
      simp only [Bool.or_eq_true, Bool.and_eq_true, decide_eq_true_eq]
      omega
    · rw [lastP_hit h1, lastP_hit h2]
      simp only [if_true, Bool.false_eq_true, if_false, Nat.testBit_or, ih, mskF_bit]
      cases cvB x u j <;> simp only [Bool.true_or, Bool.false_or]
      rw [Bool.eq_iff_iff]
      simp only [Bool.or_eq_true, Bool.and_eq_true, decide_eq_true_eq]
      omega
theorem svK_lt {x u : ByteArray} {k j : Nat} (hk : k ≤ x.size) (h : svK x u k j = true) : j < x.size := by
  unfold svK at h
  simp only [Bool.or_eq_true, Bool.and_eq_true, decide_eq_true_eq] at h
  have := lastP_le (hgL x u) k
  rcases h with (h | h) | h
  · exact cvB_lt h
  · omega
  · exact h.2
theorem smk_lt {x u : ByteArray} {k : Nat} (hk : k ≤ x.size) : smk x u k < 2 ^ x.size := by
  apply Nat.lt_pow_two_of_testBit
  intro j hj
  rw [smk_bit x u j k hk, Bool.eq_false_iff]
  intro h
  have := svK_lt hk h
  omega
theorem fillL_zero (f : Nat → Bool) : (fun j => f j || decide (j < 0)) = f := by
  funext j; simp
theorem fillL_succ (f : Nat → Bool) (i : Nat) : (fun q => if q = i then true else (f q || decide (q < i))) = fun q => f q || decide (q < i + 1) := by
  funext j
  by_cases h : j = i
  · rw [if_pos h]; simp [h]
  · rw [if_neg h]; congr 1; rw [Bool.eq_iff_iff, decide_eq_true_eq, decide_eq_true_eq]; omega
theorem fillR_zero (f : Nat → Bool) (a : Nat) : (fun j => f j || (decide (a ≤ j) && decide (j < a))) = f := by
  funext j
  have : (decide (a ≤ j) && decide (j < a)) = false := by rw [Bool.eq_false_iff]; intro h; simp only [Bool.and_eq_true, decide_eq_true_eq] at h; omega
  simp only [this, Bool.or_false]
theorem fillR_succ (f : Nat → Bool) (a i : Nat) (h : a ≤ i) : (fun q => if q = i then true else (f q || (decide (a ≤ q) && decide (q < i)))) = fun q => f q || (decide (a ≤ q) && decide (q < i + 1)) := by
  funext j
  by_cases e : j = i
  · rw [if_pos e]
    have : (decide (a ≤ j) && decide (j < i + 1)) = true := by simp only [Bool.and_eq_true, decide_eq_true_eq]; omega
    rw [this, Bool.or_true]
  · rw [if_neg e]; congr 1; rw [Bool.eq_iff_iff]; simp only [Bool.and_eq_true, decide_eq_true_eq]; omega
def seedF1 (x u : ByteArray) (j : Nat) : Bool := cvB x u j || decide (j < lastP (hgL x u) (u.size - 1))
theorem seedF1_at {x u : ByteArray} {m : Nat} (h : lastP (hgL x u) (u.size - 1) = m) : (fun j => cvB x u j || decide (j < m)) = seedF1 x u := by subst h; rfl
theorem seedF2_at {x u : ByteArray} {m : Nat} (h : lastP (hgR x u) (u.size - 1) = m) : (fun j => seedF1 x u j || (decide (x.size - m ≤ j) && decide (j < x.size))) = svB x u := by subst h; rfl
theorem lastP_pred {p : Nat → Bool} {m : Nat} (hm : 1 ≤ m) (h : p m = false) : lastP p m = lastP p (m - 1) := by
  obtain ⟨k, rfl⟩ : ∃ k, m = k + 1 := ⟨m - 1, by omega⟩
  exact lastP_miss h
theorem lastP_self {p : Nat → Bool} {m : Nat} (hm : 1 ≤ m) (h : p m = true) : lastP p m = m := by
  obtain ⟨k, rfl⟩ : ∃ k, m = k + 1 := ⟨m - 1, by omega⟩
  exact lastP_hit h
/-- Is u, not empty and not longer than x, a seed of x? -/
def sdAll (x u : ByteArray) : Bool := allB x.size (svB x u)
theorem seedF2_zero {x u : ByteArray} (h : lastP (hgR x u) (u.size - 1) = 0) : allB x.size (seedF1 x u) = sdAll x u := by
  unfold sdAll
  rw [← seedF2_at h]
  rw [Bool.eq_iff_iff, allB_iff, allB_iff]
  constructor
  · intro k j hj; rw [k j hj]; rfl
  · intro k j hj
    have := k j hj
    have e : (decide (x.size - 0 ≤ j) && decide (j < x.size)) = false := by rw [Bool.eq_false_iff]; intro h; simp only [Bool.and_eq_true, decide_eq_true_eq] at h; omega
    rwa [e, Bool.or_false] at this
def isSeedR (x u : ByteArray) : Bool × Int := if ¬ (IsW x ∧ IsW u) then (false, 1) else if u.size = 0 ∨ x.size < u.size then (false, 2) else (sdAll x u, 0)
theorem isSeedR_bad {x u : ByteArray} (h : ¬ (IsW x ∧ IsW u)) : isSeedR x u = (false, 1) := if_pos h
theorem isSeedR_out {x u : ByteArray} (h : IsW x ∧ IsW u) (k : u.size = 0 ∨ x.size < u.size) : isSeedR x u = (false, 2) := by unfold isSeedR; rw [if_neg (not_not_intro h), if_pos k]
theorem isSeedR_ok {x u : ByteArray} (h : IsW x ∧ IsW u) (k : ¬ (u.size = 0 ∨ x.size < u.size)) : isSeedR x u = (sdAll x u, 0) := by unfold isSeedR; rw [if_neg (not_not_intro h), if_neg k]
def sds (x : ByteArray) (m : Nat) : List ByteArray := (facs x m).filter (sdAll x)
theorem sds_len (x : ByteArray) (m : Nat) : (sds x m).length ≤ x.size + 1 - m := Nat.le_trans (List.length_filter_le _ _) (facs_len x m)
def seedsR (x : ByteArray) (m : Int) : List ByteArray × Int := if ¬ IsW x then ([], 1) else if m < 1 ∨ 60 < m then ([], 2) else (sds x m.toNat, 0)
theorem seedsR_bad {x : ByteArray} {m : Int} (h : ¬ IsW x) : seedsR x m = ([], 1) := if_pos h
theorem seedsR_out {x : ByteArray} {m : Int} (h : IsW x) (k : m < 1 ∨ 60 < m) : seedsR x m = ([], 2) := by unfold seedsR; rw [if_neg (not_not_intro h), if_pos k]
theorem seedsR_ok {x : ByteArray} {m : Nat} (h : IsW x) (k0 : 1 ≤ m) (k : m ≤ 60) : seedsR x (m : Int) = (sds x m, 0) := by
  unfold seedsR; rw [if_neg (not_not_intro h), if_neg (by omega)]; rfl
theorem seedsR_len (x : ByteArray) (m : Int) : (seedsR x m).1.length ≤ 4096 := by
  by_cases h : IsW x
  · by_cases k : m < 1 ∨ 60 < m
    · rw [seedsR_out h k]; decide
    · obtain ⟨n, rfl⟩ : ∃ n : Nat, m = n := ⟨m.toNat, by omega⟩
      rw [seedsR_ok h (by omega) (by omega)]
      have h1 := h.size; have h2 := sds_len x n
      show (sds x n).length ≤ 4096; omega
  · rw [seedsR_bad h]; decide
/-- The first seed among the factors. -/
def ls (x : ByteArray) : ByteArray := ((List.range x.size).flatMap fun i => sds x (i + 1)).headD tE
theorem flat_none {α : Type} (f : Nat → List α) : ∀ k, (∀ i, i < k → f i = []) → (List.range k).flatMap f = []
  | 0, _ => rfl
  | k + 1, h => by rw [List.range_succ, List.flatMap_append, flat_none f k (fun i hi => h i (by omega))]; simp [h k (by omega)]
theorem ls_at {x : ByteArray} {k : Nat} (hk : k < x.size) (h0 : ∀ i, i < k → sds x (i + 1) = []) (h : 0 < (sds x (k + 1)).length) : ls x = (sds x (k + 1))[0]'h := by
  unfold ls
  obtain ⟨d, hd⟩ : ∃ d, x.size = k + 1 + d := ⟨x.size - (k + 1), by omega⟩
  rw [hd, List.range_add, List.flatMap_append, List.range_succ, List.flatMap_append, flat_none _ k h0, head_get h]
  cases e : sds x (k + 1) with
  | nil => rw [e] at h; simp at h
  | cons a t => simp [e]
theorem svB_self {x : ByteArray} (h : 0 < x.size) : sdAll x x = true := by
  have h1 := cv_self h
  unfold cvAll at h1; unfold sdAll
  rw [allB_iff] at h1 ⊢
  intro j hj
  unfold svB svK
  rw [h1 j hj]; rfl
theorem facs_self {x : ByteArray} : facs x x.size = [x] := by
  unfold facs
  rw [show x.size + 1 - x.size = 1 by omega]
  have h := mem_facK x x.size x 1
  have e : x = x.extract 0 (0 + x.size) := by rw [Nat.zero_add, ByteArray.extract_zero_size]
  have h1 : x ∈ facK x x.size 1 := h.2 ⟨0, by omega, e⟩
  have h2 := facK_len x x.size 1
  cases hf : facK x x.size 1 with
  | nil => rw [hf] at h1; simp at h1
  | cons a t =>
    rw [hf] at h1 h2
    cases t with
    | nil => simp at h1; rw [h1]
    | cons b t => simp at h2
theorem sds_self {x : ByteArray} (h : 0 < x.size) : sds x x.size = [x] := by unfold sds; rw [facs_self]; simp [svB_self h]
def leastSeedR (x : ByteArray) : ByteArray × Int := if ¬ IsW x then (tE, 1) else if x.size = 0 then (tE, 4) else (ls x, 0)
theorem leastSeedR_bad {x : ByteArray} (h : ¬ IsW x) : leastSeedR x = (⟨#[]⟩, 1) := if_pos h
theorem leastSeedR_empty {x : ByteArray} (h : IsW x) (k : x.size = 0) : leastSeedR x = (⟨#[]⟩, 4) := by unfold leastSeedR; rw [if_neg (not_not_intro h), if_pos k]; rfl
theorem leastSeedR_ok {x : ByteArray} (h : IsW x) (k : ¬ x.size = 0) : leastSeedR x = (ls x, 0) := by unfold leastSeedR; rw [if_neg (not_not_intro h), if_neg k]
theorem ls_self {x : ByteArray} (h : 0 < x.size) (h0 : ∀ i, i + 1 < x.size → sds x (i + 1) = []) : ls x = x := by
  have e := sds_self h
  have e1 : sds x (x.size - 1 + 1) = [x] := by rw [show x.size - 1 + 1 = x.size by omega]; exact e
  have h1 := ls_at (x := x) (k := x.size - 1) (by omega) (fun i hi => h0 i (by omega)) (by rw [e1]; exact Nat.zero_lt_one)
  rw [h1]
  simp only [e1]; rfl

/-- The first two words of a list that cover together. -/
def ftF (x : ByteArray) : List ByteArray → List ByteArray
  | [] => []
  | u :: t => match t.find? (cvTwo x u) with | some v => [u, v] | none => ftF x t
theorem ftF_len (x : ByteArray) : ∀ L, (ftF x L).length ≤ 2
  | [] => by simp [ftF]
  | u :: t => by
    unfold ftF
    split
    · simp
    · exact ftF_len x t
theorem ftF_skip {x : ByteArray} {L : List ByteArray} {i : Nat} (hi : i < L.length) (h : ∀ k (hk : k < L.length), i < k → cvTwo x L[i] L[k] = false) : ftF x (L.drop i) = ftF x (L.drop (i + 1)) := by
  rw [List.drop_eq_getElem_cons hi, ftF]
  have : (L.drop (i + 1)).find? (cvTwo x L[i]) = none := by
    rw [List.find?_eq_none]
    intro v hv
    obtain ⟨k, hk, rfl⟩ := List.getElem_of_mem hv
    rw [List.length_drop] at hk
    rw [List.getElem_drop, h (i + 1 + k) (by omega) (by omega)]
    decide
  rw [this]
theorem find_at {α : Type} (p : α → Bool) : ∀ (L : List α) (k : Nat) (hk : k < L.length), (∀ j (hj : j < k), p (L[j]'(by omega)) = false) → p L[k] = true → L.find? p = some L[k]
  | [], k, hk, _, _ => by simp at hk
  | a :: t, 0, hk, _, h => by simp at h ⊢; simp [List.find?, h]
  | a :: t, k + 1, hk, h0, h => by
    have h1 := h0 0 (by omega)
    simp only [List.getElem_cons_zero] at h1
    rw [List.find?, h1]
    simp only [List.getElem_cons_succ] at h ⊢
    exact find_at p t k (by simpa using hk) (fun j hj => by have := h0 (j + 1) (by omega); simpa using this) h
theorem ftF_hit {x : ByteArray} {L : List ByteArray} {i k : Nat} (hi : i < k) (hk : k < L.length) (h0 : ∀ j (hj : j < L.length), i < j → j < k → cvTwo x (L[i]'(by omega)) L[j] = false) (h : cvTwo x (L[i]'(by omega)) L[k] = true) : ftF x (L.drop i) = [L[i]'(by omega), L[k]] := by
  rw [List.drop_eq_getElem_cons (by omega), ftF]
  have e := find_at (cvTwo x (L[i]'(by omega))) (L.drop (i + 1)) (k - (i + 1)) (by rw [List.length_drop]; omega)
    (fun j hj => by rw [List.getElem_drop]; exact h0 (i + 1 + j) (by omega) (by omega) (by omega))
    (by rw [List.getElem_drop]; simp only [show i + 1 + (k - (i + 1)) = k by omega]; exact h)
  rw [e]
  simp only [List.getElem_drop, show i + 1 + (k - (i + 1)) = k by omega]
def firstTwoR (x : ByteArray) (m : Int) : List ByteArray × Int := if ¬ IsW x then ([], 1) else if m < 1 ∨ 60 < m then ([], 2) else if ftF x (facs x m.toNat) = [] then ([], 4) else (ftF x (facs x m.toNat), 0)
theorem firstTwoR_bad {x : ByteArray} {m : Int} (h : ¬ IsW x) : firstTwoR x m = ([], 1) := if_pos h
theorem firstTwoR_out {x : ByteArray} {m : Int} (h : IsW x) (k : m < 1 ∨ 60 < m) : firstTwoR x m = ([], 2) := by unfold firstTwoR; rw [if_neg (not_not_intro h), if_pos k]
theorem firstTwoR_none {x : ByteArray} {m : Nat} (h : IsW x) (k0 : 1 ≤ m) (k : m ≤ 60) (e : ftF x (facs x m) = []) : firstTwoR x (m : Int) = ([], 4) := by
  unfold firstTwoR; rw [if_neg (not_not_intro h), if_neg (by omega), if_pos (show ftF x (facs x (m : Int).toNat) = [] from e)]
theorem firstTwoR_ok {x : ByteArray} {m : Nat} (h : IsW x) (k0 : 1 ≤ m) (k : m ≤ 60) {u v : ByteArray} (e : ftF x (facs x m) = [u, v]) : firstTwoR x (m : Int) = ([u, v], 0) := by
  unfold firstTwoR; rw [if_neg (not_not_intro h), if_neg (by omega), if_neg (by show ¬ ftF x (facs x m) = []; rw [e]; simp)]; show (ftF x (facs x m), (0 : Int)) = _; rw [e]
theorem firstTwoR_len (x : ByteArray) (m : Int) : (firstTwoR x m).1.length ≤ 4096 := by
  unfold firstTwoR
  split
  · decide
  · split
    · decide
    · split
      · decide
      · have := ftF_len x (facs x m.toNat); show (ftF x (facs x m.toNat)).length ≤ 4096; omega

/-! ### The border word that covers the most places. -/
/-- Does x begin with its last m letters? -/
def bdT (x : ByteArray) (m : Nat) : Bool := decide (x.extract 0 m = x.extract (x.size - m) x.size)
/-- How many places are covered? -/
def cvN (x u : ByteArray) : Nat := cnB (cvB x u) x.size
theorem cvN_le (x u : ByteArray) : cvN x u ≤ x.size := cnB_le _ _
/-- The best among the borders of 1 to k letters: how many letters it has, how many places it covers. -/
def bbF (x : ByteArray) : Nat → Nat × Nat
  | 0 => (0, 0)
  | k + 1 => if bdT x (k + 1) = true ∧ (bbF x k).2 < cvN x (x.extract 0 (k + 1)) then (k + 1, cvN x (x.extract 0 (k + 1))) else bbF x k
theorem bbF_hit {x : ByteArray} {k : Nat} (h : bdT x (k + 1) = true) (l : (bbF x k).2 < cvN x (x.extract 0 (k + 1))) : bbF x (k + 1) = (k + 1, cvN x (x.extract 0 (k + 1))) := by rw [bbF, if_pos ⟨h, l⟩]
theorem bbF_low {x : ByteArray} {k : Nat} (l : ¬ (bbF x k).2 < cvN x (x.extract 0 (k + 1))) : bbF x (k + 1) = bbF x k := by rw [bbF, if_neg (fun e => l e.2)]
theorem bbF_miss {x : ByteArray} {k : Nat} (h : bdT x (k + 1) = false) : bbF x (k + 1) = bbF x k := by rw [bbF, if_neg (fun e => by rw [h] at e; exact Bool.noConfusion e.1)]
theorem bbF_le (x : ByteArray) : ∀ k, (bbF x k).1 ≤ k ∧ (bbF x k).2 ≤ x.size
  | 0 => ⟨Nat.le_refl _, Nat.zero_le _⟩
  | k + 1 => by
    have h := bbF_le x k
    have l := cvN_le x (x.extract 0 (k + 1))
    rw [bbF]; split
    · exact ⟨Nat.le_refl _, l⟩
    · exact ⟨by omega, h.2⟩
def bestR (x : ByteArray) : ByteArray × Int × Int := if ¬ IsW x then (tE, 0, 1) else if (bbF x (x.size - 1)).2 = 0 then (tE, 0, 4) else (x.extract 0 (bbF x (x.size - 1)).1, ((bbF x (x.size - 1)).2 : Int), 0)
theorem bestR_bad {x : ByteArray} (h : ¬ IsW x) : bestR x = (⟨#[]⟩, 0, 1) := if_pos h
theorem bestR_none {x : ByteArray} (h : IsW x) (k : (bbF x (x.size - 1)).2 = 0) : bestR x = (⟨#[]⟩, 0, 4) := by unfold bestR; rw [if_neg (not_not_intro h), if_pos k]; rfl
theorem bestR_ok {x : ByteArray} (h : IsW x) (k : ¬ (bbF x (x.size - 1)).2 = 0) : bestR x = (x.extract 0 (bbF x (x.size - 1)).1, ((bbF x (x.size - 1)).2 : Int), 0) := by unfold bestR; rw [if_neg (not_not_intro h), if_neg k]

/-! ### A word grown by a cover. -/
/-- How many letters the grown word has. -/
def growN (n : Nat) (L : List Int) : Int := (n : Int) + (L.map fun z => (n : Int) - z).sum
/-- The grown word. -/
def growT (u : ByteArray) (L : List Int) : ByteArray := L.foldl (fun a z => a ++ u.extract z.toNat u.size) u
theorem growT_snoc (u : ByteArray) (L : List Int) (z : Int) : growT u (L ++ [z]) = growT u L ++ u.extract z.toNat u.size := by simp [growT, List.foldl_append]
theorem growN_snoc (n : Nat) (L : List Int) (z : Int) : growN n (L ++ [z]) = growN n L + ((n : Int) - z) := by simp [growN, List.sum_append]; omega
theorem growN_ge {n : Nat} : ∀ (L : List Int), (∀ z ∈ L, 0 ≤ z ∧ z < n) → (n : Int) + L.length ≤ growN n L
  | [], _ => by simp [growN]
  | a :: L, h => by
    have ih := growN_ge L (fun z hz => h z (List.mem_cons_of_mem _ hz))
    have h1 := h a (List.mem_cons_self)
    unfold growN at ih ⊢
    simp only [List.map_cons, List.sum_cons, List.length_cons]
    omega
theorem growN_mono {n : Nat} (L M : List Int) (h : ∀ z ∈ M, 0 ≤ z ∧ z < n) : growN n L ≤ growN n (L ++ M) := by
  have := growN_ge M h
  unfold growN at this ⊢
  rw [List.map_append, List.sum_append]
  omega
theorem growT_take {u : ByteArray} (L : List Int) (h : ∀ z ∈ L, 0 ≤ z ∧ z < u.size) : ∀ k, k ≤ L.length → ((growT u (L.take k)).size : Int) = growN u.size (L.take k)
  | 0, _ => by simp [growT, growN]
  | k + 1, hk => by
    have ih := growT_take L h k (by omega)
    have h1 := h _ (List.getElem_mem (show k < L.length by omega))
    rw [List.take_succ_eq_append_getElem (show k < L.length by omega), growT_snoc, growN_snoc, ByteArray.size_append, ByteArray.size_extract]
    omega
theorem growT_size {u : ByteArray} (L : List Int) (h : ∀ z ∈ L, 0 ≤ z ∧ z < u.size) : ((growT u L).size : Int) = growN u.size L := by
  have := growT_take L h L.length (Nat.le_refl _)
  rwa [List.take_length] at this
def growCR (u : ByteArray) (L : List Int) : ByteArray × Int :=
  if ¬ IsW u then (tE, 1) else if u.size = 0 ∨ ¬ (∀ z ∈ L, 0 ≤ z ∧ z < u.size) then (tE, 2)
  else if ¬ (∀ z ∈ L, bdT u z.toNat = true) then (tE, 4) else if 60 < growN u.size L then (tE, 3) else (growT u L, 0)
theorem growCR_bad {u : ByteArray} {L : List Int} (h : ¬ IsW u) : growCR u L = (⟨#[]⟩, 1) := if_pos h
theorem growCR_out {u : ByteArray} {L : List Int} (h : IsW u) (k : u.size = 0 ∨ ¬ (∀ z ∈ L, 0 ≤ z ∧ z < u.size)) : growCR u L = (⟨#[]⟩, 2) := by unfold growCR; rw [if_neg (not_not_intro h), if_pos k]; rfl
theorem growCR_none {u : ByteArray} {L : List Int} (h : IsW u) (k : ¬ u.size = 0) (r : ∀ z ∈ L, 0 ≤ z ∧ z < u.size) (b : ¬ (∀ z ∈ L, bdT u z.toNat = true)) : growCR u L = (⟨#[]⟩, 4) := by
  unfold growCR; rw [if_neg (not_not_intro h), if_neg (fun e => e.elim k (fun e => e r)), if_pos b]; rfl
theorem growCR_long {u : ByteArray} {L : List Int} (h : IsW u) (k : ¬ u.size = 0) (r : ∀ z ∈ L, 0 ≤ z ∧ z < u.size) (b : ∀ z ∈ L, bdT u z.toNat = true) (l : 60 < growN u.size L) : growCR u L = (⟨#[]⟩, 3) := by
  unfold growCR; rw [if_neg (not_not_intro h), if_neg (fun e => e.elim k (fun e => e r)), if_neg (not_not_intro b), if_pos l]; rfl
theorem growCR_ok {u : ByteArray} {L : List Int} (h : IsW u) (k : ¬ u.size = 0) (r : ∀ z ∈ L, 0 ≤ z ∧ z < u.size) (b : ∀ z ∈ L, bdT u z.toNat = true) (l : ¬ 60 < growN u.size L) : growCR u L = (growT u L, 0) := by
  unfold growCR; rw [if_neg (not_not_intro h), if_neg (fun e => e.elim k (fun e => e r)), if_neg (not_not_intro b), if_neg l]

end Go.Proofs.YtfipbnognjepkaaGreatDoor
