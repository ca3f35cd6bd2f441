/- Plain facts: palindromes, the longest one at the end of a word. -/
import Derived.Test.YtddfdciohnabbacGreatPerPlain
import Derived.Test.YtddfdciohnabbacGreatComPlain
import Derived.Test.YtddfdciohnabbacGreatPutPlain
namespace Go.Proofs.YtddfdciohnabbacGreat
set_option linter.unusedVariables false
set_option linter.unusedSimpArgs false

theorem bl_at (x : ByteArray) (j : Nat) (h : j < x.size) : (bl x)[j]? = some (x[j]'h) := List.getElem?_eq_getElem (by rw [bl_len]; exact h)
theorem bl_none (x : ByteArray) (j : Nat) (h : x.size ≤ j) : (bl x)[j]? = none := List.getElem?_eq_none (by rw [bl_len]; exact h)

/-- The same in the opposite order. -/
def palB (l : List UInt8) : Bool := l.reverse == l
theorem palB_rev {l : List UInt8} : palB l = true ↔ l.reverse = l := by unfold palB; exact beq_iff_eq
theorem palB_iff {l : List UInt8} : palB l = true ↔ ∀ i, i < l.length / 2 → l[i]? = l[l.length - 1 - i]? := by
  rw [palB_rev]
  constructor
  · intro h i hi
    have h2 : l.reverse[i]? = l[i]? := by rw [h]
    rw [← h2, List.getElem?_reverse (by omega)]
  · intro h
    apply List.ext_getElem?
    intro i
    by_cases hi : i < l.length
    · rw [List.getElem?_reverse hi]
      by_cases h1 : i < l.length / 2
      · exact (h i h1).symm
      · by_cases h2 : l.length - 1 - i < l.length / 2
        · have := h _ h2
          rw [show l.length - 1 - (l.length - 1 - i) = i by omega] at this
          exact this
        · rw [show l.length - 1 - i = i by omega]
    · rw [List.getElem?_eq_none (by rw [List.length_reverse]; omega), List.getElem?_eq_none (by omega)]
/-- The first k letters are equal to the last ones. -/
def PalTo (x : ByteArray) (k : Nat) : Prop := ∀ i, i < k → (bl x)[i]? = (bl x)[x.size - 1 - i]?
theorem PalTo.zero (x : ByteArray) : PalTo x 0 := fun i h => by omega
theorem PalTo.succ {x : ByteArray} {k : Nat} (h : PalTo x k) (hk : k < x.size) (hj : x.size - 1 - k < x.size) (e : x[k]'hk = x[x.size - 1 - k]'hj) : PalTo x (k + 1) := fun i hi => by
  by_cases e2 : i = k
  · subst e2; rw [bl_at x i hk, bl_at x _ hj, e]
  · exact h i (by omega)
theorem PalTo.done {x : ByteArray} {k : Nat} (h : PalTo x k) (hk : x.size / 2 ≤ k) : palB (bl x) = true := palB_iff.2 fun i hi => h i (by rw [bl_len] at hi; omega)
theorem pal_miss {x : ByteArray} {k : Nat} (h2 : k < x.size / 2) (hk : k < x.size) (hj : x.size - 1 - k < x.size) (e : ¬ x[k]'hk = x[x.size - 1 - k]'hj) : palB (bl x) = false := by
  rw [Bool.eq_false_iff]
  intro h
  have := palB_iff.1 h k (by rw [bl_len]; exact h2)
  rw [bl_len, bl_at x k hk, bl_at x _ hj] at this
  exact e (Option.some.inj this)
theorem pal_nil : palB [] = true := rfl
theorem pal_one (a : UInt8) : palB [a] = true := by simp [palB]
theorem nat_byte {a b : UInt8} : a.toNat = b.toNat ↔ a = b := UInt8.toNat_inj

/-- The length of the longest palindrome at the end. -/
def endP : List UInt8 → Nat
  | [] => 0
  | a :: l => if palB (a :: l) then l.length + 1 else endP l
theorem endP_hit {l : List UInt8} (h : palB l = true) : endP l = l.length := by
  cases l with
  | nil => rfl
  | cons a l => rw [endP, if_pos h]; rfl
theorem endP_miss {l : List UInt8} {k : Nat} (hk : k < l.length) (h : palB (l.drop k) = false) : endP (l.drop k) = endP (l.drop (k + 1)) := by
  rw [List.drop_eq_getElem_cons hk] at h ⊢
  rw [endP, if_neg (by rw [h]; decide)]
theorem endP_le : ∀ (l : List UInt8), endP l ≤ l.length
  | [] => Nat.le_refl _
  | a :: l => by
    rw [endP]
    split
    · exact Nat.le_refl _
    · have := endP_le l; simp; omega
theorem endP_pos : ∀ (l : List UInt8), l ≠ [] → 0 < endP l
  | [a], _ => by rw [endP, if_pos (pal_one a)]; exact Nat.succ_pos _
  | a :: b :: l, _ => by
    rw [endP]
    split
    · exact Nat.succ_pos _
    · exact endP_pos (b :: l) (by simp)
/-- It is one, and no longer one is. -/
theorem endP_pal : ∀ (l : List UInt8), palB (l.drop (l.length - endP l)) = true
  | [] => rfl
  | a :: l => by
    rw [endP]
    split
    · rename_i h; simp [h]
    · have h1 := endP_le l
      have h2 := endP_pal l
      rw [show (a :: l).length - endP l = (l.length - endP l) + 1 by simp; omega, List.drop_succ_cons]
      exact h2
theorem endP_max : ∀ (l : List UInt8) (k : Nat), k ≤ l.length → palB (l.drop k) = true → l.length - k ≤ endP l
  | [], k, _, _ => by simp
  | a :: l, 0, _, h => by rw [List.drop_zero] at h; rw [endP, if_pos h]; simp
  | a :: l, k + 1, hk, h => by
    rw [List.drop_succ_cons] at h
    have := endP_max l k (by simp at hk; omega) h
    rw [endP]
    split
    · simp; omega
    · simp; omega

/-! ### The different factors that pass a test. -/
/-- Those of the lengths 1 to N. -/
def dfT (T : ByteArray → Bool) (x : ByteArray) : Nat → List ByteArray
  | 0 => []
  | N + 1 => dfT T x N ++ (facK x (N + 1) (x.size - N)).filter T
theorem dfT_len (T : ByteArray → Bool) (x : ByteArray) : ∀ N, (dfT T x N).length ≤ N * x.size
  | 0 => by simp [dfT]
  | N + 1 => by
    rw [dfT, List.length_append, Nat.succ_mul]
    have h1 := dfT_len T x N
    have h2 := List.length_filter_le T (facK x (N + 1) (x.size - N))
    have h3 := facK_len x (N + 1) (x.size - N)
    omega
theorem facK_size {x z : ByteArray} {m N : Nat} (hN : N + m ≤ x.size + 1) (h : z ∈ facK x m N) : z.size = m := by
  obtain ⟨i, hi, rfl⟩ := (mem_facK x m z N).1 h
  simp; omega
/-- The same of the first k places, the test first. -/
def ownT (T : ByteArray → Bool) (x : ByteArray) (m : Nat) : Nat → List ByteArray
  | 0 => []
  | k + 1 => if T (x.extract k (k + m)) then insW (ownT T x m k) (x.extract k (k + m)) else ownT T x m k
theorem ownT_hit {T : ByteArray → Bool} {x : ByteArray} {m k : Nat} (h : T (x.extract k (k + m)) = true) : ownT T x m (k + 1) = insW (ownT T x m k) (x.extract k (k + m)) := by rw [ownT, if_pos h]
theorem ownT_miss {T : ByteArray → Bool} {x : ByteArray} {m k : Nat} (h : T (x.extract k (k + m)) = false) : ownT T x m (k + 1) = ownT T x m k := by rw [ownT, if_neg (by rw [h]; decide)]
theorem ownT_asc (T : ByteArray → Bool) (x : ByteArray) (m : Nat) : ∀ k, Asc (ownT T x m k)
  | 0 => List.Pairwise.nil
  | k + 1 => by
    rw [ownT]
    split
    · exact asc_insW _ _ (ownT_asc T x m k)
    · exact ownT_asc T x m k
theorem ownT_len (T : ByteArray → Bool) (x : ByteArray) (m : Nat) : ∀ k, (ownT T x m k).length ≤ k
  | 0 => Nat.le_refl _
  | k + 1 => by
    have := ownT_len T x m k
    rw [ownT]
    split
    · have := insW_len (ownT T x m k) (x.extract k (k + m)); omega
    · omega
theorem mem_ownT (T : ByteArray → Bool) (x : ByteArray) (m : Nat) (z : ByteArray) : ∀ k, z ∈ ownT T x m k ↔ (∃ i, i < k ∧ z = x.extract i (i + m)) ∧ T z = true
  | 0 => by simp [ownT]
  | k + 1 => by
    by_cases h : T (x.extract k (k + m)) = true
    · rw [ownT_hit h, mem_insW, mem_ownT T x m z k]
      constructor
      · rintro (rfl | ⟨⟨i, hi, e⟩, ht⟩)
        · exact ⟨⟨k, Nat.lt_succ_self _, rfl⟩, h⟩
        · exact ⟨⟨i, by omega, e⟩, ht⟩
      · rintro ⟨⟨i, hi, e⟩, ht⟩
        by_cases hk : i = k
        · subst hk; exact .inl e
        · exact .inr ⟨⟨i, by omega, e⟩, ht⟩
    · have h2 : T (x.extract k (k + m)) = false := by simpa using h
      rw [ownT_miss h2, mem_ownT T x m z k]
      constructor
      · rintro ⟨⟨i, hi, e⟩, ht⟩; exact ⟨⟨i, by omega, e⟩, ht⟩
      · rintro ⟨⟨i, hi, e⟩, ht⟩
        by_cases hk : i = k
        · subst hk; subst e; exact absurd ht h
        · exact ⟨⟨i, by omega, e⟩, ht⟩
theorem ownT_eq (T : ByteArray → Bool) (x : ByteArray) (m k : Nat) : ownT T x m k = (facK x m k).filter T := by
  refine asc_ext _ _ (ownT_asc T x m k) ((facK_asc x m k).filter T) fun z => ?_
  rw [mem_ownT, List.mem_filter, mem_facK]

/-! ### What the functions answer. -/
def palT (x : ByteArray) : Bool := palB (bl x)
def ispR (x : ByteArray) : Bool × Int := if ¬ IsW x then (false, 1) else (palB (bl x), 0)
theorem ispR_bad {x : ByteArray} (h : ¬ IsW x) : ispR x = (false, 1) := if_pos h
theorem ispR_ok {x : ByteArray} (h : IsW x) : ispR x = (palB (bl x), 0) := by unfold ispR; rw [if_neg (not_not_intro h)]
def palsR (x : ByteArray) : List ByteArray × Int := if ¬ IsW x then ([], 1) else (dfT palT x x.size, 0)
theorem palsR_bad {x : ByteArray} (h : ¬ IsW x) : palsR x = ([], 1) := if_pos h
theorem palsR_ok {x : ByteArray} (h : IsW x) : palsR x = (dfT palT x x.size, 0) := by unfold palsR; rw [if_neg (not_not_intro h)]
theorem dfT_len60 (T : ByteArray → Bool) {x : ByteArray} (h : x.size ≤ 60) {N : Nat} (hN : N ≤ x.size) : (dfT T x N).length ≤ 3600 := by
  have h1 := dfT_len T x N
  have h2 : N * x.size ≤ 60 * 60 := Nat.mul_le_mul (by omega) h
  omega
theorem palsR_len (x : ByteArray) : (palsR x).1.length ≤ 4096 := by
  by_cases h : IsW x
  · rw [palsR_ok h]; have := dfT_len60 palT h.size (Nat.le_refl _); show (dfT palT x x.size).length ≤ 4096; omega
  · rw [palsR_bad h]; decide
def defR (x : ByteArray) : Int × Int := if ¬ IsW x then (0, 1) else ((x.size : Int) - (dfT palT x x.size).length, 0)
theorem defR_bad {x : ByteArray} (h : ¬ IsW x) : defR x = (0, 1) := if_pos h
theorem defR_ok {x : ByteArray} (h : IsW x) : defR x = ((x.size : Int) - (dfT palT x x.size).length, 0) := by unfold defR; rw [if_neg (not_not_intro h)]
/-- The lengths of the longest palindromes at the ends of the first beginnings. -/
def endsL (x : ByteArray) (k : Nat) : List Int := (List.range k).map fun i => (endP (bl (x.extract 0 (i + 1))) : Int)
theorem endsL_zero (x : ByteArray) : endsL x 0 = [] := rfl
theorem endsL_succ (x : ByteArray) (k : Nat) : endsL x (k + 1) = endsL x k ++ [(endP (bl (x.extract 0 (k + 1))) : Int)] := by simp [endsL, List.range_succ]
theorem endsL_len (x : ByteArray) (k : Nat) : (endsL x k).length = k := by simp [endsL]
def endsR (x : ByteArray) : List Int × Int := if ¬ IsW x then ([], 1) else (endsL x x.size, 0)
theorem endsR_bad {x : ByteArray} (h : ¬ IsW x) : endsR x = ([], 1) := if_pos h
theorem endsR_ok {x : ByteArray} (h : IsW x) : endsR x = (endsL x x.size, 0) := by unfold endsR; rw [if_neg (not_not_intro h)]
theorem endsR_len (x : ByteArray) : (endsR x).1.length ≤ 4096 := by
  by_cases h : IsW x
  · rw [endsR_ok h]; have := h.size; show (endsL x x.size).length ≤ 4096; rw [endsL_len]; omega
  · rw [endsR_bad h]; decide
/-- The closure. -/
def clo (x : ByteArray) : ByteArray := x ++ rev (x.extract 0 (x.size - endP (bl x)))
theorem clo_size (x : ByteArray) : (clo x).size = x.size + (x.size - endP (bl x)) := by
  unfold clo; rw [ByteArray.size_append, rev_size]; simp
def cloR (x : ByteArray) : ByteArray × Int := if ¬ IsW x then (⟨#[]⟩, 1) else if 60 < (clo x).size then (⟨#[]⟩, 3) else (clo x, 0)
theorem cloR_bad {x : ByteArray} (h : ¬ IsW x) : cloR x = (⟨#[]⟩, 1) := if_pos h
theorem cloR_long {x : ByteArray} (h : IsW x) (k : 60 < (clo x).size) : cloR x = (⟨#[]⟩, 3) := by unfold cloR; rw [if_neg (not_not_intro h), if_pos k]
theorem cloR_ok {x : ByteArray} (h : IsW x) (k : ¬ 60 < (clo x).size) : cloR x = (clo x, 0) := by unfold cloR; rw [if_neg (not_not_intro h), if_neg k]
/-- The directed word of the letters from the place k on, from a word on; none if one is too long. -/
def dirF (x : ByteArray) : Nat → Nat → ByteArray → Option ByteArray
  | _, 0, p => some p
  | k, f + 1, p => if 60 < (clo (p ++ x.extract k (k + 1))).size then none else dirF x (k + 1) f (clo (p ++ x.extract k (k + 1)))
theorem dirF_end (x : ByteArray) (k : Nat) (p : ByteArray) : dirF x k 0 p = some p := rfl
theorem dirF_long {x : ByteArray} {k f : Nat} {p : ByteArray} (h : 60 < (clo (p ++ x.extract k (k + 1))).size) : dirF x k (f + 1) p = none := by rw [dirF, if_pos h]
theorem dirF_go {x : ByteArray} {k f : Nat} {p : ByteArray} (h : ¬ 60 < (clo (p ++ x.extract k (k + 1))).size) : dirF x k (f + 1) p = dirF x (k + 1) f (clo (p ++ x.extract k (k + 1))) := by rw [dirF, if_neg h]
def dirO : Option ByteArray → ByteArray × Int
  | some p => (p, 0)
  | none => (⟨#[]⟩, 3)
def dirR (x : ByteArray) : ByteArray × Int := if ¬ IsW x then (⟨#[]⟩, 1) else dirO (dirF x 0 x.size ⟨#[]⟩)
theorem dirR_bad {x : ByteArray} (h : ¬ IsW x) : dirR x = (⟨#[]⟩, 1) := if_pos h
theorem dirR_ok {x : ByteArray} (h : IsW x) : dirR x = dirO (dirF x 0 x.size ⟨#[]⟩) := by unfold dirR; rw [if_neg (not_not_intro h)]
/-- How many of the lengths up to f, from a place on, are those of palindromes. -/
def cpI (x : ByteArray) (i : Nat) : Nat → Nat
  | 0 => 0
  | f + 1 => cpI x i f + if palB (bl (x.extract i (i + (f + 1)))) then 1 else 0
def cpN (x : ByteArray) : Nat → Nat
  | 0 => 0
  | i + 1 => cpN x i + cpI x i (x.size - i)
def cpR (x : ByteArray) : Int × Int := if ¬ IsW x then (0, 1) else ((cpN x x.size : Int), 0)
theorem cpR_bad {x : ByteArray} (h : ¬ IsW x) : cpR x = (0, 1) := if_pos h
theorem cpR_ok {x : ByteArray} (h : IsW x) : cpR x = ((cpN x x.size : Int), 0) := by unfold cpR; rw [if_neg (not_not_intro h)]
theorem cpI_le (x : ByteArray) (i : Nat) : ∀ f, cpI x i f ≤ f
  | 0 => Nat.le_refl _
  | f + 1 => by have := cpI_le x i f; rw [cpI]; split <;> omega
theorem cpN_le (x : ByteArray) : ∀ i, cpN x i ≤ i * x.size
  | 0 => by simp [cpN]
  | i + 1 => by have := cpN_le x i; have := cpI_le x i (x.size - i); rw [cpN, Nat.succ_mul]; omega

end Go.Proofs.YtddfdciohnabbacGreat
