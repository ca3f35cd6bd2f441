/- Plain facts: vectors of words, words that are alike, abelian powers and periods. -/
import Derived.Test.YtolboinemechpaaCountPlain
import Derived.Test.YtolboinemechpaaPerPlain
import Derived.Test.YtolboinemechpaaCtPlain
import Derived.Test.YtolboinemechpaaRepPlain
namespace Go.Proofs.Ytolboinemechpaa
set_option linter.unusedVariables false
set_option linter.unusedSimpArgs false
open Go.RowKit

theorem IsW.sub {x : ByteArray} (h : IsW x) (a b : Nat) : IsW (x.extract a b) := by
  have h1 := h.size
  refine ⟨by simp; omega, fun i hi => ?_⟩
  have hi2 : i < b - a ∧ a + i < x.size := by simp at hi; omega
  have e : (x.extract a b)[i]'hi = x[a + i]'hi2.2 := by simp [ByteArray.getElem_extract]
  rw [e]
  exact h.2 _ _
theorem IsW.mem {x : ByteArray} (h : IsW x) {c : UInt8} (hc : c ∈ bl x) : 97 ≤ c.toNat ∧ c.toNat ≤ 101 := by
  obtain ⟨i, hi, rfl⟩ := List.getElem_of_mem hc
  exact ⟨h.lo i hi, h.hi i hi⟩

/-- The five counts of a list of letters. -/
def clv (l : List UInt8) : List Int := [(ct l 0 : Int), (ct l 1 : Int), (ct l 2 : Int), (ct l 3 : Int), (ct l 4 : Int)]
theorem clv_len (l : List UInt8) : (clv l).length = 5 := rfl
theorem clv_get (l : List UInt8) (j : Nat) (h : j < 5) : (clv l)[j]? = some (ct l j : Int) := by
  rcases (show j = 0 ∨ j = 1 ∨ j = 2 ∨ j = 3 ∨ j = 4 by omega) with rfl | rfl | rfl | rfl | rfl <;> rfl
theorem bump_clv (l : List UInt8) (c : UInt8) (h1 : 97 ≤ c.toNat) (h2 : c.toNat ≤ 101) : bump (clv l) ((c.toNat : Int) - 97) = clv (l ++ [c]) := by
  obtain ⟨n, hn, h4⟩ : ∃ n : Nat, c.toNat = n + 97 ∧ n < 5 := ⟨c.toNat - 97, by omega, by omega⟩
  have hc : c = letr n := by rw [← letr_of h1, hn, Nat.add_sub_cancel]
  subst hc
  have e : ∀ j, j < 5 → ct (l ++ [letr n]) j = ct l j + if n = j then 1 else 0 := fun j hj => by
    rw [ct_app, ct_one h4 hj]
  have e1 : (((letr n).toNat : Int) - 97).toNat = n := by omega
  unfold bump clv
  rw [e1, e 0 (by omega), e 1 (by omega), e 2 (by omega), e 3 (by omega), e 4 (by omega)]
  rcases (show n = 0 ∨ n = 1 ∨ n = 2 ∨ n = 3 ∨ n = 4 by omega) with rfl | rfl | rfl | rfl | rfl <;> simp
theorem cntK_ct {x : ByteArray} (h : IsW x) : ∀ k, k ≤ x.size → cntK x k = clv ((bl x).take k)
  | 0, _ => by rw [cntK_zero]; rfl
  | k + 1, hk => by
    rw [cntK_succ x k (by omega), cntK_ct h k (by omega), bump_clv _ _ (h.lo k (by omega)) (h.hi k (by omega)), List.take_succ_eq_append_getElem (show k < (bl x).length by rw [bl_len]; omega)]
    rfl
theorem cntK_all {x : ByteArray} (h : IsW x) : cntK x x.size = clv (bl x) := by
  rw [cntK_ct h _ (Nat.le_refl _), List.take_of_length_le (by rw [bl_len]; exact Nat.le_refl _)]

/-- Two words are alike. -/
def vq (a b : List UInt8) : Bool := decide (ct a 0 = ct b 0 ∧ ct a 1 = ct b 1 ∧ ct a 2 = ct b 2 ∧ ct a 3 = ct b 3 ∧ ct a 4 = ct b 4)
theorem vq_int (a b : List UInt8) : decide ((ct a 0 : Int) = (ct b 0 : Int) ∧ (ct a 1 : Int) = (ct b 1 : Int) ∧ (ct a 2 : Int) = (ct b 2 : Int) ∧ (ct a 3 : Int) = (ct b 3 : Int) ∧ (ct a 4 : Int) = (ct b 4 : Int)) = vq a b := by
  unfold vq
  simp only [Int.natCast_inj]
theorem vq_iff (a b : List UInt8) : vq a b = true ↔ ∀ j, j < 5 → ct a j = ct b j := by
  unfold vq
  rw [decide_eq_true_iff]
  constructor
  · rintro ⟨h0, h1, h2, h3, h4⟩ j hj
    rcases (show j = 0 ∨ j = 1 ∨ j = 2 ∨ j = 3 ∨ j = 4 by omega) with rfl | rfl | rfl | rfl | rfl <;> assumption
  · intro h
    exact ⟨h 0 (by omega), h 1 (by omega), h 2 (by omega), h 3 (by omega), h 4 (by omega)⟩
theorem vq_sym (a b : List UInt8) : vq a b = vq b a := by
  rw [Bool.eq_iff_iff, vq_iff, vq_iff]
  exact ⟨fun h j hj => (h j hj).symm, fun h j hj => (h j hj).symm⟩
theorem vq_refl (a : List UInt8) : vq a a = true := (vq_iff a a).2 fun _ _ => rfl
/-- The counts of the first so many letters are the same. -/
def vqTo (a b : List UInt8) (k : Nat) : Prop := ∀ j, j < k → ct a j = ct b j
theorem vqTo.zero (a b : List UInt8) : vqTo a b 0 := fun j h => by omega
theorem vqTo.succ {a b : List UInt8} {k : Nat} (h : vqTo a b k) (e : ct a k = ct b k) : vqTo a b (k + 1) := fun j hj => by
  by_cases h' : j = k
  · rw [h']; exact e
  · exact h j (by omega)
theorem vqTo.all {a b : List UInt8} (h : vqTo a b 5) : vq a b = true := (vq_iff a b).2 h
theorem vq_no {a b : List UInt8} {k : Nat} (hk : k < 5) (e : ¬ ct a k = ct b k) : vq a b = false := by
  rw [Bool.eq_false_iff]
  intro h
  exact e ((vq_iff a b).1 h k hk)
/-- One vector is at most another, letter by letter. -/
def vle (a b : List UInt8) : Bool := decide (ct a 0 ≤ ct b 0 ∧ ct a 1 ≤ ct b 1 ∧ ct a 2 ≤ ct b 2 ∧ ct a 3 ≤ ct b 3 ∧ ct a 4 ≤ ct b 4)
theorem vle_iff (a b : List UInt8) : vle a b = true ↔ ∀ j, j < 5 → ct a j ≤ ct b j := by
  unfold vle
  rw [decide_eq_true_iff]
  constructor
  · rintro ⟨h0, h1, h2, h3, h4⟩ j hj
    rcases (show j = 0 ∨ j = 1 ∨ j = 2 ∨ j = 3 ∨ j = 4 by omega) with rfl | rfl | rfl | rfl | rfl <;> assumption
  · intro h
    exact ⟨h 0 (by omega), h 1 (by omega), h 2 (by omega), h 3 (by omega), h 4 (by omega)⟩
def vleTo (a b : List UInt8) (k : Nat) : Prop := ∀ j, j < k → ct a j ≤ ct b j
theorem vleTo.zero (a b : List UInt8) : vleTo a b 0 := fun j h => by omega
theorem vleTo.succ {a b : List UInt8} {k : Nat} (h : vleTo a b k) (e : ct a k ≤ ct b k) : vleTo a b (k + 1) := fun j hj => by
  by_cases h' : j = k
  · rw [h']; exact e
  · exact h j (by omega)
theorem vleTo.all {a b : List UInt8} (h : vleTo a b 5) : vle a b = true := (vle_iff a b).2 h
theorem vle_no {a b : List UInt8} {k : Nat} (hk : k < 5) (e : ¬ ct a k ≤ ct b k) : vle a b = false := by
  rw [Bool.eq_false_iff]
  intro h
  exact e ((vle_iff a b).1 h k hk)

def alikeR (x y : ByteArray) : Bool × Int := if ¬ (IsW x ∧ IsW y) then (false, 1) else (vq (bl x) (bl y), 0)
theorem alikeR_bad {x y : ByteArray} (h : ¬ (IsW x ∧ IsW y)) : alikeR x y = (false, 1) := if_pos h
theorem alikeR_ok {x y : ByteArray} (h : IsW x ∧ IsW y) : alikeR x y = (vq (bl x) (bl y), 0) := by unfold alikeR; rw [if_neg (not_not_intro h)]

/-! ### Parts of one length. -/
/-- The part with the number j. -/
def blk (l : List UInt8) (m j : Nat) : List UInt8 := (l.drop (j * m)).take m
/-- The parts, as many as there is room for, are alike. -/
def alk (l : List UInt8) (m : Nat) : Prop := ∀ j, 1 ≤ j → (j + 1) * m ≤ l.length → vq (blk l m j) (blk l m 0) = true
noncomputable instance (l : List UInt8) (m : Nat) : Decidable (alk l m) := Classical.propDecidable _
/-- The parts up to the number k are alike. -/
def alkTo (l : List UInt8) (m k : Nat) : Prop := ∀ j, 1 ≤ j → j < k → vq (blk l m j) (blk l m 0) = true
theorem alkTo.one (l : List UInt8) (m : Nat) : alkTo l m 1 := fun j h k => by omega
theorem alkTo.succ {l : List UInt8} {m k : Nat} (h : alkTo l m k) (e : vq (blk l m k) (blk l m 0) = true) : alkTo l m (k + 1) := fun j h1 hj => by
  by_cases h' : j = k
  · rw [h']; exact e
  · exact h j h1 (by omega)
theorem alkTo.all {l : List UInt8} {m k : Nat} (h : alkTo l m k) (hk : l.length < (k + 1) * m) : alk l m := fun j h1 h2 => h j h1 (by
  have : ¬ k + 1 ≤ j + 1 := fun h => by have := Nat.mul_le_mul_right m h; omega
  have h3 : j + 1 < k + 1 ∨ k ≤ j := by omega
  omega)
theorem alk_no {l : List UInt8} {m k : Nat} (h1 : 1 ≤ k) (h2 : (k + 1) * m ≤ l.length) (e : vq (blk l m k) (blk l m 0) = false) : ¬ alk l m := fun h => by
  rw [h k h1 h2] at e
  cases e
theorem blk_sub (l : List UInt8) (i N m j : Nat) (h : (j + 1) * m ≤ N) : blk ((l.drop i).take N) m j = (l.drop (i + j * m)).take m := by
  unfold blk
  rw [List.drop_take, List.take_take, List.drop_drop, Nat.min_eq_left (by rw [Nat.add_mul] at h; omega)]
/-- There is an abelian power of k at the place i with the length m. -/
def apB (l : List UInt8) (k i m : Nat) : Prop := i + k * m ≤ l.length ∧ alk ((l.drop i).take (k * m)) m
noncomputable instance (l : List UInt8) (k i m : Nat) : Decidable (apB l k i m) := Classical.propDecidable _
theorem apB_iff {l : List UInt8} {k i m : Nat} (hm : 1 ≤ m) : apB l k i m ↔ i + k * m ≤ l.length ∧ ∀ j, 1 ≤ j → j < k → vq ((l.drop (i + j * m)).take m) ((l.drop i).take m) = true := by
  unfold apB alk
  constructor
  · rintro ⟨h1, h2⟩
    refine ⟨h1, fun j j1 j2 => ?_⟩
    have hl : ((l.drop i).take (k * m)).length = k * m := by rw [List.length_take, List.length_drop]; omega
    have hb : (j + 1) * m ≤ k * m := Nat.mul_le_mul_right m (by omega)
    have h0 : (0 + 1) * m ≤ k * m := Nat.mul_le_mul_right m (by omega)
    have := h2 j j1 (by rw [hl]; exact hb)
    rw [blk_sub l i _ m j hb, blk_sub l i _ m 0 h0, Nat.zero_mul, Nat.add_zero] at this
    exact this
  · rintro ⟨h1, h2⟩
    refine ⟨h1, fun j j1 j2 => ?_⟩
    have hl : ((l.drop i).take (k * m)).length = k * m := by rw [List.length_take, List.length_drop]; omega
    rw [hl] at j2
    have j3 : j + 1 ≤ k := Nat.le_of_mul_le_mul_right j2 (by omega)
    have h0 : (0 + 1) * m ≤ k * m := Nat.mul_le_mul_right m (by omega)
    rw [blk_sub l i _ m j j2, blk_sub l i _ m 0 h0, Nat.zero_mul, Nat.add_zero]
    exact h2 j j1 (by omega)

/-- As far as the part with the number j. -/
def apTo (l : List UInt8) (i m j : Nat) : Prop := ∀ r, 1 ≤ r → r < j → vq ((l.drop i).take m) ((l.drop (i + r * m)).take m) = true
theorem apTo.one (l : List UInt8) (i m : Nat) : apTo l i m 1 := fun r h k => by omega
theorem apTo.succ {l : List UInt8} {i m j : Nat} (h : apTo l i m j) (e : vq ((l.drop i).take m) ((l.drop (i + j * m)).take m) = true) : apTo l i m (j + 1) := fun r h1 hr => by
  by_cases h' : r = j
  · rw [h']; exact e
  · exact h r h1 (by omega)
theorem apTo.yes {l : List UInt8} {i m k : Nat} (h : apTo l i m k) (hm : 1 ≤ m) (hb : i + k * m ≤ l.length) : apB l k i m :=
  (apB_iff hm).2 ⟨hb, fun j h1 h2 => by rw [vq_sym]; exact h j h1 h2⟩
theorem apB_miss {l : List UInt8} {k i m j : Nat} (hm : 1 ≤ m) (h1 : 1 ≤ j) (h2 : j < k) (e : vq ((l.drop i).take m) ((l.drop (i + j * m)).take m) = false) : ¬ apB l k i m := fun h => by
  have := ((apB_iff hm).1 h).2 j h1 h2
  rw [vq_sym, e] at this
  cases this

/-! ### Pairs of a place and a length, by a test. -/
noncomputable section
open Classical
/-- Those at the place i, from the length m on, of so many. -/
def prow (P : Nat → Nat → Prop) (i : Nat) : Nat → Nat → List (Nat × Nat)
  | _, 0 => []
  | m, f + 1 => if P i m then (i, m) :: prow P i (m + 1) f else prow P i (m + 1) f
def pall (P : Nat → Nat → Prop) (N : Nat) : Nat → Nat → List (Nat × Nat)
  | _, 0 => []
  | i, f + 1 => prow P i 1 N ++ pall P N (i + 1) f
theorem prow_hit {P : Nat → Nat → Prop} {i m f : Nat} (h : P i m) : prow P i m (f + 1) = (i, m) :: prow P i (m + 1) f := by rw [prow, if_pos h]
theorem prow_miss {P : Nat → Nat → Prop} {i m f : Nat} (h : ¬ P i m) : prow P i m (f + 1) = prow P i (m + 1) f := by rw [prow, if_neg h]
theorem prow_none {P : Nat → Nat → Prop} {i : Nat} : ∀ (f m : Nat), (∀ r, m ≤ r → ¬ P i r) → prow P i m f = []
  | 0, _, _ => rfl
  | f + 1, m, h => by
    rw [prow_miss (h m (Nat.le_refl _))]
    exact prow_none f (m + 1) fun r h1 => h r (by omega)
theorem prow_len {P : Nat → Nat → Prop} {i : Nat} : ∀ (f m : Nat), (prow P i m f).length ≤ f
  | 0, _ => Nat.le_refl _
  | f + 1, m => by
    have h := prow_len (P := P) (i := i) f (m + 1)
    by_cases c : P i m
    · rw [prow_hit c, List.length_cons]; omega
    · rw [prow_miss c]; omega
theorem pall_len {P : Nat → Nat → Prop} {N : Nat} : ∀ (f i : Nat), (pall P N i f).length ≤ f * N
  | 0, _ => by rw [pall]; simp
  | f + 1, i => by
    have h1 := prow_len (P := P) (i := i) N 1
    have h2 := pall_len (P := P) (N := N) f (i + 1)
    rw [pall, List.length_append, Nat.succ_mul]
    omega
theorem mem_prow {P : Nat → Nat → Prop} {i : Nat} {p : Nat × Nat} : ∀ (f m : Nat), p ∈ prow P i m f ↔ p.1 = i ∧ m ≤ p.2 ∧ p.2 < m + f ∧ P i p.2
  | 0, m => ⟨fun h => (by rw [prow] at h; cases h), fun h => (by omega)⟩
  | f + 1, m => by
    have h := mem_prow (P := P) (i := i) (p := p) f (m + 1)
    by_cases c : P i m
    · rw [prow_hit c, List.mem_cons, h]
      constructor
      · rintro (rfl | ⟨h1, h2, h3, h4⟩)
        · exact ⟨rfl, Nat.le_refl _, by show m < _; omega, c⟩
        · exact ⟨h1, by omega, by omega, h4⟩
      · rintro ⟨h1, h2, h3, h4⟩
        by_cases eq : p.2 = m
        · exact .inl (Prod.ext h1 eq)
        · exact .inr ⟨h1, by omega, by omega, h4⟩
    · rw [prow_miss c, h]
      constructor
      · rintro ⟨h1, h2, h3, h4⟩
        exact ⟨h1, by omega, by omega, h4⟩
      · rintro ⟨h1, h2, h3, h4⟩
        by_cases eq : p.2 = m
        · rw [eq] at h4; exact absurd h4 c
        · exact ⟨h1, by omega, by omega, h4⟩
theorem mem_pall {P : Nat → Nat → Prop} {N : Nat} {p : Nat × Nat} : ∀ (f i : Nat), p ∈ pall P N i f ↔ i ≤ p.1 ∧ p.1 < i + f ∧ 1 ≤ p.2 ∧ p.2 < 1 + N ∧ P p.1 p.2
  | 0, i => ⟨fun h => (by rw [pall] at h; cases h), fun h => (by omega)⟩
  | f + 1, i => by
    have h := mem_pall (P := P) (N := N) (p := p) f (i + 1)
    rw [pall, List.mem_append, mem_prow, h]
    constructor
    · rintro (⟨h1, h2, h3, h4⟩ | ⟨h1, h2, h3, h4, h5⟩)
      · exact ⟨by omega, by omega, h2, h3, by rw [h1]; exact h4⟩
      · exact ⟨by omega, by omega, h3, h4, h5⟩
    · rintro ⟨h1, h2, h3, h4, h5⟩
      by_cases ei : p.1 = i
      · exact .inl ⟨ei, h3, h4, by rw [← ei]; exact h5⟩
      · exact .inr ⟨by omega, by omega, h3, h4, h5⟩
/-- All abelian powers of k. -/
def aps (l : List UInt8) (k : Nat) : List (Nat × Nat) := pall (apB l k) l.length 0 l.length
theorem aps_short {l : List UInt8} (k : Nat) (h : l.length ≤ 60) : (aps l k).length ≤ 3600 := Nat.le_trans (pall_len _ _) (Nat.mul_le_mul h h)
theorem mem_aps {l : List UInt8} {k : Nat} (hk : 1 ≤ k) {p : Nat × Nat} : p ∈ aps l k ↔ 1 ≤ p.2 ∧ apB l k p.1 p.2 := by
  unfold aps
  rw [mem_pall]
  constructor
  · rintro ⟨_, _, h, _, q⟩; exact ⟨h, q⟩
  · rintro ⟨h, q⟩
    have h1 := q.1
    have h2 : 1 * p.2 ≤ k * p.2 := Nat.mul_le_mul_right _ hk
    exact ⟨by omega, by omega, h, by omega, q⟩
theorem prow_stop {l : List UInt8} {k i m : Nat} (f : Nat) (h : ¬ i + k * m ≤ l.length) : prow (apB l k) i m f = [] :=
  prow_none f m fun r hr q => by
    have := q.1
    have := Nat.mul_le_mul_left k hr
    omega
def apsR (x : ByteArray) (k : Int) : List (List Int) × Int := if ¬ IsW x then ([], 1) else if k < 2 ∨ 60 < k then ([], 2) else (rowsN (aps (bl x) k.toNat), 0)
theorem apsR_bad {x : ByteArray} {k : Int} (h : ¬ IsW x) : apsR x k = ([], 1) := if_pos h
theorem apsR_out {x : ByteArray} {k : Int} (h : IsW x) (hk : k < 2 ∨ 60 < k) : apsR x k = ([], 2) := by unfold apsR; rw [if_neg (not_not_intro h), if_pos hk]
theorem apsR_ok {x : ByteArray} {k : Nat} (h : IsW x) (hk : ¬ ((k : Int) < 2 ∨ 60 < (k : Int))) : apsR x (k : Int) = (rowsN (aps (bl x) k), 0) := by unfold apsR; rw [if_neg (not_not_intro h), if_neg hk]; rfl
def apfR (x : ByteArray) (k : Int) : Bool × Int := (decide ((apsR x k).2 = 0) && decide ((apsR x k).1.length = 0), (apsR x k).2)
def asqR (x : ByteArray) : List (List Int) × Int := apsR x 2
/-- The abelian period m with the head h. -/
def apT (l : List UInt8) (m h : Nat) : Prop := h + m ≤ l.length ∧ alk (l.drop h) m ∧ vle (l.take h) ((l.drop h).take m) = true ∧ vle (l.drop (h + (l.length - h) / m * m)) ((l.drop h).take m) = true
end

end Go.Proofs.Ytolboinemechpaa
