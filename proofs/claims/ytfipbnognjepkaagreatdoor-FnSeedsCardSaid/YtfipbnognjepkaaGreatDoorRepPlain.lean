/- Plain facts: all powers, or overlaps, of a list of letters, by their places and root lengths. -/
import Derived.Test.YtfipbnognjepkaaGreatDoorSqPlain
namespace Go.Proofs.YtfipbnognjepkaaGreatDoor
set_option linter.unusedVariables false
set_option linter.unusedSimpArgs false

/-- Those at place i, from the root length q on, of so many. -/
def rrow (l : List UInt8) (e : Nat → Nat) (i : Nat) : Nat → Nat → List (Nat × Nat)
  | _, 0 => []
  | q, f + 1 => if repB l i q (e q) = true then (i, q) :: rrow l e i (q + 1) f else rrow l e i (q + 1) f
def rall (l : List UInt8) (e : Nat → Nat) : Nat → Nat → List (Nat × Nat)
  | _, 0 => []
  | i, f + 1 => rrow l e i 1 l.length ++ rall l e (i + 1) f
def reps (l : List UInt8) (e : Nat → Nat) : List (Nat × Nat) := rall l e 0 l.length
/-- How many letters of a power of k are compared. -/
def eP (k m : Nat) (q : Nat) : Nat := (k - 1) * q + m
theorem eP_mono (k m : Nat) {q r : Nat} (h : q ≤ r) : eP k m q ≤ eP k m r := by unfold eP; exact Nat.add_le_add_right (Nat.mul_le_mul_left _ h) _
theorem rrow_hit {l : List UInt8} {e : Nat → Nat} {i q f : Nat} (h : repB l i q (e q) = true) : rrow l e i q (f + 1) = (i, q) :: rrow l e i (q + 1) f := by rw [rrow, if_pos h]
theorem rrow_miss {l : List UInt8} {e : Nat → Nat} {i q f : Nat} (h : repB l i q (e q) = false) : rrow l e i q (f + 1) = rrow l e i (q + 1) f := by rw [rrow, if_neg (by rw [h]; decide)]
theorem rrow_none {l : List UInt8} {e : Nat → Nat} {i : Nat} : ∀ (f q : Nat), (∀ r, q ≤ r → r < q + f → repB l i r (e r) = false) → rrow l e i q f = []
  | 0, _, _ => rfl
  | f + 1, q, h => by
    rw [rrow_miss (h q (Nat.le_refl _) (by omega))]
    exact rrow_none f (q + 1) fun r h1 h2 => h r (by omega) (by omega)
theorem rrow_stop {l : List UInt8} {k m : Nat} {i q : Nat} (f : Nat) (h : ¬ i + q + eP k m q ≤ l.length) : rrow l (eP k m) i q f = [] :=
  rrow_none f q fun r h1 _ => rep_long (by have := eP_mono k m h1; omega)
theorem rrow_len {l : List UInt8} {e : Nat → Nat} {i : Nat} : ∀ (f q : Nat), (rrow l e i q f).length ≤ f
  | 0, _ => Nat.le_refl _
  | f + 1, q => by
    have h := rrow_len (l := l) (e := e) (i := i) f (q + 1)
    by_cases c : repB l i q (e q) = true
    · rw [rrow_hit c, List.length_cons]; omega
    · rw [rrow_miss (by simpa using c)]; omega
theorem rall_len {l : List UInt8} {e : Nat → Nat} : ∀ (f i : Nat), (rall l e i f).length ≤ f * l.length
  | 0, _ => by rw [rall]; simp
  | f + 1, i => by
    have h1 := rrow_len (l := l) (e := e) (i := i) l.length 1
    have h2 := rall_len (l := l) (e := e) f (i + 1)
    rw [rall, List.length_append, Nat.succ_mul]
    omega
theorem reps_len (l : List UInt8) (e : Nat → Nat) : (reps l e).length ≤ l.length * l.length := rall_len _ _
theorem reps_short {l : List UInt8} (e : Nat → Nat) (h : l.length ≤ 60) : (reps l e).length ≤ 3600 := Nat.le_trans (reps_len l e) (Nat.mul_le_mul h h)
theorem mem_rrow {l : List UInt8} {e : Nat → Nat} {i : Nat} {p : Nat × Nat} : ∀ (f q : Nat), p ∈ rrow l e i q f ↔ p.1 = i ∧ q ≤ p.2 ∧ p.2 < q + f ∧ repB l i p.2 (e p.2) = true
  | 0, q => ⟨fun h => (by rw [rrow] at h; cases h), fun h => (by omega)⟩
  | f + 1, q => by
    have h := mem_rrow (l := l) (e := e) (i := i) (p := p) f (q + 1)
    by_cases c : repB l i q (e q) = true
    · rw [rrow_hit c, List.mem_cons, h]
      constructor
      · rintro (rfl | ⟨h1, h2, h3, h4⟩)
        · exact ⟨rfl, Nat.le_refl _, by show q < _; omega, c⟩
        · exact ⟨h1, by omega, by omega, h4⟩
      · rintro ⟨h1, h2, h3, h4⟩
        by_cases eq : p.2 = q
        · exact .inl (Prod.ext h1 eq)
        · exact .inr ⟨h1, by omega, by omega, h4⟩
    · have c2 : repB l i q (e q) = false := by simpa using c
      rw [rrow_miss c2, h]
      constructor
      · rintro ⟨h1, h2, h3, h4⟩
        exact ⟨h1, by omega, by omega, h4⟩
      · rintro ⟨h1, h2, h3, h4⟩
        by_cases eq : p.2 = q
        · rw [eq, c2] at h4; cases h4
        · exact ⟨h1, by omega, by omega, h4⟩
theorem mem_rall {l : List UInt8} {e : Nat → Nat} {p : Nat × Nat} : ∀ (f i : Nat), p ∈ rall l e i f ↔ i ≤ p.1 ∧ p.1 < i + f ∧ 1 ≤ p.2 ∧ p.2 < 1 + l.length ∧ repB l p.1 p.2 (e p.2) = true
  | 0, i => ⟨fun h => (by rw [rall] at h; cases h), fun h => (by omega)⟩
  | f + 1, i => by
    have h := mem_rall (l := l) (e := e) (p := p) f (i + 1)
    rw [rall, List.mem_append, mem_rrow, h]
    constructor
    · rintro (⟨h1, h2, h3, h4⟩ | ⟨h1, h2, h3, h4, h5⟩)
      · exact ⟨by omega, by omega, h2, h3, by rw [h1]; exact h4⟩
      · exact ⟨by omega, by omega, h3, h4, h5⟩
    · rintro ⟨h1, h2, h3, h4, h5⟩
      by_cases ei : p.1 = i
      · exact .inl ⟨ei, h3, h4, by rw [← ei]; exact h5⟩
      · exact .inr ⟨by omega, by omega, h3, h4, h5⟩
/-- Just the powers are told. -/
theorem mem_reps {l : List UInt8} {e : Nat → Nat} {p : Nat × Nat} : p ∈ reps l e ↔ 1 ≤ p.2 ∧ RepT l p.1 p.2 (e p.2) := by
  unfold reps
  rw [mem_rall, repB_iff]
  constructor
  · rintro ⟨_, _, h, _, k⟩; exact ⟨h, k⟩
  · rintro ⟨h, k⟩
    have := k.1
    exact ⟨by omega, by omega, h, by omega, k⟩
/-- Some of them, by a test. -/
theorem rrow_filter {l : List UInt8} {e e' : Nat → Nat} {t : Nat × Nat → Bool} {i : Nat} : ∀ (f q : Nat), (∀ r, q ≤ r → repB l i r (e' r) = (repB l i r (e r) && t (i, r))) → rrow l e' i q f = (rrow l e i q f).filter t
  | 0, _, _ => rfl
  | f + 1, q, h => by
    have h1 := rrow_filter (l := l) (e := e) (e' := e') (t := t) (i := i) f (q + 1) fun r hr => h r (by omega)
    have h2 := h q (Nat.le_refl _)
    by_cases c : repB l i q (e q) = true
    · rw [rrow_hit c, List.filter_cons]
      by_cases ct : t (i, q) = true
      · rw [rrow_hit (by rw [h2, c, ct]; rfl), if_pos ct, h1]
      · rw [rrow_miss (by rw [h2]; simp [ct]), if_neg ct, h1]
    · have c2 : repB l i q (e q) = false := by simpa using c
      rw [rrow_miss c2, rrow_miss (by rw [h2, c2]; rfl), h1]
theorem rall_filter {l : List UInt8} {e e' : Nat → Nat} {t : Nat × Nat → Bool} (h : ∀ i r, 1 ≤ r → repB l i r (e' r) = (repB l i r (e r) && t (i, r))) : ∀ (f i : Nat), rall l e' i f = (rall l e i f).filter t
  | 0, _ => rfl
  | f + 1, i => by rw [rall, rall, List.filter_append, rall_filter h f (i + 1), rrow_filter (e := e) (t := t) _ _ (fun r hr => h i r hr)]
theorem reps_filter {l : List UInt8} {e e' : Nat → Nat} {t : Nat × Nat → Bool} (h : ∀ i r, 1 ≤ r → repB l i r (e' r) = (repB l i r (e r) && t (i, r))) : reps l e' = (reps l e).filter t := rall_filter h _ _

/-- The pairs as rows of numbers. -/
def rowsN (L : List (Nat × Nat)) : List (List Int) := L.map fun p => [(p.1 : Int), (p.2 : Int)]
theorem rowsN_len (L : List (Nat × Nat)) : (rowsN L).length = L.length := List.length_map _
theorem rowsN_snoc (L : List (Nat × Nat)) (p : Nat × Nat) : rowsN (L ++ [p]) = rowsN L ++ [[(p.1 : Int), (p.2 : Int)]] := by unfold rowsN; rw [List.map_append]; rfl
def powR (l : List UInt8) (k : Nat) : List (List Int) := rowsN (reps l (eP k 0))
def powersR (x : ByteArray) (k : Int) : List (List Int) × Int := if ¬ IsW x then ([], 1) else if k < 2 ∨ 60 < k then ([], 2) else (rowsN (reps (bl x) (eP k.toNat 0)), 0)
theorem powersR_bad {x : ByteArray} {k : Int} (h : ¬ IsW x) : powersR x k = ([], 1) := if_pos h
theorem powersR_out {x : ByteArray} {k : Int} (h : IsW x) (hk : k < 2 ∨ 60 < k) : powersR x k = ([], 2) := by unfold powersR; rw [if_neg (not_not_intro h), if_pos hk]
theorem powersR_ok {x : ByteArray} {k : Nat} (h : IsW x) (hk : ¬ ((k : Int) < 2 ∨ 60 < (k : Int))) : powersR x (k : Int) = (rowsN (reps (bl x) (eP k 0)), 0) := by unfold powersR; rw [if_neg (not_not_intro h), if_neg hk]; rfl
def overlapsR (x : ByteArray) : List (List Int) × Int := if ¬ IsW x then ([], 1) else (rowsN (reps (bl x) (eP 2 1)), 0)
theorem overlapsR_bad {x : ByteArray} (h : ¬ IsW x) : overlapsR x = ([], 1) := if_pos h
theorem overlapsR_ok {x : ByteArray} (h : IsW x) : overlapsR x = (rowsN (reps (bl x) (eP 2 1)), 0) := by unfold overlapsR; rw [if_neg (not_not_intro h)]

end Go.Proofs.YtfipbnognjepkaaGreatDoor
