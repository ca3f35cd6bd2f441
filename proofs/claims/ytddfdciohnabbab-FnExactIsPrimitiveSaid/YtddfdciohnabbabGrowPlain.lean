/- Plain facts: letters that grow; iterates as texts of any length. -/
import Derived.Test.YtddfdciohnabbabMorPlain
namespace Go.Proofs.Ytddfdciohnabbab
set_option linter.unusedVariables false
set_option linter.unusedSimpArgs false
open Go.RowKit

/-- The iterate of k, however long. -/
def hk (I : List (List UInt8)) : Nat → List UInt8 → List UInt8
  | 0, l => l
  | k + 1, l => hk I k (imgOf I l)
theorem hk_zero (I : List (List UInt8)) (l : List UInt8) : hk I 0 l = l := rfl
theorem hk_head (I : List (List UInt8)) (k : Nat) (l : List UInt8) : hk I (k + 1) l = hk I k (imgOf I l) := rfl
theorem hk_succ (I : List (List UInt8)) : ∀ (k : Nat) (l : List UInt8), hk I (k + 1) l = imgOf I (hk I k l)
  | 0, l => rfl
  | k + 1, l => by rw [hk_head, hk_succ I k, hk_head]
theorem hk_app (I : List (List UInt8)) : ∀ (k : Nat) (a b : List UInt8), hk I k (a ++ b) = hk I k a ++ hk I k b
  | 0, a, b => rfl
  | k + 1, a, b => by rw [hk_head, imgOf_app, hk_app I k, ← hk_head, ← hk_head]
theorem hk_nil (I : List (List UInt8)) : ∀ k, hk I k [] = []
  | 0 => rfl
  | k + 1 => by rw [hk_head, imgOf_nil, hk_nil I k]
theorem hk_lets {I : List (List UInt8)} (g : Mor I) : ∀ (k : Nat) {l : List UInt8}, lets I l → lets I (hk I k l)
  | 0, l, h => h
  | k + 1, l, h => by rw [hk_head]; exact hk_lets g k (imgOf_lets g h)
theorem hk_len {I : List (List UInt8)} (g : Mor I) : ∀ (k : Nat) {l : List UInt8}, lets I l → (hk I k l).length ≤ 12 ^ k * l.length
  | 0, l, h => by simp [hk]
  | k + 1, l, h => by
    rw [hk_head]
    have h1 := hk_len g k (imgOf_lets g h)
    have h2 := imgOf_len g h
    calc _ ≤ 12 ^ k * (imgOf I l).length := h1
      _ ≤ 12 ^ k * (12 * l.length) := Nat.mul_le_mul_left _ h2
      _ = 12 ^ (k + 1) * l.length := by rw [Nat.pow_succ, Nat.mul_assoc]

/-- An iterate of a letter is empty. -/
def dead (I : List (List UInt8)) : Nat → UInt8 → Bool
  | 0, _ => false
  | k + 1, c => (img I c).all (dead I k)
theorem dead_iff (I : List (List UInt8)) : ∀ (k : Nat) (l : List UInt8), hk I k l = [] ↔ ∀ c ∈ l, dead I k c = true
  | 0, l => by
    constructor
    · intro h; rw [hk_zero] at h; subst h; simp
    · intro h
      cases l with
      | nil => rfl
      | cons c l => have := h c (List.mem_cons_self ..); simp [dead] at this
  | k + 1, l => by
    rw [hk_head, dead_iff I k]
    constructor
    · intro h c hc
      rw [dead, List.all_eq_true]
      intro x hx
      exact h x (by rw [imgOf, List.mem_flatMap]; exact ⟨c, hc, hx⟩)
    · intro h x hx
      rw [imgOf, List.mem_flatMap] at hx
      obtain ⟨c, hc, hx⟩ := hx
      have := h c hc
      rw [dead, List.all_eq_true] at this
      exact this x hx
theorem dead_mono (I : List (List UInt8)) : ∀ (k : Nat) (c : UInt8), dead I k c = true → dead I (k + 1) c = true
  | 0, c, h => by simp [dead] at h
  | k + 1, c, h => by
    rw [dead, List.all_eq_true] at h ⊢
    exact fun x hx => dead_mono I k x (h x hx)
theorem dead_le (I : List (List UInt8)) {k j : Nat} (h : k ≤ j) {c : UInt8} (hd : dead I k c = true) : dead I j c = true := by
  obtain ⟨d, rfl⟩ : ∃ d, j = k + d := ⟨j - k, by omega⟩
  clear h
  induction d with
  | zero => exact hd
  | succ d ih => exact dead_mono I (k + d) c ih
theorem self_alive {I : List (List UInt8)} {a : UInt8} (h : a ∈ img I a) : ∀ k, dead I k a = false
  | 0 => rfl
  | k + 1 => by
    have := self_alive h k
    cases e : dead I (k + 1) a with
    | false => rfl
    | true =>
      rw [dead, List.all_eq_true] at e
      rw [e a h] at this
      cases this

theorem cp_le {α : Type} (p q : α → Bool) : ∀ (l : List α), (∀ x ∈ l, p x = true → q x = true) → l.countP p ≤ l.countP q
  | [], _ => by simp
  | x :: l, h => by
    have ih := cp_le p q l (fun y hy => h y (List.mem_cons_of_mem _ hy))
    have hx := h x (List.mem_cons_self ..)
    rw [List.countP_cons, List.countP_cons]
    cases e : p x with
    | false => simp; omega
    | true => simp [hx e]; omega
theorem cp_lt {α : Type} (p q : α → Bool) : ∀ (l : List α), (∀ x ∈ l, p x = true → q x = true) → (∃ x ∈ l, q x = true ∧ p x = false) → l.countP p < l.countP q
  | [], _, h => by obtain ⟨x, hx, _⟩ := h; cases hx
  | x :: l, h, hex => by
    have hx := h x (List.mem_cons_self ..)
    have h' : ∀ y ∈ l, p y = true → q y = true := fun y hy => h y (List.mem_cons_of_mem _ hy)
    rw [List.countP_cons, List.countP_cons]
    obtain ⟨y, hy, hq, hp⟩ := hex
    rcases List.mem_cons.1 hy with rfl | hy
    · have := cp_le p q l h'
      simp [hq, hp]; omega
    · have ih := cp_lt p q l h' ⟨y, hy, hq, hp⟩
      cases e : p x with
      | false => simp; omega
      | true => simp [hx e]; omega
theorem cp_all {α : Type} (p : α → Bool) (l : List α) (h : l.length ≤ l.countP p) : ∀ x ∈ l, p x = true := by
  intro x hx
  cases e : p x with
  | true => rfl
  | false =>
    have := cp_lt p (fun _ => true) l (fun _ _ _ => rfl) ⟨x, hx, rfl, e⟩
    simp at this
    omega

def dn (I : List (List UInt8)) (k i : Nat) : Bool := dead I k (letr i)
theorem dead_stable_or (I : List (List UInt8)) (g : Mor I) : ∀ k, (∀ j i, i < I.length → dn I j i = true → dn I k i = true) ∨ k ≤ (List.range I.length).countP (dn I k)
  | 0 => .inr (Nat.zero_le _)
  | k + 1 => by
    rcases dead_stable_or I g k with h | h
    · exact .inl fun j i hi hj => dead_mono I k _ (h j i hi hj)
    · by_cases e : ∃ i, i < I.length ∧ dn I (k + 1) i = true ∧ dn I k i = false
      · obtain ⟨i, hi, h1, h2⟩ := e
        have := cp_lt (dn I k) (dn I (k + 1)) (List.range I.length) (fun x _ hx => dead_mono I k _ hx) ⟨i, List.mem_range.2 hi, h1, h2⟩
        exact .inr (by omega)
      · left
        have st : ∀ i, i < I.length → dn I (k + 1) i = true → dn I k i = true := by
          intro i hi h1
          cases e2 : dn I k i with
          | true => rfl
          | false => exact absurd ⟨i, hi, h1, e2⟩ e
        have up : ∀ d i, i < I.length → dn I (k + d) i = true → dn I k i = true := by
          intro d
          induction d with
          | zero => intro i _ h; exact h
          | succ d ih =>
            intro i hi hd
            refine st i hi ?_
            unfold dn at hd ⊢
            rw [show k + (d + 1) = (k + d) + 1 by omega, dead, List.all_eq_true] at hd
            rw [dead, List.all_eq_true]
            intro x hx
            have h5 := g.len5
            have hli : (letr i).toNat - 97 < I.length := by rw [letr_nat (by omega)]; omega
            have hl := (g.img hli).2 x hx
            have h3 := ih (x.toNat - 97) hl.2
            unfold dn at h3
            rw [letr_of hl.1] at h3
            exact h3 (hd x hx)
        intro j i hi hj
        refine dead_mono I k _ (up j i hi ?_)
        exact dead_le I (Nat.le_add_left j k) hj
/-- Where a letter stands in its own image, letters that die do so in m - 1 steps. -/
theorem dead_bound {I : List (List UInt8)} (g : Mor I) {a : UInt8} (ha : a.toNat - 97 < I.length) (h97 : 97 ≤ a.toNat) (hs : a ∈ img I a) {c : UInt8} (hc : c.toNat - 97 < I.length) (hc97 : 97 ≤ c.toNat) {k : Nat} (hd : dead I k c = true) : dead I (I.length - 1) c = true := by
  have h1 := g.len1
  rcases dead_stable_or I g (I.length - 1) with h | h
  · have := h k (c.toNat - 97) hc (by unfold dn; rw [letr_of hc97]; exact hd)
    unfold dn at this
    rwa [letr_of hc97] at this
  · cases e : dead I (I.length - 1) c with
    | true => rfl
    | false =>
      exfalso
      have hca : c.toNat ≠ a.toNat := by
        intro e2
        have e3 : c = a := UInt8.toNat_inj.1 e2
        subst e3
        rw [self_alive hs k] at hd
        cases hd
      have h2 := cp_lt (dn I (I.length - 1)) (fun i => !decide (i = a.toNat - 97)) (List.range I.length) (fun x hx hp => by
        simp
        intro e2
        subst e2
        unfold dn at hp
        rw [letr_of h97, self_alive hs] at hp
        cases hp) ⟨c.toNat - 97, List.mem_range.2 hc, by simp; omega, by unfold dn; rw [letr_of hc97]; exact e⟩
      have h3 := cp_lt (fun i => !decide (i = a.toNat - 97)) (fun _ => true) (List.range I.length) (fun _ _ _ => rfl) ⟨a.toNat - 97, List.mem_range.2 ha, rfl, by simp⟩
      simp at h3
      omega

/-- Behind the letter, no iterate is empty. -/
def growsI (I : List (List UInt8)) (u : List UInt8) : Prop := ∀ k, k < I.length → hk I k u ≠ []
def growsS (I : List (List UInt8)) (u : List UInt8) : Prop := ∃ c ∈ u, ∀ k, dead I k c = false
theorem grows_iff {I : List (List UInt8)} (g : Mor I) {a : UInt8} (ha : a.toNat - 97 < I.length) (h97 : 97 ≤ a.toNat) {u : List UInt8} (hu : img I a = a :: u) : growsI I u ↔ growsS I u := by
  have hm : a ∈ img I a := by rw [hu]; exact List.mem_cons_self ..
  have hl := (g.img ha).2
  rw [hu] at hl
  have h1 := g.len1
  constructor
  · intro h
    have h2 := h (I.length - 1) (by omega)
    by_cases e : ∃ c ∈ u, dead I (I.length - 1) c = false
    · obtain ⟨c, hc, hd⟩ := e
      refine ⟨c, hc, fun k => ?_⟩
      cases e2 : dead I k c with
      | false => rfl
      | true =>
        have := hl c (List.mem_cons_of_mem _ hc)
        rw [dead_bound g ha h97 hm this.2 this.1 e2] at hd
        cases hd
    · refine absurd ((dead_iff I _ _).2 fun c hc => ?_) h2
      cases e2 : dead I (I.length - 1) c with
      | true => rfl
      | false => exact absurd ⟨c, hc, e2⟩ e
  · rintro ⟨c, hc, hd⟩ k _ he
    have := (dead_iff I k u).1 he c hc
    rw [hd k] at this
    cases this
theorem growsS_all {I : List (List UInt8)} {u : List UInt8} (h : growsS I u) : ∀ k, hk I k u ≠ [] := by
  obtain ⟨c, hc, hd⟩ := h
  intro k he
  have := (dead_iff I k u).1 he c hc
  rw [hd k] at this
  cases this

/-! ### Iterates of a letter that grows are beginnings of one another. -/
theorem hk_cons {I : List (List UInt8)} {a : UInt8} {u : List UInt8} (hu : img I a = a :: u) (k : Nat) : hk I (k + 1) [a] = hk I k [a] ++ hk I k u := by
  have e : imgOf I [a] = [a] ++ u := by
    show [a].flatMap (img I) = _
    simp [hu]
  rw [hk_head, e, hk_app]
theorem hk_pre {I : List (List UInt8)} {a : UInt8} {u : List UInt8} (hu : img I a = a :: u) {k j : Nat} (h : k ≤ j) : hk I k [a] <+: hk I j [a] := by
  obtain ⟨d, rfl⟩ : ∃ d, j = k + d := ⟨j - k, by omega⟩
  clear h
  induction d with
  | zero => exact List.prefix_refl _
  | succ d ih => exact ih.trans ⟨hk I (k + d) u, (hk_cons hu (k + d)).symm⟩
theorem hk_longer {I : List (List UInt8)} {a : UInt8} {u : List UInt8} (hu : img I a = a :: u) (h : ∀ k, hk I k u ≠ []) (k : Nat) : k < (hk I k [a]).length := by
  induction k with
  | zero => simp [hk]
  | succ k ih =>
    rw [hk_cons hu, List.length_append]
    have := List.length_pos_iff.2 (h k)
    omega
theorem pre_take {α : Type} {l m : List α} (h : l <+: m) {n : Nat} (hn : n ≤ l.length) : l.take n = m.take n := by
  obtain ⟨t, rfl⟩ := h
  rw [List.take_append_of_le_length hn]
/-- The grown word of n letters. -/
def grownW (I : List (List UInt8)) (a : UInt8) (n : Nat) : List UInt8 := (hk I n [a]).take n
theorem grown_of {I : List (List UInt8)} {a : UInt8} {u : List UInt8} (hu : img I a = a :: u) (h : ∀ k, hk I k u ≠ []) {n k : Nat} (hn : n ≤ (hk I k [a]).length) : (hk I k [a]).take n = grownW I a n := by
  unfold grownW
  rcases Nat.le_total k n with e | e
  · exact pre_take (hk_pre hu e) hn
  · exact (pre_take (hk_pre hu e) (by have := hk_longer hu h n; omega)).symm
/-- The images of the first p letters, of an iterate that is long enough, are more letters than p. -/
theorem img_more {I : List (List UInt8)} {a : UInt8} {u : List UInt8} (hu : img I a = a :: u) (h : ∀ k, hk I k u ≠ []) {p K : Nat} (hp : 1 ≤ p) (hK : p ≤ (hk I K [a]).length) : p < (imgOf I ((hk I K [a]).take p)).length := by
  apply Nat.lt_of_not_le
  intro hle
  have hpre : ∀ q r, q ≤ r → imgOf I ((hk I K [a]).take q) <+: imgOf I ((hk I K [a]).take r) := by
    intro q r hqr
    have : (hk I K [a]).take q <+: (hk I K [a]).take r := List.take_prefix_take_left hqr
    obtain ⟨t, ht⟩ := this
    rw [← ht, imgOf_app]
    exact List.prefix_append _ _
  -- every iterate is at most the first p letters
  have all : ∀ k, (hk I k [a]).length ≤ p ∧ hk I k [a] <+: (hk I (k + K) [a]).take p := by
    intro k
    induction k with
    | zero =>
      refine ⟨hp, ?_⟩
      rw [Nat.zero_add, hk_zero]
      have : [a] <+: hk I K [a] := hk_pre hu (Nat.zero_le K)
      exact (List.prefix_take_iff.2 ⟨this, hp⟩)
    | succ k ih =>
      have hy : (hk I (k + K) [a]).take p = (hk I K [a]).take p := (pre_take (hk_pre hu (by omega)) hK).symm
      obtain ⟨t, ht⟩ := ih.2
      have h2 : hk I (k + 1) [a] <+: imgOf I ((hk I K [a]).take p) := by
        rw [hk_succ, ← hy, ← ht, imgOf_app]
        exact List.prefix_append _ _
      have h3 := h2.length_le
      refine ⟨by omega, List.prefix_take_iff.2 ⟨hk_pre hu (by omega), by omega⟩⟩
  have := (all p).1
  have := hk_longer hu h p
  omega
end Go.Proofs.Ytddfdciohnabbab
