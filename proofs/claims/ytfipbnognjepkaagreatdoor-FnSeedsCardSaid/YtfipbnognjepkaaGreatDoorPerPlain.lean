/- Plain facts: periods and borders of a list of letters; the least period. -/
import Derived.Test.YtfipbnognjepkaaGreatDoorPlain
namespace Go.Proofs.YtfipbnognjepkaaGreatDoor
set_option linter.unusedVariables false
set_option linter.unusedSimpArgs false

/-- p is a period: the letters p places apart are equal. -/
def Per (l : List UInt8) (p : Nat) : Prop := ∀ i, i + p < l.length → l[i]? = l[i + p]?
/-- The same, as it is tested. -/
def perT (l : List UInt8) (p : Nat) : Bool := l.drop p == l.take (l.length - p)
theorem perT_iff (l : List UInt8) (p : Nat) : perT l p = true ↔ Per l p := by
  unfold perT Per
  rw [beq_iff_eq]
  constructor
  · intro h i hi
    have h1 : (l.drop p)[i]? = (l.take (l.length - p))[i]? := by rw [h]
    rw [List.getElem?_drop, List.getElem?_take_of_lt (by omega), Nat.add_comm p i] at h1
    exact h1.symm
  · intro h
    apply List.ext_getElem?
    intro i
    rw [List.getElem?_drop, Nat.add_comm p i]
    by_cases hi : i + p < l.length
    · rw [List.getElem?_take_of_lt (by omega), h i hi]
    · rw [List.getElem?_eq_none (by omega), List.getElem?_eq_none (by rw [List.length_take]; omega)]
theorem per_all (l : List UInt8) : Per l l.length := fun i hi => by omega
theorem per_mul {l : List UInt8} {p : Nat} (h : Per l p) : ∀ (m i : Nat), i + m * p < l.length → l[i]? = l[i + m * p]?
  | 0, i, _ => by simp
  | m + 1, i, hi => by
    rw [Nat.succ_mul] at hi ⊢
    rw [per_mul h m i (by omega), h (i + m * p) (by omega)]
    congr 1
    omega

def IsLp (l : List UInt8) (p : Nat) : Prop := 0 < p ∧ p ≤ l.length ∧ Per l p ∧ ∀ q, 0 < q → q < p → ¬ Per l q
theorem isLp_ex {l : List UInt8} (h : l ≠ []) : ∃ p, IsLp l p := by
  have hl : 0 < l.length := List.length_pos_iff.2 h
  have key : ∀ n p, 0 < p → p ≤ l.length → n = l.length - p → (∀ q, 0 < q → q < p → ¬ Per l q) → ∃ p, IsLp l p := by
    intro n
    induction n with
    | zero =>
      intro p p0 p1 e hk
      obtain rfl : p = l.length := by omega
      exact ⟨_, p0, p1, per_all l, hk⟩
    | succ n ih =>
      intro p p0 p1 e hk
      by_cases hd : Per l p
      · exact ⟨p, p0, p1, hd, hk⟩
      · refine ih (p + 1) (by omega) (by omega) (by omega) fun q q0 q1 => ?_
        by_cases e2 : q = p
        · subst e2; exact hd
        · exact hk q q0 (by omega)
  exact key _ 1 (by omega) (by omega) rfl (fun q _ _ => by omega)
theorem isLp_uniq {l : List UInt8} {p q : Nat} (h : IsLp l p) (k : IsLp l q) : p = q := by
  rcases Nat.lt_trichotomy p q with e | e | e
  · exact absurd h.2.2.1 (k.2.2.2 p h.1 e)
  · exact e
  · exact absurd k.2.2.1 (h.2.2.2 q k.1 e)
noncomputable def lp (l : List UInt8) : Nat := if h : l ≠ [] then (isLp_ex h).choose else 0
theorem lp_ok {l : List UInt8} (h : l ≠ []) : IsLp l (lp l) := by unfold lp; rw [dif_pos h]; exact (isLp_ex h).choose_spec
theorem lp_of {l : List UInt8} {p : Nat} (h : IsLp l p) : lp l = p := isLp_uniq (lp_ok (fun e => by have := h.2.1; rw [e] at this; simp at this; have := h.1; omega)) h
theorem lp_le {l : List UInt8} {q : Nat} (h : l ≠ []) (h0 : 0 < q) (hq : Per l q) : lp l ≤ q := by
  refine Nat.le_of_not_lt fun k => ?_
  exact (lp_ok h).2.2.2 q h0 k hq

/-- The periods up to N, and the borders below N. -/
def persR (l : List UInt8) (N : Nat) : List Int := ((List.range N).filter fun i => perT l (i + 1)).map fun (i : Nat) => (i : Int) + 1
def bordsR (l : List UInt8) (N : Nat) : List Int := ((List.range N).filter fun b => perT l (l.length - b)).map Int.ofNat
theorem persR_zero (l : List UInt8) : persR l 0 = [] := rfl
theorem bordsR_zero (l : List UInt8) : bordsR l 0 = [] := rfl
theorem persR_hit (l : List UInt8) (k : Nat) (h : perT l (k + 1) = true) : persR l (k + 1) = persR l k ++ [(k : Int) + 1] := by simp [persR, List.range_succ, h]
theorem persR_miss (l : List UInt8) (k : Nat) (h : perT l (k + 1) = false) : persR l (k + 1) = persR l k := by simp [persR, List.range_succ, h]
theorem bordsR_hit (l : List UInt8) (k : Nat) (h : perT l (l.length - k) = true) : bordsR l (k + 1) = bordsR l k ++ [(k : Int)] := by simp [bordsR, List.range_succ, h]
theorem bordsR_miss (l : List UInt8) (k : Nat) (h : perT l (l.length - k) = false) : bordsR l (k + 1) = bordsR l k := by simp [bordsR, List.range_succ, h]
theorem persR_len (l : List UInt8) (N : Nat) : (persR l N).length ≤ N := by
  unfold persR; rw [List.length_map]; have := List.length_filter_le (fun i => perT l (i + 1)) (List.range N); rwa [List.length_range] at this
theorem bordsR_len (l : List UInt8) (N : Nat) : (bordsR l N).length ≤ N := by
  unfold bordsR; rw [List.length_map]; have := List.length_filter_le (fun b => perT l (l.length - b)) (List.range N); rwa [List.length_range] at this
theorem persR_mem {l : List UInt8} {N : Nat} {z : Int} (h : z ∈ persR l N) : 1 ≤ z ∧ z ≤ N := by
  obtain ⟨i, hi, rfl⟩ := List.mem_map.1 h
  have := List.mem_range.1 (List.mem_filter.1 hi).1
  omega
theorem bordsR_mem {l : List UInt8} {N : Nat} {z : Int} (h : z ∈ bordsR l N) : 0 ≤ z ∧ z < N := by
  obtain ⟨i, hi, rfl⟩ := List.mem_map.1 h
  have := List.mem_range.1 (List.mem_filter.1 hi).1
  simp only [Int.ofNat_eq_natCast]
  omega

theorem range_rev (n : Nat) : (List.range n).reverse = (List.range n).map fun i => n - 1 - i := by
  apply List.ext_getElem
  · simp
  · intro i h1 h2
    simp
/-- The borders are the periods read backwards. -/
theorem bords_eq (l : List UInt8) : bordsR l l.length = (persR l l.length).reverse.map fun z => (l.length : Int) - z := by
  unfold bordsR persR
  rw [← List.map_reverse, ← List.filter_reverse, range_rev, List.filter_map, List.map_map, List.map_map]
  have h1 : (List.range l.length).filter (fun b => perT l (l.length - b)) = (List.range l.length).filter ((fun i => perT l (i + 1)) ∘ fun i => l.length - 1 - i) := by
    refine List.filter_congr fun b hb => ?_
    have := List.mem_range.1 hb
    simp only [Function.comp_apply]
    congr 1
    omega
  rw [h1]
  refine List.map_congr_left fun b hb => ?_
  have := List.mem_range.1 (List.mem_filter.1 hb).1
  simp only [Function.comp_apply, Int.ofNat_eq_natCast]
  omega
theorem pers_eq (l : List UInt8) : ((bordsR l l.length).map fun z => (l.length : Int) - z).reverse = persR l l.length := by
  rw [bords_eq, List.map_map, ← List.map_reverse, List.reverse_reverse]
  have : ((fun z => (l.length : Int) - z) ∘ fun z => (l.length : Int) - z) = id := by funext z; simp only [Function.comp_apply, id]; omega
  rw [this, List.map_id]

theorem pers_none {l : List UInt8} : ∀ (k : Nat), (∀ q, 0 < q → q ≤ k → ¬ Per l q) → persR l k = []
  | 0, _ => rfl
  | k + 1, h => by
    have : perT l (k + 1) = false := by
      rw [Bool.eq_false_iff]; intro e; exact h (k + 1) (by omega) (Nat.le_refl _) ((perT_iff _ _).1 e)
    rw [persR_miss l k this]
    exact pers_none k fun q h0 h1 => h q h0 (by omega)
theorem persR_pre (l : List UInt8) (k : Nat) : ∀ m, ∃ t, persR l (k + m) = persR l k ++ t
  | 0 => ⟨[], by simp⟩
  | m + 1 => by
    obtain ⟨t, ht⟩ := persR_pre l k m
    by_cases h : perT l (k + m + 1) = true
    · exact ⟨t ++ [((k + m : Nat) : Int) + 1], by rw [← Nat.add_assoc, persR_hit l (k + m) h, ht, List.append_assoc]⟩
    · exact ⟨t, by rw [← Nat.add_assoc, persR_miss l (k + m) (by simpa using h), ht]⟩
/-- The first of them is the least period. -/
theorem pers_head {l : List UInt8} (h : l ≠ []) : ∃ t, persR l l.length = (lp l : Int) :: t := by
  obtain ⟨h0, h1, h2, h3⟩ := lp_ok h
  obtain ⟨t, ht⟩ := persR_pre l (lp l) (l.length - lp l)
  rw [show lp l + (l.length - lp l) = l.length by omega] at ht
  have h4 : persR l (lp l - 1) = [] := pers_none _ fun q q0 q1 => h3 q q0 (by omega)
  have h5 := persR_hit l (lp l - 1) (by rw [show lp l - 1 + 1 = lp l by omega]; exact (perT_iff _ _).2 h2)
  rw [show lp l - 1 + 1 = lp l by omega, h4, show ((lp l - 1 : Nat) : Int) + 1 = (lp l : Int) by omega] at h5
  exact ⟨t, by rw [ht, h5]; rfl⟩

/-! ### Texts. -/
/-- The letters of a text. -/
abbrev bl (x : ByteArray) : List UInt8 := x.data.toList
theorem bl_len (x : ByteArray) : (bl x).length = x.size := rfl
theorem bl_extract (x : ByteArray) (a b : Nat) : bl (x.extract a b) = ((bl x).drop a).take (b - a) := by
  simp [bl, ByteArray.data_extract]
theorem bl_inj {a b : ByteArray} (h : bl a = bl b) : a = b := by
  have h3 : a.data = b.data := by rw [← Array.toList_inj]; exact h
  cases a; cases b; simp_all
theorem bl_eq {a b : ByteArray} : a = b ↔ bl a = bl b := ⟨fun h => by rw [h], bl_inj⟩
theorem bl_append (a b : ByteArray) : bl (a ++ b) = bl a ++ bl b := by simp [bl, ByteArray.data_append]
theorem bl_ne {x : ByteArray} (h : 0 < x.size) : bl x ≠ [] := fun e => by have h1 : (bl x).length = 0 := (by rw [e]; rfl); rw [bl_len] at h1; omega
theorem per_text (x : ByteArray) (p : Nat) (h : p ≤ x.size) : x.extract p x.size = x.extract 0 (x.size - p) ↔ perT (bl x) p = true := by
  rw [bl_eq, bl_extract, bl_extract, perT, beq_iff_eq, bl_len, List.drop_zero]
  rw [List.take_of_length_le (by rw [List.length_drop, bl_len]; omega), Nat.sub_zero]
theorem bl_drop (x : ByteArray) (k : Nat) : bl (x.extract k x.size) = (bl x).drop k := by
  rw [bl_extract, List.take_of_length_le (by rw [List.length_drop, bl_len]; omega)]
theorem bl_take (x : ByteArray) (k : Nat) : bl (x.extract 0 k) = (bl x).take k := by
  rw [bl_extract, List.drop_zero, Nat.sub_zero]

end Go.Proofs.YtfipbnognjepkaaGreatDoor
