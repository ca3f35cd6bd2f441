/- Plain facts: closed and privileged words. -/
import Derived.Test.YthjbdcoklgnnlaaRich2Plain
import Derived.Lib.Index
namespace Go.Proofs.Ythjbdcoklgnnlaa
set_option linter.unusedVariables false
set_option linter.unusedSimpArgs false
open Classical

/-- The first b letters stand at no other place than at the beginning and at the end. -/
def Tw (l : List UInt8) (b : Nat) : Prop := ∀ i, 1 ≤ i → i + b < l.length → ¬ SA (at_ l) i 0 b
/-- A border of at least 1 of this kind. -/
def Cl (l : List UInt8) (b : Nat) : Prop := 1 ≤ b ∧ b < l.length ∧ Per l (l.length - b) ∧ Tw l b
theorem Cl.eq {l : List UInt8} {b : Nat} (h : Cl l b) : b = l.length - lp l := by
  obtain ⟨h1, h2, h3, h4⟩ := h
  have hne : l ≠ [] := fun e => by subst e; simp at h2
  obtain ⟨p0, p1, p2, _⟩ := lp_ok hne
  have hle := lp_le hne (by omega : 0 < l.length - b) h3
  refine Nat.le_antisymm (by omega) (Nat.le_of_not_lt fun hc => ?_)
  refine h4 (l.length - lp l - b) (by omega) (by omega) fun d hd => ?_
  have e1 := p2 (l.length - lp l - b + d) (by omega)
  have e2 := h3 (0 + d) (by omega)
  unfold at_
  rw [e1, e2]
  congr 1
  omega
theorem cl_lp {l : List UInt8} (hn : l ≠ []) (h : 0 < l.length - lp l) (ht : Tw l (l.length - lp l)) : Cl l (l.length - lp l) := by
  obtain ⟨p0, p1, p2, _⟩ := lp_ok hn
  exact ⟨h, by omega, by rw [show l.length - (l.length - lp l) = lp l by omega]; exact p2, ht⟩
/-- This border, 0 if there is none. -/
noncomputable def cb (l : List UInt8) : Nat := if ∃ b, Cl l b then l.length - lp l else 0
theorem cb_of {l : List UInt8} {b : Nat} (h : Cl l b) : cb l = b := by unfold cb; rw [if_pos ⟨b, h⟩, h.eq]
theorem cb_none {l : List UInt8} (h : ¬ ∃ b, Cl l b) : cb l = 0 := by unfold cb; rw [if_neg h]
theorem cb_some {l : List UInt8} (h : 0 < cb l) : Cl l (cb l) := by
  by_cases k : ∃ b, Cl l b
  · obtain ⟨b, hb⟩ := k
    rw [cb_of hb]; exact hb
  · rw [cb_none k] at h; omega
theorem cb_lt {l : List UInt8} (h : 0 < cb l) : cb l < l.length := (cb_some h).2.1
noncomputable def clB (l : List UInt8) : Bool := decide (l.length ≤ 1) || decide (0 < cb l)
noncomputable def prF : Nat → List UInt8 → Bool
  | 0, _ => true
  | f + 1, l => decide (l.length ≤ 1) || (decide (0 < cb l) && prF f (l.take (cb l)))
theorem prF_more : ∀ (f g : Nat) (l : List UInt8), l.length ≤ f → l.length ≤ g → prF f l = prF g l
  | 0, 0, _, _, _ => rfl
  | 0, g + 1, l, h, _ => by
    have : decide (l.length ≤ 1) = true := decide_eq_true (by omega)
    rw [prF, prF, this]; rfl
  | f + 1, 0, l, _, h => by
    have : decide (l.length ≤ 1) = true := decide_eq_true (by omega)
    rw [prF, prF, this]; rfl
  | f + 1, g + 1, l, h1, h2 => by
    rw [prF, prF]
    by_cases hc : 0 < cb l
    · have h3 := cb_lt hc
      rw [prF_more f g (l.take (cb l)) (by rw [List.length_take]; omega) (by rw [List.length_take]; omega)]
    · rw [decide_eq_false hc]; rfl
noncomputable def prB (l : List UInt8) : Bool := prF l.length l
theorem prB_short {l : List UInt8} (h : l.length ≤ 1) : prB l = true := by
  unfold prB
  rw [prF_more _ (l.length + 1) l (Nat.le_refl _) (by omega), prF, decide_eq_true h]; rfl
theorem prB_long {l : List UInt8} (h : ¬ l.length ≤ 1) (hc : 0 < cb l) : prB l = prB (l.take (cb l)) := by
  have h3 := cb_lt hc
  unfold prB
  rw [prF_more _ (l.length + 1) l (Nat.le_refl _) (by omega), prF, decide_eq_false h, decide_eq_true hc]
  simp only [Bool.false_or, Bool.true_and]
  exact prF_more _ _ _ (by rw [List.length_take]; omega) (Nat.le_refl _)
theorem prB_none {l : List UInt8} (h : ¬ l.length ≤ 1) (hc : ¬ 0 < cb l) : prB l = false := by
  unfold prB
  rw [prF_more _ (l.length + 1) l (Nat.le_refl _) (by omega), prF, decide_eq_false h, decide_eq_false hc]; rfl
theorem clB_short {l : List UInt8} (h : l.length ≤ 1) : clB l = true := by unfold clB; rw [decide_eq_true h]; rfl
theorem clB_long {l : List UInt8} (h : ¬ l.length ≤ 1) : clB l = decide (0 < cb l) := by unfold clB; rw [decide_eq_false h]; rfl
/-- Privileged words are closed. -/
theorem pr_cl {l : List UInt8} (h : prB l = true) : clB l = true := by
  by_cases h1 : l.length ≤ 1
  · exact clB_short h1
  · rw [clB_long h1]
    by_cases hc : 0 < cb l
    · exact decide_eq_true hc
    · rw [prB_none h1 hc] at h; cases h

/-! ### As the functions ask. -/
theorem sa_occ (l : List UInt8) (i b : Nat) (h : i + b ≤ l.length) : SA (at_ l) i 0 b ↔ (l.drop i).take b = l.take b := by
  constructor
  · intro h2
    apply List.ext_getElem?
    intro d
    by_cases hd : d < b
    · rw [List.getElem?_take_of_lt hd, List.getElem?_take_of_lt hd, List.getElem?_drop]
      have := h2 d hd
      rw [Nat.zero_add] at this
      exact this
    · rw [List.getElem?_eq_none (by rw [List.length_take]; omega), List.getElem?_eq_none (by rw [List.length_take]; omega)]
  · intro h2 d hd
    have : ((l.drop i).take b)[d]? = (l.take b)[d]? := by rw [h2]
    rw [List.getElem?_take_of_lt hd, List.getElem?_take_of_lt hd, List.getElem?_drop] at this
    rw [Nat.zero_add]
    exact this
theorem occ_iff (l : List UInt8) (i b : Nat) (h0 : 0 < b) (hb : b ≤ l.length) : Lib.occAt (l.drop 1) (l.take b) i = true ↔ 1 + i + b ≤ l.length ∧ SA (at_ l) (1 + i) 0 b := by
  have hl : (l.take b).length = b := by rw [List.length_take, Nat.min_eq_left hb]
  unfold Lib.occAt
  rw [List.isPrefixOf_iff_prefix, List.drop_drop]
  constructor
  · rintro h
    have h3 := h.length_le
    rw [hl, List.length_drop] at h3
    have h2 := List.prefix_iff_eq_take.1 h
    rw [hl] at h2
    exact ⟨by omega, (sa_occ l (1 + i) b (by omega)).2 h2.symm⟩
  · rintro ⟨h1, h2⟩
    rw [List.prefix_iff_eq_take, hl]
    exact ((sa_occ l (1 + i) b h1).1 h2).symm
theorem index_le (s sub : List UInt8) : ∀ i, i ≤ s.length → Lib.occAt s sub i = true → Lib.index s sub ≤ i := by
  intro i
  induction i using Nat.strongRecOn with
  | ind i ih =>
    intro hi h
    by_cases k : ∃ j, j < i ∧ Lib.occAt s sub j = true
    · obtain ⟨j, hj, e⟩ := k
      have := ih j hj (by omega) e
      omega
    · rw [Lib.index_first hi h fun j hj => by
        rw [Bool.eq_false_iff]; intro e; exact k ⟨j, hj, e⟩]
      exact Int.le_refl _
/-- What strings.Index tells of the border. -/
theorem cb_index {l : List UInt8} (hn : l ≠ []) (h0 : 0 < l.length - lp l) : Lib.index (l.drop 1) (l.take (l.length - lp l)) = (l.length : Int) - (l.length - lp l : Nat) - 1 ↔ 0 < cb l := by
  obtain ⟨p0, p1, p2, _⟩ := lp_ok hn
  have hend : SA (at_ l) (lp l) 0 (l.length - lp l) := fun d hd => by
    unfold at_
    rw [Nat.zero_add, Nat.add_comm]
    exact (p2 d (by omega)).symm
  have hocc : Lib.occAt (l.drop 1) (l.take (l.length - lp l)) (lp l - 1) = true := (occ_iff l _ _ h0 (by omega)).2 ⟨by omega, by rw [show 1 + (lp l - 1) = lp l by omega]; exact hend⟩
  constructor
  · intro h
    have : Cl l (l.length - lp l) := cl_lp hn h0 fun i hi hib hs => by
      have := index_le (l.drop 1) (l.take (l.length - lp l)) (i - 1) (by rw [List.length_drop]; omega) ((occ_iff l _ _ h0 (by omega)).2 ⟨by omega, by rw [show 1 + (i - 1) = i by omega]; exact hs⟩)
      omega
    rw [cb_of this]; exact h0
  · intro h
    have hc := cb_some h
    have e := hc.eq
    rw [Lib.index_first (i := lp l - 1) (by rw [List.length_drop]; omega) hocc fun j hj => by
      rw [Bool.eq_false_iff]
      intro k
      obtain ⟨k1, k2⟩ := (occ_iff l _ _ h0 (by omega)).1 k
      exact hc.2.2.2 (1 + j) (by omega) (by omega) (by rw [e]; exact k2)]
    omega
theorem cb_val {l : List UInt8} (h : 0 < cb l) : cb l = l.length - lp l := (cb_some h).eq
theorem cb_zero {l : List UInt8} (hn : l ≠ []) (h : ¬ 0 < l.length - lp l) : cb l = 0 := by
  refine cb_none fun ⟨b, hb⟩ => ?_
  have := hb.eq
  have := hb.1
  omega
/-- The model's tests of a border. -/
theorem tw_no {x : ByteArray} {i b : Nat} (h1 : 1 ≤ i) (h2 : i + b < x.size) (h : x.extract i (i + b) = x.extract 0 b) : ¬ Tw (bl x) b := fun k => k i h1 h2 (by
  have := ext_sa (x := x) (i := i) (j := 0) (m := b) (by omega) (by omega) (by rw [Nat.zero_add]; exact h)
  exact this)
theorem tw_step {x : ByteArray} {i b : Nat} (h : ∀ j, 1 ≤ j → j < i → j + b < x.size → ¬ SA (at_ (bl x)) j 0 b) (h2 : i + b < x.size) (hne : ¬ x.extract i (i + b) = x.extract 0 b) : ∀ j, 1 ≤ j → j < i + 1 → j + b < x.size → ¬ SA (at_ (bl x)) j 0 b := fun j h1 hj hb => by
  by_cases e : j = i
  · subst e
    intro k
    refine hne ?_
    have := ext_eq (x := x) (i := j) (j := 0) (m := b) (by omega) (by omega) k
    rwa [Nat.zero_add] at this
  · exact h j h1 (by omega) hb
/-- What is answered. -/
noncomputable def iscR (x : ByteArray) : Bool × Int := if ¬ IsW x then (false, 1) else (clB (bl x), 0)
theorem iscR_bad {x : ByteArray} (h : ¬ IsW x) : iscR x = (false, 1) := if_pos h
theorem iscR_ok {x : ByteArray} (h : IsW x) : iscR x = (clB (bl x), 0) := by unfold iscR; rw [if_neg (not_not_intro h)]
noncomputable def isprR (x : ByteArray) : Bool × Int := if ¬ IsW x then (false, 1) else (prB (bl x), 0)
theorem isprR_bad {x : ByteArray} (h : ¬ IsW x) : isprR x = (false, 1) := if_pos h
theorem isprR_ok {x : ByteArray} (h : IsW x) : isprR x = (prB (bl x), 0) := by unfold isprR; rw [if_neg (not_not_intro h)]
noncomputable def clT (x : ByteArray) : Bool := clB (bl x)
noncomputable def prT (x : ByteArray) : Bool := prB (bl x)
noncomputable def ccR (x : ByteArray) : Int × Int × Int := if ¬ IsW x then (0, 0, 1) else (((dfT clT x x.size).length : Int), ((dfT prT x x.size).length : Int), 0)
theorem ccR_bad {x : ByteArray} (h : ¬ IsW x) : ccR x = (0, 0, 1) := if_pos h
theorem ccR_ok {x : ByteArray} (h : IsW x) : ccR x = (((dfT clT x x.size).length : Int), ((dfT prT x x.size).length : Int), 0) := by unfold ccR; rw [if_neg (not_not_intro h)]

end Go.Proofs.Ythjbdcoklgnnlaa
