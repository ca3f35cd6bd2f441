/- Plain facts: a word of at least two letters has a critical place ahead of its least period. -/
import Derived.Test.YtkemdiefoohdjabGreatLexPlain
import Derived.Test.YtkemdiefoohdjabGreatPerPlain
namespace Go.Proofs.YtkemdiefoohdjabGreat
set_option linter.unusedVariables false
set_option linter.unusedSimpArgs false

/-- A repetition of p letters around the place i. -/
def LocOK (l : List UInt8) (i p : Nat) : Prop := ∀ j, j < i → i ≤ j + p → j + p < l.length → l[j]? = l[j + p]?
theorem per_loc {l : List UInt8} {p : Nat} (h : Per l p) (i : Nat) : LocOK l i p := fun j _ _ h3 => h j h3

/-- The letters in the other order. -/
def ng (l : List UInt8) : List UInt8 := l.map fun c => ~~~c
theorem ng_ng (l : List UInt8) : ng (ng l) = l := by
  unfold ng
  rw [List.map_map]
  have : ((fun c : UInt8 => ~~~c) ∘ fun c => ~~~c) = id := by funext c; simp [UInt8.not_not]
  rw [this, List.map_id]
theorem ng_len (l : List UInt8) : (ng l).length = l.length := by unfold ng; rw [List.length_map]
theorem ng_drop (l : List UInt8) (k : Nat) : (ng l).drop k = ng (l.drop k) := by unfold ng; rw [List.map_drop]
theorem ng_append (a b : List UInt8) : ng (a ++ b) = ng a ++ ng b := by unfold ng; rw [List.map_append]
theorem not_lt_not (a b : UInt8) : ~~~a < ~~~b ↔ b < a := by
  rw [UInt8.lt_iff_toNat_lt, UInt8.lt_iff_toNat_lt, UInt8.toNat_not, UInt8.toNat_not]
  have h1 := a.toNat_lt
  have h2 := b.toNat_lt
  have h3 : UInt8.size = 256 := rfl
  omega
theorem ng_get (l : List UInt8) (i : Nat) : (ng l)[i]? = l[i]?.map fun c => ~~~c := by unfold ng; rw [List.getElem?_map]
theorem opt_inj {a b : Option UInt8} (h : a.map (fun c => ~~~c) = b.map fun c => ~~~c) : a = b := by
  cases a with
  | none => cases b with
    | none => rfl
    | some y => cases h
  | some x => cases b with
    | none => cases h
    | some y =>
      have h1 : ~~~x = ~~~y := Option.some.inj h
      have h2 : ~~~(~~~x) = ~~~(~~~y) := by rw [h1]
      rw [UInt8.not_not, UInt8.not_not] at h2
      rw [h2]
theorem ng_per {l : List UInt8} {p : Nat} : Per (ng l) p ↔ Per l p := by
  unfold Per
  simp only [ng_len, ng_get]
  exact ⟨fun h i hi => opt_inj (h i hi), fun h i hi => by rw [h i hi]⟩
theorem ng_loc {l : List UInt8} {i p : Nat} : LocOK (ng l) i p ↔ LocOK l i p := by
  unfold LocOK
  simp only [ng_len, ng_get]
  exact ⟨fun h j h1 h2 h3 => opt_inj (h j h1 h2 h3), fun h j h1 h2 h3 => by rw [h j h1 h2 h3]⟩
theorem ng_isLp {l : List UInt8} {p : Nat} (h : IsLp l p) : IsLp (ng l) p := ⟨h.1, by rw [ng_len]; exact h.2.1, ng_per.2 h.2.2.1, fun q q0 q1 k => h.2.2.2 q q0 q1 (ng_per.1 k)⟩

/-- Less in neither order: the beginning. -/
theorem prefix_of_both : ∀ {a b : List UInt8}, ¬ a < b → ¬ ng a < ng b → b <+: a
  | [], [], _, _ => List.nil_prefix
  | [], y :: b, h, _ => absurd (by simp) h
  | x :: a, [], _, _ => List.nil_prefix
  | x :: a, y :: b, h, k => by
    simp only [ng, List.map_cons] at k
    rw [List.cons_lt_cons_iff] at h k
    rw [not_lt_not] at k
    have e : x = y := UInt8.le_antisymm (UInt8.not_lt.1 fun q => k (.inl q)) (UInt8.not_lt.1 fun q => h (.inl q))
    subst e
    exact List.cons_prefix_cons.2 ⟨rfl, prefix_of_both (fun q => h (.inr ⟨rfl, q⟩)) (fun q => k (.inr ⟨rfl, q⟩))⟩

/-- The rest from u on is a greatest one. -/
def Mx (l : List UInt8) (u : Nat) : Prop := u < l.length ∧ ∀ k, ¬ l.drop u < l.drop k
theorem mx_ex {l : List UInt8} (h : 0 < l.length) : ∃ u, Mx l u := by
  have key : ∀ m, 0 < m → m ≤ l.length → ∃ u, u < m ∧ ∀ k, k < m → ¬ l.drop u < l.drop k := by
    intro m
    induction m with
    | zero => intro h; omega
    | succ m ih =>
      intro _ hm
      by_cases h0 : m = 0
      · subst h0
        exact ⟨0, by omega, fun k hk => by rw [show k = 0 by omega]; exact List.lt_irrefl _⟩
      · obtain ⟨u, hu, hk⟩ := ih (by omega) (by omega)
        by_cases hd : l.drop u < l.drop m
        · refine ⟨m, by omega, fun k hk2 hlt => ?_⟩
          by_cases e : k = m
          · subst e; exact List.lt_irrefl _ hlt
          · exact hk k (by omega) (List.lt_trans hd hlt)
        · refine ⟨u, by omega, fun k hk2 => ?_⟩
          by_cases e : k = m
          · subst e; exact hd
          · exact hk k (by omega)
  obtain ⟨u, hu, hk⟩ := key l.length h (Nat.le_refl _)
  refine ⟨u, hu, fun k hlt => ?_⟩
  by_cases e : k < l.length
  · exact hk k e hlt
  · have e2 : l.drop k = [] := List.drop_eq_nil_of_le (by omega)
    rw [e2] at hlt
    exact List.not_lt_nil _ hlt

/-- A repetition around the head of the greatest rest is longer than what lies ahead. -/
theorem mx_loc {l : List UInt8} {u r : Nat} (h : Mx l u) (h0 : 0 < r) (hr : LocOK l u r) : u < r := by
  refine Nat.lt_of_not_le fun hle => ?_
  obtain ⟨hu, hk⟩ := h
  have hvl : (l.drop u).length = l.length - u := List.length_drop
  by_cases hc : r ≤ l.length - u
  · have e1 : l.drop (u - r) = (l.drop u).take r ++ l.drop u := by
      apply List.ext_getElem?
      intro i
      rw [List.getElem?_drop]
      by_cases hi : i < r
      · rw [List.getElem?_append_left (by rw [List.length_take]; omega), List.getElem?_take_of_lt hi, List.getElem?_drop]
        rw [hr (u - r + i) (by omega) (by omega) (by omega)]
        congr 1
        omega
      · rw [List.getElem?_append_right (by rw [List.length_take]; omega), List.length_take, List.getElem?_drop]
        congr 1
        omega
    have e2 : l.drop u = (l.drop u).take r ++ (l.drop u).drop r := (List.take_append_drop r _).symm
    have k1 := hk (u - r)
    have k2 := hk (u + r)
    rw [← List.drop_drop] at k2
    have k3 : ¬ (l.drop u).drop r < l.drop u := by
      intro q
      apply k1
      rw [e1]
      conv => lhs; rw [e2]
      exact (append_lt_left _).2 q
    have e3 : (l.drop u).drop r = l.drop u := List.le_antisymm (List.not_lt.1 k2) (List.not_lt.1 k3)
    have := congrArg List.length e3
    rw [List.length_drop, hvl] at this
    omega
  · refine hk (u - r) (prefix_lt ?_ (by rw [List.length_drop, List.length_drop]; omega))
    rw [List.prefix_iff_eq_take]
    apply List.ext_getElem?
    intro i
    by_cases hi : i < l.length - u
    · rw [List.getElem?_take_of_lt (by omega), List.getElem?_drop, List.getElem?_drop, hr (u - r + i) (by omega) (by omega) (by omega)]
      congr 1
      omega
    · rw [List.getElem?_eq_none (by omega), List.getElem?_eq_none (by rw [List.length_take]; omega)]

theorem mx_per {l : List UInt8} {u u2 r : Nat} (h : Mx l u) (h2 : Mx (ng l) u2) (hle : u2 ≤ u) (hr : LocOK l u r) (hur : u < r) : Per l r := by
  obtain ⟨hu, hk⟩ := h
  obtain ⟨hu2, hk2⟩ := h2
  intro i hi
  by_cases hc : r ≤ l.length - u
  · have hlow : ∀ j, j < u → l[j]? = l[j + r]? := fun j hj => hr j hj (by omega) (by omega)
    by_cases hiu : i < u
    · exact hlow i hiu
    · have e1 : l.drop (u2 + r) = (l.drop u2).take (u - u2) ++ l.drop (u + r) := by
        apply List.ext_getElem?
        intro j
        rw [List.getElem?_drop]
        by_cases hj : j < u - u2
        · rw [List.getElem?_append_left (by rw [List.length_take, List.length_drop]; omega), List.getElem?_take_of_lt hj, List.getElem?_drop, hlow (u2 + j) (by omega)]
          congr 1
          omega
        · rw [List.getElem?_append_right (by rw [List.length_take, List.length_drop]; omega), List.length_take, List.length_drop, List.getElem?_drop]
          congr 1
          omega
      have e2 : l.drop u2 = (l.drop u2).take (u - u2) ++ l.drop u := by
        have := List.take_append_drop (u - u2) (l.drop u2)
        rw [List.drop_drop, show u2 + (u - u2) = u by omega] at this
        exact this.symm
      have k1 := hk2 (u2 + r)
      rw [ng_drop, ng_drop, e1] at k1
      have k2 : ¬ ng (l.drop u) < ng (l.drop (u + r)) := by
        intro q
        apply k1
        conv => lhs; rw [e2]
        rw [ng_append, ng_append]
        exact (append_lt_left _).2 q
      have hp := prefix_of_both (hk (u + r)) k2
      rw [List.prefix_iff_eq_take] at hp
      have hj : (l.drop (u + r))[i - u]? = ((l.drop u).take (l.drop (u + r)).length)[i - u]? := by rw [← hp]
      rw [List.getElem?_take_of_lt (by rw [List.length_drop]; omega), List.getElem?_drop, List.getElem?_drop] at hj
      rw [show u + (i - u) = i by omega, show u + r + (i - u) = i + r by omega] at hj
      exact hj.symm
  · exact hr i (by omega) (by omega) hi

theorem cft_half {l : List UInt8} {u u2 p : Nat} (hp : IsLp l p) (h1 : 1 < p) (h : Mx l u) (h2 : Mx (ng l) u2) (hle : u2 ≤ u) :
    0 < u ∧ u < p ∧ u < l.length ∧ ∀ r, 0 < r → LocOK l u r → p ≤ r := by
  have hlt := mx_loc h hp.1 (per_loc hp.2.2.1 u)
  refine ⟨Nat.pos_of_ne_zero fun e => ?_, hlt, h.1, fun r r0 hr => Nat.le_of_not_lt fun k => hp.2.2.2 r r0 k (mx_per h h2 hle hr (mx_loc h r0 hr))⟩
  subst e
  obtain rfl : u2 = 0 := by omega
  have k1 := h.2 1
  have k2 := h2.2 1
  rw [ng_drop, ng_drop] at k2
  rw [List.drop_zero] at k1 k2
  have hpre := prefix_of_both k1 k2
  refine hp.2.2.2 1 (by omega) h1 ?_
  rw [← perT_iff, perT, beq_iff_eq]
  have := List.prefix_iff_eq_take.1 hpre
  rw [List.length_drop] at this
  exact this

/-- A word of at least two letters has a critical place, ahead of its least period (or 2). -/
theorem cft {l : List UInt8} {p : Nat} (hl : 2 ≤ l.length) (hp : IsLp l p) :
    ∃ i, 0 < i ∧ i < max p 2 ∧ i < l.length ∧ ∀ r, 0 < r → LocOK l i r → p ≤ r := by
  by_cases h1 : 1 < p
  · obtain ⟨u, hu⟩ := mx_ex (l := l) (by omega)
    obtain ⟨u2, hu2⟩ := mx_ex (l := ng l) (by rw [ng_len]; omega)
    by_cases hle : u2 ≤ u
    · obtain ⟨a, b, c, d⟩ := cft_half hp h1 hu hu2 hle
      exact ⟨u, a, by omega, c, d⟩
    · obtain ⟨a, b, c, d⟩ := cft_half (ng_isLp hp) h1 hu2 (by rw [ng_ng]; exact hu) (by omega)
      rw [ng_len] at c
      exact ⟨u2, a, by omega, c, fun r r0 hr => d r r0 (ng_loc.2 hr)⟩
  · exact ⟨1, by omega, by omega, by omega, fun r r0 _ => by omega⟩

/-! ### The local period. -/
def IsLoc (l : List UInt8) (i p : Nat) : Prop := 0 < p ∧ LocOK l i p ∧ ∀ q, 0 < q → q < p → ¬ LocOK l i q
theorem loc_all (l : List UInt8) (i : Nat) {p : Nat} (h : l.length ≤ p) : LocOK l i p := fun j _ _ h3 => by omega
theorem isLoc_ex (l : List UInt8) (i : Nat) : ∃ p, IsLoc l i p := by
  have key : ∀ n p, 0 < p → n = l.length + 1 - p → (∀ q, 0 < q → q < p → ¬ LocOK l i q) → ∃ p, IsLoc l i p := by
    intro n
    induction n with
    | zero =>
      intro p p0 e hk
      exact ⟨p, p0, loc_all l i (by omega), hk⟩
    | succ n ih =>
      intro p p0 e hk
      by_cases hd : LocOK l i p
      · exact ⟨p, p0, hd, hk⟩
      · refine ih (p + 1) (by omega) (by omega) fun q q0 q1 => ?_
        by_cases e2 : q = p
        · subst e2; exact hd
        · exact hk q q0 (by omega)
  exact key _ 1 (by omega) rfl (fun q _ _ => by omega)
theorem isLoc_uniq {l : List UInt8} {i p q : Nat} (h : IsLoc l i p) (k : IsLoc l i q) : p = q := by
  rcases Nat.lt_trichotomy p q with e | e | e
  · exact absurd h.2.1 (k.2.2 p h.1 e)
  · exact e
  · exact absurd k.2.1 (h.2.2 q k.1 e)
noncomputable def loc (l : List UInt8) (i : Nat) : Nat := (isLoc_ex l i).choose
theorem loc_ok (l : List UInt8) (i : Nat) : IsLoc l i (loc l i) := (isLoc_ex l i).choose_spec
theorem loc_of {l : List UInt8} {i p : Nat} (h : IsLoc l i p) : loc l i = p := isLoc_uniq (loc_ok l i) h
theorem loc_le {l : List UInt8} {i q : Nat} (h0 : 0 < q) (hq : LocOK l i q) : loc l i ≤ q := Nat.le_of_not_lt fun k => (loc_ok l i).2.2 q h0 k hq
theorem loc_pos (l : List UInt8) (i : Nat) : 0 < loc l i := (loc_ok l i).1
theorem loc_le_lp {l : List UInt8} (h : l ≠ []) (i : Nat) : loc l i ≤ lp l := loc_le (lp_ok h).1 (per_loc (lp_ok h).2.2.1 i)
theorem loc_le_len {l : List UInt8} (h : l ≠ []) (i : Nat) : loc l i ≤ l.length := Nat.le_trans (loc_le_lp h i) (lp_ok h).2.1

/-- The letters ahead of j stand in a repetition. -/
def LocUp (l : List UInt8) (i p j : Nat) : Prop := ∀ k, k < j → k < i → i ≤ k + p → k + p < l.length → l[k]? = l[k + p]?
theorem LocUp.start (l : List UInt8) (i p : Nat) : LocUp l i p (i - p) := fun k h1 h2 h3 h4 => by omega
theorem LocUp.succ {l : List UInt8} {i p j : Nat} (h : LocUp l i p j) (e : l[j]? = l[j + p]?) : LocUp l i p (j + 1) := fun k h1 h2 h3 h4 => by
  by_cases c : k = j
  · subst c; exact e
  · exact h k (by omega) h2 h3 h4
theorem LocUp.done {l : List UInt8} {i p j : Nat} (h : LocUp l i p j) (hj : i ≤ j ∨ l.length ≤ j + p) : LocOK l i p := fun k h1 h2 h3 => h k (by omega) h1 h2 h3
theorem loc_miss {l : List UInt8} {i p j : Nat} (h1 : j < i) (h2 : i - p ≤ j) (h3 : j + p < l.length) (e : ¬ l[j]? = l[j + p]?) : ¬ LocOK l i p := fun h => e (h j h1 (by omega) h3)

/-- The critical places ahead of N, from 1 on. -/
noncomputable def critR (l : List UInt8) (N : Nat) : List Int := ((List.range N).filter fun i => decide (loc l (i + 1) = lp l)).map fun (i : Nat) => (i : Int) + 1
theorem critR_zero (l : List UInt8) : critR l 0 = [] := rfl
theorem critR_hit (l : List UInt8) (k : Nat) (h : loc l (k + 1) = lp l) : critR l (k + 1) = critR l k ++ [(k : Int) + 1] := by simp [critR, List.range_succ, h]
theorem critR_miss (l : List UInt8) (k : Nat) (h : ¬ loc l (k + 1) = lp l) : critR l (k + 1) = critR l k := by simp [critR, List.range_succ, h]
theorem critR_len (l : List UInt8) (N : Nat) : (critR l N).length ≤ N := by
  unfold critR; rw [List.length_map]; have := List.length_filter_le (fun i => decide (loc l (i + 1) = lp l)) (List.range N); rwa [List.length_range] at this

end Go.Proofs.YtkemdiefoohdjabGreat
