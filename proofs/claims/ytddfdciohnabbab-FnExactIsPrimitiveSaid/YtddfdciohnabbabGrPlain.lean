/- Plain facts: when the program's counts stay the same; what GrownWord answers. -/
import Derived.Test.YtddfdciohnabbabVecPlain
namespace Go.Proofs.Ytddfdciohnabbab
set_option linter.unusedVariables false
set_option linter.unusedSimpArgs false
open Go.RowKit

theorem ct_same {I : List (List UInt8)} (g : Mor I) {l u : List UInt8} (hu : lets I u) (h : ∀ j, j < 5 → ct (l ++ u) j = ct l j) : u = [] :=
  ct_none (n := I.length) g.len5 hu fun j hj => by have := h j (by have := g.len5; omega); rw [ct_app] at this; omega
theorem acc_hk {I : List (List UInt8)} (g : Mor I) {a : UInt8} (ha : lets I [a]) (k j : Nat) : acc I (ct (hk I k [a])) j I.length = ct (hk I (k + 1) [a]) j := by
  rw [acc_img g j _ (hk_lets g k ha), hk_succ]
theorem acc_le {I : List (List UInt8)} (g : Mor I) {a : UInt8} (ha : lets I [a]) {k : Nat} (hk4 : k ≤ 16) (j : Nat) : acc I (ct (hk I k [a])) j I.length ≤ 4000000000000000000 := by
  rw [acc_hk g ha]
  have h1 := ct_le (hk I (k + 1) [a]) j
  have h2 := hk_len g (k + 1) ha
  have h3 : 12 ^ (k + 1) ≤ 12 ^ 17 := Nat.pow_le_pow_right (by omega) (by omega)
  have h4 : (12 : Nat) ^ 17 ≤ 4000000000000000000 := by decide
  simp at h2
  omega
theorem lets_one {I : List (List UInt8)} (g : Mor I) {q : Nat} (hq : q < I.length) : lets I [letr q] := fun c hc => by
  rw [List.mem_singleton] at hc
  subst hc
  have := g.len5
  rw [letr_nat (by omega)]
  omega
theorem img_letr {I : List (List UInt8)} (g : Mor I) {q : Nat} (hq : q < I.length) : img I (letr q) = I[q]'hq := by
  have := g.len5
  unfold img
  rw [letr_nat (by omega), show 97 + q - 97 = q by omega, List.getD_eq_getElem?_getD, List.getElem?_eq_getElem hq]
  rfl
/-- The morphism grows the letter. -/
def gw (I : List (List UInt8)) (q : Nat) : Prop := ∃ u, img I (letr q) = letr q :: u ∧ growsI I u
noncomputable instance (I : List (List UInt8)) (q : Nat) : Decidable (gw I q) := Classical.propDecidable _
noncomputable def growR (I : List (List UInt8)) (q n : Int) : ByteArray × Int :=
  if ¬ Mor I then (tE, 1) else if q < 0 ∨ (I.length : Int) ≤ q ∨ n < 0 ∨ 60 < n then (tE, 2) else if ¬ gw I q.toNat then (tE, 5) else (bt (grownW I (letr q.toNat) n.toNat), 0)
theorem growR_bad {I : List (List UInt8)} {q n : Int} (h : ¬ Mor I) : growR I q n = (⟨#[]⟩, 1) := if_pos h
theorem growR_out {I : List (List UInt8)} {q n : Int} (h : Mor I) (ho : q < 0 ∨ (I.length : Int) ≤ q ∨ n < 0 ∨ 60 < n) : growR I q n = (⟨#[]⟩, 2) := by unfold growR; rw [if_neg (not_not_intro h), if_pos ho]; rfl
theorem growR_no {I : List (List UInt8)} {q n : Nat} (h : Mor I) (hq : q < I.length) (hn : n ≤ 60) (hg : ¬ gw I q) : growR I (q : Int) (n : Int) = (⟨#[]⟩, 5) := by
  unfold growR; rw [if_neg (not_not_intro h), if_neg (by omega)]; simp only [Int.toNat_natCast]; rw [if_pos hg]; rfl
theorem growR_yes {I : List (List UInt8)} {q n : Nat} (h : Mor I) (hq : q < I.length) (hn : n ≤ 60) (hg : gw I q) : growR I (q : Int) (n : Int) = (bt (grownW I (letr q) n), 0) := by
  unfold growR; rw [if_neg (not_not_intro h), if_neg (by omega)]; simp only [Int.toNat_natCast]; rw [if_neg (not_not_intro hg)]
/-- What the program needs of the images of the first p letters. -/
theorem grown_more {I : List (List UInt8)} (g : Mor I) {q : Nat} (hq : q < I.length) (hg : gw I q) {p K : Nat} (hp : 1 ≤ p) (hpK : p ≤ K) :
    p < (imgOf I ((hk I K [letr q]).take p)).length ∧ (∀ (h : p < (imgOf I ((hk I K [letr q]).take p)).length) (h2 : p < (hk I K [letr q]).length), (imgOf I ((hk I K [letr q]).take p))[p]'h = (hk I K [letr q])[p]'h2) ∧ p < (hk I K [letr q]).length ∧ K < (hk I K [letr q]).length := by
  obtain ⟨u, hu, hgi⟩ := hg
  have h5 := g.len5
  have hln := letr_nat (show q < 5 by omega)
  have hgs := growsS_all ((grows_iff g (by rw [hln]; omega) (by rw [hln]; omega) hu).1 hgi)
  have hlen := hk_longer hu hgs K
  refine ⟨img_more hu hgs hp (by omega), fun h h2 => ?_, by omega, hlen⟩
  have p1 : imgOf I ((hk I K [letr q]).take p) <+: hk I (K + 1) [letr q] := by
    rw [hk_succ I K]
    conv => rhs; rw [← List.take_append_drop p (hk I K [letr q]), imgOf_app]
    exact List.prefix_append _ _
  have p2 : hk I K [letr q] <+: hk I (K + 1) [letr q] := hk_pre hu (by omega)
  obtain ⟨t1, e1⟩ := p1
  obtain ⟨t2, e2⟩ := p2
  have q1 : (hk I (K + 1) [letr q])[p]? = some ((imgOf I ((hk I K [letr q]).take p))[p]'h) := by rw [← e1, List.getElem?_append_left h, List.getElem?_eq_getElem h]
  have q2 : (hk I (K + 1) [letr q])[p]? = some ((hk I K [letr q])[p]'h2) := by
    conv => lhs; rw [← e2, List.getElem?_append_left h2, List.getElem?_eq_getElem h2]
  rw [q1] at q2
  exact Option.some.inj q2
theorem grown_done {I : List (List UInt8)} (g : Mor I) {q : Nat} (hq : q < I.length) (hg : gw I q) {p n K : Nat} (hn : n ≤ (imgOf I ((hk I K [letr q]).take p)).length) : (imgOf I ((hk I K [letr q]).take p)).take n = grownW I (letr q) n := by
  obtain ⟨u, hu, hgi⟩ := hg
  have h5 := g.len5
  have hln := letr_nat (show q < 5 by omega)
  have hgs := growsS_all ((grows_iff g (by rw [hln]; omega) (by rw [hln]; omega) hu).1 hgi)
  have p1 : imgOf I ((hk I K [letr q]).take p) <+: hk I (K + 1) [letr q] := by
    rw [hk_succ I K]
    conv => rhs; rw [← List.take_append_drop p (hk I K [letr q]), imgOf_app]
    exact List.prefix_append _ _
  rw [pre_take p1 hn]
  exact grown_of hu hgs (Nat.le_trans hn p1.length_le)
/-! ### The letters whose iterates come to nothing. -/
/-- A number of a letter of which an iterate is empty. -/
def mort (I : List (List UInt8)) (i : Nat) : Prop := ∃ k, dead I k (letr i) = true
/-- What is found so far is right. -/
def MSound (I : List (List UInt8)) (o : Nat → Bool) : Prop := ∀ i, i < I.length → o i = true → mort I i
/-- Nothing is left to be found. -/
def MClosed (I : List (List UInt8)) (o : Nat → Bool) (n : Nat) : Prop := ∀ i, i < n → i < I.length → (∀ c ∈ I.getD i [], o (c.toNat - 97) = true) → o i = true
theorem img_getD {I : List (List UInt8)} (g : Mor I) {q : Nat} (hq : q < I.length) : img I (letr q) = I.getD q [] := by
  have := g.len5
  unfold img
  rw [letr_nat (by omega), show 97 + q - 97 = q by omega]
theorem dead_all (I : List (List UInt8)) : ∀ (l : List UInt8), (∀ c ∈ l, ∃ k, dead I k c = true) → ∃ k, ∀ c ∈ l, dead I k c = true
  | [], _ => ⟨0, fun c h => by cases h⟩
  | c :: l, h => by
    obtain ⟨k1, h1⟩ := h c (List.mem_cons_self ..)
    obtain ⟨k2, h2⟩ := dead_all I l fun x hx => h x (List.mem_cons_of_mem _ hx)
    refine ⟨max k1 k2, fun x hx => ?_⟩
    rcases List.mem_cons.1 hx with rfl | hx
    · exact dead_le I (Nat.le_max_left ..) h1
    · exact dead_le I (Nat.le_max_right ..) (h2 x hx)
theorem dead_succ (I : List (List UInt8)) (k : Nat) (c : UInt8) : dead I (k + 1) c = true ↔ ∀ d ∈ img I c, dead I k d = true := by
  rw [← dead_iff I k (img I c)]
  have h := dead_iff I (k + 1) [c]
  simp only [List.mem_singleton, forall_eq] at h
  rw [← h, hk_head]
  have : imgOf I [c] = img I c := by unfold imgOf; simp
  rw [this]
theorem getD_letter {I : List (List UInt8)} (g : Mor I) {i : Nat} (hi : i < I.length) {c : UInt8} (hc : c ∈ I.getD i []) : letr (c.toNat - 97) = c ∧ c.toNat - 97 < I.length := by
  rw [← img_getD g hi] at hc
  have h2 : lets I (img I (letr i)) := by
    have := hk_lets g 1 (lets_one g hi)
    rwa [hk_succ, hk_zero, show imgOf I [letr i] = img I (letr i) from by unfold imgOf; simp] at this
  obtain ⟨h3, h4⟩ := h2 c hc
  exact ⟨letr_of h3, h4⟩
theorem MSound.set {I : List (List UInt8)} (g : Mor I) {o : Nat → Bool} (h : MSound I o) {i : Nat} (hi : i < I.length) (hm : ∀ c ∈ I.getD i [], o (c.toNat - 97) = true) : MSound I (fun j => if j = i then true else o j) := by
  intro j hj e
  by_cases e2 : j = i
  · subst e2
    obtain ⟨k, hk⟩ := dead_all I (I.getD j []) fun c hc => by
      obtain ⟨h1, h2⟩ := getD_letter g hj hc
      obtain ⟨k, hk⟩ := h _ h2 (hm c hc)
      rw [h1] at hk
      exact ⟨k, hk⟩
    exact ⟨k + 1, (dead_succ I k _).2 (by rw [img_getD g hj]; exact hk)⟩
  · simp only [e2, if_false] at e
    exact h j hj e
theorem mort_iff {I : List (List UInt8)} (g : Mor I) {o : Nat → Bool} (hs : MSound I o) (hc : MClosed I o I.length) {i : Nat} (hi : i < I.length) : o i = true ↔ mort I i := by
  refine ⟨hs i hi, fun ⟨k, hk⟩ => ?_⟩
  have key : ∀ k i, i < I.length → dead I k (letr i) = true → o i = true := by
    intro k
    induction k with
    | zero =>
      intro i hi h
      exfalso
      have h2 := (dead_iff I 0 [letr i]).2 (by simpa using h)
      rw [hk_zero] at h2
      cases h2
    | succ k ih =>
      intro i hi h
      refine hc i hi hi fun c hcm => ?_
      obtain ⟨h1, h2⟩ := getD_letter g hi hcm
      refine ih _ h2 ?_
      rw [h1]
      exact (dead_succ I k _).1 h c (by rw [img_getD g hi]; exact hcm)
  exact key k i hi hk
/-- Behind the letter there is one whose iterates are never empty. -/
theorem gw_iff {I : List (List UInt8)} (g : Mor I) {q : Nat} (hq : q < I.length) {u : List UInt8} (hu : img I (letr q) = letr q :: u) : gw I q ↔ ∃ c ∈ u, ¬ mort I (c.toNat - 97) := by
  have h5 := g.len5
  have hln := letr_nat (show q < 5 by omega)
  have e1 : gw I q ↔ growsI I u := ⟨fun ⟨u', h1, h2⟩ => by rw [hu] at h1; cases h1; exact h2, fun h => ⟨u, hu, h⟩⟩
  rw [e1, grows_iff g (by rw [hln]; omega) (by rw [hln]; omega) hu]
  have hl : ∀ c ∈ u, letr (c.toNat - 97) = c := fun c hc => (getD_letter g hq (by rw [← img_getD g hq, hu]; exact List.mem_cons_of_mem _ hc)).1
  constructor
  · rintro ⟨c, hc, h⟩
    refine ⟨c, hc, fun ⟨k, hk⟩ => ?_⟩
    rw [hl c hc, h k] at hk
    cases hk
  · rintro ⟨c, hc, h⟩
    refine ⟨c, hc, fun k => ?_⟩
    cases e : dead I k c with
    | false => rfl
    | true => exact absurd ⟨k, by rw [hl c hc]; exact e⟩ h
/-- How many are not found yet. -/
def left (o : Nat → Bool) (m : Nat) : Nat := (List.range m).countP fun i => !o i
theorem left_le (o : Nat → Bool) (m : Nat) : left o m ≤ m := by
  have := List.countP_le_length (p := fun i => !o i) (l := List.range m)
  rwa [List.length_range] at this
theorem left_set {o : Nat → Bool} {m i : Nat} (hi : i < m) (h : o i = false) : left (fun j => if j = i then true else o j) m < left o m := by
  unfold left
  refine cp_lt _ _ _ (fun x _ hx => ?_) ⟨i, List.mem_range.2 hi, by rw [h]; rfl, by simp⟩
  by_cases e : x = i
  · simp [e] at hx
  · simpa [e] using hx
end Go.Proofs.Ytddfdciohnabbab
