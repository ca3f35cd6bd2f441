/- Plain facts: Wielandt's bound. If all vertices of a graph reach all others in k steps each, for some k of at least 1, they do so in (n - 1) * (n - 1) + 1 steps. -/
import Derived.Test.YtddfdciohnabbabPlain
namespace Go.Proofs.Ytddfdciohnabbab
set_option linter.unusedVariables false
set_option linter.unusedSimpArgs false
open Go.RowKit

/-- From u one comes to v in just k steps. -/
def Stp (n : Nat) (E : Nat → Nat → Prop) : Nat → Nat → Nat → Prop
  | 0, u, v => u = v
  | k + 1, u, v => ∃ j, j < n ∧ Stp n E k u j ∧ E j v
theorem Stp.zero {n : Nat} {E : Nat → Nat → Prop} (u : Nat) : Stp n E 0 u u := rfl
theorem Stp.one {n : Nat} {E : Nat → Nat → Prop} {u v : Nat} (hu : u < n) (h : E u v) : Stp n E 1 u v := ⟨u, hu, rfl, h⟩
theorem Stp.trans {n : Nat} {E : Nat → Nat → Prop} : ∀ {b a u x v : Nat}, x < n → Stp n E a u x → Stp n E b x v → Stp n E (a + b) u v
  | 0, a, u, x, v, _, h, k => by cases k; exact h
  | b + 1, a, u, x, v, hx, h, k => by
    obtain ⟨j, hj, h1, h2⟩ := k
    exact ⟨j, hj, Stp.trans hx h h1, h2⟩
theorem Stp.part {n : Nat} {E : Nat → Nat → Prop} : ∀ {b a u v : Nat}, v < n → Stp n E (a + b) u v → ∃ x, x < n ∧ Stp n E a u x ∧ Stp n E b x v
  | 0, a, u, v, hv, h => ⟨v, hv, h, rfl⟩
  | b + 1, a, u, v, hv, h => by
    obtain ⟨j, hj, h1, h2⟩ := h
    obtain ⟨x, hx, h3, h4⟩ := Stp.part hj h1
    exact ⟨x, hx, h3, j, hj, h4, h2⟩

/-- All reach all. -/
def Full (n : Nat) (E : Nat → Nat → Prop) (k : Nat) : Prop := ∀ u v, u < n → v < n → Stp n E k u v
theorem Full.next {n : Nat} {E : Nat → Nat → Prop} {k : Nat} (h : Full n E k) (hk : 0 < k) : Full n E (k + 1) := by
  intro u v hu hv
  obtain ⟨k, rfl⟩ : ∃ j, k = j + 1 := ⟨k - 1, by omega⟩
  -- one step ahead
  have h1 := h u v hu hv
  rw [show k + 1 = 1 + k by omega] at h1
  obtain ⟨x, hx, e1, _⟩ := Stp.part hv h1
  have := Stp.trans hx e1 (h x v hx hv)
  rw [show 1 + (k + 1) = k + 1 + 1 by omega] at this
  exact this
theorem Full.more {n : Nat} {E : Nat → Nat → Prop} {k : Nat} (h : Full n E k) (hk : 0 < k) : ∀ j, Full n E (k + j)
  | 0 => h
  | j + 1 => (Full.more h hk j).next (by omega)
theorem Full.le {n : Nat} {E : Nat → Nat → Prop} {k j : Nat} (h : Full n E k) (hk : 0 < k) (hj : k ≤ j) : Full n E j := by
  have := h.more hk (j - k)
  rw [show k + (j - k) = j by omega] at this
  exact this

/-- A set has at least some members among the first n numbers. -/
def AtL (n : Nat) (F : Nat → Prop) (k : Nat) : Prop := ∃ l : List Nat, l.Nodup ∧ l.length = k ∧ ∀ v ∈ l, v < n ∧ F v
theorem nodup_le : ∀ {n : Nat} {l : List Nat}, l.Nodup → (∀ v ∈ l, v < n) → l.length ≤ n
  | 0, [], _, _ => Nat.le_refl _
  | 0, v :: l, _, h => absurd (h v (List.mem_cons_self ..)) (by omega)
  | n + 1, l, hd, h => by
    have h1 : (l.erase n).Nodup := hd.erase n
    have h2 := nodup_le (n := n) h1 (fun v hv => by
      have a := h v (List.mem_of_mem_erase hv)
      have b : v ≠ n := fun e => by
        subst e
        exact (hd.mem_erase_iff.1 hv).1 rfl
      omega)
    have h3 : l.length - 1 ≤ (l.erase n).length := by
      rw [List.length_erase]
      split <;> omega
    omega
theorem AtL.le {n : Nat} {F : Nat → Prop} {k : Nat} (h : AtL n F k) : k ≤ n := by
  obtain ⟨l, h1, h2, h3⟩ := h
  rw [← h2]
  exact nodup_le h1 fun v hv => (h3 v hv).1
theorem AtL.mono {n : Nat} {F G : Nat → Prop} {k : Nat} (h : AtL n F k) (hs : ∀ v, v < n → F v → G v) : AtL n G k := by
  obtain ⟨l, h1, h2, h3⟩ := h
  exact ⟨l, h1, h2, fun v hv => ⟨(h3 v hv).1, hs v (h3 v hv).1 (h3 v hv).2⟩⟩
theorem AtL.one {n : Nat} {F G : Nat → Prop} {k : Nat} (h : AtL n F k) (hs : ∀ v, v < n → F v → G v) {v : Nat} (hv : v < n) (hg : G v) (hf : ¬ F v) : AtL n G (k + 1) := by
  obtain ⟨l, h1, h2, h3⟩ := h
  refine ⟨v :: l, List.nodup_cons.2 ⟨fun hm => hf (h3 v hm).2, h1⟩, by rw [List.length_cons, h2], fun u hu => ?_⟩
  rcases List.mem_cons.1 hu with e | e
  · subst e; exact ⟨hv, hg⟩
  · exact ⟨(h3 u e).1, hs u (h3 u e).1 (h3 u e).2⟩
theorem AtL.all {n : Nat} {F : Nat → Prop} (h : AtL n F n) : ∀ v, v < n → F v := by
  intro v hv
  apply Classical.byContradiction
  intro hf
  have := (h.one (G := fun _ => True) (fun _ _ _ => trivial) hv trivial hf).le
  omega
theorem AtL.less {n : Nat} {F : Nat → Prop} {k : Nat} (h : AtL n F k) : ∀ {j : Nat}, j ≤ k → AtL n F j := by
  intro j hj
  obtain ⟨l, h1, h2, h3⟩ := h
  exact ⟨l.take j, h1.sublist (List.take_sublist j l), by rw [List.length_take]; omega, fun v hv => h3 v (List.mem_of_mem_take hv)⟩
/-- Distinct members are counted. -/
theorem atL_of {n : Nat} {F : Nat → Prop} (x : Nat → Nat) : ∀ k, (∀ i, i < k → x i < n ∧ F (x i)) → (∀ i j, i < j → j < k → x i ≠ x j) → AtL n F k
  | 0, _, _ => ⟨[], List.nodup_nil, rfl, fun _ h => by simp at h⟩
  | k + 1, h, hd => by
    have ih := atL_of (F := fun v => F v ∧ v ≠ x k) x k (fun i hi => ⟨(h i (by omega)).1, (h i (by omega)).2, hd i k hi (by omega)⟩) (fun i j hij hj => hd i j hij (by omega))
    exact ih.one (fun v _ hv => hv.1) (h k (by omega)).1 (h k (by omega)).2 (fun hv => hv.2 rfl)
/-- A set that grows by one rule till it has all. -/
theorem grows_all {n : Nat} {F : Nat → Nat → Prop} (mono : ∀ k v, v < n → F k v → F (k + 1) v)
    (same : ∀ k, (∀ v, v < n → F (k + 1) v → F k v) → ∀ v, v < n → F (k + 2) v → F (k + 1) v) (K : Nat) (hK : ∀ v, v < n → F K v)
    (a : Nat) (ha : AtL n (F 0) a) : ∀ v, v < n → F (n - a) v := by
  have stop : ∀ k, (∀ v, v < n → F (k + 1) v → F k v) → ∀ j v, v < n → F (k + j) v → F k v := by
    intro k hk j
    have hall : ∀ j, ∀ v, v < n → F (k + j + 1) v → F (k + j) v := by
      intro j
      induction j with
      | zero => exact hk
      | succ j ih => exact same (k + j) ih
    induction j with
    | zero => intro v _ h; exact h
    | succ j ih => intro v hv h; exact ih v hv (hall j v hv h)
  have up : ∀ k j v, v < n → F k v → F (k + j) v := by
    intro k j
    induction j with
    | zero => intro v _ h; exact h
    | succ j ih => intro v hv h; exact mono _ v hv (ih v hv h)
  have size : ∀ k, AtL n (F k) (a + k) ∨ ∀ v, v < n → F k v := by
    intro k
    induction k with
    | zero => exact .inl ha
    | succ k ih =>
      rcases ih with ih | ih
      · by_cases hs : ∀ v, v < n → F (k + 1) v → F k v
        · right
          intro v hv
          apply mono k v hv
          rcases Nat.le_total K k with h | h
          · have := up K (k - K) v hv (hK v hv)
            rwa [show K + (k - K) = k by omega] at this
          · apply stop k hs (K - k) v hv
            rw [show k + (K - k) = K by omega]
            exact hK v hv
        · left
          have : ∃ v, v < n ∧ F (k + 1) v ∧ ¬ F k v := by
            apply Classical.byContradiction
            intro hc
            exact hs fun v hv h => Classical.byContradiction fun h2 => hc ⟨v, hv, h, h2⟩
          obtain ⟨v, hv, h1, h2⟩ := this
          exact ih.one (mono k) hv h1 h2
      · exact .inr fun v hv => mono k v hv (ih v hv)
  have ha2 : a ≤ n := ha.le
  rcases size (n - a) with h | h
  · rw [show a + (n - a) = n by omega] at h
    exact h.all
  · exact h

/-- The least length of a closed walk. -/
def Clo1 (n : Nat) (E : Nat → Nat → Prop) (g : Nat) : Prop := 0 < g ∧ (∃ c, c < n ∧ Stp n E g c c) ∧ ∀ k, 0 < k → k < g → ∀ c, c < n → ¬ Stp n E k c c
theorem clo1_ex {n : Nat} {E : Nat → Nat → Prop} : ∀ K, 0 < K → (∃ c, c < n ∧ Stp n E K c c) → ∃ g, g ≤ K ∧ Clo1 n E g := by
  intro K
  induction K using Nat.strongRecOn with
  | ind K ih =>
    intro h0 h
    by_cases hs : ∃ k, 0 < k ∧ k < K ∧ ∃ c, c < n ∧ Stp n E k c c
    · obtain ⟨k, k0, kK, hk⟩ := hs
      obtain ⟨g, hg, hc⟩ := ih k kK k0 hk
      exact ⟨g, by omega, hc⟩
    · exact ⟨K, Nat.le_refl _, h0, h, fun k k0 kK c hc hs' => hs ⟨k, k0, kK, c, hc, hs'⟩⟩
/-- The places of a closed walk of the least length. -/
theorem clo1_path {n : Nat} {E : Nat → Nat → Prop} {g : Nat} (hg : Clo1 n E g) : ∃ x : Nat → Nat, (∀ i, i ≤ g → x i < n) ∧ x 0 = x g ∧ (∀ i j, i ≤ j → j ≤ g → Stp n E (j - i) (x i) (x j)) := by
  obtain ⟨_, ⟨c, hc, hw⟩, _⟩ := hg
  have key : ∀ g u v, u < n → v < n → Stp n E g u v → ∃ x : Nat → Nat, (∀ i, i ≤ g → x i < n) ∧ x 0 = u ∧ x g = v ∧ ∀ i j, i ≤ j → j ≤ g → Stp n E (j - i) (x i) (x j) := by
    intro g
    induction g with
    | zero =>
      intro u v hu hv h
      cases h
      refine ⟨fun _ => u, fun _ _ => hu, rfl, rfl, fun i j hij hj => ?_⟩
      rw [show j - i = 0 by omega]
      rfl
    | succ g ih =>
      intro u v hu hv h
      obtain ⟨j, hj, h1, h2⟩ := h
      obtain ⟨x, a1, a2, a3, a4⟩ := ih u j hu hj h1
      refine ⟨fun i => if i ≤ g then x i else v, fun i hi => ?_, ?_, ?_, fun i k hik hk => ?_⟩
      · show (if i ≤ g then x i else v) < n
        split
        · exact a1 i ‹_›
        · exact hv
      · simp [a2]
      · show (if g + 1 ≤ g then x (g + 1) else v) = v
        rw [if_neg (by omega)]
      · show Stp n E (k - i) (if i ≤ g then x i else v) (if k ≤ g then x k else v)
        by_cases hkg : k ≤ g
        · rw [if_pos hkg, if_pos (by omega)]
          exact a4 i k hik hkg
        · rw [if_neg hkg]
          by_cases hig : i ≤ g
          · rw [if_pos hig, show k - i = (g - i) + 1 by omega]
            refine ⟨j, hj, ?_, h2⟩
            rw [← a3]
            exact a4 i g hig (Nat.le_refl _)
          · rw [if_neg hig, show k - i = 0 by omega]
            rfl
  obtain ⟨x, a1, a2, a3, a4⟩ := key g c c hc hc hw
  exact ⟨x, a1, by rw [a2, a3], a4⟩
theorem clo1_distinct {n : Nat} {E : Nat → Nat → Prop} {g : Nat} (hg : Clo1 n E g) {x : Nat → Nat} (h1 : ∀ i, i ≤ g → x i < n) (h4 : ∀ i j, i ≤ j → j ≤ g → Stp n E (j - i) (x i) (x j)) :
    ∀ i j, i < j → j < g → x i ≠ x j := by
  intro i j hij hj e
  have := h4 i j (by omega) (by omega)
  rw [← e] at this
  exact hg.2.2 (j - i) (by omega) (by omega) (x i) (h1 i (by omega)) this
/-- The least closed walk has fewer steps than there are vertices, if there are at least two. -/
theorem clo1_small {n : Nat} {E : Nat → Nat → Prop} {g K : Nat} (hg : Clo1 n E g) (hn : 2 ≤ n) (hK : 0 < K) (hf : Full n E K) : g ≤ n - 1 := by
  obtain ⟨x, h1, h0, h4⟩ := clo1_path hg
  have hd := clo1_distinct hg h1 h4
  have hle : AtL n (fun _ => True) g := atL_of x g (fun i hi => ⟨h1 i (by omega), trivial⟩) hd
  have hn2 := hle.le
  apply Classical.byContradiction
  intro hgn
  have hgn : g = n := by omega
  subst hgn
  -- every vertex is on the walk
  have hall : ∀ v, v < g → ∃ i, i < g ∧ x i = v := by
    intro v hv
    have := atL_of (n := g) (F := fun v => ∃ i, i < g ∧ x i = v) x g (fun i hi => ⟨h1 i (by omega), i, hi, rfl⟩) hd
    exact this.all v hv
  -- each edge leads to the next vertex of the walk
  have hedge : ∀ i j, i < g → j < g → E (x i) (x j) → j = (i + 1) % g := by
    intro i j hi hj he
    apply Classical.byContradiction
    intro hne
    have back : Stp g E 1 (x i) (x j) := Stp.one (h1 i (by omega)) he
    rcases Nat.lt_or_ge i j with hlt | hge
    · -- i < j, j ≠ i + 1: from j to g, from 0 to i
      have hj1 : j ≠ i + 1 := by
        intro e
        apply hne
        rw [e, Nat.mod_eq_of_lt (by omega)]
      have s1 := h4 j g (by omega) (Nat.le_refl _)
      have s2 := h4 0 i (by omega) (by omega)
      rw [h0] at s2
      have s3 := Stp.trans (h1 g (Nat.le_refl _)) s1 s2
      have s4 := Stp.trans (h1 i (by omega)) s3 back
      exact hg.2.2 _ (by omega) (by omega) (x j) (h1 j (by omega)) s4
    · have s2 := h4 j i hge (by omega)
      have s4 := Stp.trans (h1 i (by omega)) s2 back
      refine hg.2.2 _ (by omega) ?_ (x j) (h1 j (by omega)) s4
      apply Classical.byContradiction
      intro hb
      apply hne
      have hi2 : i + 1 = g := by omega
      have hj0 : j = 0 := by omega
      rw [hi2, Nat.mod_self, hj0]
  have hwalk : ∀ k i j, i < g → j < g → Stp g E k (x i) (x j) → j = (i + k) % g := by
    intro k
    induction k with
    | zero =>
      intro i j hi hj h
      have e : x i = x j := h
      rw [Nat.add_zero, Nat.mod_eq_of_lt hi]
      apply Classical.byContradiction
      intro hne
      rcases Nat.lt_or_gt_of_ne hne with h' | h'
      · exact hd j i h' hi e.symm
      · exact hd i j h' hj e
    | succ k ih =>
      intro i j hi hj h
      obtain ⟨y, hy, s1, s2⟩ := h
      obtain ⟨m, hm, rfl⟩ := hall y hy
      have e1 := ih i m hi hm s1
      have e2 := hedge m j hm hj s2
      rw [e2, e1, Nat.mod_add_mod, Nat.add_assoc]
  have a := hwalk K 0 0 (by omega) (by omega) (hf (x 0) (x 0) (h1 0 (by omega)) (h1 0 (by omega)))
  have b := hwalk K 0 1 (by omega) (by omega) (hf (x 0) (x 1) (h1 0 (by omega)) (h1 1 (by omega)))
  omega
/-- Wielandt's bound. -/
theorem wiel {n : Nat} {E : Nat → Nat → Prop} (hn : 1 ≤ n) {K : Nat} (hK : 0 < K) (hf : Full n E K) : Full n E ((n - 1) * (n - 1) + 1) := by
  by_cases hn1 : n = 1
  · subst hn1
    intro u v hu hv
    obtain rfl : u = 0 := by omega
    obtain rfl : v = 0 := by omega
    have h := hf 0 0 hu hv
    obtain ⟨k, rfl⟩ : ∃ j, K = j + 1 := ⟨K - 1, by omega⟩
    obtain ⟨j, hj, _, he⟩ := h
    obtain rfl : j = 0 := by omega
    exact ⟨0, hj, rfl, he⟩
  · have hn2 : 2 ≤ n := by omega
    obtain ⟨g, _, hg⟩ := clo1_ex (n := n) (E := E) K hK ⟨0, by omega, hf 0 0 (by omega) (by omega)⟩
    have hgn := clo1_small hg hn2 hK hf
    have hg0 := hg.1
    obtain ⟨x, h1, h0, h4⟩ := clo1_path hg
    have hd := clo1_distinct hg h1 h4
    -- the vertices of the walk, and those behind them
    have hcyc : ∀ i, i ≤ g → Stp n E g (x i) (x i) := by
      intro i hi
      have s1 := h4 i g hi (Nat.le_refl _)
      have s2 := h4 0 i (by omega) hi
      rw [h0] at s2
      have s3 := Stp.trans (h1 g (Nat.le_refl _)) s1 s2
      rwa [show g - i + (i - 0) = g by omega] at s3
    have hsucc : ∀ i, i < g → ∃ j, j < g ∧ Stp n E 1 (x i) (x j) := by
      intro i hi
      have s1 := h4 i (i + 1) (by omega) (by omega)
      rw [show i + 1 - i = 1 by omega] at s1
      by_cases e : i + 1 = g
      · refine ⟨0, hg0, ?_⟩
        rw [h0, ← e]
        exact s1
      · exact ⟨i + 1, by omega, s1⟩
    -- within n - g steps everybody comes to the walk
    have hto : ∀ u, u < n → ∃ i, i < g ∧ Stp n E (n - g) u (x i) := by
      refine grows_all (F := fun k u => ∃ i, i < g ∧ Stp n E k u (x i)) ?_ ?_ K ?_ g ?_
      · intro k u hu ⟨i, hi, hs⟩
        obtain ⟨j, hj, hs2⟩ := hsucc i hi
        exact ⟨j, hj, Stp.trans (h1 i (by omega)) hs hs2⟩
      · intro k hk u hu ⟨i, hi, hs⟩
        rw [show k + 2 = 1 + (k + 1) by omega] at hs
        obtain ⟨y, hy, s1, s2⟩ := Stp.part (h1 i (by omega)) hs
        obtain ⟨j, hj, s3⟩ := hk y hy ⟨i, hi, s2⟩
        refine ⟨j, hj, ?_⟩
        rw [show k + 1 = 1 + k by omega]
        exact Stp.trans hy s1 s3
      · intro u hu
        exact ⟨0, hg0, hf u (x 0) hu (h1 0 (by omega))⟩
      · exact atL_of x g (fun i hi => ⟨h1 i (by omega), i, hi, rfl⟩) hd
    -- from the walk everybody is reached in g * (n - 1) steps
    have hfrom : ∀ i, i < g → ∀ v, v < n → Stp n E (g * (n - 1)) (x i) v := by
      intro i hi
      refine grows_all (F := fun k v => Stp n E (g * k) (x i) v) ?_ ?_ K ?_ 1 ?_
      · intro k v hv hs
        have := Stp.trans (h1 i (by omega)) (hcyc i (by omega)) hs
        rwa [show g + g * k = g * (k + 1) by rw [Nat.mul_succ]; omega] at this
      · intro k hk v hv hs
        rw [show g * (k + 2) = g * (k + 1) + g by rw [show k + 2 = (k + 1) + 1 by omega, Nat.mul_succ g (k + 1)]] at hs
        obtain ⟨y, hy, s1, s2⟩ := Stp.part hv hs
        have := Stp.trans hy (hk y hy s1) s2
        rwa [← Nat.mul_succ] at this
      · intro v hv
        exact (hf.le hK (Nat.le_trans (by omega) (Nat.le_mul_of_pos_left K hg0))) (x i) v (h1 i (by omega)) hv
      · apply atL_of (fun _ => x i) 1
        · intro j hj
          exact ⟨h1 i (by omega), rfl⟩
        · intro a b hab hb
          omega
    have hfull : Full n E ((n - g) + g * (n - 1)) := by
      intro u v hu hv
      obtain ⟨i, hi, hs⟩ := hto u hu
      exact Stp.trans (h1 i (by omega)) hs (hfrom i hi v hv)
    refine hfull.le (by omega) ?_
    obtain ⟨m, rfl⟩ : ∃ m, n = m + 2 := ⟨n - 2, by omega⟩
    have e1 : g * (m + 2 - 1) = g * m + g := by rw [show m + 2 - 1 = m + 1 by omega, Nat.mul_succ]
    have e2 : (m + 2 - 1) * (m + 2 - 1) = (m + 1) * m + (m + 1) := by rw [show m + 2 - 1 = m + 1 by omega, Nat.mul_succ]
    have e3 : g * m ≤ (m + 1) * m := Nat.mul_le_mul_right m (by omega)
    omega

end Go.Proofs.Ytddfdciohnabbab
