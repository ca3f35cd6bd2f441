/- Plain facts: each letter of a directed word ends a palindrome that is not ahead. -/
import Derived.Test.YtddfdciohnabbacGreatPalPlain
namespace Go.Proofs.YtddfdciohnabbacGreat
set_option linter.unusedVariables false
set_option linter.unusedSimpArgs false

/-- A palindrome at a place. -/
def PA (g : Nat → Option UInt8) (i m : Nat) : Prop := ∀ d, d < m → g (i + d) = g (i + m - 1 - d)
/-- The m letters at i are those at j. -/
def SA (g : Nat → Option UInt8) (i j m : Nat) : Prop := ∀ d, d < m → g (i + d) = g (j + d)
/-- The longest palindrome that ends at n has k letters. -/
def LP (g : Nat → Option UInt8) (n k : Nat) : Prop := k ≤ n ∧ PA g (n - k) k ∧ ∀ m, m ≤ n → PA g (n - m) m → m ≤ k
/-- It is not ahead. -/
def NewA (g : Nat → Option UInt8) (n : Nat) : Prop := ∀ k, LP g (n + 1) k → ∀ i, i + k ≤ n → ¬ SA g i (n + 1 - k) k

theorem PA.congr {g h : Nat → Option UInt8} {i m : Nat} (a : PA g i m) (e : ∀ j, j < i + m → h j = g j) : PA h i m := fun d hd => by
  rw [e _ (by omega), e _ (by omega)]; exact a d hd
theorem SA.congr {g h : Nat → Option UInt8} {i j m : Nat} (a : SA g i j m) (e : ∀ t, t < i + m ∨ t < j + m → h t = g t) : SA h i j m := fun d hd => by
  rw [e _ (by omega), e _ (by omega)]; exact a d hd
theorem LP.congr {g h : Nat → Option UInt8} {n k : Nat} (a : LP g n k) (e : ∀ j, j < n → h j = g j) : LP h n k :=
  ⟨a.1, a.2.1.congr fun j hj => e j (by have := a.1; omega), fun m hm hp => a.2.2 m hm (hp.congr fun j hj => (e j (by omega)).symm)⟩
theorem LP.uniq {g : Nat → Option UInt8} {n k k' : Nat} (a : LP g n k) (b : LP g n k') : k = k' := Nat.le_antisymm (b.2.2 k a.1 a.2.1) (a.2.2 k' b.1 b.2.1)
theorem NewA.congr {g h : Nat → Option UInt8} {n : Nat} (a : NewA g n) (e : ∀ j, j < n + 1 → h j = g j) : NewA h n := fun k hk i hi hs =>
  a k (hk.congr fun j hj => (e j hj).symm) i hi (hs.congr fun t ht => (e t (by have := hk.1; omega)).symm)
theorem PA.one (g : Nat → Option UInt8) (i : Nat) : PA g i 1 := fun d hd => by rw [show d = 0 by omega]; congr 1
theorem newA_zero (g : Nat → Option UInt8) : NewA g 0 := fun k hk i hi hs => by
  have := hk.2.2 1 (by omega) (PA.one _ _)
  omega

/-- One letter more, and the closure: what is new stays so. -/
theorem rich_step {g : Nat → Option UInt8} {L m e : Nat} (hpal : PA g 0 L) (hmin : ∀ t, m + 1 ≤ t → t ≤ L → PA g 0 t → t = L) (hL : L + e = 2 * (m + 1)) (he : LP g (m + 1) e) (h1 : 1 ≤ e)
    (hI1 : PA g 0 m) (hI2 : ∀ h : Nat → Option UInt8, (∀ i, i < m → h i = g i) → NewA h m) (hI3 : ∀ n, n < m → NewA g n) :
    (∀ h : Nat → Option UInt8, (∀ i, i < L → h i = g i) → NewA h L) ∧ ∀ n, n < L → NewA g n := by
  have he1 := he.1
  have hNm : NewA g m := hI2 g fun _ _ => rfl
  have pal : ∀ a b, a + b + 1 = L → g a = g b := fun a b hab => by
    have := hpal a (by omega)
    rw [Nat.zero_add, show 0 + L - 1 - a = b by omega] at this
    exact this
  have pal1 : ∀ a b, a + b + 1 = m → g a = g b := fun a b hab => by
    have := hI1 a (by omega)
    rw [Nat.zero_add, show 0 + m - 1 - a = b by omega] at this
    exact this
  refine ⟨fun h hh k hk i hi hs => ?_, fun n hn => ?_⟩
  · have hk1 := hk.1
    have hsp : ∀ a b, a + b + k = 2 * L + 1 → a ≤ L → b ≤ L → h a = h b := fun a b hab ha hb => by
      have := hk.2.1 (a - (L + 1 - k)) (by omega)
      rw [show L + 1 - k + (a - (L + 1 - k)) = a by omega, show L + 1 - k + k - 1 - (a - (L + 1 - k)) = b by omega] at this
      exact this
    have hk0 : 1 ≤ k := hk.2.2 1 (by omega) (PA.one _ _)
    -- the inner part is a palindrome at the beginning
    have inner : 2 ≤ k → k ≤ L + 1 → PA g 0 (k - 2) := fun k2 k3 d hd => by
      rw [Nat.zero_add, show 0 + (k - 2) - 1 - d = k - 3 - d by omega]
      rw [pal d (L - 1 - d) (by omega), ← hh _ (by omega), hsp (L - 1 - d) (L + 2 - k + d) (by omega) (by omega) (by omega), hh _ (by omega)]
      exact pal _ _ (by omega)
    by_cases hxy : h L = g m
    · have hbig : m + 2 ≤ k := hk.2.2 (m + 2) (by omega) fun d hd => by
        rw [show L + 1 - (m + 2) + (m + 2) - 1 - d = L - d by omega]
        by_cases d0 : d = 0
        · subst d0
          rw [Nat.sub_zero, Nat.add_zero, hxy, hh _ (by omega)]
          exact pal _ _ (by omega)
        · by_cases d1 : d = m + 1
          · subst d1
            rw [show L + 1 - (m + 2) + (m + 1) = L by omega, hxy, hh _ (by omega)]
            exact pal _ _ (by omega)
          · rw [hh _ (by omega), hh _ (by omega), pal (L + 1 - (m + 2) + d) (m - d) (by omega), pal (L - d) (d - 1) (by omega)]
            exact pal1 _ _ (by omega)
      have hin := inner (by omega) (by omega)
      by_cases hlong : m + 1 ≤ k - 2
      · have := hmin (k - 2) hlong (by omega) hin
        omega
      · obtain rfl : k = m + 2 := by omega
        have occ : ∀ d, d < m → g (i + 1 + d) = g d := fun d hd => by
          have := hs (d + 1) (by omega)
          rw [show i + (d + 1) = i + 1 + d by omega, hh _ (by omega), hh _ (by omega)] at this
          rw [this, pal (L + 1 - (m + 2) + (d + 1)) (m - 1 - d) (by omega)]
          exact pal1 _ _ (by omega)
        have hsq : ∀ d, d < m → g d = g (i + 1 + m - 1 - d) := fun d hd => by
          rw [pal1 d (m - 1 - d) (by omega), ← occ (m - 1 - d) (by omega)]
          congr 1
          omega
        have := hmin (i + 1 + m) (by omega) (by omega) fun d hd => by
          rw [Nat.zero_add, show 0 + (i + 1 + m) - 1 - d = i + 1 + m - 1 - d by omega]
          by_cases hdm : d < m
          · exact hsq d hdm
          · have := hsq (i + 1 + m - 1 - d) (by omega)
            rw [this]
            congr 1
            omega
        omega
    · -- the letter is another one
      have hR : ∃ R : Nat → Option UInt8, (∀ i, i < m → R i = g i) ∧ R m = h L := ⟨fun i => if i < m then g i else h L, fun i hi => if_pos hi, if_neg (by omega)⟩
      obtain ⟨R, R1, R2⟩ := hR
      have hRQ : ∀ d, d ≤ m → R d = h (L - m + d) := fun d hd => by
        by_cases e : d = m
        · subst e; rw [R2]; congr 1; omega
        · rw [R1 d (by omega), hh _ (by omega), pal (L - m + d) (m - 1 - d) (by omega)]
          exact pal1 _ _ (by omega)
      have hkm : k ≤ m + 1 := by
        refine Nat.le_of_not_lt fun hc => ?_
        have hin := inner (by omega) (by omega)
        have hx : g (k - 2) = h L := by
          rw [← hsp (L + 1 - k) L (by omega) (by omega) (by omega), hh _ (by omega)]
          exact pal _ _ (by omega)
        by_cases h2 : k - 2 = m
        · rw [h2] at hx; exact hxy hx.symm
        · have := hmin (k - 2) (by omega) (by omega) hin
          omega
      have hRk : LP R (m + 1) k := by
        refine ⟨hkm, fun d hd => ?_, fun t ht hp => ?_⟩
        · rw [hRQ _ (by omega), hRQ _ (by omega)]
          exact hsp _ _ (by omega) (by omega) (by omega)
        · refine hk.2.2 t (by omega) fun d hd => ?_
          have := hp d hd
          rw [hRQ _ (by omega), hRQ _ (by omega), show L - m + (m + 1 - t + d) = L + 1 - t + d by omega, show L - m + (m + 1 - t + t - 1 - d) = L + 1 - t + t - 1 - d by omega] at this
          exact this
      have hNR := hI2 R R1
      have low : ∀ j, j + k ≤ m → ¬ SA h j (L + 1 - k) k := fun j hj hsj => hNR k hRk j hj fun d hd => by
        rw [R1 _ (by omega), ← hh _ (by omega), hsj d hd, hRQ _ (by omega)]
        congr 1
        omega
      by_cases c1 : i + k ≤ m
      · exact low i c1 hs
      · by_cases c2 : L ≤ i + m
        · refine low (L - i - k) (by omega) fun d hd => ?_
          rw [hh _ (by omega), pal (L - i - k + d) (i + (k - 1 - d)) (by omega), ← hh _ (by omega), hs (k - 1 - d) (by omega)]
          exact hsp _ _ (by omega) (by omega) (by omega)
        · -- it covers the palindrome in the middle
          have hq : ∀ d, d < e → g (m + 1 - e + d) = h (L + 1 - k + (m + 1 - e - i) + d) := fun d hd => by
            rw [← hh _ (by omega), show m + 1 - e + d = i + (m + 1 - e - i + d) by omega, hs (m + 1 - e - i + d) (by omega)]
            congr 1
            omega
          have hqm : g (m + 1 - e) = g m := by
            have := he.2.1 0 (by omega)
            rw [Nat.add_zero, show m + 1 - e + e - 1 - 0 = m by omega] at this
            exact this
          have hfst : h (L + 1 - k) = h L := hsp _ _ (by omega) (by omega) (by omega)
          by_cases ha : m + 1 - e = i
          · have := hq 0 (by omega)
            rw [show m + 1 - e + 0 = m + 1 - e by omega, show L + 1 - k + (m + 1 - e - i) + 0 = L + 1 - k by omega, hfst, hqm] at this
            exact hxy this.symm
          · by_cases hb : m + 1 - e - i + e = k
            · have := hq (e - 1) (by omega)
              rw [show m + 1 - e + (e - 1) = m by omega, show L + 1 - k + (m + 1 - e - i) + (e - 1) = L by omega] at this
              exact hxy this.symm
            · refine hNm e he (m + 1 - k + (m + 1 - e - i)) (by omega) fun d hd => ?_
              rw [hq d hd, ← R1 _ (by omega), hRQ _ (by omega)]
              congr 1
              omega
  · by_cases c1 : n < m
    · exact hI3 n c1
    · by_cases c2 : n = m
      · subst c2; exact hNm
      · obtain ⟨j, rfl⟩ : ∃ j, n = m + j := ⟨n - m, by omega⟩
        intro k hk i hi hs
        have hk1 := hk.1
        have k1 : e + 2 * j ≤ k := hk.2.2 (e + 2 * j) (by omega) fun d hd => pal _ _ (by omega)
        have k2 : k - 2 * j ≤ e := he.2.2 (k - 2 * j) (by omega) fun d hd => by
          have := hk.2.1 (d + j) (by omega)
          rw [show m + j + 1 - k + (d + j) = m + 1 - (k - 2 * j) + d by omega, show m + j + 1 - k + k - 1 - (d + j) = m + 1 - (k - 2 * j) + (k - 2 * j) - 1 - d by omega] at this
          exact this
        refine hNm e he (i + j) (by omega) fun d hd => ?_
        have := hs (j + d) (by omega)
        rw [show i + (j + d) = i + j + d by omega, show m + j + 1 - k + (j + d) = m + 1 - e + d by omega] at this
        exact this

/-! ### Texts. -/
def at_ (l : List UInt8) (i : Nat) : Option UInt8 := l[i]?
theorem pal_pa (l : List UInt8) (k : Nat) (hk : k ≤ l.length) : palB (l.drop k) = true ↔ PA (at_ l) k (l.length - k) := by
  rw [palB_rev]
  constructor
  · intro h d hd
    have h2 : (l.drop k).reverse[d]? = (l.drop k)[d]? := by rw [h]
    rw [List.getElem?_reverse (by rw [List.length_drop]; exact hd), List.getElem?_drop, List.getElem?_drop, List.length_drop] at h2
    unfold at_
    rw [← h2]
    congr 1
    omega
  · intro h
    apply List.ext_getElem?
    intro i
    by_cases hi : i < l.length - k
    · rw [List.getElem?_reverse (by rw [List.length_drop]; exact hi), List.getElem?_drop, List.getElem?_drop, List.length_drop]
      have := h i hi
      unfold at_ at this
      rw [this]
      congr 1
      omega
    · rw [List.getElem?_eq_none (by rw [List.length_reverse, List.length_drop]; omega), List.getElem?_eq_none (by rw [List.length_drop]; omega)]
theorem endP_lp (l : List UInt8) : LP (at_ l) l.length (endP l) := by
  have h0 := endP_le l
  refine ⟨h0, ?_, fun m hm hp => ?_⟩
  · have := (pal_pa l (l.length - endP l) (by omega)).1 (endP_pal l)
    rwa [show l.length - (l.length - endP l) = endP l by omega] at this
  · have := endP_max l (l.length - m) (by omega) ((pal_pa l (l.length - m) (by omega)).2 (by rwa [show l.length - (l.length - m) = m by omega]))
    omega
theorem pal_pa0 (l : List UInt8) : palB l = true ↔ PA (at_ l) 0 l.length := by
  have := pal_pa l 0 (Nat.zero_le _)
  rwa [List.drop_zero, Nat.sub_zero] at this
theorem pal_take (l : List UInt8) (k : Nat) (hk : k ≤ l.length) : palB (l.take k) = true ↔ PA (at_ l) 0 k := by
  rw [pal_pa0, List.length_take, Nat.min_eq_left hk]
  constructor
  · intro h; exact h.congr fun j hj => by unfold at_; rw [List.getElem?_take_of_lt (by omega)]
  · intro h; exact h.congr fun j hj => by unfold at_; rw [List.getElem?_take_of_lt (by omega)]

/-- The closure, of letters. -/
def cloL (l : List UInt8) : List UInt8 := l ++ (l.take (l.length - endP l)).reverse
theorem cloL_len (l : List UInt8) : (cloL l).length + endP l = 2 * l.length := by
  have := endP_le l
  unfold cloL
  rw [List.length_append, List.length_reverse, List.length_take]
  omega
theorem cloL_pal (l : List UInt8) : palB (cloL l) = true := by
  rw [palB_rev]
  have h1 := palB_rev.1 (endP_pal l)
  unfold cloL
  rw [List.reverse_append, List.reverse_reverse]
  have h2 : l = l.take (l.length - endP l) ++ l.drop (l.length - endP l) := (List.take_append_drop _ _).symm
  generalize l.take (l.length - endP l) = u at *
  generalize l.drop (l.length - endP l) = q at *
  subst h2
  rw [List.reverse_append, h1, List.append_assoc]
theorem cloL_at (l : List UInt8) (i : Nat) (hi : i < l.length) : at_ (cloL l) i = at_ l i := by
  unfold at_ cloL; rw [List.getElem?_append_left hi]
/-- No shorter palindrome begins with the word. -/
theorem cloL_min (l : List UInt8) (t : Nat) (h1 : l.length ≤ t) (h2 : t ≤ (cloL l).length) (h : PA (at_ (cloL l)) 0 t) : t = (cloL l).length := by
  have h3 := cloL_len l
  have h4 := endP_le l
  by_cases h5 : t ≤ 2 * l.length
  · have := (endP_lp l).2.2 (2 * l.length - t) (by omega) fun d hd => by
      have h6 := h (t - l.length + d) (by omega)
      rw [Nat.zero_add, cloL_at l _ (by omega), cloL_at l _ (by omega)] at h6
      rw [show l.length - (2 * l.length - t) + d = t - l.length + d by omega, h6]
      congr 1
      omega
    omega
  · omega

/-- Directed words. -/
inductive Dir : List UInt8 → Prop
  | nil : Dir []
  | step {p : List UInt8} (c : UInt8) : Dir p → Dir (cloL (p ++ [c]))
theorem Dir.rich {p : List UInt8} (h : Dir p) : PA (at_ p) 0 p.length ∧ (∀ f : Nat → Option UInt8, (∀ i, i < p.length → f i = at_ p i) → NewA f p.length) ∧ ∀ n, n < p.length → NewA (at_ p) n := by
  induction h with
  | nil => exact ⟨fun d hd => by simp at hd, fun f _ => newA_zero f, fun n hn => by simp at hn⟩
  | @step p c h ih =>
    obtain ⟨i1, i2, i3⟩ := ih
    have hw : (p ++ [c]).length = p.length + 1 := by simp
    have h3 := cloL_len (p ++ [c])
    rw [hw] at h3
    have hat : ∀ i, i < p.length + 1 → at_ (cloL (p ++ [c])) i = at_ (p ++ [c]) i := fun i hi => cloL_at _ i (by rw [hw]; exact hi)
    have hatp : ∀ i, i < p.length → at_ (cloL (p ++ [c])) i = at_ p i := fun i hi => by
      rw [hat i (by omega)]; unfold at_; rw [List.getElem?_append_left hi]
    have hlp := endP_lp (p ++ [c])
    rw [hw] at hlp
    have h1 := endP_pos (p ++ [c]) (by simp)
    have hmin := cloL_min (p ++ [c])
    rw [hw] at hmin
    have hp := (pal_pa0 _).1 (cloL_pal (p ++ [c]))
    have := rich_step (g := at_ (cloL (p ++ [c]))) (L := (cloL (p ++ [c])).length) (m := p.length) (e := endP (p ++ [c])) hp hmin h3 (hlp.congr hat) h1
      (i1.congr fun j hj => hatp j (by omega)) (fun f hf => i2 f fun i hi => (hf i hi).trans (hatp i hi)) (fun n hn => (i3 n hn).congr fun j hj => hatp j (by omega))
    exact ⟨hp, this.1, this.2⟩

end Go.Proofs.YtddfdciohnabbacGreat
