/- Plain facts of the law on double words. -/
import Derived.Test.YthjbdcoklgnnlabDwPlain
import Derived.Test.YthjbdcoklgnnlabLynParts
import Derived.Test.YthjbdcoklgnnlabIsLyn
import Derived.Test.YthjbdcoklgnnlabLeast
import Derived.Test.YthjbdcoklgnnlabCountT
namespace Go.Proofs.Ythjbdcoklgnnlab
set_option linter.unusedVariables false
set_option linter.unusedSimpArgs false
open Go.RowKit

theorem jn_keep {F : Nat → Nat} {x y i j : Nat} (h : F i = F j) : jn F x y i = jn F x y j := by unfold jn; rw [h]
theorem jnS_keep {n far z : Nat} {F : Nat → Nat} {i j : Nat} (h : F i = F j) : jnS n far z F i = jnS n far z F j := by
  by_cases c : z + far < n
  · rw [jnS_yes c]; exact jn_keep h
  · rw [jnS_no c]; exact h
theorem fsF_keep {n p q i j k : Nat} (h : fsF n p q k i = fsF n p q k j) : ∀ m, k ≤ m → fsF n p q m i = fsF n p q m j
  | 0, hm => by rw [show k = 0 by omega] at h; exact h
  | m + 1, hm => by
    by_cases e : k = m + 1
    · subst e; exact h
    · exact jnS_keep (jnS_keep (fsF_keep h m (by omega)))
theorem fsF_p {n p q i : Nat} (h : i + p < n) : fsF n p q n i = fsF n p q n (i + p) := by
  refine fsF_keep (k := i + 1) ?_ n (by omega)
  refine jnS_keep ?_
  rw [jnS_yes h, jn_in (.inl rfl), jn_in (.inr rfl)]
theorem fsF_q {n p q i : Nat} (h : i + q < n) : fsF n p q n i = fsF n p q n (i + q) := by
  refine fsF_keep (k := i + 1) ?_ n (by omega)
  show jnS n q i _ i = jnS n q i _ (i + q)
  rw [jnS_yes h, jn_in (.inl rfl), jn_in (.inr rfl)]
theorem wordB_size (L : List Int) : (wordB L).size = L.length := by
  show (wordL L).toArray.size = _
  simp [wordL]
theorem len_flatten : ∀ (P : List (List UInt8)) (q : List UInt8), q ∈ P → q.length ≤ P.flatten.length
  | [], q, h => by cases h
  | a :: P, q, h => by
    rw [List.flatten_cons, List.length_append]
    rcases List.mem_cons.1 h with rfl | h
    · omega
    · have := len_flatten P q h
      omega
theorem wordB_get (L : List Int) (i : Nat) (h : i < (wordB L).size) : (wordB L)[i]'h = letB (L[i]'(by rwa [wordB_size] at h)) := by
  show ((wordL L).toArray)[i]'_ = _
  simp [wordL]
theorem fl_num_get (n : Nat) (F : Nat → Nat) (i : Nat) (h : i < (wordB (fl n (numF F))).size) : (wordB (fl n (numF F)))[i]'h = letB (numF F i : Int) := by
  rw [wordB_get, fl_get]
/-- What the law asks of a double word. -/
structure DwOk (p q : Int) (x : ByteArray) (a b : Nat) : Prop where
  pa : p = (a : Int)
  qb : q = (b : Int)
  a1 : 1 ≤ a
  a2 : a ≤ 60
  b1 : 1 ≤ b
  b2 : b ≤ 60
  size : x.size ≤ 60
  len : dlenR p q = ((x.size : Int), 0)
  pera : ∀ i (h : i < x.size) (hp : a ≤ i), x[i]'h = x[i - a]'(by omega)
  perb : ∀ i (h : i < x.size) (hp : b ≤ i), x[i]'h = x[i - b]'(by omega)
theorem dw_cases (p q : Int) : ((dwR p q).2 ≠ 0 ∧ (dwR p q).1 = ⟨#[]⟩) ∨ ((dwR p q).2 = 0 ∧ ∃ a b, DwOk p q (dwR p q).1 a b) := by
  by_cases h : 1 ≤ p ∧ p ≤ 60 ∧ 1 ≤ q ∧ q ≤ 60
  · obtain ⟨a, rfl⟩ := Int.eq_ofNat_of_zero_le (show 0 ≤ p by omega)
    obtain ⟨b, rfl⟩ := Int.eq_ofNat_of_zero_le (show 0 ≤ q by omega)
    have hr : 1 ≤ a ∧ a ≤ 60 ∧ 1 ≤ b ∧ b ≤ 60 := by omega
    by_cases hl : 60 < dwN a b
    · rw [dwR_long hr hl]; exact .inl ⟨by decide, rfl⟩
    · by_cases hf : few (dwF a b) (dwN a b)
      · rw [dwR_ok hr hl hf]
        have hs : (wordB (fl (dwN a b) (numF (dwF a b)))).size = dwN a b := by rw [wordB_size, fl_len]
        refine .inr ⟨rfl, a, b, rfl, rfl, hr.1, hr.2.1, hr.2.2.1, hr.2.2.2, by show (wordB _).size ≤ 60; omega, ?_, fun i hi hp => ?_, fun i hi hp => ?_⟩
        · rw [dlenR_ok (by omega) (by omega) (by omega) (by omega)]
          have hg1 := Nat.gcd_le_left b (show 0 < a by omega)
          have hg2 := Nat.gcd_le_right a (show 0 < b by omega)
          show (_, _) = (((wordB (fl (dwN a b) (numF (dwF a b)))).size : Int), 0)
          rw [hs]
          unfold dwN
          congr 1
          omega
        · have hi' : i < dwN a b := by rw [← hs]; exact hi
          show (wordB (fl (dwN a b) (numF (dwF a b))))[i]'_ = (wordB (fl (dwN a b) (numF (dwF a b))))[i - a]'_
          rw [fl_num_get, fl_num_get]
          have := fsF_p (n := dwN a b) (p := a) (q := b) (i := i - a) (by omega)
          rw [show i - a + a = i by omega] at this
          unfold numF dwF
          rw [this]
        · have hi' : i < dwN a b := by rw [← hs]; exact hi
          show (wordB (fl (dwN a b) (numF (dwF a b))))[i]'_ = (wordB (fl (dwN a b) (numF (dwF a b))))[i - b]'_
          rw [fl_num_get, fl_num_get]
          have := fsF_q (n := dwN a b) (p := a) (q := b) (i := i - b) (by omega)
          rw [show i - b + b = i by omega] at this
          unfold numF dwF
          rw [this]
      · rw [dwR_many hr hf]; exact .inl ⟨by decide, rfl⟩
  · rw [dwR_bad h]; exact .inl ⟨by decide, rfl⟩

/-! ### Lyndon words. -/
theorem ltF_lyn {x : ByteArray} (h : Lyn (bl x)) : ∀ n, n ≤ x.size → ltF x (List.range n) = (x, 0)
  | 0, _ => rfl
  | n + 1, hn => by
    rw [List.range_succ, ltF_snoc, ltF_lyn h n (by omega)]
    refine ltS_miss fun c => ?_
    have c : bl (turned x n) < bl x := c
    rw [bl_turned] at c
    by_cases e : n = 0
    · subst e
      simp [rotL] at c
      exact List.lt_irrefl _ c
    · have := (lyn_rot (bl x)).1 h.2 n (by omega) (by rw [bl_len]; omega)
      exact lt_asymm' this c
theorem lyn_cases (u : ByteArray) : ((isLynR u).2 ≠ 0 ∨ (isLynR u).1 = false) ∨ ((isLynR u).2 = 0 ∧ (isLynR u).1 = true ∧ ltR u = (u, 0, 0) ∧ countTR u = ((u.size : Int), 0)) := by
  by_cases h : IsW u
  · have hr : isLynR u = (lynB (bl u), 0) := by unfold isLynR; rw [if_neg (not_not_intro h)]
    rw [hr]
    by_cases hl : Lyn (bl u)
    · have h0 : ¬ u.size = 0 := fun e => hl.1 (by rw [size_zero e])
      rw [lynB_yes hl]
      refine .inr ⟨rfl, rfl, ?_, ?_⟩
      · rw [ltR_ok h, show max 1 u.size = u.size by omega, ltF_lyn hl u.size (Nat.le_refl _)]
        rfl
      · rw [countTR_ok h, countU_ok h0, rl_lyn hl, bl_len]
    · rw [lynB_no hl]; exact .inl (.inr rfl)
  · have hr : isLynR u = (false, 1) := by unfold isLynR; rw [if_pos h]
    rw [hr]
    exact .inl (.inl (by decide))
/-- What the law asks of the parts. -/
structure PtOk (x : ByteArray) (L : List ByteArray) : Prop where
  flat : ofL (L.map bl).flatten = x
  small : (L.map bl).flatten.length ≤ 60
  lyn : ∀ i (h : i < L.length), isLynR (L[i]'h) = (true, 0) ∧ (L[i]'h).size ≤ 60
  asc : ∀ i (h : i + 1 < L.length), ¬ bl (L[i]'(by omega)) < bl (L[i + 1]'h)
theorem pt_cases (x : ByteArray) : (lynPR x).2 ≠ 0 ∨ ((lynPR x).2 = 0 ∧ PtOk x (lynPR x).1) := by
  by_cases h : IsW x
  · rw [lynPR_ok h]
    have hb : ((partsB x).map bl) = partsL (bl x) := by
      unfold partsB
      rw [List.map_map]
      have : (bl ∘ ofL) = id := by funext l; exact bl_ofL l
      rw [this, List.map_id]
    refine .inr ⟨rfl, ?_, ?_, fun i hi => ?_, fun i hi => ?_⟩
    · show ofL ((partsB x).map bl).flatten = x
      rw [hb, partsL_flat, ofL_bl]
    · show ((partsB x).map bl).flatten.length ≤ 60
      rw [hb, partsL_flat, bl_len]; exact h.size
    · have hi : i < (partsB x).length := hi
      have hm : bl ((partsB x)[i]'hi) ∈ partsL (bl x) := by rw [← hb]; exact List.mem_map_of_mem (List.getElem_mem hi)
      have hl := partsL_lyn (bl x) _ hm
      have hsub : ∀ c ∈ bl ((partsB x)[i]'hi), c ∈ bl x := fun c hc => by
        rw [← partsL_flat (bl x)]
        exact List.mem_flatten.2 ⟨_, hm, hc⟩
      have hsz : (bl ((partsB x)[i]'hi)).length ≤ (bl x).length := by
        have := len_flatten _ _ hm
        rwa [partsL_flat] at this
      have hs := h.size
      rw [bl_len, bl_len] at hsz
      have hw : IsW ((partsB x)[i]'hi) := ⟨by omega, fun j hj => by
        have := hsub ((bl ((partsB x)[i]'hi))[j]'(by rw [bl_len]; exact hj)) (List.getElem_mem _)
        obtain ⟨k, hk, e⟩ := List.getElem_of_mem this
        have h2 := h.2 k (by rwa [bl_len] at hk)
        have e3 : ((partsB x)[i]'hi)[j]'hj = x[k]'(by rwa [bl_len] at hk) := e.symm
        rw [e3]; exact h2⟩
      refine ⟨?_, by show ((partsB x)[i]'hi).size ≤ 60; omega⟩
      show isLynR ((partsB x)[i]'hi) = _
      unfold isLynR
      rw [if_neg (not_not_intro hw), lynB_yes hl]
    · have hi : i + 1 < (partsB x).length := hi
      have hlen : (partsL (bl x)).length = (partsB x).length := by rw [← hb, List.length_map]
      have := partsL_asc (bl x) i (by omega)
      have e1 : (partsL (bl x))[i]'(by omega) = bl ((partsB x)[i]'(by omega)) := by simp [← hb]
      have e2 : (partsL (bl x))[i + 1]'(by omega) = bl ((partsB x)[i + 1]'(by omega)) := by simp [← hb]
      rw [e1, e2] at this
      exact this
  · rw [lynPR_bad h]; exact .inl (by decide)

end Go.Proofs.Ythjbdcoklgnnlab
