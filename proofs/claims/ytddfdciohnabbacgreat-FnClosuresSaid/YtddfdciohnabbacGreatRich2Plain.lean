/- Plain facts: how many different palindromes there are. -/
import Derived.Test.YtddfdciohnabbacGreatRichPlain
namespace Go.Proofs.YtddfdciohnabbacGreat
set_option linter.unusedVariables false
set_option linter.unusedSimpArgs false

theorem nodup_sub {α : Type} : ∀ (L M : List α), L.Nodup → (∀ z ∈ L, z ∈ M) → L.length ≤ M.length
  | [], _, _, _ => Nat.zero_le _
  | a :: L, M, hd, hs => by
    obtain ⟨h1, h2⟩ := List.nodup_cons.1 hd
    obtain ⟨s, t, rfl⟩ := List.append_of_mem (hs a (List.mem_cons_self ..))
    have := nodup_sub L (s ++ t) h2 fun z hz => by
      have h3 := hs z (List.mem_cons_of_mem _ hz)
      rw [List.mem_append, List.mem_cons] at h3
      rw [List.mem_append]
      rcases h3 with h3 | rfl | h3
      · exact .inl h3
      · exact absurd hz h1
      · exact .inr h3
    simp at this ⊢
    omega
theorem nodup_app {α : Type} {L M : List α} (h : L.Nodup) (k : M.Nodup) (d : ∀ z ∈ L, z ∉ M) : (L ++ M).Nodup := by
  rw [List.nodup_append]
  exact ⟨h, k, fun a ha b hb e => d a ha (e ▸ hb)⟩
theorem asc_nodup {L : List ByteArray} (h : Asc L) : L.Nodup := List.Pairwise.imp (R := wlt) (S := fun a b => a ≠ b) (fun {a b} k e => wlt_irrefl a (by rw [← e] at k; exact k)) h

theorem mem_dfT (T : ByteArray → Bool) (x z : ByteArray) : ∀ N, N ≤ x.size → (z ∈ dfT T x N ↔ (∃ i m, 1 ≤ m ∧ m ≤ N ∧ i + m ≤ x.size ∧ z = x.extract i (i + m)) ∧ T z = true)
  | 0, _ => by
    rw [dfT]
    constructor
    · intro h; cases h
    · rintro ⟨⟨i, m, h1, h2, _⟩, _⟩; omega
  | N + 1, hN => by
    rw [dfT, List.mem_append, mem_dfT T x z N (by omega), List.mem_filter, mem_facK]
    constructor
    · rintro (⟨⟨i, m, h1, h2, h3, h4⟩, ht⟩ | ⟨⟨i, hi, h4⟩, ht⟩)
      · exact ⟨⟨i, m, h1, by omega, h3, h4⟩, ht⟩
      · exact ⟨⟨i, N + 1, by omega, Nat.le_refl _, by omega, h4⟩, ht⟩
    · rintro ⟨⟨i, m, h1, h2, h3, h4⟩, ht⟩
      by_cases e : m = N + 1
      · subst e; exact .inr ⟨⟨i, by omega, h4⟩, ht⟩
      · exact .inl ⟨⟨i, m, h1, by omega, h3, h4⟩, ht⟩
theorem dfT_sizes {T : ByteArray → Bool} {x z : ByteArray} {N : Nat} (hN : N ≤ x.size) (h : z ∈ dfT T x N) : z.size ≤ N := by
  obtain ⟨⟨i, m, h1, h2, h3, rfl⟩, _⟩ := (mem_dfT T x z N hN).1 h
  simp; omega
theorem dfT_nodup (T : ByteArray → Bool) (x : ByteArray) : ∀ N, N ≤ x.size → (dfT T x N).Nodup
  | 0, _ => List.nodup_nil
  | N + 1, hN => by
    rw [dfT]
    refine nodup_app (dfT_nodup T x N (by omega)) ((asc_nodup (facK_asc x _ _)).filter _) fun z h1 h2 => ?_
    have h3 := dfT_sizes (by omega) h1
    have h4 := facK_size (by omega) (List.mem_filter.1 h2).1
    omega

theorem at_ext (x : ByteArray) (i m d : Nat) (h : i + m ≤ x.size) (hd : d < m) : at_ (bl (x.extract i (i + m))) d = at_ (bl x) (i + d) := by
  unfold at_
  rw [bl_extract, List.getElem?_take_of_lt (by omega), List.getElem?_drop]
theorem ext_eq {x : ByteArray} {i j m : Nat} (hi : i + m ≤ x.size) (hj : j + m ≤ x.size) (h : SA (at_ (bl x)) i j m) : x.extract i (i + m) = x.extract j (j + m) := by
  apply bl_inj
  apply List.ext_getElem?
  intro d
  by_cases hd : d < m
  · have h1 := at_ext x i m d hi hd
    have h2 := at_ext x j m d hj hd
    unfold at_ at h1 h2
    rw [h1, h2]
    exact h d hd
  · rw [bl_none _ _ (by simp; omega), bl_none _ _ (by simp; omega)]
theorem ext_sa {x : ByteArray} {i j m : Nat} (hi : i + m ≤ x.size) (hj : j + m ≤ x.size) (h : x.extract i (i + m) = x.extract j (j + m)) : SA (at_ (bl x)) i j m := fun d hd => by
  rw [← at_ext x i m d hi hd, ← at_ext x j m d hj hd, h]
theorem ext_pal (x : ByteArray) (i m : Nat) (h : i + m ≤ x.size) : palB (bl (x.extract i (i + m))) = true ↔ PA (at_ (bl x)) i m := by
  have hs : (bl (x.extract i (i + m))).length = m := by rw [bl_len]; simp; omega
  rw [pal_pa0, hs]
  constructor
  · intro k d hd
    have := k d hd
    rw [Nat.zero_add, at_ext x i m _ h hd, show 0 + m - 1 - d = m - 1 - d by omega, at_ext x i m _ h (by omega)] at this
    rw [this]
    congr 1
    omega
  · intro k d hd
    rw [Nat.zero_add, at_ext x i m _ h hd, show 0 + m - 1 - d = m - 1 - d by omega, at_ext x i m _ h (by omega), k d hd]
    congr 1
    omega
/-- The longest palindrome at the end of the first n letters. -/
def lpN (x : ByteArray) (n : Nat) : Nat := endP ((bl x).take n)
theorem lpN_lp (x : ByteArray) (n : Nat) (h : n ≤ x.size) : LP (at_ (bl x)) n (lpN x n) := by
  have h1 := endP_lp ((bl x).take n)
  rw [List.length_take, bl_len, Nat.min_eq_left h] at h1
  exact h1.congr fun j hj => by unfold at_; rw [List.getElem?_take_of_lt hj]
theorem lpN_pos (x : ByteArray) (n : Nat) (h0 : 0 < n) (h : n ≤ x.size) : 0 < lpN x n := endP_pos _ (by
  intro e
  have := congrArg List.length e
  rw [List.length_take, bl_len, List.length_nil, Nat.min_eq_left h] at this
  omega)
def lpW (x : ByteArray) (n : Nat) : ByteArray := x.extract (n - lpN x n) n

/-- Each palindrome is the longest one where it ends first. -/
theorem pal_first (x z : ByteArray) : ∀ e, e ≤ x.size → (∃ m, 1 ≤ m ∧ m ≤ e ∧ z = x.extract (e - m) e) → palT z = true → ∃ n, n < x.size ∧ z = lpW x (n + 1) := by
  intro e
  induction e using Nat.strongRecOn with
  | ind e ih =>
    rintro he ⟨m, h1, h2, hz⟩ hp
    have hl := lpN_lp x e he
    have hpa : PA (at_ (bl x)) (e - m) m := (ext_pal x (e - m) m (by omega)).1 (by rw [show e - m + m = e by omega, ← hz]; exact hp)
    have hmk := hl.2.2 m h2 hpa
    have hke := hl.1
    by_cases hc : m = lpN x e
    · refine ⟨e - 1, by omega, ?_⟩
      rw [hz, lpW, show e - 1 + 1 = e by omega, ← hc]
    · refine ih (e - lpN x e + m) (by omega) (by omega) ⟨m, h1, by omega, ?_⟩ hp
      rw [hz, show e - lpN x e + m - m = e - lpN x e by omega]
      have := ext_eq (x := x) (i := e - m) (j := e - lpN x e) (m := m) (by omega) (by omega) fun d hd => by
        rw [hpa d hd, hl.2.1 d (by omega)]
        congr 1
        omega
      rwa [show e - m + m = e by omega] at this
theorem pals_le (x : ByteArray) : (dfT palT x x.size).length ≤ x.size := by
  have := nodup_sub (dfT palT x x.size) ((List.range x.size).map fun n => lpW x (n + 1)) (dfT_nodup _ _ _ (Nat.le_refl _)) fun z hz => by
    obtain ⟨⟨i, m, h1, h2, h3, h4⟩, ht⟩ := (mem_dfT palT x z x.size (Nat.le_refl _)).1 hz
    obtain ⟨n, hn, e⟩ := pal_first x z (i + m) h3 ⟨m, h1, by omega, by rw [show i + m - m = i by omega]; exact h4⟩ ht
    exact List.mem_map.2 ⟨n, List.mem_range.2 hn, e.symm⟩
  rwa [List.length_map, List.length_range] at this
theorem pals_ge (x : ByteArray) (h : ∀ n, n < x.size → NewA (at_ (bl x)) n) : x.size ≤ (dfT palT x x.size).length := by
  have key : ∀ N, N ≤ x.size → ((List.range N).map fun n => lpW x (n + 1)).Nodup := by
    intro N
    induction N with
    | zero => intro _; exact List.nodup_nil
    | succ N ih =>
      intro hN
      rw [List.range_succ, List.map_append]
      refine nodup_app (ih (by omega)) (by simp) fun z hz hz2 => ?_
      obtain ⟨i, hi, rfl⟩ := List.mem_map.1 hz
      have hi2 := List.mem_range.1 hi
      have e : lpW x (i + 1) = lpW x (N + 1) := by simpa using hz2
      have l1 := lpN_lp x (i + 1) (by omega)
      have l2 := lpN_lp x (N + 1) (by omega)
      have q1 := l1.1
      have q2 := l2.1
      have s1 : (lpW x (i + 1)).size = lpN x (i + 1) := by unfold lpW; simp; omega
      have s2 : (lpW x (N + 1)).size = lpN x (N + 1) := by unfold lpW; simp; omega
      have s3 : lpN x (i + 1) = lpN x (N + 1) := by rw [← s1, ← s2, e]
      refine h N (by omega) _ l2 (i + 1 - lpN x (N + 1)) (by omega) (ext_sa (by omega) (by omega) ?_)
      unfold lpW at e
      rw [s3] at e
      rw [show i + 1 - lpN x (N + 1) + lpN x (N + 1) = i + 1 by omega, show N + 1 - lpN x (N + 1) + lpN x (N + 1) = N + 1 by omega]
      exact e
  have := nodup_sub _ (dfT palT x x.size) (key x.size (Nat.le_refl _)) fun z hz => by
    obtain ⟨n, hn, rfl⟩ := List.mem_map.1 hz
    have hn2 := List.mem_range.1 hn
    have l1 := lpN_lp x (n + 1) (by omega)
    have q1 := l1.1
    have q2 := lpN_pos x (n + 1) (by omega) (by omega)
    refine (mem_dfT palT x _ x.size (Nat.le_refl _)).2 ⟨⟨n + 1 - lpN x (n + 1), lpN x (n + 1), q2, by omega, by omega, ?_⟩, ?_⟩
    · unfold lpW; rw [show n + 1 - lpN x (n + 1) + lpN x (n + 1) = n + 1 by omega]
    · have := (ext_pal x (n + 1 - lpN x (n + 1)) (lpN x (n + 1)) (by omega)).2 l1.2.1
      rw [show n + 1 - lpN x (n + 1) + lpN x (n + 1) = n + 1 by omega] at this
      exact this
  rwa [List.length_map, List.length_range] at this
theorem pals_rich {x : ByteArray} (h : Dir (bl x)) : (dfT palT x x.size).length = x.size := Nat.le_antisymm (pals_le x) (pals_ge x h.rich.2.2)

/-- The directed word. -/
theorem bl_rev (x : ByteArray) : bl (rev x) = (bl x).reverse := by simp [bl, rev]
theorem bl_clo (x : ByteArray) : bl (clo x) = cloL (bl x) := by
  unfold clo cloL
  rw [bl_append, bl_rev, bl_take, bl_len]
theorem clo_pal (x : ByteArray) : palB (bl (clo x)) = true := by rw [bl_clo]; exact cloL_pal _
theorem dir_of {x : ByteArray} : ∀ (f k : Nat) (p q : ByteArray), k + f ≤ x.size → Dir (bl p) → dirF x k f p = some q → Dir (bl q)
  | 0, k, p, q, _, h, e => by rw [dirF_end] at e; cases e; exact h
  | f + 1, k, p, q, hk, h, e => by
    by_cases hl : 60 < (clo (p ++ x.extract k (k + 1))).size
    · rw [dirF_long hl] at e; cases e
    · rw [dirF_go hl] at e
      refine dir_of f (k + 1) _ q (by omega) ?_ e
      rw [bl_clo, bl_append]
      have hx : bl (x.extract k (k + 1)) = [x[k]'(by omega)] := by
        rw [bl_extract, show k + 1 - k = 1 by omega, List.drop_eq_getElem_cons (by rw [bl_len]; omega)]
        rfl
      rw [hx]
      exact h.step _

end Go.Proofs.YtddfdciohnabbacGreat
