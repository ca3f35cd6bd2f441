/- Plain facts: the edges from a factor, and whether it is special. -/
import Derived.Test.YtbhgghajbdlfkabGreatSpPlain
import Derived.Test.YtbhgghajbdlfkabGreatEdgePlain
namespace Go.Proofs.YtbhgghajbdlfkabGreat
set_option linter.unusedVariables false
set_option linter.unusedSimpArgs false
open Go.RowKit

theorem countP_two {α : Type} (p : α → Bool) : ∀ L : List α, 2 ≤ L.countP p ↔ ∃ b k, ∃ (hk : k < L.length) (hb : b < k), p (L[b]'(by omega)) = true ∧ p (L[k]'hk) = true
  | [] => by simp
  | a :: r => by
    rw [List.countP_cons]
    by_cases h : p a = true
    · rw [if_pos h]
      constructor
      · intro h2
        obtain ⟨z, hz, hp⟩ := List.countP_pos_iff.1 (show 0 < r.countP p by omega)
        obtain ⟨k, hk, rfl⟩ := List.getElem_of_mem hz
        exact ⟨0, k + 1, by simp; omega, by omega, h, hp⟩
      · rintro ⟨b, k, hk, hb, h1, h2⟩
        obtain ⟨k, rfl⟩ : ∃ q, k = q + 1 := ⟨k - 1, by omega⟩
        have : 0 < r.countP p := List.countP_pos_iff.2 ⟨_, List.getElem_mem (by simpa using hk), by simpa using h2⟩
        omega
    · rw [if_neg h, Nat.add_zero, countP_two p r]
      constructor
      · rintro ⟨b, k, hk, hb, h1, h2⟩
        exact ⟨b + 1, k + 1, by simp; omega, by omega, by simpa using h1, by simpa using h2⟩
      · rintro ⟨b, k, hk, hb, h1, h2⟩
        cases b with
        | zero => exact absurd h1 h
        | succ b =>
          obtain ⟨k, rfl⟩ : ∃ q, k = q + 1 := ⟨k - 1, by omega⟩
          exact ⟨b, k, by simpa using hk, by omega, by simpa using h1, by simpa using h2⟩
theorem idx_mem : ∀ (L : List ByteArray) (u : ByteArray), u ∈ L → ∃ j, ∃ h : j < L.length, Lib.idxOfS L u = j ∧ L[j]'h = u := by
  have key : ∀ (L : List ByteArray) (u : ByteArray) (i : Nat), u ∈ L → ∃ j, ∃ h : j < L.length, Lib.idxFromS L u i = ((i + j : Nat) : Int) ∧ L[j]'h = u := by
    intro L u
    induction L with
    | nil => intro i h; cases h
    | cons a r ih =>
      intro i h
      rw [Lib.idxFromS]
      by_cases e : a = u
      · subst e
        refine ⟨0, by simp, ?_, rfl⟩
        rw [if_pos (by simp)]
        rfl
      · rcases List.mem_cons.1 h with h | h
        · exact absurd h.symm e
        · obtain ⟨j, hj, h1, h2⟩ := ih (i + 1) h
          refine ⟨j + 1, by simp; omega, ?_, by simpa using h2⟩
          rw [if_neg (by simpa using e), h1]
          omega
  intro L u h
  obtain ⟨j, hj, h1, h2⟩ := key L u 0 h
  refine ⟨j, hj, ?_, h2⟩
  unfold Lib.idxOfS
  rw [h1, Nat.zero_add]

/-- How many of the first so many longer factors begin with the i-th factor. -/
def bhF (x : ByteArray) (m k i : Nat) : Nat := ((facs x (m + 1)).take k).countP fun e => decide (Lib.idxOfS (facs x m) (e.extract 0 m) = (i : Int))
theorem bhF_zero (x : ByteArray) (m i : Nat) : bhF x m 0 i = 0 := by unfold bhF; rw [List.take_zero]; rfl
theorem bhF_le (x : ByteArray) (m k i : Nat) : bhF x m k i ≤ k := by
  unfold bhF
  exact Nat.le_trans List.countP_le_length (by rw [List.length_take]; omega)
theorem bhF_succ (x : ByteArray) (m k i : Nat) (h : k < (facs x (m + 1)).length) : bhF x m (k + 1) i = bhF x m k i + if Lib.idxOfS (facs x m) (((facs x (m + 1))[k]'h).extract 0 m) = (i : Int) then 1 else 0 := by
  unfold bhF
  rw [List.take_succ_eq_append_getElem h, List.countP_append, List.countP_singleton]
  simp only [decide_eq_true_eq]
theorem part_mem {x : ByteArray} {m : Nat} {y : ByteArray} (h : y ∈ facs x (m + 1)) : y.extract 0 m ∈ facs x m ∧ y.extract 1 (m + 1) ∈ facs x m := by
  obtain ⟨p, hp, rfl⟩ := mem_facs.1 h
  constructor
  · refine mem_facs.2 ⟨p, by omega, ?_⟩
    rw [ByteArray.extract_extract]
    congr 1
    omega
  · refine mem_facs.2 ⟨p + 1, by omega, ?_⟩
    rw [ByteArray.extract_extract]
    congr 1
    omega
theorem edge_good {x : ByteArray} {m k : Nat} (h : k < (facs x (m + 1)).length) : ∃ a b : Nat, a < (facs x m).length ∧ b < (facs x m).length ∧ edgeRow (facs x m) m ((facs x (m + 1))[k]'h) = [(a : Int), (b : Int)] ∧ ∀ i, bhF x m (k + 1) i = if i = a then bhF x m k a + 1 else bhF x m k i := by
  obtain ⟨h1, h2⟩ := part_mem (List.getElem_mem h)
  obtain ⟨a, ha, ea, _⟩ := idx_mem _ _ h1
  obtain ⟨b, hb, eb, _⟩ := idx_mem _ _ h2
  refine ⟨a, b, ha, hb, by unfold edgeRow; rw [ea, eb], fun i => ?_⟩
  rw [bhF_succ x m k i h, ea]
  by_cases e : i = a
  · subst e; rw [if_pos rfl, if_pos rfl]
  · rw [if_neg (fun q => e (by omega)), if_neg e]; rfl
theorem bh_sp {x : ByteArray} (hx : IsW x) {m i : Nat} (h : i < (facs x m).length) : spB x true ((facs x m)[i]'h) = decide (1 < bhF x m (facs x (m + 1)).length i) := by
  have hd : ∀ j (hj : j < (facs x m).length), (facs x m)[j]'hj = (facs x m)[i]'h → j = i := fun j hj e => by
    rcases Nat.lt_trichotomy j i with q | q | q
    · have := List.pairwise_iff_getElem.1 (facs_asc x m) j i hj h q
      rw [e] at this; exact absurd this (wlt_irrefl _)
    · exact q
    · have := List.pairwise_iff_getElem.1 (facs_asc x m) i j h hj q
      rw [e] at this; exact absurd this (wlt_irrefl _)
  have hown : ∀ k (hk : k < (facs x (m + 1)).length), decide (Lib.idxOfS (facs x m) (((facs x (m + 1))[k]'hk).extract 0 m) = (i : Int)) = true ↔ (ownL x m true).getD k ByteArray.empty = (facs x m)[i]'h := fun k hk => by
    rw [ownL_get x m true k hk, decide_eq_true_eq]
    obtain ⟨a, ha, ea, ee⟩ := idx_mem _ _ (part_mem (List.getElem_mem hk)).1
    show _ ↔ ((facs x (m + 1))[k]'hk).extract 0 m = _
    rw [ea, ← ee]
    constructor
    · intro e
      have : a = i := by omega
      subst this; rfl
    · intro e
      rw [hd a ha e]
  apply Bool.eq_iff_iff.2
  rw [decide_eq_true_eq]
  have hmem : spB x true ((facs x m)[i]'h) = true ↔ (facs x m)[i]'h ∈ spF x m true := by
    unfold spF
    rw [List.mem_filter]
    exact ⟨fun q => ⟨List.getElem_mem h, q⟩, fun q => q.2⟩
  rw [hmem, spF_eq hx m true, mem_dupA]
  have hc := countP_two (fun e : ByteArray => decide (Lib.idxOfS (facs x m) (e.extract 0 m) = (i : Int))) (facs x (m + 1))
  have hb : bhF x m (facs x (m + 1)).length i = (facs x (m + 1)).countP fun e => decide (Lib.idxOfS (facs x m) (e.extract 0 m) = (i : Int)) := by unfold bhF; rw [List.take_length]
  rw [hb]
  refine Iff.trans ?_ hc.symm
  constructor
  · rintro ⟨k, hk, hdup, e⟩
    obtain ⟨b, hb2, e2⟩ := (dupB_iff _ _ _).1 hdup
    exact ⟨b, k, hk, hb2, (hown b (by omega)).2 (e2.trans e), (hown k hk).2 e⟩
  · rintro ⟨b, k, hk, hb2, h1, h2⟩
    have e1 := (hown b (by omega)).1 h1
    have e2 := (hown k hk).1 h2
    exact ⟨k, hk, (dupB_iff _ _ _).2 ⟨b, hb2, e1.trans e2.symm⟩, e2⟩

/-- What holds of a word and a length that the functions take. -/
theorem num_good {x : ByteArray} {m : Int} (h : (factorsR x m).2 = 0) : ∃ n : Nat, m = n ∧ IsW x ∧ n ≤ 60 ∧ factorsR x m = (facs x n, 0) ∧ feR x m = (edgesOf x n, 0) ∧ (ccyR x m).2 = 0 ∧ ((facs x n).length = 0 ∧ (facs x (n + 1)).length = 0 ∨ 0 < (facs x n).length ∧ (ccyR x m).1 = ((facs x (n + 1)).length : Int) - ((facs x n).length : Int) + 1) := by
  by_cases hw : IsW x
  · by_cases ho : m < 0 ∨ 60 < m
    · rw [factorsR_out hw ho] at h; cases h
    · obtain ⟨n, rfl⟩ := Int.eq_ofNat_of_zero_le (show 0 ≤ m by omega)
      have hn : n ≤ 60 := by omega
      refine ⟨n, rfl, hw, hn, factorsR_ok hw hn, feR_ok hw hn, ?_⟩
      by_cases h0 : (facs x n).length = 0
      · rw [ccyR_none hw hn h0]
        refine ⟨rfl, .inl ⟨h0, ?_⟩⟩
        have he := List.eq_nil_of_length_eq_zero h0
        rcases Nat.eq_zero_or_pos (facs x (n + 1)).length with e | e
        · exact e
        · obtain ⟨h1, _⟩ := part_mem (List.getElem_mem e)
          rw [he] at h1
          cases h1
      · rw [ccyR_ok hw hn h0]
        exact ⟨rfl, .inr ⟨by omega, rfl⟩⟩
  · rw [factorsR_bad hw] at h; cases h
theorem sp_lens (x : ByteArray) (A : List ByteArray) : ((A.filter (spB x true)).filter (spB x false)).length ≤ (A.filter (spB x true)).length ∧ ((A.filter (spB x true)).filter (spB x false)).length ≤ (A.filter (spB x false)).length ∧ (A.filter (spB x true)).length = A.countP (spB x true) := by
  refine ⟨List.length_filter_le _ _, ?_, List.countP_eq_length_filter.symm⟩
  rw [List.filter_filter, show (fun a => spB x false a && spB x true a) = (fun a => spB x true a && spB x false a) from funext fun a => Bool.and_comm _ _, ← List.filter_filter]
  exact List.length_filter_le _ _
theorem count_take (x : ByteArray) (A : List ByteArray) (i : Nat) (h : i < A.length) : (A.take (i + 1)).countP (spB x true) = (A.take i).countP (spB x true) + if spB x true (A[i]'h) = true then 1 else 0 := by
  rw [List.take_succ_eq_append_getElem h, List.countP_append, List.countP_singleton]

theorem cx_good {x : ByteArray} (h : (cxR x).2 = 0) : x.size ≤ 60 ∧ (cxR x).1.length = x.size + 1 ∧ cfR x = ((cxR x).1.sum, 0) ∧ ∀ k (hk : k < (cxR x).1.length), 1 ≤ (cxR x).1[k]'hk ∧ (cxR x).1[k]'hk ≤ (x.size : Int) - k + 1 := by
  by_cases hw : IsW x
  · rw [cfR_ok hw]
    have hx := hw.size
    have hl : (cxR x).1.length = x.size + 1 := by rw [cxR_ok hw]; simp [cxs]
    refine ⟨hx, hl, by rw [cxR_ok hw], fun k hk => ?_⟩
    have e : (cxR x).1[k]'hk = ((facs x k).length : Int) := by
      have : (cxR x).1 = cxs x (x.size + 1) := by rw [cxR_ok hw]
      simp only [this]
      simp [cxs]
    rw [e]
    have h1 := facs_len x k
    have h2 : 0 < (facs x k).length := List.length_pos_of_mem (mem_facs.2 ⟨0, by omega, rfl⟩)
    omega
  · unfold cxR at h; rw [if_neg hw] at h; cases h

end Go.Proofs.YtbhgghajbdlfkabGreat
