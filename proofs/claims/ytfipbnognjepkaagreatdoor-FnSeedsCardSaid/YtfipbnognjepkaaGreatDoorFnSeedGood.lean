/- All that is asked of seeds, of best borders and of two words that cover. -/
import Derived.Test.YtfipbnognjepkaaGreatDoorFnCovGood
namespace Go.Proofs.YtfipbnognjepkaaGreatDoor
set_option linter.unusedVariables false
set_option linter.unusedSimpArgs false

theorem facs_cut {x z : ByteArray} {m : Nat} (h : z ∈ facs x m) (hm : 1 ≤ m) : z.size = m ∧ m ≤ x.size ∧ ∃ i, z = x.extract i (i + m) := by
  unfold facs at h
  obtain ⟨i, hi, rfl⟩ := (mem_facK x m z _).1 h
  refine ⟨by rw [ByteArray.size_extract]; omega, by omega, i, rfl⟩
/-- The least seed: its length is the least one. -/
theorem ls_spec {x : ByteArray} (h0 : 0 < x.size) : ∃ k, k < x.size ∧ (∀ i, i < k → sds x (i + 1) = []) ∧ ∃ h : 0 < (sds x (k + 1)).length, ls x = (sds x (k + 1))[0]'h := by
  have hex : ∃ k, k < x.size ∧ 0 < (sds x (k + 1)).length := ⟨x.size - 1, by omega, by rw [show x.size - 1 + 1 = x.size by omega, sds_self h0]; exact Nat.zero_lt_one⟩
  have hmin : ∀ n, (∃ k, k ≤ n ∧ k < x.size ∧ 0 < (sds x (k + 1)).length) → ∃ k, k < x.size ∧ 0 < (sds x (k + 1)).length ∧ ∀ i, i < k → sds x (i + 1) = [] := by
    intro n
    induction n with
    | zero =>
      rintro ⟨k, h1, h2, h3⟩
      obtain rfl : k = 0 := by omega
      exact ⟨0, h2, h3, fun i hi => by omega⟩
    | succ n ih =>
      rintro ⟨k, h1, h2, h3⟩
      by_cases hb : ∃ k, k ≤ n ∧ k < x.size ∧ 0 < (sds x (k + 1)).length
      · exact ih hb
      · have hk : k = n + 1 := by
          rcases Nat.lt_or_ge n k with q | q
          · omega
          · exact absurd ⟨k, q, h2, h3⟩ hb
        refine ⟨k, h2, h3, fun i hi => ?_⟩
        cases e : sds x (i + 1) with
        | nil => rfl
        | cons a t => exact absurd ⟨i, by omega, by omega, by rw [e]; simp⟩ hb
  obtain ⟨k, hk⟩ := hex
  obtain ⟨k, h1, h2, h3⟩ := hmin k ⟨k, Nat.le_refl _, hk.1, hk.2⟩
  exact ⟨k, h1, h3, h2, ls_at h1 h3 h2⟩
/-- What is asked of the least seed. -/
def SeedG (x z : ByteArray) (L : List ByteArray) : Prop := isSeedR x z = (true, 0) ∧ 1 ≤ z.size ∧ z.size ≤ 60 ∧ seedsR x ((z.size : Nat) : Int) = (L, 0) ∧ ∃ h : 0 < L.length, L[0]'h = z
theorem ls_good {x : ByteArray} (hx : IsW x) (h0 : 0 < x.size) : ∃ L, SeedG x (ls x) L ∧ (ls x).size ≤ (lc x).size := by
  obtain ⟨k, hk, hmin, hl, e⟩ := ls_spec h0
  have h60 := hx.size
  have hm : ls x ∈ sds x (k + 1) := by rw [e]; exact List.getElem_mem hl
  unfold sds at hm
  rw [List.mem_filter] at hm
  obtain ⟨hz, _, i, hi⟩ := facs_cut hm.1 (by omega)
  have hw : IsW (ls x) := by rw [hi]; exact isW_cut hx _ _
  refine ⟨sds x (k + 1), ⟨?_, by omega, by omega, ?_, hl, e.symm⟩, ?_⟩
  · rw [isSeedR_ok ⟨hx, hw⟩ (by omega), hm.2]
  · rw [hz]; exact seedsR_ok hx (by omega) (by omega)
  · obtain ⟨⟨j, hj, ej⟩, hc⟩ := cvs_iff.1 (lc_mem h0)
    have hs : (lc x).size = j + 1 := by rw [ej]; exact beg_size hj
    rw [hz, hs]
    rcases Nat.lt_or_ge j k with q | q
    · exfalso
      have hn := hmin j q
      have hin : lc x ∈ sds x (j + 1) := by
        unfold sds
        rw [List.mem_filter]
        refine ⟨?_, cv_seed hc⟩
        unfold facs
        refine (mem_facK x (j + 1) (lc x) _).2 ⟨0, by omega, ?_⟩
        rw [ej]
        unfold beg
        rw [Nat.zero_add]
      rw [hn] at hin
      cases hin
    · omega
theorem gSd (x u : ByteArray) : (isSeedR x u).2 ≠ 0 ∨ ((isSeedR x u).2 = 0 ∧ (isCoverR x u).2 = 0 ∧ ((isCoverR x u).1 = true → (isSeedR x u).1 = true)) := by
  by_cases h : IsW x ∧ IsW u
  · by_cases k : u.size = 0 ∨ x.size < u.size
    · rw [isSeedR_out h k]; exact .inl (by decide)
    · rw [isSeedR_ok h k, isCoverR_ok h (fun e => k (.inl e))]
      exact .inr ⟨rfl, rfl, fun q => cv_seed q⟩
  · rw [isSeedR_bad h]; exact .inl (by decide)
/-- Two words that are found. -/
theorem ftF_two {x : ByteArray} : ∀ {L : List ByteArray}, ftF x L ≠ [] → ∃ u v, ftF x L = [u, v] ∧ u ∈ L ∧ v ∈ L ∧ cvTwo x u v = true ∧ (L.Pairwise (fun a b : ByteArray => a.data.toList < b.data.toList) → u.data.toList < v.data.toList)
  | [], h => absurd rfl h
  | a :: t, h => by
    rw [ftF] at h ⊢
    cases hf : t.find? (cvTwo x a) with
    | some v =>
      have hv := List.mem_of_find?_eq_some hf
      have hc := List.find?_some hf
      exact ⟨a, v, rfl, List.mem_cons_self .., List.mem_cons_of_mem _ hv, hc, fun hp => (List.pairwise_cons.1 hp).1 v hv⟩
    | none =>
      rw [hf] at h
      obtain ⟨u, v, h1, h2, h3, h4, h5⟩ := ftF_two h
      exact ⟨u, v, h1, List.mem_cons_of_mem _ h2, List.mem_cons_of_mem _ h3, h4, fun hp => h5 (List.pairwise_cons.1 hp).2⟩
theorem gFt (x : ByteArray) (m : Int) : (firstTwoR x m).2 ≠ 0 ∨ ((firstTwoR x m).2 = 0 ∧ ∃ u v, (firstTwoR x m).1 = [u, v] ∧ coveredByTwoR x u v = (true, 0) ∧ u.size ≤ 60 ∧ v.size ≤ 60 ∧ u.data.toList < v.data.toList) := by
  by_cases h : IsW x
  · by_cases k : m < 1 ∨ 60 < m
    · rw [firstTwoR_out h k]; exact .inl (by decide)
    · obtain ⟨n, rfl⟩ : ∃ n : Nat, m = n := ⟨m.toNat, by omega⟩
      by_cases e : ftF x (facs x n) = []
      · rw [firstTwoR_none h (by omega) (by omega) e]; exact .inl (by decide)
      · obtain ⟨u, v, h1, h2, h3, h4, h5⟩ := ftF_two e
        obtain ⟨zu, _, i, ei⟩ := facs_cut h2 (by omega)
        obtain ⟨zv, _, j, ej⟩ := facs_cut h3 (by omega)
        have hu : IsW u := by rw [ei]; exact isW_cut h _ _
        have hv : IsW v := by rw [ej]; exact isW_cut h _ _
        rw [firstTwoR_ok h (by omega) (by omega) h1]
        refine .inr ⟨rfl, u, v, rfl, ?_, hu.size, hv.size, h5 (facK_asc x n _)⟩
        rw [coveredByTwoR_ok ⟨h, hu, hv⟩ (by omega), h4]
  · rw [firstTwoR_bad h]; exact .inl (by decide)
theorem bbF_good (x : ByteArray) : ∀ k, (bbF x k).2 ≠ 0 → 1 ≤ (bbF x k).1 ∧ bdT x (bbF x k).1 = true ∧ (bbF x k).2 = cvN x (x.extract 0 (bbF x k).1)
  | 0, h => absurd rfl h
  | k + 1, h => by
    by_cases hb : bdT x (k + 1) = true ∧ (bbF x k).2 < cvN x (x.extract 0 (k + 1))
    · rw [bbF_hit hb.1 hb.2]
      exact ⟨by omega, hb.1, rfl⟩
    · have e : bbF x (k + 1) = bbF x k := by rw [bbF, if_neg hb]
      rw [e] at h ⊢
      exact bbF_good x k h
theorem unc_count (x u : ByteArray) : ∀ N, (uncL x u N).length + cnB (cvB x u) N = N
  | 0 => rfl
  | N + 1 => by
    have ih := unc_count x u N
    have e : (uncL x u (N + 1)).length = (uncL x u N).length + (if cvB x u N = true then 0 else 1) := by
      unfold uncL
      rw [List.length_map, List.length_map, List.range_succ, List.filter_append, List.length_append]
      congr 1
      cases h : cvB x u N <;> simp [h]
    have e2 : cnB (cvB x u) (N + 1) = cnB (cvB x u) N + (if cvB x u N = true then 1 else 0) := by
      rw [cnB]
      try (cases h : cvB x u N <;> simp)
    rw [e, e2]
    cases h : cvB x u N <;> simp <;> omega
theorem gBb (x : ByteArray) : (bestR x).2.2 ≠ 0 ∨ ((bestR x).2.2 = 0 ∧ (bestR x).1.size ≤ 60 ∧ ∃ U : List Int, uncoveredR x (bestR x).1 = (U, 0) ∧ (U.length : Int) + (bestR x).2.1 = (x.size : Int) ∧ bordersR x = (bordsR (bl x) x.size, 0) ∧ (((bestR x).1.size : Nat) : Int) ∈ bordsR (bl x) x.size) := by
  by_cases h : IsW x
  · by_cases k : (bbF x (x.size - 1)).2 = 0
    · rw [bestR_none h k]; exact .inl (by decide)
    · obtain ⟨h1, h2, h3⟩ := bbF_good x _ k
      obtain ⟨h4, _⟩ := bbF_le x (x.size - 1)
      have h60 := h.size
      rw [bestR_ok h k]
      generalize (bbF x (x.size - 1)).1 = b at *
      generalize (bbF x (x.size - 1)).2 = n at *
      have hs : (x.extract 0 b).size = b := by rw [ByteArray.size_extract]; omega
      right
      refine ⟨rfl, by show (x.extract 0 b).size ≤ 60; omega, uncL x (x.extract 0 b) x.size, ?_, ?_, bordersR_ok h, ?_⟩
      · show uncoveredR x (x.extract 0 b) = _
        rw [uncoveredR_ok ⟨h, isW_cut h _ _⟩ (by omega)]
      · show ((uncL x (x.extract 0 b) x.size).length : Int) + (n : Int) = _
        have := unc_count x (x.extract 0 b) x.size
        unfold cvN at h3
        omega
      · show (((x.extract 0 b).size : Nat) : Int) ∈ _
        rw [hs]
        unfold bordsR
        rw [List.mem_map]
        refine ⟨b, ?_, rfl⟩
        rw [List.mem_filter]
        refine ⟨List.mem_range.2 (by omega), ?_⟩
        rw [bl_len, ← per_text x (x.size - b) (by omega), show x.size - (x.size - b) = b by omega]
        exact (of_decide_eq_true h2).symm
  · rw [bestR_bad h]; exact .inl (by decide)

end Go.Proofs.YtfipbnognjepkaaGreatDoor
