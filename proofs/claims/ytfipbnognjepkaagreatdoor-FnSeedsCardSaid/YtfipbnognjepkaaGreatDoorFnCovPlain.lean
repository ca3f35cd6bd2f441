/- Plain facts: covers of covers, borders, seeds; grown words have their covers. -/
import Derived.Test.YtfipbnognjepkaaGreatDoorSeedPlain
import Derived.Test.YtfipbnognjepkaaGreatDoorPerRPlain
namespace Go.Proofs.YtfipbnognjepkaaGreatDoor
set_option linter.unusedVariables false
set_option linter.unusedSimpArgs false
open Go.RowKit

theorem cvB_iff {x u : ByteArray} {j : Nat} : cvB x u j = true ↔ ∃ i, i + u.size ≤ x.size ∧ x.extract i (i + u.size) = u ∧ i ≤ j ∧ j < i + u.size := by
  unfold cvB
  rw [List.any_eq_true]
  constructor
  · rintro ⟨i, hi, h⟩
    rw [List.mem_range] at hi
    unfold cvAt at h
    simp only [Bool.and_eq_true, decide_eq_true_eq] at h
    exact ⟨i, by omega, h.1, h.2.1, h.2.2⟩
  · rintro ⟨i, h1, h2, h3, h4⟩
    refine ⟨i, List.mem_range.2 (by omega), ?_⟩
    unfold cvAt
    simp only [Bool.and_eq_true, decide_eq_true_eq]
    exact ⟨h2, h3, h4⟩
theorem cvAll_iff {x u : ByteArray} : cvAll x u = true ↔ ∀ j, j < x.size → ∃ i, i + u.size ≤ x.size ∧ x.extract i (i + u.size) = u ∧ i ≤ j ∧ j < i + u.size := by
  unfold cvAll
  rw [allB_iff]
  exact ⟨fun h j hj => cvB_iff.1 (h j hj), fun h j hj => cvB_iff.2 (h j hj)⟩
/-- Covers of covers are covers. -/
theorem cvAll_trans {x u v : ByteArray} (h1 : cvAll x u = true) (h2 : cvAll u v = true) : cvAll x v = true := by
  rw [cvAll_iff] at h1 h2 ⊢
  intro j hj
  obtain ⟨i, a1, a2, a3, a4⟩ := h1 j hj
  obtain ⟨k, b1, b2, b3, b4⟩ := h2 (j - i) (by omega)
  refine ⟨i + k, by omega, ?_, by omega, by omega⟩
  have e : (x.extract i (i + u.size)).extract k (k + v.size) = v := by rw [a2]; exact b2
  rw [ByteArray.extract_extract, show min (i + (k + v.size)) (i + u.size) = i + k + v.size by omega] at e
  exact e
theorem cvs_iff {x z : ByteArray} : z ∈ cvs x ↔ (∃ i, i < x.size ∧ z = beg x i) ∧ cvAll x z = true := by
  unfold cvs cvsL begs
  rw [List.mem_filter, List.mem_map]
  constructor
  · rintro ⟨⟨i, hi, rfl⟩, h⟩
    exact ⟨⟨i, List.mem_range.1 hi, rfl⟩, h⟩
  · rintro ⟨⟨i, hi, rfl⟩, h⟩
    exact ⟨⟨i, List.mem_range.2 hi, rfl⟩, h⟩
/-- Of the covers the first one has the fewest letters. -/
theorem begs_sorted (x : ByteArray) : ∀ N, N ≤ x.size → (cvsL x N).Pairwise fun a b => a.size < b.size
  | 0, _ => List.Pairwise.nil
  | N + 1, hN => by
    have ih := begs_sorted x N (by omega)
    cases h : cvAll x (beg x N) with
    | false => rw [cvsL_miss h]; exact ih
    | true =>
      rw [cvsL_hit h, List.pairwise_append]
      refine ⟨ih, by simp, fun a ha b hb => ?_⟩
      rw [List.mem_singleton] at hb
      subst hb
      unfold cvsL begs at ha
      rw [List.mem_filter, List.mem_map] at ha
      obtain ⟨⟨i, hi, rfl⟩, _⟩ := ha
      rw [List.mem_range] at hi
      rw [beg_size (by omega), beg_size (by omega)]
      omega
theorem lc_mem {x : ByteArray} (h : 0 < x.size) : lc x ∈ cvs x := by rw [← lc_get h]; exact List.getElem_mem _
theorem lc_least {x z : ByteArray} (h : z ∈ cvs x) : z = lc x ∨ (lc x).size < z.size := by
  have hs := begs_sorted x x.size (Nat.le_refl _)
  show z = (cvs x).headD tE ∨ _
  unfold lc
  change (cvs x).Pairwise _ at hs
  cases e : cvs x with
  | nil => rw [e] at h; cases h
  | cons a t =>
    rw [e] at h hs
    rcases List.mem_cons.1 h with rfl | h
    · exact .inl rfl
    · exact .inr ((List.pairwise_cons.1 hs).1 z h)
theorem beg_beg {x : ByteArray} {i k : Nat} (hk : k ≤ i) (hi : i < x.size) : beg (beg x i) k = beg x k := by
  unfold beg
  rw [ByteArray.extract_extract]
  congr 1
  omega
theorem lc_pos {x : ByteArray} (h : 0 < x.size) : 0 < (lc x).size := by
  obtain ⟨⟨i, hi, e⟩, _⟩ := cvs_iff.1 (lc_mem h)
  rw [e, beg_size hi]; omega
/-- The least cover has no cover but itself. -/
theorem lc_super {x : ByteArray} (h : 0 < x.size) : (cvs (lc x)).length = 1 := by
  have hm := lc_mem h
  obtain ⟨⟨i, hi, e⟩, hc⟩ := cvs_iff.1 hm
  have hp := lc_pos h
  have hall : ∀ z ∈ cvs (lc x), z = lc x := by
    intro z hz
    obtain ⟨⟨k, hk, rfl⟩, hz2⟩ := cvs_iff.1 hz
    have hsz : (lc x).size = i + 1 := by rw [e]; exact beg_size hi
    have e2 : beg (lc x) k = beg x k := by rw [e]; exact beg_beg (by omega) hi
    have hz3 := cvAll_trans hc hz2
    rw [e2] at hz3 ⊢
    rcases lc_least (cvs_iff.2 ⟨⟨k, by omega, rfl⟩, hz3⟩) with q | q
    · exact q
    · rw [beg_size (by omega)] at q; omega
  have hs := begs_sorted (lc x) (lc x).size (Nat.le_refl _)
  change (cvs (lc x)).Pairwise _ at hs
  have hpos := cvs_pos hp
  cases e3 : cvs (lc x) with
  | nil => rw [e3] at hpos; simp at hpos
  | cons a t =>
    rw [e3] at hs hall
    cases t with
    | nil => rfl
    | cons b t =>
      have h1 := hall a (by simp)
      have h2 := hall b (by simp)
      have := (List.pairwise_cons.1 hs).1 b (by simp)
      rw [h1, h2] at this; omega
theorem super_iff {x : ByteArray} (h : 0 < x.size) : (cvs x).length = 1 ↔ lc x = x := by
  constructor
  · intro h1
    have h2 := lc_mem h
    have h3 := cvs_self h
    cases e : cvs x with
    | nil => rw [e] at h1; simp at h1
    | cons a t =>
      rw [e] at h1 h2 h3
      cases t with
      | nil => rw [List.mem_singleton] at h2 h3; rw [h2, ← h3]
      | cons b t => simp at h1
  · intro e
    have := lc_super h
    rwa [e] at this
theorem cvs_last {x : ByteArray} (h : 0 < x.size) (hl : (cvs x).length - 1 < (cvs x).length) : (cvs x)[(cvs x).length - 1]'hl = x := by
  have e : cvs x = cvsL x (x.size - 1) ++ [x] := by
    have h1 : cvs x = cvsL x ((x.size - 1) + 1) := by unfold cvs; rw [show x.size - 1 + 1 = x.size by omega]
    rw [h1, cvsL_hit (by rw [beg_all x h]; exact cv_self h), beg_all x h]
  simp only [e, List.length_append, List.length_singleton, Nat.add_sub_cancel]
  rw [List.getElem_append_right (Nat.le_refl _)]
  simp
theorem cls_last {x : ByteArray} (h : 0 < x.size) (hl : x.size - 1 < (clsL x x.size).length) : (clsL x x.size)[x.size - 1]'hl = ((lc x).size : Int) := by
  have e : (clsL x x.size)[x.size - 1]? = some ((lc x).size : Int) := by
    unfold clsL
    rw [List.getElem?_map, List.getElem?_range (by omega)]
    simp [beg_all x h]
  exact (List.getElem?_eq_some_iff.1 e).2
/-- A cover but the word is a border. -/
theorem cv_border {x z : ByteArray} (h0 : 0 < x.size) (h : z ∈ cvs x) (hne : z ≠ x) : ((z.size : Nat) : Int) ∈ bordsR (bl x) x.size := by
  obtain ⟨⟨i, hi, e⟩, hc⟩ := cvs_iff.1 h
  have hs : z.size = i + 1 := by rw [e]; exact beg_size hi
  have hlt : z.size < x.size := by
    rcases Nat.lt_or_ge z.size x.size with q | q
    · exact q
    · exfalso
      apply hne
      rw [e, show i = x.size - 1 by omega, beg_all x h0]
  obtain ⟨k, a1, a2, a3, a4⟩ := cvAll_iff.1 hc (x.size - 1) (by omega)
  have hk : k = x.size - z.size := by omega
  unfold bordsR
  rw [List.mem_map]
  refine ⟨z.size, ?_, rfl⟩
  rw [List.mem_filter]
  refine ⟨List.mem_range.2 hlt, ?_⟩
  rw [bl_len, ← per_text x (x.size - z.size) (by omega), show x.size - (x.size - z.size) = z.size by omega]
  have h2 : x.extract (x.size - z.size) x.size = z := by
    rw [hk, show x.size - z.size + z.size = x.size by omega] at a2; exact a2
  rw [h2]
  have h3 : z = x.extract 0 (i + 1) := e
  rw [hs]; exact h3
theorem cv_seed {x u : ByteArray} (h : cvAll x u = true) : sdAll x u = true := by
  unfold cvAll at h; unfold sdAll
  rw [allB_iff] at h ⊢
  intro j hj
  unfold svB svK
  rw [h j hj]; rfl
theorem unc_nil {x u : ByteArray} : uncL x u x.size = [] ↔ cvAll x u = true := by
  unfold uncL cvAll
  rw [List.map_eq_nil_iff, List.filter_eq_nil_iff, allB_iff]
  constructor
  · intro h j hj
    have := h j (List.mem_range.2 hj)
    simpa using this
  · intro h j hj
    rw [h j (List.mem_range.1 hj)]; decide
/-- A word grown by u, at a step: it ends with u, and u covers it. -/
theorem ext_left {a b : ByteArray} {i j : Nat} (h : j ≤ a.size) : (a ++ b).extract i j = a.extract i j := by
  apply bl_inj
  rw [bl_extract, bl_extract, bl_append]
  by_cases e : i ≤ j
  · rw [List.drop_append_of_le_length (by rw [bl_len]; omega), List.take_append_of_le_length (by rw [List.length_drop, bl_len]; omega)]
  · rw [show j - i = 0 by omega, List.take_zero, List.take_zero]
theorem grow_inv {u : ByteArray} (h0 : 0 < u.size) : ∀ (L : List Int) (a : ByteArray), (∀ z ∈ L, 0 ≤ z ∧ z < u.size) → (∀ z ∈ L, bdT u z.toNat = true) → u.size ≤ a.size → a.extract (a.size - u.size) a.size = u → cvAll a u = true →
    cvAll (L.foldl (fun a z => a ++ u.extract z.toNat u.size) a) u = true
  | [], a, _, _, _, _, h => h
  | z :: L, a, h1, h2, h3, h4, h5 => by
    obtain ⟨z0, z1⟩ := h1 z (List.mem_cons_self ..)
    have hb := h2 z (List.mem_cons_self ..)
    obtain ⟨k, rfl⟩ : ∃ k : Nat, z = k := ⟨z.toNat, by omega⟩
    rw [Int.toNat_natCast] at hb
    have hk : k < u.size := by omega
    rw [List.foldl_cons, Int.toNat_natCast]
    have hsz : (a ++ u.extract k u.size).size = a.size + (u.size - k) := by rw [ByteArray.size_append, ByteArray.size_extract]; omega
    have hb2 : u.extract 0 k = u.extract (u.size - k) u.size := of_decide_eq_true hb
    have hend : (a ++ u.extract k u.size).extract (a.size - k) (a.size + (u.size - k)) = u := by
      apply bl_inj
      rw [bl_extract, bl_append]
      have e1 : (bl a ++ bl (u.extract k u.size)).drop (a.size - k) = (bl a).drop (a.size - k) ++ bl (u.extract k u.size) := by
        rw [List.drop_append_of_le_length (by rw [bl_len]; omega)]
      have e2 : (bl a).drop (a.size - k) = (bl u).take k := by
        have e3 : bl (a.extract (a.size - u.size) a.size) = bl u := by rw [h4]
        rw [bl_drop] at e3
        have e4 := congrArg (List.drop (u.size - k)) e3
        rw [List.drop_drop, show a.size - u.size + (u.size - k) = a.size - k by omega] at e4
        rw [e4, ← bl_drop, ← hb2, bl_take]
      rw [e1, e2, bl_drop, List.take_append_drop, List.take_of_length_le (by rw [bl_len]; omega)]
    refine grow_inv h0 L _ (fun y hy => h1 y (List.mem_cons_of_mem _ hy)) (fun y hy => h2 y (List.mem_cons_of_mem _ hy)) (by rw [hsz]; omega) ?_ ?_
    · rw [hsz, show a.size + (u.size - k) - u.size = a.size - k by omega]; exact hend
    · rw [cvAll_iff] at h5 ⊢
      intro j hj
      rw [hsz] at hj
      by_cases e : j < a.size
      · obtain ⟨i, c1, c2, c3, c4⟩ := h5 j e
        exact ⟨i, by rw [hsz]; omega, by rw [ext_left c1]; exact c2, c3, c4⟩
      · exact ⟨a.size - k, by rw [hsz]; omega, by rw [show a.size - k + u.size = a.size + (u.size - k) by omega]; exact hend, by omega, by omega⟩
theorem grown_cover {u : ByteArray} {L : List Int} (h0 : 0 < u.size) (r : ∀ z ∈ L, 0 ≤ z ∧ z < u.size) (b : ∀ z ∈ L, bdT u z.toNat = true) : cvAll (growT u L) u = true :=
  grow_inv h0 L u r b (Nat.le_refl _) (by rw [Nat.sub_self, ByteArray.extract_zero_size]) (cv_self h0)

end Go.Proofs.YtfipbnognjepkaaGreatDoor
