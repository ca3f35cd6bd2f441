/- Plain facts: the window of a length: the widest gap of a factor tells when all windows have it. -/
import Derived.Test.YtbhgghajbdlfkabGapPlain
import Derived.Lib.Slices
namespace Go.Proofs.Ytbhgghajbdlfkab
set_option linter.unusedVariables false
set_option linter.unusedSimpArgs false
open Go.RowKit

/-- Two neighbours of an ascending list around a number. -/
theorem gap_at : ∀ (a : Int) (L : List Int) (i : Int), (a :: L).Pairwise (· < ·) → a < i → (∃ z ∈ a :: L, i ≤ z) →
    ∃ e e', e ∈ a :: L ∧ e' ∈ a :: L ∧ e < i ∧ i ≤ e' ∧ (e' - e) ∈ gapsOf (a :: L)
  | a, [], i, _, h, ⟨z, hz, hi⟩ => by
    simp at hz
    subst hz
    omega
  | a, b :: r, i, hp, h, ⟨z, hz, hi⟩ => by
    by_cases hb : i ≤ b
    · exact ⟨a, b, by simp, by simp, h, hb, by rw [gapsOf]; exact List.mem_cons_self ..⟩
    · obtain ⟨e, e', h1, h2, h3, h4, h5⟩ := gap_at b r i (List.pairwise_cons.1 hp).2 (by omega) ⟨z, by
        rcases List.mem_cons.1 hz with rfl | hz
        · omega
        · exact hz, hi⟩
      exact ⟨e, e', List.mem_cons_of_mem _ h1, List.mem_cons_of_mem _ h2, h3, h4, by rw [gapsOf]; exact List.mem_cons_of_mem _ h5⟩
/-- A gap lies between two neighbours, with nothing between them. -/
theorem gap_of : ∀ (L : List Int) (d : Int), L.Pairwise (· < ·) → d ∈ gapsOf L → ∃ e e', e ∈ L ∧ e' ∈ L ∧ e' - e = d ∧ e < e' ∧ ∀ z ∈ L, z ≤ e ∨ e' ≤ z
  | [], d, _, h => by simp [gapsOf] at h
  | [_], d, _, h => by simp [gapsOf] at h
  | a :: b :: r, d, hp, h => by
    obtain ⟨h1, h2⟩ := List.pairwise_cons.1 hp
    rw [gapsOf] at h
    rcases List.mem_cons.1 h with rfl | h
    · refine ⟨a, b, by simp, by simp, rfl, h1 b (by simp), fun z hz => ?_⟩
      rcases List.mem_cons.1 hz with rfl | hz
      · exact .inl (Int.le_refl _)
      · rcases List.mem_cons.1 hz with rfl | hz
        · exact .inr (Int.le_refl _)
        · exact .inr (Int.le_of_lt ((List.pairwise_cons.1 h2).1 z hz))
    · obtain ⟨e, e', k1, k2, k3, k4, k5⟩ := gap_of (b :: r) d h2 h
      refine ⟨e, e', List.mem_cons_of_mem _ k1, List.mem_cons_of_mem _ k2, k3, k4, fun z hz => ?_⟩
      rcases List.mem_cons.1 hz with rfl | hz
      · exact .inl (Int.le_of_lt (h1 e k1))
      · exact k5 z hz

/-- The places just outside, and the places of a factor between them. -/
def extP (x f : ByteArray) : List Int := -1 :: (posOf x f (List.range (x.size + 1 - f.size)) ++ [(x.size : Int) - f.size + 1])
def wgap (x f : ByteArray) : Int := Lib.maxOf (gapsOf (extP x f))
theorem extP_asc (x f : ByteArray) (h : f.size ≤ x.size) : (extP x f).Pairwise (· < ·) := by
  unfold extP
  have hb := posOf_bound x f (x.size + 1 - f.size)
  refine List.pairwise_cons.2 ⟨fun z hz => ?_, List.pairwise_append.2 ⟨posOf_asc x f _, by simp, fun a ha b hb2 => ?_⟩⟩
  · rcases List.mem_append.1 hz with hz | hz
    · have := hb z hz; omega
    · simp at hz; omega
  · simp at hb2
    have := hb a ha
    omega
theorem extP_len (x f : ByteArray) : (extP x f).length = (posOf x f (List.range (x.size + 1 - f.size))).length + 2 := by unfold extP; simp
theorem gaps_ne (x f : ByteArray) : gapsOf (extP x f) ≠ [] := by
  intro e
  have := gapsOf_len (extP x f)
  rw [e, extP_len] at this
  simp at this
theorem mem_posOf (x f : ByteArray) (z : Int) : z ∈ posOf x f (List.range (x.size + 1 - f.size)) ↔ ∃ p : Nat, z = p ∧ p + f.size ≤ x.size ∧ x.extract p (p + f.size) = f := by
  unfold posOf
  rw [List.mem_map]
  constructor
  · rintro ⟨p, hp, rfl⟩
    obtain ⟨h1, h2⟩ := List.mem_filter.1 hp
    have h3 := of_decide_eq_true h2
    have h4 := List.mem_range.1 h1
    by_cases hf : f.size ≤ x.size
    · exact ⟨p, rfl, by omega, h3⟩
    · omega
  · rintro ⟨p, rfl, h1, h2⟩
    exact ⟨p, List.mem_filter.2 ⟨List.mem_range.2 (by omega), decide_eq_true h2⟩, rfl⟩

/-- Does each factor of the length n have the word? -/
def hasAt (x : ByteArray) (n : Nat) (u : ByteArray) (i : Nat) : Bool := !decide ((posOf (x.extract i (i + n)) u (List.range ((x.extract i (i + n)).size + 1 - u.size))).length = 0)
theorem hasAt_iff (x : ByteArray) (n : Nat) (u : ByteArray) (i : Nat) (hi : i + n ≤ x.size) : hasAt x n u i = true ↔ ∃ p : Nat, i ≤ p ∧ p + u.size ≤ i + n ∧ x.extract p (p + u.size) = u := by
  unfold hasAt
  have hs : (x.extract i (i + n)).size = n := by simp; omega
  rw [Bool.not_eq_true', decide_eq_false_iff_not, List.length_eq_zero_iff]
  constructor
  · intro h
    obtain ⟨z, hz⟩ := List.exists_mem_of_ne_nil _ h
    obtain ⟨p, rfl, h1, h2⟩ := (mem_posOf (x.extract i (i + n)) u z).1 hz
    rw [hs] at h1
    refine ⟨i + p, by omega, by omega, ?_⟩
    rw [ByteArray.extract_extract, show min (i + (p + u.size)) (i + n) = i + p + u.size by omega] at h2
    exact h2
  · rintro ⟨p, h1, h2, h3⟩ e
    have : ((p - i : Nat) : Int) ∈ posOf (x.extract i (i + n)) u (List.range ((x.extract i (i + n)).size + 1 - u.size)) := by
      refine (mem_posOf (x.extract i (i + n)) u _).2 ⟨p - i, rfl, by rw [hs]; omega, ?_⟩
      rw [ByteArray.extract_extract, show i + (p - i) = p by omega, show min (i + (p - i + u.size)) (i + n) = p + u.size by omega]
      exact h3
    rw [e] at this
    cases this

theorem maxOf_all (L : List Int) : (∀ z ∈ L, z ≤ Lib.maxOf L) ∧ (L ≠ [] → Lib.maxOf L ∈ L) := by
  have key : ∀ (L : List Int) (a : Int), (∀ z ∈ L, z ≤ L.foldl max a) ∧ a ≤ L.foldl max a ∧ (L.foldl max a = a ∨ L.foldl max a ∈ L) := by
    intro L
    induction L with
    | nil => intro a; simp
    | cons b r ih =>
      intro a
      obtain ⟨h1, h2, h3⟩ := ih (max a b)
      rw [List.foldl_cons]
      refine ⟨fun z hz => ?_, by omega, ?_⟩
      · rcases List.mem_cons.1 hz with rfl | hz
        · omega
        · exact h1 z hz
      · rcases h3 with h3 | h3
        · rw [h3]
          rcases Int.le_total a b with k | k
          · right; rw [Int.max_eq_right k]; simp
          · left; rw [Int.max_eq_left k]
        · exact .inr (List.mem_cons_of_mem _ h3)
  unfold Lib.maxOf
  refine ⟨(key L _).1, fun hne => ?_⟩
  cases L with
  | nil => exact absurd rfl hne
  | cons b r =>
    rcases (key (b :: r) ((b :: r).headD 0)).2.2 with h | h
    · rw [h]; simp
    · exact h

/-- All windows of the length n have the word just if its widest gap is no wider. -/
theorem win_iff (x f : ByteArray) (n : Nat) (h1 : f.size ≤ n) (h2 : n ≤ x.size) : (∀ i, i + n ≤ x.size → hasAt x n f i = true) ↔ wgap x f ≤ (n : Int) - f.size + 1 := by
  have hasc := extP_asc x f (by omega)
  have hmx := maxOf_all (gapsOf (extP x f))
  constructor
  · intro h
    obtain ⟨e, e', k1, k2, k3, k4, k5⟩ := gap_of (extP x f) (wgap x f) hasc (hmx.2 (gaps_ne x f))
    rcases Int.lt_or_le ((n : Int) - f.size + 1) (wgap x f) with hlt | hle
    · exfalso
      have he : -1 ≤ e ∧ e' ≤ (x.size : Int) - f.size + 1 := by
        have b1 : ∀ z ∈ extP x f, -1 ≤ z ∧ z ≤ (x.size : Int) - f.size + 1 := by
          intro z hz
          unfold extP at hz
          rcases List.mem_cons.1 hz with rfl | hz
          · omega
          · rcases List.mem_append.1 hz with hz | hz
            · have := posOf_bound x f _ z hz; omega
            · simp at hz; omega
        exact ⟨(b1 e k1).1, (b1 e' k2).2⟩
      obtain ⟨i, hi⟩ := Int.eq_ofNat_of_zero_le (show 0 ≤ e + 1 by omega)
      have hin : i + n ≤ x.size := by omega
      obtain ⟨p, p1, p2, p3⟩ := (hasAt_iff x n f i hin).1 (h i hin)
      have hp : (p : Int) ∈ extP x f := by
        unfold extP
        exact List.mem_cons_of_mem _ (List.mem_append_left _ ((mem_posOf x f _).2 ⟨p, rfl, by omega, p3⟩))
      rcases k5 _ hp with q | q <;> omega
    · exact hle
  · intro hle i hin
    obtain ⟨e, e', k1, k2, k3, k4, k5⟩ := gap_at (-1) _ (i : Int) hasc (by omega) ⟨(x.size : Int) - f.size + 1, by simp, by omega⟩
    have hg := hmx.1 _ k5
    change _ ≤ wgap x f at hg
    have hm : e' ∈ posOf x f (List.range (x.size + 1 - f.size)) := by
      rcases List.mem_cons.1 k2 with rfl | k2
      · omega
      · rcases List.mem_append.1 k2 with k2 | k2
        · exact k2
        · simp at k2; omega
    obtain ⟨p, rfl, q1, q2⟩ := (mem_posOf x f e').1 hm
    exact (hasAt_iff x n f i hin).2 ⟨p, by omega, by omega, q2⟩

theorem wgap_bound (x f : ByteArray) (h1 : f.size ≤ x.size) (h2 : posOf x f (List.range (x.size + 1 - f.size)) ≠ []) : 1 ≤ wgap x f ∧ wgap x f ≤ (x.size : Int) - f.size + 1 := by
  have hasc := extP_asc x f h1
  have hmx := maxOf_all (gapsOf (extP x f))
  obtain ⟨e, e', k1, k2, k3, k4, k5⟩ := gap_of (extP x f) (wgap x f) hasc (hmx.2 (gaps_ne x f))
  obtain ⟨z, hz⟩ := List.exists_mem_of_ne_nil _ h2
  have hzb := posOf_bound x f _ z hz
  have hzm : z ∈ extP x f := by unfold extP; exact List.mem_cons_of_mem _ (List.mem_append_left _ hz)
  have b1 : ∀ z ∈ extP x f, -1 ≤ z ∧ z ≤ (x.size : Int) - f.size + 1 := by
    intro z hz
    unfold extP at hz
    rcases List.mem_cons.1 hz with rfl | hz
    · omega
    · rcases List.mem_append.1 hz with hz | hz
      · have := posOf_bound x f _ z hz; omega
      · simp at hz; omega
  have c1 := b1 e k1
  have c2 := b1 e' k2
  rcases k5 z hzm with q | q <;> omega

/-- The window: the greatest of what the factors ask. -/
def winOf (x : ByteArray) (m : Nat) (L : List ByteArray) : Int := L.foldl (fun a f => max a (wgap x f + m - 1)) (m : Int)
theorem winOf_all (x : ByteArray) (m : Nat) (L : List ByteArray) : (m : Int) ≤ winOf x m L ∧ (∀ f ∈ L, wgap x f + m - 1 ≤ winOf x m L) ∧ (winOf x m L = m ∨ ∃ f ∈ L, winOf x m L = wgap x f + m - 1) := by
  have key : ∀ (L : List ByteArray) (a : Int), a ≤ L.foldl (fun a f => max a (wgap x f + m - 1)) a ∧ (∀ f ∈ L, wgap x f + m - 1 ≤ L.foldl (fun a f => max a (wgap x f + m - 1)) a) ∧ (L.foldl (fun a f => max a (wgap x f + m - 1)) a = a ∨ ∃ f ∈ L, L.foldl (fun a f => max a (wgap x f + m - 1)) a = wgap x f + m - 1) := by
    intro L
    induction L with
    | nil => intro a; simp
    | cons b r ih =>
      intro a
      obtain ⟨h1, h2, h3⟩ := ih (max a (wgap x b + m - 1))
      rw [List.foldl_cons]
      refine ⟨by omega, fun f hf => ?_, ?_⟩
      · rcases List.mem_cons.1 hf with rfl | hf
        · omega
        · exact h2 f hf
      · rcases h3 with h3 | ⟨f, hf, h3⟩
        · rw [h3]
          rcases Int.le_total a (wgap x b + m - 1) with k | k
          · right; exact ⟨b, by simp, Int.max_eq_right k⟩
          · left; exact Int.max_eq_left k
        · exact .inr ⟨f, List.mem_cons_of_mem _ hf, h3⟩
  exact key L m
theorem winOf_snoc (x : ByteArray) (m : Nat) (L : List ByteArray) (f : ByteArray) : winOf x m (L ++ [f]) = max (winOf x m L) (wgap x f + m - 1) := by
  unfold winOf; rw [List.foldl_append]; rfl
theorem facs_pos {x : ByteArray} {m : Nat} : ∀ f ∈ facs x m, f.size = m ∧ m ≤ x.size ∧ posOf x f (List.range (x.size + 1 - f.size)) ≠ [] := by
  intro f hf
  unfold facs at hf
  obtain ⟨i, hi, rfl⟩ := (mem_facK x m f _).1 hf
  have hs : (x.extract i (i + m)).size = m := by simp; omega
  refine ⟨hs, by omega, fun e => ?_⟩
  have : (i : Int) ∈ posOf x (x.extract i (i + m)) (List.range (x.size + 1 - (x.extract i (i + m)).size)) := (mem_posOf _ _ _).2 ⟨i, rfl, by omega, by rw [hs]⟩
  rw [e] at this
  cases this
def wholeB (x : ByteArray) (n : Nat) (L : List ByteArray) : Bool := (List.range (x.size + 1 - n)).all fun i => L.all fun u => hasAt x n u i
theorem wholeB_iff (x : ByteArray) (n : Nat) (L : List ByteArray) : wholeB x n L = true ↔ ∀ u ∈ L, ∀ i, i + n ≤ x.size → hasAt x n u i = true := by
  unfold wholeB
  rw [List.all_eq_true]
  constructor
  · intro h u hu i hi
    exact List.all_eq_true.1 (h i (List.mem_range.2 (by omega))) u hu
  · intro h i hi
    exact List.all_eq_true.2 fun u hu => h u hu i (by have := List.mem_range.1 hi; omega)
/-- The window is the least length that serves. -/
theorem win_least (x : ByteArray) (m : Nat) (hm : m ≤ x.size) : ∃ N : Nat, winOf x m (facs x m) = N ∧ m ≤ N ∧ N ≤ x.size ∧ wholeB x N (facs x m) = true ∧ ∀ n, m ≤ n → n < N → wholeB x n (facs x m) = false := by
  obtain ⟨h1, h2, h3⟩ := winOf_all x m (facs x m)
  obtain ⟨N, hN⟩ := Int.eq_ofNat_of_zero_le (show 0 ≤ winOf x m (facs x m) by omega)
  have hNx : N ≤ x.size := by
    rcases h3 with h3 | ⟨f, hf, h3⟩
    · omega
    · obtain ⟨f1, f2, f3⟩ := facs_pos f hf
      have := wgap_bound x f (by omega) f3
      omega
  refine ⟨N, hN, by omega, hNx, (wholeB_iff x N _).2 fun u hu => ?_, fun n hn1 hn2 => ?_⟩
  · obtain ⟨f1, f2, f3⟩ := facs_pos u hu
    have := h2 u hu
    exact (win_iff x u N (by omega) hNx).2 (by omega)
  · apply Bool.eq_false_iff.2
    intro hw
    rcases h3 with h3 | ⟨f, hf, h3⟩
    · omega
    · obtain ⟨f1, f2, f3⟩ := facs_pos f hf
      have := (win_iff x f n (by omega) (by omega)).1 ((wholeB_iff x n _).1 hw f hf)
      omega

def winR (x : ByteArray) (m : Int) : Int × Int :=
  if ¬ IsW x then (0, 1) else if m < 0 ∨ 60 < m then (0, 2) else if (x.size : Int) < m then (0, 4) else (winOf x m.toNat (facs x m.toNat), 0)
theorem winR_bad {x : ByteArray} {m : Int} (h : ¬ IsW x) : winR x m = (0, 1) := if_pos h
theorem winR_out {x : ByteArray} {m : Int} (h : IsW x) (k : m < 0 ∨ 60 < m) : winR x m = (0, 2) := by unfold winR; rw [if_neg (not_not_intro h), if_pos k]
theorem winR_none {x : ByteArray} {m : Nat} (h : IsW x) (k : m ≤ 60) (j : x.size < m) : winR x (m : Int) = (0, 4) := by
  unfold winR; rw [if_neg (not_not_intro h), if_neg (by omega), if_pos (by omega)]
theorem winR_ok {x : ByteArray} {m : Nat} (h : IsW x) (k : m ≤ 60) (j : m ≤ x.size) : winR x (m : Int) = (winOf x m (facs x m), 0) := by
  unfold winR; rw [if_neg (not_not_intro h), if_neg (by omega), if_neg (by omega)]; rfl

end Go.Proofs.Ytbhgghajbdlfkab
