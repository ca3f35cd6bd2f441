/- Plain facts: numbers in ascending order, without those that stand there twice; the first word that is alike with a word. -/
import Derived.Test.YtolboinemechpaaAbPlain
import Derived.Test.YtolboinemechpaaNamedPlain
import Derived.Test.YtolboinemechpaaWordOfPlain
import Derived.Lib.SlicesCompact
namespace Go.Proofs.Ytolboinemechpaa
set_option linter.unusedVariables false
set_option linter.unusedSimpArgs false
open Go.RowKit

/-- The list in ascending order. -/
def sorted (L : List Int) : List Int := L.mergeSort fun x y => decide (x ≤ y)
theorem sorted_len (L : List Int) : (sorted L).length = L.length := List.length_mergeSort _
theorem sorted_perm (L : List Int) : (sorted L).Perm L := List.mergeSort_perm _ _
theorem sorted_up (L : List Int) : (sorted L).Pairwise (· ≤ ·) := by
  have := List.pairwise_mergeSort (le := fun x y : Int => decide (x ≤ y)) (fun a b c h1 h2 => by simp at *; omega) (fun a b => by simp; omega) L
  exact this.imp fun h => by simpa using h

/-- Two ascending lists, one a permutation of the other, are the same. -/
theorem up_perm : ∀ {a b : List Int}, a.Pairwise (· ≤ ·) → b.Pairwise (· ≤ ·) → a.Perm b → a = b
  | [], b, _, _, h => (List.nil_perm.1 h).symm
  | x :: a, [], _, _, h => absurd h.length_eq (by simp)
  | x :: a, y :: b, ha, hb, h => by
    rw [List.pairwise_cons] at ha hb
    have e : x = y := by
      have h1 := h.mem_iff.1 (List.mem_cons_self (a := x) (l := a))
      have h2 := h.mem_iff.2 (List.mem_cons_self (a := y) (l := b))
      rcases List.mem_cons.1 h1 with h1 | h1
      · exact h1
      · rcases List.mem_cons.1 h2 with h2 | h2
        · exact h2.symm
        · have := ha.1 y h2; have := hb.1 x h1; omega
    subst e
    rw [up_perm ha.2 hb.2 (List.Perm.cons_inv h)]

/-- The numbers of letters, as many of each as told, ascending: those ahead of the letter k. -/
def numsK (f : Nat → Nat) (k : Nat) : List Int := (List.range k).flatMap fun j => List.replicate (f j) (j : Int)
theorem numsK_succ (f : Nat → Nat) (k : Nat) : numsK f (k + 1) = numsK f k ++ List.replicate (f k) (k : Int) := by
  unfold numsK
  rw [List.range_succ, List.flatMap_append]
  simp
theorem mem_numsK {f : Nat → Nat} {k : Nat} {z : Int} (h : z ∈ numsK f k) : 0 ≤ z ∧ z < k := by
  unfold numsK at h
  rw [List.mem_flatMap] at h
  obtain ⟨j, hj, hz⟩ := h
  have := List.mem_range.1 hj
  have := List.eq_of_mem_replicate hz
  omega
theorem numsK_up (f : Nat → Nat) : ∀ k, (numsK f k).Pairwise (· ≤ ·)
  | 0 => List.Pairwise.nil
  | k + 1 => by
    rw [numsK_succ, List.pairwise_append]
    refine ⟨numsK_up f k, List.pairwise_replicate.2 (.inr (Int.le_refl _)), fun a ha b hb => ?_⟩
    have := mem_numsK ha
    have := List.eq_of_mem_replicate hb
    omega
theorem numsK_count (f : Nat → Nat) : ∀ (k : Nat) (z : Int), (numsK f k).count z = if 0 ≤ z ∧ z < k then f z.toNat else 0
  | 0, z => by rw [if_neg (by omega)]; rfl
  | k + 1, z => by
    rw [numsK_succ, List.count_append, numsK_count f k z, List.count_replicate]
    by_cases e : z = (k : Int)
    · subst e
      rw [if_neg (by omega), if_pos (by simp), if_pos (by omega), Int.toNat_natCast]
      omega
    · have e2 : ¬ ((k : Int) == z) = true := by simp; omega
      rw [if_neg e2]
      by_cases h : 0 ≤ z ∧ z < k
      · rw [if_pos h, if_pos (by omega)]; omega
      · rw [if_neg h, if_neg (by omega)]
theorem nums_count {x : ByteArray} (h : IsW x) (z : Int) : (numsR x).count z = if 0 ≤ z ∧ z < (5 : Nat) then ct (bl x) z.toNat else 0 := by
  unfold numsR
  by_cases hz : 0 ≤ z ∧ z < (5 : Nat)
  · rw [if_pos hz]
    obtain ⟨n, rfl⟩ := Int.eq_ofNat_of_zero_le hz.1
    have hn : n < 5 := by omega
    rw [Int.toNat_natCast]
    unfold ct
    rw [List.count_eq_countP, List.countP_map, List.count_eq_countP]
    refine List.countP_congr fun c hc => ?_
    have hb := h.mem hc
    simp only [Function.comp, beq_iff_eq]
    constructor
    · intro e
      have : c.toNat - 97 = n := by omega
      rw [← this, letr_of hb.1]
    · intro e
      rw [e, letr_nat hn]
      omega
  · rw [if_neg hz, List.count_eq_zero]
    intro hm
    obtain ⟨c, hc, e⟩ := List.mem_map.1 hm
    have := h.mem hc
    omega
theorem sorted_nums {x : ByteArray} (h : IsW x) : sorted (numsR x) = numsK (ct (bl x)) 5 := by
  refine up_perm (sorted_up _) (numsK_up _ _) ((sorted_perm _).trans ?_)
  rw [List.perm_iff_count]
  intro z
  rw [nums_count h, numsK_count]

/-- The letters, as many of each as told, ascending. -/
def srtK (f : Nat → Nat) (k : Nat) : List UInt8 := (List.range k).flatMap fun j => List.replicate (f j) (letr j)
theorem srtK_succ (f : Nat → Nat) (k : Nat) : srtK f (k + 1) = srtK f k ++ List.replicate (f k) (letr k) := by
  unfold srtK
  rw [List.range_succ, List.flatMap_append]
  simp
theorem letB_letr (j : Nat) : letB (j : Int) = letr j := rfl
theorem wordL_numsK (f : Nat → Nat) : ∀ k, wordL (numsK f k) = srtK f k
  | 0 => rfl
  | k + 1 => by
    rw [numsK_succ, srtK_succ, ← wordL_numsK f k]
    unfold wordL
    rw [List.map_append, List.map_replicate, letB_letr]
theorem srtK_len (f : Nat → Nat) (k : Nat) : (srtK f k).length = (numsK f k).length := by rw [← wordL_numsK]; simp [wordL]
theorem numsK_len {x : ByteArray} (h : IsW x) : (numsK (ct (bl x)) 5).length = x.size := by rw [← sorted_nums h, sorted_len, numsR_len]
theorem numsK_mono (f : Nat → Nat) {k m : Nat} (h : k ≤ m) : (numsK f k).length ≤ (numsK f m).length := by
  obtain ⟨d, rfl⟩ : ∃ d, m = k + d := ⟨m - k, by omega⟩
  clear h
  induction d with
  | zero => exact Nat.le_refl _
  | succ d ih => rw [show k + (d + 1) = k + d + 1 by omega, numsK_succ, List.length_append]; omega
theorem numsK_ok (f : Nat → Nat) : okN (numsK f 5) := fun j hj => by
  have := mem_numsK (List.getElem_mem hj)
  omega
/-- What the model has behind c letters more. -/
def srtC (f : Nat → Nat) (k c : Nat) : List UInt8 := srtK f k ++ List.replicate c (letr k)
theorem srtC_zero (f : Nat → Nat) (k : Nat) : srtC f k 0 = srtK f k := by simp [srtC]
theorem srtC_succ (f : Nat → Nat) (k c : Nat) : srtC f k (c + 1) = srtC f k c ++ [letr k] := by simp [srtC, List.replicate_succ', List.append_assoc]
theorem srtC_all (f : Nat → Nat) (k : Nat) : srtC f k (f k) = srtK f (k + 1) := (srtK_succ f k).symm
theorem srtC_len {x : ByteArray} (h : IsW x) {k c : Nat} (hk : k < 5) (hc : c ≤ ct (bl x) k) : (srtC (ct (bl x)) k c).length ≤ x.size := by
  have h1 := numsK_mono (ct (bl x)) (show k + 1 ≤ 5 by omega)
  rw [numsK_len h, numsK_succ, List.length_append, List.length_replicate] at h1
  unfold srtC
  rw [List.length_append, srtK_len, List.length_replicate]
  omega
theorem bt_push (l : List UInt8) (c : UInt8) : bt l ++ ⟨#[c]⟩ = bt (l ++ [c]) := by
  apply ByteArray.ext
  rw [ByteArray.data_append]
  simp [bt]
def sortedR (x : ByteArray) : ByteArray × Int := if ¬ IsW x then (tE, 1) else (bt (srtK (ct (bl x)) 5), 0)
theorem sortedR_bad {x : ByteArray} (h : ¬ IsW x) : sortedR x = (tE, 1) := if_pos h
theorem sortedR_ok {x : ByteArray} (h : IsW x) : sortedR x = (bt (srtK (ct (bl x)) 5), 0) := by unfold sortedR; rw [if_neg (not_not_intro h)]

/-! ### Without those that stand there twice. -/
theorem keeps_iff {d : Array Int} {j : Nat} : Lib.keeps d j = true ↔ (j = 0 ∨ d[j]! ≠ d[j - 1]!) := by unfold Lib.keeps; exact decide_eq_true_iff
theorem compact_len (zs : List Int) : (Lib.compact zs).length ≤ zs.length := by
  unfold Lib.compact Lib.compactUpTo
  rw [List.length_map]
  exact Nat.le_trans (List.length_filter_le _ _) (by simp)
theorem arr_get (zs : List Int) {j : Nat} (h : j < zs.length) : zs.toArray[j]! = zs[j]'h := by simp [h]
theorem mem_compact {zs : List Int} {z : Int} : z ∈ Lib.compact zs ↔ z ∈ zs := by
  unfold Lib.compact Lib.compactUpTo
  simp only [List.mem_map, List.mem_filter, List.mem_range]
  constructor
  · rintro ⟨j, ⟨hj, _⟩, rfl⟩
    rw [arr_get zs hj]
    exact List.getElem_mem hj
  · intro hz
    obtain ⟨j, hj, rfl⟩ := List.getElem_of_mem hz
    induction j with
    | zero => exact ⟨0, ⟨hj, keeps_iff.2 (.inl rfl)⟩, arr_get zs hj⟩
    | succ j ih =>
      by_cases e : zs[j + 1]'hj = zs[j]'(by omega)
      · obtain ⟨i, h1, h2⟩ := ih (by omega) (List.getElem_mem _)
        exact ⟨i, h1, by rw [h2, e]⟩
      · refine ⟨j + 1, ⟨hj, keeps_iff.2 (.inr ?_)⟩, arr_get zs hj⟩
        rw [arr_get zs hj, Nat.add_sub_cancel, arr_get zs (show j < zs.length by omega)]
        exact e
theorem compact_up {zs : List Int} (h : zs.Pairwise (· ≤ ·)) : (Lib.compact zs).Pairwise (· < ·) := by
  unfold Lib.compact Lib.compactUpTo
  rw [List.pairwise_map]
  have h1 : ((List.range zs.length).filter (Lib.keeps zs.toArray)).Pairwise fun i j => i < j ∧ j < zs.length ∧ Lib.keeps zs.toArray j = true := by
    have h0 : ((List.range zs.length).filter (Lib.keeps zs.toArray)).Pairwise (· < ·) := List.pairwise_lt_range.filter _
    refine h0.imp_of_mem fun ha hb hlt => ⟨hlt, ?_, ?_⟩
    · exact List.mem_range.1 (List.mem_filter.1 hb).1
    · exact (List.mem_filter.1 hb).2
  refine h1.imp ?_
  rintro i j ⟨hij, hj, hk⟩
  rw [arr_get zs (show i < zs.length by omega), arr_get zs hj]
  have h2 := List.pairwise_iff_getElem.1 h
  rcases keeps_iff.1 hk with e | e
  · omega
  · rw [arr_get zs hj, arr_get zs (show j - 1 < zs.length by omega)] at e
    have h3 := h2 (j - 1) j (by omega) hj (by omega)
    by_cases e2 : i = j - 1
    · subst e2; omega
    · have := h2 i (j - 1) (by omega) (by omega) (by omega)
      omega

end Go.Proofs.Ytolboinemechpaa
