/- Plain facts: the sums of factors; the first word without abelian powers. -/
import Derived.Test.YtolboinemechpaaAbPlain
import Derived.Test.YtolboinemechpaaNamedPlain
import Derived.Test.YtolboinemechpaaSrtPlain
namespace Go.Proofs.Ytolboinemechpaa
set_option linter.unusedVariables false
set_option linter.unusedSimpArgs false
open Go.RowKit

/-- The sum of the numbers of letters. -/
def sumL (l : List UInt8) : Nat := l.foldl (fun s c => s + (c.toNat - 97)) 0
theorem foldl_sum (l : List UInt8) : ∀ a : Nat, l.foldl (fun s c => s + (c.toNat - 97)) a = a + sumL l := by
  unfold sumL
  induction l with
  | nil => intro a; rfl
  | cons c t ih =>
    intro a
    rw [List.foldl_cons, List.foldl_cons, ih, ih (0 + _)]
    omega
theorem sumL_snoc (l : List UInt8) (c : UInt8) : sumL (l ++ [c]) = sumL l + (c.toNat - 97) := by
  unfold sumL
  rw [List.foldl_append]
  rfl
theorem sumL_take {l : List UInt8} {k : Nat} (h : k < l.length) : sumL (l.take (k + 1)) = sumL (l.take k) + ((l[k]'h).toNat - 97) := by
  rw [List.take_succ_eq_append_getElem h, sumL_snoc]
theorem sumL_le : ∀ (l : List UInt8), (∀ c ∈ l, c.toNat ≤ 101) → sumL l ≤ 4 * l.length
  | [], _ => Nat.le_refl _
  | c :: t, h => by
    have h1 := sumL_le t fun x hx => h x (List.mem_cons_of_mem _ hx)
    have h2 := h c (List.mem_cons_self ..)
    have h3 : sumL (c :: t) = (0 + (c.toNat - 97)) + sumL t := by
      unfold sumL
      rw [List.foldl_cons, foldl_sum]
      rfl
    rw [h3, List.length_cons]
    omega
/-- The sums of the first N factors. -/
def smsN (x : ByteArray) (m N : Nat) : List Nat := (List.range N).map fun i => sumL (bl (x.extract i (i + m)))
theorem smsN_snoc (x : ByteArray) (m N : Nat) : smsN x m (N + 1) = smsN x m N ++ [sumL (bl (x.extract N (N + m)))] := by
  unfold smsN
  rw [List.range_succ, List.map_append]
  rfl
theorem smsN_len (x : ByteArray) (m N : Nat) : (smsN x m N).length = N := by simp [smsN]
theorem smsN_le {x : ByteArray} (h : IsW x) (m N : Nat) : ∀ s ∈ smsN x m N, s ≤ 240 := by
  intro s hs
  obtain ⟨i, _, rfl⟩ := List.mem_map.1 hs
  have h1 := sumL_le (bl (x.extract i (i + m))) fun c hc => ((h.sub i (i + m)).mem hc).2
  have h2 := (h.sub i (i + m)).size
  rw [bl_len] at h1
  omega
/-- Those of the first N numbers that are in a list, ascending. -/
def asc (S : List Nat) (N : Nat) : List Int := ((List.range N).filter fun s : Nat => decide (s ∈ S)).map fun s : Nat => (s : Int)
theorem asc_hit {S : List Nat} {N : Nat} (h : N ∈ S) : asc S (N + 1) = asc S N ++ [(N : Int)] := by
  unfold asc
  rw [List.range_succ, List.filter_append, List.map_append]
  simp [h]
theorem asc_miss {S : List Nat} {N : Nat} (h : ¬ N ∈ S) : asc S (N + 1) = asc S N := by
  unfold asc
  rw [List.range_succ, List.filter_append, List.map_append]
  simp [h]
theorem asc_zero (S : List Nat) : asc S 0 = [] := rfl
theorem asc_len (S : List Nat) (N : Nat) : (asc S N).length ≤ N := by
  unfold asc
  rw [List.length_map]
  exact Nat.le_trans (List.length_filter_le _ _) (by simp)
theorem mem_asc {S : List Nat} {N : Nat} {z : Int} : z ∈ asc S N ↔ ∃ s, s < N ∧ s ∈ S ∧ z = (s : Int) := by
  unfold asc
  simp only [List.mem_map, List.mem_filter, List.mem_range, decide_eq_true_eq]
  constructor
  · rintro ⟨s, ⟨h1, h2⟩, rfl⟩; exact ⟨s, h1, h2, rfl⟩
  · rintro ⟨s, h1, h2, rfl⟩; exact ⟨s, ⟨h1, h2⟩, rfl⟩
theorem asc_up (S : List Nat) : ∀ N, (asc S N).Pairwise (· < ·)
  | 0 => List.Pairwise.nil
  | N + 1 => by
    by_cases h : N ∈ S
    · rw [asc_hit h, List.pairwise_append]
      refine ⟨asc_up S N, List.pairwise_singleton _ _, fun a ha b hb => ?_⟩
      obtain ⟨s, hs, _, rfl⟩ := mem_asc.1 ha
      rw [List.mem_singleton] at hb
      subst hb
      omega
    · rw [asc_miss h]; exact asc_up S N
/-- Two ascending lists with the same members are the same. -/
theorem up_unique : ∀ {a b : List Int}, a.Pairwise (· < ·) → b.Pairwise (· < ·) → (∀ z, z ∈ a ↔ z ∈ b) → a = b
  | [], [], _, _, _ => rfl
  | [], y :: b, _, _, h => absurd ((h y).2 (List.mem_cons_self ..)) (by simp)
  | x :: a, [], _, _, h => absurd ((h x).1 (List.mem_cons_self ..)) (by simp)
  | x :: a, y :: b, ha, hb, h => by
    rw [List.pairwise_cons] at ha hb
    have e : x = y := by
      have h1 := (h x).1 (List.mem_cons_self ..)
      have h2 := (h y).2 (List.mem_cons_self ..)
      rcases List.mem_cons.1 h1 with h1 | h1
      · exact h1
      · rcases List.mem_cons.1 h2 with h2 | h2
        · exact h2.symm
        · have := ha.1 y h2; have := hb.1 x h1; omega
    subst e
    rw [up_unique ha.2 hb.2 fun z => ?_]
    have h1 := h z
    rw [List.mem_cons, List.mem_cons] at h1
    constructor
    · intro hz
      rcases h1.1 (.inr hz) with e | e
      · have := ha.1 z hz; omega
      · exact e
    · intro hz
      rcases h1.2 (.inr hz) with e | e
      · have := hb.1 z hz; omega
      · exact e
/-- What sorting, and leaving out what stands there twice, comes to. -/
theorem sorted_asc {S : List Nat} {N : Nat} (h : ∀ s ∈ S, s < N) : Lib.compact (sorted (S.map fun s : Nat => (s : Int))) = asc S N := by
  refine up_unique (compact_up (sorted_up _)) (asc_up _ _) fun z => ?_
  rw [mem_compact, (sorted_perm _).mem_iff, mem_asc, List.mem_map]
  constructor
  · rintro ⟨s, hs, rfl⟩; exact ⟨s, h s hs, hs, rfl⟩
  · rintro ⟨s, _, hs, rfl⟩; exact ⟨s, hs, rfl⟩
def sumsR (x : ByteArray) (m : Int) : List Int × Int := if ¬ IsW x then ([], 1) else if m < 0 ∨ 60 < m then ([], 2) else (asc (smsN x m.toNat (x.size + 1 - m.toNat)) 300, 0)
theorem sumsR_bad {x : ByteArray} {m : Int} (h : ¬ IsW x) : sumsR x m = ([], 1) := if_pos h
theorem sumsR_out {x : ByteArray} {m : Int} (h : IsW x) (k : m < 0 ∨ 60 < m) : sumsR x m = ([], 2) := by unfold sumsR; rw [if_neg (not_not_intro h), if_pos k]
theorem sumsR_ok {x : ByteArray} {m : Nat} (h : IsW x) (k : ¬ ((m : Int) < 0 ∨ 60 < (m : Int))) : sumsR x (m : Int) = (asc (smsN x m (x.size + 1 - m)) 300, 0) := by unfold sumsR; rw [if_neg (not_not_intro h), if_neg k]; rfl
theorem sumsR_len (x : ByteArray) (m : Int) : (sumsR x m).1.length ≤ 4096 := by
  unfold sumsR
  split
  · simp
  · split
    · simp
    · have := asc_len (smsN x m.toNat (x.size + 1 - m.toNat)) 300; simp only; omega

/-! ### The first word without abelian powers. -/
noncomputable section
/-- A word ends with an abelian power of k. -/
def endB (l : List UInt8) (k : Nat) : Prop := ∃ m, 1 ≤ m ∧ k * m ≤ l.length ∧ alk (l.drop (l.length - k * m)) m
instance (l : List UInt8) (k : Nat) : Decidable (endB l k) := Classical.propDecidable _
def endTo (l : List UInt8) (k n : Nat) : Prop := ∀ m, 1 ≤ m → m < n → k * m ≤ l.length → ¬ alk (l.drop (l.length - k * m)) m
theorem endTo.one (l : List UInt8) (k : Nat) : endTo l k 1 := fun m h1 h2 => by omega
theorem endTo.succ {l : List UInt8} {k n : Nat} (h : endTo l k n) (e : ¬ alk (l.drop (l.length - k * n)) n) : endTo l k (n + 1) := fun m h1 h2 h3 => by
  by_cases e2 : m = n
  · rw [e2]; exact e
  · exact h m h1 (by omega) h3
theorem endTo.no {l : List UInt8} {k n : Nat} (h : endTo l k n) (hn : l.length < k * n) : ¬ endB l k := by
  rintro ⟨m, h1, h2, h3⟩
  refine h m h1 ?_ h2 h3
  have : ¬ n ≤ m := fun q => by have := Nat.mul_le_mul_left k q; omega
  omega
theorem endB.yes {l : List UInt8} {k n : Nat} (h1 : 1 ≤ n) (h2 : k * n ≤ l.length) (h3 : alk (l.drop (l.length - k * n)) n) : endB l k := ⟨n, h1, h2, h3⟩
/-- The first answer, of so many, from c on. -/
def ffr (g : Nat → Option (List UInt8)) : Nat → Nat → Option (List UInt8)
  | 0, _ => none
  | n + 1, c => match g c with
    | some r => some r
    | none => ffr g n (c + 1)
theorem ffr_hit {g : Nat → Option (List UInt8)} {n c : Nat} {r : List UInt8} (h : g c = some r) : ffr g (n + 1) c = some r := by rw [ffr, h]
theorem ffr_miss {g : Nat → Option (List UInt8)} {n c : Nat} (h : g c = none) : ffr g (n + 1) c = ffr g n (c + 1) := by rw [ffr, h]
/-- The first word of d letters more. -/
def ff (j k : Nat) : Nat → List UInt8 → Option (List UInt8)
  | 0, l => some l
  | d + 1, l => ffr (fun c => if endB (l ++ [letr c]) k then none else ff j k d (l ++ [letr c])) j 0
def ffg (j k d : Nat) (l : List UInt8) (c : Nat) : Option (List UInt8) := if endB (l ++ [letr c]) k then none else ff j k d (l ++ [letr c])
theorem ff_zero (j k : Nat) (l : List UInt8) : ff j k 0 l = some l := rfl
theorem ff_succ (j k d : Nat) (l : List UInt8) : ff j k (d + 1) l = ffr (ffg j k d l) j 0 := rfl
theorem ffg_end {j k d : Nat} {l : List UInt8} {c : Nat} (h : endB (l ++ [letr c]) k) : ffg j k d l c = none := if_pos h
theorem ffg_on {j k d : Nat} {l : List UInt8} {c : Nat} (h : ¬ endB (l ++ [letr c]) k) : ffg j k d l c = ff j k d (l ++ [letr c]) := if_neg h
theorem ffr_mem {g : Nat → Option (List UInt8)} {r : List UInt8} : ∀ (n c : Nat), ffr g n c = some r → ∃ i, c ≤ i ∧ i < c + n ∧ g i = some r
  | 0, c, h => by cases h
  | n + 1, c, h => by
    cases e : g c with
    | some r2 =>
      rw [ffr_hit e] at h
      exact ⟨c, Nat.le_refl _, by omega, e.trans h⟩
    | none =>
      rw [ffr_miss e] at h
      obtain ⟨i, h1, h2, h3⟩ := ffr_mem n (c + 1) h
      exact ⟨i, by omega, by omega, h3⟩
theorem ff_len {j k : Nat} : ∀ {d : Nat} {l r : List UInt8}, ff j k d l = some r → r.length = l.length + d
  | 0, l, r, h => by rw [ff_zero] at h; cases h; rfl
  | d + 1, l, r, h => by
    rw [ff_succ] at h
    obtain ⟨c, _, _, h3⟩ := ffr_mem _ _ h
    by_cases e : endB (l ++ [letr c]) k
    · rw [ffg_end e] at h3; cases h3
    · rw [ffg_on e] at h3
      have := ff_len h3
      rw [List.length_append, List.length_singleton] at this
      omega
def firstAR (m j k : Int) : ByteArray × Int :=
  if m < 0 ∨ 16 < m ∨ j < 1 ∨ 4 < j ∨ k < 2 ∨ 4 < k then (tE, 2)
  else match ff j.toNat k.toNat m.toNat [] with
    | some l => (bt l, 0)
    | none => (tE, 4)
theorem firstAR_out {m j k : Int} (h : m < 0 ∨ 16 < m ∨ j < 1 ∨ 4 < j ∨ k < 2 ∨ 4 < k) : firstAR m j k = (tE, 2) := if_pos h
theorem firstAR_yes {m j k : Nat} {l : List UInt8} (h : ¬ ((m : Int) < 0 ∨ 16 < (m : Int) ∨ (j : Int) < 1 ∨ 4 < (j : Int) ∨ (k : Int) < 2 ∨ 4 < (k : Int))) (e : ff j k m [] = some l) : firstAR m j k = (bt l, 0) := by
  unfold firstAR
  rw [if_neg h]
  simp only [Int.toNat_natCast]
  rw [e]
theorem firstAR_no {m j k : Nat} (h : ¬ ((m : Int) < 0 ∨ 16 < (m : Int) ∨ (j : Int) < 1 ∨ 4 < (j : Int) ∨ (k : Int) < 2 ∨ 4 < (k : Int))) (e : ff j k m [] = none) : firstAR m j k = (tE, 4) := by
  unfold firstAR
  rw [if_neg h]
  simp only [Int.toNat_natCast]
  rw [e]
end

end Go.Proofs.Ytolboinemechpaa
