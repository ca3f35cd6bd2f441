/- Plain facts: ascending words, one more put in. -/
import Derived.Test.YtfipbnognjepkaaGreatDoorPlain
namespace Go.Proofs.YtfipbnognjepkaaGreatDoor
set_option linter.unusedVariables false
set_option linter.unusedSimpArgs false
open Go.RowKit

/-- The order of the words. -/
def wlt (a b : ByteArray) : Prop := a.data.toList < b.data.toList
instance (a b : ByteArray) : Decidable (wlt a b) := inferInstanceAs (Decidable (a.data.toList < b.data.toList))
theorem wlt_irrefl (a : ByteArray) : ¬ wlt a a := List.lt_irrefl _
theorem wlt_trans {a b c : ByteArray} (h : wlt a b) (k : wlt b c) : wlt a c := List.lt_trans h k
theorem wlt_tri {a b : ByteArray} (h : ¬ wlt a b) (hne : ¬ a = b) : wlt b a := by
  by_cases k : wlt b a
  · exact k
  · have e : a.data.toList = b.data.toList := List.le_antisymm (List.not_lt.1 k) (List.not_lt.1 h)
    have h3 : a.data = b.data := by rw [← Array.toList_inj]; exact e
    exact absurd (by cases a; cases b; simp_all) hne

def Asc (L : List ByteArray) : Prop := L.Pairwise wlt
def insW : List ByteArray → ByteArray → List ByteArray
  | [], x => [x]
  | y :: ys, x => if wlt x y then x :: y :: ys else if x = y then y :: ys else y :: insW ys x

theorem insW_split : ∀ (A B : List ByteArray) (x : ByteArray), (∀ y ∈ A, wlt y x) → (∀ y ∈ B, wlt x y) → insW (A ++ B) x = A ++ x :: B
  | [], [], x, _, _ => rfl
  | [], b :: B, x, _, hB => by
    show insW (b :: B) x = x :: b :: B
    rw [insW, if_pos (hB b (List.mem_cons_self ..))]
  | a :: A, B, x, hA, hB => by
    have h1 := hA a (List.mem_cons_self ..)
    have h2 : ¬ wlt x a := fun k => wlt_irrefl _ (wlt_trans h1 k)
    have h3 : ¬ x = a := fun e => by subst e; exact wlt_irrefl _ h1
    show insW (a :: (A ++ B)) x = a :: (A ++ x :: B)
    rw [insW, if_neg h2, if_neg h3, insW_split A B x (fun y hy => hA y (List.mem_cons_of_mem _ hy)) hB]

theorem insW_mem : ∀ (L : List ByteArray) (x : ByteArray), Asc L → x ∈ L → insW L x = L
  | [], x, _, h => by cases h
  | y :: ys, x, hs, h => by
    obtain ⟨h1, h2⟩ := List.pairwise_cons.1 hs
    rcases List.mem_cons.1 h with rfl | h
    · rw [insW, if_neg (wlt_irrefl _), if_pos rfl]
    · have h3 := h1 x h
      rw [insW, if_neg (fun k => wlt_irrefl _ (wlt_trans h3 k)), if_neg (fun e => by subst e; exact wlt_irrefl _ h3), insW_mem ys x h2 h]

theorem mem_insW : ∀ (L : List ByteArray) (x z : ByteArray), z ∈ insW L x ↔ z = x ∨ z ∈ L
  | [], x, z => by simp [insW]
  | y :: ys, x, z => by
    rw [insW]
    split
    · simp
    · split
      · rename_i e; subst e; simp
      · rw [List.mem_cons, mem_insW ys x z, List.mem_cons]
        constructor
        · rintro (h | h | h)
          · exact .inr (.inl h)
          · exact .inl h
          · exact .inr (.inr h)
        · rintro (h | h | h)
          · exact .inr (.inl h)
          · exact .inl h
          · exact .inr (.inr h)

theorem asc_insW : ∀ (L : List ByteArray) (x : ByteArray), Asc L → Asc (insW L x)
  | [], x, _ => by simp [insW, Asc]
  | y :: ys, x, hs => by
    obtain ⟨h1, h2⟩ := List.pairwise_cons.1 hs
    rw [insW]
    split
    · rename_i k
      refine List.pairwise_cons.2 ⟨fun z hz => ?_, hs⟩
      rcases List.mem_cons.1 hz with rfl | hz
      · exact k
      · exact wlt_trans k (h1 z hz)
    · split
      · exact hs
      · rename_i k1 k2
        refine List.pairwise_cons.2 ⟨fun z hz => ?_, asc_insW ys x h2⟩
        rcases (mem_insW ys x z).1 hz with rfl | hz
        · exact wlt_tri k1 k2
        · exact h1 z hz

theorem insW_len : ∀ (L : List ByteArray) (x : ByteArray), (insW L x).length ≤ L.length + 1
  | [], x => by simp [insW]
  | y :: ys, x => by
    rw [insW]
    split
    · simp
    · split
      · simp
      · have := insW_len ys x; simp; omega

/-- Two ascending lists of the same words are one. -/
theorem asc_ext : ∀ (L M : List ByteArray), Asc L → Asc M → (∀ z, z ∈ L ↔ z ∈ M) → L = M
  | [], [], _, _, _ => rfl
  | [], b :: M, _, _, h => absurd ((h b).2 (List.mem_cons_self ..)) (by simp)
  | a :: L, [], _, _, h => absurd ((h a).1 (List.mem_cons_self ..)) (by simp)
  | a :: L, b :: M, hL, hM, h => by
    obtain ⟨l1, l2⟩ := List.pairwise_cons.1 hL
    obtain ⟨m1, m2⟩ := List.pairwise_cons.1 hM
    have hab : a = b := by
      rcases List.mem_cons.1 ((h a).1 (List.mem_cons_self ..)) with e | k
      · exact e
      · rcases List.mem_cons.1 ((h b).2 (List.mem_cons_self ..)) with e | k'
        · exact e.symm
        · exact absurd (wlt_trans (l1 b k') (m1 a k)) (wlt_irrefl _)
    subst hab
    congr 1
    refine asc_ext L M l2 m2 fun z => ⟨fun hz => ?_, fun hz => ?_⟩
    · rcases List.mem_cons.1 ((h z).1 (List.mem_cons_of_mem _ hz)) with e | k
      · subst e; exact absurd (l1 _ hz) (wlt_irrefl _)
      · exact k
    · rcases List.mem_cons.1 ((h z).2 (List.mem_cons_of_mem _ hz)) with e | k
      · subst e; exact absurd (m1 _ hz) (wlt_irrefl _)
      · exact k

/-- The different factors of the length m at the first k places, ascending. -/
def facK (x : ByteArray) (m : Nat) : Nat → List ByteArray
  | 0 => []
  | k + 1 => insW (facK x m k) (x.extract k (k + m))
theorem facK_asc (x : ByteArray) (m : Nat) : ∀ k, Asc (facK x m k)
  | 0 => List.Pairwise.nil
  | k + 1 => asc_insW _ _ (facK_asc x m k)
theorem facK_len (x : ByteArray) (m : Nat) : ∀ k, (facK x m k).length ≤ k
  | 0 => Nat.le_refl _
  | k + 1 => by have := insW_len (facK x m k) (x.extract k (k + m)); have := facK_len x m k; rw [facK]; omega
theorem mem_facK (x : ByteArray) (m : Nat) (z : ByteArray) : ∀ k, z ∈ facK x m k ↔ ∃ i, i < k ∧ z = x.extract i (i + m)
  | 0 => by simp [facK]
  | k + 1 => by
    rw [facK, mem_insW, mem_facK x m z k]
    constructor
    · rintro (h | ⟨i, hi, h⟩)
      · exact ⟨k, Nat.lt_succ_self _, h⟩
      · exact ⟨i, by omega, h⟩
    · rintro ⟨i, hi, h⟩
      by_cases hk : i = k
      · subst hk; exact .inl h
      · exact .inr ⟨i, by omega, h⟩

def factorsR (x : ByteArray) (m : Int) : List ByteArray × Int := if ¬ IsW x then ([], 1) else if m < 0 ∨ 60 < m then ([], 2) else (facK x m.toNat (x.size + 1 - m.toNat), 0)
theorem factorsR_bad {x : ByteArray} {m : Int} (h : ¬ IsW x) : factorsR x m = ([], 1) := if_pos h
theorem factorsR_out {x : ByteArray} {m : Int} (h : IsW x) (k : m < 0 ∨ 60 < m) : factorsR x m = ([], 2) := by unfold factorsR; rw [if_neg (not_not_intro h), if_pos k]
theorem factorsR_ok {x : ByteArray} {m : Nat} (h : IsW x) (k : m ≤ 60) : factorsR x (m : Int) = (facK x m (x.size + 1 - m), 0) := by
  unfold factorsR; rw [if_neg (not_not_intro h), if_neg (by omega)]; rfl
theorem factorsR_len (x : ByteArray) (m : Int) : (factorsR x m).1.length ≤ 4096 := by
  unfold factorsR
  split
  · decide
  · rename_i h
    split
    · decide
    · have h1 := (Classical.not_not.1 h).size
      have h2 := facK_len x m.toNat (x.size + 1 - m.toNat)
      show (facK x m.toNat (x.size + 1 - m.toNat)).length ≤ 4096
      omega

end Go.Proofs.YtfipbnognjepkaaGreatDoor
