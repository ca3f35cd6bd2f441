/- Plain facts: the square free words of a length, in order; how a search goes through them. -/
import Derived.Test.YtolboinemechpabNextPlain
namespace Go.Proofs.Ytolboinemechpab
set_option linter.unusedVariables false
set_option linter.unusedSimpArgs false

/-- What is found behind the letters l with one letter more, from c on, of so many. -/
def kids (D : List UInt8 → List (List UInt8)) (l : List UInt8) : Nat → Nat → List (List UInt8)
  | _, 0 => []
  | c, g + 1 => (if sa (l ++ [letB (c : Int)]) (l.length + 1) = 0 then D (l ++ [letB (c : Int)]) else []) ++ kids D l (c + 1) g
/-- All words that go on from l by f letters, of the first k, and stay square free. -/
def dfs (k : Nat) : Nat → List UInt8 → List (List UInt8)
  | 0, l => [l]
  | f + 1, l => kids (dfs k f) l 0 k
theorem kids_hit {D : List UInt8 → List (List UInt8)} {l : List UInt8} {c g : Nat} (h : sa (l ++ [letB (c : Int)]) (l.length + 1) = 0) : kids D l c (g + 1) = D (l ++ [letB (c : Int)]) ++ kids D l (c + 1) g := by rw [kids, if_pos h]
theorem kids_miss {D : List UInt8 → List (List UInt8)} {l : List UInt8} {c g : Nat} (h : ¬ sa (l ++ [letB (c : Int)]) (l.length + 1) = 0) : kids D l c (g + 1) = kids D l (c + 1) g := by rw [kids, if_neg h]; rfl
theorem kids_len {D : List UInt8 → List (List UInt8)} {B : Nat} (hD : ∀ m, (D m).length ≤ B) (l : List UInt8) : ∀ (g c : Nat), (kids D l c g).length ≤ g * B
  | 0, c => by rw [kids]; simp
  | g + 1, c => by
    have h := kids_len hD l g (c + 1)
    rw [Nat.succ_mul]
    by_cases e : sa (l ++ [letB (c : Int)]) (l.length + 1) = 0
    · rw [kids_hit e, List.length_append]
      have := hD (l ++ [letB (c : Int)])
      omega
    · rw [kids_miss e]
      omega
theorem dfs_len (k : Nat) : ∀ (f : Nat) (l : List UInt8), (dfs k f l).length ≤ k ^ f
  | 0, l => by rw [dfs]; simp
  | f + 1, l => by
    rw [dfs, Nat.pow_succ, Nat.mul_comm]
    exact kids_len (dfs_len k f) l k 0
theorem pow_12 {k f : Nat} (hk : k ≤ 3) (hf : f ≤ 12) : k ^ f ≤ 531441 := by
  have h1 : k ^ f ≤ 3 ^ f := Nat.pow_le_pow_left hk f
  have h2 : 3 ^ f ≤ 3 ^ 12 := Nat.pow_le_pow_right (by omega) hf
  have h3 : (3 : Nat) ^ 12 = 531441 := by decide
  omega
/-- The words found have their lengths. -/
theorem kids_size {D : List UInt8 → List (List UInt8)} {l : List UInt8} {n : Nat} (hD : ∀ m, m.length = l.length + 1 → ∀ s ∈ D m, s.length = n) : ∀ (g c : Nat), ∀ s ∈ kids D l c g, s.length = n
  | 0, c, s, h => (by rw [kids] at h; cases h)
  | g + 1, c, s, h => by
    by_cases e : sa (l ++ [letB (c : Int)]) (l.length + 1) = 0
    · rw [kids_hit e, List.mem_append] at h
      rcases h with h | h
      · exact hD _ (by simp) s h
      · exact kids_size hD g (c + 1) s h
    · rw [kids_miss e] at h
      exact kids_size hD g (c + 1) s h
theorem dfs_size (k : Nat) : ∀ (f : Nat) (l : List UInt8), ∀ s ∈ dfs k f l, s.length = l.length + f
  | 0, l, s, h => by rw [dfs, List.mem_singleton] at h; subst h; rfl
  | f + 1, l, s, h => by
    rw [dfs] at h
    exact kids_size (fun m hm s hs => by rw [dfs_size k f m s hs, hm]; omega) k 0 s h
/-- The words found are square free, if those from which they go on are. -/
theorem kids_free {D : List UInt8 → List (List UInt8)} {l : List UInt8} (hl : (fs l).2 = 0) (hD : ∀ m, (fs m).2 = 0 → ∀ s ∈ D m, (fs s).2 = 0) : ∀ (g c : Nat), ∀ s ∈ kids D l c g, (fs s).2 = 0
  | 0, c, s, h => (by rw [kids] at h; cases h)
  | g + 1, c, s, h => by
    by_cases e : sa (l ++ [letB (c : Int)]) (l.length + 1) = 0
    · rw [kids_hit e, List.mem_append] at h
      rcases h with h | h
      · exact hD _ ((fs_snoc _ _).2 ⟨hl, e⟩) s h
      · exact kids_free hl hD g (c + 1) s h
    · rw [kids_miss e] at h
      exact kids_free hl hD g (c + 1) s h
theorem dfs_free (k : Nat) : ∀ (f : Nat) (l : List UInt8), (fs l).2 = 0 → ∀ s ∈ dfs k f l, (fs s).2 = 0
  | 0, l, hl, s, h => by rw [dfs, List.mem_singleton] at h; subst h; exact hl
  | f + 1, l, hl, s, h => by
    rw [dfs] at h
    exact kids_free hl (dfs_free k f) k 0 s h

/-! ### The search, by the numbers of the letters, the last one first. -/
def wordP (p : List Nat) : List UInt8 := (p.map fun (c : Nat) => letB (c : Int)).reverse
theorem wordP_cons (c : Nat) (p : List Nat) : wordP (c :: p) = wordP p ++ [letB (c : Int)] := by simp [wordP]
theorem wordP_len (p : List Nat) : (wordP p).length = p.length := by simp [wordP]
/-- What is still to be found behind the word p and all that go on from it. -/
def restP (k m : Nat) : List Nat → List (List UInt8)
  | [] => []
  | a :: p => kids (dfs k (m - p.length - 1)) (wordP p) (a + 1) (k - (a + 1)) ++ restP k m p
/-- What is still to be found where the search looks at the word p. -/
def lookP (k m : Nat) (p : List Nat) : List (List UInt8) := (if sa (wordP p) p.length = 0 then dfs k (m - p.length) (wordP p) else []) ++ restP k m p
theorem look_square {k m : Nat} {p : List Nat} (h : ¬ sa (wordP p) p.length = 0) : lookP k m p = restP k m p := by unfold lookP; rw [if_neg h]; rfl
theorem look_full {k m : Nat} {p : List Nat} (h : sa (wordP p) p.length = 0) (hm : p.length = m) : lookP k m p = wordP p :: restP k m p := by unfold lookP; rw [if_pos h, hm, Nat.sub_self, dfs]; rfl
theorem look_more {k m : Nat} {p : List Nat} (h : sa (wordP p) p.length = 0) (hm : p.length < m) (hk : 0 < k) : lookP k m p = lookP k m (0 :: p) := by
  obtain ⟨f, hf⟩ : ∃ f, m - p.length = f + 1 := ⟨m - p.length - 1, by omega⟩
  obtain ⟨g, rfl⟩ : ∃ g, k = g + 1 := ⟨k - 1, by omega⟩
  unfold lookP
  rw [if_pos h, hf, dfs, kids, restP, wordP_cons, wordP_len, List.length_cons, show m - (p.length + 1) = f by omega, show m - p.length - 1 = f by omega, List.append_assoc]
  rfl
theorem next_pop {k m : Nat} {a : Nat} {p : List Nat} (h : a + 1 = k) : restP k m (a :: p) = restP k m p := by
  rw [restP, h, Nat.sub_self, kids]; rfl
theorem next_on {k m : Nat} {a : Nat} {p : List Nat} (h : a + 1 < k) : restP k m (a :: p) = lookP k m ((a + 1) :: p) := by
  obtain ⟨g, hg⟩ : ∃ g, k - (a + 1) = g + 1 := ⟨k - (a + 1) - 1, by omega⟩
  unfold lookP
  rw [restP, hg, kids, restP, wordP_cons, wordP_len, List.length_cons, show m - (p.length + 1) = m - p.length - 1 by omega, show k - (a + 1 + 1) = g by omega, List.append_assoc]
/-- How many steps at most are to come. -/
def stS (k : Nat) : Nat → Nat
  | 0 => 2
  | f + 1 => 2 + k * (stS k f + 2)
theorem stS_two (k f : Nat) : 2 ≤ stS k f := by cases f <;> simp [stS]
def stR (k m : Nat) : List Nat → Nat
  | [] => 1
  | a :: p => 1 + (k - 1 - a) * (stS k (m - p.length - 1) + 2) + stR k m p
def stL (k m : Nat) (p : List Nat) : Nat := stS k (m - p.length) + stR k m p
theorem st_next {k m : Nat} {p : List Nat} : stR k m p < stL k m p := by unfold stL; have := stS_two k (m - p.length); omega
theorem st_more {k m : Nat} {p : List Nat} (hm : p.length < m) (hk : 0 < k) : stL k m (0 :: p) < stL k m p := by
  obtain ⟨f, hf⟩ : ∃ f, m - p.length = f + 1 := ⟨m - p.length - 1, by omega⟩
  obtain ⟨g, rfl⟩ : ∃ g, k = g + 1 := ⟨k - 1, by omega⟩
  unfold stL
  rw [stR, List.length_cons, hf, show m - (p.length + 1) = f by omega, show f + 1 - 1 = f by omega, stS, show g + 1 - 1 - 0 = g by omega, Nat.succ_mul]
  omega
theorem st_pop {k m : Nat} {a : Nat} {p : List Nat} : stR k m p < stR k m (a :: p) := by rw [stR]; omega
theorem st_on {k m : Nat} {a : Nat} {p : List Nat} (h : a + 1 < k) : stL k m ((a + 1) :: p) < stR k m (a :: p) := by
  obtain ⟨g, hg⟩ : ∃ g, k - 1 - a = g + 1 := ⟨k - 1 - a - 1, by omega⟩
  unfold stL
  rw [stR, stR, List.length_cons, hg, show k - 1 - (a + 1) = g by omega, show m - (p.length + 1) = m - p.length - 1 by omega, Nat.succ_mul]
  omega

end Go.Proofs.Ytolboinemechpab
