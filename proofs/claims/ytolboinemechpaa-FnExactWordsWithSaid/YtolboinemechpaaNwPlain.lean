/- Plain facts: how many words have a vector; which they are. -/
import Derived.Test.YtolboinemechpaaAbPlain
import Derived.Test.YtolboinemechpaaNamedPlain
namespace Go.Proofs.Ytolboinemechpaa
set_option linter.unusedVariables false
set_option linter.unusedSimpArgs false
open Go.RowKit

/-- The sum of the first so many numbers. -/
def sm (f : Nat → Nat) : Nat → Nat
  | 0 => 0
  | n + 1 => sm f n + f n
theorem sm_succ (f : Nat → Nat) (n : Nat) : sm f (n + 1) = sm f n + f n := rfl
theorem sm_ct (l : List UInt8) : ∀ n, sm (ct l) n = sct l n
  | 0 => rfl
  | n + 1 => by rw [sm_succ, sct_succ, sm_ct l n]
theorem sm_mono (f : Nat → Nat) {n m : Nat} (h : n ≤ m) : sm f n ≤ sm f m := by
  obtain ⟨d, rfl⟩ : ∃ d, m = n + d := ⟨m - n, by omega⟩
  clear h
  induction d with
  | zero => exact Nat.le_refl _
  | succ d ih => rw [show n + (d + 1) = n + d + 1 by omega, sm_succ]; omega
theorem sm_word {x : ByteArray} (h : IsW x) : sm (ct (bl x)) 5 = x.size := by
  rw [sm_ct, sct_all (Nat.le_refl _) (bl x) (fun c hc => by have := h.mem hc; omega), bl_len]
/-- One word more of n letters: the products and quotients. -/
def nst (p : Nat × Nat) (i : Nat) : Nat × Nat := (p.1 * (p.2 + 1) / (i + 1), p.2 + 1)
def ncol (p : Nat × Nat) : Nat → Nat × Nat
  | 0 => p
  | c + 1 => nst (ncol p c) c
theorem ncol_succ (p : Nat × Nat) (c : Nat) : ncol p (c + 1) = ((ncol p c).1 * ((ncol p c).2 + 1) / (c + 1), (ncol p c).2 + 1) := rfl
def nwK (f : Nat → Nat) : Nat → Nat × Nat
  | 0 => (1, 0)
  | j + 1 => ncol (nwK f j) (f j)
theorem nwK_succ (f : Nat → Nat) (j : Nat) : nwK f (j + 1) = ncol (nwK f j) (f j) := rfl
def nw (f : Nat → Nat) : Nat := (nwK f 5).1
def fc : Nat → Nat
  | 0 => 1
  | n + 1 => fc n * (n + 1)
theorem fc_succ (n : Nat) : fc (n + 1) = fc n * (n + 1) := rfl
theorem fc_mono {n m : Nat} (h : n ≤ m) : fc n ≤ fc m := by
  obtain ⟨d, rfl⟩ : ∃ d, m = n + d := ⟨m - n, by omega⟩
  clear h
  induction d with
  | zero => exact Nat.le_refl _
  | succ d ih =>
    rw [show n + (d + 1) = n + d + 1 by omega, fc_succ]
    exact Nat.le_trans ih (Nat.le_mul_of_pos_right _ (by omega))
theorem ncol_two (p : Nat × Nat) : ∀ c, (ncol p c).2 = p.2 + c
  | 0 => rfl
  | c + 1 => by rw [ncol_succ]; show (ncol p c).2 + 1 = _; rw [ncol_two p c]; omega
theorem ncol_le {p : Nat × Nat} (h : p.1 ≤ fc p.2) : ∀ c, (ncol p c).1 ≤ fc (p.2 + c)
  | 0 => h
  | c + 1 => by
    rw [ncol_succ]
    show (ncol p c).1 * ((ncol p c).2 + 1) / (c + 1) ≤ _
    rw [ncol_two, ← Nat.add_assoc, fc_succ]
    exact Nat.le_trans (Nat.div_le_self _ _) (Nat.mul_le_mul_right _ (ncol_le h c))
theorem nwK_two (f : Nat → Nat) : ∀ j, (nwK f j).2 = sm f j
  | 0 => rfl
  | j + 1 => by rw [nwK_succ, ncol_two, nwK_two f j, sm_succ]
theorem nwK_le (f : Nat → Nat) : ∀ j, (nwK f j).1 ≤ fc (sm f j)
  | 0 => Nat.le_refl _
  | j + 1 => by
    have := ncol_le (p := nwK f j) (by rw [nwK_two]; exact nwK_le f j) (f j)
    rw [nwK_two] at this
    exact this
theorem fc12 : fc 12 = 479001600 := by decide
/-- What the walk wants of a round. -/
theorem ncol_walk (f : Nat → Nat) (j c : Nat) (hj : j < 5) (hc : c < f j) (hs : sm f 5 ≤ 12) :
    (ncol (nwK f j) c).2 = sm f j + c ∧ sm f j + c < 12 ∧ (ncol (nwK f j) c).1 ≤ 479001600 ∧ (ncol (nwK f j) c).1 * (sm f j + c + 1) ≤ 479001600 := by
  have h1 := sm_mono f (show j + 1 ≤ 5 by omega)
  rw [sm_succ] at h1
  have h2 := ncol_le (p := nwK f j) (by rw [nwK_two]; exact nwK_le f j) c
  rw [nwK_two] at h2
  have h3 : fc (sm f j + c + 1) ≤ fc 12 := fc_mono (by omega)
  have h4 : (ncol (nwK f j) c).1 * (sm f j + c + 1) ≤ fc (sm f j + c + 1) := by rw [fc_succ]; exact Nat.mul_le_mul_right _ h2
  have h5 : (ncol (nwK f j) c).1 ≤ (ncol (nwK f j) c).1 * (sm f j + c + 1) := Nat.le_mul_of_pos_right _ (by omega)
  rw [fc12] at h3
  refine ⟨by rw [ncol_two, nwK_two], by omega, by omega, by omega⟩
theorem nw_le {f : Nat → Nat} (h : sm f 5 ≤ 12) : nw f ≤ 479001600 := by
  have := nwK_le f 5
  have h2 := fc_mono h
  rw [fc12] at h2
  unfold nw
  omega

def countAR (x : ByteArray) : Int × Int := if ¬ IsW x then (0, 1) else if 12 < x.size then (0, 3) else ((nw (ct (bl x)) : Int), 0)
theorem countAR_bad {x : ByteArray} (h : ¬ IsW x) : countAR x = (0, 1) := if_pos h
theorem countAR_long {x : ByteArray} (h : IsW x) (k : 12 < x.size) : countAR x = (0, 3) := by unfold countAR; rw [if_neg (not_not_intro h), if_pos k]
theorem countAR_ok {x : ByteArray} (h : IsW x) (k : ¬ 12 < x.size) : countAR x = ((nw (ct (bl x)) : Int), 0) := by unfold countAR; rw [if_neg (not_not_intro h), if_neg k]

/-! ### The words with a vector. -/
def dec1 (f : Nat → Nat) (j : Nat) : Nat → Nat := fun i => if i = j then f i - 1 else f i
/-- Those of them that begin with the first k letters. -/
def wl : Nat → (Nat → Nat) → List (List UInt8)
  | 0, _ => [[]]
  | n + 1, f => (List.range 5).flatMap fun j => if f j = 0 then [] else (wl n (dec1 f j)).map (letr j :: ·)
def wlK (n : Nat) (f : Nat → Nat) (k : Nat) : List (List UInt8) := (List.range k).flatMap fun j => if f j = 0 then [] else (wl n (dec1 f j)).map (letr j :: ·)
theorem wl_succ (n : Nat) (f : Nat → Nat) : wl (n + 1) f = wlK n f 5 := rfl
theorem wlK_zero (n : Nat) (f : Nat → Nat) : wlK n f 0 = [] := rfl
theorem wlK_skip {n : Nat} {f : Nat → Nat} {k : Nat} (h : f k = 0) : wlK n f (k + 1) = wlK n f k := by
  unfold wlK
  rw [List.range_succ, List.flatMap_append]
  simp [h]
theorem wlK_more {n : Nat} {f : Nat → Nat} {k : Nat} (h : ¬ f k = 0) : wlK n f (k + 1) = wlK n f k ++ (wl n (dec1 f k)).map (letr k :: ·) := by
  unfold wlK
  rw [List.range_succ, List.flatMap_append]
  simp [h]
theorem wlK_len (n : Nat) (f : Nat → Nat) (M : Nat) (h : ∀ j, (wl n (dec1 f j)).length ≤ M) : ∀ k, (wlK n f k).length ≤ k * M
  | 0 => by rw [wlK_zero]; simp
  | k + 1 => by
    have ih := wlK_len n f M h k
    rw [Nat.succ_mul]
    by_cases e : f k = 0
    · rw [wlK_skip e]; omega
    · rw [wlK_more e, List.length_append, List.length_map]; have := h k; omega
theorem wl_len : ∀ (n : Nat) (f : Nat → Nat), (wl n f).length ≤ 5 ^ n
  | 0, _ => Nat.le_refl _
  | n + 1, f => by
    rw [wl_succ]
    have := wlK_len n f (5 ^ n) (fun j => wl_len n _) 5
    rw [Nat.pow_succ, Nat.mul_comm]
    exact this
theorem sm_dec (f : Nat → Nat) (j : Nat) (h : ¬ f j = 0) : ∀ k, sm (dec1 f j) k = if j < k then sm f k - 1 else sm f k
  | 0 => by rw [if_neg (by omega)]; rfl
  | k + 1 => by
    have ih := sm_dec f j h k
    have hle : ∀ k, j < k → 1 ≤ sm f k := fun k hk => by
      have := sm_mono f (show j + 1 ≤ k by omega)
      rw [sm_succ] at this
      omega
    rw [sm_succ, ih, sm_succ]
    unfold dec1
    by_cases e : k = j
    · subst e
      rw [if_neg (Nat.lt_irrefl k), if_pos rfl, if_pos (Nat.lt_succ_self k)]
      omega
    · rw [if_neg e]
      by_cases hk : j < k
      · have := hle k hk
        rw [if_pos hk, if_pos (by omega)]
        omega
      · rw [if_neg hk, if_neg (by omega)]
theorem sm_dec5 {f : Nat → Nat} {j n : Nat} (hj : j < 5) (h : ¬ f j = 0) (hs : sm f 5 = n + 1) : sm (dec1 f j) 5 = n := by
  rw [sm_dec f j h, if_pos hj, hs]
  omega
theorem sm_none {f : Nat → Nat} (h : sm f 5 = 0) : ∀ j, j < 5 → f j = 0 := by
  intro j hj
  have := sm_mono f (show j + 1 ≤ 5 by omega)
  rw [sm_succ] at this
  omega
theorem sm_some {f : Nat → Nat} {n : Nat} (h : sm f 5 = n + 1) : ¬ (f 0 = 0 ∧ f 1 = 0 ∧ f 2 = 0 ∧ f 3 = 0 ∧ f 4 = 0) := by
  rintro ⟨h0, h1, h2, h3, h4⟩
  simp [sm, h0, h1, h2, h3, h4] at h
theorem wl_mem : ∀ (n : Nat) (f : Nat → Nat) (u : List UInt8), u ∈ wl n f → u.length = n ∧ ∀ c ∈ u, 97 ≤ c.toNat ∧ c.toNat ≤ 101
  | 0, _, u, h => by
    have : u = [] := by simpa [wl] using h
    subst this
    exact ⟨rfl, fun c hc => by cases hc⟩
  | n + 1, f, u, h => by
    rw [wl, List.mem_flatMap] at h
    obtain ⟨j, hj, hu⟩ := h
    have hj5 : j < 5 := List.mem_range.1 hj
    by_cases e : f j = 0
    · rw [if_pos e] at hu; cases hu
    · rw [if_neg e, List.mem_map] at hu
      obtain ⟨v, hv, rfl⟩ := hu
      obtain ⟨h1, h2⟩ := wl_mem n _ v hv
      refine ⟨by rw [List.length_cons, h1], fun c hc => ?_⟩
      rcases List.mem_cons.1 hc with rfl | hc
      · rw [letr_nat hj5]; omega
      · exact h2 c hc

theorem sm_ex {f : Nat → Nat} {n : Nat} (h : sm f 5 = n + 1) : ∃ j, j < 5 ∧ ¬ f j = 0 := by
  have := sm_some h
  by_cases h0 : f 0 = 0
  · by_cases h1 : f 1 = 0
    · by_cases h2 : f 2 = 0
      · by_cases h3 : f 3 = 0
        · exact ⟨4, by omega, fun e => this ⟨h0, h1, h2, h3, e⟩⟩
        · exact ⟨3, by omega, h3⟩
      · exact ⟨2, by omega, h2⟩
    · exact ⟨1, by omega, h1⟩
  · exact ⟨0, by omega, h0⟩
theorem wl_pos : ∀ (n : Nat) (f : Nat → Nat), sm f 5 = n → 0 < (wl n f).length
  | 0, _, _ => Nat.zero_lt_one
  | n + 1, f, h => by
    obtain ⟨j, hj, h0⟩ := sm_ex h
    have ih := wl_pos n (dec1 f j) (sm_dec5 hj h0 h)
    refine List.length_pos_iff.2 fun e => ?_
    obtain ⟨u, hu⟩ := List.exists_mem_of_length_pos ih
    have : letr j :: u ∈ wl (n + 1) f := by
      rw [wl, List.mem_flatMap]
      exact ⟨j, List.mem_range.2 hj, by rw [if_neg h0]; exact List.mem_map.2 ⟨u, hu, rfl⟩⟩
    rw [e] at this
    cases this
/-- The numbers of a list. -/
def fv (L : List Int) (j : Nat) : Nat := (L.getD j 0).toNat
/-- Five numbers of at least 0 and at most 8 together. -/
def smallV (L : List Int) : Prop := L.length = 5 ∧ (∀ j, j < 5 → 0 ≤ L.getD j 0) ∧ sm (fv L) 5 ≤ 8
noncomputable instance (L : List Int) : Decidable (smallV L) := Classical.propDecidable _
noncomputable def wwR (L : List Int) : List ByteArray × Int := if ¬ smallV L then ([], 2) else if 300 < nw (fv L) then ([], 3) else ((wl (sm (fv L) 5) (fv L)).map bt, 0)
theorem wwR_out {L : List Int} (h : ¬ smallV L) : wwR L = ([], 2) := if_pos h
theorem wwR_many {L : List Int} (h : smallV L) (k : 300 < nw (fv L)) : wwR L = ([], 3) := by unfold wwR; rw [if_neg (not_not_intro h), if_pos k]
theorem wwR_ok {L : List Int} (h : smallV L) (k : ¬ 300 < nw (fv L)) : wwR L = ((wl (sm (fv L) 5) (fv L)).map bt, 0) := by unfold wwR; rw [if_neg (not_not_intro h), if_neg k]
/-- The first k numbers are at least 0, and r is left of 8. -/
def svTo (L : List Int) (k r : Nat) : Prop := (∀ j, j < k → 0 ≤ L.getD j 0) ∧ sm (fv L) k + r = 8
theorem svTo.zero (L : List Int) : svTo L 0 8 := ⟨fun j h => by omega, rfl⟩
theorem svTo.succ {L : List Int} {k r : Nat} (h : svTo L k r) {n : Nat} (e : L.getD k 0 = n) (hn : n ≤ r) : svTo L (k + 1) (r - n) := by
  refine ⟨fun j hj => ?_, ?_⟩
  · by_cases e2 : j = k
    · rw [e2, e]; omega
    · exact h.1 j (by omega)
  · rw [sm_succ]
    have h2 := h.2
    have : fv L k = n := by unfold fv; rw [e]; rfl
    omega
theorem svTo.yes {L : List Int} {r : Nat} (h : svTo L 5 r) (hl : L.length = 5) : smallV L := ⟨hl, h.1, by have := h.2; omega⟩
theorem smallV.to {L : List Int} (h : smallV L) {k : Nat} (hk : k ≤ 5) : svTo L k (8 - sm (fv L) k) := ⟨fun j hj => h.2.1 j (by omega), by have := sm_mono (fv L) hk; have := h.2.2; omega⟩
theorem smallV.get {L : List Int} (h : smallV L) (j : Nat) (hj : j < 5) : L[j]? = some (fv L j : Int) := by
  have h1 := h.2.1 j hj
  have hl : j < L.length := by rw [h.1]; exact hj
  unfold fv
  rw [List.getD_eq_getElem?_getD, List.getElem?_eq_getElem hl] at h1 ⊢
  simp only [Option.getD_some] at h1 ⊢
  rw [Int.toNat_of_nonneg h1]

end Go.Proofs.Ytolboinemechpaa
