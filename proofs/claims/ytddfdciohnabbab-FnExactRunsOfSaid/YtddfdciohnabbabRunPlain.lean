/- Plain facts: the runs of a word: the program's stretches, sorted, are the model's runs. -/
import Derived.Test.YtddfdciohnabbabGePlain
namespace Go.Proofs.Ytddfdciohnabbab
set_option linter.unusedVariables false
set_option linter.unusedSimpArgs false
open Go.RowKit

/-- Letters q places apart are equal from f on, ahead of t. -/
def pf (x : ByteArray) (f t q : Nat) : Prop := ∀ j, f ≤ j → j + q < t → (bl x)[j]? = (bl x)[j + q]?
theorem pf_iff {x : ByteArray} {f m q : Nat} (h : f + m ≤ x.size) : Per (bl (x.extract f (f + m))) q ↔ pf x f (f + m) q := by
  rw [bl_extract, show f + m - f = m by omega]
  have hl : (((bl x).drop f).take m).length = m := by rw [List.length_take, List.length_drop, bl_len]; omega
  constructor
  · intro hp j hj hjq
    have := hp (j - f) (by rw [hl]; omega)
    rw [List.getElem?_take_of_lt (by omega), List.getElem?_take_of_lt (by omega), List.getElem?_drop, List.getElem?_drop] at this
    rwa [show f + (j - f) = j by omega, show f + (j - f + q) = j + q by omega] at this
  · intro hp i hi
    rw [hl] at hi
    rw [List.getElem?_take_of_lt (by omega), List.getElem?_take_of_lt (by omega), List.getElem?_drop, List.getElem?_drop]
    have := hp (f + i) (by omega) (by omega)
    rwa [show f + i + q = f + (i + q) by omega] at this

/-- From, to, period. -/
abbrev Tr : Type := Nat × Nat × Nat
def isRun (x : ByteArray) (f t : Nat) : Prop := f + 2 ≤ t ∧ t ≤ x.size ∧ 2 * lpf x f (t - f) ≤ t - f ∧ (f = 0 ∨ (bl x)[f - 1]? ≠ (bl x)[f - 1 + lpf x f (t - f)]?) ∧ (t = x.size ∨ (bl x)[t]? ≠ (bl x)[t - lpf x f (t - f)]?)
noncomputable instance (x : ByteArray) (f t : Nat) : Decidable (isRun x f t) := Classical.propDecidable _
noncomputable def mcell (x : ByteArray) (f t : Nat) : List Tr := if isRun x f t then [(f, t, lpf x f (t - f))] else []
noncomputable def mrow (x : ByteArray) (f k : Nat) : List Tr := (List.range k).flatMap fun i => mcell x f (f + 2 + i)
noncomputable def mTo (x : ByteArray) (k : Nat) : List Tr := (List.range k).flatMap fun f => mrow x f (x.size - 1 - f)
noncomputable def mR (x : ByteArray) : List Tr := mTo x x.size
theorem mrow_zero (x : ByteArray) (f : Nat) : mrow x f 0 = [] := rfl
theorem mrow_succ (x : ByteArray) (f k : Nat) : mrow x f (k + 1) = mrow x f k ++ mcell x f (f + 2 + k) := by simp [mrow, List.range_succ]
theorem mrow_yes {x : ByteArray} {f k : Nat} (h : isRun x f (f + 2 + k)) : mrow x f (k + 1) = mrow x f k ++ [(f, f + 2 + k, lpf x f (f + 2 + k - f))] := by rw [mrow_succ, mcell, if_pos h]
theorem mrow_no {x : ByteArray} {f k : Nat} (h : ¬ isRun x f (f + 2 + k)) : mrow x f (k + 1) = mrow x f k := by rw [mrow_succ, mcell, if_neg h, List.append_nil]
theorem mTo_zero (x : ByteArray) : mTo x 0 = [] := rfl
theorem mTo_succ (x : ByteArray) (k : Nat) : mTo x (k + 1) = mTo x k ++ mrow x k (x.size - 1 - k) := by simp [mTo, List.range_succ]
theorem mrow_len (x : ByteArray) (f : Nat) : ∀ k, (mrow x f k).length ≤ k
  | 0 => Nat.le_refl _
  | k + 1 => by
    rw [mrow_succ, List.length_append]
    have := mrow_len x f k
    unfold mcell
    split <;> simp <;> omega
theorem mTo_len (x : ByteArray) : ∀ k, (mTo x k).length ≤ x.size * k
  | 0 => Nat.le_refl _
  | k + 1 => by
    rw [mTo_succ, List.length_append, Nat.mul_succ]
    have := mTo_len x k
    have := mrow_len x k (x.size - 1 - k)
    omega
theorem mem_mR {x : ByteArray} {f t q : Nat} : (f, t, q) ∈ mR x ↔ isRun x f t ∧ q = lpf x f (t - f) := by
  unfold mR mTo mrow mcell
  rw [List.mem_flatMap]
  constructor
  · rintro ⟨f', hf, h⟩
    rw [List.mem_flatMap] at h
    obtain ⟨i, hi, h⟩ := h
    by_cases hr : isRun x f' (f' + 2 + i)
    · rw [if_pos hr, List.mem_singleton] at h
      injection h with e1 e2
      injection e2 with e2 e3
      subst e1 e2
      exact ⟨hr, e3⟩
    · rw [if_neg hr] at h
      simp at h
  · rintro ⟨hr, rfl⟩
    have h1 := hr.1
    have h2 := hr.2.1
    refine ⟨f, List.mem_range.2 (by omega), ?_⟩
    rw [List.mem_flatMap]
    refine ⟨t - f - 2, List.mem_range.2 (by omega), ?_⟩
    rw [show f + 2 + (t - f - 2) = t by omega, if_pos hr]
    exact List.mem_singleton.2 rfl

/-- The stretch to the left, and to the right. -/
def strF (x : ByteArray) (q : Nat) : Nat → Nat
  | 0 => 0
  | k + 1 => if (bl x)[k]? = (bl x)[k + q]? then strF x q k else k + 1
theorem strF_zero (x : ByteArray) (q : Nat) : strF x q 0 = 0 := rfl
theorem strF_on {x : ByteArray} {q k : Nat} (h : (bl x)[k]? = (bl x)[k + q]?) : strF x q (k + 1) = strF x q k := if_pos h
theorem strF_off {x : ByteArray} {q k : Nat} (h : ¬ (bl x)[k]? = (bl x)[k + q]?) : strF x q (k + 1) = k + 1 := if_neg h
theorem strF_le (x : ByteArray) (q : Nat) : ∀ i, strF x q i ≤ i
  | 0 => Nat.le_refl _
  | k + 1 => by
    unfold strF
    split
    · have := strF_le x q k; omega
    · omega
theorem strF_same (x : ByteArray) (q : Nat) : ∀ i j, strF x q i ≤ j → j < i → (bl x)[j]? = (bl x)[j + q]?
  | 0, j, _, h => by omega
  | k + 1, j, h1, h2 => by
    unfold strF at h1
    split at h1
    · by_cases e : j = k
      · subst e; assumption
      · exact strF_same x q k j h1 (by omega)
    · omega
theorem strF_stop (x : ByteArray) (q : Nat) : ∀ i, strF x q i = 0 ∨ (bl x)[strF x q i - 1]? ≠ (bl x)[strF x q i - 1 + q]?
  | 0 => .inl rfl
  | k + 1 => by
    unfold strF
    split
    · exact strF_stop x q k
    · right
      rw [Nat.add_sub_cancel]
      assumption
theorem strF_of {x : ByteArray} {q f : Nat} (hs : f = 0 ∨ (bl x)[f - 1]? ≠ (bl x)[f - 1 + q]?) : ∀ i, f ≤ i → (∀ j, f ≤ j → j < i → (bl x)[j]? = (bl x)[j + q]?) → strF x q i = f
  | 0, h, _ => by rw [strF_zero]; omega
  | k + 1, h, hj => by
    by_cases e : f = k + 1
    · rcases hs with hs | hs
      · omega
      · rw [e, Nat.add_sub_cancel] at hs
        rw [strF_off hs, e]
    · rw [strF_on (hj k (by omega) (by omega))]
      exact strF_of hs k (by omega) (fun j h1 h2 => hj j h1 (by omega))
def strTF (x : ByteArray) (q : Nat) : Nat → Nat → Nat
  | 0, t => t
  | k + 1, t => if (bl x)[t]? = (bl x)[t - q]? then strTF x q k (t + 1) else t
def strT (x : ByteArray) (q t : Nat) : Nat := strTF x q (x.size - t) t
theorem strT_end {x : ByteArray} {q t : Nat} (h : x.size ≤ t) : strT x q t = t := by unfold strT; rw [show x.size - t = 0 by omega]; rfl
theorem strT_on {x : ByteArray} {q t : Nat} (h : t < x.size) (k : (bl x)[t]? = (bl x)[t - q]?) : strT x q t = strT x q (t + 1) := by
  unfold strT
  obtain ⟨m, hm⟩ : ∃ m, x.size - t = m + 1 := ⟨x.size - t - 1, by omega⟩
  rw [hm, show x.size - (t + 1) = m by omega]
  exact if_pos k
theorem strT_off {x : ByteArray} {q t : Nat} (k : ¬ (bl x)[t]? = (bl x)[t - q]?) : strT x q t = t := by
  unfold strT
  cases x.size - t with
  | zero => rfl
  | succ m => exact if_neg k
theorem strT_facts (x : ByteArray) (q : Nat) : ∀ m t, m = x.size - t → t ≤ x.size → t ≤ strT x q t ∧ strT x q t ≤ x.size ∧ (∀ j, t ≤ j → j < strT x q t → (bl x)[j]? = (bl x)[j - q]?) ∧ (strT x q t = x.size ∨ (bl x)[strT x q t]? ≠ (bl x)[strT x q t - q]?)
  | 0, t, hm, ht => by
    rw [strT_end (by omega)]
    exact ⟨Nat.le_refl _, ht, fun j h1 h2 => by omega, .inl (by omega)⟩
  | m + 1, t, hm, ht => by
    by_cases e : (bl x)[t]? = (bl x)[t - q]?
    · rw [strT_on (by omega) e]
      obtain ⟨h1, h2, h3, h4⟩ := strT_facts x q m (t + 1) (by omega) (by omega)
      refine ⟨by omega, h2, fun j j1 j2 => ?_, h4⟩
      by_cases ej : j = t
      · subst ej; exact e
      · exact h3 j (by omega) j2
    · rw [strT_off e]
      exact ⟨Nat.le_refl _, ht, fun j h1 h2 => by omega, .inr e⟩
theorem strT_of {x : ByteArray} {q T : Nat} (hT : T ≤ x.size) (hs : T = x.size ∨ (bl x)[T]? ≠ (bl x)[T - q]?) : ∀ m t, m = T - t → t ≤ T → (∀ j, t ≤ j → j < T → (bl x)[j]? = (bl x)[j - q]?) → strT x q t = T
  | 0, t, hm, ht, hj => by
    obtain rfl : t = T := by omega
    rcases hs with hs | hs
    · exact strT_end (by omega)
    · exact strT_off hs
  | m + 1, t, hm, ht, hj => by
    rw [strT_on (by omega) (hj t (Nat.le_refl _) (by omega))]
    exact strT_of hT hs m (t + 1) (by omega) (by omega) (fun j h1 h2 => hj j (by omega) h2)
def icell (x : ByteArray) (q i : Nat) : Tr := (strF x q i, strT x q (i + q), q)
def keepR (x : ByteArray) (q i : Nat) : Prop := 2 * q ≤ strT x q (i + q) - strF x q i ∧ lpf x (strF x q i) (strT x q (i + q) - strF x q i) = q
def keep (x : ByteArray) (q i : Nat) : Prop := (i = 0 ∨ icell x q i ≠ icell x q (i - 1)) ∧ keepR x q i
noncomputable instance (x : ByteArray) (q i : Nat) : Decidable (keep x q i) := Classical.propDecidable _
noncomputable def irow (x : ByteArray) (q k : Nat) : List Tr := (List.range k).flatMap fun i => if keep x q i then [icell x q i] else []
noncomputable def iTo (x : ByteArray) (k : Nat) : List Tr := (List.range k).flatMap fun p => irow x (p + 1) (x.size + 1 - 2 * (p + 1))
noncomputable def iR (x : ByteArray) : List Tr := iTo x (x.size / 2)
theorem irow_zero (x : ByteArray) (q : Nat) : irow x q 0 = [] := rfl
theorem irow_yes {x : ByteArray} {q k : Nat} (h : keep x q k) : irow x q (k + 1) = irow x q k ++ [icell x q k] := by simp [irow, List.range_succ, h]
theorem irow_no {x : ByteArray} {q k : Nat} (h : ¬ keep x q k) : irow x q (k + 1) = irow x q k := by simp [irow, List.range_succ, h]
theorem iTo_zero (x : ByteArray) : iTo x 0 = [] := rfl
theorem iTo_succ (x : ByteArray) (k : Nat) : iTo x (k + 1) = iTo x k ++ irow x (k + 1) (x.size + 1 - 2 * (k + 1)) := by simp [iTo, List.range_succ]
theorem irow_len (x : ByteArray) (q : Nat) : ∀ k, (irow x q k).length ≤ k
  | 0 => Nat.le_refl _
  | k + 1 => by
    have := irow_len x q k
    by_cases h : keep x q k
    · rw [irow_yes h, List.length_append, List.length_singleton]; omega
    · rw [irow_no h]; omega
theorem iTo_len (x : ByteArray) : ∀ k, (iTo x k).length ≤ (x.size + 1) * k
  | 0 => Nat.le_refl _
  | k + 1 => by
    rw [iTo_succ, List.length_append, Nat.mul_succ (x.size + 1) k]
    have := iTo_len x k
    have := irow_len x (k + 1) (x.size + 1 - 2 * (k + 1))
    omega
theorem icell_bd {x : ByteArray} {q i : Nat} (h : i + q ≤ x.size) : strF x q i ≤ i ∧ i + q ≤ strT x q (i + q) ∧ strT x q (i + q) ≤ x.size := by
  have := strF_le x q i
  obtain ⟨h1, h2, _⟩ := strT_facts x q _ (i + q) rfl h
  exact ⟨this, h1, h2⟩
theorem icell_pf {x : ByteArray} {q i : Nat} (h : i + q ≤ x.size) : pf x (strF x q i) (strT x q (i + q)) q := by
  intro j hj hq
  by_cases e : j < i
  · exact strF_same x q i j hj e
  · have := (strT_facts x q _ (i + q) rfl h).2.2.1 (j + q) (by omega) hq
    rw [Nat.add_sub_cancel] at this
    exact this.symm
theorem mem_iR {x : ByteArray} {f t q : Nat} : (f, t, q) ∈ iR x ↔ ∃ i, 1 ≤ q ∧ i + 2 * q ≤ x.size ∧ keep x q i ∧ icell x q i = (f, t, q) := by
  unfold iR iTo irow
  rw [List.mem_flatMap]
  constructor
  · rintro ⟨p, hp, h⟩
    rw [List.mem_flatMap] at h
    obtain ⟨i, hi, h⟩ := h
    rw [List.mem_range] at hp hi
    by_cases hk : keep x (p + 1) i
    · rw [if_pos hk, List.mem_singleton] at h
      have e : q = p + 1 := by unfold icell at h; injection h with _ h; injection h
      subst e
      exact ⟨i, by omega, by omega, hk, h.symm⟩
    · rw [if_neg hk] at h
      simp at h
  · rintro ⟨i, h1, h2, hk, he⟩
    refine ⟨q - 1, List.mem_range.2 (by omega), ?_⟩
    rw [List.mem_flatMap, show q - 1 + 1 = q by omega]
    refine ⟨i, List.mem_range.2 (by omega), ?_⟩
    rw [if_pos hk, List.mem_singleton, he]
theorem same_runs {x : ByteArray} (r : Tr) : r ∈ iR x ↔ r ∈ mR x := by
  obtain ⟨f, t, q⟩ := r
  rw [mem_iR, mem_mR]
  constructor
  · rintro ⟨i, q1, hi, ⟨_, hk1, hk2⟩, he⟩
    obtain ⟨b1, b2, b3⟩ := icell_bd (x := x) (q := q) (i := i) (by omega)
    have hF := strF_stop x q i
    have hT := (strT_facts x q _ (i + q) rfl (by omega)).2.2.2
    unfold icell at he
    injection he with e1 e2
    injection e2 with e2 _
    subst e1 e2
    refine ⟨⟨by omega, b3, by rw [hk2]; exact hk1, by rw [hk2]; exact hF, by rw [hk2]; exact hT⟩, hk2.symm⟩
  · rintro ⟨⟨h1, h2, h3, h4, h5⟩, e⟩
    rw [← e] at h3 h4 h5
    have hm : 0 < t - f := by omega
    obtain ⟨q0, _⟩ := lpf_bd (x := x) (i := f) (m := t - f) hm (by omega)
    rw [← e] at q0
    have hne : bl (x.extract f (f + (t - f))) ≠ [] := by
      intro hz
      have := congrArg List.length hz
      rw [bl_extract, List.length_take, List.length_drop, bl_len] at this
      simp at this
      omega
    have hper : Per (bl (x.extract f (f + (t - f)))) q := by
      rw [e]
      exact (lp_ok hne).2.2.1
    rw [pf_iff (by omega), show f + (t - f) = t by omega] at hper
    have eF : strF x q f = f := strF_of h4 f (Nat.le_refl _) (fun j a b => by omega)
    have eT : strT x q (f + q) = t := strT_of h2 h5 _ (f + q) rfl (by omega) (fun j a b => by
      have := hper (j - q) (by omega) (by omega)
      rw [show j - q + q = j by omega] at this
      exact this.symm)
    refine ⟨f, q0, by omega, ⟨?_, ?_⟩, ?_⟩
    · by_cases hf : f = 0
      · exact .inl hf
      · right
        intro hc
        unfold icell at hc
        injection hc with hc _
        have := strF_le x q (f - 1)
        omega
    · unfold keepR
      rw [eF, eT]
      exact ⟨by omega, e.symm⟩
    · unfold icell
      rw [eF, eT]
/-- The kept stretches are different. -/
theorem iR_nodup (x : ByteArray) : (iR x).Pairwise (· ≠ ·) := by
  unfold iR iTo irow
  rw [List.pairwise_flatMap]
  constructor
  · intro p hp
    rw [List.mem_range] at hp
    rw [List.pairwise_flatMap]
    constructor
    · intro i hi
      split
      · exact List.pairwise_singleton _ _
      · exact List.Pairwise.nil
    · refine List.Pairwise.imp_of_mem ?_ List.pairwise_lt_range
      intro i j hi hj hij a ha b hb
      rw [List.mem_range] at hi hj
      by_cases k1 : keep x (p + 1) i
      · rw [if_pos k1, List.mem_singleton] at ha
        by_cases k2 : keep x (p + 1) j
        · rw [if_pos k2, List.mem_singleton] at hb
          subst ha hb
          intro e
          rcases k2.1 with h0 | hne
          · omega
          · apply hne
            rw [← e]
            -- the stretch at j - 1 is that at i, for it is that at j
            obtain ⟨b1, b2, b3⟩ := icell_bd (x := x) (q := p + 1) (i := i) (by omega)
            obtain ⟨c1, c2, c3⟩ := icell_bd (x := x) (q := p + 1) (i := j) (by omega)
            have hp2 := icell_pf (x := x) (q := p + 1) (i := i) (by omega)
            have hF := strF_stop x (p + 1) i
            have hT := (strT_facts x (p + 1) _ (i + (p + 1)) rfl (by omega)).2.2.2
            unfold icell at e ⊢
            injection e with e1 e2
            injection e2 with e2 _
            have eF : strF x (p + 1) (j - 1) = strF x (p + 1) i := strF_of hF _ (by omega) (fun k a b => hp2 k a (by omega))
            have eT : strT x (p + 1) (j - 1 + (p + 1)) = strT x (p + 1) (i + (p + 1)) := strT_of b3 hT _ _ rfl (by omega) (fun k a b => by
              have := hp2 (k - (p + 1)) (by omega) (by omega)
              rw [show k - (p + 1) + (p + 1) = k by omega] at this
              exact this.symm)
            rw [eF, eT]
        · rw [if_neg k2] at hb; simp at hb
      · rw [if_neg k1] at ha; simp at ha
  · refine List.Pairwise.imp_of_mem ?_ List.pairwise_lt_range
    intro p p' hp hp' hlt a ha b hb e
    rw [List.mem_flatMap] at ha hb
    obtain ⟨i, _, ha⟩ := ha
    obtain ⟨j, _, hb⟩ := hb
    by_cases k1 : keep x (p + 1) i
    · rw [if_pos k1, List.mem_singleton] at ha
      by_cases k2 : keep x (p' + 1) j
      · rw [if_pos k2, List.mem_singleton] at hb
        subst ha hb
        unfold icell at e
        injection e with _ e
        injection e with _ e
        omega
      · rw [if_neg k2] at hb; simp at hb
    · rw [if_neg k1] at ha; simp at ha

/-- How runs are compared. -/
def cmpN (a b : Nat) : Int := if a < b then -1 else if b < a then 1 else 0
def cmpT (a b : Tr) : Int := if cmpN a.1 b.1 ≠ 0 then cmpN a.1 b.1 else if cmpN a.2.1 b.2.1 ≠ 0 then cmpN a.2.1 b.2.1 else cmpN a.2.2 b.2.2
def ltT (a b : Tr) : Prop := a.1 < b.1 ∨ (a.1 = b.1 ∧ (a.2.1 < b.2.1 ∨ (a.2.1 = b.2.1 ∧ a.2.2 < b.2.2)))
theorem cmpT_lt (a b : Tr) : cmpT a b < 0 ↔ ltT a b := by
  unfold cmpT cmpN ltT
  repeat' split
  all_goals omega
theorem ltT_irrefl (a : Tr) : ¬ ltT a a := by unfold ltT; omega
theorem ltT_trans {a b c : Tr} (h : ltT a b) (k : ltT b c) : ltT a c := by unfold ltT at *; omega
theorem ltT_total {a b : Tr} (h : a ≠ b) : ltT a b ∨ ltT b a := by
  unfold ltT
  have : ¬ (a.1 = b.1 ∧ a.2.1 = b.2.1 ∧ a.2.2 = b.2.2) := fun ⟨h1, h2, h3⟩ => h (Prod.ext h1 (Prod.ext h2 h3))
  omega
theorem mR_sorted (x : ByteArray) : (mR x).Pairwise ltT := by
  unfold mR mTo mrow mcell
  rw [List.pairwise_flatMap]
  constructor
  · intro f hf
    rw [List.pairwise_flatMap]
    constructor
    · intro i hi
      split
      · exact List.pairwise_singleton _ _
      · exact List.Pairwise.nil
    · refine List.Pairwise.imp ?_ List.pairwise_lt_range
      intro i j hij a ha b hb
      split at ha
      · split at hb
        · rw [List.mem_singleton] at ha hb
          subst ha hb
          right
          exact ⟨rfl, .inl (show f + 2 + i < f + 2 + j by omega)⟩
        · simp at hb
      · simp at ha
  · refine List.Pairwise.imp ?_ List.pairwise_lt_range
    intro f g hfg a ha b hb
    rw [List.mem_flatMap] at ha hb
    obtain ⟨i, _, ha⟩ := ha
    obtain ⟨j, _, hb⟩ := hb
    split at ha
    · split at hb
      · rw [List.mem_singleton] at ha hb
        subst ha hb
        exact .inl hfg
      · simp at hb
    · simp at ha
/-- Sorted lists with the same members are the same. -/
theorem sorted_uniq : ∀ {l m : List Tr}, l.Pairwise (· ≠ ·) → l.Pairwise (fun a b => ¬ ltT b a) → m.Pairwise ltT → (∀ r, r ∈ l ↔ r ∈ m) → l = m
  | [], [], _, _, _, _ => rfl
  | [], b :: m, _, _, _, h => by have := (h b).2 (List.mem_cons_self ..); simp at this
  | a :: l, [], _, _, _, h => by have := (h a).1 (List.mem_cons_self ..); simp at this
  | a :: l, b :: m, h1, h2, h3, h => by
    rw [List.pairwise_cons] at h1 h2 h3
    have e : a = b := by
      apply Classical.byContradiction
      intro hne
      have ha : a ∈ m := by
        rcases List.mem_cons.1 ((h a).1 (List.mem_cons_self ..)) with e | e
        · exact absurd e hne
        · exact e
      have hb : b ∈ l := by
        rcases List.mem_cons.1 ((h b).2 (List.mem_cons_self ..)) with e | e
        · exact absurd e.symm hne
        · exact e
      exact h2.1 b hb (h3.1 a ha)
    subst e
    congr 1
    refine sorted_uniq h1.2 h2.2 h3.2 fun r => ?_
    constructor
    · intro hr
      rcases List.mem_cons.1 ((h r).1 (List.mem_cons_of_mem _ hr)) with e | e
      · subst e; exact absurd rfl (h1.1 r hr)
      · exact e
    · intro hr
      rcases List.mem_cons.1 ((h r).2 (List.mem_cons_of_mem _ hr)) with e | e
      · subst e; exact absurd (h3.1 r hr) (ltT_irrefl r)
      · exact e
theorem runs_sorted {x : ByteArray} {l : List Tr} (hp : l.Perm (iR x)) (hs : l.Pairwise (fun a b => ¬ ltT b a)) : l = mR x := by
  refine sorted_uniq ?_ hs (mR_sorted x) fun r => ?_
  · exact (hp.pairwise_iff (fun {a b} h => h.symm)).2 (iR_nodup x)
  · rw [hp.mem_iff, same_runs]
noncomputable def runsR (x : ByteArray) : List Tr × Int := if ¬ IsW x then ([], 1) else (mR x, 0)
theorem runsR_bad {x : ByteArray} (h : ¬ IsW x) : runsR x = ([], 1) := if_pos h
theorem runsR_ok {x : ByteArray} (h : IsW x) : runsR x = (mR x, 0) := if_neg (not_not_intro h)
theorem mR_len {x : ByteArray} (h : x.size ≤ 60) : (mR x).length ≤ 3600 := by
  have := mTo_len x x.size
  have : x.size * x.size ≤ 60 * 60 := Nat.mul_le_mul h h
  unfold mR
  omega

end Go.Proofs.Ytddfdciohnabbab
