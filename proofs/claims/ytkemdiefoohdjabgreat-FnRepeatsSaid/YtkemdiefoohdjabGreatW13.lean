/- The runs of a word, on both sides; what the law asks of a word. -/
import Derived.Test.YtkemdiefoohdjabGreatPerRPlain
import Derived.Test.YtkemdiefoohdjabGreatSqPlain
import Derived.Test.YtkemdiefoohdjabGreatRepPlain
import Derived.Test.YtkemdiefoohdjabGreatPairs
import Derived.Test.YtkemdiefoohdjabGreatWordSet
import Derived.Test.YtkemdiefoohdjabGreatRows2
import Derived.Test.YtkemdiefoohdjabGreatInts
import Derived.Test.YtkemdiefoohdjabGreatLoc
import Derived.Test.YtkemdiefoohdjabGreatGcd
import Derived.Test.YtkemdiefoohdjabGreatPerPlain
import Derived.Test.YtkemdiefoohdjabGreatComPlain
import Derived.Test.YtkemdiefoohdjabGreatPutPlain
import Derived.Test.YtkemdiefoohdjabGreatWords
import Derived.Deep.LoopGhost
import Derived.Deep.Onto
import Derived.RangeFuncBox
import Derived.BigQuiet
import Derived.Deep.QuietTactic
import Derived.IntWalk
import Derived.Test.YtkemdiefoohdjabGreatTurn
import Derived.Laws.Rows
import Derived.Test.YtkemdiefoohdjabGreatRoot
import Derived.Test.YtkemdiefoohdjabGreatSq
import Derived.Laws.StructEq
import Derived.StillTailTactics
import Derived.Sort.Grow
import Derived.Shelf.SlSortCmp.InsertionK
import Derived.Sort.OwnSorted
import Derived.Test.YtkemdiefoohdjabGreatSrtf
import Derived.Shelf.SlSortCmp.WholeK
import Derived.Shelf.SlSortCmp.NoneTotal

/-! ### GePlain -/
namespace Go.Proofs.YtkemdiefoohdjabGreat
set_option linter.unusedVariables false
set_option linter.unusedSimpArgs false

/-- The least period of the factor at i with m letters. -/
noncomputable def lpf (x : ByteArray) (i m : Nat) : Nat := lp (bl (x.extract i (i + m)))
theorem lpf_bd {x : ByteArray} {i m : Nat} (hm : 0 < m) (h : i + m ≤ x.size) : 0 < lpf x i m ∧ lpf x i m ≤ m := by
  have z : (x.extract i (i + m)).size = m := by simp; omega
  have h1 := lp_ok (bl_ne (x := x.extract i (i + m)) (by omega))
  have h2 := h1.2.1
  rw [bl_len, z] at h2
  exact ⟨h1.1, h2⟩
def geStep (s : Nat × Nat) (m p : Nat) : Nat × Nat := if s.1 * p < m * s.2 then (m, p) else s
/-- The greatest of the exponents seen, as letters and period. -/
def GeB (x : ByteArray) (seen : Nat → Nat → Prop) (s : Nat × Nat) : Prop :=
  0 < s.1 ∧ 0 < s.2 ∧ s.1 ≤ max 1 x.size ∧ s.2 ≤ s.1 ∧ (s = (1, 1) ∨ ∃ i m, 0 < m ∧ i + m ≤ x.size ∧ s = (m, lpf x i m)) ∧ ∀ i m, seen i m → 0 < m → i + m ≤ x.size → m * s.2 ≤ s.1 * lpf x i m
theorem GeB.start (x : ByteArray) {seen : Nat → Nat → Prop} (h : ∀ i m, ¬ seen i m) : GeB x seen (1, 1) := ⟨by decide, by decide, by show 1 ≤ _; omega, Nat.le_refl _, .inl rfl, fun i m hs => absurd hs (h i m)⟩
theorem GeB.mono {x : ByteArray} {seen seen' : Nat → Nat → Prop} {s : Nat × Nat} (h : GeB x seen s) (hk : ∀ i m, seen' i m → 0 < m → i + m ≤ x.size → seen i m) : GeB x seen' s := ⟨h.1, h.2.1, h.2.2.1, h.2.2.2.1, h.2.2.2.2.1, fun i m hs h0 h1 => h.2.2.2.2.2 i m (hk i m hs h0 h1) h0 h1⟩
theorem GeB.step {x : ByteArray} {seen : Nat → Nat → Prop} {s : Nat × Nat} {i m : Nat} (h : GeB x seen s) (hm : 0 < m) (hi : i + m ≤ x.size) : GeB x (fun i' m' => seen i' m' ∨ (i' = i ∧ m' = m)) (geStep s m (lpf x i m)) := by
  obtain ⟨h1, h2, h3, h4, h5, h6⟩ := h
  obtain ⟨p0, p1⟩ := lpf_bd hm hi
  unfold geStep
  by_cases c : s.1 * lpf x i m < m * s.2
  · rw [if_pos c]
    refine ⟨hm, p0, by show m ≤ _; omega, p1, .inr ⟨i, m, hm, hi, rfl⟩, fun i' m' hs h0 h7 => ?_⟩
    rcases hs with hs | ⟨rfl, rfl⟩
    · have h8 := h6 i' m' hs h0 h7
      show m' * lpf x i m ≤ m * lpf x i' m'
      refine Nat.le_of_mul_le_mul_right (c := s.2) ?_ h2
      calc m' * lpf x i m * s.2 = m' * s.2 * lpf x i m := by rw [Nat.mul_right_comm]
        _ ≤ s.1 * lpf x i' m' * lpf x i m := Nat.mul_le_mul_right _ h8
        _ = s.1 * lpf x i m * lpf x i' m' := by rw [Nat.mul_right_comm]
        _ ≤ m * s.2 * lpf x i' m' := Nat.mul_le_mul_right _ (Nat.le_of_lt c)
        _ = m * lpf x i' m' * s.2 := by rw [Nat.mul_right_comm]
    · exact Nat.le_refl _
  · rw [if_neg c]
    refine ⟨h1, h2, h3, h4, h5, fun i' m' hs h0 h7 => ?_⟩
    rcases hs with hs | ⟨rfl, rfl⟩
    · exact h6 i' m' hs h0 h7
    · omega
/-- One letter alone has the exponent 1. -/
theorem GeB.ones {x : ByteArray} {seen : Nat → Nat → Prop} {s : Nat × Nat} (h : GeB x (fun i m => seen i m ∧ 2 ≤ m) s) : GeB x seen s := by
  refine ⟨h.1, h.2.1, h.2.2.1, h.2.2.2.1, h.2.2.2.2.1, fun i m hs h0 h1 => ?_⟩
  by_cases h2 : 2 ≤ m
  · exact h.2.2.2.2.2 i m ⟨hs, h2⟩ h0 h1
  · have h3 : m = 1 := by omega
    subst h3
    have h4 := lpf_bd (x := x) (i := i) (m := 1) (by decide) h1
    have h5 : lpf x i 1 = 1 := by omega
    have := h.2.2.2.1
    rw [h5]
    omega
abbrev allS : Nat → Nat → Prop := fun _ _ => True
theorem GeB.le {x : ByteArray} {s t : Nat × Nat} (h : GeB x allS s) (k : GeB x allS t) : s.1 * t.2 ≤ t.1 * s.2 := by
  rcases h.2.2.2.2.1 with rfl | ⟨i, m, hm, hi, rfl⟩
  · have := k.2.2.2.1
    show 1 * t.2 ≤ t.1 * 1
    omega
  · exact k.2.2.2.2.2 i m trivial hm hi
/-- Two fractions that are one are one in lowest terms. -/
theorem frac_eq {a b c d : Nat} (ha : 0 < a) (hb : 0 < b) (hc : 0 < c) (hd : 0 < d) (h : a * d = c * b) : a / Nat.gcd a b = c / Nat.gcd c d ∧ b / Nat.gcd a b = d / Nat.gcd c d := by
  have g1 := Nat.gcd_pos_of_pos_left b ha
  have g2 := Nat.gcd_pos_of_pos_left d hc
  have e1 : Nat.gcd a b * d = b * Nat.gcd c d := by
    rw [← Nat.gcd_mul_right, h, ← Nat.gcd_mul_left, Nat.mul_comm c b]
  obtain ⟨u, hu⟩ := Nat.gcd_dvd_left a b
  obtain ⟨v, hv⟩ := Nat.gcd_dvd_right a b
  obtain ⟨u', hu'⟩ := Nat.gcd_dvd_left c d
  obtain ⟨v', hv'⟩ := Nat.gcd_dvd_right c d
  have q1 : a / Nat.gcd a b = u := Nat.div_eq_of_eq_mul_right g1 hu
  have q2 : b / Nat.gcd a b = v := Nat.div_eq_of_eq_mul_right g1 hv
  have q3 : c / Nat.gcd c d = u' := Nat.div_eq_of_eq_mul_right g2 hu'
  have q4 : d / Nat.gcd c d = v' := Nat.div_eq_of_eq_mul_right g2 hv'
  rw [q1, q2, q3, q4]
  generalize Nat.gcd a b = g at *
  generalize Nat.gcd c d = g' at *
  have hvv : v = v' := by
    have h1 : g * g' * v' = g * g' * v := by
      calc g * g' * v' = g * (g' * v') := by rw [Nat.mul_assoc]
        _ = g * d := by rw [← hv']
        _ = b * g' := e1
        _ = g * v * g' := by rw [← hv]
        _ = g * g' * v := by rw [Nat.mul_right_comm]
    exact (Nat.eq_of_mul_eq_mul_left (Nat.mul_pos g1 g2) h1).symm
  refine ⟨?_, hvv⟩
  subst hvv
  have hv0 : 0 < v := Nat.pos_of_ne_zero fun e => by rw [e, Nat.mul_zero] at hv; omega
  have h2 : u * (g * g' * v) = u' * (g * g' * v) := by
    calc u * (g * g' * v) = g * u * (g' * v) := by rw [Nat.mul_comm g u, Nat.mul_assoc, Nat.mul_assoc]
      _ = a * d := by rw [← hu, ← hv']
      _ = c * b := h
      _ = g' * u' * (g * v) := by rw [← hu', ← hv]
      _ = u' * (g * g' * v) := by rw [Nat.mul_comm g' u', Nat.mul_assoc, Nat.mul_left_comm g' g v, Nat.mul_assoc]
  exact Nat.eq_of_mul_eq_mul_right (Nat.mul_pos (Nat.mul_pos g1 g2) hv0) h2
theorem ge_uniq {x : ByteArray} {s t : Nat × Nat} (h : GeB x allS s) (k : GeB x allS t) : s.1 / Nat.gcd s.1 s.2 = t.1 / Nat.gcd t.1 t.2 ∧ s.2 / Nat.gcd s.1 s.2 = t.2 / Nat.gcd t.1 t.2 :=
  frac_eq h.1 h.2.1 k.1 k.2.1 (Nat.le_antisymm (h.le k) (k.le h))
theorem ge_list (x : ByteArray) : ∀ (L : List (Nat × Nat)), ∃ s, GeB x (fun i m => (i, m) ∈ L) s
  | [] => ⟨(1, 1), GeB.start x fun i m h => by cases h⟩
  | p :: L => by
    obtain ⟨s, hs⟩ := ge_list x L
    by_cases h : 0 < p.2 ∧ p.1 + p.2 ≤ x.size
    · exact ⟨_, (hs.step h.1 h.2).mono fun i m hm _ _ => by
        rcases List.mem_cons.1 hm with e | e
        · exact .inr ⟨by rw [← e], by rw [← e]⟩
        · exact .inl e⟩
    · exact ⟨s, hs.mono fun i m hm h0 h1 => by
        rcases List.mem_cons.1 hm with e | e
        · exact absurd ⟨by rw [← e]; exact h0, by rw [← e]; exact h1⟩ h
        · exact e⟩
theorem ge_ex (x : ByteArray) : ∃ s, GeB x allS s := by
  obtain ⟨s, hs⟩ := ge_list x ((List.range (x.size + 1)).flatMap fun i => (List.range (x.size + 1)).map fun m => (i, m))
  refine ⟨s, hs.mono fun i m _ h0 h1 => ?_⟩
  rw [List.mem_flatMap]
  exact ⟨i, List.mem_range.2 (by omega), List.mem_map.2 ⟨m, List.mem_range.2 (by omega), rfl⟩⟩
noncomputable def geF (x : ByteArray) : Nat × Nat := (ge_ex x).choose
theorem geF_ok (x : ByteArray) : GeB x allS (geF x) := (ge_ex x).choose_spec
noncomputable def geR (x : ByteArray) : Int × Int × Int := if ¬ IsW x then (0, 0, 1) else if x.size = 0 then (0, 0, 4) else ((((geF x).1 / Nat.gcd (geF x).1 (geF x).2 : Nat) : Int), (((geF x).2 / Nat.gcd (geF x).1 (geF x).2 : Nat) : Int), 0)
theorem geR_bad {x : ByteArray} (h : ¬ IsW x) : geR x = (0, 0, 1) := if_pos h
theorem geR_nil {x : ByteArray} (h : IsW x) (h0 : x.size = 0) : geR x = (0, 0, 4) := by unfold geR; rw [if_neg (not_not_intro h), if_pos h0]
theorem geR_ok {x : ByteArray} (h : IsW x) (h0 : ¬ x.size = 0) {s : Nat × Nat} (hs : GeB x allS s) : geR x = (((s.1 / Nat.gcd s.1 s.2 : Nat) : Int), ((s.2 / Nat.gcd s.1 s.2 : Nat) : Int), 0) := by
  unfold geR
  rw [if_neg (not_not_intro h), if_neg h0, (ge_uniq (geF_ok x) hs).1, (ge_uniq (geF_ok x) hs).2]

end Go.Proofs.YtkemdiefoohdjabGreat

/-! ### RunPlain -/
namespace Go.Proofs.YtkemdiefoohdjabGreat
set_option linter.unusedVariables false
set_option linter.unusedSimpArgs false
open Go.RowKit

/-- Letters q places apart are equal from f on, ahead of t. -/
def pf (x : ByteArray) (f t q : Nat) : Prop := ∀ j, f ≤ j → j + q < t → (bl x)[j]? = (bl x)[j + q]?
theorem pf_iff {x : ByteArray} {f m q : Nat} (h : f + m ≤ x.size) : Per (bl (x.extract f (f + m))) q ↔ pf x f (f + m) q := by
  rw [bl_extract, show f + m - f = m by omega]
  have hl : (((bl x).drop f).take m).length = m := by rw [List.length_take, List.length_drop, bl_len]; omega
  constructor
  · intro hp j hj hjq
    have := hp (j - f) (by rw [hl]; omega)
    rw [List.getElem?_take_of_lt (by omega), List.getElem?_take_of_lt (by omega), List.getElem?_drop, List.getElem?_drop] at this
    rwa [show f + (j - f) = j by omega, show f + (j - f + q) = j + q by omega] at this
  · intro hp i hi
    rw [hl] at hi
    rw [List.getElem?_take_of_lt (by omega), List.getElem?_take_of_lt (by omega), List.getElem?_drop, List.getElem?_drop]
    have := hp (f + i) (by omega) (by omega)
    rwa [show f + i + q = f + (i + q) by omega] at this

/-- From, to, period. -/
abbrev Tr : Type := Nat × Nat × Nat
def isRun (x : ByteArray) (f t : Nat) : Prop := f + 2 ≤ t ∧ t ≤ x.size ∧ 2 * lpf x f (t - f) ≤ t - f ∧ (f = 0 ∨ (bl x)[f - 1]? ≠ (bl x)[f - 1 + lpf x f (t - f)]?) ∧ (t = x.size ∨ (bl x)[t]? ≠ (bl x)[t - lpf x f (t - f)]?)
noncomputable instance (x : ByteArray) (f t : Nat) : Decidable (isRun x f t) := Classical.propDecidable _
noncomputable def mcell (x : ByteArray) (f t : Nat) : List Tr := if isRun x f t then [(f, t, lpf x f (t - f))] else []
noncomputable def mrow (x : ByteArray) (f k : Nat) : List Tr := (List.range k).flatMap fun i => mcell x f (f + 2 + i)
noncomputable def mTo (x : ByteArray) (k : Nat) : List Tr := (List.range k).flatMap fun f => mrow x f (x.size - 1 - f)
noncomputable def mR (x : ByteArray) : List Tr := mTo x x.size
theorem mrow_zero (x : ByteArray) (f : Nat) : mrow x f 0 = [] := rfl
theorem mrow_succ (x : ByteArray) (f k : Nat) : mrow x f (k + 1) = mrow x f k ++ mcell x f (f + 2 + k) := by simp [mrow, List.range_succ]
theorem mrow_yes {x : ByteArray} {f k : Nat} (h : isRun x f (f + 2 + k)) : mrow x f (k + 1) = mrow x f k ++ [(f, f + 2 + k, lpf x f (f + 2 + k - f))] := by rw [mrow_succ, mcell, if_pos h]
theorem mrow_no {x : ByteArray} {f k : Nat} (h : ¬ isRun x f (f + 2 + k)) : mrow x f (k + 1) = mrow x f k := by rw [mrow_succ, mcell, if_neg h, List.append_nil]
theorem mTo_zero (x : ByteArray) : mTo x 0 = [] := rfl
theorem mTo_succ (x : ByteArray) (k : Nat) : mTo x (k + 1) = mTo x k ++ mrow x k (x.size - 1 - k) := by simp [mTo, List.range_succ]
theorem mrow_len (x : ByteArray) (f : Nat) : ∀ k, (mrow x f k).length ≤ k
  | 0 => Nat.le_refl _
  | k + 1 => by
    rw [mrow_succ, List.length_append]
    have := mrow_len x f k
    unfold mcell
    split <;> simp <;> omega
theorem mTo_len (x : ByteArray) : ∀ k, (mTo x k).length ≤ x.size * k
  | 0 => Nat.le_refl _
  | k + 1 => by
    rw [mTo_succ, List.length_append, Nat.mul_succ]
    have := mTo_len x k
    have := mrow_len x k (x.size - 1 - k)
    omega
theorem mem_mR {x : ByteArray} {f t q : Nat} : (f, t, q) ∈ mR x ↔ isRun x f t ∧ q = lpf x f (t - f) := by
  unfold mR mTo mrow mcell
  rw [List.mem_flatMap]
  constructor
  · rintro ⟨f', hf, h⟩
    rw [List.mem_flatMap] at h
    obtain ⟨i, hi, h⟩ := h
    by_cases hr : isRun x f' (f' + 2 + i)
    · rw [if_pos hr, List.mem_singleton] at h
      injection h with e1 e2
      injection e2 with e2 e3
      subst e1 e2
      exact ⟨hr, e3⟩
    · rw [if_neg hr] at h
      simp at h
  · rintro ⟨hr, rfl⟩
    have h1 := hr.1
    have h2 := hr.2.1
    refine ⟨f, List.mem_range.2 (by omega), ?_⟩
    rw [List.mem_flatMap]
    refine ⟨t - f - 2, List.mem_range.2 (by omega), ?_⟩
    rw [show f + 2 + (t - f - 2) = t by omega, if_pos hr]
    exact List.mem_singleton.2 rfl

/-- The stretch to the left, and to the right. -/
def strF (x : ByteArray) (q : Nat) : Nat → Nat
  | 0 => 0
  | k + 1 => if (bl x)[k]? = (bl x)[k + q]? then strF x q k else k + 1
theorem strF_zero (x : ByteArray) (q : Nat) : strF x q 0 = 0 := rfl
theorem strF_on {x : ByteArray} {q k : Nat} (h : (bl x)[k]? = (bl x)[k + q]?) : strF x q (k + 1) = strF x q k := if_pos h
theorem strF_off {x : ByteArray} {q k : Nat} (h : ¬ (bl x)[k]? = (bl x)[k + q]?) : strF x q (k + 1) = k + 1 := if_neg h
theorem strF_le (x : ByteArray) (q : Nat) : ∀ i, strF x q i ≤ i
  | 0 => Nat.le_refl _
  | k + 1 => by
    unfold strF
    split
    · have := strF_le x q k; omega
    · omega
theorem strF_same (x : ByteArray) (q : Nat) : ∀ i j, strF x q i ≤ j → j < i → (bl x)[j]? = (bl x)[j + q]?
  | 0, j, _, h => by omega
  | k + 1, j, h1, h2 => by
    unfold strF at h1
    split at h1
    · by_cases e : j = k
      · subst e; assumption
      · exact strF_same x q k j h1 (by omega)
    · omega
theorem strF_stop (x : ByteArray) (q : Nat) : ∀ i, strF x q i = 0 ∨ (bl x)[strF x q i - 1]? ≠ (bl x)[strF x q i - 1 + q]?
  | 0 => .inl rfl
  | k + 1 => by
    unfold strF
    split
    · exact strF_stop x q k
    · right
      rw [Nat.add_sub_cancel]
      assumption
theorem strF_of {x : ByteArray} {q f : Nat} (hs : f = 0 ∨ (bl x)[f - 1]? ≠ (bl x)[f - 1 + q]?) : ∀ i, f ≤ i → (∀ j, f ≤ j → j < i → (bl x)[j]? = (bl x)[j + q]?) → strF x q i = f
  | 0, h, _ => by rw [strF_zero]; omega
  | k + 1, h, hj => by
    by_cases e : f = k + 1
    · rcases hs with hs | hs
      · omega
      · rw [e, Nat.add_sub_cancel] at hs
        rw [strF_off hs, e]
    · rw [strF_on (hj k (by omega) (by omega))]
      exact strF_of hs k (by omega) (fun j h1 h2 => hj j h1 (by omega))
def strTF (x : ByteArray) (q : Nat) : Nat → Nat → Nat
  | 0, t => t
  | k + 1, t => if (bl x)[t]? = (bl x)[t - q]? then strTF x q k (t + 1) else t
def strT (x : ByteArray) (q t : Nat) : Nat := strTF x q (x.size - t) t
theorem strT_end {x : ByteArray} {q t : Nat} (h : x.size ≤ t) : strT x q t = t := by unfold strT; rw [show x.size - t = 0 by omega]; rfl
theorem strT_on {x : ByteArray} {q t : Nat} (h : t < x.size) (k : (bl x)[t]? = (bl x)[t - q]?) : strT x q t = strT x q (t + 1) := by
  unfold strT
  obtain ⟨m, hm⟩ : ∃ m, x.size - t = m + 1 := ⟨x.size - t - 1, by omega⟩
  rw [hm, show x.size - (t + 1) = m by omega]
  exact if_pos k
theorem strT_off {x : ByteArray} {q t : Nat} (k : ¬ (bl x)[t]? = (bl x)[t - q]?) : strT x q t = t := by
  unfold strT
  cases x.size - t with
  | zero => rfl
  | succ m => exact if_neg k
theorem strT_facts (x : ByteArray) (q : Nat) : ∀ m t, m = x.size - t → t ≤ x.size → t ≤ strT x q t ∧ strT x q t ≤ x.size ∧ (∀ j, t ≤ j → j < strT x q t → (bl x)[j]? = (bl x)[j - q]?) ∧ (strT x q t = x.size ∨ (bl x)[strT x q t]? ≠ (bl x)[strT x q t - q]?)
  | 0, t, hm, ht => by
    rw [strT_end (by omega)]
    exact ⟨Nat.le_refl _, ht, fun j h1 h2 => by omega, .inl (by omega)⟩
  | m + 1, t, hm, ht => by
    by_cases e : (bl x)[t]? = (bl x)[t - q]?
    · rw [strT_on (by omega) e]
      obtain ⟨h1, h2, h3, h4⟩ := strT_facts x q m (t + 1) (by omega) (by omega)
      refine ⟨by omega, h2, fun j j1 j2 => ?_, h4⟩
      by_cases ej : j = t
      · subst ej; exact e
      · exact h3 j (by omega) j2
    · rw [strT_off e]
      exact ⟨Nat.le_refl _, ht, fun j h1 h2 => by omega, .inr e⟩
theorem strT_of {x : ByteArray} {q T : Nat} (hT : T ≤ x.size) (hs : T = x.size ∨ (bl x)[T]? ≠ (bl x)[T - q]?) : ∀ m t, m = T - t → t ≤ T → (∀ j, t ≤ j → j < T → (bl x)[j]? = (bl x)[j - q]?) → strT x q t = T
  | 0, t, hm, ht, hj => by
    obtain rfl : t = T := by omega
    rcases hs with hs | hs
    · exact strT_end (by omega)
    · exact strT_off hs
  | m + 1, t, hm, ht, hj => by
    rw [strT_on (by omega) (hj t (Nat.le_refl _) (by omega))]
    exact strT_of hT hs m (t + 1) (by omega) (by omega) (fun j h1 h2 => hj j (by omega) h2)
def icell (x : ByteArray) (q i : Nat) : Tr := (strF x q i, strT x q (i + q), q)
def keepR (x : ByteArray) (q i : Nat) : Prop := 2 * q ≤ strT x q (i + q) - strF x q i ∧ lpf x (strF x q i) (strT x q (i + q) - strF x q i) = q
def keep (x : ByteArray) (q i : Nat) : Prop := (i = 0 ∨ icell x q i ≠ icell x q (i - 1)) ∧ keepR x q i
noncomputable instance (x : ByteArray) (q i : Nat) : Decidable (keep x q i) := Classical.propDecidable _
noncomputable def irow (x : ByteArray) (q k : Nat) : List Tr := (List.range k).flatMap fun i => if keep x q i then [icell x q i] else []
noncomputable def iTo (x : ByteArray) (k : Nat) : List Tr := (List.range k).flatMap fun p => irow x (p + 1) (x.size + 1 - 2 * (p + 1))
noncomputable def iR (x : ByteArray) : List Tr := iTo x (x.size / 2)
theorem irow_zero (x : ByteArray) (q : Nat) : irow x q 0 = [] := rfl
theorem irow_yes {x : ByteArray} {q k : Nat} (h : keep x q k) : irow x q (k + 1) = irow x q k ++ [icell x q k] := by simp [irow, List.range_succ, h]
theorem irow_no {x : ByteArray} {q k : Nat} (h : ¬ keep x q k) : irow x q (k + 1) = irow x q k := by simp [irow, List.range_succ, h]
theorem iTo_zero (x : ByteArray) : iTo x 0 = [] := rfl
theorem iTo_succ (x : ByteArray) (k : Nat) : iTo x (k + 1) = iTo x k ++ irow x (k + 1) (x.size + 1 - 2 * (k + 1)) := by simp [iTo, List.range_succ]
theorem irow_len (x : ByteArray) (q : Nat) : ∀ k, (irow x q k).length ≤ k
  | 0 => Nat.le_refl _
  | k + 1 => by
    have := irow_len x q k
    by_cases h : keep x q k
    · rw [irow_yes h, List.length_append, List.length_singleton]; omega
    · rw [irow_no h]; omega
theorem iTo_len (x : ByteArray) : ∀ k, (iTo x k).length ≤ (x.size + 1) * k
  | 0 => Nat.le_refl _
  | k + 1 => by
    rw [iTo_succ, List.length_append, Nat.mul_succ (x.size + 1) k]
    have := iTo_len x k
    have := irow_len x (k + 1) (x.size + 1 - 2 * (k + 1))
    omega
theorem icell_bd {x : ByteArray} {q i : Nat} (h : i + q ≤ x.size) : strF x q i ≤ i ∧ i + q ≤ strT x q (i + q) ∧ strT x q (i + q) ≤ x.size := by
  have := strF_le x q i
  obtain ⟨h1, h2, _⟩ := strT_facts x q _ (i + q) rfl h
  exact ⟨this, h1, h2⟩
theorem icell_pf {x : ByteArray} {q i : Nat} (h : i + q ≤ x.size) : pf x (strF x q i) (strT x q (i + q)) q := by
  intro j hj hq
  by_cases e : j < i
  · exact strF_same x q i j hj e
  · have := (strT_facts x q _ (i + q) rfl h).2.2.1 (j + q) (by omega) hq
    rw [Nat.add_sub_cancel] at this
    exact this.symm
theorem mem_iR {x : ByteArray} {f t q : Nat} : (f, t, q) ∈ iR x ↔ ∃ i, 1 ≤ q ∧ i + 2 * q ≤ x.size ∧ keep x q i ∧ icell x q i = (f, t, q) := by
  unfold iR iTo irow
  rw [List.mem_flatMap]
  constructor
  · rintro ⟨p, hp, h⟩
    rw [List.mem_flatMap] at h
    obtain ⟨i, hi, h⟩ := h
    rw [List.mem_range] at hp hi
    by_cases hk : keep x (p + 1) i
    · rw [if_pos hk, List.mem_singleton] at h
      have e : q = p + 1 := by unfold icell at h; injection h with _ h; injection h
      subst e
      exact ⟨i, by omega, by omega, hk, h.symm⟩
    · rw [if_neg hk] at h
      simp at h
  · rintro ⟨i, h1, h2, hk, he⟩
    refine ⟨q - 1, List.mem_range.2 (by omega), ?_⟩
    rw [List.mem_flatMap, show q - 1 + 1 = q by omega]
    refine ⟨i, List.mem_range.2 (by omega), ?_⟩
    rw [if_pos hk, List.mem_singleton, he]
theorem same_runs {x : ByteArray} (r : Tr) : r ∈ iR x ↔ r ∈ mR x := by
  obtain ⟨f, t, q⟩ := r
  rw [mem_iR, mem_mR]
  constructor
  · rintro ⟨i, q1, hi, ⟨_, hk1, hk2⟩, he⟩
    obtain ⟨b1, b2, b3⟩ := icell_bd (x := x) (q := q) (i := i) (by omega)
    have hF := strF_stop x q i
    have hT := (strT_facts x q _ (i + q) rfl (by omega)).2.2.2
    unfold icell at he
    injection he with e1 e2
    injection e2 with e2 _
    subst e1 e2
    refine ⟨⟨by omega, b3, by rw [hk2]; exact hk1, by rw [hk2]; exact hF, by rw [hk2]; exact hT⟩, hk2.symm⟩
  · rintro ⟨⟨h1, h2, h3, h4, h5⟩, e⟩
    rw [← e] at h3 h4 h5
    have hm : 0 < t - f := by omega
    obtain ⟨q0, _⟩ := lpf_bd (x := x) (i := f) (m := t - f) hm (by omega)
    rw [← e] at q0
    have hne : bl (x.extract f (f + (t - f))) ≠ [] := by
      intro hz
      have := congrArg List.length hz
      rw [bl_extract, List.length_take, List.length_drop, bl_len] at this
      simp at this
      omega
    have hper : Per (bl (x.extract f (f + (t - f)))) q := by
      rw [e]
      exact (lp_ok hne).2.2.1
    rw [pf_iff (by omega), show f + (t - f) = t by omega] at hper
    have eF : strF x q f = f := strF_of h4 f (Nat.le_refl _) (fun j a b => by omega)
    have eT : strT x q (f + q) = t := strT_of h2 h5 _ (f + q) rfl (by omega) (fun j a b => by
      have := hper (j - q) (by omega) (by omega)
      rw [show j - q + q = j by omega] at this
      exact this.symm)
    refine ⟨f, q0, by omega, ⟨?_, ?_⟩, ?_⟩
    · by_cases hf : f = 0
      · exact .inl hf
      · right
        intro hc
        unfold icell at hc
        injection hc with hc _
        have := strF_le x q (f - 1)
        omega
    · unfold keepR
      rw [eF, eT]
      exact ⟨by omega, e.symm⟩
    · unfold icell
      rw [eF, eT]
/-- The kept stretches are different. -/
theorem iR_nodup (x : ByteArray) : (iR x).Pairwise (· ≠ ·) := by
  unfold iR iTo irow
  rw [List.pairwise_flatMap]
  constructor
  · intro p hp
    rw [List.mem_range] at hp
    rw [List.pairwise_flatMap]
    constructor
    · intro i hi
      split
      · exact List.pairwise_singleton _ _
      · exact List.Pairwise.nil
    · refine List.Pairwise.imp_of_mem ?_ List.pairwise_lt_range
      intro i j hi hj hij a ha b hb
      rw [List.mem_range] at hi hj
      by_cases k1 : keep x (p + 1) i
      · rw [if_pos k1, List.mem_singleton] at ha
        by_cases k2 : keep x (p + 1) j
        · rw [if_pos k2, List.mem_singleton] at hb
          subst ha hb
          intro e
          rcases k2.1 with h0 | hne
          · omega
          · apply hne
            rw [← e]
            -- the stretch at j - 1 is that at i, for it is that at j
            obtain ⟨b1, b2, b3⟩ := icell_bd (x := x) (q := p + 1) (i := i) (by omega)
            obtain ⟨c1, c2, c3⟩ := icell_bd (x := x) (q := p + 1) (i := j) (by omega)
            have hp2 := icell_pf (x := x) (q := p + 1) (i := i) (by omega)
            have hF := strF_stop x (p + 1) i
            have hT := (strT_facts x (p + 1) _ (i + (p + 1)) rfl (by omega)).2.2.2
            unfold icell at e ⊢
            injection e with e1 e2
            injection e2 with e2 _
            have eF : strF x (p + 1) (j - 1) = strF x (p + 1) i := strF_of hF _ (by omega) (fun k a b => hp2 k a (by omega))
            have eT : strT x (p + 1) (j - 1 + (p + 1)) = strT x (p + 1) (i + (p + 1)) := strT_of b3 hT _ _ rfl (by omega) (fun k a b => by
              have := hp2 (k - (p + 1)) (by omega) (by omega)
              rw [show k - (p + 1) + (p + 1) = k by omega] at this
              exact this.symm)
            rw [eF, eT]
        · rw [if_neg k2] at hb; simp at hb
      · rw [if_neg k1] at ha; simp at ha
  · refine List.Pairwise.imp_of_mem ?_ List.pairwise_lt_range
    intro p p' hp hp' hlt a ha b hb e
    rw [List.mem_flatMap] at ha hb
    obtain ⟨i, _, ha⟩ := ha
    obtain ⟨j, _, hb⟩ := hb
    by_cases k1 : keep x (p + 1) i
    · rw [if_pos k1, List.mem_singleton] at ha
      by_cases k2 : keep x (p' + 1) j
      · rw [if_pos k2, List.mem_singleton] at hb
        subst ha hb
        unfold icell at e
        injection e with _ e
        injection e with _ e
        omega
      · rw [if_neg k2] at hb; simp at hb
    · rw [if_neg k1] at ha; simp at ha

/-- How runs are compared. -/
def cmpN (a b : Nat) : Int := if a < b then -1 else if b < a then 1 else 0
def cmpT (a b : Tr) : Int := if cmpN a.1 b.1 ≠ 0 then cmpN a.1 b.1 else if cmpN a.2.1 b.2.1 ≠ 0 then cmpN a.2.1 b.2.1 else cmpN a.2.2 b.2.2
def ltT (a b : Tr) : Prop := a.1 < b.1 ∨ (a.1 = b.1 ∧ (a.2.1 < b.2.1 ∨ (a.2.1 = b.2.1 ∧ a.2.2 < b.2.2)))
theorem cmpT_lt (a b : Tr) : cmpT a b < 0 ↔ ltT a b := by
  unfold cmpT cmpN ltT
  repeat' split
  all_goals omega
theorem ltT_irrefl (a : Tr) : ¬ ltT a a := by unfold ltT; omega
theorem ltT_trans {a b c : Tr} (h : ltT a b) (k : ltT b c) : ltT a c := by unfold ltT at *; omega
theorem ltT_total {a b : Tr} (h : a ≠ b) : ltT a b ∨ ltT b a := by
  unfold ltT
  have : ¬ (a.1 = b.1 ∧ a.2.1 = b.2.1 ∧ a.2.2 = b.2.2) := fun ⟨h1, h2, h3⟩ => h (Prod.ext h1 (Prod.ext h2 h3))
  omega
theorem mR_sorted (x : ByteArray) : (mR x).Pairwise ltT := by
  unfold mR mTo mrow mcell
  rw [List.pairwise_flatMap]
  constructor
  · intro f hf
    rw [List.pairwise_flatMap]
    constructor
    · intro i hi
      split
      · exact List.pairwise_singleton _ _
      · exact List.Pairwise.nil
    · refine List.Pairwise.imp ?_ List.pairwise_lt_range
      intro i j hij a ha b hb
      split at ha
      · split at hb
        · rw [List.mem_singleton] at ha hb
          subst ha hb
          right
          exact ⟨rfl, .inl (show f + 2 + i < f + 2 + j by omega)⟩
        · simp at hb
      · simp at ha
  · refine List.Pairwise.imp ?_ List.pairwise_lt_range
    intro f g hfg a ha b hb
    rw [List.mem_flatMap] at ha hb
    obtain ⟨i, _, ha⟩ := ha
    obtain ⟨j, _, hb⟩ := hb
    split at ha
    · split at hb
      · rw [List.mem_singleton] at ha hb
        subst ha hb
        exact .inl hfg
      · simp at hb
    · simp at ha
/-- Sorted lists with the same members are the same. -/
theorem sorted_uniq : ∀ {l m : List Tr}, l.Pairwise (· ≠ ·) → l.Pairwise (fun a b => ¬ ltT b a) → m.Pairwise ltT → (∀ r, r ∈ l ↔ r ∈ m) → l = m
  | [], [], _, _, _, _ => rfl
  | [], b :: m, _, _, _, h => by have := (h b).2 (List.mem_cons_self ..); simp at this
  | a :: l, [], _, _, _, h => by have := (h a).1 (List.mem_cons_self ..); simp at this
  | a :: l, b :: m, h1, h2, h3, h => by
    rw [List.pairwise_cons] at h1 h2 h3
    have e : a = b := by
      apply Classical.byContradiction
      intro hne
      have ha : a ∈ m := by
        rcases List.mem_cons.1 ((h a).1 (List.mem_cons_self ..)) with e | e
        · exact absurd e hne
        · exact e
      have hb : b ∈ l := by
        rcases List.mem_cons.1 ((h b).2 (List.mem_cons_self ..)) with e | e
        · exact absurd e.symm hne
        · exact e
      exact h2.1 b hb (h3.1 a ha)
    subst e
    congr 1
    refine sorted_uniq h1.2 h2.2 h3.2 fun r => ?_
    constructor
    · intro hr
      rcases List.mem_cons.1 ((h r).1 (List.mem_cons_of_mem _ hr)) with e | e
      · subst e; exact absurd rfl (h1.1 r hr)
      · exact e
    · intro hr
      rcases List.mem_cons.1 ((h r).2 (List.mem_cons_of_mem _ hr)) with e | e
      · subst e; exact absurd (h3.1 r hr) (ltT_irrefl r)
      · exact e
theorem runs_sorted {x : ByteArray} {l : List Tr} (hp : l.Perm (iR x)) (hs : l.Pairwise (fun a b => ¬ ltT b a)) : l = mR x := by
  refine sorted_uniq ?_ hs (mR_sorted x) fun r => ?_
  · exact (hp.pairwise_iff (fun {a b} h => h.symm)).2 (iR_nodup x)
  · rw [hp.mem_iff, same_runs]
noncomputable def runsR (x : ByteArray) : List Tr × Int := if ¬ IsW x then ([], 1) else (mR x, 0)
theorem runsR_bad {x : ByteArray} (h : ¬ IsW x) : runsR x = ([], 1) := if_pos h
theorem runsR_ok {x : ByteArray} (h : IsW x) : runsR x = (mR x, 0) := if_neg (not_not_intro h)
theorem mR_len {x : ByteArray} (h : x.size ≤ 60) : (mR x).length ≤ 3600 := by
  have := mTo_len x x.size
  have : x.size * x.size ≤ 60 * 60 := Nat.mul_le_mul h h
  unfold mR
  omega

end Go.Proofs.YtkemdiefoohdjabGreat

/-! ### FnRepPlain -/
namespace Go.Proofs.YtkemdiefoohdjabGreat
set_option linter.unusedVariables false
set_option linter.unusedSimpArgs false
open Go.RowKit

/-- A square makes a run. -/
theorem run_of_square {x : ByteArray} (q : Nat) : ∀ i, 0 < q → RepT (bl x) i q q → (∀ r, 0 < r → r < q → ∀ j, ¬ RepT (bl x) j r r) → mR x ≠ [] := by
  intro i h0 hr hmin
  obtain ⟨hl, hd⟩ := hr
  rw [bl_len] at hl
  obtain ⟨b1, b2, b3⟩ := icell_bd (x := x) (q := q) (i := i) (by omega)
  have hF := strF_stop x q i
  obtain ⟨_, _, _, hT⟩ := strT_facts x q _ (i + q) rfl (by omega)
  have hpf := icell_pf (x := x) (q := q) (i := i) (by omega)
  have hT2 : i + 2 * q ≤ strT x q (i + q) := by
    rcases hT with hT | hT
    · omega
    · refine Nat.le_of_not_lt fun c => hT ?_
      have := hd (strT x q (i + q) - q - i) (by omega)
      rw [show i + (strT x q (i + q) - q - i) = strT x q (i + q) - q by omega, show strT x q (i + q) - q + q = strT x q (i + q) by omega] at this
      exact this.symm
  generalize strF x q i = F at *
  generalize strT x q (i + q) = T at *
  have hm : 0 < T - F := by omega
  obtain ⟨p0, p1⟩ := lpf_bd (x := x) (i := F) (m := T - F) hm (by omega)
  have hne : bl (x.extract F (F + (T - F))) ≠ [] := by
    intro hz
    have := congrArg List.length hz
    rw [bl_extract, List.length_take, List.length_drop, bl_len] at this
    simp at this
    omega
  obtain ⟨l1, l2, l3, l4⟩ := lp_ok hne
  have hq : Per (bl (x.extract F (F + (T - F)))) q := by
    rw [pf_iff (by omega), show F + (T - F) = T by omega]
    exact hpf
  have hle : lpf x F (T - F) ≤ q := Nat.le_of_not_lt fun c => l4 q h0 c hq
  have heq : lpf x F (T - F) = q := by
    refine Nat.le_antisymm hle (Nat.le_of_not_lt fun c => ?_)
    have hp : Per (bl (x.extract F (F + (T - F)))) (lpf x F (T - F)) := l3
    rw [pf_iff (by omega), show F + (T - F) = T by omega] at hp
    refine hmin (lpf x F (T - F)) p0 c F ⟨by rw [bl_len]; omega, fun d hd' => ?_⟩
    exact hp (F + d) (by omega) (by omega)
  have hrun : isRun x F T := ⟨by omega, b3, by rw [heq]; omega, by rw [heq]; exact hF, by rw [heq]; exact hT⟩
  intro e
  have : (F, T, lpf x F (T - F)) ∈ mR x := mem_mR.2 ⟨hrun, rfl⟩
  rw [e] at this
  cases this
theorem run_of_squares {x : ByteArray} : ∀ (n q i : Nat), q ≤ n → 0 < q → RepT (bl x) i q q → mR x ≠ []
  | 0, q, i, h, h0, _ => by omega
  | n + 1, q, i, h, h0, hr => by
    by_cases hs : ∃ r j, 0 < r ∧ r < q ∧ RepT (bl x) j r r
    · obtain ⟨r, j, r0, rq, hj⟩ := hs
      exact run_of_squares n r j (by omega) r0 hj
    · exact run_of_square q i h0 hr (fun r r0 rq j hj => hs ⟨r, j, r0, rq, hj⟩)
/-- What a run is. -/
theorem run_facts {x : ByteArray} {f t p : Nat} (h : (f, t, p) ∈ mR x) : f + 2 ≤ t ∧ t ≤ x.size ∧ 0 < p ∧ 2 * p ≤ t - f ∧ p = lp (bl (x.extract f t)) ∧ RepT (bl x) f p p := by
  obtain ⟨⟨h1, h2, h3, h4, h5⟩, e⟩ := mem_mR.1 h
  obtain ⟨p0, p1⟩ := lpf_bd (x := x) (i := f) (m := t - f) (by omega) (by omega)
  have hne : bl (x.extract f (f + (t - f))) ≠ [] := by
    intro hz
    have := congrArg List.length hz
    rw [bl_extract, List.length_take, List.length_drop, bl_len] at this
    simp at this
    omega
  obtain ⟨l1, l2, l3, l4⟩ := lp_ok hne
  have hp : Per (bl (x.extract f (f + (t - f)))) (lpf x f (t - f)) := l3
  rw [pf_iff (by omega), show f + (t - f) = t by omega, ← e] at hp
  rw [← e] at h3 p0
  refine ⟨h1, h2, p0, h3, ?_, by rw [bl_len]; omega, fun d hd => hp (f + d) (by omega) (by omega)⟩
  rw [e]
  unfold lpf
  rw [show f + (t - f) = t by omega]
theorem runs_iff (x : ByteArray) : (fs (bl x)).2 = 0 ↔ mR x = [] := by
  constructor
  · intro h
    cases hm : mR x with
    | nil => rfl
    | cons r l =>
      obtain ⟨f, t, p⟩ := r
      obtain ⟨_, _, p0, _, _, hr⟩ := run_facts (show (f, t, p) ∈ mR x by rw [hm]; exact List.mem_cons_self ..)
      exact absurd hr ((fs_iff (bl x)).1 h f p p0)
  · intro h
    rw [fs_iff]
    intro i q q0 hr
    exact run_of_squares q q i (Nat.le_refl _) q0 hr h
theorem eP20 (q : Nat) : eP 2 0 q = q := by unfold eP; omega
theorem squares_iff (l : List UInt8) : (fs l).2 = 0 ↔ reps l (eP 2 0) = [] := by
  rw [fs_iff]
  constructor
  · intro h
    cases hm : reps l (eP 2 0) with
    | nil => rfl
    | cons r m =>
      have := mem_reps.1 (show r ∈ reps l (eP 2 0) by rw [hm]; exact List.mem_cons_self ..)
      rw [eP20] at this
      exact absurd this.2 (h _ _ (by omega))
  · intro h i q q0 hr
    have : (i, q) ∈ reps l (eP 2 0) := mem_reps.2 ⟨q0, by rw [eP20]; exact hr⟩
    rw [h] at this
    cases this
/-- The first square ends first. -/
theorem fsF_end {l : List UInt8} : ∀ (f e : Nat), (fsF l e f).2 ≠ 0 → ∃ k, e ≤ k ∧ k < e + f ∧ fsF l e f = (k - 2 * sa l k, sa l k) ∧ sa l k ≠ 0 ∧ ∀ j, e ≤ j → j < k → sa l j = 0
  | 0, e, h => absurd rfl h
  | f + 1, e, h => by
    by_cases hs : sa l e = 0
    · rw [fsF_miss hs] at h ⊢
      obtain ⟨k, h1, h2, h3, h4, h5⟩ := fsF_end f (e + 1) h
      refine ⟨k, by omega, by omega, h3, h4, fun j j1 j2 => ?_⟩
      by_cases c : j = e
      · rw [c]; exact hs
      · exact h5 j (by omega) j2
    · exact ⟨e, Nat.le_refl _, by omega, fsF_hit hs, hs, fun j j1 j2 => by omega⟩
theorem fs_first {l : List UInt8} (h : (fs l).2 ≠ 0) {i q : Nat} (q0 : 0 < q) (hr : RepT l i q q) : (fs l).1 + 2 * (fs l).2 ≤ i + 2 * q ∧ i + 2 * q ≤ l.length ∧ 0 < (fs l).2 := by
  obtain ⟨k, h1, h2, h3, h4, h5⟩ := fsF_end (l := l) (l.length + 1) 0 h
  obtain ⟨s1, s2, s3⟩ := sa_some h4
  have hl := hr.1
  have e : fs l = (k - 2 * sa l k, sa l k) := h3
  rw [e]
  refine ⟨?_, by omega, s1⟩
  show k - 2 * sa l k + 2 * sa l k ≤ _
  rw [Nat.sub_add_cancel s2]
  refine Nat.le_of_not_lt fun c => ?_
  have := sa_none (h5 (i + 2 * q) (Nat.zero_le _) c) q q0 (by omega)
  rw [show i + 2 * q - 2 * q = i by omega] at this
  exact this hr
/-- The halves of a square. -/
theorem halves {x : ByteArray} {i q : Nat} (hr : RepT (bl x) i q q) : x.extract i (i + q) = x.extract (i + q) (i + q + q) := by
  obtain ⟨hl, hd⟩ := hr
  rw [bl_len] at hl
  apply bl_inj
  rw [bl_extract, bl_extract, show i + q - i = q by omega, show i + q + q - (i + q) = q by omega]
  apply List.ext_getElem?
  intro d
  by_cases h : d < q
  · rw [List.getElem?_take_of_lt h, List.getElem?_take_of_lt h, List.getElem?_drop, List.getElem?_drop, hd d h, show i + d + q = i + q + d by omega]
  · rw [List.getElem?_take_eq_none (by omega), List.getElem?_take_eq_none (by omega)]
/-- The first of the periods. -/
theorem persR_first {l : List UInt8} (h : l ≠ []) : ∃ t, persR l l.length = (lp l : Int) :: t := by
  obtain ⟨l1, l2, l3, l4⟩ := lp_ok h
  have hz : ∀ k, k < lp l → persR l k = [] := by
    intro k
    induction k with
    | zero => intro _; rfl
    | succ k ih =>
      intro hk
      rw [persR_miss l k (by
        cases hp : perT l (k + 1) with
        | false => rfl
        | true => exact absurd ((perT_iff l (k + 1)).1 hp) (l4 (k + 1) (by omega) hk)), ih (by omega)]
  obtain ⟨k, hk⟩ : ∃ k, lp l = k + 1 := ⟨lp l - 1, by omega⟩
  have h1 := persR_hit l k ((perT_iff l (k + 1)).2 (by rw [← hk]; exact l3))
  rw [hz k (by omega), List.nil_append] at h1
  obtain ⟨t, ht⟩ := persR_pre l (k + 1) (l.length - (k + 1))
  rw [show k + 1 + (l.length - (k + 1)) = l.length by omega, h1] at ht
  exact ⟨t, by rw [ht, hk]; rfl⟩

end Go.Proofs.YtkemdiefoohdjabGreat

/-! ### Overlaps -/
namespace Go.Proofs.YtkemdiefoohdjabGreat
set_option linter.unusedVariables false
set_option linter.unusedSimpArgs false
open Go.RowKit

def ovT (l : List UInt8) (p : Nat × Nat) : Bool := decide (p.1 + 2 * p.2 < l.length) && decide (l[p.1 + 2 * p.2]? = l[p.1]?)
theorem ov_rep (l : List UInt8) (i r : Nat) (h : 1 ≤ r) : repB l i r (eP 2 1 r) = (repB l i r (eP 2 0 r) && ovT l (i, r)) := by
  have e1 : eP 2 1 r = r + 1 := by unfold eP; omega
  have e0 : eP 2 0 r = r := by unfold eP; omega
  rw [e1, e0, Bool.eq_iff_iff, Bool.and_eq_true, repB_iff, repB_iff]
  unfold ovT
  rw [Bool.and_eq_true, decide_eq_true_iff, decide_eq_true_iff]
  constructor
  · intro c
    have c1 := c.1
    refine ⟨⟨by omega, fun d hd => c.2 d (by omega)⟩, by show i + 2 * r < l.length; omega, ?_⟩
    have h1 := c.2 r (by omega)
    have h2 := c.2 0 (by omega)
    simp only [Nat.add_zero] at h2
    show l[i + 2 * r]? = l[i]?
    rw [h2, h1]
    congr 1
    omega
  · rintro ⟨c, c3, c4⟩
    have c3' : i + 2 * r < l.length := c3
    have c4' : l[i + 2 * r]? = l[i]? := c4
    refine ⟨by omega, fun d hd => ?_⟩
    by_cases e : d = r
    · subst e
      have h2 := c.2 0 (by omega)
      simp only [Nat.add_zero] at h2
      rw [← h2, ← c4']
      congr 1
      omega
    · exact c.2 d (by omega)
theorem overlaps_eq (l : List UInt8) : reps l (eP 2 1) = (reps l (eP 2 0)).filter (ovT l) := reps_filter fun i r h => ov_rep l i r h
theorem take_filter_hit {α : Type} (L : List α) (t : α → Bool) (k : Nat) (h : k < L.length) (ht : t (L[k]'h) = true) : (L.take (k + 1)).filter t = (L.take k).filter t ++ [L[k]'h] := by
  rw [List.take_succ_eq_append_getElem h, List.filter_append]
  simp [ht]
theorem take_filter_miss {α : Type} (L : List α) (t : α → Bool) (k : Nat) (h : k < L.length) (ht : t (L[k]'h) = false) : (L.take (k + 1)).filter t = (L.take k).filter t := by
  rw [List.take_succ_eq_append_getElem h, List.filter_append]
  simp [ht]

set_option maxRecDepth 100000 in
set_option maxHeartbeats 4000000 in
theorem l03Overlaps_any (x : ByteArray) (w : World) (hx : x.size ≤ 60) :
    Calls Tryz.prog 37 #[.string x] w fun e w' => ∃ v, e = .returned v ∧ OwnR w' w.heap.size v (rowsN (reps (bl x) (eP 2 1))) ∧ Below w.heap.size w w' := by
  obtain ⟨i0, hi, hz0, hz1, hz2⟩ := info_parts infoSI
  have hmem : ∀ p ∈ reps (bl x) (eP 2 0), 1 ≤ p.2 ∧ p.1 + 2 * p.2 ≤ x.size := fun p hp => by
    have h1 := mem_reps.1 hp
    have h2 := h1.2.1
    have e0 : eP 2 0 p.2 = p.2 := by unfold eP; omega
    rw [e0, bl_len] at h2
    exact ⟨h1.1, by omega⟩
  have hlen := reps_short (l := bl x) (eP 2 0) hx
  have CP := Lib.hid fun w => l03Powers_any x 2 w hx (by omega) (by omega)
  rw [overlaps_eq]
  generalize reps (bl x) (eP 2 0) = L at *
  have HM := Lib.hid hmem
  clear hmem
  go_enter Tryz.func37, Tryz.ntmps37
  go_wp2_with fail
  refine (CP.out _).mono ?_
  rintro e w1 ⟨v0, rfl, o1, b1⟩
  clear CP
  by_cases h0 : L = []
  · subst h0
    obtain ⟨a1, c1, rfl⟩ := o1.empty
    go_wp2_with fail
    refine wp_loop_rounds 1 ?_
    rw [rounds_succ]
    go_wp2
    go_ret
    exact ⟨_, rfl, OwnR.lit0 w1 b1.size, b1.alloc b1.size _⟩
  have hn : 0 < L.length := List.length_pos_iff.2 h0
  obtain ⟨g, cp, us, rfl, hBg, hg, hc, hm, cell, rows, _⟩ := o1.row (by rw [rowsN_len]; exact hn)
  rw [rowsN_len] at hc hm cell ⊢
  have C := Lib.hid cell
  have RW := Lib.hid rows
  have hb1 := b1.size
  clear cell rows o1 h0
  go_wp2_with fail
  go_loopg [4, 5] L.length (fun gg s4 s5 wr => ∃ k : Nat, k + gg = L.length ∧ s5 = .int .i64 (k : Int) ∧ OwnR wr w1.heap.size s4 (rowsN ((L.take k).filter (ovT (bl x)))) ∧ Below w1.heap.size w1 wr)
  case atStart => exact ⟨0, by omega, rfl, OwnR.lit0 w1 (Nat.le_refl _), Below.new _ _⟩
  case round =>
    obtain ⟨k, hk, rfl, hown, hB1⟩ := hrel
    by_cases hp : k < L.length
    · obtain ⟨gg, rfl⟩ : ∃ gg, gk = gg + 1 := ⟨gk - 1, by omega⟩
      have k1 : wr.cell? ⟨g, k, none⟩ = some (us.getD k undef) := by rw [(bcell hB1).1 g k hg]; exact C.out k hp
      have hrl := RW.out.1
      rw [rowsN_len] at hrl
      have oI := (RW.out.below hB1).2.1 k (by omega)
      have hrow : (rowsN L).getD k [] = [((L[k]'hp).1 : Int), ((L[k]'hp).2 : Int)] := by rw [getD_at _ _ (by rw [rowsN_len]; exact hp)]; simp [rowsN]
      rw [hrow] at oI
      obtain ⟨gr, cr, hur, _, hgr, hcr, _, cellr, _⟩ := oI.row (by simp)
      have m1 := (HM.out _ (List.getElem_mem hp)).1
      have m2 := (HM.out _ (List.getElem_mem hp)).2
      have HH := Lib.hid (take_filter_hit L (ovT (bl x)) k hp)
      have HI := Lib.hid (take_filter_miss L (ovT (bl x)) k hp)
      have HT : Hid (ovT (bl x) (L[k]'hp) = (decide ((L[k]'hp).1 + 2 * (L[k]'hp).2 < x.size) && decide ((bl x)[(L[k]'hp).1 + 2 * (L[k]'hp).2]? = (bl x)[(L[k]'hp).1]?))) := Lib.hid rfl
      have kr0 : wr.cell? ⟨gr, 0, none⟩ = some (.int .i64 ((L[k]'hp).1 : Int)) := cellr 0 (by simp)
      have kr1 : wr.cell? ⟨gr, 1, none⟩ = some (.int .i64 ((L[k]'hp).2 : Int)) := cellr 1 (by simp)
      rw [hur] at k1
      have hcr2 : 2 ≤ cr := hcr
      clear cellr hcr hrl hrow hur oI
      generalize L[k]'hp = p at *
      obtain ⟨i, q⟩ := p
      have hic : k < cp := by omega
      have m2' : i + 2 * q ≤ x.size := m2
      have m1' : 1 ≤ q := m1
      clear m1 m2
      dsimp only at kr0 kr1
      have k1' : wr.cell? ⟨g, k, none⟩ = some (.slice (some ⟨gr, 0, none⟩) 2 cr) := k1
      clear k1
      by_cases hc1 : i + 2 * q < x.size
      · have z1 : i < x.size := by omega
        have hle := letter_eq x (i + 2 * q) i hc1 z1
        have hix1 : ∀ W, (Instr.index 9 (.string x) (.int .i64 ((i : Int) + 2 * (q : Int)))).run Tryz.prog W = .ok (.int .u8 ((x[i + 2 * q]'hc1).toNat : Int)) W := fun W => index_at x _ (i + 2 * q) hc1 (by omega) W
        have hix2 : ∀ W, (Instr.index 9 (.string x) (.int .i64 (i : Int))).run Tryz.prog W = .ok (.int .u8 ((x[i]'z1).toNat : Int)) W := fun W => index_at x _ i z1 rfl W
        generalize (x[i + 2 * q]'hc1).toNat = a at hle hix1
        generalize (x[i]'z1).toNat = b at hle hix2
        have hci : (i : Int) + 2 * (q : Int) < (x.size : Int) := by omega
        by_cases he : a = b
        · have hee : (a : Int) = (b : Int) := by omega
          have HN : Hid ((L.take (k + 1)).filter (ovT (bl x)) = (L.take k).filter (ovT (bl x)) ++ [(i, q)]) := Lib.hid (HH.out (by rw [HT.out, decide_eq_true hc1, decide_eq_true (hle.1 he)]; rfl))
          have hfl : ((L.take k).filter (ovT (bl x))).length ≤ k := Nat.le_trans (List.length_filter_le _ _) (by rw [List.length_take]; omega)
          clear he hle HH HI HT
          go_wp2
          go_quiet (fail)
          have hownD : OwnR (wr.drewN nq) w1.heap.size u4 (rowsN ((L.take k).filter (ovT (bl x)))) := hown
          have hB1D := hB1.drewN nq
          clear hown hB1 k1' kr0 kr1
          generalize wr.drewN nq = wq at hownD hB1D ⊢
          go_wp2
          go_quiet (fail)
          have hown : OwnR (wq.drewN nq) w1.heap.size u4 (rowsN ((L.take k).filter (ovT (bl x)))) := hownD
          have hB1 := hB1D.drewN nq
          clear hownD hB1D
          generalize wq.drewN nq = w2 at hown hB1 ⊢
          obtain ⟨us2, own, rows⟩ := hown
          have hul := rows.1
          rw [rowsN_len] at hul
          have hu36 : us2.length < 3600 := by omega
          have HUL := Lib.hid hul
          have hbz2 := hB1.size
          have ownA := World.ownsRow.alloc (World.ownsRow.alloc own (.cells #[.int .i64 (i : Int), .int .i64 (q : Int)] 2)) (.cells #[.slice (some ⟨w2.heap.size, 0, none⟩) 2 2] 42)
          clear hul hfl
          go_wp2_with (at_builtin; refine wpList_append_own _ rfl _ _ 28 rfl w1.heap.size 42 i0 (.slice none 0 0) 1 24 Tryz.underlying28 hi hz0 hz1 hz2 rfl (by decide) _ _ _ rfl ownA ⟨_, 0, none⟩ 1 1 [.slice (some ⟨w2.heap.size, 0, none⟩) 2 2] rfl rfl (cell_new1 _ _ _ _) (by intro u hu; simp at hu; subst hu; rfl) (by unfold maxLen; omega) (by omega) (by simp; omega) ?_; intro v' w3 hown' hgrow _)
          have hO := rows_grown own rows hbz2 hown' hgrow
          rw [← rowsN_snoc _ (i, q), ← HN.out] at hO
          have HO := Lib.hid hO
          have hB3 : Below w1.heap.size w1 w3 := ((hB1.alloc hbz2 _).alloc (by simp; omega) _).grown hgrow (by simp; omega) (fun q hq => (own.lt q hq).1)
          clear hO hown' hgrow own rows
          go_roundg gg
          case measure => omega
          case rel => exact ⟨k + 1, by omega, by go_num, HO.out, hB3⟩
        · have hee : ¬ (a : Int) = (b : Int) := by omega
          have HN : Hid ((L.take (k + 1)).filter (ovT (bl x)) = (L.take k).filter (ovT (bl x))) := Lib.hid (HI.out (by rw [HT.out, decide_eq_false (fun h => he (hle.2 h)), Bool.and_false]))
          clear he hle HH HI HT
          go_wp2
          go_quiet (fail)
          have hownD : OwnR (wr.drewN nq) w1.heap.size u4 (rowsN ((L.take k).filter (ovT (bl x)))) := hown
          have hB1D := hB1.drewN nq
          clear hown hB1 k1' kr0 kr1
          generalize wr.drewN nq = wq at hownD hB1D ⊢
          go_wp2
          go_quiet (fail)
          have hown : OwnR (wq.drewN nq) w1.heap.size u4 (rowsN ((L.take k).filter (ovT (bl x)))) := hownD
          have hB1 := hB1D.drewN nq
          clear hownD hB1D
          generalize wq.drewN nq = w2 at hown hB1 ⊢
          go_wp2
          go_roundg gg
          case measure => omega
          case rel => exact ⟨k + 1, by omega, by go_num, by rw [HN.out]; exact hown, hB1⟩
      · have hci : ¬ (i : Int) + 2 * (q : Int) < (x.size : Int) := by omega
        have HN : Hid ((L.take (k + 1)).filter (ovT (bl x)) = (L.take k).filter (ovT (bl x))) := Lib.hid (HI.out (by rw [HT.out, decide_eq_false hc1, Bool.false_and]))
        have hcd : decide ((i : Int) + 2 * (q : Int) < (x.size : Int)) = false := decide_eq_false hci
        clear HH HI HT hc1
        go_wp2
        go_quiet (fail)
        have hownD : OwnR (wr.drewN nq) w1.heap.size u4 (rowsN ((L.take k).filter (ovT (bl x)))) := hown
        have hB1D := hB1.drewN nq
        clear hown hB1 k1' kr0 kr1
        generalize wr.drewN nq = wq at hownD hB1D ⊢
        go_wp2
        go_quiet (fail)
        have hown : OwnR (wq.drewN nq) w1.heap.size u4 (rowsN ((L.take k).filter (ovT (bl x)))) := hownD
        have hB1 := hB1D.drewN nq
        clear hownD hB1D
        generalize wq.drewN nq = w2 at hown hB1 ⊢
        go_wp2
        go_roundg gg
        case measure => omega
        case rel => exact ⟨k + 1, by omega, by go_num, by rw [HN.out]; exact hown, hB1⟩
    · obtain rfl : gk = 0 := by omega
      obtain rfl : k = L.length := by omega
      have HO := Lib.hid hown
      clear hown
      go_wp2
      go_ret
      refine ⟨_, rfl, ?_, b1.then hB1⟩
      have h2 := HO.out
      rw [List.take_length] at h2
      exact h2.base b1.size

set_option maxRecDepth 100000 in
theorem spec_OverlapsIn (x : ByteArray) (w : World) (sx : x.size ≤ maxLen) :
    Calls Tryz.prog 11 #[.string x] w (RetR (overlapsR x).1 (overlapsR x).2 w) := by
  by_cases h : IsW x
  · have h1 := h.size
    rw [overlapsR_ok h]
    have H := Lib.hid h
    clear h
    go_enter Tryz.func11, Tryz.ntmps11
    go_wp2_with fail
    refine (l01Is_yes x _ H.out).mono ?_
    rintro e w1 ⟨rfl, b1⟩
    go_wp2_with fail
    refine (l03Overlaps_any x _ h1).mono ?_
    rintro e w2 ⟨v, rfl, o2, b2⟩
    go_wp2_with fail
    go_ret2
    exact ⟨_, rfl, o2.base b1.size, b1.then b2⟩
  · rw [overlapsR_bad h]
    have H := Lib.hid h
    clear h
    go_enter Tryz.func11, Tryz.ntmps11
    go_wp2_with fail
    refine (l01Is_no x _ sx H.out).mono ?_
    rintro e w1 ⟨rfl, b1⟩
    go_wp2_with fail
    go_ret2
    exact ⟨_, rfl, OwnR.nil _ _, b1⟩

/-- Whether a word is overlap free. -/
def iofR (x : ByteArray) : Bool × Int := if ¬ IsW x then (false, 1) else (decide (reps (bl x) (eP 2 1) = []), 0)
theorem iofR_bad {x : ByteArray} (h : ¬ IsW x) : iofR x = (false, 1) := if_pos h
theorem iofR_ok {x : ByteArray} (h : IsW x) : iofR x = (decide (reps (bl x) (eP 2 1) = []), 0) := by unfold iofR; rw [if_neg (not_not_intro h)]
theorem rowsN_zero (L : List (Nat × Nat)) : (rowsN L).length = 0 ↔ L = [] := by rw [rowsN_len, List.length_eq_zero_iff]

set_option maxRecDepth 100000 in
theorem impl_IsOverlapFree (x : ByteArray) (w : World) (sx : x.size ≤ maxLen) :
    Calls Tryz.prog 18 #[.string x] w fun e w' => e = .returned (.tuple #[.bool (iofR x).1, .int .i64 (iofR x).2]) ∧ Below w.heap.size w w' := by
  have CP := Lib.hid fun w => impl_OverlapsIn x w sx
  by_cases h : IsW x
  · rw [iofR_ok h]
    rw [overlapsR_ok h] at CP
    clear h
    generalize reps (bl x) (eP 2 1) = L at *
    have HZ := Lib.hid (rowsN_zero L)
    generalize rowsN L = R at *
    obtain ⟨n, hn⟩ : ∃ n, R.length = n := ⟨_, rfl⟩
    by_cases hL : L = []
    · have h0 : R.length = 0 := HZ.out.2 hL
      have HN := Lib.hid h0
      rw [decide_eq_true hL]
      clear hn h0 hL
      go_enter Tryz.func18, Tryz.ntmps18
      go_wp2_with fail
      refine (CP.out _).mono ?_
      rintro e w2 ⟨v, rfl, o2, b2⟩
      obtain ⟨a, c, rfl⟩ := o2.value
      rw [HN.out]
      go_wp2_with fail
      go_ret2
      exact ⟨rfl, b2⟩
    · have h0 : ¬ n = 0 := fun e => hL (HZ.out.1 (by rw [hn]; exact e))
      have HN := Lib.hid hn
      have hne : ((n : Int) == 0) = false := by rw [beq_eq_false_iff_ne]; omega
      rw [decide_eq_false hL]
      clear hn hL
      go_enter Tryz.func18, Tryz.ntmps18
      go_wp2_with fail
      refine (CP.out _).mono ?_
      rintro e w2 ⟨v, rfl, o2, b2⟩
      obtain ⟨a, c, rfl⟩ := o2.value
      rw [HN.out]
      go_simp
      go_wp2_with fail
      go_ret2
      exact ⟨by first | rfl | simp, b2⟩
  · rw [iofR_bad h]
    rw [overlapsR_bad h] at CP
    clear h
    go_enter Tryz.func18, Tryz.ntmps18
    go_wp2_with fail
    refine (CP.out _).mono ?_
    rintro e w2 ⟨v, rfl, o2, b2⟩
    obtain ⟨a, c, rfl⟩ := o2.value
    go_wp2_with fail
    go_ret2
    exact ⟨rfl, b2⟩

end Go.Proofs.YtkemdiefoohdjabGreat

/-! ### FnRepGood -/
namespace Go.Proofs.YtkemdiefoohdjabGreat
set_option linter.unusedVariables false
set_option linter.unusedSimpArgs false
open Go.RowKit

/-- A list of pairs of numbers, as a call made it. -/
theorem look2 {w : World} {B : Nat} {v : Value} {S : List (Nat × Nat)} (h : OwnR w B v (rowsN S)) : ∃ ad cap, v = .slice ad S.length cap ∧ ∀ k (hk : k < S.length), ∃ g gr cr, ad = some ⟨g, 0, none⟩ ∧ k < cap ∧ 2 ≤ cr ∧ w.cell? ⟨g, k, none⟩ = some (.slice (some ⟨gr, 0, none⟩) 2 cr) ∧ w.cell? ⟨gr, 0, none⟩ = some (.int .i64 ((S[k]'hk).1 : Int)) ∧ w.cell? ⟨gr, 1, none⟩ = some (.int .i64 ((S[k]'hk).2 : Int)) := by
  by_cases h0 : 0 < S.length
  · obtain ⟨g, cap, us, rfl, _, hg, hc, _, cell, r, _⟩ := h.row (by rw [rowsN_len]; exact h0)
    rw [rowsN_len] at hc cell
    refine ⟨_, cap, by rw [rowsN_len], fun k hk => ?_⟩
    have hrow := r.2.1 k (by rw [r.1, rowsN_len]; exact hk)
    have e : (rowsN S).getD k [] = [((S[k]'hk).1 : Int), ((S[k]'hk).2 : Int)] := by simp [rowsN, hk]
    rw [e] at hrow
    obtain ⟨gr, cr, hv, _, _, hcr, _, hcell, _⟩ := OwnI.row hrow (by simp)
    have c0 := hcell 0 (by simp)
    have c1 := hcell 1 (by simp)
    refine ⟨g, gr, cr, rfl, by omega, by simpa using hcr, ?_, by simpa using c0, by simpa using c1⟩
    rw [cell k hk, hv]
    rfl
  · obtain ⟨a, c, rfl⟩ := h.value
    exact ⟨a, c, by rw [rowsN_len], fun k hk => by omega⟩

theorem rep_bad {x : ByteArray} (h : ¬ IsW x) : (runsR x).2 = 1 ∧ (powersR x 2).2 = 1 ∧ (overlapsR x).2 = 1 ∧ (squaresR x).2 = 1 := by
  rw [runsR_bad h, powersR_bad h, overlapsR_bad h, squaresR_bad h]
  exact ⟨rfl, rfl, rfl, rfl⟩
/-- Everything that the law asks of a word. -/
structure RepGood (x : ByteArray) (R : List Tr) (S O : List (Nat × Nat)) (D : List ByteArray) : Prop where
  size : x.size ≤ 60
  runs : runsR x = (R, 0)
  pows : powersR x 2 = (rowsN S, 0)
  over : overlapsR x = (rowsN O, 0)
  sqs : squaresR x = (D, 0)
  isf : isfR x = (decide (S = []), 0)
  iof : iofR x = (decide (O = []), 0)
  none : S = [] → fsqR x = (0, 0, 4) ∧ R = []
  some : S ≠ [] → R ≠ [] ∧ ∃ i q : Nat, fsqR x = ((i : Int), (q : Int), 0) ∧ q ≤ 60 ∧ i ≤ 60 ∧ ∀ p ∈ S, i + 2 * q ≤ p.1 + 2 * p.2
  less : D.length ≤ S.length
  sq : ∀ p ∈ S, 0 < p.2 ∧ p.1 + p.2 + p.2 ≤ x.size ∧ factR x (p.1 : Int) (p.2 : Int) = (x.extract p.1 (p.1 + p.2), 0) ∧ factR x ((p.1 : Int) + (p.2 : Int)) (p.2 : Int) = (x.extract p.1 (p.1 + p.2), 0)
  rn : ∀ r ∈ R, r.1 + 2 ≤ r.2.1 ∧ r.2.1 ≤ x.size ∧ 2 * r.2.2 ≤ r.2.1 - r.1 ∧ factR x (r.1 : Int) ((r.2.1 : Int) - (r.1 : Int)) = (x.extract r.1 r.2.1, 0) ∧ ∃ t, periodsR (x.extract r.1 r.2.1) = ((r.2.2 : Int) :: t, 0)
theorem rep_good {x : ByteArray} (h : IsW x) : RepGood x (mR x) (reps (bl x) (eP 2 0)) (reps (bl x) (eP 2 1)) (insA ((reps (bl x) (eP 2 0)).map (sqW x))) where
  size := h.size
  runs := runsR_ok h
  pows := powersR_ok (k := 2) h (by omega)
  over := overlapsR_ok h
  sqs := squaresR_ok h
  isf := by rw [isfR_ok h]; rw [decide_eq_decide.2 (squares_iff (bl x))]
  iof := by unfold iofR; rw [if_neg (not_not_intro h)]
  none hs := ⟨fsqR_none h ((squares_iff _).2 hs), (runs_iff x).1 ((squares_iff _).2 hs)⟩
  some hs := by
    have h0 : ¬ (fs (bl x)).2 = 0 := fun e => hs ((squares_iff _).1 e)
    refine ⟨fun e => h0 ((runs_iff x).2 e), (fs (bl x)).1, (fs (bl x)).2, fsqR_ok h h0, ?_, ?_, ?_⟩
    all_goals have hz := h.size
    all_goals have hl : (bl x).length = x.size := bl_len x
    · obtain ⟨p, hp⟩ := List.exists_mem_of_ne_nil _ hs
      have hm := mem_reps.1 hp
      rw [eP20] at hm
      have := fs_first h0 (by omega) hm.2
      omega
    · obtain ⟨p, hp⟩ := List.exists_mem_of_ne_nil _ hs
      have hm := mem_reps.1 hp
      rw [eP20] at hm
      have := fs_first h0 (by omega) hm.2
      omega
    · intro p hp
      have hm := mem_reps.1 hp
      rw [eP20] at hm
      exact (fs_first h0 (by omega) hm.2).1
  less := by
    have := insA_len ((reps (bl x) (eP 2 0)).map (sqW x))
    rwa [List.length_map] at this
  sq p hp := by
    have hm := mem_reps.1 hp
    rw [eP20] at hm
    have hl := hm.2.1
    rw [bl_len] at hl
    refine ⟨hm.1, hl, factR_ok h (by omega), ?_⟩
    have := factR_ok (i := p.1 + p.2) (m := p.2) h (by omega)
    rw [← halves hm.2] at this
    rw [← this]
    congr 1
  rn r hr := by
    obtain ⟨f, t, p⟩ := r
    obtain ⟨h1, h2, h3, h4, h5, _⟩ := run_facts hr
    refine ⟨h1, h2, h4, ?_, ?_⟩
    · have := factR_ok (i := f) (m := t - f) h (by omega)
      rw [show f + (t - f) = t by omega] at this
      rw [← this]
      show factR x (f : Int) ((t : Int) - (f : Int)) = factR x (f : Int) ((t - f : Nat) : Int)
      congr 1
      omega
    · have hw : IsW (x.extract f t) := by
        have := h
        refine ⟨by simp; have := h.size; omega, fun i hi => ?_⟩
        have hi2 : i < t - f := by simp at hi; omega
        have e : (x.extract f t)[i]'hi = x[f + i]'(by omega) := by simp [ByteArray.getElem_extract]
        rw [e]
        exact h.2 (f + i) (by omega)
      have hne : bl (x.extract f t) ≠ [] := by
        intro hz
        have := congrArg List.length hz
        rw [bl_len] at this
        simp at this
        omega
      obtain ⟨tl, ht⟩ := persR_first hne
      refine ⟨tl, ?_⟩
      rw [periodsR_ok hw, ← bl_len, ht, ← h5]

theorem rep_cases (x : ByteArray) : (runsR x).2 = 1 ∨ ((runsR x).2 = 0 ∧ ∃ S O, (powersR x 2).1 = rowsN S ∧ (overlapsR x).1 = rowsN O ∧ RepGood x (runsR x).1 S O (squaresR x).1) := by
  by_cases h : IsW x
  · have g := rep_good h
    rw [g.runs, g.pows, g.over, g.sqs]
    exact .inr ⟨rfl, _, _, rfl, rfl, g⟩
  · exact .inl (rep_bad h).1

end Go.Proofs.YtkemdiefoohdjabGreat

/-! ### GeS -/
namespace Go.Proofs.YtkemdiefoohdjabGreat
set_option linter.unusedVariables false
set_option linter.unusedSimpArgs false
open Go.RowKit

theorem ext_get (x : ByteArray) (i m d : Nat) (h : i + m ≤ x.size) (hd : d < m) : (bl (x.extract i (i + m)))[d]? = (bl x)[i + d]? := by
  rw [bl_extract, List.getElem?_take_of_lt (by omega), List.getElem?_drop]
/-- What a test of a period has seen. -/
def PerUp (l : List UInt8) (q t : Nat) : Prop := ∀ d, d < t → d + q < l.length → l[d]? = l[d + q]?
theorem PerUp.start (l : List UInt8) (q : Nat) : PerUp l q 0 := fun d h => by omega
theorem PerUp.succ {l : List UInt8} {q t : Nat} (h : PerUp l q t) (k : l[t]? = l[t + q]?) : PerUp l q (t + 1) := fun d hd hl => by
  by_cases e : d = t
  · subst e; exact k
  · exact h d (by omega) hl
theorem PerUp.done {l : List UInt8} {q t : Nat} (h : PerUp l q t) (ht : l.length ≤ t + q) : Per l q := fun d hd => h d (by omega) hd

set_option maxRecDepth 100000 in
set_option maxHeartbeats 2000000 in
theorem l03Period_any (x : ByteArray) (i m : Nat) (z : Int) (w : World) (hx : x.size ≤ 60) (hm : 0 < m) (him : i + m ≤ x.size) (hz : z = (i : Int) + (m : Int)) :
    Calls Tryz.prog 57 #[.string x, .int .i64 (i : Int), .int .i64 z] w fun e w' => e = .returned (.int .i64 (lpf x i m : Int)) ∧ Below w.heap.size w w' := by
  have zy : (bl (x.extract i (i + m))).length = m := by rw [bl_len]; simp; omega
  have hne : bl (x.extract i (i + m)) ≠ [] := fun e => by rw [e] at zy; simp at zy; omega
  have EG := fun d (hd : d < m) => ext_get x i m d him hd
  unfold lpf
  generalize bl (x.extract i (i + m)) = l at *
  have HEG := Lib.hid EG
  have HZ := Lib.hid zy
  have HNE := Lib.hid hne
  clear EG zy hne
  subst hz
  go_enter Tryz.func57, Tryz.ntmps57
  go_wp2
  go_loopg [7] m (fun g s7 wr => ∃ k : Nat, k + g = m ∧ k < m ∧ s7 = .int .i64 ((k : Int) + 1) ∧ Below w.heap.size w wr ∧ Hid (∀ q, 0 < q → q < k + 1 → ¬ Per l q))
  case atStart => exact ⟨0, by omega, hm, rfl, Below.refl _ _, Lib.hid fun q h2 h3 => by omega⟩
  case round =>
    obtain ⟨k, hk, hkm, rfl, hB, HQ⟩ := hrel
    obtain ⟨g, rfl⟩ : ∃ g, gk = g + 1 := ⟨gk - 1, by omega⟩
    by_cases hp : k + 1 < m
    · have hpi : (k : Int) + 1 < (i : Int) + (m : Int) - (i : Int) := by omega
      go_wp2
      go_loopg [8, 9] (m + 1) (fun g2 s8 s9 wr => ∃ (t : Nat) (good : Bool), t + g2 = m + 1 ∧ t ≤ m ∧ s8 = .bool good ∧ s9 = .int .i64 ((i : Int) + (t : Int)) ∧ Below w.heap.size w wr ∧ Hid (if good = true then PerUp l (k + 1) t else ¬ Per l (k + 1)))
      case atStart => exact ⟨0, true, by omega, by omega, rfl, by simp, hB, Lib.hid (PerUp.start _ _)⟩
      case round =>
        clear hB
        obtain ⟨t, good, ht, htm, rfl, rfl, hB, HU⟩ := hrel
        cases good with
        | false =>
          have HN : Hid (∀ q, 0 < q → q < k + 1 + 1 → ¬ Per l q) := Lib.hid fun q q0 q1 => by
            by_cases e : q = k + 1
            · subst e; exact HU.out
            · exact HQ.out q q0 (by omega)
          by_cases hc2 : (i : Int) + (t : Int) + ((k : Int) + 1) < (i : Int) + (m : Int)
          · go_wp2
            go_roundg g
            case measure => omega
            case rel => exact ⟨k + 1, by omega, by omega, by go_num, hB, HN⟩
          · go_wp2
            go_roundg g
            case measure => omega
            case rel => exact ⟨k + 1, by omega, by omega, by go_num, hB, HN⟩
        | true =>
          have HU2 : Hid (PerUp l (k + 1) t) := Lib.hid (by have := HU.out; simpa using this)
          clear HU
          by_cases hc : t + (k + 1) < m
          · obtain ⟨g2, rfl⟩ : ∃ g2, gk = g2 + 1 := ⟨gk - 1, by omega⟩
            have z1 : i + t < x.size := by omega
            have z2 : i + (t + (k + 1)) < x.size := by omega
            have hle : (x[i + t]'z1).toNat = (x[i + (t + (k + 1))]'z2).toNat ↔ l[t]? = l[t + (k + 1)]? := by
              rw [HEG.out t (by omega), HEG.out (t + (k + 1)) hc]
              exact letter_eq x _ _ z1 z2
            have hix1 : ∀ W, (Instr.index 9 (.string x) (.int .i64 ((i : Int) + (t : Int)))).run Tryz.prog W = .ok (.int .u8 ((x[i + t]'z1).toNat : Int)) W := fun W => index_at x _ (i + t) z1 (by omega) W
            have hix2 : ∀ W, (Instr.index 9 (.string x) (.int .i64 ((i : Int) + (t : Int) + ((k : Int) + 1)))).run Tryz.prog W = .ok (.int .u8 ((x[i + (t + (k + 1))]'z2).toNat : Int)) W := fun W => index_at x _ (i + (t + (k + 1))) z2 (by omega) W
            generalize (x[i + t]'z1).toNat = a at hle hix1
            generalize (x[i + (t + (k + 1))]'z2).toNat = b at hle hix2
            have hc2 : (i : Int) + (t : Int) + ((k : Int) + 1) < (i : Int) + (m : Int) := by omega
            by_cases he : a = b
            · have HL := Lib.hid (HU2.out.succ (hle.1 he))
              have hee : (a : Int) = (b : Int) := by omega
              clear hle he
              go_wp2
              go_quiet (fail)
              go_wp2
              go_roundg g2
              case measure => omega
              case rel => exact ⟨t + 1, true, by omega, by omega, by first | rfl | simp [hee], by go_num, hB.drewN _, HL⟩
            · have hee : ¬ (a : Int) = (b : Int) := by omega
              have HN : Hid (¬ Per l (k + 1)) := Lib.hid fun hper => he (hle.2 (hper t (by rw [HZ.out]; exact hc)))
              clear hle he
              go_wp2
              go_quiet (fail)
              go_wp2
              go_roundg g2
              case measure => omega
              case rel => exact ⟨t + 1, false, by omega, by omega, by first | rfl | simp [hee], by go_num, hB.drewN _, Lib.hid (by rw [if_neg (by decide)]; exact HN.out)⟩
          · have hlo : lp l = k + 1 := lp_of ⟨by omega, by rw [HZ.out]; omega, HU2.out.done (by rw [HZ.out]; omega), HQ.out⟩
            have HL := Lib.hid hlo
            have hc2 : ¬ (i : Int) + (t : Int) + ((k : Int) + 1) < (i : Int) + (m : Int) := by omega
            clear hlo
            go_wp2
            go_ret
            exact ⟨by rw [HL.out]; rfl, hB⟩
    · have hkm2 : k + 1 = m := by omega
      have hlo : lp l = m := lp_of ⟨hm, by rw [HZ.out]; exact Nat.le_refl _, by have := per_all l; rwa [HZ.out] at this, fun q q0 q1 => HQ.out q q0 (by omega)⟩
      have HL := Lib.hid hlo
      have hpi : ¬ (k : Int) + 1 < (i : Int) + (m : Int) - (i : Int) := by omega
      clear hlo
      go_wp2
      go_ret
      refine ⟨?_, hB⟩
      rw [HL.out]
      have : (i : Int) + (m : Int) - (i : Int) = (m : Int) := by omega
      first
        | rfl
        | (simp; omega)

end Go.Proofs.YtkemdiefoohdjabGreat

/-! ### PalPlain -/
namespace Go.Proofs.YtkemdiefoohdjabGreat
set_option linter.unusedVariables false
set_option linter.unusedSimpArgs false

theorem bl_at (x : ByteArray) (j : Nat) (h : j < x.size) : (bl x)[j]? = some (x[j]'h) := List.getElem?_eq_getElem (by rw [bl_len]; exact h)
theorem bl_none (x : ByteArray) (j : Nat) (h : x.size ≤ j) : (bl x)[j]? = none := List.getElem?_eq_none (by rw [bl_len]; exact h)

/-- The same in the opposite order. -/
def palB (l : List UInt8) : Bool := l.reverse == l
theorem palB_rev {l : List UInt8} : palB l = true ↔ l.reverse = l := by unfold palB; exact beq_iff_eq
theorem palB_iff {l : List UInt8} : palB l = true ↔ ∀ i, i < l.length / 2 → l[i]? = l[l.length - 1 - i]? := by
  rw [palB_rev]
  constructor
  · intro h i hi
    have h2 : l.reverse[i]? = l[i]? := by rw [h]
    rw [← h2, List.getElem?_reverse (by omega)]
  · intro h
    apply List.ext_getElem?
    intro i
    by_cases hi : i < l.length
    · rw [List.getElem?_reverse hi]
      by_cases h1 : i < l.length / 2
      · exact (h i h1).symm
      · by_cases h2 : l.length - 1 - i < l.length / 2
        · have := h _ h2
          rw [show l.length - 1 - (l.length - 1 - i) = i by omega] at this
          exact this
        · rw [show l.length - 1 - i = i by omega]
    · rw [List.getElem?_eq_none (by rw [List.length_reverse]; omega), List.getElem?_eq_none (by omega)]
/-- The first k letters are equal to the last ones. -/
def PalTo (x : ByteArray) (k : Nat) : Prop := ∀ i, i < k → (bl x)[i]? = (bl x)[x.size - 1 - i]?
theorem PalTo.zero (x : ByteArray) : PalTo x 0 := fun i h => by omega
theorem PalTo.succ {x : ByteArray} {k : Nat} (h : PalTo x k) (hk : k < x.size) (hj : x.size - 1 - k < x.size) (e : x[k]'hk = x[x.size - 1 - k]'hj) : PalTo x (k + 1) := fun i hi => by
  by_cases e2 : i = k
  · subst e2; rw [bl_at x i hk, bl_at x _ hj, e]
  · exact h i (by omega)
theorem PalTo.done {x : ByteArray} {k : Nat} (h : PalTo x k) (hk : x.size / 2 ≤ k) : palB (bl x) = true := palB_iff.2 fun i hi => h i (by rw [bl_len] at hi; omega)
theorem pal_miss {x : ByteArray} {k : Nat} (h2 : k < x.size / 2) (hk : k < x.size) (hj : x.size - 1 - k < x.size) (e : ¬ x[k]'hk = x[x.size - 1 - k]'hj) : palB (bl x) = false := by
  rw [Bool.eq_false_iff]
  intro h
  have := palB_iff.1 h k (by rw [bl_len]; exact h2)
  rw [bl_len, bl_at x k hk, bl_at x _ hj] at this
  exact e (Option.some.inj this)
theorem pal_nil : palB [] = true := rfl
theorem pal_one (a : UInt8) : palB [a] = true := by simp [palB]
theorem nat_byte {a b : UInt8} : a.toNat = b.toNat ↔ a = b := UInt8.toNat_inj

/-- The length of the longest palindrome at the end. -/
def endP : List UInt8 → Nat
  | [] => 0
  | a :: l => if palB (a :: l) then l.length + 1 else endP l
theorem endP_hit {l : List UInt8} (h : palB l = true) : endP l = l.length := by
  cases l with
  | nil => rfl
  | cons a l => rw [endP, if_pos h]; rfl
theorem endP_miss {l : List UInt8} {k : Nat} (hk : k < l.length) (h : palB (l.drop k) = false) : endP (l.drop k) = endP (l.drop (k + 1)) := by
  rw [List.drop_eq_getElem_cons hk] at h ⊢
  rw [endP, if_neg (by rw [h]; decide)]
theorem endP_le : ∀ (l : List UInt8), endP l ≤ l.length
  | [] => Nat.le_refl _
  | a :: l => by
    rw [endP]
    split
    · exact Nat.le_refl _
    · have := endP_le l; simp; omega
theorem endP_pos : ∀ (l : List UInt8), l ≠ [] → 0 < endP l
  | [a], _ => by rw [endP, if_pos (pal_one a)]; exact Nat.succ_pos _
  | a :: b :: l, _ => by
    rw [endP]
    split
    · exact Nat.succ_pos _
    · exact endP_pos (b :: l) (by simp)
/-- It is one, and no longer one is. -/
theorem endP_pal : ∀ (l : List UInt8), palB (l.drop (l.length - endP l)) = true
  | [] => rfl
  | a :: l => by
    rw [endP]
    split
    · rename_i h; simp [h]
    · have h1 := endP_le l
      have h2 := endP_pal l
      rw [show (a :: l).length - endP l = (l.length - endP l) + 1 by simp; omega, List.drop_succ_cons]
      exact h2
theorem endP_max : ∀ (l : List UInt8) (k : Nat), k ≤ l.length → palB (l.drop k) = true → l.length - k ≤ endP l
  | [], k, _, _ => by simp
  | a :: l, 0, _, h => by rw [List.drop_zero] at h; rw [endP, if_pos h]; simp
  | a :: l, k + 1, hk, h => by
    rw [List.drop_succ_cons] at h
    have := endP_max l k (by simp at hk; omega) h
    rw [endP]
    split
    · simp; omega
    · simp; omega

/-! ### The different factors that pass a test. -/
/-- Those of the lengths 1 to N. -/
def dfT (T : ByteArray → Bool) (x : ByteArray) : Nat → List ByteArray
  | 0 => []
  | N + 1 => dfT T x N ++ (facK x (N + 1) (x.size - N)).filter T
theorem dfT_len (T : ByteArray → Bool) (x : ByteArray) : ∀ N, (dfT T x N).length ≤ N * x.size
  | 0 => by simp [dfT]
  | N + 1 => by
    rw [dfT, List.length_append, Nat.succ_mul]
    have h1 := dfT_len T x N
    have h2 := List.length_filter_le T (facK x (N + 1) (x.size - N))
    have h3 := facK_len x (N + 1) (x.size - N)
    omega
theorem facK_size {x z : ByteArray} {m N : Nat} (hN : N + m ≤ x.size + 1) (h : z ∈ facK x m N) : z.size = m := by
  obtain ⟨i, hi, rfl⟩ := (mem_facK x m z N).1 h
  simp; omega
/-- The same of the first k places, the test first. -/
def ownT (T : ByteArray → Bool) (x : ByteArray) (m : Nat) : Nat → List ByteArray
  | 0 => []
  | k + 1 => if T (x.extract k (k + m)) then insW (ownT T x m k) (x.extract k (k + m)) else ownT T x m k
theorem ownT_hit {T : ByteArray → Bool} {x : ByteArray} {m k : Nat} (h : T (x.extract k (k + m)) = true) : ownT T x m (k + 1) = insW (ownT T x m k) (x.extract k (k + m)) := by rw [ownT, if_pos h]
theorem ownT_miss {T : ByteArray → Bool} {x : ByteArray} {m k : Nat} (h : T (x.extract k (k + m)) = false) : ownT T x m (k + 1) = ownT T x m k := by rw [ownT, if_neg (by rw [h]; decide)]
theorem ownT_asc (T : ByteArray → Bool) (x : ByteArray) (m : Nat) : ∀ k, Asc (ownT T x m k)
  | 0 => List.Pairwise.nil
  | k + 1 => by
    rw [ownT]
    split
    · exact asc_insW _ _ (ownT_asc T x m k)
    · exact ownT_asc T x m k
theorem ownT_len (T : ByteArray → Bool) (x : ByteArray) (m : Nat) : ∀ k, (ownT T x m k).length ≤ k
  | 0 => Nat.le_refl _
  | k + 1 => by
    have := ownT_len T x m k
    rw [ownT]
    split
    · have := insW_len (ownT T x m k) (x.extract k (k + m)); omega
    · omega
theorem mem_ownT (T : ByteArray → Bool) (x : ByteArray) (m : Nat) (z : ByteArray) : ∀ k, z ∈ ownT T x m k ↔ (∃ i, i < k ∧ z = x.extract i (i + m)) ∧ T z = true
  | 0 => by simp [ownT]
  | k + 1 => by
    by_cases h : T (x.extract k (k + m)) = true
    · rw [ownT_hit h, mem_insW, mem_ownT T x m z k]
      constructor
      · rintro (rfl | ⟨⟨i, hi, e⟩, ht⟩)
        · exact ⟨⟨k, Nat.lt_succ_self _, rfl⟩, h⟩
        · exact ⟨⟨i, by omega, e⟩, ht⟩
      · rintro ⟨⟨i, hi, e⟩, ht⟩
        by_cases hk : i = k
        · subst hk; exact .inl e
        · exact .inr ⟨⟨i, by omega, e⟩, ht⟩
    · have h2 : T (x.extract k (k + m)) = false := by simpa using h
      rw [ownT_miss h2, mem_ownT T x m z k]
      constructor
      · rintro ⟨⟨i, hi, e⟩, ht⟩; exact ⟨⟨i, by omega, e⟩, ht⟩
      · rintro ⟨⟨i, hi, e⟩, ht⟩
        by_cases hk : i = k
        · subst hk; subst e; exact absurd ht h
        · exact ⟨⟨i, by omega, e⟩, ht⟩
theorem ownT_eq (T : ByteArray → Bool) (x : ByteArray) (m k : Nat) : ownT T x m k = (facK x m k).filter T := by
  refine asc_ext _ _ (ownT_asc T x m k) ((facK_asc x m k).filter T) fun z => ?_
  rw [mem_ownT, List.mem_filter, mem_facK]

/-! ### What the functions answer. -/
def palT (x : ByteArray) : Bool := palB (bl x)
def ispR (x : ByteArray) : Bool × Int := if ¬ IsW x then (false, 1) else (palB (bl x), 0)
theorem ispR_bad {x : ByteArray} (h : ¬ IsW x) : ispR x = (false, 1) := if_pos h
theorem ispR_ok {x : ByteArray} (h : IsW x) : ispR x = (palB (bl x), 0) := by unfold ispR; rw [if_neg (not_not_intro h)]
def palsR (x : ByteArray) : List ByteArray × Int := if ¬ IsW x then ([], 1) else (dfT palT x x.size, 0)
theorem palsR_bad {x : ByteArray} (h : ¬ IsW x) : palsR x = ([], 1) := if_pos h
theorem palsR_ok {x : ByteArray} (h : IsW x) : palsR x = (dfT palT x x.size, 0) := by unfold palsR; rw [if_neg (not_not_intro h)]
theorem dfT_len60 (T : ByteArray → Bool) {x : ByteArray} (h : x.size ≤ 60) {N : Nat} (hN : N ≤ x.size) : (dfT T x N).length ≤ 3600 := by
  have h1 := dfT_len T x N
  have h2 : N * x.size ≤ 60 * 60 := Nat.mul_le_mul (by omega) h
  omega
theorem palsR_len (x : ByteArray) : (palsR x).1.length ≤ 4096 := by
  by_cases h : IsW x
  · rw [palsR_ok h]; have := dfT_len60 palT h.size (Nat.le_refl _); show (dfT palT x x.size).length ≤ 4096; omega
  · rw [palsR_bad h]; decide
def defR (x : ByteArray) : Int × Int := if ¬ IsW x then (0, 1) else ((x.size : Int) - (dfT palT x x.size).length, 0)
theorem defR_bad {x : ByteArray} (h : ¬ IsW x) : defR x = (0, 1) := if_pos h
theorem defR_ok {x : ByteArray} (h : IsW x) : defR x = ((x.size : Int) - (dfT palT x x.size).length, 0) := by unfold defR; rw [if_neg (not_not_intro h)]
/-- The lengths of the longest palindromes at the ends of the first beginnings. -/
def endsL (x : ByteArray) (k : Nat) : List Int := (List.range k).map fun i => (endP (bl (x.extract 0 (i + 1))) : Int)
theorem endsL_zero (x : ByteArray) : endsL x 0 = [] := rfl
theorem endsL_succ (x : ByteArray) (k : Nat) : endsL x (k + 1) = endsL x k ++ [(endP (bl (x.extract 0 (k + 1))) : Int)] := by simp [endsL, List.range_succ]
theorem endsL_len (x : ByteArray) (k : Nat) : (endsL x k).length = k := by simp [endsL]
def endsR (x : ByteArray) : List Int × Int := if ¬ IsW x then ([], 1) else (endsL x x.size, 0)
theorem endsR_bad {x : ByteArray} (h : ¬ IsW x) : endsR x = ([], 1) := if_pos h
theorem endsR_ok {x : ByteArray} (h : IsW x) : endsR x = (endsL x x.size, 0) := by unfold endsR; rw [if_neg (not_not_intro h)]
theorem endsR_len (x : ByteArray) : (endsR x).1.length ≤ 4096 := by
  by_cases h : IsW x
  · rw [endsR_ok h]; have := h.size; show (endsL x x.size).length ≤ 4096; rw [endsL_len]; omega
  · rw [endsR_bad h]; decide
/-- The closure. -/
def clo (x : ByteArray) : ByteArray := x ++ rev (x.extract 0 (x.size - endP (bl x)))
theorem clo_size (x : ByteArray) : (clo x).size = x.size + (x.size - endP (bl x)) := by
  unfold clo; rw [ByteArray.size_append, rev_size]; simp
def cloR (x : ByteArray) : ByteArray × Int := if ¬ IsW x then (⟨#[]⟩, 1) else if 60 < (clo x).size then (⟨#[]⟩, 3) else (clo x, 0)
theorem cloR_bad {x : ByteArray} (h : ¬ IsW x) : cloR x = (⟨#[]⟩, 1) := if_pos h
theorem cloR_long {x : ByteArray} (h : IsW x) (k : 60 < (clo x).size) : cloR x = (⟨#[]⟩, 3) := by unfold cloR; rw [if_neg (not_not_intro h), if_pos k]
theorem cloR_ok {x : ByteArray} (h : IsW x) (k : ¬ 60 < (clo x).size) : cloR x = (clo x, 0) := by unfold cloR; rw [if_neg (not_not_intro h), if_neg k]
/-- The directed word of the letters from the place k on, from a word on; none if one is too long. -/
def dirF (x : ByteArray) : Nat → Nat → ByteArray → Option ByteArray
  | _, 0, p => some p
  | k, f + 1, p => if 60 < (clo (p ++ x.extract k (k + 1))).size then none else dirF x (k + 1) f (clo (p ++ x.extract k (k + 1)))
theorem dirF_end (x : ByteArray) (k : Nat) (p : ByteArray) : dirF x k 0 p = some p := rfl
theorem dirF_long {x : ByteArray} {k f : Nat} {p : ByteArray} (h : 60 < (clo (p ++ x.extract k (k + 1))).size) : dirF x k (f + 1) p = none := by rw [dirF, if_pos h]
theorem dirF_go {x : ByteArray} {k f : Nat} {p : ByteArray} (h : ¬ 60 < (clo (p ++ x.extract k (k + 1))).size) : dirF x k (f + 1) p = dirF x (k + 1) f (clo (p ++ x.extract k (k + 1))) := by rw [dirF, if_neg h]
def dirO : Option ByteArray → ByteArray × Int
  | some p => (p, 0)
  | none => (⟨#[]⟩, 3)
def dirR (x : ByteArray) : ByteArray × Int := if ¬ IsW x then (⟨#[]⟩, 1) else dirO (dirF x 0 x.size ⟨#[]⟩)
theorem dirR_bad {x : ByteArray} (h : ¬ IsW x) : dirR x = (⟨#[]⟩, 1) := if_pos h
theorem dirR_ok {x : ByteArray} (h : IsW x) : dirR x = dirO (dirF x 0 x.size ⟨#[]⟩) := by unfold dirR; rw [if_neg (not_not_intro h)]
/-- How many of the lengths up to f, from a place on, are those of palindromes. -/
def cpI (x : ByteArray) (i : Nat) : Nat → Nat
  | 0 => 0
  | f + 1 => cpI x i f + if palB (bl (x.extract i (i + (f + 1)))) then 1 else 0
def cpN (x : ByteArray) : Nat → Nat
  | 0 => 0
  | i + 1 => cpN x i + cpI x i (x.size - i)
def cpR (x : ByteArray) : Int × Int := if ¬ IsW x then (0, 1) else ((cpN x x.size : Int), 0)
theorem cpR_bad {x : ByteArray} (h : ¬ IsW x) : cpR x = (0, 1) := if_pos h
theorem cpR_ok {x : ByteArray} (h : IsW x) : cpR x = ((cpN x x.size : Int), 0) := by unfold cpR; rw [if_neg (not_not_intro h)]
theorem cpI_le (x : ByteArray) (i : Nat) : ∀ f, cpI x i f ≤ f
  | 0 => Nat.le_refl _
  | f + 1 => by have := cpI_le x i f; rw [cpI]; split <;> omega
theorem cpN_le (x : ByteArray) : ∀ i, cpN x i ≤ i * x.size
  | 0 => by simp [cpN]
  | i + 1 => by have := cpN_le x i; have := cpI_le x i (x.size - i); rw [cpN, Nat.succ_mul]; omega

end Go.Proofs.YtkemdiefoohdjabGreat

/-! ### RunS -/
namespace Go.Proofs.YtkemdiefoohdjabGreat
set_option linter.unusedVariables false
set_option linter.unusedSimpArgs false
open Go.RowKit

/-- Runs as cells. -/
def encTr (r : Tr) : List Value := [.int .i64 (r.1 : Int), .int .i64 (r.2.1 : Int), .int .i64 (r.2.2 : Int)]
def flatT (L : List Tr) : List Value := L.flatMap encTr
theorem flatT_len (L : List Tr) : (flatT L).length = L.length * 3 := by
  induction L with
  | nil => rfl
  | cons a L ih => unfold flatT at *; rw [List.flatMap_cons, List.length_append, ih, List.length_cons]; show 3 + _ = _; omega
theorem flatT_app (a b : List Tr) : flatT (a ++ b) = flatT a ++ flatT b := List.flatMap_append
def OwnT (w : World) (B : Nat) (v : Value) (L : List Tr) : Prop := w.ownsRow B 46 3 v L.length (flatT L)
theorem infoT : (Tryz.prog.info? 46).map (fun i => (i.zero, i.size, i.bytes)) = some (some (.agg #[.int .i64 0, .int .i64 0, .int .i64 0]), 3, 24) := by kernel_rfl
theorem OwnT.below {w w' : World} {B : Nat} {v : Value} {L : List Tr} (h : OwnT w B v L) (hB : Below w.heap.size w w') : OwnT w' B v L := by
  refine h.kept (row := none) ⟨hB.os, hB.tape, hB.output, hB.size, fun k hk _ => hB.block k hk⟩ ?_
  cases v.ownBlock with
  | none => exact .inl rfl
  | some k => exact .inr (fun e => by cases e)
theorem OwnT.base {w : World} {B B' : Nat} {v : Value} {L : List Tr} (h : OwnT w B v L) (hb : B' ≤ B) : OwnT w B' v L := World.ownsRow.mono h hb
theorem OwnT.nil (w : World) (B : Nat) : OwnT w B (.slice none 0 0) [] := World.ownsRow_nil _ _ _ _
theorem OwnT.lit0 (w : World) {B : Nat} (hb : B ≤ w.heap.size) : OwnT (w.alloc (.cells #[] 46)) B (.slice (some ⟨w.heap.size, 0, none⟩) 0 0) [] := World.ownsRow_lit w #[] 0 hb (by decide) (by simp)
theorem ownT_snoc {w : World} {B : Nat} {v : Value} {L : List Tr} {a b c : Nat} (h : w.ownsRow B 46 3 v (L.length + 1) (flatT L ++ [Value.int .i64 (a : Int), .int .i64 (b : Int), .int .i64 (c : Int)])) : OwnT w B v (L ++ [(a, b, c)]) := by
  unfold OwnT
  rw [List.length_append, flatT_app]
  exact h
theorem cells3_new (w : World) (x y z : Value) (t : TypeId) : ∀ j u, [x, y, z][j]? = some u → (w.alloc (.cells #[x, y, z] t)).cell? ((⟨w.heap.size, 0, none⟩ : Addr).add j) = some u := by
  intro j u hu
  have h := World.alloc_heap_new w (.cells #[x, y, z] t)
  have e : ((⟨w.heap.size, 0, none⟩ : Addr).add j) = ⟨w.heap.size, j, none⟩ := by simp [Addr.add]; omega
  rw [e]
  rcases j with _ | _ | _ | j
  · simp at hu; subst hu; unfold World.cell?; rw [h]; rfl
  · simp at hu; subst hu; unfold World.cell?; rw [h]; rfl
  · simp at hu; subst hu; unfold World.cell?; rw [h]; rfl
  · simp at hu
theorem at_eq {x : ByteArray} {a b : Nat} (ha : a < x.size) (hb : b < x.size) : (bl x)[a]? = (bl x)[b]? ↔ ((x[a]'ha).toNat : Int) = ((x[b]'hb).toNat : Int) := by
  rw [bl_at x a ha, bl_at x b hb]
  constructor
  · intro h; injection h with h; rw [h]
  · intro h; congr 1; exact UInt8.toNat_inj.1 (by omega)

set_option maxRecDepth 100000 in
set_option maxHeartbeats 8000000 in
theorem l03Runs_any (x : ByteArray) (w : World) (hx : x.size ≤ 60) :
    Calls Tryz.prog 32 #[.string x] w fun e w' => ∃ v, e = .returned v ∧ OwnT w' w.heap.size v (mR x) ∧ Below w.heap.size w w' := by
  obtain ⟨i0, hi, hz0, hz1, hz2⟩ := info_parts infoT
  have HO0 := Lib.hid (OwnT.lit0 w (Nat.le_refl _))
  have HMR : Hid (mTo x x.size = mR x) := Lib.hid rfl
  have HML := Lib.hid (mTo_len x)
  have HRL := Lib.hid (mrow_len x)
  go_enter Tryz.func32, Tryz.ntmps32
  go_wp2
  go_loopg [3, 5] x.size (fun gk v s wr => ∃ f : Nat, f + gk = x.size ∧ s = .int .i64 (f : Int) ∧ OwnT wr w.heap.size v (mTo x f) ∧ Below w.heap.size w wr)
  case atStart => exact ⟨0, by omega, rfl, HO0.out, Below.new _ _⟩
  case round =>
    obtain ⟨f, hfg, rfl, own, hB⟩ := hrel
    by_cases hp : f < x.size
    · obtain ⟨g1, rfl⟩ : ∃ j, gk = j + 1 := ⟨gk - 1, by omega⟩
      have hpi : (f : Int) < (x.size : Int) := by omega
      have HTS := Lib.hid (mTo_succ x f)
      go_wp2
      go_loopg [3, 6] (x.size + 1) (fun gk v s wr => ∃ k : Nat, f + 2 + k + gk = x.size + 3 + f ∧ s = .int .i64 ((f + 2 + k : Nat) : Int) ∧ f + 2 + k ≤ x.size + 1 ∧ OwnT wr w.heap.size v (mTo x f ++ mrow x f k) ∧ Below w.heap.size w wr)
      case atStart => exact ⟨0, by omega, by go_num, by omega, by rw [mrow_zero, List.append_nil]; exact own, hB⟩
      case round =>
        clear own hB
        obtain ⟨k, hkg, rfl, hkb, own, hB⟩ := hrel
        have hbz := hB.size
        obtain ⟨t, ht⟩ : ∃ t, f + 2 + k = t := ⟨_, rfl⟩
        rw [ht] at hkb
        rw [ht]
        by_cases hpt : t ≤ x.size
        · obtain ⟨g2, rfl⟩ : ∃ j, gk = j + 1 := ⟨gk - 1, by omega⟩
          have hpti : (t : Int) ≤ (x.size : Int) := by omega
          have CP := Lib.hid fun W => l03Period_any x f (t - f) (t : Int) W hx (by omega) (by omega) (by omega)
          obtain ⟨q0, q1⟩ := lpf_bd (x := x) (i := f) (m := t - f) (by omega) (by omega)
          have HYES : Hid (isRun x f t → mTo x f ++ mrow x f (k + 1) = mTo x f ++ mrow x f k ++ [(f, t, lpf x f (t - f))]) := Lib.hid fun h => by rw [mrow_yes (by rw [ht]; exact h), ht, List.append_assoc]
          have HNO : Hid (¬ isRun x f t → mTo x f ++ mrow x f (k + 1) = mTo x f ++ mrow x f k) := Lib.hid fun h => by rw [mrow_no (by rw [ht]; exact h)]
          have HIS : Hid (isRun x f t ↔ (2 * lpf x f (t - f) ≤ t - f ∧ (f = 0 ∨ (bl x)[f - 1]? ≠ (bl x)[f - 1 + lpf x f (t - f)]?) ∧ (t = x.size ∨ (bl x)[t]? ≠ (bl x)[t - lpf x f (t - f)]?))) := Lib.hid ⟨fun h => h.2.2, fun h => ⟨by omega, hpt, h⟩⟩
          have HLN : Hid ((mTo x f ++ mrow x f k).length ≤ 3720) := Lib.hid (by
            rw [List.length_append]
            have h1 := HML.out f
            have h2 := HRL.out f k
            have h3 : x.size * f ≤ 60 * 60 := Nat.mul_le_mul hx (by omega)
            omega)
          generalize lpf x f (t - f) = q at *
          generalize mTo x f ++ mrow x f k = L at *
          have hll := HLN.out
          have w1 : IntKind.i64.wrap ((t : Int) - (f : Int)) = (t : Int) - (f : Int) := IntWalk.i64_in _ (by omega)
          have w2 : IntKind.i64.wrap (2 * (q : Int)) = 2 * (q : Int) := IntWalk.i64_in _ (by omega)
          have w3 : IntKind.i64.wrap ((f : Int) - 1) = (f : Int) - 1 := IntWalk.i64_in _ (by omega)
          have w4 : IntKind.i64.wrap ((f : Int) - 1 + (q : Int)) = (f : Int) - 1 + (q : Int) := IntWalk.i64_in _ (by omega)
          have w5 : IntKind.i64.wrap ((t : Int) - (q : Int)) = (t : Int) - (q : Int) := IntWalk.i64_in _ (by omega)
          by_cases hA : t - f < 2 * q
          · have hAi : (t : Int) - (f : Int) < 2 * (q : Int) := by omega
            have hAd : decide ((t : Int) - (f : Int) < 2 * (q : Int)) = true := decide_eq_true hAi
            have HE := Lib.hid (HNO.out (fun h => by have := (HIS.out.1 h).1; omega))
            go_wp2_with fail
            refine (CP.out _).mono ?_
            rintro e w2 ⟨rfl, b2⟩
            go_wp2_with fail
            go_quiet (fail)
            go_wp2_with fail
            go_roundg g2
            case measure => omega
            case rel => exact ⟨k + 1, by omega, by go_num, by omega, by rw [HE.out]; exact (own.below b2).below ((Below.refl _ _).drewN nq), (hB.then b2).drewN nq⟩
          have hAi : ¬ (t : Int) - (f : Int) < 2 * (q : Int) := by omega
          have hAd : decide ((t : Int) - (f : Int) < 2 * (q : Int)) = false := decide_eq_false hAi
          by_cases hF : f = 0
          · have hFi : ¬ (0 : Int) < (f : Int) := by omega
            have hFd : decide ((0 : Int) < (f : Int)) = false := decide_eq_false hFi
            have hFe : decide (0 < f) = false := decide_eq_false (by omega)
            have HF := Lib.hid hF
            clear hF
            by_cases hC : t = x.size
            · have hCi : ¬ (t : Int) < (x.size : Int) := by omega
              have hCd : decide ((t : Int) < (x.size : Int)) = false := decide_eq_false hCi
              have hCe : decide (t < x.size) = false := decide_eq_false (by omega)
              have HC := Lib.hid hC
              clear hC
              have HE := Lib.hid (HYES.out (HIS.out.2 ⟨by omega, .inl HF.out, .inl HC.out⟩))
              go_wp2_with fail
              refine (CP.out _).mono ?_
              rintro e w2 ⟨rfl, b2⟩
              have own := own.below b2
              have hB2 := hB.then b2
              have hbz2 := hB2.size
              go_wp2_with fail
              go_quiet (fail)
              have own := own.below ((Below.refl _ _).drewN nq)
              have hB3 := hB2.drewN nq
              have hbz3 := hB3.size
              go_wp2_with (at_builtin; go_loud (refine wpList_append_own _ rfl _ _ 25 rfl w.heap.size 46 i0 (.agg #[.int .i64 0, .int .i64 0, .int .i64 0]) 3 24 Tryz.underlying25 hi hz0 hz1 hz2 rfl (by decide) _ _ _ rfl (World.ownsRow.alloc own _) ⟨_, 0, none⟩ 1 1 [.int .i64 (f : Int), .int .i64 (t : Int), .int .i64 (q : Int)] rfl rfl (cells3_new _ _ _ _ _) (by intro u hu; simp at hu; rcases hu with rfl | rfl | rfl <;> rfl) (by unfold maxLen; omega) (by omega) (by simp; omega) ?_); intro v' w5 hown' hgrow _)
              have HO := Lib.hid (ownT_snoc hown')
              rw [← HE.out] at HO
              have hB4 : Below w.heap.size w w5 := (hB3.alloc hbz3 _).grown hgrow (by simp; omega) (fun z hz => (own.lt z hz).1)
              go_roundg g2
              case measure => omega
              case rel => exact ⟨k + 1, by omega, by go_num, by omega, HO.out, hB4⟩
            have hCi : (t : Int) < (x.size : Int) := by omega
            have hCd : decide ((t : Int) < (x.size : Int)) = true := decide_eq_true hCi
            have hCe : decide (t < x.size) = true := decide_eq_true (by omega)
            have hCn : t < x.size := by omega
            have x3 := fun W => index_at x (t : Int) t hCn rfl W
            have x4 := fun W => index_at x ((t : Int) - (q : Int)) (t - q) (by omega) (by omega) W
            have heq2 := at_eq (x := x) hCn (show t - q < x.size by omega)
            have hb3 : (x[t]'hCn).toNat ≤ 255 := by have := (x[t]'hCn).toNat_lt; omega
            by_cases hD : (bl x)[t]? = (bl x)[t - q]?
            · have hDi := heq2.1 hD
              have hDb := beq_iff_eq.2 hDi
              have HE := Lib.hid (HNO.out (fun h => by exact (HIS.out.1 h).2.2.elim (fun e => hC e) (fun e => e hD)))
              clear heq2 hD
              generalize x[t]'hCn = c3 at *
              generalize x[t - q]'(by omega) = c4 at *
              go_wp2_with fail
              refine (CP.out _).mono ?_
              rintro e w2 ⟨rfl, b2⟩
              go_wp2_with fail
              go_quiet (fail)
              go_wp2_with fail
              go_roundg g2
              case measure => omega
              case rel => exact ⟨k + 1, by omega, by go_num, by omega, by rw [HE.out]; exact (own.below b2).below ((Below.refl _ _).drewN nq), (hB.then b2).drewN nq⟩
            · have hDi := fun e => hD (heq2.2 e)
              have hDb := beq_eq_false_iff_ne.2 hDi
              have HE := Lib.hid (HYES.out (HIS.out.2 ⟨by omega, .inl HF.out, .inr hD⟩))
              clear heq2 hD
              generalize x[t]'hCn = c3 at *
              generalize x[t - q]'(by omega) = c4 at *
              go_wp2_with fail
              refine (CP.out _).mono ?_
              rintro e w2 ⟨rfl, b2⟩
              have own := own.below b2
              have hB2 := hB.then b2
              have hbz2 := hB2.size
              go_wp2_with fail
              go_quiet (fail)
              have own := own.below ((Below.refl _ _).drewN nq)
              have hB3 := hB2.drewN nq
              have hbz3 := hB3.size
              go_wp2_with (at_builtin; go_loud (refine wpList_append_own _ rfl _ _ 25 rfl w.heap.size 46 i0 (.agg #[.int .i64 0, .int .i64 0, .int .i64 0]) 3 24 Tryz.underlying25 hi hz0 hz1 hz2 rfl (by decide) _ _ _ rfl (World.ownsRow.alloc own _) ⟨_, 0, none⟩ 1 1 [.int .i64 (f : Int), .int .i64 (t : Int), .int .i64 (q : Int)] rfl rfl (cells3_new _ _ _ _ _) (by intro u hu; simp at hu; rcases hu with rfl | rfl | rfl <;> rfl) (by unfold maxLen; omega) (by omega) (by simp; omega) ?_); intro v' w5 hown' hgrow _)
              have HO := Lib.hid (ownT_snoc hown')
              rw [← HE.out] at HO
              have hB4 : Below w.heap.size w w5 := (hB3.alloc hbz3 _).grown hgrow (by simp; omega) (fun z hz => (own.lt z hz).1)
              go_roundg g2
              case measure => omega
              case rel => exact ⟨k + 1, by omega, by go_num, by omega, HO.out, hB4⟩
          have hFi : (0 : Int) < (f : Int) := by omega
          have hFd : decide ((0 : Int) < (f : Int)) = true := decide_eq_true hFi
          have hFe : decide (0 < f) = true := decide_eq_true (by omega)
          have x1 := fun W => index_at x ((f : Int) - 1) (f - 1) (by omega) (by omega) W
          have x2 := fun W => index_at x ((f : Int) - 1 + (q : Int)) (f - 1 + q) (by omega) (by omega) W
          have heq1 := at_eq (x := x) (show f - 1 < x.size by omega) (show f - 1 + q < x.size by omega)
          by_cases hE : (bl x)[f - 1]? = (bl x)[f - 1 + q]?
          · have hEi := heq1.1 hE
            have hEb := beq_iff_eq.2 hEi
            have HE := Lib.hid (HNO.out (fun h => (HIS.out.1 h).2.1.elim (fun e => hF e) (fun e => e hE)))
            clear heq1 hE
            generalize x[f - 1]'(by omega) = c1 at *
            generalize x[f - 1 + q]'(by omega) = c2 at *
            go_wp2_with fail
            refine (CP.out _).mono ?_
            rintro e w2 ⟨rfl, b2⟩
            go_wp2_with fail
            go_quiet (fail)
            go_wp2_with fail
            go_roundg g2
            case measure => omega
            case rel => exact ⟨k + 1, by omega, by go_num, by omega, by rw [HE.out]; exact (own.below b2).below ((Below.refl _ _).drewN nq), (hB.then b2).drewN nq⟩
          have hEi := fun e => hE (heq1.2 e)
          have hEb := beq_eq_false_iff_ne.2 hEi
          have hlf : f = 0 ∨ (bl x)[f - 1]? ≠ (bl x)[f - 1 + q]? := .inr hE
          have HLF := Lib.hid hlf
          clear heq1 hE hlf
          generalize x[f - 1]'(by omega) = c1 at *
          generalize x[f - 1 + q]'(by omega) = c2 at *
          by_cases hC : t = x.size
          · have hCi : ¬ (t : Int) < (x.size : Int) := by omega
            have hCd : decide ((t : Int) < (x.size : Int)) = false := decide_eq_false hCi
            have hCe : decide (t < x.size) = false := decide_eq_false (by omega)
            have HC := Lib.hid hC
            clear hC
            have HE := Lib.hid (HYES.out (HIS.out.2 ⟨by omega, HLF.out, .inl HC.out⟩))
            go_wp2_with fail
            refine (CP.out _).mono ?_
            rintro e w2 ⟨rfl, b2⟩
            have own := own.below b2
            have hB2 := hB.then b2
            have hbz2 := hB2.size
            go_wp2_with fail
            go_quiet (fail)
            have own := own.below ((Below.refl _ _).drewN nq)
            have hB3 := hB2.drewN nq
            have hbz3 := hB3.size
            go_wp2_with (at_builtin; go_loud (refine wpList_append_own _ rfl _ _ 25 rfl w.heap.size 46 i0 (.agg #[.int .i64 0, .int .i64 0, .int .i64 0]) 3 24 Tryz.underlying25 hi hz0 hz1 hz2 rfl (by decide) _ _ _ rfl (World.ownsRow.alloc own _) ⟨_, 0, none⟩ 1 1 [.int .i64 (f : Int), .int .i64 (t : Int), .int .i64 (q : Int)] rfl rfl (cells3_new _ _ _ _ _) (by intro u hu; simp at hu; rcases hu with rfl | rfl | rfl <;> rfl) (by unfold maxLen; omega) (by omega) (by simp; omega) ?_); intro v' w5 hown' hgrow _)
            have HO := Lib.hid (ownT_snoc hown')
            rw [← HE.out] at HO
            have hB4 : Below w.heap.size w w5 := (hB3.alloc hbz3 _).grown hgrow (by simp; omega) (fun z hz => (own.lt z hz).1)
            go_roundg g2
            case measure => omega
            case rel => exact ⟨k + 1, by omega, by go_num, by omega, HO.out, hB4⟩
          have hCi : (t : Int) < (x.size : Int) := by omega
          have hCd : decide ((t : Int) < (x.size : Int)) = true := decide_eq_true hCi
          have hCe : decide (t < x.size) = true := decide_eq_true (by omega)
          have hCn : t < x.size := by omega
          have x3 := fun W => index_at x (t : Int) t hCn rfl W
          have x4 := fun W => index_at x ((t : Int) - (q : Int)) (t - q) (by omega) (by omega) W
          have heq2 := at_eq (x := x) hCn (show t - q < x.size by omega)
          have hb3 : (x[t]'hCn).toNat ≤ 255 := by have := (x[t]'hCn).toNat_lt; omega
          by_cases hD : (bl x)[t]? = (bl x)[t - q]?
          · have hDi := heq2.1 hD
            have hDb := beq_iff_eq.2 hDi
            have HE := Lib.hid (HNO.out (fun h => by exact (HIS.out.1 h).2.2.elim (fun e => hC e) (fun e => e hD)))
            clear heq2 hD
            generalize x[t]'hCn = c3 at *
            generalize x[t - q]'(by omega) = c4 at *
            go_wp2_with fail
            refine (CP.out _).mono ?_
            rintro e w2 ⟨rfl, b2⟩
            go_wp2_with fail
            go_quiet (fail)
            go_wp2_with fail
            go_roundg g2
            case measure => omega
            case rel => exact ⟨k + 1, by omega, by go_num, by omega, by rw [HE.out]; exact (own.below b2).below ((Below.refl _ _).drewN nq), (hB.then b2).drewN nq⟩
          · have hDi := fun e => hD (heq2.2 e)
            have hDb := beq_eq_false_iff_ne.2 hDi
            have HE := Lib.hid (HYES.out (HIS.out.2 ⟨by omega, HLF.out, .inr hD⟩))
            clear heq2 hD
            generalize x[t]'hCn = c3 at *
            generalize x[t - q]'(by omega) = c4 at *
            go_wp2_with fail
            refine (CP.out _).mono ?_
            rintro e w2 ⟨rfl, b2⟩
            have own := own.below b2
            have hB2 := hB.then b2
            have hbz2 := hB2.size
            go_wp2_with fail
            go_quiet (fail)
            have own := own.below ((Below.refl _ _).drewN nq)
            have hB3 := hB2.drewN nq
            have hbz3 := hB3.size
            go_wp2_with (at_builtin; go_loud (refine wpList_append_own _ rfl _ _ 25 rfl w.heap.size 46 i0 (.agg #[.int .i64 0, .int .i64 0, .int .i64 0]) 3 24 Tryz.underlying25 hi hz0 hz1 hz2 rfl (by decide) _ _ _ rfl (World.ownsRow.alloc own _) ⟨_, 0, none⟩ 1 1 [.int .i64 (f : Int), .int .i64 (t : Int), .int .i64 (q : Int)] rfl rfl (cells3_new _ _ _ _ _) (by intro u hu; simp at hu; rcases hu with rfl | rfl | rfl <;> rfl) (by unfold maxLen; omega) (by omega) (by simp; omega) ?_); intro v' w5 hown' hgrow _)
            have HO := Lib.hid (ownT_snoc hown')
            rw [← HE.out] at HO
            have hB4 : Below w.heap.size w w5 := (hB3.alloc hbz3 _).grown hgrow (by simp; omega) (fun z hz => (own.lt z hz).1)
            go_roundg g2
            case measure => omega
            case rel => exact ⟨k + 1, by omega, by go_num, by omega, HO.out, hB4⟩
        · have hpti : ¬ (t : Int) ≤ (x.size : Int) := by omega
          have HE : Hid (mTo x (f + 1) = mTo x f ++ mrow x f k) := Lib.hid (by
            rw [HTS.out]
            by_cases h : x.size - 1 - f = k
            · rw [h]
            · exfalso; omega)
          go_wp2
          go_roundg g1
          case measure => omega
          case rel => exact ⟨f + 1, by omega, by go_num, by rw [HE.out]; exact own, hB⟩
    · obtain rfl : gk = 0 := by omega
      obtain rfl : f = x.size := by omega
      have hpi : ¬ (x.size : Int) < (x.size : Int) := by omega
      have HO := Lib.hid own
      clear own
      go_wp2
      go_ret
      exact ⟨_, rfl, by rw [← HMR.out]; exact HO.out, hB⟩

set_option maxRecDepth 100000 in
theorem spec_RunsOf (x : ByteArray) (w : World) (sx : x.size ≤ maxLen) :
    Calls Tryz.prog 7 #[.string x] w fun e w' => ∃ v, e = .returned (.tuple #[v, .int .i64 (runsR x).2]) ∧ OwnT w' w.heap.size v (runsR x).1 ∧ Below w.heap.size w w' := by
  by_cases h : IsW x
  · rw [runsR_ok h]
    have CI := Lib.hid fun W => l01Is_yes x W h
    have CR := Lib.hid fun W => l03Runs_any x W h.size
    clear h
    go_enter Tryz.func7, Tryz.ntmps7
    go_wp2_with fail
    refine (CI.out _).mono ?_
    rintro e w1 ⟨rfl, b1⟩
    go_wp2_with fail
    refine (CR.out _).mono ?_
    rintro e w2 ⟨v, rfl, o2, b2⟩
    go_wp2_with fail
    go_ret2
    exact ⟨v, rfl, o2.base b1.size, b1.then b2⟩
  · rw [runsR_bad h]
    have CI := Lib.hid fun W => l01Is_no x W sx h
    clear h
    go_enter Tryz.func7, Tryz.ntmps7
    go_wp2_with fail
    refine (CI.out _).mono ?_
    rintro e w1 ⟨rfl, b1⟩
    go_wp2_with fail
    go_ret2
    exact ⟨_, rfl, OwnT.nil _ _, b1⟩

end Go.Proofs.YtkemdiefoohdjabGreat

/-! ### RunI -/
namespace Go.Proofs.YtkemdiefoohdjabGreat
set_option linter.unusedVariables false
set_option linter.unusedSimpArgs false
open Go.RowKit

/-- A block of the three numbers of a run. -/
def Rn3 (W : World) (b : Nat) (x y z : Value) : Prop := W.heap[b]? = some (.cells #[x, y, z] 46 (0, 0))
theorem Rn3.lt {W : World} {b : Nat} {x y z : Value} (h : Rn3 W b x y z) : b < W.heap.size := (Array.getElem?_eq_some_iff.1 h).1
theorem Rn3.c0 {W : World} {b : Nat} {x y z : Value} (h : Rn3 W b x y z) : W.cell? ⟨b, 0, none⟩ = some x := by simp [World.cell?, show W.heap[b]? = _ from h]
theorem Rn3.c1 {W : World} {b : Nat} {x y z : Value} (h : Rn3 W b x y z) : W.cell? ⟨b, 1, none⟩ = some y := by simp [World.cell?, show W.heap[b]? = _ from h]
theorem Rn3.c2 {W : World} {b : Nat} {x y z : Value} (h : Rn3 W b x y z) : W.cell? ⟨b, 2, none⟩ = some z := by simp [World.cell?, show W.heap[b]? = _ from h]
theorem Rn3.fz {W : World} {b : Nat} {x y z : Value} (h : Rn3 W b x y z) (j : Nat) : W.frozen? ⟨b, j, none⟩ = false := by simp [World.frozen?, show W.heap[b]? = _ from h]
theorem Rn3.later {W W' : World} {b : Nat} {x y z : Value} (h : Rn3 W b x y z) (k : Below W.heap.size W W') : Rn3 W' b x y z := (k.block _ h.lt).trans h

theorem Rn3.all3 {W : World} {b : Nat} {x y z : Value} (h : Rn3 W b x y z) : W.cell? ⟨b, 0, none⟩ = some x ∧ W.cell? ⟨b, 1, none⟩ = some y ∧ W.cell? ⟨b, 2, none⟩ = some z := ⟨h.c0, h.c1, h.c2⟩
theorem Rn3.other {W : World} {b : Nat} {x y z : Value} (h : Rn3 W b x y z) {b' j : Nat} (hne : b ≠ b') (u : Value) : Rn3 (W.setCell ⟨b', j, none⟩ u) b x y z := (Below.heap_setCell _ _ _ b (fun e => hne (by rw [e]))).trans h
theorem Rn3.seta {W : World} {b : Nat} {x y z : Value} (h : Rn3 W b x y z) (p : Value) : Rn3 (W.setCell ⟨b, 0, none⟩ p) b p y z := by
  obtain ⟨hlt, hk⟩ := Array.getElem?_eq_some_iff.1 h
  show (W.heap.modify b _)[b]? = _
  rw [Array.getElem?_eq_getElem (by rw [Array.size_modify]; exact hlt), Array.getElem_modify_self, hk]
  rfl
theorem Rn3.setb {W : World} {b : Nat} {x y z : Value} (h : Rn3 W b x y z) (p : Value) : Rn3 (W.setCell ⟨b, 1, none⟩ p) b x p z := by
  obtain ⟨hlt, hk⟩ := Array.getElem?_eq_some_iff.1 h
  show (W.heap.modify b _)[b]? = _
  rw [Array.getElem?_eq_getElem (by rw [Array.size_modify]; exact hlt), Array.getElem_modify_self, hk]
  rfl
theorem Rn3.setc {W : World} {b : Nat} {x y z : Value} (h : Rn3 W b x y z) (p : Value) : Rn3 (W.setCell ⟨b, 2, none⟩ p) b x y p := by
  obtain ⟨hlt, hk⟩ := Array.getElem?_eq_some_iff.1 h
  show (W.heap.modify b _)[b]? = _
  rw [Array.getElem?_eq_getElem (by rw [Array.size_modify]; exact hlt), Array.getElem_modify_self, hk]
  rfl
theorem Rn3.set3 {W : World} {b : Nat} {x y z : Value} (h : Rn3 W b x y z) (p q r : Value) : Rn3 (((W.setCell ⟨b, 0, none⟩ p).setCell ⟨b, 1, none⟩ q).setCell ⟨b, 2, none⟩ r) b p q r := ((h.seta p).setb q).setc r
theorem Rn3.far3 {W : World} {b b2 : Nat} {x y z : Value} (h : Rn3 W b x y z) (hne : b ≠ b2) (p q r : Value) :
    (((W.setCell ⟨b2, 0, none⟩ p).setCell ⟨b2, 1, none⟩ q).setCell ⟨b2, 2, none⟩ r).cell? ⟨b, 0, none⟩ = some x ∧ (((W.setCell ⟨b2, 0, none⟩ p).setCell ⟨b2, 1, none⟩ q).setCell ⟨b2, 2, none⟩ r).cell? ⟨b, 1, none⟩ = some y ∧ (((W.setCell ⟨b2, 0, none⟩ p).setCell ⟨b2, 1, none⟩ q).setCell ⟨b2, 2, none⟩ r).cell? ⟨b, 2, none⟩ = some z :=
  (((h.other hne p).other hne q).other hne r).all3
theorem Rn3.new (W : World) (x y z : Value) : Rn3 (W.alloc (.cells #[x, y, z] 46)) W.heap.size x y z := World.alloc_heap_new W _
theorem Rn3.grown {W W' : World} {b : Nat} {x y z : Value} {r : Option Nat} (h : Rn3 W b x y z) (k : W.grownBy W' r) (hr : some b ≠ r) : Rn3 W' b x y z := (k.block b h.lt hr).trans h


theorem strF_onK {x : ByteArray} {q k : Nat} (h0 : 0 < k) (h : (bl x)[k - 1]? = (bl x)[k - 1 + q]?) : strF x q k = strF x q (k - 1) := by
  obtain ⟨j, rfl⟩ : ∃ j, k = j + 1 := ⟨k - 1, by omega⟩
  rw [Nat.add_sub_cancel] at h ⊢
  exact strF_on h
theorem strF_offK {x : ByteArray} {q k : Nat} (h0 : 0 < k) (h : ¬ (bl x)[k - 1]? = (bl x)[k - 1 + q]?) : strF x q k = k := by
  obtain ⟨j, rfl⟩ : ∃ j, k = j + 1 := ⟨k - 1, by omega⟩
  rw [Nat.add_sub_cancel] at h
  exact strF_off h

set_option maxRecDepth 100000 in
set_option maxHeartbeats 4000000 in
theorem stretchOf_any (x : ByteArray) (i q : Nat) (w : World) (hx : x.size ≤ 60) (hq : 0 < q) (hi : i + q ≤ x.size) :
    Calls Tryz.prog 51 #[.string x, .int .i64 (i : Int), .int .i64 (q : Int)] w fun e w' => e = .returned (.agg #[.int .i64 (strF x q i : Int), .int .i64 (strT x q (i + q) : Int), .int .i64 (q : Int)]) ∧ Below w.heap.size w w' := by
  obtain ⟨F, hF⟩ : ∃ F, strF x q i = F := ⟨_, rfl⟩
  obtain ⟨T, hT⟩ : ∃ T, strT x q (i + q) = T := ⟨_, rfl⟩
  rw [hF, hT]
  have HF := Lib.hid hF
  have HT := Lib.hid hT
  clear hF hT
  have st := Rn3.new w (.int .i64 0) (.int .i64 0) (.int .i64 0)
  have ST := Lib.hid st
  clear st
  go_enter Tryz.func51, Tryz.ntmps51
  go_wp2
  go_loopg [7] i (fun gk s wr => ∃ k : Nat, k ≤ gk ∧ k ≤ i ∧ s = .int .i64 (k : Int) ∧ Hid (strF x q k = F) ∧ Below (w.alloc (.cells #[.int .i64 0, .int .i64 0, .int .i64 0] 46)).heap.size (w.alloc (.cells #[.int .i64 0, .int .i64 0, .int .i64 0] 46)) wr)
  case atStart => exact ⟨i, Nat.le_refl _, Nat.le_refl _, rfl, HF, Below.refl _ _⟩
  case round =>
    obtain ⟨k, hkg, hki, rfl, HK, hB⟩ := hrel
    by_cases h0 : 0 < k
    · have h0i : (0 : Int) < (k : Int) := by omega
      have h0d : decide ((0 : Int) < (k : Int)) = true := decide_eq_true h0i
      have h0e : decide (0 < k) = true := decide_eq_true h0
      have w1 : IntKind.i64.wrap ((k : Int) - 1) = (k : Int) - 1 := IntWalk.i64_in _ (by omega)
      have w2 : IntKind.i64.wrap ((k : Int) - 1 + (q : Int)) = (k : Int) - 1 + (q : Int) := IntWalk.i64_in _ (by omega)
      have x1 := fun W => index_at x ((k : Int) - 1) (k - 1) (by omega) (by omega) W
      have x2 := fun W => index_at x ((k : Int) - 1 + (q : Int)) (k - 1 + q) (by omega) (by omega) W
      have heq1 := at_eq (x := x) (show k - 1 < x.size by omega) (show k - 1 + q < x.size by omega)
      by_cases hE : (bl x)[k - 1]? = (bl x)[k - 1 + q]?
      · have hEb := beq_iff_eq.2 (heq1.1 hE)
        have HN : Hid (strF x q (k - 1) = F) := Lib.hid (by rw [← HK.out, strF_onK h0 hE])
        clear heq1 hE
        generalize x[k - 1]'(by omega) = c1 at *
        generalize x[k - 1 + q]'(by omega) = c2 at *
        go_wp2
        go_quiet (fail)
        go_wp2
        go_roundg (k - 1)
        case measure => omega
        case rel => exact ⟨k - 1, Nat.le_refl _, by omega, by first | rfl | (congr 1; omega), HN, hB.drewN _⟩
      · have hEb := beq_eq_false_iff_ne.2 (fun e => hE (heq1.2 e))
        have HN : Hid (k = F) := Lib.hid (by rw [← HK.out, strF_offK h0 hE])
        clear heq1 hE
        generalize x[k - 1]'(by omega) = c1 at *
        generalize x[k - 1 + q]'(by omega) = c2 at *
        go_wp2
        go_quiet (fail)
        go_wp2
        have hB2 := hB.drewN nq
        generalize World.drewN wr nq = wa at *
        go_loopg [8] (x.size - (i + q)) (fun gk s wr => ∃ t : Nat, t + gk = x.size ∧ i + q ≤ t ∧ s = .int .i64 (t : Int) ∧ Hid (strT x q t = T) ∧ Below (w.alloc (.cells #[.int .i64 0, .int .i64 0, .int .i64 0] 46)).heap.size (w.alloc (.cells #[.int .i64 0, .int .i64 0, .int .i64 0] 46)) wr)
        case atStart => exact ⟨i + q, by omega, Nat.le_refl _, by go_num, HT, hB2⟩
        case round =>
          clear hB2
          obtain ⟨t, htg, hit, rfl, HK2, hB2⟩ := hrel
          by_cases ht : t < x.size
          · have hti : (t : Int) < (x.size : Int) := by omega
            have htd : decide ((t : Int) < (x.size : Int)) = true := decide_eq_true hti
            have hte : decide (t < x.size) = true := decide_eq_true ht
            have v1 : IntKind.i64.wrap ((t : Int) - (q : Int)) = (t : Int) - (q : Int) := IntWalk.i64_in _ (by omega)
            have y1 := fun W => index_at x (t : Int) t ht rfl W
            have y2 := fun W => index_at x ((t : Int) - (q : Int)) (t - q) (by omega) (by omega) W
            have heq2 := at_eq (x := x) ht (show t - q < x.size by omega)
            by_cases hE2 : (bl x)[t]? = (bl x)[t - q]?
            · have hEb2 := beq_iff_eq.2 (heq2.1 hE2)
              have HM : Hid (strT x q (t + 1) = T) := Lib.hid (by rw [← HK2.out, strT_on ht hE2])
              clear heq2 hE2
              generalize x[t]'ht = c3 at *
              generalize x[t - q]'(by omega) = c4 at *
              go_wp2
              go_quiet (fail)
              go_wp2
              go_roundg (gk - 1)
              case measure => omega
              case rel => exact ⟨t + 1, by omega, by omega, by go_num, HM, hB2.drewN _⟩
            · have hEb2 := beq_eq_false_iff_ne.2 (fun e => hE2 (heq2.2 e))
              have HM : Hid (t = T) := Lib.hid (by rw [← HK2.out, strT_off hE2])
              clear heq2 hE2
              generalize x[t]'ht = c3 at *
              generalize x[t - q]'(by omega) = c4 at *
              go_wp2
              go_quiet (fail)
              have hB3 := hB2.drewN nq
              have st := ST.out.later hB3
              have st3 := st.set3 (.int .i64 (k : Int)) (.int .i64 (t : Int)) (.int .i64 (q : Int))
              have bb := ((((Below.new w _).then hB3).setCell (p := ⟨w.heap.size, 0, none⟩) (Nat.le_refl _) (.int .i64 (k : Int))).setCell (p := ⟨w.heap.size, 1, none⟩) (Nat.le_refl _) (.int .i64 (t : Int))).setCell (p := ⟨w.heap.size, 2, none⟩) (Nat.le_refl _) (.int .i64 (q : Int))
              have d0 := st.c0
              have d1 := st.c1
              have d2 := st.c2
              have f0 := st.fz 0
              have f1 := st.fz 1
              have f2 := st.fz 2
              have ST3 := Lib.hid st3
              have BB := Lib.hid bb
              clear st st3 bb
              go_wp2
              exact bodyPost_ret (results_cell_row Tryz.results51 _ _ w.heap.size _ _ _ _ rfl ST3.out Tryz.underlying46 rfl (by kernel_rfl)) rfl ⟨by rw [← HN.out, ← HM.out], BB.out⟩
          · have hti : ¬ (t : Int) < (x.size : Int) := by omega
            have htd : decide ((t : Int) < (x.size : Int)) = false := decide_eq_false hti
            have hte : decide (t < x.size) = false := decide_eq_false ht
            have HM : Hid (t = T) := Lib.hid (by rw [← HK2.out, strT_end (by omega)])
            go_wp2
            go_quiet (fail)
            have hB3 := hB2.drewN nq
            have st := ST.out.later hB3
            have st3 := st.set3 (.int .i64 (k : Int)) (.int .i64 (t : Int)) (.int .i64 (q : Int))
            have bb := ((((Below.new w _).then hB3).setCell (p := ⟨w.heap.size, 0, none⟩) (Nat.le_refl _) (.int .i64 (k : Int))).setCell (p := ⟨w.heap.size, 1, none⟩) (Nat.le_refl _) (.int .i64 (t : Int))).setCell (p := ⟨w.heap.size, 2, none⟩) (Nat.le_refl _) (.int .i64 (q : Int))
            have d0 := st.c0
            have d1 := st.c1
            have d2 := st.c2
            have f0 := st.fz 0
            have f1 := st.fz 1
            have f2 := st.fz 2
            have ST3 := Lib.hid st3
            have BB := Lib.hid bb
            clear st st3 bb
            go_wp2
            exact bodyPost_ret (results_cell_row Tryz.results51 _ _ w.heap.size _ _ _ _ rfl ST3.out Tryz.underlying46 rfl (by kernel_rfl)) rfl ⟨by rw [← HN.out, ← HM.out], BB.out⟩
    · have h0i : ¬ (0 : Int) < (k : Int) := by omega
      have h0d : decide ((0 : Int) < (k : Int)) = false := decide_eq_false h0i
      have h0e : decide (0 < k) = false := decide_eq_false h0
      have HN : Hid (k = F) := Lib.hid (by
        have e : k = 0 := by omega
        rw [← HK.out, e, strF_zero])
      go_wp2
      go_quiet (fail)
      go_wp2
      have hB2 := hB.drewN nq
      generalize World.drewN wr nq = wa at *
      go_loopg [8] (x.size - (i + q)) (fun gk s wr => ∃ t : Nat, t + gk = x.size ∧ i + q ≤ t ∧ s = .int .i64 (t : Int) ∧ Hid (strT x q t = T) ∧ Below (w.alloc (.cells #[.int .i64 0, .int .i64 0, .int .i64 0] 46)).heap.size (w.alloc (.cells #[.int .i64 0, .int .i64 0, .int .i64 0] 46)) wr)
      case atStart => exact ⟨i + q, by omega, Nat.le_refl _, by go_num, HT, hB2⟩
      case round =>
        clear hB2
        obtain ⟨t, htg, hit, rfl, HK2, hB2⟩ := hrel
        by_cases ht : t < x.size
        · have hti : (t : Int) < (x.size : Int) := by omega
          have htd : decide ((t : Int) < (x.size : Int)) = true := decide_eq_true hti
          have hte : decide (t < x.size) = true := decide_eq_true ht
          have v1 : IntKind.i64.wrap ((t : Int) - (q : Int)) = (t : Int) - (q : Int) := IntWalk.i64_in _ (by omega)
          have y1 := fun W => index_at x (t : Int) t ht rfl W
          have y2 := fun W => index_at x ((t : Int) - (q : Int)) (t - q) (by omega) (by omega) W
          have heq2 := at_eq (x := x) ht (show t - q < x.size by omega)
          by_cases hE2 : (bl x)[t]? = (bl x)[t - q]?
          · have hEb2 := beq_iff_eq.2 (heq2.1 hE2)
            have HM : Hid (strT x q (t + 1) = T) := Lib.hid (by rw [← HK2.out, strT_on ht hE2])
            clear heq2 hE2
            generalize x[t]'ht = c3 at *
            generalize x[t - q]'(by omega) = c4 at *
            go_wp2
            go_quiet (fail)
            go_wp2
            go_roundg (gk - 1)
            case measure => omega
            case rel => exact ⟨t + 1, by omega, by omega, by go_num, HM, hB2.drewN _⟩
          · have hEb2 := beq_eq_false_iff_ne.2 (fun e => hE2 (heq2.2 e))
            have HM : Hid (t = T) := Lib.hid (by rw [← HK2.out, strT_off hE2])
            clear heq2 hE2
            generalize x[t]'ht = c3 at *
            generalize x[t - q]'(by omega) = c4 at *
            go_wp2
            go_quiet (fail)
            have hB3 := hB2.drewN nq
            have st := ST.out.later hB3
            have st3 := st.set3 (.int .i64 (k : Int)) (.int .i64 (t : Int)) (.int .i64 (q : Int))
            have bb := ((((Below.new w _).then hB3).setCell (p := ⟨w.heap.size, 0, none⟩) (Nat.le_refl _) (.int .i64 (k : Int))).setCell (p := ⟨w.heap.size, 1, none⟩) (Nat.le_refl _) (.int .i64 (t : Int))).setCell (p := ⟨w.heap.size, 2, none⟩) (Nat.le_refl _) (.int .i64 (q : Int))
            have d0 := st.c0
            have d1 := st.c1
            have d2 := st.c2
            have f0 := st.fz 0
            have f1 := st.fz 1
            have f2 := st.fz 2
            have ST3 := Lib.hid st3
            have BB := Lib.hid bb
            clear st st3 bb
            go_wp2
            exact bodyPost_ret (results_cell_row Tryz.results51 _ _ w.heap.size _ _ _ _ rfl ST3.out Tryz.underlying46 rfl (by kernel_rfl)) rfl ⟨by rw [← HN.out, ← HM.out], BB.out⟩
        · have hti : ¬ (t : Int) < (x.size : Int) := by omega
          have htd : decide ((t : Int) < (x.size : Int)) = false := decide_eq_false hti
          have hte : decide (t < x.size) = false := decide_eq_false ht
          have HM : Hid (t = T) := Lib.hid (by rw [← HK2.out, strT_end (by omega)])
          go_wp2
          go_quiet (fail)
          have hB3 := hB2.drewN nq
          have st := ST.out.later hB3
          have st3 := st.set3 (.int .i64 (k : Int)) (.int .i64 (t : Int)) (.int .i64 (q : Int))
          have bb := ((((Below.new w _).then hB3).setCell (p := ⟨w.heap.size, 0, none⟩) (Nat.le_refl _) (.int .i64 (k : Int))).setCell (p := ⟨w.heap.size, 1, none⟩) (Nat.le_refl _) (.int .i64 (t : Int))).setCell (p := ⟨w.heap.size, 2, none⟩) (Nat.le_refl _) (.int .i64 (q : Int))
          have d0 := st.c0
          have d1 := st.c1
          have d2 := st.c2
          have f0 := st.fz 0
          have f1 := st.fz 1
          have f2 := st.fz 2
          have ST3 := Lib.hid st3
          have BB := Lib.hid bb
          clear st st3 bb
          go_wp2
          exact bodyPost_ret (results_cell_row Tryz.results51 _ _ w.heap.size _ _ _ _ rfl ST3.out Tryz.underlying46 rfl (by kernel_rfl)) rfl ⟨by rw [← HN.out, ← HM.out], BB.out⟩

end Go.Proofs.YtkemdiefoohdjabGreat

/-! ### RunP -/
namespace Go.Proofs.YtkemdiefoohdjabGreat
set_option linter.unusedVariables false
set_option linter.unusedSimpArgs false
open Go.RowKit

abbrev trV (r : Tr) : Value := .agg #[.int .i64 (r.1 : Int), .int .i64 (r.2.1 : Int), .int .i64 (r.2.2 : Int)]
theorem eq3_run (a b : Tr) (W : World) : (binOp .eql 46 (trV a) (trV b)).run Tryz.prog W = .ok (.bool (decide (a = b))) W := by
  obtain ⟨a0, a1, a2⟩ := a
  obtain ⟨b0, b1, b2⟩ := b
  have hf : Tryz.prog.fieldsOf 46 = #[{ name := "From", type := 2, offset := 0, embedded := false, tag := "", pkgPath := "", byteOffset := 0 }, { name := "To", type := 2, offset := 1, embedded := false, tag := "", pkgPath := "", byteOffset := 8 }, { name := "Period", type := 2, offset := 2, embedded := false, tag := "", pkgPath := "", byteOffset := 16 }] := by kernel_rfl
  have hs : Tryz.prog.stoodInHeld 46 = false := by kernel_rfl
  have he : ∀ (W : World) (a b : Int), (Op.equalIn 9999 2 (.int .i64 a) (.int .i64 b)).run Tryz.prog W = .ok (a == b) W := fun W a b => run_equalIn_int W 9998 2 .i64 .i64 a b Tryz.underlying2
  have p3 : ∀ (W : World) (x y z : Value) (j : Nat), j < 3 → (part 2 #[x, y, z] j).run Tryz.prog W = .ok ([x, y, z].getD j undef) W := by
    intro W x y z j hj
    rcases (show j = 0 ∨ j = 1 ∨ j = 2 by omega) with rfl | rfl | rfl <;> simp [part, isAgg, run_underlying Tryz.underlying2]
  have q0 := fun W x y z => p3 W x y z 0 (by omega)
  have q1 := fun W x y z => p3 W x y z 1 (by omega)
  have q2 := fun W x y z => p3 W x y z 2 (by omega)
  rw [run_eql_struct, show (10000 : Nat) = 9999 + 1 from rfl, run_equalIn_struct W 9999 _ _ _ (by rw [hf]; exact Tryz.underlying46) hs, hf]
  have key : (Op.eqFields 9999 #[.int .i64 (a0 : Int), .int .i64 (a1 : Int), .int .i64 (a2 : Int)] #[.int .i64 (b0 : Int), .int .i64 (b1 : Int), .int .i64 (b2 : Int)] (#[{ name := "From", type := 2, offset := 0, embedded := false, tag := "", pkgPath := "", byteOffset := 0 }, { name := "To", type := 2, offset := 1, embedded := false, tag := "", pkgPath := "", byteOffset := 8 }, { name := "Period", type := 2, offset := 2, embedded := false, tag := "", pkgPath := "", byteOffset := 16 }] : Array Field).toList).run Tryz.prog W = .ok (decide ((a0, a1, a2) = (b0, b1, b2))) W := by
    simp only [Op.eqFields, List.toList_toArray, Sem.run_bind, q0, q1, q2, Result.andThen_ok, List.getD_cons_zero, List.getD_cons_succ, he, Prod.mk.injEq]
    by_cases h0 : a0 = b0
    · by_cases h1 : a1 = b1
      · by_cases h2 : a2 = b2
        · simp [h0, h1, h2, q0, q1, q2, he]
        · have h2' : ¬ (a2 : Int) = b2 := by omega
          simp [h0, h1, h2, h2', q0, q1, q2, he]
      · have h1' : ¬ (a1 : Int) = b1 := by omega
        simp [h0, h1, h1', q0, q1, q2, he]
    · have h0' : ¬ (a0 : Int) = b0 := by omega
      simp [h0, h0', q0, q1, q2, he]
  show ((Op.eqFields 9999 _ _ _).run Tryz.prog W).andThen _ = _
  rw [key]
  rfl

/-- What the loop holds as the run before. -/
def befT (x : ByteArray) (q i : Nat) : Tr := if i = 0 then (0, 0, 0) else icell x q (i - 1)
theorem befT_zero (x : ByteArray) (q : Nat) : befT x q 0 = (0, 0, 0) := rfl
theorem befT_succ (x : ByteArray) (q i : Nat) : befT x q (i + 1) = icell x q i := rfl
theorem keep_iff {x : ByteArray} {q i : Nat} (hq : 0 < q) : keep x q i ↔ icell x q i ≠ befT x q i ∧ keepR x q i := by
  unfold keep befT
  constructor
  · rintro ⟨h1, h2⟩
    refine ⟨?_, h2⟩
    by_cases e : i = 0
    · rw [if_pos e]
      intro c
      have := congrArg (fun r : Tr => r.2.2) c
      simp only [icell] at this
      omega
    · rw [if_neg e]
      exact h1.elim (fun c => absurd c e) id
  · rintro ⟨h1, h2⟩
    refine ⟨?_, h2⟩
    by_cases e : i = 0
    · exact .inl e
    · rw [if_neg e] at h1; exact .inr h1
abbrev RnT (W : World) (b : Nat) (r : Tr) : Prop := Rn3 W b (.int .i64 (r.1 : Int)) (.int .i64 (r.2.1 : Int)) (.int .i64 (r.2.2 : Int))
theorem ext_len (x : ByteArray) {F T : Nat} (h1 : F ≤ T) (h2 : T ≤ x.size) : (x.extract F T).size = T - F := by simp; omega

set_option maxRecDepth 100000 in
set_option maxHeartbeats 8000000 in
theorem runsWithPeriod_any (x : ByteArray) (q : Nat) (w : World) (hx : x.size ≤ 60) (hq : 0 < q) (h2 : 2 * q ≤ x.size) :
    Calls Tryz.prog 28 #[.string x, .int .i64 (q : Int)] w fun e w' => ∃ v, e = .returned v ∧ OwnT w' w.heap.size v (irow x q (x.size + 1 - 2 * q)) ∧ Below w.heap.size w w' := by
  obtain ⟨i0, hi, hz0, hz1, hz2⟩ := info_parts infoT
  obtain ⟨N, hN⟩ : ∃ N, x.size + 1 - 2 * q = N := ⟨_, rfl⟩
  rw [hN]
  have hNx : N + 2 * q = x.size + 1 := by omega
  have ST0 := Lib.hid (Rn3.new w (.int .i64 0) (.int .i64 0) (.int .i64 0))
  have HLN := Lib.hid (irow_len x q)
  clear hN
  go_enter Tryz.func28, Tryz.ntmps28
  go_wp2
  go_loopg [5, 7] N (fun gk v s wr => ∃ (i : Nat) (r : Tr), i + gk = N ∧ s = .int .i64 (i : Int) ∧ OwnT wr (w.heap.size + 1) v (irow x q i) ∧ RnT wr w.heap.size r ∧ Hid (r = befT x q i) ∧ Below w.heap.size w wr)
  case atStart => exact ⟨0, (0, 0, 0), by omega, rfl, OwnT.nil _ _, ST0.out, Lib.hid rfl, Below.new _ _⟩
  case round =>
    obtain ⟨i, r, hig, rfl, own, st, HR, hB⟩ := hrel
    have hbz := hB.size
    have hlt := st.lt
    by_cases hp : i < N
    · obtain ⟨g1, rfl⟩ : ∃ j, gk = j + 1 := ⟨gk - 1, by omega⟩
      have hci : (i : Int) + 2 * (q : Int) ≤ (x.size : Int) := by omega
      have CS := Lib.hid fun W => stretchOf_any x i q W hx hq (by omega)
      obtain ⟨b1, b2, b3⟩ := icell_bd (x := x) (q := q) (i := i) (by omega)
      have HK := Lib.hid (keep_iff (x := x) (i := i) hq)
      have HKR : Hid (keepR x q i ↔ (2 * q ≤ strT x q (i + q) - strF x q i ∧ lpf x (strF x q i) (strT x q (i + q) - strF x q i) = q)) := Lib.hid Iff.rfl
      have HIC : Hid (icell x q i = (strF x q i, strT x q (i + q), q)) := Lib.hid rfl
      have HBS := Lib.hid (befT_succ x q i)
      have HY : Hid (keep x q i → irow x q (i + 1) = irow x q i ++ [icell x q i]) := Lib.hid irow_yes
      have HNO : Hid (¬ keep x q i → irow x q (i + 1) = irow x q i) := Lib.hid irow_no
      have hil := HLN.out i
      have CL : Hid (∀ W, Calls Tryz.prog 52 #[.string (x.extract (strF x q i) (strT x q (i + q)))] W fun e w' => e = .returned (.int .i64 (lpf x (strF x q i) (strT x q (i + q) - strF x q i) : Int)) ∧ Below W.heap.size W w') := Lib.hid fun W => by
        have hs := ext_len x (F := strF x q i) (T := strT x q (i + q)) (by omega) b3
        have := leastPeriod_any (x.extract (strF x q i) (strT x q (i + q))) W (by omega) (by omega)
        unfold lpf
        rwa [show strF x q i + (strT x q (i + q) - strF x q i) = strT x q (i + q) by omega]
      have SL := fun W => slice_two x (strF x q i : Int) (strT x q (i + q) : Int) (strF x q i) (strT x q (i + q)) rfl rfl (by omega) b3 W
      have hlb := lpf_bd (x := x) (i := strF x q i) (m := strT x q (i + q) - strF x q i) (by omega) (by omega)
      obtain ⟨hl0, hl1⟩ := hlb
      generalize lpf x (strF x q i) (strT x q (i + q) - strF x q i) = p at *
      generalize x.extract (strF x q i) (strT x q (i + q)) = y at *
      generalize strF x q i = F at *
      generalize strT x q (i + q) = T at *
      generalize irow x q i = L at *
      have EQ := fun W => eq3_run (F, T, q) r W
      simp only [trV] at EQ
      have c0 := st.c0
      have c1 := st.c1
      have c2 := st.c2
      have ST := Lib.hid st
      have OWN := Lib.hid own
      have HB := Lib.hid hB
      clear st own hB
      by_cases he : (F, T, q) = r
      · have HE : Hid (irow x q (i + 1) = L) := Lib.hid (HNO.out fun k => (HK.out.1 k).1 (by rw [HIC.out, ← HR.out]; exact he))
        have HR2 : Hid (r = befT x q (i + 1)) := Lib.hid (by rw [HBS.out, HIC.out]; exact he.symm)
        rw [decide_eq_true he] at EQ
        clear he
        go_wp2_with fail
        refine (CS.out _).mono ?_
        rintro e w2 ⟨rfl, q2⟩
        have hz2' := q2.size
        have NW := Rn3.new w2 (.int .i64 (F : Int)) (.int .i64 (T : Int)) (.int .i64 (q : Int))
        have ST2 := Lib.hid ((ST.out.later q2).later (Below.new w2 (.cells #[.int .i64 (F : Int), .int .i64 (T : Int), .int .i64 (q : Int)] 46)))
        have n0 := NW.c0
        have n1 := NW.c1
        have n2 := NW.c2
        have m0 := ST2.out.c0
        have m1 := ST2.out.c1
        have m2 := ST2.out.c2
        have OWN2 := Lib.hid ((OWN.out.below q2).below (Below.new w2 (.cells #[.int .i64 (F : Int), .int .i64 (T : Int), .int .i64 (q : Int)] 46)))
        have HB2 := Lib.hid ((HB.out.then q2).then (Below.new w2 (.cells #[.int .i64 (F : Int), .int .i64 (T : Int), .int .i64 (q : Int)] 46)))
        clear NW c0 c1 c2
        go_wp2_with fail
        go_roundg g1
        case measure => omega
        case rel => exact ⟨i + 1, r, by omega, by go_num, by rw [HE.out]; exact OWN2.out, ST2.out, HR2, HB2.out⟩
      · have HK2 : Hid (keep x q i ↔ (2 * q ≤ T - F ∧ p = q)) := Lib.hid (by
          rw [HK.out, HKR.out]
          exact ⟨fun h => h.2, fun h => ⟨by rw [HIC.out, ← HR.out]; exact he, h⟩⟩)
        have HR2 : Hid ((F, T, q) = befT x q (i + 1)) := Lib.hid (by rw [HBS.out, HIC.out])
        rw [decide_eq_false he] at EQ
        clear he
        have wr1 : IntKind.i64.wrap ((T : Int) - (F : Int)) = (T : Int) - (F : Int) := IntWalk.i64_in _ (by omega)
        by_cases hA : 2 * q ≤ T - F
        · have hAi : 2 * (q : Int) ≤ (T : Int) - (F : Int) := by omega
          have hAd : decide (2 * (q : Int) ≤ (T : Int) - (F : Int)) = true := decide_eq_true hAi
          by_cases hP : p = q
          · have HE : Hid (irow x q (i + 1) = L ++ [(F, T, q)]) := Lib.hid (by rw [HY.out (HK2.out.2 ⟨hA, hP⟩), HIC.out])
            have hPb : ((p : Int) == (q : Int)) = true := by rw [hP]; exact beq_self_eq_true _
            have hPi : (p : Int) = (q : Int) := by omega
            have HP := Lib.hid hP
            clear hP hA
            go_wp2_with fail
            refine (CS.out _).mono ?_
            rintro e w2 ⟨rfl, q2⟩
            have hz2' := q2.size
            have NW := Rn3.new w2 (.int .i64 (F : Int)) (.int .i64 (T : Int)) (.int .i64 (q : Int))
            have hb2 : Below w2.heap.size w2 (w2.alloc (.cells #[.int .i64 (F : Int), .int .i64 (T : Int), .int .i64 (q : Int)] 46)) := Below.new _ _
            have st2 := (ST.out.later q2).later hb2
            have own2 := (OWN.out.below q2).below hb2
            have hB2 := (HB.out.then q2).then hb2
            have n0 := NW.c0
            have n1 := NW.c1
            have n2 := NW.c2
            have m0 := st2.c0
            have m1 := st2.c1
            have m2 := st2.c2
            have f0 := st2.fz 0
            have f1 := st2.fz 1
            have f2 := st2.fz 2
            have ST3 := Lib.hid (st2.set3 (.int .i64 (F : Int)) (.int .i64 (T : Int)) (.int .i64 (q : Int)))
            have NW3 := ((NW.other (j := 0) (show w2.heap.size ≠ w.heap.size by omega) (.int .i64 (F : Int))).other (j := 1) (show w2.heap.size ≠ w.heap.size by omega) (.int .i64 (T : Int))).other (j := 2) (show w2.heap.size ≠ w.heap.size by omega) (.int .i64 (q : Int))
            have OWN3 : Hid (OwnT ((((w2.alloc (.cells #[.int .i64 (F : Int), .int .i64 (T : Int), .int .i64 (q : Int)] 46)).setCell ⟨w.heap.size, 0, none⟩ (.int .i64 (F : Int))).setCell ⟨w.heap.size, 1, none⟩ (.int .i64 (T : Int))).setCell ⟨w.heap.size, 2, none⟩ (.int .i64 (q : Int))) (w.heap.size + 1) u5 L) := Lib.hid (ownsRow_setCell_below (ownsRow_setCell_below (ownsRow_setCell_below own2 (Nat.lt_succ_self _) _) (Nat.lt_succ_self _) _) (Nat.lt_succ_self _) _)
            have HB3 := Lib.hid (((hB2.setCell (p := ⟨w.heap.size, 0, none⟩) (Nat.le_refl _) (.int .i64 (F : Int))).setCell (p := ⟨w.heap.size, 1, none⟩) (Nat.le_refl _) (.int .i64 (T : Int))).setCell (p := ⟨w.heap.size, 2, none⟩) (Nat.le_refl _) (.int .i64 (q : Int)))
            have NN3 := Lib.hid NW3
            have k0 := NW3.c0
            have k1 := NW3.c1
            have k2 := NW3.c2
            have hzn := NW3.lt
            clear NW NW3 st2 own2 hB2 hb2 c0 c1 c2
            clear hPi
            go_wp2_with fail
            refine (CL.out _).mono ?_
            rintro e w4 ⟨rfl, q4⟩
            have st4 := ST3.out.later q4
            have own5 := OWN3.out.below q4
            have hB4 := HB3.out.then q4
            have hz4 := hB4.size
            have nn4 := NN3.out.later q4
            have j0 := nn4.c0
            have j1 := nn4.c1
            have j2 := nn4.c2
            have ST4 := Lib.hid st4
            have HB4 := Lib.hid hB4
            clear st4 nn4 hB4
            go_wp2_with (at_builtin; go_loud (refine wpList_append_own _ rfl _ _ 25 rfl (w.heap.size + 1) 46 i0 (.agg #[.int .i64 0, .int .i64 0, .int .i64 0]) 3 24 Tryz.underlying25 hi hz0 hz1 hz2 rfl (by decide) _ _ _ rfl (World.ownsRow.alloc own5 _) ⟨_, 0, none⟩ 1 1 [.int .i64 (F : Int), .int .i64 (T : Int), .int .i64 (q : Int)] rfl rfl (cells3_new _ _ _ _ _) (by intro u hu; simp at hu; rcases hu with rfl | rfl | rfl <;> rfl) (by unfold maxLen; omega) (by omega) (by simp; omega) ?_); intro v' w6 hown' hgrow _)
            have HO := Lib.hid (ownT_snoc hown')
            rw [← HE.out] at HO
            have stz := (ST4.out.later (Below.new w4 (.cells #[.int .i64 (F : Int), .int .i64 (T : Int), .int .i64 (q : Int)] 46))).grown hgrow (fun e => by have := (own5.lt _ e.symm).1; omega)
            have HB5 : Below w.heap.size w w6 := (HB4.out.alloc HB4.out.size _).grown hgrow (HB4.out.alloc HB4.out.size _).size (fun z hz => by have := (own5.lt z hz).1; omega)
            have STZ := Lib.hid stz
            clear stz own5 hown' hgrow
            go_wp2_with fail
            go_roundg g1
            case measure => omega
            case rel => exact ⟨i + 1, (F, T, q), by omega, by go_num, HO.out, STZ.out, HR2, HB5⟩
          · have HE : Hid (irow x q (i + 1) = L) := Lib.hid (HNO.out fun k => hP (HK2.out.1 k).2)
            have hPb : ((p : Int) == (q : Int)) = false := beq_eq_false_iff_ne.2 (by omega)
            have hPi : ¬ (p : Int) = (q : Int) := by omega
            clear hP hA
            go_wp2_with fail
            refine (CS.out _).mono ?_
            rintro e w2 ⟨rfl, q2⟩
            have hz2' := q2.size
            have NW := Rn3.new w2 (.int .i64 (F : Int)) (.int .i64 (T : Int)) (.int .i64 (q : Int))
            have hb2 : Below w2.heap.size w2 (w2.alloc (.cells #[.int .i64 (F : Int), .int .i64 (T : Int), .int .i64 (q : Int)] 46)) := Below.new _ _
            have st2 := (ST.out.later q2).later hb2
            have own2 := (OWN.out.below q2).below hb2
            have hB2 := (HB.out.then q2).then hb2
            have n0 := NW.c0
            have n1 := NW.c1
            have n2 := NW.c2
            have m0 := st2.c0
            have m1 := st2.c1
            have m2 := st2.c2
            have f0 := st2.fz 0
            have f1 := st2.fz 1
            have f2 := st2.fz 2
            have ST3 := Lib.hid (st2.set3 (.int .i64 (F : Int)) (.int .i64 (T : Int)) (.int .i64 (q : Int)))
            have NW3 := ((NW.other (j := 0) (show w2.heap.size ≠ w.heap.size by omega) (.int .i64 (F : Int))).other (j := 1) (show w2.heap.size ≠ w.heap.size by omega) (.int .i64 (T : Int))).other (j := 2) (show w2.heap.size ≠ w.heap.size by omega) (.int .i64 (q : Int))
            have OWN3 : Hid (OwnT ((((w2.alloc (.cells #[.int .i64 (F : Int), .int .i64 (T : Int), .int .i64 (q : Int)] 46)).setCell ⟨w.heap.size, 0, none⟩ (.int .i64 (F : Int))).setCell ⟨w.heap.size, 1, none⟩ (.int .i64 (T : Int))).setCell ⟨w.heap.size, 2, none⟩ (.int .i64 (q : Int))) (w.heap.size + 1) u5 L) := Lib.hid (ownsRow_setCell_below (ownsRow_setCell_below (ownsRow_setCell_below own2 (Nat.lt_succ_self _) _) (Nat.lt_succ_self _) _) (Nat.lt_succ_self _) _)
            have HB3 := Lib.hid (((hB2.setCell (p := ⟨w.heap.size, 0, none⟩) (Nat.le_refl _) (.int .i64 (F : Int))).setCell (p := ⟨w.heap.size, 1, none⟩) (Nat.le_refl _) (.int .i64 (T : Int))).setCell (p := ⟨w.heap.size, 2, none⟩) (Nat.le_refl _) (.int .i64 (q : Int)))
            have NN3 := Lib.hid NW3
            have k0 := NW3.c0
            have k1 := NW3.c1
            have k2 := NW3.c2
            have hzn := NW3.lt
            clear NW NW3 st2 own2 hB2 hb2 c0 c1 c2
            go_wp2_with fail
            refine (CL.out _).mono ?_
            rintro e w4 ⟨rfl, q4⟩
            have st4 := ST3.out.later q4
            have own5 := OWN3.out.below q4
            have hB4 := HB3.out.then q4
            have hz4 := hB4.size
            have nn4 := NN3.out.later q4
            have j0 := nn4.c0
            have j1 := nn4.c1
            have j2 := nn4.c2
            have ST4 := Lib.hid st4
            have HB4 := Lib.hid hB4
            clear st4 nn4 hB4
            go_wp2_with fail
            go_roundg g1
            case measure => omega
            case rel => exact ⟨i + 1, (F, T, q), by omega, by go_num, by rw [HE.out]; exact own5, ST4.out, HR2, HB4.out⟩
        · have hAi : ¬ 2 * (q : Int) ≤ (T : Int) - (F : Int) := by omega
          have hAd : decide (2 * (q : Int) ≤ (T : Int) - (F : Int)) = false := decide_eq_false hAi
          have HE : Hid (irow x q (i + 1) = L) := Lib.hid (HNO.out fun k => hA (HK2.out.1 k).1)
          clear hA
          go_wp2_with fail
          refine (CS.out _).mono ?_
          rintro e w2 ⟨rfl, q2⟩
          have hz2' := q2.size
          have NW := Rn3.new w2 (.int .i64 (F : Int)) (.int .i64 (T : Int)) (.int .i64 (q : Int))
          have hb2 : Below w2.heap.size w2 (w2.alloc (.cells #[.int .i64 (F : Int), .int .i64 (T : Int), .int .i64 (q : Int)] 46)) := Below.new _ _
          have st2 := (ST.out.later q2).later hb2
          have own2 := (OWN.out.below q2).below hb2
          have hB2 := (HB.out.then q2).then hb2
          have n0 := NW.c0
          have n1 := NW.c1
          have n2 := NW.c2
          have m0 := st2.c0
          have m1 := st2.c1
          have m2 := st2.c2
          have f0 := st2.fz 0
          have f1 := st2.fz 1
          have f2 := st2.fz 2
          have ST3 := Lib.hid (st2.set3 (.int .i64 (F : Int)) (.int .i64 (T : Int)) (.int .i64 (q : Int)))
          have NW3 := ((NW.other (j := 0) (show w2.heap.size ≠ w.heap.size by omega) (.int .i64 (F : Int))).other (j := 1) (show w2.heap.size ≠ w.heap.size by omega) (.int .i64 (T : Int))).other (j := 2) (show w2.heap.size ≠ w.heap.size by omega) (.int .i64 (q : Int))
          have OWN3 : Hid (OwnT ((((w2.alloc (.cells #[.int .i64 (F : Int), .int .i64 (T : Int), .int .i64 (q : Int)] 46)).setCell ⟨w.heap.size, 0, none⟩ (.int .i64 (F : Int))).setCell ⟨w.heap.size, 1, none⟩ (.int .i64 (T : Int))).setCell ⟨w.heap.size, 2, none⟩ (.int .i64 (q : Int))) (w.heap.size + 1) u5 L) := Lib.hid (ownsRow_setCell_below (ownsRow_setCell_below (ownsRow_setCell_below own2 (Nat.lt_succ_self _) _) (Nat.lt_succ_self _) _) (Nat.lt_succ_self _) _)
          have HB3 := Lib.hid (((hB2.setCell (p := ⟨w.heap.size, 0, none⟩) (Nat.le_refl _) (.int .i64 (F : Int))).setCell (p := ⟨w.heap.size, 1, none⟩) (Nat.le_refl _) (.int .i64 (T : Int))).setCell (p := ⟨w.heap.size, 2, none⟩) (Nat.le_refl _) (.int .i64 (q : Int)))
          have NN3 := Lib.hid NW3
          have k0 := NW3.c0
          have k1 := NW3.c1
          have k2 := NW3.c2
          have hzn := NW3.lt
          clear NW NW3 st2 own2 hB2 hb2 c0 c1 c2
          go_wp2_with fail
          go_roundg g1
          case measure => omega
          case rel => exact ⟨i + 1, (F, T, q), by omega, by go_num, by rw [HE.out]; exact OWN3.out, ST3.out, HR2, HB3.out⟩
    · obtain rfl : gk = 0 := by omega
      obtain rfl : i = N := by omega
      have hci : ¬ (i : Int) + 2 * (q : Int) ≤ (x.size : Int) := by omega
      have HO := Lib.hid own
      clear own st
      go_wp2
      go_ret
      exact ⟨_, rfl, HO.out.base (by omega), hB⟩

end Go.Proofs.YtkemdiefoohdjabGreat

/-! ### RunC -/
namespace Go.Proofs.YtkemdiefoohdjabGreat
set_option linter.unusedVariables false
set_option linter.unusedSimpArgs false
open Go.RowKit Go.Sort

set_option maxRecDepth 100000 in
theorem isNaN_any (a : Int) (w : World) :
    Calls Tryz.prog 83 #[.int .i64 a] w fun e w' => e = .returned (.bool false) ∧ w' = w := by
  go_enter Tryz.func83, Tryz.ntmps83
  go_wp2
  go_ret
  exact ⟨by simp, rfl⟩

set_option maxRecDepth 100000 in
theorem cmpCompare_any (a b : Nat) (w : World) :
    Calls Tryz.prog 56 #[.int .i64 (a : Int), .int .i64 (b : Int)] w fun e w' => e = .returned (.int .i64 (cmpN a b)) ∧ w' = w := by
  have CN := Lib.hid isNaN_any
  by_cases h1 : a < b
  · have h1i : (a : Int) < (b : Int) := by omega
    have HR : Hid (cmpN a b = -1) := Lib.hid (by unfold cmpN; rw [if_pos h1])
    clear h1
    go_enter Tryz.func56, Tryz.ntmps56
    go_wp2_with fail
    refine (CN.out _ _).mono ?_
    rintro e w1 ⟨rfl, rfl⟩
    go_wp2_with fail
    refine (CN.out _ _).mono ?_
    rintro e w2 ⟨rfl, rfl⟩
    go_wp2_with fail
    go_ret
    exact ⟨by rw [HR.out]; rfl, rfl⟩
  · have h1i : ¬ (a : Int) < (b : Int) := by omega
    by_cases h2 : b < a
    · have h2i : (b : Int) < (a : Int) := by omega
      have HR : Hid (cmpN a b = 1) := Lib.hid (by unfold cmpN; rw [if_neg h1, if_pos h2])
      clear h1 h2
      go_enter Tryz.func56, Tryz.ntmps56
      go_wp2_with fail
      refine (CN.out _ _).mono ?_
      rintro e w1 ⟨rfl, rfl⟩
      go_wp2_with fail
      refine (CN.out _ _).mono ?_
      rintro e w2 ⟨rfl, rfl⟩
      go_wp2_with fail
      go_ret
      exact ⟨by rw [HR.out]; rfl, rfl⟩
    · have h2i : ¬ (b : Int) < (a : Int) := by omega
      have HR : Hid (cmpN a b = 0) := Lib.hid (by unfold cmpN; rw [if_neg h1, if_neg h2])
      clear h1 h2
      go_enter Tryz.func56, Tryz.ntmps56
      go_wp2_with fail
      refine (CN.out _ _).mono ?_
      rintro e w1 ⟨rfl, rfl⟩
      go_wp2_with fail
      refine (CN.out _ _).mono ?_
      rintro e w2 ⟨rfl, rfl⟩
      go_wp2_with fail
      go_ret
      exact ⟨by rw [HR.out]; rfl, rfl⟩

/-- The first of three numbers that is not 0. -/
def or3 (a b c : Int) : Int := if a ≠ 0 then a else if b ≠ 0 then b else c
set_option maxRecDepth 100000 in
set_option maxHeartbeats 1000000 in
theorem cmpOr_any (g : Nat) (a b c : Int) (w : World) (k0 : w.cell? ⟨g, 0, none⟩ = some (.int .i64 a)) (k1 : w.cell? ⟨g, 1, none⟩ = some (.int .i64 b)) (k2 : w.cell? ⟨g, 2, none⟩ = some (.int .i64 c)) :
    Calls Tryz.prog 55 #[.slice (some ⟨g, 0, none⟩) 3 3] w fun e w' => e = .returned (.int .i64 (or3 a b c)) ∧ w' = w := by
  have C : Hid (∀ i, i < 3 → w.cell? ⟨g, i, none⟩ = some (.int .i64 ([a, b, c].getD i 0))) := Lib.hid fun i hi => by
    rcases (show i = 0 ∨ i = 1 ∨ i = 2 by omega) with rfl | rfl | rfl
    · exact k0
    · exact k1
    · exact k2
  have HR : Hid (∀ i, i < 3 → (∀ j, j < i → [a, b, c].getD j 0 = 0) → [a, b, c].getD i 0 ≠ 0 → or3 a b c = [a, b, c].getD i 0) := Lib.hid fun i hi hz hn => by
    unfold or3
    rcases (show i = 0 ∨ i = 1 ∨ i = 2 by omega) with rfl | rfl | rfl
    · have hn' : a ≠ 0 := hn
      rw [if_pos hn']; rfl
    · have h0 : a = 0 := hz 0 (by omega)
      have hn' : b ≠ 0 := hn
      rw [if_neg (fun e => e h0), if_pos hn']; rfl
    · have h0 : a = 0 := hz 0 (by omega)
      have h1 : b = 0 := hz 1 (by omega)
      rw [if_neg (fun e => e h0), if_neg (fun e => e h1)]; rfl
  have HZ : Hid ((∀ j, j < 3 → [a, b, c].getD j 0 = 0) → or3 a b c = 0) := Lib.hid fun hz => by
    have h0 : a = 0 := hz 0 (by omega)
    have h1 : b = 0 := hz 1 (by omega)
    have h2 : c = 0 := hz 2 (by omega)
    unfold or3
    rw [if_neg (fun e => e h0), if_neg (fun e => e h1)]
    exact h2
  clear k0 k1 k2
  generalize or3 a b c = R at *
  generalize [a, b, c] = L at *
  go_enter Tryz.func55, Tryz.ntmps55
  go_wp2
  go_loopg [8] 3 (fun gk s wr => ∃ i : Nat, i + gk = 3 ∧ s = .int .i64 (i : Int) ∧ Hid (∀ j, j < i → L.getD j 0 = 0) ∧ w = wr)
  case atStart => exact ⟨0, by omega, rfl, Lib.hid fun j hj => by omega, rfl⟩
  case round =>
    obtain ⟨i, hig, rfl, HA, hwr⟩ := hrel
    subst hwr
    by_cases hp : i < 3
    · obtain ⟨g1, rfl⟩ : ∃ j, gk = j + 1 := ⟨gk - 1, by omega⟩
      have hpi : (i : Int) < 3 := by omega
      have ck := C.out i hp
      have HRI := Lib.hid (HR.out i hp HA.out)
      have HAS : Hid (L.getD i 0 = 0 → ∀ j, j < i + 1 → L.getD j 0 = 0) := Lib.hid fun e j hj => by
        by_cases q : j = i
        · rw [q]; exact e
        · exact HA.out j (by omega)
      generalize L.getD i 0 = z at *
      by_cases hz : z = 0
      · have HA2 := Lib.hid (HAS.out hz)
        subst hz
        go_wp2
        go_roundg g1
        case measure => omega
        case rel => exact ⟨i + 1, by omega, by go_num, HA2, rfl⟩
      · have HE := Lib.hid (HRI.out hz)
        have hzb : (z != 0) = true := by simp [hz]
        go_wp2
        go_ret
        exact ⟨by rw [HE.out]; rfl, rfl⟩
    · obtain rfl : gk = 0 := by omega
      obtain rfl : i = 3 := by omega
      have HE := Lib.hid (HZ.out HA.out)
      go_wp2
      go_ret
      exact ⟨by rw [HE.out]; rfl, rfl⟩

end Go.Proofs.YtkemdiefoohdjabGreat

/-! ### RunD -/
namespace Go.Proofs.YtkemdiefoohdjabGreat
set_option linter.unusedVariables false
set_option linter.unusedSimpArgs false
open Go.RowKit Go.Sort

set_option maxRecDepth 100000 in
set_option maxHeartbeats 2000000 in
theorem compareRuns_any (a b : Tr) (w : World) :
    Calls Tryz.prog 30 #[.agg (encTr a).toArray, .agg (encTr b).toArray] w fun e w' => e = .returned (.int .i64 (cmpT a b)) ∧ ∃ q os', w' = grow (w.drewN q) os' := by
  obtain ⟨a1, a2, a3⟩ := a
  obtain ⟨b1, b2, b3⟩ := b
  show Calls _ _ #[.agg #[.int .i64 (a1 : Int), .int .i64 (a2 : Int), .int .i64 (a3 : Int)], .agg #[.int .i64 (b1 : Int), .int .i64 (b2 : Int), .int .i64 (b3 : Int)]] _ _
  have HR : Hid (cmpT (a1, a2, a3) (b1, b2, b3) = or3 (cmpN a1 b1) (cmpN a2 b2) (cmpN a3 b3)) := Lib.hid rfl
  have C1 := Lib.hid (cmpCompare_any a1 b1)
  have C2 := Lib.hid (cmpCompare_any a2 b2)
  have C3 := Lib.hid (cmpCompare_any a3 b3)
  have NX := Rn3.new w (.int .i64 (a1 : Int)) (.int .i64 (a2 : Int)) (.int .i64 (a3 : Int))
  have NY := Rn3.new (w.alloc (.cells #[.int .i64 (a1 : Int), .int .i64 (a2 : Int), .int .i64 (a3 : Int)] 46)) (.int .i64 (b1 : Int)) (.int .i64 (b2 : Int)) (.int .i64 (b3 : Int))
  have NX2 := NX.later (Below.new (w.alloc (.cells #[.int .i64 (a1 : Int), .int .i64 (a2 : Int), .int .i64 (a3 : Int)] 46)) (.cells #[.int .i64 (b1 : Int), .int .i64 (b2 : Int), .int .i64 (b3 : Int)] 46))
  have HG : Hid ((w.alloc (.cells #[.int .i64 (a1 : Int), .int .i64 (a2 : Int), .int .i64 (a3 : Int)] 46)).alloc (.cells #[.int .i64 (b1 : Int), .int .i64 (b2 : Int), .int .i64 (b3 : Int)] 46) = grow w #[.cells #[.int .i64 (a1 : Int), .int .i64 (a2 : Int), .int .i64 (a3 : Int)] 46, .cells #[.int .i64 (b1 : Int), .int .i64 (b2 : Int), .int .i64 (b3 : Int)] 46]) := Lib.hid (by rw [alloc_eq_grow, alloc_eq_grow, grow_grow]; rfl)
  have x0 := NX2.c0
  have x1 := NX2.c1
  have x2 := NX2.c2
  have y0 := NY.c0
  have y1 := NY.c1
  have y2 := NY.c2
  have hsz : ((w.alloc (.cells #[.int .i64 (a1 : Int), .int .i64 (a2 : Int), .int .i64 (a3 : Int)] 46)).heap.size) = w.heap.size + 1 := Array.size_push _
  rw [hsz] at y0 y1 y2
  have hsz2 : ((w.alloc (.cells #[.int .i64 (a1 : Int), .int .i64 (a2 : Int), .int .i64 (a3 : Int)] 46)).alloc (.cells #[.int .i64 (b1 : Int), .int .i64 (b2 : Int), .int .i64 (b3 : Int)] 46)).heap.size = w.heap.size + 2 := (Array.size_push _).trans (by rw [hsz])
  clear NX NY NX2 hsz
  have hmo : Tryz.prog.follows .mixedOrders = true := by kernel_rfl
  go_enter Tryz.func30, Tryz.ntmps30
  go_wp2_with fail
  generalize (w.alloc (.cells #[.int .i64 (a1 : Int), .int .i64 (a2 : Int), .int .i64 (a3 : Int)] 46)).alloc (.cells #[.int .i64 (b1 : Int), .int .i64 (b2 : Int), .int .i64 (b3 : Int)] 46) = W at *
  go_still_tail 15, hmo
  still_call (C1.out _)
  repeat still_step
  still_call (C2.out _)
  repeat still_step
  still_call (C3.out _)
  refine wpStill_nil ?_
  clear x0 x1 x2 y0 y1 y2
  generalize cmpN a1 b1 = v1 at *
  generalize cmpN a2 b2 = v2 at *
  generalize cmpN a3 b3 = v3 at *
  go_wp2_with fail
  have hn := World.alloc_heap_new W (.cells #[.int .i64 v1, .int .i64 v2, .int .i64 v3] 3)
  rw [hsz2] at hn
  have hd : ((W.alloc (.cells #[.int .i64 v1, .int .i64 v2, .int .i64 v3] 3)).drew).heap = (W.alloc (.cells #[.int .i64 v1, .int .i64 v2, .int .i64 v3] 3)).heap := rfl
  refine (cmpOr_any (w.heap.size + 2) v1 v2 v3 _ (by simp only [World.cell?, hd, hn]; rfl) (by simp only [World.cell?, hd, hn]; rfl) (by simp only [World.cell?, hd, hn]; rfl)).mono ?_
  clear hn hd
  rintro e w5 ⟨rfl, rfl⟩
  go_wp2_with fail
  go_ret
  have HF : Hid (∃ q os', (W.alloc (.cells #[.int .i64 v1, .int .i64 v2, .int .i64 v3] 3)).drew = grow (w.drewN q) os') := Lib.hid ⟨1, _, by rw [HG.out, alloc_eq_grow, grow_grow]; rfl⟩
  exact ⟨by rw [HR.out]; rfl, HF.out⟩
end Go.Proofs.YtkemdiefoohdjabGreat

/-! ### RunE -/
namespace Go.Proofs.YtkemdiefoohdjabGreat
set_option linter.unusedVariables false
set_option linter.unusedSimpArgs false
open Go.RowKit Go.Sort Go.Proofs

theorem encTr_len (r : Tr) : (encTr r).length = 3 := rfl
theorem flatT_get : ∀ (L : List Tr) (t : Nat), t < L.length * 3 → (flatT L)[t]? = (encTr (L[t / 3]!))[t % 3]? := by
  intro L
  induction L with
  | nil => intro t ht; simp at ht
  | cons a L ih =>
    intro t ht
    unfold flatT at *
    rw [List.flatMap_cons]
    by_cases h : t < 3
    · rw [List.getElem?_append_left (by rw [encTr_len]; exact h), Nat.div_eq_of_lt h, Nat.mod_eq_of_lt h]
      rfl
    · obtain ⟨s, rfl⟩ : ∃ s, t = s + 3 := ⟨t - 3, by omega⟩
      rw [List.length_cons] at ht
      rw [List.getElem?_append_right (by rw [encTr_len]; omega), encTr_len, Nat.add_sub_cancel, ih s (by omega), Nat.add_div_right s (by omega), Nat.add_mod_right]
      rfl
theorem flatK_flatT (d : Array Tr) : flatK encTr 3 d = (flatT d.toList).toArray := by
  apply Array.ext_getElem?
  intro t
  by_cases ht : t < d.size * 3
  · have h1 := flatT_get d.toList t (by simpa using ht)
    have h2 : t % 3 < (encTr d[t / 3]!).length := by rw [encTr_len]; omega
    have hd : t / 3 < d.size := by omega
    have e1 : d.toList[t / 3]! = d[t / 3]! := by
      rw [getElem!_pos d.toList _ (by simpa using hd), getElem!_pos d _ hd]; simp
    have e2 : (flatT d.toList).toArray[t]? = (flatT d.toList)[t]? := by simp
    rw [e2, h1, e1]
    have h3 : t < (flatK encTr 3 d).size := by simpa using ht
    rw [Array.getElem?_eq_getElem h3, List.getElem?_eq_getElem h2]
    refine congrArg some ?_
    have h4 := get_flatK encTr 3 d t ht
    rw [getElem!_pos (flatK encTr 3 d) t h3, getElem!_pos (encTr d[t / 3]!) (t % 3) h2] at h4
    exact h4
  · have e2 : (flatT d.toList).toArray[t]? = (flatT d.toList)[t]? := by simp
    rw [e2, Array.getElem?_eq_none (by simp; omega), List.getElem?_eq_none (by rw [flatT_len]; simp; omega)]
theorem encTr_one (x : Tr) : ∀ v ∈ encTr x, v.oneCell' = true := by
  intro v hv
  simp [encTr] at hv
  rcases hv with rfl | rfl | rfl <;> rfl

theorem cmpT_yes (x y : Tr) : ltOf cmpT x y = true ↔ ltT x y := by
  unfold ltOf
  rw [decide_eq_true_iff]
  exact cmpT_lt x y
theorem cmpT_no (x y : Tr) : ltOf cmpT x y = false ↔ ¬ ltT x y := by
  unfold ltOf
  rw [decide_eq_false_iff_not]
  exact not_congr (cmpT_lt x y)
theorem swoT : SWO (ltOf cmpT) where
  irrefl x := (cmpT_no x x).2 (ltT_irrefl x)
  trans x y z h1 h2 := (cmpT_yes x z).2 (ltT_trans ((cmpT_yes x y).1 h1) ((cmpT_yes y z).1 h2))
  ntrans x y z h1 h2 := by
    have k1 := (cmpT_no x y).1 h1
    have k2 := (cmpT_no y z).1 h2
    refine (cmpT_no x z).2 ?_
    unfold ltT at *
    omega

theorem heap_putV {w : World} {g n : Nat} {os : Array Obj} {cur : Array Value} {e : TypeId} {fr : Nat × Nat} (d : Array Value) (hb : w.heap[g]? = some (.cells cur e fr)) :
    (grow (putRow id (Sort.ahead w n) g 0 d) os).heap[g]? = some (.cells (putCells id 0 d cur) e fr) := by
  have hg : g < w.heap.size := (Array.getElem?_eq_some_iff.1 hb).1
  rw [heap_grow_old _ _ (by simpa using hg)]
  simp [putRow, mapBlock, Sort.ahead, Array.getElem?_modify, hb, onCells]
theorem grownBy_putV {w : World} {g n : Nat} {os : Array Obj} (d : Array Value) : w.grownBy (grow (putRow id (Sort.ahead w n) g 0 d) os) (some g) := by
  refine ⟨rfl, rfl, rfl, by simp, fun k hk hne => ?_⟩
  rw [heap_grow_old _ _ (by simpa using hk)]
  have : g ≠ k := fun e => hne (by rw [e])
  simp [putRow, mapBlock, Sort.ahead, Array.getElem?_modify, this]
theorem take_putV (cur : Array Value) (ts : List Value) (h : ts.length ≤ cur.size) : (putCells id 0 ts.toArray cur).toList.take ts.length = ts := by
  apply List.ext_getElem?
  intro j
  by_cases hj : j < ts.length
  · rw [List.getElem?_take_of_lt hj, Array.getElem?_toList]
    simp [putCells, hj, show j < cur.size by omega]
  · rw [List.getElem?_take_eq_none (by omega), List.getElem?_eq_none (by omega)]
theorem holds_of_vals {w : World} {g : Nat} {cur : Array Value} {e : TypeId} {L : List Value} (hb : w.heap[g]? = some (.cells cur e (0, 0))) (ht : cur.toList.take L.length = L) : Holds id w g 0 L.toArray := by
  intro j hj
  have hj' : j < L.length := by simpa using hj
  refine ⟨?_, by simp [World.frozen?, hb]⟩
  have h1 : (cur.toList.take L.length)[j]? = L[j]? := by rw [ht]
  rw [List.getElem?_take_of_lt hj'] at h1
  simp only [World.cell?, hb, Nat.zero_add]
  simp only [Option.isSome_none, Bool.false_eq_true, if_false]
  rw [← Array.getElem?_toList, h1]
  simp [hj']

theorem compare_lays (blk off size : Nat) (w : World) : CmpLays Tryz.prog 30 #[] encTr 3 cmpT blk off size w :=
  fun _ _ _ _ x y => compareRuns_any x y _

end Go.Proofs.YtkemdiefoohdjabGreat

/-! ### RunF -/
namespace Go.Proofs.YtkemdiefoohdjabGreat
set_option linter.unusedVariables false
set_option linter.unusedSimpArgs false
open Go.RowKit Go.Sort Go.Proofs

theorem sortT (B : Nat) (v : Value) (L : List Tr) (w : World) (h : OwnT w B v L) (hl : L.length ≤ 100000) :
    Calls Tryz.prog 29 #[v, .func (.func 30) #[] #[]] w fun e w' => e = .returned (.tuple #[]) ∧ (∃ L', L'.Perm L ∧ L'.Pairwise (fun a b => ¬ ltT b a) ∧ OwnT w' B v L') ∧ w.grownBy w' v.ownBlock := by
  by_cases h0 : L = []
  · subst h0
    obtain ⟨a1, c1, rfl⟩ : ∃ a c, v = .slice a 0 c := by
      rcases h.2 with ⟨rfl, e0⟩ | ⟨g, cap, cur, rfl, h'⟩
      · exact ⟨_, _, rfl⟩
      · exact ⟨_, _, rfl⟩
    refine Calls.mono (AnyF.slices_SortFunc_none Tryz.sortRuns a1 c1 _ w) ?_
    rintro e w' ⟨rfl, rfl⟩
    exact ⟨rfl, ⟨[], List.Perm.refl _, List.Pairwise.nil, h⟩, grown_refl _ _⟩
  · have hn : 0 < L.length := List.length_pos_iff.2 h0
    rcases h.2 with ⟨rfl, e0⟩ | ⟨g, cap, cur, rfl, hbase, hb, h1, h2, h3, h4⟩
    · omega
    have hlt := flatT_len L
    have h4' : cur.toList.take (flatT L).length = flatT L := by rw [hlt]; exact h4
    have hH : HoldsK encTr 3 w g 0 L.toArray := by
      unfold HoldsK
      rw [flatK_flatT]
      exact holds_of_vals hb h4'
    have eg : ∀ args w, (callFunc 30 args).run Tryz.prog w = .ok (.enter 30 args) w := enters_of Tryz.func30 (by kernel_rfl) rfl
    have hcon := AnyQ.slices_SortFunc Tryz.sortRuns 3 Tryz.isAgg46 Tryz.sizeOf46 encTr encTr_len encTr_one cmpT swoT 30 #[] g 0 cap L.toArray w eg (compare_lays g 0 _ w) hH (Array.getElem?_eq_some_iff.1 hb).1 (by simp; omega)
    refine Calls.mono hcon ?_
    rintro e w' ⟨rfl, d', n, os, hp, hs, rfl⟩
    have hps := hp.1
    have hpp := hp.2.2
    have e0 : L.toArray.size = L.length := by simp
    have e1 : d'.size = L.length := by rw [hps]; simp
    refine ⟨rfl, ⟨d'.toList, ?_, ?_, ?_⟩, ?_⟩
    · rw [e0] at hpp
      rw [show d'.extract 0 L.length = d' from by rw [← e1]; exact Array.extract_size, show L.toArray.extract 0 L.length = L.toArray from by rw [← e0]; exact Array.extract_size] at hpp
      simpa using hpp
    · rw [List.pairwise_iff_getElem]
      intro i j hi hj hij
      have hi' : i < d'.size := by simpa using hi
      have hj' : j < d'.size := by simpa using hj
      have := hs i j (Nat.zero_le _) hij (by rw [e0]; omega)
      rw [getElem!_pos d' j hj', getElem!_pos d' i hi'] at this
      have k := (cmpT_no _ _).1 this
      simpa using k
    · have hl' : (flatT d'.toList).length = L.length * 3 := by rw [flatT_len]; simp [e1]
      have hw : sortWorldK encTr 3 w g 0 n d' os = grow (putRow id (Sort.ahead w n) g 0 (flatT d'.toList).toArray) os := by
        unfold sortWorldK putRowK
        rw [flatK_flatT]
      rw [hw]
      unfold OwnT
      have e2 : d'.toList.length = L.length := by simp [e1]
      rw [e2]
      refine ⟨hl', .inr ⟨g, cap, _, rfl, hbase, heap_putV _ hb, h1, h2, by simp [putCells, h3], ?_⟩⟩
      have hk := take_putV cur (flatT d'.toList) (by rw [hl', ← hlt]; have := congrArg List.length h4'; simp at this; omega)
      rw [hl'] at hk
      exact hk
    · have hw : sortWorldK encTr 3 w g 0 n d' os = grow (putRow id (Sort.ahead w n) g 0 (flatT d'.toList).toArray) os := by
        unfold sortWorldK putRowK
        rw [flatK_flatT]
      rw [hw]
      exact grownBy_putV _

end Go.Proofs.YtkemdiefoohdjabGreat

/-! ### RunG -/
namespace Go.Proofs.YtkemdiefoohdjabGreat
set_option linter.unusedVariables false
set_option linter.unusedSimpArgs false
open Go.RowKit Go.Sort Go.Proofs

theorem encTr_cells (L : List Tr) : ∀ u ∈ flatT L, u.oneCell' = true := by
  intro u hu
  obtain ⟨r, _, h⟩ := List.mem_flatMap.1 hu
  exact encTr_one r u h
theorem ownT_cells {w : World} {B g n cap : Nat} {L : List Tr} (h : OwnT w B (.slice (some ⟨g, 0, none⟩) n cap) L) : ∀ j u, (flatT L)[j]? = some u → w.cell? ((⟨g, 0, none⟩ : Addr).add j) = some u := by
  intro j u hu
  have hn : n = L.length := by
    rcases h.2 with ⟨h', _⟩ | ⟨g', cap', cur, h', _⟩
    · simp at h'
    · simp at h'; exact h'.2.1
  subst hn
  have hj : j < L.length * 3 := by
    have := (List.getElem?_eq_some_iff.1 hu).1
    rw [flatT_len] at this
    exact this
  have e : ((⟨g, 0, none⟩ : Addr).add j) = ⟨g, j, none⟩ := by simp [Addr.add]; omega
  rw [e, World.ownsRow.cellAt h j hj]
  exact hu
theorem ownT_join {w : World} {B : Nat} {v : Value} {L M : List Tr} (h : w.ownsRow B 46 3 v (L.length + M.length) (flatT L ++ flatT M)) : OwnT w B v (L ++ M) := by
  unfold OwnT
  rw [List.length_append, flatT_app]
  exact h

set_option maxRecDepth 100000 in
set_option maxHeartbeats 4000000 in
theorem impl_RunsOf (x : ByteArray) (w : World) (sx : x.size ≤ maxLen) :
    Calls Tryz.prog 6 #[.string x] w fun e w' => ∃ v, e = .returned (.tuple #[v, .int .i64 (runsR x).2]) ∧ OwnT w' w.heap.size v (runsR x).1 ∧ Below w.heap.size w w' := by
  by_cases h : IsW x
  · rw [runsR_ok h]
    have CI := Lib.hid fun W => isWord_yes x W h
    have hx := h.size
    have CR := Lib.hid fun q W (hq : 0 < q) (h2 : 2 * q ≤ x.size) => runsWithPeriod_any x q W hx hq h2
    have HITL := Lib.hid (iTo_len x)
    have HIRL := Lib.hid (irow_len x)
    have HIS := Lib.hid (iTo_succ x)
    have HSO : Hid (∀ l : List Tr, l.Perm (iTo x (x.size / 2)) → l.Pairwise (fun a b => ¬ ltT b a) → l = mR x) := Lib.hid fun l h1 h2 => runs_sorted h1 h2
    obtain ⟨i0, hi, hz0, hz1, hz2⟩ := info_parts infoT
    have HNIL := fun (W : World) (v : Value) (n : Nat) (xs : List Value) (own : W.ownsRow w.heap.size 46 3 v n xs) => run_append_owned_none (P := Tryz.prog) (w := W) w.heap.size 25 25 46 i0 3 Tryz.underlying25 hi v n xs own
    have HNI := Lib.hid HNIL
    clear h HNIL
    go_enter Tryz.func6, Tryz.ntmps6
    go_wp2_with fail
    refine (CI.out _).mono ?_
    rintro e w1 ⟨rfl, b1⟩
    go_wp2_with fail
    obtain ⟨H, hH⟩ : ∃ H, x.size / 2 = H := ⟨_, rfl⟩
    have hH1 : 2 * H ≤ x.size := by omega
    have hH2 : x.size < 2 * H + 2 := by omega
    rw [hH] at HSO
    clear hH
    go_loopg [4, 5] H (fun gk v s wr => ∃ k : Nat, k + gk = H ∧ s = .int .i64 ((k + 1 : Nat) : Int) ∧ OwnT wr w.heap.size v (iTo x k) ∧ Below w.heap.size w wr)
    case atStart => exact ⟨0, by omega, rfl, OwnT.nil _ _, b1⟩
    case round =>
      obtain ⟨k, hkg, rfl, own, hB⟩ := hrel
      have hbz := hB.size
      have w1 : IntKind.i64.wrap (2 * ((k + 1 : Nat) : Int)) = 2 * ((k + 1 : Nat) : Int) := IntWalk.i64_in _ (by omega)
      by_cases hp : k < H
      · obtain ⟨g1, rfl⟩ : ∃ j, gk = j + 1 := ⟨gk - 1, by omega⟩
        have hci : 2 * ((k + 1 : Nat) : Int) ≤ (x.size : Int) := by omega
        have CK := Lib.hid fun W => CR.out (k + 1) W (by omega) (by omega)
        have HE := Lib.hid (HIS.out k)
        have hl1 := HITL.out k
        have hl2 := HIRL.out (k + 1) (x.size + 1 - 2 * (k + 1))
        have hl3 : (x.size + 1) * k ≤ 61 * 60 := Nat.mul_le_mul (by omega) (by omega)
        have OWN := Lib.hid own
        have HB := Lib.hid hB
        clear own hB
        generalize irow x (k + 1) (x.size + 1 - 2 * (k + 1)) = M at *
        generalize iTo x k = L at *
        go_wp2_with fail
        refine (CK.out _).mono ?_
        rintro e w2 ⟨v2, rfl, o2, q2⟩
        have own := OWN.out.below q2
        have hB2 := HB.out.then q2
        have hbz2 := hB2.size
        rcases o2.2 with ⟨rfl, e0⟩ | ⟨g, cap, cur, rfl, hbase, hb, h1, h2, h3, h4⟩
        · have hM : M = [] := List.eq_nil_of_length_eq_zero e0
          have HE2 : Hid (iTo x (k + 1) = L) := Lib.hid (by rw [HE.out, hM, List.append_nil])
          have HO := Lib.hid own
          have HB2 := Lib.hid hB2
          rcases own.2 with ⟨rfl, e1⟩ | ⟨g0, cap0, cur0, rfl, hbase0, hb0, k1, k2, k3, k4⟩
          · clear own hB2 o2 e0 e1 hM q2
            go_wp2_with fail
            go_roundg g1
            case measure => omega
            case rel => exact ⟨k + 1, by omega, by go_num, by rw [HE2.out]; exact HO.out, HB2.out⟩
          · have k1i : (L.length : Int) ≤ (cap0 : Int) := by omega
            clear own hB2 o2 e0 hM q2 hb0 k3 k4
            go_wp2_with fail
            go_roundg g1
            case measure => omega
            case rel => exact ⟨k + 1, by omega, by go_num, by rw [HE2.out]; exact HO.out, HB2.out⟩
        · have HC := Lib.hid (ownT_cells o2)
          have hfl := flatT_len M
          go_wp2_with (at_builtin; go_loud (refine wpList_append_own _ rfl _ _ 25 rfl w.heap.size 46 i0 (.agg #[.int .i64 0, .int .i64 0, .int .i64 0]) 3 24 Tryz.underlying25 hi hz0 hz1 hz2 rfl (by decide) _ _ _ rfl own ⟨g, 0, none⟩ M.length cap (flatT M) rfl hfl HC.out (encTr_cells M) (by unfold maxLen; omega) (by omega) (by omega) ?_); intro v' w5 hown' hgrow _)
          have HO := Lib.hid (ownT_join hown')
          rw [← HE.out] at HO
          have hB4 : Below w.heap.size w w5 := hB2.grown hgrow (by omega) (fun z hz => (own.lt z hz).1)
          clear own hown' o2 hb h4
          go_wp2_with fail
          go_roundg g1
          case measure => omega
          case rel => exact ⟨k + 1, by omega, by go_num, HO.out, hB4⟩
      · obtain rfl : gk = 0 := by omega
        obtain rfl : k = H := by omega
        have hci : ¬ 2 * ((k + 1 : Nat) : Int) ≤ (x.size : Int) := by omega
        have hl1 := HITL.out k
        have hl3 : (x.size + 1) * k ≤ 61 * 60 := Nat.mul_le_mul (by omega) (by omega)
        have CS := Lib.hid (sortT w.heap.size _ _ wr own (by omega))
        have HB := Lib.hid hB
        have OWN := Lib.hid own
        clear own hB
        go_wp2_with fail
        refine CS.out.mono ?_
        rintro e w2 ⟨rfl, ⟨L', hp1, hp2, own2⟩, hg2⟩
        have HL := Lib.hid (HSO.out L' hp1 hp2)
        have hB4 : Below w.heap.size w w2 := HB.out.grown hg2 (by omega) (fun z hz => (OWN.out.lt z hz).1)
        clear hp1 hp2 hg2
        go_wp2_with fail
        go_ret2
        exact ⟨_, rfl, by rw [← HL.out]; exact own2, hB4⟩
  · rw [runsR_bad h]
    have CI := Lib.hid fun W => isWord_not x W sx h
    clear h
    go_enter Tryz.func6, Tryz.ntmps6
    go_wp2_with fail
    refine (CI.out _).mono ?_
    rintro e w1 ⟨rfl, b1⟩
    go_wp2_with fail
    go_ret2
    exact ⟨_, rfl, OwnT.nil _ _, b1⟩

end Go.Proofs.YtkemdiefoohdjabGreat

/-! ### RunL -/
namespace Go.Proofs.YtkemdiefoohdjabGreat
set_option linter.unusedVariables false
set_option linter.unusedSimpArgs false
open Go.RowKit

theorem OwnT.lt {w : World} {B : Nat} {v : Value} {L : List Tr} (h : OwnT w B v L) : ∀ k, v.ownBlock = some k → B ≤ k ∧ k < w.heap.size := World.ownsRow.lt h
theorem OwnT.empty {w : World} {B : Nat} {v : Value} (h : OwnT w B v []) : ∃ a c, v = .slice a 0 c := by
  rcases h.2 with ⟨rfl, e0⟩ | ⟨g, cap, cur, rfl, h'⟩
  · exact ⟨_, _, rfl⟩
  · exact ⟨_, _, rfl⟩
theorem flatT_cell (L : List Tr) : ∀ (j : Nat) (hj : j < L.length), (flatT L)[j * 3]? = some (.int .i64 ((L[j]'hj).1 : Int)) ∧ (flatT L)[j * 3 + 1]? = some (.int .i64 ((L[j]'hj).2.1 : Int)) ∧ (flatT L)[j * 3 + 2]? = some (.int .i64 ((L[j]'hj).2.2 : Int)) := by
  induction L with
  | nil => intro j hj; simp at hj
  | cons a L ih =>
    intro j hj
    cases j with
    | zero => exact ⟨rfl, rfl, rfl⟩
    | succ j =>
      have := ih j (by simpa using hj)
      rw [Nat.succ_mul]
      exact this
theorem OwnT.row {w : World} {B : Nat} {v : Value} {L : List Tr} (h : OwnT w B v L) (hn : 0 < L.length) :
    ∃ g cap, v = .slice (some ⟨g, 0, none⟩) L.length cap ∧ B ≤ g ∧ g < w.heap.size ∧ L.length ≤ cap ∧ L.length ≤ maxLen ∧ (∀ j (hj : j < L.length), w.cell? ⟨g, j * 3, none⟩ = some (.int .i64 ((L[j]'hj).1 : Int)) ∧ w.cell? ⟨g, j * 3 + 1, none⟩ = some (.int .i64 ((L[j]'hj).2.1 : Int)) ∧ w.cell? ⟨g, j * 3 + 2, none⟩ = some (.int .i64 ((L[j]'hj).2.2 : Int))) := by
  rcases h.2 with ⟨rfl, e0⟩ | ⟨g, cap, cur, rfl, hbase, hb, h1, h2, h3, h4⟩
  · omega
  · refine ⟨g, cap, rfl, hbase, (Array.getElem?_eq_some_iff.1 hb).1, h1, by omega, fun j hj => ?_⟩
    obtain ⟨c0, c1, c2⟩ := flatT_cell L j hj
    exact ⟨(World.ownsRow.cellAt h (j * 3) (by omega)).trans c0, (World.ownsRow.cellAt h (j * 3 + 1) (by omega)).trans c1, (World.ownsRow.cellAt h (j * 3 + 2) (by omega)).trans c2⟩

/-- The numbers from m on, three a run. -/
def marksT (m : Nat) (n : Nat) : List Tr := (List.range n).map fun (j : Nat) => (m + 3 * j, m + 3 * j + 1, m + 3 * j + 2)
theorem marksT_len (m : Nat) (n : Nat) : (marksT m n).length = n := by simp [marksT]
theorem marksT_get (m : Nat) (n j : Nat) (h : j < (marksT m n).length) : (marksT m n)[j]'h = (m + 3 * j, m + 3 * j + 1, m + 3 * j + 2) := by simp [marksT]
theorem marksT_succ (m : Nat) (n : Nat) : marksT m (n + 1) = marksT m n ++ [(m + 3 * n, m + 3 * n + 1, m + 3 * n + 2)] := by simp [marksT, List.range_succ]
theorem flatT_set (A R : List Tr) (r : Tr) (n x y z : Nat) (hn : n = A.length) :
    (((flatT (A ++ r :: R)).set (n * 3) (.int .i64 (x : Int))).set (n * 3 + 1) (.int .i64 (y : Int))).set (n * 3 + 2) (.int .i64 (z : Int)) = flatT (A ++ (x, y, z) :: R) := by
  have hl : (flatT A).length = n * 3 := by rw [flatT_len, hn]
  rw [flatT_app, flatT_app]
  rw [List.set_append_right _ _ (by omega), List.set_append_right _ _ (by omega), List.set_append_right _ _ (by omega), hl, Nat.sub_self, Nat.add_sub_cancel_left, Nat.add_sub_cancel_left]
  rfl
theorem marksT_step (m : Nat) (L : List Tr) (k : Nat) (h : k < L.length) :
    (((flatT (marksT m k ++ L.drop k)).set (k * 3) (.int .i64 ((m + 3 * k : Nat) : Int))).set (k * 3 + 1) (.int .i64 ((m + 3 * k + 1 : Nat) : Int))).set (k * 3 + 2) (.int .i64 ((m + 3 * k + 2 : Nat) : Int)) = flatT (marksT m (k + 1) ++ L.drop (k + 1)) := by
  rw [List.drop_eq_getElem_cons h, flatT_set _ _ _ _ _ _ _ (by rw [marksT_len]), marksT_succ, List.append_assoc]
  rfl

/-- Another slice, in an older block, is kept while one is marked. -/
theorem OwnT.kept {w w' : World} {B B' : Nat} {v u : Value} {L M : List Tr} (h : OwnT w B v L) (hu : OwnT w B' u M) (hlt : ∀ k, v.ownBlock = some k → k < B') (hg : w.grownBy w' u.ownBlock) : OwnT w' B v L := by
  refine World.ownsRow.kept h hg ?_
  cases hv : v.ownBlock with
  | none => exact .inl rfl
  | some k =>
    refine .inr fun e => ?_
    have h1 := hlt k hv
    have h2 := (World.ownsRow.lt hu k e.symm).1
    omega
/-- Behind a marking, older blocks stand. -/
theorem below_markedT {W w w' : World} {B : Nat} {v : Value} {L : List Tr} (b : Below W.heap.size W w) (h : OwnT w B v L) (hB : W.heap.size ≤ B) (hg : w.grownBy w' v.ownBlock) : Below W.heap.size W w' :=
  b.grown hg b.size fun k e => Nat.le_trans hB (h.lt k e).1
theorem runsR_len (x : ByteArray) : (runsR x).1.length ≤ 4000 := by
  by_cases h : IsW x
  · rw [runsR_ok h]
    have hx := h.size
    have h1 := mTo_len x x.size
    have h2 : x.size * x.size ≤ 60 * 60 := Nat.mul_le_mul hx hx
    have e : mTo x x.size = mR x := rfl
    rw [e] at h1
    show (mR x).length ≤ 4000
    omega
  · rw [runsR_bad h]
    exact Nat.zero_le _

end Go.Proofs.YtkemdiefoohdjabGreat

/-! ### Runs5 -/
namespace Go.Proofs.YtkemdiefoohdjabGreat
set_option linter.unusedVariables false
set_option linter.unusedSimpArgs false
open Go.RowKit

theorem ne3_run (a b : Tr) (W : World) : (binOp .neq 46 (trV a) (trV b)).run Tryz.prog W = .ok (.bool (!decide (a = b))) W := by
  have h := eq3_run a b W
  rw [run_eql_struct] at h
  rw [run_neq_struct]
  generalize (Op.equalIn 10000 46 (.agg #[.int .i64 (a.1 : Int), .int .i64 (a.2.1 : Int), .int .i64 (a.2.2 : Int)]) (.agg #[.int .i64 (b.1 : Int), .int .i64 (b.2.1 : Int), .int .i64 (b.2.2 : Int)])).run Tryz.prog W = X at h ⊢
  cases X with
  | ok v w' =>
    simp only [Result.andThen_ok] at h ⊢
    injection h with h1 h2
    injection h1 with h1
    rw [h1, h2]
  | _ => simp [Result.andThen] at h

set_option maxRecDepth 100000 in
set_option maxHeartbeats 1000000 in
theorem runs5_yes (B1 B2 : Nat) (v1 v2 : Value) (L : List Tr) (w : World) (h1 : OwnT w B1 v1 L) (h2 : OwnT w B2 v2 L) :
    Calls Tryz.prog 14 #[v1, v2] w fun e w' => e = .returned (.bool true) ∧ Below w.heap.size w w' := by
  by_cases h0 : L = []
  · subst h0
    obtain ⟨a1, c1, rfl⟩ := h1.empty
    obtain ⟨a2, c2, rfl⟩ := h2.empty
    clear h1 h2
    go_enter Tryz.func14, Tryz.ntmps14
    go_wp2
    refine wp_loop_rounds 1 ?_
    rw [rounds_succ]
    go_wp2
    go_ret
    exact ⟨rfl, Below.refl _ _⟩
  · have hn : 0 < L.length := List.length_pos_iff.2 h0
    obtain ⟨g1, c1, rfl, _, hg1, hc1, hm, cell1⟩ := h1.row hn
    obtain ⟨g2, c2, rfl, _, hg2, hc2, _, cell2⟩ := h2.row hn
    unfold maxLen at hm
    have C1 := Lib.hid cell1
    have C2 := Lib.hid cell2
    have hmo : Tryz.prog.follows .mixedOrders = true := by kernel_rfl
    clear h1 h2 cell1 cell2 h0
    go_enter Tryz.func14, Tryz.ntmps14
    go_wp2
    go_loopw [5] (fun i wr => ∃ k : Nat, k ≤ L.length ∧ i = .int .i64 k ∧ Below w.heap.size w wr) (fun i _ => L.length - (intOf i).toNat)
    case atStart => exact ⟨0, Nat.zero_le _, rfl, Below.refl _ _⟩
    case round =>
      obtain ⟨k, hk, rfl, hB⟩ := hrel
      by_cases hp : k < L.length
      · obtain ⟨p0, p1, p2⟩ := C1.out k hp
        obtain ⟨q0, q1, q2⟩ := C2.out k hp
        have k0 : wr.cell? ⟨g1, k * 3, none⟩ = some (.int .i64 ((L[k]'hp).1 : Int)) := by rw [(bcell hB).1 g1 _ hg1]; exact p0
        have k1 : wr.cell? ⟨g1, k * 3 + 1, none⟩ = some (.int .i64 ((L[k]'hp).2.1 : Int)) := by rw [(bcell hB).1 g1 _ hg1]; exact p1
        have k2 : wr.cell? ⟨g1, k * 3 + 2, none⟩ = some (.int .i64 ((L[k]'hp).2.2 : Int)) := by rw [(bcell hB).1 g1 _ hg1]; exact p2
        have m0 : wr.cell? ⟨g2, k * 3, none⟩ = some (.int .i64 ((L[k]'hp).1 : Int)) := by rw [(bcell hB).1 g2 _ hg2]; exact q0
        have m1 : wr.cell? ⟨g2, k * 3 + 1, none⟩ = some (.int .i64 ((L[k]'hp).2.1 : Int)) := by rw [(bcell hB).1 g2 _ hg2]; exact q1
        have m2 : wr.cell? ⟨g2, k * 3 + 2, none⟩ = some (.int .i64 ((L[k]'hp).2.2 : Int)) := by rw [(bcell hB).1 g2 _ hg2]; exact q2
        have hpc1 : k < c1 := by omega
        have hpc2 : k < c2 := by omega
        clear p0 p1 p2 q0 q1 q2
        generalize (L[k]'hp).1 = z0 at *
        generalize (L[k]'hp).2.1 = z1 at *
        generalize (L[k]'hp).2.2 = z2 at *
        have hne := fun W => ne3_run (z0, z1, z2) (z0, z1, z2) W
        have hne2 : ∀ W, (binOp .neq 46 (.agg #[.int .i64 (z0 : Int), .int .i64 (z1 : Int), .int .i64 (z2 : Int)]) (.agg #[.int .i64 (z0 : Int), .int .i64 (z1 : Int), .int .i64 (z2 : Int)])).run Tryz.prog W = .ok (.bool false) W := by
          intro W
          have := hne W
          rw [decide_eq_true rfl] at this
          exact this
        clear hne
        go_wp2
        go_quiet (fail)
        go_wp2
        go_roundw
        case rel => exact ⟨k + 1, by omega, by go_num, hB.drewN _⟩
        case measure => simp [intOf]; omega
      · go_wp2
        go_ret
        exact ⟨rfl, hB⟩

end Go.Proofs.YtkemdiefoohdjabGreat

/-! ### Rows5 -/
namespace Go.Proofs.YtkemdiefoohdjabGreat
set_option linter.unusedVariables false
set_option linter.unusedSimpArgs false
open Go.RowKit

set_option maxRecDepth 100000 in
theorem likeInts_q (B1 B2 : Nat) (v1 v2 : Value) (L : List Int) (w : World) (h1 : OwnI w B1 v1 L) (h2 : OwnI w B2 v2 L) :
    Calls Tryz.prog 42 #[v1, v2] w fun e w' => e = .returned (.bool true) ∧ ∃ n, w' = w.drewN n := by
  by_cases h0 : L = []
  · subst h0
    obtain ⟨a1, c1, rfl⟩ := h1.empty
    obtain ⟨a2, c2, rfl⟩ := h2.empty
    clear h1 h2
    go_enter Tryz.func42, Tryz.ntmps42
    go_wp2
    refine wp_loop_rounds 1 ?_
    rw [rounds_succ]
    go_wp2
    go_ret
    exact ⟨rfl, 0, rfl⟩
  · have hn : 0 < L.length := List.length_pos_iff.2 h0
    obtain ⟨g1, c1, rfl, _, hg1, hc1, hm, cell1, _⟩ := h1.row hn
    obtain ⟨g2, c2, rfl, _, hg2, hc2, _, cell2, _⟩ := h2.row hn
    unfold maxLen at hm
    have C1 := Lib.hid cell1
    have C2 := Lib.hid cell2
    clear h1 h2 cell1 cell2 h0
    go_enter Tryz.func42, Tryz.ntmps42
    go_wp2
    go_loopw [5] (fun i wr => ∃ k : Nat, k ≤ L.length ∧ i = .int .i64 k ∧ ∃ m, wr = w.drewN m) (fun i _ => L.length - (intOf i).toNat)
    case atStart => exact ⟨0, Nat.zero_le _, rfl, 0, rfl⟩
    case round =>
      obtain ⟨k, hk, rfl, md, rfl⟩ := hrel
      by_cases hp : k < L.length
      · have k1 : (w.drewN md).cell? ⟨g1, k, none⟩ = some (.int .i64 (L[k]'hp)) := C1.out k hp
        have k2 : (w.drewN md).cell? ⟨g2, k, none⟩ = some (.int .i64 (L[k]'hp)) := C2.out k hp
        have hpc1 : k < c1 := by omega
        have hpc2 : k < c2 := by omega
        generalize L[k]'hp = z at k1 k2
        generalize hW : w.drewN md = W at k1 k2 ⊢
        have HW := Lib.hid hW
        clear hW
        go_wp2
        go_quiet (fail)
        go_wp2
        go_roundw
        case rel => exact ⟨k + 1, by omega, by go_num, md + nq, by rw [← HW.out, World.drewN_drewN]⟩
        case measure => simp [intOf]; omega
      · go_wp2
        go_ret
        exact ⟨rfl, _, rfl⟩

set_option maxRecDepth 100000 in
set_option maxHeartbeats 1000000 in
theorem rows5_yes (B1 B2 : Nat) (v1 v2 : Value) (L : List (List Int)) (w : World) (h1 : OwnR w B1 v1 L) (h2 : OwnR w B2 v2 L) :
    Calls Tryz.prog 15 #[v1, v2] w fun e w' => e = .returned (.bool true) ∧ Below w.heap.size w w' := by
  by_cases h0 : L = []
  · subst h0
    obtain ⟨a1, c1, rfl⟩ := h1.empty
    obtain ⟨a2, c2, rfl⟩ := h2.empty
    clear h1 h2
    go_enter Tryz.func15, Tryz.ntmps15
    go_wp2
    refine wp_loop_rounds 1 ?_
    rw [rounds_succ]
    go_wp2
    go_ret
    exact ⟨rfl, Below.refl _ _⟩
  · have hn : 0 < L.length := List.length_pos_iff.2 h0
    obtain ⟨g1, c1, us1, rfl, _, hg1, hc1, hm, cell1, r1, _⟩ := h1.row hn
    obtain ⟨g2, c2, us2, rfl, _, hg2, hc2, _, cell2, r2, _⟩ := h2.row hn
    unfold maxLen at hm
    have C1 := Lib.hid cell1
    have C2 := Lib.hid cell2
    have R1 := Lib.hid r1
    have R2 := Lib.hid r2
    clear h1 h2 cell1 cell2 h0 r1 r2
    go_enter Tryz.func15, Tryz.ntmps15
    go_wp2
    go_loopw [5] (fun i wr => ∃ k : Nat, k ≤ L.length ∧ i = .int .i64 k ∧ Below w.heap.size w wr) (fun i _ => L.length - (intOf i).toNat)
    case atStart => exact ⟨0, Nat.zero_le _, rfl, Below.refl _ _⟩
    case round =>
      obtain ⟨k, hk, rfl, hB⟩ := hrel
      by_cases hp : k < L.length
      · have k1 : wr.cell? ⟨g1, k, none⟩ = some (us1.getD k undef) := by rw [(bcell hB).1 g1 k hg1]; exact C1.out k hp
        have k2 : wr.cell? ⟨g2, k, none⟩ = some (us2.getD k undef) := by rw [(bcell hB).1 g2 k hg2]; exact C2.out k hp
        have o1 := Lib.hid (((R1.out).below hB).2.1 k (by rw [R1.out.1]; exact hp))
        have o2 := Lib.hid (((R2.out).below hB).2.1 k (by rw [R2.out.1]; exact hp))
        have hpc1 : k < c1 := by omega
        have hpc2 : k < c2 := by omega
        generalize us1.getD k undef = u1 at *
        generalize us2.getD k undef = u2 at *
        go_wp2
        go_quiet ((go_at_call 42; exact Calls.quiet_of (likeInts_q _ _ u1 u2 _ _ (o1.out.below ((Below.refl _ _).drewN _)) (o2.out.below ((Below.refl _ _).drewN _)))))
        go_wp2
        go_roundw
        case rel => exact ⟨k + 1, by omega, by go_num, hB.drewN _⟩
        case measure => simp [intOf]; omega
      · go_wp2
        go_ret
        exact ⟨rfl, hB⟩

end Go.Proofs.YtkemdiefoohdjabGreat
